/-
  A term's copy, as the statements' kit makes it: the same term, in memory of its own.
-/
import Derived.Test.YtnelefokpopfdaaDoorTermOwn
import Derived.Test.YtnelefokpopfdaaDoorTermReads
namespace Go.Proofs.YtnelefokpopfdaaDoor
open Go.RowKit Go.Deep

theorem termInfo : (Tryd.prog.info? 24).map (fun i => (i.zero, i.size, i.bytes)) = some (some (.agg #[.int .i64 0, .int .i64 0, .string ByteArray.empty, .slice none 0 0]), 4, 56) := by kernel_rfl

theorem info_at {P : Program} {e : TypeId} {z : Value} {n b : Nat} (h : (P.info? e).map (fun i => (i.zero, i.size, i.bytes)) = some (some z, n, b)) :
    ∃ i, P.info? e = some i ∧ i.zero = some z ∧ i.size = n ∧ i.bytes = b := by
  obtain ⟨i, hi, he⟩ := Option.map_eq_some_iff.1 h
  simp only [Prod.mk.injEq] at he
  exact ⟨i, hi, he.1, he.2.1, he.2.2⟩

/-- What CopyTerms has come to: a slice of the same terms, in new memory. -/
def MadeL (w : World) (l : List Tm) (e : Ending) (w' : World) : Prop := ∃ sv, e = .returned sv ∧ OwnL w' l w.heap.size w'.heap.size sv
def MadeT (w : World) (T : Tm) (e : Ending) (w' : World) : Prop := ∃ v, e = .returned v ∧ Own w' T w.heap.size w'.heap.size v

theorem cells_new (w : World) (xs : List Value) (t : TypeId) : ∀ j u, xs[j]? = some u → (w.alloc (.cells xs.toArray t)).cell? ((⟨w.heap.size, 0, none⟩ : Addr).add j) = some u := by
  intro j u hu
  have hadd : (⟨w.heap.size, 0, none⟩ : Addr).add j = ⟨w.heap.size, j, none⟩ := by unfold Addr.add; split <;> simp_all
  rw [hadd, new_cell]
  simpa using hu

/-- One part more. -/
theorem kids_step {wr w2 w3 : World} {n0 i : Nat} {l : List Tm} {sv v' v0 v1 v2 v3 : Value} {xs : List Value} {ob : Obj} (hlt : i < l.length) (h0 : n0 ≤ wr.heap.size)
    (hk : Kids wr (l.take i) n0 wr.heap.size sv.ownBlock xs) (hown : wr.ownsRow n0 24 4 sv i xs) (hb2 : Below wr.heap.size wr w2) (hm : Own w2 l[i] wr.heap.size w2.heap.size (.agg #[v0, v1, v2, v3]))
    (hgrow : (w2.alloc ob).grownBy w3 sv.ownBlock) (hat : v'.ownBlock = sv.ownBlock ∨ v'.ownBlock = some (w2.alloc ob).heap.size) : Kids w3 (l.take (i + 1)) n0 w3.heap.size v'.ownBlock (xs ++ [v0, v1, v2, v3]) := by
  have hz := hb2.size
  have hz3 := hgrow.size
  rw [World.size_alloc] at hz3 hat
  have hne : ∀ k, wr.heap.size ≤ k → some k ≠ sv.ownBlock := fun k hk e => by
    have := (hown.lt k e.symm).2
    omega
  have hsame : ∀ k, k < w2.heap.size → some k ≠ sv.ownBlock → w3.heap[k]? = w2.heap[k]? := fun k hk hn =>
    (hgrow.block k (by rw [World.size_alloc]; omega) hn).trans (Below.heap_alloc w2 ob k hk)
  have hv : ∀ g, v'.ownBlock = some g → sv.ownBlock = some g ∨ w2.heap.size ≤ g := fun g hg => by
    rcases hat with h | h
    · exact Or.inl (h ▸ hg)
    · rw [h] at hg
      cases hg
      exact Or.inr (Nat.le_succ _)
  rw [List.take_succ_eq_append_getElem hlt]
  have k1 : Kids w3 (l.take i) n0 wr.heap.size v'.ownBlock xs := Kids.move (Nat.le_refl _) (Nat.le_refl _) (fun k h1 h2 h3 => (hsame k (by omega) h3).trans (hb2.block k h2)) (fun g hg => by
    rcases hv g hg with h | h
    · exact Or.inl h
    · exact Or.inr (Or.inl (by omega))) hk
  have k2 : Own w3 l[i] wr.heap.size w2.heap.size (.agg #[v0, v1, v2, v3]) := Own.move _ _ _ _ _ _ (Nat.le_refl _) (Nat.le_refl _) (fun k h1 h2 => hsame k h2 (hne k h1)) hm
  have k3 := Kids.snoc (b := v'.ownBlock) (d := w2.heap.size) hz (fun g hg h => by
    rcases hv g hg with h' | h'
    · exact hne g h.1 h'.symm
    · omega) k2 h0 k1
  exact Kids.move (Nat.le_refl _) (by omega) (fun _ _ _ _ => rfl) (fun g hg => Or.inl hg) k3

end Go.Proofs.YtnelefokpopfdaaDoor
