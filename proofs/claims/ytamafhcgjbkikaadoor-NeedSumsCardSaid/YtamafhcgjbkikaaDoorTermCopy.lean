/-
  A term's copy, as the statements' kit makes it: the same term, in memory of its own.
-/
import Derived.Test.YtamafhcgjbkikaaDoorTermOwn
import Derived.Test.YtamafhcgjbkikaaDoorTermReads
namespace Go.Proofs.YtamafhcgjbkikaaDoor
open Go.RowKit Go.Deep

theorem termInfo : (Tryd.prog.info? 24).map (fun i => (i.zero, i.size, i.bytes)) = some (some (.agg #[.int .i64 0, .int .i64 0, .string ByteArray.empty, .slice none 0 0]), 4, 56) := by kernel_rfl

theorem info_at {P : Program} {e : TypeId} {z : Value} {n b : Nat} (h : (P.info? e).map (fun i => (i.zero, i.size, i.bytes)) = some (some z, n, b)) :
    ∃ i, P.info? e = some i ∧ i.zero = some z ∧ i.size = n ∧ i.bytes = b := by
  obtain ⟨i, hi, he⟩ := Option.map_eq_some_iff.1 h
  simp only [Prod.mk.injEq] at he
  exact ⟨i, hi, he.1, he.2.1, he.2.2⟩

/-- What CopyTerms has come to: a slice of the same terms, in new memory. -/
def MadeL (w : World) (l : List Tm) (e : Ending) (w' : World) : Prop := ∃ sv, e = .returned sv ∧ OwnL w' l w.heap.size w'.heap.size sv
def MadeT (w : World) (T : Tm) (e : Ending) (w' : World) : Prop := ∃ v, e = .returned v ∧ Own w' T w.heap.size w'.heap.size v

theorem cells_new (w : World) (xs : List Value) (t : TypeId) : ∀ j u, xs[j]? = some u → (w.alloc (.cells xs.toArray t)).cell? ((⟨w.heap.size, 0, none⟩ : Addr).add j) = some u := by
  intro j u hu
  have hadd : (⟨w.heap.size, 0, none⟩ : Addr).add j = ⟨w.heap.size, j, none⟩ := by unfold Addr.add; split <;> simp_all
  rw [hadd, new_cell]
  simpa using hu

/-- One part more. -/
theorem kids_step {wr w2 w3 : World} {n0 i : Nat} {l : List Tm} {sv v' v0 v1 v2 v3 : Value} {xs : List Value} {ob : Obj} (hlt : i < l.length) (h0 : n0 ≤ wr.heap.size)
    (hk : Kids wr (l.take i) n0 wr.heap.size sv.ownBlock xs) (hown : wr.ownsRow n0 24 4 sv i xs) (hb2 : Below wr.heap.size wr w2) (hm : Own w2 l[i] wr.heap.size w2.heap.size (.agg #[v0, v1, v2, v3]))
    (hgrow : (w2.alloc ob).grownBy w3 sv.ownBlock) (hat : v'.ownBlock = sv.ownBlock ∨ v'.ownBlock = some (w2.alloc ob).heap.size) : Kids w3 (l.take (i + 1)) n0 w3.heap.size v'.ownBlock (xs ++ [v0, v1, v2, v3]) := by
  have hz := hb2.size
  have hz3 := hgrow.size
  rw [World.size_alloc] at hz3 hat
  have hne : ∀ k, wr.heap.size ≤ k → some k ≠ sv.ownBlock := fun k hk e => by
    have := (hown.lt k e.symm).2
    omega
  have hsame : ∀ k, k < w2.heap.size → some k ≠ sv.ownBlock → w3.heap[k]? = w2.heap[k]? := fun k hk hn =>
    (hgrow.block k (by rw [World.size_alloc]; omega) hn).trans (Below.heap_alloc w2 ob k hk)
  have hv : ∀ g, v'.ownBlock = some g → sv.ownBlock = some g ∨ w2.heap.size ≤ g := fun g hg => by
    rcases hat with h | h
    · exact Or.inl (h ▸ hg)
    · rw [h] at hg
      cases hg
      exact Or.inr (Nat.le_succ _)
  rw [List.take_succ_eq_append_getElem hlt]
  have k1 : Kids w3 (l.take i) n0 wr.heap.size v'.ownBlock xs := Kids.move (Nat.le_refl _) (Nat.le_refl _) (fun k h1 h2 h3 => (hsame k (by omega) h3).trans (hb2.block k h2)) (fun g hg => by
    rcases hv g hg with h | h
    · exact Or.inl h
    · exact Or.inr (Or.inl (by omega))) hk
  have k2 : Own w3 l[i] wr.heap.size w2.heap.size (.agg #[v0, v1, v2, v3]) := Own.move _ _ _ _ _ _ (Nat.le_refl _) (Nat.le_refl _) (fun k h1 h2 => hsame k h2 (hne k h1)) hm
  have k3 := Kids.snoc (b := v'.ownBlock) (d := w2.heap.size) hz (fun g hg h => by
    rcases hv g hg with h' | h'
    · exact hne g h.1 h'.symm
    · omega) k2 h0 k1
  exact Kids.move (Nat.le_refl _) (by omega) (fun _ _ _ _ => rfl) (fun g hg => Or.inl hg) k3

set_option maxHeartbeats 400000 in
theorem copyTerms_of (l : List Tm) (hlen : l.length ≤ 1000000) (hT : ∀ t ∈ l, ∀ (S : Nat → Prop) (v : Value) (w : World), Lies w S t v →
      Calls Tryd.prog 8 #[v] w fun e w' => MadeT w t e w' ∧ Below w.heap.size w w')
    (S : Nat → Prop) (a : Option Addr) (cap : Nat) (w : World) (hl : Lst w S l a cap) :
    Calls Tryd.prog 32 #[.slice a l.length cap] w fun e w' => MadeL w l e w' ∧ Below w.heap.size w w' := by
  have ih := Hid.mk hT
  clear hT
  obtain ⟨i0, hi0, hz0, hz1, hby⟩ := info_at termInfo
  go_enter Tryd.func32, Tryd.ntmps32
  go_wp2
  go_loopw [3, 4] (fun sv ii wr => ∃ (i : Nat) (xs : List Value), i ≤ l.length ∧ ii = .int .i64 i ∧ wr.ownsRow w.heap.size 24 4 sv i xs ∧ Hid (Kids wr (l.take i) w.heap.size wr.heap.size sv.ownBlock xs) ∧ Below w.heap.size w wr) (fun _ ii _ => l.length - (intOf ii).toNat)
  case atStart => exact ⟨0, [], Nat.zero_le _, rfl, World.ownsRow_nil _ _ _ _, Hid.mk (by rw [List.take_zero, Kids]), Below.refl _ _⟩
  case round =>
    obtain ⟨i, xs, hi, rfl, hown, hk, hb⟩ := hrel
    have hzr := hb.size
    by_cases hlt : i < l.length
    · obtain ⟨b, o, rfl, _, hr⟩ := (hl.below hb).some (by omega)
      obtain ⟨k', n', s', m', a', cap', hT, c0, c1, c2, c3, hli⟩ := hr.part i hlt
      have hc := Hid.mk (ih.out l[i] (List.getElem_mem hlt) S _ wr hli)
      rw [hT] at hc
      have hTT := Hid.mk hT
      clear hT hli
      go_wp2_with (first
        | (go_at_call 8; refine hc.out.mono ?_; rintro e w2 ⟨⟨v2, rfl, hm⟩, hb2⟩; obtain ⟨sv2, rfl, hsm, hol⟩ := hm.out; obtain ⟨a2, cap2, rfl, _⟩ := hol.lst; have hz2 := hb2.size; have hown2 := ownsRow_same hown (fun g hg => hb2.block g (hown.lt g hg).2))
        | (at_builtin; refine wpList_append_own_at _ rfl _ _ 22 rfl w.heap.size 24 i0 _ 4 56 Tryd.underlying22 hi0 hz0 hz1 hby rfl (by decide) _ _ _ rfl (hown2.alloc _) ⟨w2.heap.size, 0, none⟩ 1 1 [.int .i64 k', .int .i64 n', .string s', .slice a2 m'.length cap2] rfl rfl (cells_new _ _ _) (fun x hx => by simp at hx; rcases hx with rfl | rfl | rfl | rfl <;> rfl) (by unfold maxLen; omega) (by omega) (by simp; omega) ?_; intro v' w3 hown' hgrow hnil hat))
      go_roundw
      case rel =>
        refine ⟨i + 1, _, by omega, by go_num, hown', Hid.mk (kids_step hlt hzr hk.out hown hb2 (by rw [hTT.out]; exact hm) hgrow hat), ?_⟩
        exact (hb.trans ((hb2.mono hzr).trans ((Below.refl _ _).alloc (by omega) _))).grown hgrow (by simp; omega) (fun k hk => (hown.lt k hk).1)
      case measure => simp [intOf]; omega
    · go_wp2
      go_ret
      obtain rfl : i = l.length := by omega
      have hkk := hk.out
      rw [List.take_length] at hkk
      exact ⟨⟨_, rfl, _, hown, fun g hg => (hown.lt g hg).2, hkk⟩, hb⟩

set_option maxHeartbeats 400000 in
theorem copyTerm_any (T : Tm) (hsz : T.size ≤ 1000000) : ∀ (S : Nat → Prop) (v : Value) (w : World), Lies w S T v →
    Calls Tryd.prog 8 #[v] w fun e w' => MadeT w T e w' ∧ Below w.heap.size w w' := by
  induction T using Tm.induct with
  | h k n s l ih =>
    intro S v w hv
    rw [Tm.size_mk] at hsz
    obtain ⟨a, cap, rfl, hs, hl⟩ := hv.out
    have hc := Hid.mk (fun (w1 : World) (hb1 : Below w.heap.size w w1) => copyTerms_of l (by have := length_sizes l; omega) (fun t ht => by
      obtain ⟨i, hi, rfl⟩ := List.getElem_of_mem ht
      exact ih _ ht (by have := sizes_at l i hi; omega)) S a cap w1 (hl.below hb1))
    clear ih hv hl
    go_enter Tryd.func8, Tryd.ntmps8
    go_wp2_with (go_at_call 32; refine (hc.out _ (((Below.refl w.heap.size w).alloc (Nat.le_refl _) _).alloc (by simp) _)).mono ?_; rintro e w2 ⟨⟨sv, rfl, hol⟩, hb2⟩; have hb3 : Below w.heap.size w w2 := (((Below.refl w.heap.size w).alloc (Nat.le_refl _) _).alloc (by simp) _).trans (hb2.mono (by simp; omega)); obtain ⟨a2, cap2, rfl, _⟩ := hol.lst; obtain ⟨⟨g0, g1, g2, g3⟩, f0, f1, f2, f3⟩ := kept4 (new_block1 w _ _) hb2; obtain ⟨⟨g4, g5, g6, g7⟩, f4, f5, f6, f7⟩ := kept4 (new_block2 w _ _) hb2; have hz2 := hb2.size)
    have hx : ∀ j, (w2.setCell ⟨w.heap.size, 3, none⟩ (.slice a2 l.length cap2)).cell? ⟨w.heap.size + 1, j, none⟩ = w2.cell? ⟨w.heap.size + 1, j, none⟩ := fun j => World.cell?_setCell_other _ _ _ _ (by simp)
    refine ret_stored rfl rfl rfl ((hx 0).trans g4) ((hx 1).trans g5) ((hx 2).trans g6) ((hx 3).trans g7) ⟨⟨_, rfl, Own.mk hs ?_⟩, Below.set4 (hb3.setCell (p := ⟨w.heap.size, 3, none⟩) (Nat.le_refl _) _) (Nat.le_succ _)⟩
    rw [World.size_alloc, World.size_alloc] at hol
    refine hol.move (by omega) (by rw [set4_size, size_setCell']; exact Nat.le_refl _) (fun k h1 h2 => ?_)
    rw [set4_heap _ _ _ _ _ _ _ (by omega), Below.heap_setCell _ _ _ _ (by show k ≠ w.heap.size; omega)]

end Go.Proofs.YtamafhcgjbkikaaDoor
