/-
  How long a term may be: the statement's walk.
-/
import Derived.Test.YtnbekfpkmebmbaaGreatDoorZTermMore
namespace Go.Proofs.YtnbekfpkmebmbaaGreatDoor
open Go.RowKit Go.Deep

theorem MixP.lst0 {w : World} {nb : Nat} {l : List Tm} (h : MixP w nb l l.length) (hl : l.length ≤ 9223372036854775807) : Lst w (fun b => b = nb ∨ nb < b) l (some ⟨nb, 0, none⟩) l.length := h.lst (fun b hb => by omega) hl

theorem Lies.flat {w : World} {S S' : Nat → Prop} {k n : Int} {s : ByteArray} {v : Value} (h : Lies w S (.mk k n s []) v) : Lies w S' (.mk k n s []) v := by
  obtain ⟨a, cap, rfl, hs, h1, h2, h3⟩ := h.out
  refine Lies.mk hs ⟨h1, h2, ?_⟩
  rcases h3 with h3 | ⟨p, rfl, _, _⟩
  · exact Or.inl h3
  · exact Or.inr ⟨p, rfl, fun h => absurd rfl h, by rw [Row]; trivial⟩

/-- The same four cells again and again. -/
def Rep (xs : List Value) (k : Nat) (c0 c1 c2 c3 : Value) : Prop := ∀ j, j < k → xs[j * 4]? = some c0 ∧ xs[j * 4 + 1]? = some c1 ∧ xs[j * 4 + 2]? = some c2 ∧ xs[j * 4 + 3]? = some c3
theorem Rep.step {xs : List Value} {k : Nat} {c0 c1 c2 c3 : Value} (h : Rep xs k c0 c1 c2 c3) (hx : xs.length = k * 4) : Rep (xs ++ [c0, c1, c2, c3]) (k + 1) c0 c1 c2 c3 := by
  intro j hj
  by_cases hjk : j < k
  · obtain ⟨h0, h1, h2, h3⟩ := h j hjk
    refine ⟨?_, ?_, ?_, ?_⟩
    all_goals rw [List.getElem?_append_left (by omega)]; assumption
  · obtain rfl : j = k := by omega
    refine ⟨?_, ?_, ?_, ?_⟩
    all_goals rw [List.getElem?_append_right (by omega), hx]; simp

theorem sizes_ones (l : List Tm) (h : ∀ t ∈ l, t.size = 1) : sizes l = l.length := by
  induction l with
  | nil => simp [sizes]
  | cons t r ih =>
    rw [sizes, h t (by simp), ih (fun t ht => h t (List.mem_cons_of_mem _ ht)), List.length_cons]
    omega
theorem sizes_replicate (m : Nat) (t : Tm) : sizes (List.replicate m t) = m * t.size := by
  induction m with
  | zero => simp [sizes]
  | succ m ih => rw [List.replicate_succ, sizes, ih, Nat.succ_mul]; omega
theorem conses_size (l : List Tm) (T : Tm) : (conses l T).size = T.size + sizes l + l.length := by
  induction l with
  | nil => simp [conses, sizes]
  | cons t r ih =>
    show (Tm.mk 9 0 ⟨#[]⟩ [t, conses r T]).size = _
    rw [Tm.size_mk, sizes, sizes, sizes, sizes, ih, List.length_cons]
    omega

end Go.Proofs.YtnbekfpkmebmbaaGreatDoor

/-
  The document's items of a list.
-/
namespace Go.Proofs.YtnbekfpkmebmbaaGreatDoor
open Go.RowKit Go.Deep

/-- The first i of l lie in the cells xs, their parts in blocks of S. -/
def Side (w : World) (S : Nat → Prop) (l : List Tm) (i : Nat) (xs : List Value) : Prop :=
  ∀ q (_ : q < i) (h : q < l.length), ∃ v0 v1 v2 v3, xs[q * 4]? = some v0 ∧ xs[q * 4 + 1]? = some v1 ∧ xs[q * 4 + 2]? = some v2 ∧ xs[q * 4 + 3]? = some v3 ∧ Lies w S l[q] (.agg #[v0, v1, v2, v3])
theorem Side.step {w : World} {S : Nat → Prop} {l : List Tm} {i : Nat} {xs : List Value} {v0 v1 v2 v3 : Value} (h : Side w S l i xs) (hx : xs.length = i * 4) (hl : ∀ h : i < l.length, Lies w S l[i] (.agg #[v0, v1, v2, v3])) :
    Side w S l (i + 1) (xs ++ [v0, v1, v2, v3]) := by
  intro q hq hlen
  by_cases he : q = i
  · subst he
    refine ⟨v0, v1, v2, v3, ?_, ?_, ?_, ?_, hl hlen⟩ <;> (rw [List.getElem?_append_right (by omega), hx]; simp)
  · obtain ⟨u0, u1, u2, u3, e0, e1, e2, e3, hL⟩ := h q (by omega) hlen
    refine ⟨u0, u1, u2, u3, ?_, ?_, ?_, ?_, hL⟩ <;> (rw [List.getElem?_append_left (by omega)]; assumption)

end Go.Proofs.YtnbekfpkmebmbaaGreatDoor
