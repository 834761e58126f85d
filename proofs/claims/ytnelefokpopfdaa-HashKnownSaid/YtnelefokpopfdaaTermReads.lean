/-
  What the functions that only look at a term come to.
-/
import Derived.Test.YtnelefokpopfdaaTermBase
namespace Go.Proofs.Ytnelefokpopfdaa
open Go.RowKit Go.Deep

mutual
/-- How many parts a term has, itself too. -/
def Tm.size : Tm → Nat
  | .mk _ _ _ l => 1 + sizes l
def sizes : List Tm → Nat
  | [] => 0
  | t :: r => t.size + sizes r
end

theorem Tm.size_mk (k n : Int) (s : ByteArray) (l : List Tm) : (Tm.mk k n s l).size = 1 + sizes l := by rw [Tm.size]
theorem Tm.size_pos (T : Tm) : 1 ≤ T.size := by
  cases T
  rw [Tm.size_mk]
  omega
theorem sizes_take (l : List Tm) (i : Nat) (hi : i < l.length) : sizes (l.take (i + 1)) = sizes (l.take i) + l[i].size := by
  induction l generalizing i with
  | nil => cases hi
  | cons t r ih =>
    cases i with
    | zero => simp [sizes]
    | succ i =>
      have := ih i (by simpa using hi)
      simp only [List.take_succ_cons, sizes, List.getElem_cons_succ]
      omega
theorem sizes_le (l : List Tm) (i : Nat) : sizes (l.take i) ≤ sizes l := by
  induction l generalizing i with
  | nil => simp [sizes]
  | cons t r ih =>
    cases i with
    | zero => simp [sizes]
    | succ i =>
      have := ih i
      simp only [List.take_succ_cons, sizes]
      omega

theorem sizes_at (l : List Tm) (i : Nat) (hi : i < l.length) : l[i].size ≤ sizes l := by
  have h1 := sizes_take l i hi
  have h2 := sizes_le l (i + 1)
  omega
theorem length_sizes (l : List Tm) : l.length ≤ sizes l := by
  induction l with
  | nil => simp
  | cons t r ih =>
    have := t.size_pos
    simp only [List.length_cons, sizes]
    omega

/-- The count as it is gone on with: no further than most. -/
def cnt (N : Nat) (m : Int) : Int := min (N : Int) (max 1 (m + 1))

theorem cnt_step {N M : Nat} {m : Int} (h1 : 1 ≤ N) (h : cnt N m ≤ m) : cnt N m + cnt M (m - cnt N m) = cnt (N + M) m := by
  unfold cnt at *
  omega
theorem cnt_more {N M : Nat} {m : Int} (h1 : 1 ≤ N) (hM : N ≤ M) (h : m < cnt N m) : cnt N m = cnt M m := by
  unfold cnt at *
  omega
theorem cnt_lo {N : Nat} {m : Int} (h1 : 1 ≤ N) : 1 ≤ cnt N m := by
  unfold cnt
  omega
theorem cnt_hi {N : Nat} {m : Int} : cnt N m ≤ max 1 (m + 1) := by
  unfold cnt
  omega
/-- A bool has been returned; if it is false, P holds. -/
def Told (P : Prop) (e : Ending) : Prop := ∃ b, e = .returned (.bool b) ∧ (b = false → P)
theorem Told.of {P : Prop} (b : Bool) (h : b = false → P) : Told P (.returned (.bool b)) := ⟨b, rfl, h⟩
theorem Told.yes {P : Prop} : Told P (.returned (.bool true)) := ⟨true, rfl, fun h => by cases h⟩
theorem Told.no {P : Prop} (h : P) : Told P (.returned (.bool false)) := ⟨false, rfl, fun _ => h⟩
theorem ret_int {a b : Int} (h : a = b) : Ending.returned (.int .i64 a) = .returned (.int .i64 b) := by rw [h]
theorem ret_bool {a b : Bool} (h : a = b) : Ending.returned (.bool a) = .returned (.bool b) := by rw [h]

mutual
/-- No text of a term is of more than 200 bytes. -/
def Tm.Short : Tm → Prop
  | .mk _ _ s l => s.size ≤ 200 ∧ Shorts l
def Shorts : List Tm → Prop
  | [] => True
  | t :: r => t.Short ∧ Shorts r
end
theorem Tm.short_mk (k n : Int) (s : ByteArray) (l : List Tm) : (Tm.mk k n s l).Short ↔ s.size ≤ 200 ∧ Shorts l := by rw [Tm.Short]
theorem shorts_of {l : List Tm} (h : ∀ i (hi : i < l.length), l[i].Short) : Shorts l := by
  induction l with
  | nil => rw [Shorts]; trivial
  | cons t r ih =>
    rw [Shorts]
    exact ⟨h 0 (by simp), ih fun i hi => h (i + 1) (by simpa using hi)⟩
theorem Shorts.at {l : List Tm} (h : Shorts l) (i : Nat) (hi : i < l.length) : l[i].Short := by
  induction l generalizing i with
  | nil => cases hi
  | cons t r ih =>
    rw [Shorts] at h
    cases i with
    | zero => exact h.1
    | succ i => exact ih h.2 i (by simpa using hi)

end Go.Proofs.Ytnelefokpopfdaa
