/-
  The document's Find, walked.
-/
import Derived.Test.YtabcekeeekbdiaaDoorOrdRef
namespace Go.Proofs.YtabcekeeekbdiaaDoor
open Go.RowKit Go.Deep

/-- How many terms at the head of a list are ahead of a term; is the next one alike? -/
def findN (l : List Tm) (T : Tm) : Nat := (l.takeWhile fun x => decide (x.cmp T < 0)).length
def findB (l : List Tm) (T : Tm) : Bool := ((l[findN l T]?).map fun x => x.cmp T == 0).getD false
theorem findN_is (l : List Tm) (T : Tm) : ∀ (i : Nat), i ≤ l.length → (∀ j (_ : j < i) (h : j < l.length), l[j].cmp T < 0) → (∀ h : i < l.length, ¬ l[i].cmp T < 0) → findN l T = i := by
  unfold findN
  induction l with
  | nil => intro i hi _ _; simp at hi; simp [hi]
  | cons a r ih =>
    intro i hi h1 h2
    cases i with
    | zero =>
      have := h2 (by simp)
      simp only [List.getElem_cons_zero] at this
      simp [this]
    | succ i =>
      have ha := h1 0 (by omega) (by simp)
      simp only [List.getElem_cons_zero] at ha
      rw [List.takeWhile_cons, if_pos (by simpa using ha), List.length_cons]
      rw [ih i (by simpa using hi) (fun j hj h => by have := h1 (j + 1) (by omega) (by simpa using h); simpa using this) (fun h => by have := h2 (by simpa using h); simpa using this)]

theorem findB_some {l : List Tm} {T : Tm} {i : Nat} (hi : i < l.length) (h : findN l T = i) : findB l T = (l[i].cmp T == 0) := by
  unfold findB
  rw [h, List.getElem?_eq_getElem hi]
  rfl
theorem findB_none {l : List Tm} {T : Tm} (h : findN l T = l.length) : findB l T = false := by
  unfold findB
  rw [h, List.getElem?_eq_none (Nat.le_refl _)]
  rfl

end Go.Proofs.YtabcekeeekbdiaaDoor
