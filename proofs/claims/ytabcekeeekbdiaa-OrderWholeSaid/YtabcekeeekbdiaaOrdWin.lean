/-
  Sorted stretches of a list, as plain mathematics.
-/
import Derived.Test.YtabcekeeekbdiaaOrdSym
namespace Go.Proofs.Ytabcekeeekbdiaa
open Go.RowKit Go.Deep

/-- The stretch from p to q is sorted. -/
def Win (l : List Tm) (p q : Nat) : Prop := ∀ (i j : Nat) (x y : Tm), p ≤ i → i < j → j < q → l[i]? = some x → l[j]? = some y → x.cmp y ≤ 0
theorem Win.same {l l' : List Tm} {p q : Nat} (h : Win l p q) (he : ∀ i, p ≤ i → i < q → l'[i]? = l[i]?) : Win l' p q := fun i j x y h1 h2 h3 hx hy =>
  h i j x y h1 h2 h3 ((he i h1 (by omega)).symm.trans hx) ((he j (by omega) h3).symm.trans hy)
theorem Win.less {l : List Tm} {p q p' q' : Nat} (h : Win l p q) (h1 : p ≤ p') (h2 : q' ≤ q) : Win l p' q' := fun i j x y a b c hx hy => h i j x y (by omega) b (by omega) hx hy
theorem Win.over {l : List Tm} {p q q' : Nat} (h : Win l p q) (hq : l.length ≤ q) : Win l p q' := fun i j x y a b _ hx hy =>
  h i j x y a b (by obtain ⟨h1, _⟩ := List.getElem?_eq_some_iff.1 hy; omega) hx hy
theorem Win.none {l : List Tm} {p q : Nat} (h : l.length ≤ p) : Win l p q := fun i j x y a b _ hx _ => by
  obtain ⟨h1, _⟩ := List.getElem?_eq_some_iff.1 hx; omega
theorem win_of {A X C : List Tm} (h : Sorted X) {a b : Nat} (ha : A.length = a) (hb : a + X.length = b) : Win (A ++ X ++ C) a b := fun i j x y h1 h2 h3 hx hy => by
  rw [List.getElem?_append_left (by rw [List.length_append]; omega), List.getElem?_append_right (by omega)] at hx hy
  obtain ⟨q1, rfl⟩ := List.getElem?_eq_some_iff.1 hx
  obtain ⟨q2, rfl⟩ := List.getElem?_eq_some_iff.1 hy
  exact sorted_at h (by omega) q2
theorem sorted_of {A X C : List Tm} {a b : Nat} (ha : A.length = a) (hb : a + X.length = b) (h : Win (A ++ X ++ C) a b) : Sorted X := by
  refine List.pairwise_iff_getElem.2 fun i j hi hj hij => ?_
  refine h (a + i) (a + j) _ _ (by omega) (by omega) (by omega) ?_ ?_
  · rw [List.getElem?_append_left (by rw [List.length_append]; omega), List.getElem?_append_right (by omega), show a + i - A.length = i by omega, List.getElem?_eq_getElem hi]
  · rw [List.getElem?_append_left (by rw [List.length_append]; omega), List.getElem?_append_right (by omega), show a + j - A.length = j by omega, List.getElem?_eq_getElem hj]
/-- A stretch has been put in order. -/
theorem win_step {A Z Z0 C : List Tm} {a b : Nat} (ha : A.length = a) (hb : a + Z.length = b) (hz : Z0.length = Z.length) (h : Sorted Z) :
    Win (A ++ Z ++ C) a b ∧ (∀ p q, q ≤ a → Win (A ++ Z0 ++ C) p q → Win (A ++ Z ++ C) p q) ∧ ∀ p q, b ≤ p → Win (A ++ Z0 ++ C) p q → Win (A ++ Z ++ C) p q := by
  refine ⟨win_of h ha hb, fun p q hq hw => hw.same fun i h1 h2 => ?_, fun p q hp hw => hw.same fun i h1 h2 => ?_⟩
  · rw [List.append_assoc, List.append_assoc, List.getElem?_append_left (by omega), List.getElem?_append_left (by omega)]
  · rw [List.getElem?_append_right (by rw [List.length_append]; omega), List.getElem?_append_right (by rw [List.length_append]; omega)]
    congr 1
    simp only [List.length_append]
    omega
theorem split2 (l : List Tm) (a b : Nat) (hab : a ≤ b) (hb : b ≤ l.length) : ∃ A X C, l = A ++ X ++ C ∧ A.length = a ∧ X.length = b - a := by
  refine ⟨l.take a, (l.drop a).take (b - a), l.drop b, ?_, by rw [List.length_take]; omega, by rw [List.length_take, List.length_drop]; omega⟩
  have : l.drop b = (l.drop a).drop (b - a) := by rw [List.drop_drop]; congr 1; omega
  rw [this, List.append_assoc, List.take_append_drop, List.take_append_drop]
theorem split3 (l : List Tm) (a m b : Nat) (ham : a ≤ m) (hmb : m ≤ b) (hb : b ≤ l.length) : ∃ A X Y C, l = A ++ X ++ Y ++ C ∧ A.length = a ∧ X.length = m - a ∧ Y.length = b - m := by
  obtain ⟨A, X, C, rfl, h1, h2⟩ := split2 l a m ham (by omega)
  simp only [List.length_append] at hb
  obtain ⟨B, Y, D, rfl, h3, h4⟩ := split2 C 0 (b - m) (Nat.zero_le _) (by omega)
  obtain rfl := List.eq_nil_of_length_eq_zero h3
  exact ⟨A, X, Y, D, by simp only [List.nil_append, List.append_assoc], h1, h2, by omega⟩
theorem sorts_alikes (u : Tm) (A X C : List Tm) : alikes u (A ++ sortT X ++ C) = alikes u (A ++ X ++ C) := by
  simp only [alikes_append, sortT_alikes]
theorem sorted_all {l : List Tm} (h : Win l 0 l.length) : Sorted l :=
  sorted_of (A := []) (C := []) (X := l) rfl (Nat.zero_add _) (by simpa using h)

end Go.Proofs.Ytabcekeeekbdiaa
