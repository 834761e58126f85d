/-
  Where a symmetric merge parts its two stretches, as plain mathematics.
-/
import Derived.Test.YteklhipcojioaaaDoorZOrdSortRef
namespace Go.Proofs.YteklhipcojioaaaDoor
open Go.RowKit Go.Deep

theorem cmp_le_lt {x y z : Tm} (h : x.cmp y ≤ 0) (h' : y.cmp z < 0) : x.cmp z < 0 := ((cmp_tri x y z).1 h (Int.le_of_lt h')).2 (Or.inr h')
theorem cmp_lt_le {x y z : Tm} (h : x.cmp y < 0) (h' : y.cmp z ≤ 0) : x.cmp z < 0 := ((cmp_tri x y z).1 (Int.le_of_lt h) h').2 (Or.inl h)
theorem cmp_le_le {x y z : Tm} (h : x.cmp y ≤ 0) (h' : y.cmp z ≤ 0) : x.cmp z ≤ 0 := ((cmp_tri x y z).1 h h').1
theorem cmp_not_lt {x y : Tm} (h : ¬ y.cmp x < 0) : x.cmp y ≤ 0 := by have := cmp_neg x y; omega
theorem sorted_at {l : List Tm} (h : Sorted l) {i j : Nat} (hij : i ≤ j) (hj : j < l.length) : (l[i]'(by omega)).cmp l[j] ≤ 0 := by
  rcases Nat.lt_or_eq_of_le hij with h1 | rfl
  · exact List.pairwise_iff_getElem.1 h i j (by omega) hj h1
  · rw [cmp_refl]; omega
theorem mem_take {l : List Tm} {i : Nat} {x : Tm} (h : x ∈ l.take i) : ∃ (q : Nat) (hq : q < l.length), q < i ∧ x = l[q] := by
  obtain ⟨q, hq, rfl⟩ := List.getElem_of_mem h
  rw [List.length_take] at hq
  exact ⟨q, by omega, by omega, List.getElem_take⟩
theorem mem_drop {l : List Tm} {i : Nat} {x : Tm} (h : x ∈ l.drop i) : ∃ (q : Nat) (hq : q < l.length), i ≤ q ∧ x = l[q] := by
  obtain ⟨q, hq, rfl⟩ := List.getElem_of_mem h
  rw [List.length_drop] at hq
  exact ⟨i + q, by omega, by omega, List.getElem_drop⟩

theorem left_split {x : Tm} {Y : List Tm} (hY : Sorted Y) {i : Nat} (h1 : ∀ (_ : 0 < i) (h : i - 1 < Y.length), Y[i - 1].cmp x < 0) (h2 : ∀ h : i < Y.length, ¬ Y[i].cmp x < 0) (hi : i ≤ Y.length) :
    (∀ y ∈ Y.take i, y.cmp x < 0) ∧ ∀ y ∈ Y.drop i, ¬ y.cmp x < 0 := by
  refine ⟨fun y hy => ?_, fun y hy => ?_⟩
  · obtain ⟨q, hq, hqi, rfl⟩ := mem_take hy
    exact cmp_le_lt (sorted_at hY (show q ≤ i - 1 by omega) (by omega)) (h1 (by omega) (by omega))
  · obtain ⟨q, hq, hqi, rfl⟩ := mem_drop hy
    intro hc
    exact h2 (by omega) (cmp_le_lt (sorted_at hY hqi hq) hc)
theorem right_split {y : Tm} {X : List Tm} (hX : Sorted X) {i : Nat} (h1 : ∀ (_ : 0 < i) (h : i - 1 < X.length), ¬ y.cmp X[i - 1] < 0) (h2 : ∀ h : i < X.length, y.cmp X[i] < 0) (hi : i ≤ X.length) :
    (∀ x ∈ X.take i, ¬ y.cmp x < 0) ∧ ∀ x ∈ X.drop i, y.cmp x < 0 := by
  refine ⟨fun x hx => ?_, fun x hx => ?_⟩
  · obtain ⟨q, hq, hqi, rfl⟩ := mem_take hx
    intro hc
    exact h1 (by omega) (by omega) (cmp_lt_le hc (sorted_at hX (show q ≤ i - 1 by omega) (by omega)))
  · obtain ⟨q, hq, hqi, rfl⟩ := mem_drop hx
    exact cmp_lt_le (h2 (by omega)) (sorted_at hX hqi hq)

theorem sym_split (X Y : List Tm) (hX : Sorted X) (hY : Sorted Y) (s e : Nat) (_ : s ≤ X.length) (_ : e ≤ Y.length) (h1 : s = 0 ∨ e = Y.length ∨ ∃ (h : s - 1 < X.length) (h' : e < Y.length), ¬ Y[e].cmp X[s - 1] < 0)
    (h2 : s = X.length ∨ e = 0 ∨ ∃ (h : s < X.length) (h' : e - 1 < Y.length), Y[e - 1].cmp X[s] < 0) : sortT (X ++ Y) = sortT (X.take s ++ Y.take e) ++ sortT (X.drop s ++ Y.drop e) := by
  have := merge_parts (X.take s) (X.drop s) (Y.take e) (Y.drop e) (by rw [List.take_append_drop]; exact hX) (by rw [List.take_append_drop]; exact hY) ?_ ?_
  · rw [List.take_append_drop, List.take_append_drop] at this
    exact this
  · intro x hx y hy
    obtain ⟨q, hq, hqs, rfl⟩ := mem_drop hx
    obtain ⟨p, hp, hpe, rfl⟩ := mem_take hy
    rcases h2 with h2 | h2 | ⟨ha, hb, h2⟩
    · omega
    · omega
    · exact cmp_lt_le (cmp_le_lt (sorted_at hY (show p ≤ e - 1 by omega) hb) h2) (sorted_at hX hqs hq)
  · intro x hx y hy
    obtain ⟨q, hq, hqs, rfl⟩ := mem_take hx
    obtain ⟨p, hp, hpe, rfl⟩ := mem_drop hy
    rcases h1 with h1 | h1 | ⟨ha, hb, h1⟩
    · omega
    · omega
    · exact cmp_le_le (cmp_le_le (sorted_at hX (show q ≤ s - 1 by omega) ha) (cmp_not_lt h1)) (sorted_at hY hpe hp)
theorem sorted_take {l : List Tm} (h : Sorted l) (i : Nat) : Sorted (l.take i) := List.Pairwise.sublist (List.take_sublist _ _) h
theorem sorted_drop {l : List Tm} (h : Sorted l) (i : Nat) : Sorted (l.drop i) := List.Pairwise.sublist (List.drop_sublist _ _) h

end Go.Proofs.YteklhipcojioaaaDoor

/-
  Sorted stretches of a list, as plain mathematics.
-/
namespace Go.Proofs.YteklhipcojioaaaDoor
open Go.RowKit Go.Deep

/-- The stretch from p to q is sorted. -/
def Win (l : List Tm) (p q : Nat) : Prop := ∀ (i j : Nat) (x y : Tm), p ≤ i → i < j → j < q → l[i]? = some x → l[j]? = some y → x.cmp y ≤ 0
theorem Win.same {l l' : List Tm} {p q : Nat} (h : Win l p q) (he : ∀ i, p ≤ i → i < q → l'[i]? = l[i]?) : Win l' p q := fun i j x y h1 h2 h3 hx hy =>
  h i j x y h1 h2 h3 ((he i h1 (by omega)).symm.trans hx) ((he j (by omega) h3).symm.trans hy)
theorem Win.less {l : List Tm} {p q p' q' : Nat} (h : Win l p q) (h1 : p ≤ p') (h2 : q' ≤ q) : Win l p' q' := fun i j x y a b c hx hy => h i j x y (by omega) b (by omega) hx hy
theorem Win.over {l : List Tm} {p q q' : Nat} (h : Win l p q) (hq : l.length ≤ q) : Win l p q' := fun i j x y a b _ hx hy =>
  h i j x y a b (by obtain ⟨h1, _⟩ := List.getElem?_eq_some_iff.1 hy; omega) hx hy
theorem Win.none {l : List Tm} {p q : Nat} (h : l.length ≤ p) : Win l p q := fun i j x y a b _ hx _ => by
  obtain ⟨h1, _⟩ := List.getElem?_eq_some_iff.1 hx; omega
theorem win_of {A X C : List Tm} (h : Sorted X) {a b : Nat} (ha : A.length = a) (hb : a + X.length = b) : Win (A ++ X ++ C) a b := fun i j x y h1 h2 h3 hx hy => by
  rw [List.getElem?_append_left (by rw [List.length_append]; omega), List.getElem?_append_right (by omega)] at hx hy
  obtain ⟨q1, rfl⟩ := List.getElem?_eq_some_iff.1 hx
  obtain ⟨q2, rfl⟩ := List.getElem?_eq_some_iff.1 hy
  exact sorted_at h (by omega) q2
theorem sorted_of {A X C : List Tm} {a b : Nat} (ha : A.length = a) (hb : a + X.length = b) (h : Win (A ++ X ++ C) a b) : Sorted X := by
  refine List.pairwise_iff_getElem.2 fun i j hi hj hij => ?_
  refine h (a + i) (a + j) _ _ (by omega) (by omega) (by omega) ?_ ?_
  · rw [List.getElem?_append_left (by rw [List.length_append]; omega), List.getElem?_append_right (by omega), show a + i - A.length = i by omega, List.getElem?_eq_getElem hi]
  · rw [List.getElem?_append_left (by rw [List.length_append]; omega), List.getElem?_append_right (by omega), show a + j - A.length = j by omega, List.getElem?_eq_getElem hj]
/-- A stretch has been put in order. -/
theorem win_step {A Z Z0 C : List Tm} {a b : Nat} (ha : A.length = a) (hb : a + Z.length = b) (hz : Z0.length = Z.length) (h : Sorted Z) :
    Win (A ++ Z ++ C) a b ∧ (∀ p q, q ≤ a → Win (A ++ Z0 ++ C) p q → Win (A ++ Z ++ C) p q) ∧ ∀ p q, b ≤ p → Win (A ++ Z0 ++ C) p q → Win (A ++ Z ++ C) p q := by
  refine ⟨win_of h ha hb, fun p q hq hw => hw.same fun i h1 h2 => ?_, fun p q hp hw => hw.same fun i h1 h2 => ?_⟩
  · rw [List.append_assoc, List.append_assoc, List.getElem?_append_left (by omega), List.getElem?_append_left (by omega)]
  · rw [List.getElem?_append_right (by rw [List.length_append]; omega), List.getElem?_append_right (by rw [List.length_append]; omega)]
    congr 1
    simp only [List.length_append]
    omega
theorem split2 (l : List Tm) (a b : Nat) (hab : a ≤ b) (hb : b ≤ l.length) : ∃ A X C, l = A ++ X ++ C ∧ A.length = a ∧ X.length = b - a := by
  refine ⟨l.take a, (l.drop a).take (b - a), l.drop b, ?_, by rw [List.length_take]; omega, by rw [List.length_take, List.length_drop]; omega⟩
  have : l.drop b = (l.drop a).drop (b - a) := by rw [List.drop_drop]; congr 1; omega
  rw [this, List.append_assoc, List.take_append_drop, List.take_append_drop]
theorem split3 (l : List Tm) (a m b : Nat) (ham : a ≤ m) (hmb : m ≤ b) (hb : b ≤ l.length) : ∃ A X Y C, l = A ++ X ++ Y ++ C ∧ A.length = a ∧ X.length = m - a ∧ Y.length = b - m := by
  obtain ⟨A, X, C, rfl, h1, h2⟩ := split2 l a m ham (by omega)
  simp only [List.length_append] at hb
  obtain ⟨B, Y, D, rfl, h3, h4⟩ := split2 C 0 (b - m) (Nat.zero_le _) (by omega)
  obtain rfl := List.eq_nil_of_length_eq_zero h3
  exact ⟨A, X, Y, D, by simp only [List.nil_append, List.append_assoc], h1, h2, by omega⟩
theorem sorts_alikes (u : Tm) (A X C : List Tm) : alikes u (A ++ sortT X ++ C) = alikes u (A ++ X ++ C) := by
  simp only [alikes_append, sortT_alikes]
theorem sorted_all {l : List Tm} (h : Win l 0 l.length) : Sorted l :=
  sorted_of (A := []) (C := []) (X := l) rfl (Nat.zero_add _) (by simpa using h)

end Go.Proofs.YteklhipcojioaaaDoor
