/-
  Where a symmetric merge parts its two stretches, as plain mathematics.
-/
import Derived.Test.YtabcekeeekbdiaaOrdMerge
namespace Go.Proofs.Ytabcekeeekbdiaa
open Go.RowKit Go.Deep

theorem cmp_le_lt {x y z : Tm} (h : x.cmp y ≤ 0) (h' : y.cmp z < 0) : x.cmp z < 0 := ((cmp_tri x y z).1 h (Int.le_of_lt h')).2 (Or.inr h')
theorem cmp_lt_le {x y z : Tm} (h : x.cmp y < 0) (h' : y.cmp z ≤ 0) : x.cmp z < 0 := ((cmp_tri x y z).1 (Int.le_of_lt h) h').2 (Or.inl h)
theorem cmp_le_le {x y z : Tm} (h : x.cmp y ≤ 0) (h' : y.cmp z ≤ 0) : x.cmp z ≤ 0 := ((cmp_tri x y z).1 h h').1
theorem cmp_not_lt {x y : Tm} (h : ¬ y.cmp x < 0) : x.cmp y ≤ 0 := by have := cmp_neg x y; omega
theorem sorted_at {l : List Tm} (h : Sorted l) {i j : Nat} (hij : i ≤ j) (hj : j < l.length) : (l[i]'(by omega)).cmp l[j] ≤ 0 := by
  rcases Nat.lt_or_eq_of_le hij with h1 | rfl
  · exact List.pairwise_iff_getElem.1 h i j (by omega) hj h1
  · rw [cmp_refl]; omega
theorem mem_take {l : List Tm} {i : Nat} {x : Tm} (h : x ∈ l.take i) : ∃ (q : Nat) (hq : q < l.length), q < i ∧ x = l[q] := by
  obtain ⟨q, hq, rfl⟩ := List.getElem_of_mem h
  rw [List.length_take] at hq
  exact ⟨q, by omega, by omega, List.getElem_take⟩
theorem mem_drop {l : List Tm} {i : Nat} {x : Tm} (h : x ∈ l.drop i) : ∃ (q : Nat) (hq : q < l.length), i ≤ q ∧ x = l[q] := by
  obtain ⟨q, hq, rfl⟩ := List.getElem_of_mem h
  rw [List.length_drop] at hq
  exact ⟨i + q, by omega, by omega, List.getElem_drop⟩

theorem left_split {x : Tm} {Y : List Tm} (hY : Sorted Y) {i : Nat} (h1 : ∀ (_ : 0 < i) (h : i - 1 < Y.length), Y[i - 1].cmp x < 0) (h2 : ∀ h : i < Y.length, ¬ Y[i].cmp x < 0) (hi : i ≤ Y.length) :
    (∀ y ∈ Y.take i, y.cmp x < 0) ∧ ∀ y ∈ Y.drop i, ¬ y.cmp x < 0 := by
  refine ⟨fun y hy => ?_, fun y hy => ?_⟩
  · obtain ⟨q, hq, hqi, rfl⟩ := mem_take hy
    exact cmp_le_lt (sorted_at hY (show q ≤ i - 1 by omega) (by omega)) (h1 (by omega) (by omega))
  · obtain ⟨q, hq, hqi, rfl⟩ := mem_drop hy
    intro hc
    exact h2 (by omega) (cmp_le_lt (sorted_at hY hqi hq) hc)
theorem right_split {y : Tm} {X : List Tm} (hX : Sorted X) {i : Nat} (h1 : ∀ (_ : 0 < i) (h : i - 1 < X.length), ¬ y.cmp X[i - 1] < 0) (h2 : ∀ h : i < X.length, y.cmp X[i] < 0) (hi : i ≤ X.length) :
    (∀ x ∈ X.take i, ¬ y.cmp x < 0) ∧ ∀ x ∈ X.drop i, y.cmp x < 0 := by
  refine ⟨fun x hx => ?_, fun x hx => ?_⟩
  · obtain ⟨q, hq, hqi, rfl⟩ := mem_take hx
    intro hc
    exact h1 (by omega) (by omega) (cmp_lt_le hc (sorted_at hX (show q ≤ i - 1 by omega) (by omega)))
  · obtain ⟨q, hq, hqi, rfl⟩ := mem_drop hx
    exact cmp_lt_le (h2 (by omega)) (sorted_at hX hqi hq)

theorem sym_split (X Y : List Tm) (hX : Sorted X) (hY : Sorted Y) (s e : Nat) (_ : s ≤ X.length) (_ : e ≤ Y.length) (h1 : s = 0 ∨ e = Y.length ∨ ∃ (h : s - 1 < X.length) (h' : e < Y.length), ¬ Y[e].cmp X[s - 1] < 0)
    (h2 : s = X.length ∨ e = 0 ∨ ∃ (h : s < X.length) (h' : e - 1 < Y.length), Y[e - 1].cmp X[s] < 0) : sortT (X ++ Y) = sortT (X.take s ++ Y.take e) ++ sortT (X.drop s ++ Y.drop e) := by
  have := merge_parts (X.take s) (X.drop s) (Y.take e) (Y.drop e) (by rw [List.take_append_drop]; exact hX) (by rw [List.take_append_drop]; exact hY) ?_ ?_
  · rw [List.take_append_drop, List.take_append_drop] at this
    exact this
  · intro x hx y hy
    obtain ⟨q, hq, hqs, rfl⟩ := mem_drop hx
    obtain ⟨p, hp, hpe, rfl⟩ := mem_take hy
    rcases h2 with h2 | h2 | ⟨ha, hb, h2⟩
    · omega
    · omega
    · exact cmp_lt_le (cmp_le_lt (sorted_at hY (show p ≤ e - 1 by omega) hb) h2) (sorted_at hX hqs hq)
  · intro x hx y hy
    obtain ⟨q, hq, hqs, rfl⟩ := mem_take hx
    obtain ⟨p, hp, hpe, rfl⟩ := mem_drop hy
    rcases h1 with h1 | h1 | ⟨ha, hb, h1⟩
    · omega
    · omega
    · exact cmp_le_le (cmp_le_le (sorted_at hX (show q ≤ s - 1 by omega) ha) (cmp_not_lt h1)) (sorted_at hY hpe hp)
theorem sorted_take {l : List Tm} (h : Sorted l) (i : Nat) : Sorted (l.take i) := List.Pairwise.sublist (List.take_sublist _ _) h
theorem sorted_drop {l : List Tm} (h : Sorted l) (i : Nat) : Sorted (l.drop i) := List.Pairwise.sublist (List.drop_sublist _ _) h

end Go.Proofs.Ytabcekeeekbdiaa
