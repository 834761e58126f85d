/-
  The document's Sort, walked.
-/
import Derived.Test.YtabcekeeekbdiaaDoorOrdRef
import Derived.Test.YtabcekeeekbdiaaDoorOrdBase
import Derived.Laws.AppendOwnNone
namespace Go.Proofs.YtabcekeeekbdiaaDoor
open Go.RowKit Go.Deep

/-- Where a term is put: behind all that are not behind it. -/
def insAt (l : List Tm) (t : Tm) : Nat := l.length - (l.reverse.takeWhile fun x => decide (0 < x.cmp t)).length
def insT (l : List Tm) (t : Tm) : List Tm := l.take (insAt l t) ++ [t] ++ l.drop (insAt l t)
def sortT (l : List Tm) : List Tm := l.foldl insT []
theorem insAt_le (l : List Tm) (t : Tm) : insAt l t ≤ l.length := by unfold insAt; omega
theorem insT_length (l : List Tm) (t : Tm) : (insT l t).length = l.length + 1 := by
  have := insAt_le l t
  simp only [insT, List.length_append, List.length_take, List.length_cons, List.length_nil, List.length_drop]
  omega
theorem sortT_take (l : List Tm) (i : Nat) (hi : i < l.length) : sortT (l.take (i + 1)) = insT (sortT (l.take i)) l[i] := by
  unfold sortT
  rw [List.take_succ_eq_append_getElem hi, List.foldl_append]
  rfl
theorem sortT_length (l : List Tm) : (sortT l).length = l.length := by
  have : ∀ (l a : List Tm), (l.foldl insT a).length = a.length + l.length := by
    intro l
    induction l with
    | nil => intro a; simp
    | cons t r ih => intro a; rw [List.foldl_cons, ih, insT_length, List.length_cons]; omega
  unfold sortT
  rw [this]
  simp
theorem insAt_is (l : List Tm) (t : Tm) : ∀ (i : Nat), i ≤ l.length → (∀ j (_ : i ≤ j) (h : j < l.length), 0 < l[j].cmp t) → (∀ h : i - 1 < l.length, 0 < i → ¬ 0 < l[i - 1].cmp t) → insAt l t = i := by
  have key : ∀ (r : List Tm) (m : Nat), m ≤ r.length → (∀ j (_ : j < m) (h : j < r.length), 0 < r[j].cmp t) → (∀ h : m < r.length, ¬ 0 < r[m].cmp t) → (r.takeWhile fun x => decide (0 < x.cmp t)).length = m := by
    intro r
    induction r with
    | nil => intro m hm _ _; simp at hm; simp [hm]
    | cons a r ih =>
      intro m hm h1 h2
      cases m with
      | zero =>
        have := h2 (by simp)
        simp only [List.getElem_cons_zero] at this
        simp [this]
      | succ m =>
        have ha := h1 0 (by omega) (by simp)
        simp only [List.getElem_cons_zero] at ha
        rw [List.takeWhile_cons, if_pos (by simpa using ha), List.length_cons]
        rw [ih m (by simpa using hm) (fun j hj h => by have := h1 (j + 1) (by omega) (by simpa using h); simpa using this) (fun h => by have := h2 (by simpa using h); simpa using this)]
  intro i hi h1 h2
  unfold insAt
  rw [key l.reverse (l.length - i) (by simp) (fun j hj h => by
    rw [List.getElem_reverse]
    exact h1 _ (by omega) _) (fun h => by
    rw [List.length_reverse] at h
    rw [List.getElem_reverse]
    have := h2 (by omega) (by omega)
    have e : l.length - 1 - (l.length - i) = i - 1 := by omega
    simp only [e]
    exact this)]
  omega

theorem Side.insert {w : World} {S : Nat → Prop} {l : List Tm} {n at' : Nat} {xs : List Value} {t : Tm} {v0 v1 v2 v3 : Value} (h : Side w S l n xs) (hn : l.length = n) (hx : xs.length = n * 4) (hat : at' ≤ n) (hl : Lies w S t (.agg #[v0, v1, v2, v3])) :
    Side w S (l.take at' ++ [t] ++ l.drop at') (n + 1) (xs.take (at' * 4) ++ [v0, v1, v2, v3] ++ xs.drop (at' * 4)) := by
  intro q hq hq2
  have hxt : (xs.take (at' * 4)).length = at' * 4 := by rw [List.length_take]; omega
  have hlt : (l.take at').length = at' := by rw [List.length_take]; omega
  rcases Nat.lt_trichotomy q at' with h1 | h1 | h1
  · obtain ⟨u0, u1, u2, u3, e0, e1, e2, e3, hL⟩ := h q (by omega) (by omega)
    have hg : (l.take at' ++ [t] ++ l.drop at')[q] = l[q]'(by omega) := by
      rw [List.getElem_append_left (by simp [hlt]; omega), List.getElem_append_left (by omega), List.getElem_take]
    refine ⟨u0, u1, u2, u3, ?_, ?_, ?_, ?_, by rw [hg]; exact hL⟩
    all_goals (rw [List.getElem?_append_left (by simp [hxt]; omega), List.getElem?_append_left (by omega), List.getElem?_take_of_lt (by omega)]; assumption)
  · subst h1
    have hg : (l.take q ++ [t] ++ l.drop q)[q] = t := by
      rw [List.getElem_append_left (by simp [hlt]), List.getElem_append_right (by omega)]
      simp [hlt]
    refine ⟨v0, v1, v2, v3, ?_, ?_, ?_, ?_, by rw [hg]; exact hl⟩
    all_goals
      rw [List.getElem?_append_left (by simp [hxt]), List.getElem?_append_right (by omega), hxt]
      simp
  · obtain ⟨u0, u1, u2, u3, e0, e1, e2, e3, hL⟩ := h (q - 1) (by omega) (by omega)
    have hg : (l.take at' ++ [t] ++ l.drop at')[q] = l[q - 1]'(by omega) := by
      rw [List.getElem_append_right (by simp [hlt]; omega), List.getElem_drop]
      congr 1
      simp [hlt]
      omega
    refine ⟨u0, u1, u2, u3, ?_, ?_, ?_, ?_, by rw [hg]; exact hL⟩
    all_goals
      rw [List.getElem?_append_right (by simp [hxt]; omega), List.getElem?_drop]
      simp only [List.length_append, List.length_cons, List.length_nil, hxt]
    · rw [show at' * 4 + (q * 4 - (at' * 4 + (0 + 1 + 1 + 1 + 1))) = (q - 1) * 4 by omega]; exact e0
    · rw [show at' * 4 + (q * 4 + 1 - (at' * 4 + (0 + 1 + 1 + 1 + 1))) = (q - 1) * 4 + 1 by omega]; exact e1
    · rw [show at' * 4 + (q * 4 + 2 - (at' * 4 + (0 + 1 + 1 + 1 + 1))) = (q - 1) * 4 + 2 by omega]; exact e2
    · rw [show at' * 4 + (q * 4 + 3 - (at' * 4 + (0 + 1 + 1 + 1 + 1))) = (q - 1) * 4 + 3 by omega]; exact e3

theorem slice_take {xs : List Value} {m : Nat} {j : Nat} {u : Value} (h : (xs.take m)[j]? = some u) : xs[j]? = some u := by
  rw [List.getElem?_take] at h
  split at h
  · exact h
  · cases h

end Go.Proofs.YtabcekeeekbdiaaDoor
