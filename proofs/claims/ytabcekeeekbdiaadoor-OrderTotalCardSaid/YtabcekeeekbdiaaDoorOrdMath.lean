/-
  Sorted lists of terms, as plain mathematics: what is put in order is sorted, has the same terms, leaves alike ones as they stood, and is the only such list.
-/
import Derived.Test.YtabcekeeekbdiaaDoorOrdSortRef
namespace Go.Proofs.YtabcekeeekbdiaaDoor
open Go.RowKit Go.Deep

/-- None is ahead of one before it. -/
def Sorted (l : List Tm) : Prop := l.Pairwise fun a b => a.cmp b ≤ 0
theorem cmp_le_trans {a b c : Tm} (h : a.cmp b ≤ 0) (h' : b.cmp c ≤ 0) : a.cmp c ≤ 0 := ((cmp_tri a b c).1 h h').1
theorem cmp_lt_of {a b c : Tm} (h : a.cmp b ≤ 0) (h' : b.cmp c < 0) : a.cmp c < 0 := ((cmp_tri a b c).1 h (by omega)).2 (Or.inr h')
theorem cmp_lt_of' {a b c : Tm} (h : a.cmp b < 0) (h' : b.cmp c ≤ 0) : a.cmp c < 0 := ((cmp_tri a b c).1 (by omega) h').2 (Or.inl h)

theorem takeWhile_spec (f : Tm → Bool) : ∀ r : List Tm, (∀ j (_ : j < (r.takeWhile f).length) (h : j < r.length), f r[j] = true) ∧ (∀ h : (r.takeWhile f).length < r.length, f r[(r.takeWhile f).length] = false) := by
  intro r
  induction r with
  | nil => exact ⟨fun j hj h => (by cases h), fun h => (by simp at h)⟩
  | cons a r ih =>
    by_cases ha : f a = true
    · rw [List.takeWhile_cons, if_pos ha]
      refine ⟨fun j hj h => ?_, fun h => ?_⟩
      · cases j with
        | zero => exact ha
        | succ j => exact ih.1 j (by simpa using hj) (by simpa using h)
      · have := ih.2 (by simpa using h)
        simpa using this
    · rw [List.takeWhile_cons, if_neg ha]
      exact ⟨fun j hj h => (by simp at hj), fun h => by simpa using ha⟩

theorem insAt_spec (l : List Tm) (t : Tm) : (∀ j (_ : insAt l t ≤ j) (h : j < l.length), 0 < l[j].cmp t) ∧ (∀ h : insAt l t - 1 < l.length, 0 < insAt l t → ¬ 0 < l[insAt l t - 1].cmp t) := by
  have hs := takeWhile_spec (fun x => decide (0 < x.cmp t)) l.reverse
  have hle : (l.reverse.takeWhile fun x => decide (0 < x.cmp t)).length ≤ l.length := by
    have := (List.takeWhile_sublist (fun x : Tm => decide (0 < x.cmp t)) (l := l.reverse)).length_le
    simpa using this
  unfold insAt
  generalize (l.reverse.takeWhile fun x => decide (0 < x.cmp t)).length = m at hs hle
  refine ⟨fun j hj h => ?_, fun h h0 => ?_⟩
  · have := hs.1 (l.length - 1 - j) (by omega) (by simp; omega)
    rw [List.getElem_reverse] at this
    have e : l.length - 1 - (l.length - 1 - j) = j := by omega
    simp only [e, decide_eq_true_eq] at this
    exact this
  · have := hs.2 (by simp; omega)
    rw [List.getElem_reverse] at this
    have e : l.length - 1 - m = l.length - m - 1 := by omega
    simp only [e, decide_eq_false_iff_not] at this
    exact this

theorem insT_parts (l : List Tm) (t : Tm) (hl : Sorted l) : (∀ x ∈ l.take (insAt l t), x.cmp t ≤ 0) ∧ (∀ x ∈ l.drop (insAt l t), 0 < x.cmp t) := by
  obtain ⟨h1, h2⟩ := insAt_spec l t
  have hle := insAt_le l t
  refine ⟨fun x hx => ?_, fun x hx => ?_⟩
  · obtain ⟨j, hj, rfl⟩ := List.getElem_of_mem hx
    rw [List.length_take] at hj
    rw [List.getElem_take]
    have hlast := h2 (by omega) (by omega)
    by_cases e : j = insAt l t - 1
    · subst e; omega
    · exact cmp_le_trans (List.pairwise_iff_getElem.1 hl j (insAt l t - 1) (by omega) (by omega) (by omega)) (by omega)
  · obtain ⟨j, hj, rfl⟩ := List.getElem_of_mem hx
    rw [List.length_drop] at hj
    rw [List.getElem_drop]
    exact h1 _ (by omega) (by omega)

theorem insT_sorted (l : List Tm) (t : Tm) (hl : Sorted l) : Sorted (insT l t) := by
  obtain ⟨h1, h2⟩ := insT_parts l t hl
  have hd : Sorted (l.take (insAt l t) ++ l.drop (insAt l t)) := by rw [List.take_append_drop]; exact hl
  unfold Sorted at *
  rw [List.pairwise_append] at hd
  unfold insT
  rw [List.append_assoc, List.pairwise_append]
  refine ⟨hd.1, ?_, fun a ha b hb => ?_⟩
  · rw [List.singleton_append, List.pairwise_cons]
    exact ⟨fun b hb => by have := h2 b hb; have := cmp_neg b t; omega, hd.2.1⟩
  · rw [List.singleton_append, List.mem_cons] at hb
    rcases hb with rfl | hb
    · exact h1 a ha
    · exact hd.2.2 a ha b hb

theorem foldl_sorted : ∀ (l a : List Tm), Sorted a → Sorted (l.foldl insT a) := by
  intro l
  induction l with
  | nil => intro a h; exact h
  | cons t r ih => intro a h; exact ih _ (insT_sorted a t h)
theorem sortT_sorted (l : List Tm) : Sorted (sortT l) := foldl_sorted l [] List.Pairwise.nil

theorem insT_perm (l : List Tm) (t : Tm) : (insT l t).Perm (l ++ [t]) := by
  unfold insT
  rw [List.append_assoc]
  refine (List.Perm.append_left _ (List.perm_append_comm)).trans ?_
  rw [← List.append_assoc, List.take_append_drop]
theorem foldl_perm : ∀ (l a : List Tm), (l.foldl insT a).Perm (a ++ l) := by
  intro l
  induction l with
  | nil => intro a; simp
  | cons t r ih =>
    intro a
    refine (ih _).trans ?_
    have := (insT_perm a t).append_right r
    simpa using this
theorem sortT_perm (l : List Tm) : (sortT l).Perm l := by simpa [sortT] using foldl_perm l []

/-- Those of a list that are alike to a term. -/
def alikes (u : Tm) (l : List Tm) : List Tm := l.filter fun x => x.cmp u == 0
theorem alike_trans {a b u : Tm} (h : a.cmp u = 0) (h' : b.cmp u = 0) : a.cmp b = 0 := by
  have e := cmp_neg b u
  have := cmp_tri a u b
  have h1 := (this.1 (by omega) (by omega)).1
  have h2 := (this.2 (by omega) (by omega)).1
  omega
theorem insT_alikes (u : Tm) (l : List Tm) (t : Tm) (hl : Sorted l) : alikes u (insT l t) = alikes u l ++ alikes u [t] := by
  obtain ⟨_, h2⟩ := insT_parts l t hl
  unfold alikes insT
  rw [List.filter_append, List.filter_append]
  by_cases ht : t.cmp u = 0
  · have hd : (l.drop (insAt l t)).filter (fun x => x.cmp u == 0) = [] := by
      rw [List.filter_eq_nil_iff]
      intro x hx hxu
      have hxu : x.cmp u = 0 := by simpa using hxu
      have := h2 x hx
      have := alike_trans hxu ht
      omega
    rw [hd, List.append_nil]
    conv => rhs; rw [← List.take_append_drop (insAt l t) l, List.filter_append, hd, List.append_nil]
  · have e : [t].filter (fun x => x.cmp u == 0) = [] := by simp [ht]
    rw [e, List.append_nil, List.append_nil, ← List.filter_append, List.take_append_drop]
theorem foldl_alikes (u : Tm) : ∀ (l a : List Tm), Sorted a → alikes u (l.foldl insT a) = alikes u a ++ alikes u l := by
  intro l
  induction l with
  | nil => intro a _; simp [alikes]
  | cons t r ih =>
    intro a h
    rw [List.foldl_cons, ih _ (insT_sorted a t h), insT_alikes u a t h, List.append_assoc]
    simp only [alikes, ← List.filter_append, List.singleton_append]
theorem sortT_alikes (u : Tm) (l : List Tm) : alikes u (sortT l) = alikes u l := by
  have := foldl_alikes u l [] List.Pairwise.nil
  simpa [alikes, sortT] using this

/-- Two sorted lists that have the same alike ones, in the same order, are the same. -/
theorem sorted_unique : ∀ (r r' : List Tm), Sorted r → Sorted r' → (∀ u, alikes u r = alikes u r') → r = r' := by
  intro r
  induction r with
  | nil =>
    intro r' _ _ h
    cases r' with
    | nil => rfl
    | cons b r' =>
      have := h b
      simp [alikes, cmp_refl] at this
  | cons a r ih =>
    intro r' hr hr' h
    cases r' with
    | nil =>
      have := h a
      simp [alikes, cmp_refl] at this
    | cons b r' =>
      have hra := List.pairwise_cons.1 hr
      have hrb := List.pairwise_cons.1 hr'
      have hle : ∀ (x : Tm) (s : List Tm), (∀ y ∈ s, x.cmp y ≤ 0) → ∀ y ∈ x :: s, x.cmp y ≤ 0 := fun x s hs y hy => by
        rcases List.mem_cons.1 hy with rfl | hy
        · rw [cmp_refl]; omega
        · exact hs y hy
      have h1 : b.cmp a ≤ 0 := by
        have hm : a ∈ alikes a (b :: r') := by rw [← h a]; simp [alikes, cmp_refl]
        exact hle b r' hrb.1 a (List.mem_filter.1 hm).1
      have h2 : a.cmp b ≤ 0 := by
        have hm : b ∈ alikes b (a :: r) := by rw [h b]; simp [alikes, cmp_refl]
        exact hle a r hra.1 b (List.mem_filter.1 hm).1
      have e := cmp_neg a b
      have hab : b.cmp a = 0 := by omega
      have hh := h a
      unfold alikes at hh
      rw [List.filter_cons_of_pos (by simp [cmp_refl]), List.filter_cons_of_pos (by simp [hab])] at hh
      obtain ⟨rfl, _⟩ := List.cons.inj hh
      rw [ih r' hra.2 hrb.2 (fun u => ?_)]
      have hu := h u
      unfold alikes at hu ⊢
      by_cases hc : a.cmp u = 0
      · rw [List.filter_cons_of_pos (by simp [hc]), List.filter_cons_of_pos (by simp [hc])] at hu
        exact (List.cons.inj hu).2
      · rw [List.filter_cons_of_neg (by simp [hc]), List.filter_cons_of_neg (by simp [hc])] at hu
        exact hu
theorem sortT_only (l r : List Tm) (h : Sorted r) (h' : ∀ u, alikes u r = alikes u l) : r = sortT l := sorted_unique r _ h (sortT_sorted l) fun u => by rw [h', sortT_alikes]

end Go.Proofs.YtabcekeeekbdiaaDoor
