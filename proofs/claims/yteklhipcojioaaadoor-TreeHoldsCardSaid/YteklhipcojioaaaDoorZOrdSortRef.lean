/-
  The document's Sort, walked.
-/
import Derived.Test.YteklhipcojioaaaDoorZOrdRef
import Derived.Test.YteklhipcojioaaaDoorZOrdBase
import Derived.Laws.AppendOwnNone
namespace Go.Proofs.YteklhipcojioaaaDoor
open Go.RowKit Go.Deep

/-- Where a term is put: behind all that are not behind it. -/
def insAt (l : List Tm) (t : Tm) : Nat := l.length - (l.reverse.takeWhile fun x => decide (0 < x.cmp t)).length
def insT (l : List Tm) (t : Tm) : List Tm := l.take (insAt l t) ++ [t] ++ l.drop (insAt l t)
def sortT (l : List Tm) : List Tm := l.foldl insT []
theorem insAt_le (l : List Tm) (t : Tm) : insAt l t ≤ l.length := by unfold insAt; omega
theorem insT_length (l : List Tm) (t : Tm) : (insT l t).length = l.length + 1 := by
  have := insAt_le l t
  simp only [insT, List.length_append, List.length_take, List.length_cons, List.length_nil, List.length_drop]
  omega
theorem sortT_take (l : List Tm) (i : Nat) (hi : i < l.length) : sortT (l.take (i + 1)) = insT (sortT (l.take i)) l[i] := by
  unfold sortT
  rw [List.take_succ_eq_append_getElem hi, List.foldl_append]
  rfl
theorem sortT_length (l : List Tm) : (sortT l).length = l.length := by
  have : ∀ (l a : List Tm), (l.foldl insT a).length = a.length + l.length := by
    intro l
    induction l with
    | nil => intro a; simp
    | cons t r ih => intro a; rw [List.foldl_cons, ih, insT_length, List.length_cons]; omega
  unfold sortT
  rw [this]
  simp
theorem insAt_is (l : List Tm) (t : Tm) : ∀ (i : Nat), i ≤ l.length → (∀ j (_ : i ≤ j) (h : j < l.length), 0 < l[j].cmp t) → (∀ h : i - 1 < l.length, 0 < i → ¬ 0 < l[i - 1].cmp t) → insAt l t = i := by
  have key : ∀ (r : List Tm) (m : Nat), m ≤ r.length → (∀ j (_ : j < m) (h : j < r.length), 0 < r[j].cmp t) → (∀ h : m < r.length, ¬ 0 < r[m].cmp t) → (r.takeWhile fun x => decide (0 < x.cmp t)).length = m := by
    intro r
    induction r with
    | nil => intro m hm _ _; simp at hm; simp [hm]
    | cons a r ih =>
      intro m hm h1 h2
      cases m with
      | zero =>
        have := h2 (by simp)
        simp only [List.getElem_cons_zero] at this
        simp [this]
      | succ m =>
        have ha := h1 0 (by omega) (by simp)
        simp only [List.getElem_cons_zero] at ha
        rw [List.takeWhile_cons, if_pos (by simpa using ha), List.length_cons]
        rw [ih m (by simpa using hm) (fun j hj h => by have := h1 (j + 1) (by omega) (by simpa using h); simpa using this) (fun h => by have := h2 (by simpa using h); simpa using this)]
  intro i hi h1 h2
  unfold insAt
  rw [key l.reverse (l.length - i) (by simp) (fun j hj h => by
    rw [List.getElem_reverse]
    exact h1 _ (by omega) _) (fun h => by
    rw [List.length_reverse] at h
    rw [List.getElem_reverse]
    have := h2 (by omega) (by omega)
    have e : l.length - 1 - (l.length - i) = i - 1 := by omega
    simp only [e]
    exact this)]
  omega

theorem Side.insert {w : World} {S : Nat → Prop} {l : List Tm} {n at' : Nat} {xs : List Value} {t : Tm} {v0 v1 v2 v3 : Value} (h : Side w S l n xs) (hn : l.length = n) (hx : xs.length = n * 4) (hat : at' ≤ n) (hl : Lies w S t (.agg #[v0, v1, v2, v3])) :
    Side w S (l.take at' ++ [t] ++ l.drop at') (n + 1) (xs.take (at' * 4) ++ [v0, v1, v2, v3] ++ xs.drop (at' * 4)) := by
  intro q hq hq2
  have hxt : (xs.take (at' * 4)).length = at' * 4 := by rw [List.length_take]; omega
  have hlt : (l.take at').length = at' := by rw [List.length_take]; omega
  rcases Nat.lt_trichotomy q at' with h1 | h1 | h1
  · obtain ⟨u0, u1, u2, u3, e0, e1, e2, e3, hL⟩ := h q (by omega) (by omega)
    have hg : (l.take at' ++ [t] ++ l.drop at')[q] = l[q]'(by omega) := by
      rw [List.getElem_append_left (by simp [hlt]; omega), List.getElem_append_left (by omega), List.getElem_take]
    refine ⟨u0, u1, u2, u3, ?_, ?_, ?_, ?_, by rw [hg]; exact hL⟩
    all_goals (rw [List.getElem?_append_left (by simp [hxt]; omega), List.getElem?_append_left (by omega), List.getElem?_take_of_lt (by omega)]; assumption)
  · subst h1
    have hg : (l.take q ++ [t] ++ l.drop q)[q] = t := by
      rw [List.getElem_append_left (by simp [hlt]), List.getElem_append_right (by omega)]
      simp [hlt]
    refine ⟨v0, v1, v2, v3, ?_, ?_, ?_, ?_, by rw [hg]; exact hl⟩
    all_goals
      rw [List.getElem?_append_left (by simp [hxt]), List.getElem?_append_right (by omega), hxt]
      simp
  · obtain ⟨u0, u1, u2, u3, e0, e1, e2, e3, hL⟩ := h (q - 1) (by omega) (by omega)
    have hg : (l.take at' ++ [t] ++ l.drop at')[q] = l[q - 1]'(by omega) := by
      rw [List.getElem_append_right (by simp [hlt]; omega), List.getElem_drop]
      congr 1
      simp [hlt]
      omega
    refine ⟨u0, u1, u2, u3, ?_, ?_, ?_, ?_, by rw [hg]; exact hL⟩
    all_goals
      rw [List.getElem?_append_right (by simp [hxt]; omega), List.getElem?_drop]
      simp only [List.length_append, List.length_cons, List.length_nil, hxt]
    · rw [show at' * 4 + (q * 4 - (at' * 4 + (0 + 1 + 1 + 1 + 1))) = (q - 1) * 4 by omega]; exact e0
    · rw [show at' * 4 + (q * 4 + 1 - (at' * 4 + (0 + 1 + 1 + 1 + 1))) = (q - 1) * 4 + 1 by omega]; exact e1
    · rw [show at' * 4 + (q * 4 + 2 - (at' * 4 + (0 + 1 + 1 + 1 + 1))) = (q - 1) * 4 + 2 by omega]; exact e2
    · rw [show at' * 4 + (q * 4 + 3 - (at' * 4 + (0 + 1 + 1 + 1 + 1))) = (q - 1) * 4 + 3 by omega]; exact e3

theorem slice_take {xs : List Value} {m : Nat} {j : Nat} {u : Value} (h : (xs.take m)[j]? = some u) : xs[j]? = some u := by
  rw [List.getElem?_take] at h
  split at h
  · exact h
  · cases h

end Go.Proofs.YteklhipcojioaaaDoor

/-
  Sorted lists of terms, as plain mathematics: what is put in order is sorted, has the same terms, leaves alike ones as they stood, and is the only such list.
-/
namespace Go.Proofs.YteklhipcojioaaaDoor
open Go.RowKit Go.Deep

/-- None is ahead of one before it. -/
def Sorted (l : List Tm) : Prop := l.Pairwise fun a b => a.cmp b ≤ 0
theorem cmp_le_trans {a b c : Tm} (h : a.cmp b ≤ 0) (h' : b.cmp c ≤ 0) : a.cmp c ≤ 0 := ((cmp_tri a b c).1 h h').1
theorem cmp_lt_of {a b c : Tm} (h : a.cmp b ≤ 0) (h' : b.cmp c < 0) : a.cmp c < 0 := ((cmp_tri a b c).1 h (by omega)).2 (Or.inr h')
theorem cmp_lt_of' {a b c : Tm} (h : a.cmp b < 0) (h' : b.cmp c ≤ 0) : a.cmp c < 0 := ((cmp_tri a b c).1 (by omega) h').2 (Or.inl h)

theorem takeWhile_spec (f : Tm → Bool) : ∀ r : List Tm, (∀ j (_ : j < (r.takeWhile f).length) (h : j < r.length), f r[j] = true) ∧ (∀ h : (r.takeWhile f).length < r.length, f r[(r.takeWhile f).length] = false) := by
  intro r
  induction r with
  | nil => exact ⟨fun j hj h => (by cases h), fun h => (by simp at h)⟩
  | cons a r ih =>
    by_cases ha : f a = true
    · rw [List.takeWhile_cons, if_pos ha]
      refine ⟨fun j hj h => ?_, fun h => ?_⟩
      · cases j with
        | zero => exact ha
        | succ j => exact ih.1 j (by simpa using hj) (by simpa using h)
      · have := ih.2 (by simpa using h)
        simpa using this
    · rw [List.takeWhile_cons, if_neg ha]
      exact ⟨fun j hj h => (by simp at hj), fun h => by simpa using ha⟩

theorem insAt_spec (l : List Tm) (t : Tm) : (∀ j (_ : insAt l t ≤ j) (h : j < l.length), 0 < l[j].cmp t) ∧ (∀ h : insAt l t - 1 < l.length, 0 < insAt l t → ¬ 0 < l[insAt l t - 1].cmp t) := by
  have hs := takeWhile_spec (fun x => decide (0 < x.cmp t)) l.reverse
  have hle : (l.reverse.takeWhile fun x => decide (0 < x.cmp t)).length ≤ l.length := by
    have := (List.takeWhile_sublist (fun x : Tm => decide (0 < x.cmp t)) (l := l.reverse)).length_le
    simpa using this
  unfold insAt
  generalize (l.reverse.takeWhile fun x => decide (0 < x.cmp t)).length = m at hs hle
  refine ⟨fun j hj h => ?_, fun h h0 => ?_⟩
  · have := hs.1 (l.length - 1 - j) (by omega) (by simp; omega)
    rw [List.getElem_reverse] at this
    have e : l.length - 1 - (l.length - 1 - j) = j := by omega
    simp only [e, decide_eq_true_eq] at this
    exact this
  · have := hs.2 (by simp; omega)
    rw [List.getElem_reverse] at this
    have e : l.length - 1 - m = l.length - m - 1 := by omega
    simp only [e, decide_eq_false_iff_not] at this
    exact this

theorem insT_parts (l : List Tm) (t : Tm) (hl : Sorted l) : (∀ x ∈ l.take (insAt l t), x.cmp t ≤ 0) ∧ (∀ x ∈ l.drop (insAt l t), 0 < x.cmp t) := by
  obtain ⟨h1, h2⟩ := insAt_spec l t
  have hle := insAt_le l t
  refine ⟨fun x hx => ?_, fun x hx => ?_⟩
  · obtain ⟨j, hj, rfl⟩ := List.getElem_of_mem hx
    rw [List.length_take] at hj
    rw [List.getElem_take]
    have hlast := h2 (by omega) (by omega)
    by_cases e : j = insAt l t - 1
    · subst e; omega
    · exact cmp_le_trans (List.pairwise_iff_getElem.1 hl j (insAt l t - 1) (by omega) (by omega) (by omega)) (by omega)
  · obtain ⟨j, hj, rfl⟩ := List.getElem_of_mem hx
    rw [List.length_drop] at hj
    rw [List.getElem_drop]
    exact h1 _ (by omega) (by omega)

theorem insT_sorted (l : List Tm) (t : Tm) (hl : Sorted l) : Sorted (insT l t) := by
  obtain ⟨h1, h2⟩ := insT_parts l t hl
  have hd : Sorted (l.take (insAt l t) ++ l.drop (insAt l t)) := by rw [List.take_append_drop]; exact hl
  unfold Sorted at *
  rw [List.pairwise_append] at hd
  unfold insT
  rw [List.append_assoc, List.pairwise_append]
  refine ⟨hd.1, ?_, fun a ha b hb => ?_⟩
  · rw [List.singleton_append, List.pairwise_cons]
    exact ⟨fun b hb => by have := h2 b hb; have := cmp_neg b t; omega, hd.2.1⟩
  · rw [List.singleton_append, List.mem_cons] at hb
    rcases hb with rfl | hb
    · exact h1 a ha
    · exact hd.2.2 a ha b hb

theorem foldl_sorted : ∀ (l a : List Tm), Sorted a → Sorted (l.foldl insT a) := by
  intro l
  induction l with
  | nil => intro a h; exact h
  | cons t r ih => intro a h; exact ih _ (insT_sorted a t h)
theorem sortT_sorted (l : List Tm) : Sorted (sortT l) := foldl_sorted l [] List.Pairwise.nil

theorem insT_perm (l : List Tm) (t : Tm) : (insT l t).Perm (l ++ [t]) := by
  unfold insT
  rw [List.append_assoc]
  refine (List.Perm.append_left _ (List.perm_append_comm)).trans ?_
  rw [← List.append_assoc, List.take_append_drop]
theorem foldl_perm : ∀ (l a : List Tm), (l.foldl insT a).Perm (a ++ l) := by
  intro l
  induction l with
  | nil => intro a; simp
  | cons t r ih =>
    intro a
    refine (ih _).trans ?_
    have := (insT_perm a t).append_right r
    simpa using this
theorem sortT_perm (l : List Tm) : (sortT l).Perm l := by simpa [sortT] using foldl_perm l []

/-- Those of a list that are alike to a term. -/
def alikes (u : Tm) (l : List Tm) : List Tm := l.filter fun x => x.cmp u == 0
theorem alike_trans {a b u : Tm} (h : a.cmp u = 0) (h' : b.cmp u = 0) : a.cmp b = 0 := by
  have e := cmp_neg b u
  have := cmp_tri a u b
  have h1 := (this.1 (by omega) (by omega)).1
  have h2 := (this.2 (by omega) (by omega)).1
  omega
theorem insT_alikes (u : Tm) (l : List Tm) (t : Tm) (hl : Sorted l) : alikes u (insT l t) = alikes u l ++ alikes u [t] := by
  obtain ⟨_, h2⟩ := insT_parts l t hl
  unfold alikes insT
  rw [List.filter_append, List.filter_append]
  by_cases ht : t.cmp u = 0
  · have hd : (l.drop (insAt l t)).filter (fun x => x.cmp u == 0) = [] := by
      rw [List.filter_eq_nil_iff]
      intro x hx hxu
      have hxu : x.cmp u = 0 := by simpa using hxu
      have := h2 x hx
      have := alike_trans hxu ht
      omega
    rw [hd, List.append_nil]
    conv => rhs; rw [← List.take_append_drop (insAt l t) l, List.filter_append, hd, List.append_nil]
  · have e : [t].filter (fun x => x.cmp u == 0) = [] := by simp [ht]
    rw [e, List.append_nil, List.append_nil, ← List.filter_append, List.take_append_drop]
theorem foldl_alikes (u : Tm) : ∀ (l a : List Tm), Sorted a → alikes u (l.foldl insT a) = alikes u a ++ alikes u l := by
  intro l
  induction l with
  | nil => intro a _; simp [alikes]
  | cons t r ih =>
    intro a h
    rw [List.foldl_cons, ih _ (insT_sorted a t h), insT_alikes u a t h, List.append_assoc]
    simp only [alikes, ← List.filter_append, List.singleton_append]
theorem sortT_alikes (u : Tm) (l : List Tm) : alikes u (sortT l) = alikes u l := by
  have := foldl_alikes u l [] List.Pairwise.nil
  simpa [alikes, sortT] using this

/-- Two sorted lists that have the same alike ones, in the same order, are the same. -/
theorem sorted_unique : ∀ (r r' : List Tm), Sorted r → Sorted r' → (∀ u, alikes u r = alikes u r') → r = r' := by
  intro r
  induction r with
  | nil =>
    intro r' _ _ h
    cases r' with
    | nil => rfl
    | cons b r' =>
      have := h b
      simp [alikes, cmp_refl] at this
  | cons a r ih =>
    intro r' hr hr' h
    cases r' with
    | nil =>
      have := h a
      simp [alikes, cmp_refl] at this
    | cons b r' =>
      have hra := List.pairwise_cons.1 hr
      have hrb := List.pairwise_cons.1 hr'
      have hle : ∀ (x : Tm) (s : List Tm), (∀ y ∈ s, x.cmp y ≤ 0) → ∀ y ∈ x :: s, x.cmp y ≤ 0 := fun x s hs y hy => by
        rcases List.mem_cons.1 hy with rfl | hy
        · rw [cmp_refl]; omega
        · exact hs y hy
      have h1 : b.cmp a ≤ 0 := by
        have hm : a ∈ alikes a (b :: r') := by rw [← h a]; simp [alikes, cmp_refl]
        exact hle b r' hrb.1 a (List.mem_filter.1 hm).1
      have h2 : a.cmp b ≤ 0 := by
        have hm : b ∈ alikes b (a :: r) := by rw [h b]; simp [alikes, cmp_refl]
        exact hle a r hra.1 b (List.mem_filter.1 hm).1
      have e := cmp_neg a b
      have hab : b.cmp a = 0 := by omega
      have hh := h a
      unfold alikes at hh
      rw [List.filter_cons_of_pos (by simp [cmp_refl]), List.filter_cons_of_pos (by simp [hab])] at hh
      obtain ⟨rfl, _⟩ := List.cons.inj hh
      rw [ih r' hra.2 hrb.2 (fun u => ?_)]
      have hu := h u
      unfold alikes at hu ⊢
      by_cases hc : a.cmp u = 0
      · rw [List.filter_cons_of_pos (by simp [hc]), List.filter_cons_of_pos (by simp [hc])] at hu
        exact (List.cons.inj hu).2
      · rw [List.filter_cons_of_neg (by simp [hc]), List.filter_cons_of_neg (by simp [hc])] at hu
        exact hu
theorem sortT_only (l r : List Tm) (h : Sorted r) (h' : ∀ u, alikes u r = alikes u l) : r = sortT l := sorted_unique r _ h (sortT_sorted l) fun u => by rw [h', sortT_alikes]

end Go.Proofs.YteklhipcojioaaaDoor

/-
  The document's Unique, walked.
-/
namespace Go.Proofs.YteklhipcojioaaaDoor
open Go.RowKit Go.Deep

/-- A list without those that are alike to the one ahead. -/
def keepB (q : Option Tm) (t : Tm) : Bool := match q with
  | none => true
  | some q => q.cmp t != 0
def uniqG : Option Tm → List Tm → List Tm
  | _, [] => []
  | p, b :: r => if keepB p b = true then b :: uniqG (some b) r else uniqG (some b) r
def uniqT (s : List Tm) : List Tm := uniqG none s
def prevT (p : Option Tm) (s : List Tm) (i : Nat) : Option Tm := if i = 0 then p else s[i - 1]?
theorem uniqG_take : ∀ (s : List Tm) (p : Option Tm) (i : Nat) (hi : i < s.length), uniqG p (s.take (i + 1)) = uniqG p (s.take i) ++ (if keepB (prevT p s i) s[i] = true then [s[i]] else []) := by
  intro s
  induction s with
  | nil => intro p i hi; cases hi
  | cons b r ih =>
    intro p i hi
    cases i with
    | zero =>
      simp only [List.take_succ_cons, List.take_zero, uniqG, List.getElem_cons_zero, prevT, if_true, List.nil_append]
    | succ i =>
      have e : prevT p (b :: r) (i + 1) = prevT (some b) r i := by
        unfold prevT
        rw [if_neg (by omega)]
        cases i with
        | zero => simp
        | succ i => simp
      rw [List.take_succ_cons, List.take_succ_cons, uniqG, uniqG, ih (some b) i (by simpa using hi), e, List.getElem_cons_succ]
      split <;> rfl
theorem uniqT_take (s : List Tm) (i : Nat) (hi : i < s.length) : uniqT (s.take (i + 1)) = uniqT (s.take i) ++ (if keepB (prevT none s i) s[i] = true then [s[i]] else []) := uniqG_take s none i hi
theorem keep_zero (s : List Tm) (hi : 0 < s.length) : keepB (prevT none s 0) s[0] = true := rfl
theorem keep_succ (s : List Tm) (i : Nat) (h0 : 0 < i) (hi : i < s.length) : keepB (prevT none s i) s[i] = (s[i - 1].cmp s[i] != 0) := by
  unfold prevT
  rw [if_neg (by omega), List.getElem?_eq_getElem (by omega)]
  rfl
theorem uniqG_length : ∀ (s : List Tm) (p : Option Tm), (uniqG p s).length ≤ s.length := by
  intro s
  induction s with
  | nil => intro p; simp [uniqG]
  | cons b r ih =>
    intro p
    rw [uniqG]
    have := ih (some b)
    split <;> simp <;> omega
theorem uniqT_length (s : List Tm) : (uniqT s).length ≤ s.length := uniqG_length s none

theorem Side.snoc {w : World} {S : Nat → Prop} {l : List Tm} {n : Nat} {xs : List Value} {t : Tm} {v0 v1 v2 v3 : Value} (h : Side w S l n xs) (hn : l.length = n) (hx : xs.length = n * 4) (hl : Lies w S t (.agg #[v0, v1, v2, v3])) :
    Side w S (l ++ [t]) (n + 1) (xs ++ [v0, v1, v2, v3]) := by
  have := Side.insert (at' := n) h hn hx (Nat.le_refl _) hl
  rw [List.take_of_length_le (by omega), List.drop_of_length_le (by omega), List.append_nil, List.take_of_length_le (by omega), List.drop_of_length_le (by omega), List.append_nil] at this
  exact this

end Go.Proofs.YteklhipcojioaaaDoor

/-
  The document's Find, walked.
-/
namespace Go.Proofs.YteklhipcojioaaaDoor
open Go.RowKit Go.Deep

/-- How many terms at the head of a list are ahead of a term; is the next one alike? -/
def findN (l : List Tm) (T : Tm) : Nat := (l.takeWhile fun x => decide (x.cmp T < 0)).length
def findB (l : List Tm) (T : Tm) : Bool := ((l[findN l T]?).map fun x => x.cmp T == 0).getD false
theorem findN_is (l : List Tm) (T : Tm) : ∀ (i : Nat), i ≤ l.length → (∀ j (_ : j < i) (h : j < l.length), l[j].cmp T < 0) → (∀ h : i < l.length, ¬ l[i].cmp T < 0) → findN l T = i := by
  unfold findN
  induction l with
  | nil => intro i hi _ _; simp at hi; simp [hi]
  | cons a r ih =>
    intro i hi h1 h2
    cases i with
    | zero =>
      have := h2 (by simp)
      simp only [List.getElem_cons_zero] at this
      simp [this]
    | succ i =>
      have ha := h1 0 (by omega) (by simp)
      simp only [List.getElem_cons_zero] at ha
      rw [List.takeWhile_cons, if_pos (by simpa using ha), List.length_cons]
      rw [ih i (by simpa using hi) (fun j hj h => by have := h1 (j + 1) (by omega) (by simpa using h); simpa using this) (fun h => by have := h2 (by simpa using h); simpa using this)]

theorem findB_some {l : List Tm} {T : Tm} {i : Nat} (hi : i < l.length) (h : findN l T = i) : findB l T = (l[i].cmp T == 0) := by
  unfold findB
  rw [h, List.getElem?_eq_getElem hi]
  rfl
theorem findB_none {l : List Tm} {T : Tm} (h : findN l T = l.length) : findB l T = false := by
  unfold findB
  rw [h, List.getElem?_eq_none (Nat.le_refl _)]
  rfl

end Go.Proofs.YteklhipcojioaaaDoor

/-
  Lists without alike neighbours, as plain mathematics: a sorted one rises, has an alike one of each term, and each is found in it.
-/
namespace Go.Proofs.YteklhipcojioaaaDoor
open Go.RowKit Go.Deep

/-- Each is ahead of those behind it. -/
def Rising (l : List Tm) : Prop := l.Pairwise fun a b => a.cmp b < 0
theorem Rising.sorted {l : List Tm} (h : Rising l) : Sorted l := h.imp (fun h => by omega)

theorem uniqG_rising : ∀ (s : List Tm) (p : Option Tm), Sorted s → (∀ q, p = some q → ∀ x ∈ s, q.cmp x ≤ 0) → Rising (uniqG p s) ∧ (∀ q, p = some q → ∀ x ∈ uniqG p s, q.cmp x < 0) ∧ (∀ x ∈ uniqG p s, x ∈ s) ∧
    (∀ x ∈ s, (∃ y ∈ uniqG p s, y.cmp x = 0) ∨ ∃ q, p = some q ∧ q.cmp x = 0) := by
  intro s
  induction s with
  | nil => intro p _ _; exact ⟨by simp [uniqG, Rising], fun q _ x hx => by simp [uniqG] at hx, fun x hx => by simp [uniqG] at hx, fun x hx => by cases hx⟩
  | cons b r ih =>
    intro p hs hp
    have hsb := List.pairwise_cons.1 hs
    obtain ⟨h1, h2, h3, h4⟩ := ih (some b) hsb.2 (fun q hq x hx => by cases hq; exact hsb.1 x hx)
    have h2' := h2 b rfl
    rw [uniqG]
    by_cases hk : keepB p b = true
    · rw [if_pos hk]
      have hqb : ∀ q, p = some q → q.cmp b < 0 := fun q hq => by
        subst hq
        have := hp q rfl b List.mem_cons_self
        simp only [keepB, bne_iff_ne] at hk
        omega
      refine ⟨List.pairwise_cons.2 ⟨h2', h1⟩, fun q hq x hx => ?_, fun x hx => ?_, fun x hx => ?_⟩
      · rcases List.mem_cons.1 hx with rfl | hx
        · exact hqb q hq
        · exact cmp_lt_of' (hqb q hq) (by have := h2' x hx; omega)
      · rcases List.mem_cons.1 hx with rfl | hx
        · exact List.mem_cons_self
        · exact List.mem_cons_of_mem _ (h3 x hx)
      · left
        rcases List.mem_cons.1 hx with rfl | hx
        · exact ⟨x, List.mem_cons_self, cmp_refl x⟩
        · rcases h4 x hx with ⟨y, hy, hyx⟩ | ⟨q, hq, hqx⟩
          · exact ⟨y, List.mem_cons_of_mem _ hy, hyx⟩
          · cases hq; exact ⟨b, List.mem_cons_self, hqx⟩
    · rw [if_neg hk]
      obtain ⟨q, rfl, hq0⟩ : ∃ q, p = some q ∧ q.cmp b = 0 := by
        cases p with
        | none => exact absurd rfl hk
        | some q => exact ⟨q, rfl, by simpa [keepB] using hk⟩
      refine ⟨h1, fun q' hq' x hx => ?_, fun x hx => List.mem_cons_of_mem _ (h3 x hx), fun x hx => ?_⟩
      · cases hq'
        exact cmp_lt_of (by omega) (h2' x hx)
      · rcases List.mem_cons.1 hx with rfl | hx
        · exact Or.inr ⟨q, rfl, hq0⟩
        · rcases h4 x hx with h | ⟨q', hq', hqx⟩
          · exact Or.inl h
          · cases hq'
            refine Or.inr ⟨q, rfl, ?_⟩
            have := cmp_tri q b x
            have e1 := (this.1 (by omega) (by omega)).1
            have e2 := (this.2 (by omega) (by omega)).1
            omega
theorem uniqT_rising (s : List Tm) (h : Sorted s) : Rising (uniqT s) := (uniqG_rising s none h (fun q hq => by cases hq)).1
theorem uniqT_has (s : List Tm) (h : Sorted s) (x : Tm) (hx : x ∈ s) : ∃ y ∈ uniqT s, y.cmp x = 0 := by
  rcases (uniqG_rising s none h (fun q hq => by cases hq)).2.2.2 x hx with h | ⟨q, hq, _⟩
  · exact h
  · cases hq

/-- A term that a rising list has an alike one of is found in it. -/
theorem find_rising (b : List Tm) (t : Tm) (hb : Rising b) (h : ∃ y ∈ b, y.cmp t = 0) : findB b t = true ∧ ∃ h : findN b t < b.length, b[findN b t].cmp t = 0 := by
  obtain ⟨y, hy, hyt⟩ := h
  obtain ⟨j, hj, rfl⟩ := List.getElem_of_mem hy
  have hf : findN b t = j := findN_is b t j (by omega) (fun i hi h => cmp_lt_of' (List.pairwise_iff_getElem.1 hb i j h hj hi) (by omega)) (fun _ => by omega)
  refine ⟨?_, by rw [hf]; exact hj, ?_⟩
  · rw [findB_some hj hf, hyt]; rfl
  · simp only [hf]; exact hyt

/-- How many terms of a list are the same as one. -/
noncomputable def countT (l : List Tm) (t : Tm) : Nat := (l.filter fun x => eqB x t).length
theorem countT_perm {l l' : List Tm} (h : l.Perm l') (t : Tm) : countT l t = countT l' t := (h.filter _).length_eq
theorem countT_sort (l : List Tm) (t : Tm) : countT (sortT l) t = countT l t := countT_perm (sortT_perm l) t
theorem countT_take (l : List Tm) (t : Tm) (i : Nat) (hi : i < l.length) : countT (l.take (i + 1)) t = countT (l.take i) t + (if eqB l[i] t = true then 1 else 0) := by
  unfold countT
  rw [List.take_succ_eq_append_getElem hi, List.filter_append, List.length_append]
  congr 1
  cases h : eqB l[i] t <;> simp [h]
theorem countT_le (l : List Tm) (t : Tm) : countT l t ≤ l.length := List.length_filter_le _ _

end Go.Proofs.YteklhipcojioaaaDoor

/-
  What a symmetric merge does, as plain mathematics.
-/
namespace Go.Proofs.YteklhipcojioaaaDoor
open Go.RowKit Go.Deep

theorem sortT_mem {l : List Tm} {x : Tm} : x ∈ sortT l ↔ x ∈ l := (sortT_perm l).mem_iff
theorem sortT_id {l : List Tm} (h : Sorted l) : sortT l = l := (sortT_only l l h (fun _ => rfl)).symm
theorem sortT_snoc (l : List Tm) (t : Tm) : sortT (l ++ [t]) = insT (sortT l) t := by
  unfold sortT
  rw [List.foldl_append]
  rfl
theorem alikes_append (u : Tm) (a b : List Tm) : alikes u (a ++ b) = alikes u a ++ alikes u b := List.filter_append ..
theorem sortT_sortT (a b : List Tm) : sortT (sortT a ++ b) = sortT (a ++ b) := by
  refine sortT_only _ _ (sortT_sorted _) fun u => ?_
  rw [sortT_alikes, alikes_append, alikes_append, sortT_alikes]

/-- Two stretches that are sorted, each parted in two: those behind in the first are behind those ahead in the second, those ahead in the first not behind those behind in the second: the middle ones are exchanged, and each half is sorted by itself. -/
theorem merge_parts (X1 X2 Y1 Y2 : List Tm) (hX : Sorted (X1 ++ X2)) (hY : Sorted (Y1 ++ Y2)) (hlt : ∀ x ∈ X2, ∀ y ∈ Y1, y.cmp x < 0) (hle : ∀ x ∈ X1, ∀ y ∈ Y2, x.cmp y ≤ 0) :
    sortT (X1 ++ X2 ++ (Y1 ++ Y2)) = sortT (X1 ++ Y1) ++ sortT (X2 ++ Y2) := by
  refine (sortT_only _ _ ?_ fun u => ?_).symm
  · unfold Sorted at hX hY ⊢
    rw [List.pairwise_append] at hX hY ⊢
    refine ⟨sortT_sorted _, sortT_sorted _, fun a ha b hb => ?_⟩
    rw [sortT_mem, List.mem_append] at ha hb
    rcases ha with ha | ha <;> rcases hb with hb | hb
    · exact hX.2.2 a ha b hb
    · exact hle a ha b hb
    · have := hlt b hb a ha; omega
    · exact hY.2.2 a ha b hb
  · rw [alikes_append, sortT_alikes, sortT_alikes]
    simp only [alikes_append]
    have hmid : alikes u Y1 ++ alikes u X2 = alikes u X2 ++ alikes u Y1 := by
      by_cases h1 : alikes u X2 = []
      · rw [h1, List.nil_append, List.append_nil]
      · have h2 : alikes u Y1 = [] := by
          unfold alikes
          rw [List.filter_eq_nil_iff]
          intro y hy hyu
          obtain ⟨x, r, hx⟩ := List.exists_cons_of_ne_nil h1
          have hm : x ∈ alikes u X2 := by rw [hx]; exact List.mem_cons_self
          have hxx := List.mem_filter.1 hm
          have := alike_trans (a := y) (b := x) (u := u) (by simpa using hyu) (by simpa using hxx.2)
          have := hlt x hxx.1 y hy
          omega
        rw [h2, List.nil_append, List.append_nil]
    rw [List.append_assoc, ← List.append_assoc (alikes u Y1), hmid]
    simp only [List.append_assoc]

/-- One term ahead of a sorted stretch: it goes behind those that are ahead of it. -/
theorem merge_one_left (x : Tm) (Y1 Y2 : List Tm) (hY : Sorted (Y1 ++ Y2)) (hlt : ∀ y ∈ Y1, y.cmp x < 0) (hle : ∀ y ∈ Y2, ¬ y.cmp x < 0) : sortT (x :: (Y1 ++ Y2)) = Y1 ++ x :: Y2 := by
  have h := merge_parts [] [x] Y1 Y2 (List.pairwise_singleton _ _) hY (fun a ha y hy => by rw [List.mem_singleton.1 ha]; exact hlt y hy) (fun a ha => by cases ha)
  simp only [List.nil_append, List.singleton_append] at h
  unfold Sorted at hY
  rw [List.pairwise_append] at hY
  rw [h, sortT_id hY.1, sortT_id (List.pairwise_cons.2 ⟨fun y hy => by have := hle y hy; have := cmp_neg x y; omega, hY.2.1⟩)]
/-- One term behind a sorted stretch: it goes ahead of those that are behind it. -/
theorem merge_one_right (X1 X2 : List Tm) (y : Tm) (hX : Sorted (X1 ++ X2)) (hle : ∀ x ∈ X1, ¬ y.cmp x < 0) (hlt : ∀ x ∈ X2, y.cmp x < 0) : sortT (X1 ++ X2 ++ [y]) = X1 ++ y :: X2 := by
  have h := merge_parts X1 X2 [y] [] hX (List.pairwise_singleton _ _) (fun x hx b hb => by rw [List.mem_singleton.1 hb]; exact hlt x hx) (fun x _ b hb => by cases hb)
  simp only [List.append_nil] at h
  unfold Sorted at hX
  rw [List.pairwise_append] at hX
  have h1 : Sorted (X1 ++ [y]) := by
    unfold Sorted
    rw [List.pairwise_append]
    exact ⟨hX.1, List.pairwise_singleton _ _, fun a ha b hb => by rw [List.mem_singleton.1 hb]; have := hle a ha; have := cmp_neg a y; omega⟩
  rw [h, sortT_id h1, sortT_id hX.2.1, List.append_assoc]
  rfl

end Go.Proofs.YteklhipcojioaaaDoor
