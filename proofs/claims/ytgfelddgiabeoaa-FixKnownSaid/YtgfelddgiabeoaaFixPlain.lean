/-
  Who has fixed, as plain lists: taken out of a list, who is in it, rising, and the next one.
-/
import Derived.Test.YtgfelddgiabeoaaKitBase
namespace Go.Proofs.Ytgfelddgiabeoaa
open Go.RowKit Go.Deep

/-- How often x is in a list. -/
abbrev cnt (x : Int) (l : List Int) : Nat := l.count x
/-- A list without the first k that are x. -/
def lessL (x : Int) : Nat → List Int → List Int
  | _, [] => []
  | k, y :: r => if y = x ∧ 0 < k then lessL x (k - 1) r else y :: lessL x k r
theorem lessL_nil (x : Int) (k : Nat) : lessL x k [] = [] := by cases k <;> rfl
theorem lessL_cons (x : Int) (k : Nat) (y : Int) (r : List Int) : lessL x k (y :: r) = if y = x ∧ 0 < k then lessL x (k - 1) r else y :: lessL x k r := by cases k <;> rfl
theorem lessL_zero (x : Int) : ∀ l, lessL x 0 l = l
  | [] => rfl
  | y :: r => by rw [lessL_cons, if_neg (by omega), lessL_zero x r]
theorem lessL_cnt (x y : Int) : ∀ (l : List Int) (k : Nat), cnt y (lessL x k l) = if y = x then cnt x l - k else cnt y l
  | [], k => by rw [lessL_nil]; simp [cnt]
  | z :: r, k => by
    have h1 := lessL_cnt x y r k
    have h2 := lessL_cnt x y r (k - 1)
    rw [lessL_cons]
    by_cases hz : z = x ∧ 0 < k
    · rw [if_pos hz, h2]
      obtain ⟨rfl, h0⟩ := hz
      by_cases e : y = z
      · subst e
        simp [cnt]
        omega
      · rw [if_neg e, if_neg e]
        simp [cnt, Ne.symm e]
    · rw [if_neg hz]
      simp only [cnt, List.count_cons] at h1 ⊢
      rw [h1]
      by_cases e : y = x
      · subst e
        simp only [if_pos]
        by_cases e2 : z = y
        · subst e2
          have : k = 0 := by omega
          subst this
          simp
        · simp [e2]
      · rw [if_neg e, if_neg e]
theorem lessL_len (x : Int) : ∀ (l : List Int) (k : Nat), k ≤ cnt x l → (lessL x k l).length + k = l.length
  | [], k, h => by
    rw [lessL_nil]
    simp [cnt] at h
    simp [h]
  | z :: r, k, h => by
    rw [lessL_cons]
    by_cases hz : z = x ∧ 0 < k
    · rw [if_pos hz]
      obtain ⟨rfl, h0⟩ := hz
      have h2 : k ≤ cnt z r + 1 := by simpa [cnt] using h
      have := lessL_len z r (k - 1) (by omega)
      simp only [List.length_cons]
      omega
    · rw [if_neg hz]
      have h2 : k ≤ cnt x r := by
        simp only [cnt, List.count_cons] at h
        by_cases e : z = x
        · omega
        · simpa [e] using h
      have := lessL_len x r k h2
      simp only [List.length_cons]
      omega
theorem lessL_le (x : Int) : ∀ (l : List Int) (k : Nat), (lessL x k l).length ≤ l.length
  | [], k => by rw [lessL_nil]; simp
  | z :: r, k => by
    rw [lessL_cons]
    split
    · have := lessL_le x r (k - 1); simp only [List.length_cons]; omega
    · have := lessL_le x r k; simp only [List.length_cons]; omega
theorem lessL_mem {x y : Int} : ∀ {l : List Int} {k : Nat}, y ∈ lessL x k l → y ∈ l
  | [], k, h => by rw [lessL_nil] at h; exact h
  | z :: r, k, h => by
    rw [lessL_cons] at h
    split at h
    · exact List.mem_cons_of_mem _ (lessL_mem h)
    · rcases List.mem_cons.1 h with rfl | h
      · exact List.mem_cons_self
      · exact List.mem_cons_of_mem _ (lessL_mem h)
theorem cnt_le (x : Int) (l : List Int) : cnt x l ≤ l.length := List.count_le_length
theorem cnt_snoc (x y : Int) (l : List Int) : cnt x (l ++ [y]) = if x = y then cnt x l + 1 else cnt x l := by
  simp only [cnt, List.count_append]
  by_cases e : x = y
  · subst e; simp
  · rw [if_neg e]; simp [Ne.symm e]
theorem cnt_take (x : Int) {l : List Int} {i : Nat} (h : i < l.length) : cnt x (l.take (i + 1)) = if l[i] = x then cnt x (l.take i) + 1 else cnt x (l.take i) := by
  rw [List.take_succ_eq_append_getElem h, cnt_snoc]
  by_cases e : l[i] = x
  · rw [if_pos e.symm, if_pos e]
  · rw [if_neg (fun h => e h.symm), if_neg e]

/-- A list's members, each once. -/
def ded : List Int → List Int
  | [] => []
  | x :: r => if x ∈ r then ded r else x :: ded r
theorem ded_mem {y : Int} : ∀ {l : List Int}, y ∈ ded l ↔ y ∈ l
  | [] => Iff.rfl
  | x :: r => by
    rw [ded]
    split
    · rename_i h
      rw [ded_mem, List.mem_cons]
      exact ⟨Or.inr, fun h' => h'.elim (fun e => e ▸ h) id⟩
    · rw [List.mem_cons, List.mem_cons, ded_mem]
theorem ded_nodup : ∀ l : List Int, (ded l).Nodup
  | [] => List.nodup_nil
  | x :: r => by
    rw [ded]
    split
    · exact ded_nodup r
    · rename_i h
      exact List.nodup_cons.2 ⟨fun h' => h (ded_mem.1 h'), ded_nodup r⟩
theorem ded_len : ∀ l : List Int, (ded l).length ≤ l.length
  | [] => Nat.le_refl _
  | x :: r => by
    have := ded_len r
    rw [ded]
    split <;> simp only [List.length_cons] <;> omega
/-- Who is in a list, rising. -/
def hold (l : List Int) : List Int := (ded l).mergeSort (fun x y => decide (x ≤ y))
theorem hold_perm (l : List Int) : (hold l).Perm (ded l) := List.mergeSort_perm _ _
theorem hold_mem {y : Int} {l : List Int} : y ∈ hold l ↔ y ∈ l := ((hold_perm l).mem_iff).trans ded_mem
theorem hold_nodup (l : List Int) : (hold l).Nodup := (hold_perm l).nodup_iff.2 (ded_nodup l)
theorem hold_len (l : List Int) : (hold l).length ≤ l.length := by rw [(hold_perm l).length_eq]; exact ded_len l
theorem hold_rise (l : List Int) : (hold l).Pairwise (· < ·) := by
  have h1 : (hold l).Pairwise (fun x y => decide (x ≤ y) = true) := List.pairwise_mergeSort (fun a b c h1 h2 => by simp at *; omega) (fun a b => by simp; omega) _
  have h2 : (hold l).Pairwise (fun x y => x ≠ y) := hold_nodup l
  exact (h1.and h2).imp (fun h => by have := h.1; have := h.2; simp at *; omega)
theorem hold_lt {l : List Int} {i j : Nat} (hij : i < j) (hj : j < (hold l).length) : (hold l)[i]'(by omega) < (hold l)[j] := List.pairwise_iff_getElem.1 (hold_rise l) i j (by omega) hj hij
theorem hold_sorted {l ss : List Int} (h : ss.Perm (hold l)) : ss.mergeSort (fun x y => decide (x ≤ y)) = hold l := by
  have h1 : (ss.mergeSort (fun x y => decide (x ≤ y))).Pairwise (fun x y => decide (x ≤ y) = true) := List.pairwise_mergeSort (fun a b c h1 h2 => by simp at *; omega) (fun a b => by simp; omega) _
  have h2 : (hold l).Pairwise (fun x y => decide (x ≤ y) = true) := (hold_rise l).imp (fun h => by simp; omega)
  exact (List.Perm.eq_of_pairwise (fun a b _ _ h1 h2 => by simp at h1 h2; omega) h1 h2 ((List.mergeSort_perm _ _).trans h))

/-- The least of a list that is above one, or -1. -/
def nxt (last : Int) (l : List Int) : Int := l.foldl (fun n x => if last < x ∧ (n < 0 ∨ x < n) then x else n) (-1)
theorem nxt_nil (last : Int) : nxt last [] = -1 := rfl
theorem nxt_take (last : Int) {l : List Int} {i : Nat} (h : i < l.length) : nxt last (l.take (i + 1)) = if last < l[i] ∧ (nxt last (l.take i) < 0 ∨ l[i] < nxt last (l.take i)) then l[i] else nxt last (l.take i) := by
  unfold nxt
  rw [List.take_succ_eq_append_getElem h, List.foldl_append]
  rfl
theorem nxt_says (last : Int) (l : List Int) (h0 : ∀ x ∈ l, 0 ≤ x) : ∀ i, i ≤ l.length →
    (nxt last (l.take i) = -1 ∧ ∀ x ∈ l.take i, ¬ last < x) ∨ (0 ≤ nxt last (l.take i) ∧ nxt last (l.take i) ∈ l.take i ∧ last < nxt last (l.take i) ∧ ∀ x ∈ l.take i, last < x → nxt last (l.take i) ≤ x)
  | 0, _ => Or.inl ⟨by simp [nxt_nil], by simp⟩
  | i + 1, hi => by
    have ih := nxt_says last l h0 i (by omega)
    have hlt : i < l.length := by omega
    have hx := h0 l[i] (List.getElem_mem hlt)
    have hm : ∀ x, x ∈ l.take (i + 1) ↔ x ∈ l.take i ∨ x = l[i] := fun x => by rw [List.take_succ_eq_append_getElem hlt, List.mem_append, List.mem_singleton]
    rw [nxt_take last hlt]
    generalize nxt last (l.take i) = n at ih ⊢
    generalize l[i] = y at hx hm ⊢
    by_cases hc : last < y ∧ (n < 0 ∨ y < n)
    · rw [if_pos hc]
      refine Or.inr ⟨hx, (hm y).2 (Or.inr rfl), hc.1, fun x hx1 hx2 => ?_⟩
      rcases (hm x).1 hx1 with h | rfl
      · rcases ih with ⟨e, hn⟩ | ⟨hp, h1, h2, h3⟩
        · exact absurd hx2 (hn x h)
        · have := h3 x h hx2; omega
      · exact Int.le_refl _
    · rw [if_neg hc]
      rcases ih with ⟨e, hn⟩ | ⟨hp, h1, h2, h3⟩
      · refine Or.inl ⟨e, fun x hx1 => ?_⟩
        rcases (hm x).1 hx1 with h | rfl
        · exact hn x h
        · omega
      · refine Or.inr ⟨hp, (hm n).2 (Or.inl h1), h2, fun x hx1 hx2 => ?_⟩
        rcases (hm x).1 hx1 with h | rfl
        · exact h3 x h hx2
        · omega
/-- The last of those told so far, or -1. -/
def lastOf (l : List Int) (j : Nat) : Int := if j = 0 then -1 else (hold l).getD (j - 1) (-1)
theorem lastOf_succ {l : List Int} {j : Nat} (h : j < (hold l).length) : lastOf l (j + 1) = (hold l)[j] := by
  unfold lastOf
  rw [if_neg (by omega), Nat.add_sub_cancel, List.getD_eq_getElem?_getD, List.getElem?_eq_getElem h]
  rfl
theorem lastOf_lt {l : List Int} (h0 : ∀ x ∈ l, 0 ≤ x) {i j : Nat} (hj : j ≤ (hold l).length) (hi : i < (hold l).length) : lastOf l j < (hold l)[i] ↔ j ≤ i := by
  cases j with
  | zero =>
    have := h0 _ (hold_mem.1 (List.getElem_mem hi))
    simp [lastOf]
    omega
  | succ j =>
    rw [lastOf_succ (by omega)]
    constructor
    · intro h
      refine Nat.lt_of_not_le fun hle => ?_
      rcases Nat.lt_or_eq_of_le hle with h1 | h1
      · have := hold_lt h1 (show j < (hold l).length by omega); omega
      · subst h1; omega
    · intro h
      exact hold_lt (by omega) hi
/-- The next one. -/
theorem nxt_hold {l : List Int} (h0 : ∀ x ∈ l, 0 ≤ x) {j : Nat} (hj : j < (hold l).length) : nxt (lastOf l j) l = (hold l)[j] := by
  have hs := nxt_says (lastOf l j) l h0 l.length (Nat.le_refl _)
  rw [List.take_length] at hs
  have hm : (hold l)[j] ∈ l := hold_mem.1 (List.getElem_mem hj)
  have hl := (lastOf_lt h0 (Nat.le_of_lt hj) hj).2 (Nat.le_refl _)
  rcases hs with ⟨_, hn⟩ | ⟨_, h1, h2, h3⟩
  · exact absurd hl (hn _ hm)
  · have h4 := h3 _ hm hl
    obtain ⟨i, hi, e⟩ := List.getElem_of_mem (hold_mem.2 h1)
    rw [← e] at h2 h4 ⊢
    have h5 := (lastOf_lt h0 (Nat.le_of_lt hj) hi).1 h2
    rcases Nat.lt_or_eq_of_le h5 with h6 | h6
    · have := hold_lt h6 hi; omega
    · subst h6; rfl
theorem nxt_end {l : List Int} (h0 : ∀ x ∈ l, 0 ≤ x) : nxt (lastOf l (hold l).length) l = -1 := by
  have hs := nxt_says (lastOf l (hold l).length) l h0 l.length (Nat.le_refl _)
  rw [List.take_length] at hs
  rcases hs with ⟨e, _⟩ | ⟨_, h1, h2, _⟩
  · exact e
  · obtain ⟨i, hi, e⟩ := List.getElem_of_mem (hold_mem.2 h1)
    rw [← e] at h2
    have := (lastOf_lt h0 (Nat.le_refl _) hi).1 h2
    omega

/-- How often the first k holders have fixed. -/
def sumH (l : List Int) (k : Nat) : Nat := (((hold l).take k).map (fun h => cnt h l)).sum
theorem sumH_succ {l : List Int} {k : Nat} (h : k < (hold l).length) : sumH l (k + 1) = sumH l k + cnt (hold l)[k] l := by
  unfold sumH
  rw [List.take_succ_eq_append_getElem h, List.map_append, List.sum_append]
  simp
theorem sum_cnt : ∀ (l H : List Int), H.Nodup → (∀ x ∈ l, x ∈ H) → (H.map (fun h => cnt h l)).sum = l.length
  | [], H, _, _ => by
    have : (H.map (fun h => cnt h [])) = H.map (fun _ => 0) := List.map_congr_left (fun h _ => by simp [cnt])
    rw [this]
    clear this
    induction H with
    | nil => rfl
    | cons a r ih => simp_all
  | x :: r, H, hd, hm => by
    have h1 := sum_cnt r H hd (fun y hy => hm y (List.mem_cons_of_mem _ hy))
    have h2 : ∀ G : List Int, (G.map (fun h => cnt h (x :: r))).sum = (G.map (fun h => cnt h r)).sum + G.count x := by
      intro G
      induction G with
      | nil => rfl
      | cons a t ih =>
        rw [List.map_cons, List.sum_cons, ih, List.map_cons, List.sum_cons, List.count_cons]
        simp only [cnt, List.count_cons]
        by_cases e : x = a
        · subst e; simp; omega
        · simp [e, Ne.symm e]; omega
    have h3 : H.count x = 1 := by
      have h4 := List.nodup_iff_count.1 hd x
      have h5 := List.one_le_count_iff.2 (hm x List.mem_cons_self)
      omega
    rw [h2, h1, h3]
    simp
theorem sumH_all (l : List Int) : sumH l (hold l).length = l.length := by
  unfold sumH
  rw [List.take_length]
  exact sum_cnt l (hold l) (hold_nodup l) (fun x hx => hold_mem.2 hx)
theorem sumH_le (l : List Int) {k : Nat} (_ : k ≤ (hold l).length) : sumH l k ≤ l.length := by
  have h1 := sumH_all l
  unfold sumH at *
  rw [List.take_length] at h1
  have h2 : ((hold l).map (fun h => cnt h l)).sum = (((hold l).take k).map (fun h => cnt h l)).sum + (((hold l).drop k).map (fun h => cnt h l)).sum := by
    rw [← List.sum_append, ← List.map_append, List.take_append_drop]
  omega
theorem cnt_pos {l : List Int} {x : Int} (h : x ∈ hold l) : 1 ≤ cnt x l := List.one_le_count_iff.2 (hold_mem.1 h)

end Go.Proofs.Ytgfelddgiabeoaa
