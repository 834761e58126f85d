/-
  The document's answers on terms: which may be, how many words they have.
-/
import Derived.Test.YtamafhcgjbkikaaDoorTermCheck
namespace Go.Proofs.YtamafhcgjbkikaaDoor
open Go.RowKit Go.Deep

set_option maxHeartbeats 400000 in
theorem numbered_any (n : Int) (w : World) : Calls Tryd.prog 58 #[.int .i64 n] w fun e w' => e = .returned (.bool (decide (0 ≤ n ∧ n ≤ 1073741824))) ∧ w = w' := by
  go_enter Tryd.func58, Tryd.ntmps58
  go_wp2
  all_goals go_ret
  all_goals exact ⟨ret_bool (by simp; try omega), rfl⟩

set_option maxHeartbeats 4000000 in
theorem own_any (k n : Int) (s : ByteArray) (a : Option Addr) (len cap : Nat) (w : World) :
    Calls Tryd.prog 56 #[.agg #[.int .i64 k, .int .i64 n, .string s, .slice a len cap]] w fun e w' => e = .returned (.bool (fitB k n s.size len)) ∧ Below w.heap.size w w' := by
  have hse : s.toList = [] ↔ s.size = 0 := by
    rw [ByteArray.toList_eq, ← ByteArray.size_data, ← Array.length_toList, List.length_eq_zero_iff]
  obtain ⟨z, hz⟩ : ∃ z, s.size = z := ⟨_, rfl⟩
  rw [hz] at hse ⊢
  have hz' := Hid.mk hz
  clear hz
  have hk : (k = 1 ∨ k = 2 ∨ k = 3 ∨ k = 4 ∨ k = 5 ∨ k = 6 ∨ k = 7 ∨ k = 8 ∨ k = 9) ∨ ¬ (k = 1 ∨ k = 2 ∨ k = 3 ∨ k = 4 ∨ k = 5 ∨ k = 6 ∨ k = 7 ∨ k = 8 ∨ k = 9) := Classical.em _
  rcases hk with (rfl | rfl | rfl | rfl | rfl | rfl | rfl | rfl | rfl) | hk
  case inr =>
    have hno : Hid (fitB k n z len = false) := Hid.mk (by simp only [fitB, decide_eq_false_iff_not]; omega)
    have k1 : ¬ k = 1 := fun h => hk (by omega)
    have k2 : ¬ k = 2 := fun h => hk (by omega)
    have k3 : ¬ k = 3 := fun h => hk (by omega)
    have k4 : ¬ k = 4 := fun h => hk (by omega)
    have k5 : ¬ k = 5 := fun h => hk (by omega)
    have k6 : ¬ k = 6 := fun h => hk (by omega)
    have k7 : ¬ k = 7 := fun h => hk (by omega)
    have k8 : ¬ k = 8 := fun h => hk (by omega)
    have k9 : ¬ k = 9 := fun h => hk (by omega)
    clear hk hse
    go_enter Tryd.func56, Tryd.ntmps56
    go_wp2
    go_ret
    exact ⟨ret_bool hno.out.symm, (Below.refl _ _).alloc (Nat.le_refl _) _⟩
  all_goals
    by_cases h0 : z = 0
    · have he := hse.2 h0
      clear hse
      go_enter Tryd.func56, Tryd.ntmps56
      go_wp2_with (first | (go_at_call 58; refine (numbered_any _ _).mono ?_; rintro e w' ⟨rfl, rfl⟩) | fail)
      all_goals go_ret
      all_goals
        refine ⟨ret_bool ?_, (Below.refl _ _).alloc (Nat.le_refl _) _⟩
        have hz2 := hz'.out
        rw [Bool.eq_iff_iff]
        simp only [fitB, beq_iff_eq, decide_eq_true_eq, Bool.false_eq_true, false_iff, true_and, true_or, or_true]
        omega
    · have he : ¬ s.toList = [] := fun h => h0 (hse.1 h)
      clear hse
      go_enter Tryd.func56, Tryd.ntmps56
      go_wp2_with (first | (go_at_call 58; refine (numbered_any _ _).mono ?_; rintro e w' ⟨rfl, rfl⟩) | fail)
      all_goals go_ret
      all_goals
        refine ⟨ret_bool ?_, (Below.refl _ _).alloc (Nat.le_refl _) _⟩
        have hz2 := hz'.out
        rw [Bool.eq_iff_iff]
        simp only [fitB, beq_iff_eq, decide_eq_true_eq, Bool.false_eq_true, false_iff, true_and, true_or, or_true]
        omega

mutual
/-- May all parts of a term be? -/
def Tm.fits : Tm → Bool
  | .mk k n s l => fitB k n s.size l.length && fitss l
def fitss : List Tm → Bool
  | [] => true
  | t :: r => t.fits && fitss r
end
mutual
/-- How many words a term has, by definition. -/
def Tm.wordsR : Tm → Int
  | .mk k _ _ l => ownW k + (if hasL k = true then wordsRs l else 0)
def wordsRs : List Tm → Int
  | [] => 0
  | t :: r => t.wordsR + wordsRs r
end
theorem fits_mk (k n : Int) (s : ByteArray) (l : List Tm) : (Tm.mk k n s l).fits = (fitB k n s.size l.length && fitss l) := by rw [Tm.fits]
theorem wordsR_mk (k n : Int) (s : ByteArray) (l : List Tm) : (Tm.mk k n s l).wordsR = ownW k + (if hasL k = true then wordsRs l else 0) := by rw [Tm.wordsR]
theorem wordsRs_take (l : List Tm) (i : Nat) (hi : i < l.length) : wordsRs (l.take (i + 1)) = wordsRs (l.take i) + l[i].wordsR := by
  induction l generalizing i with
  | nil => cases hi
  | cons t r ih =>
    cases i with
    | zero => simp [wordsRs]
    | succ i =>
      have := ih i (by simpa using hi)
      simp only [List.take_succ_cons, wordsRs, List.getElem_cons_succ]
      omega
theorem fitss_take (l : List Tm) (i : Nat) (hi : i < l.length) : fitss (l.take (i + 1)) = (fitss (l.take i) && l[i].fits) := by
  induction l generalizing i with
  | nil => cases hi
  | cons t r ih =>
    cases i with
    | zero => simp [fitss]
    | succ i =>
      have := ih i (by simpa using hi)
      simp only [List.take_succ_cons, fitss, List.getElem_cons_succ, this, Bool.and_assoc]
theorem fitss_no (l : List Tm) (i : Nat) (hi : i < l.length) (h : l[i].fits = false) : fitss l = false := by
  induction l generalizing i with
  | nil => cases hi
  | cons t r ih =>
    cases i with
    | zero => rw [fitss]; simp only [List.getElem_cons_zero] at h; rw [h]; rfl
    | succ i =>
      have := ih i (by simpa using hi) (by simpa using h)
      rw [fitss, this, Bool.and_false]
/-- What has no parts that count has none, if it fits. -/
theorem fit_noL {k n : Int} {s len : Nat} (h : fitB k n s len = true) (hL : hasL k = false) : len = 0 := by
  have hL' := (hasL_not k).1 hL
  simp only [fitB, decide_eq_true_eq] at h
  omega
theorem words_pre (T : Tm) : T.words = T.wordsR := by
  induction T using Tm.induct with
  | h k n s l ih =>
    have hs : sumW (pres l) = wordsRs l := by
      induction l with
      | nil => rfl
      | cons t r ihr =>
        have h1 := ih t (by simp)
        have h2 := ihr (fun t ht => ih t (List.mem_cons_of_mem _ ht))
        simp only [pres, wordsRs, sumW_append, h2]
        rw [← h1]
        rfl
    rw [Tm.words, Tm.pre_mk, wordsR_mk]
    simp only [sumW]
    split
    · rw [hs]
    · simp [sumW]
theorem fits_pre (T : Tm) : fitAll T.pre = T.fits := by
  induction T using Tm.induct with
  | h k n s l ih =>
    have hs : fitAll (pres l) = fitss l := by
      induction l with
      | nil => rfl
      | cons t r ihr =>
        have h1 := ih t (by simp)
        have h2 := ihr (fun t ht => ih t (List.mem_cons_of_mem _ ht))
        simp only [pres, fitss, fitAll_append, h2, h1]
    rw [Tm.pre_mk, fits_mk]
    show (fitB k n s.size l.length && fitAll (if hasL k = true then pres l else [])) = _
    cases hL : hasL k
    · cases hf : fitB k n s.size l.length
      · rfl
      · have := fit_noL hf hL
        have hl : l = [] := List.eq_nil_of_length_eq_zero this
        subst hl
        simp [fitAll, fitss]
    · rw [if_pos rfl, hs]

end Go.Proofs.YtamafhcgjbkikaaDoor
