/-
  The document's answers on terms: which may be, how many words they have.
-/
import Derived.Test.YtnelefokpopfdaaDoorTermCheck
namespace Go.Proofs.YtnelefokpopfdaaDoor
open Go.RowKit Go.Deep

mutual
/-- May all parts of a term be? -/
def Tm.fits : Tm → Bool
  | .mk k n s l => fitB k n s.size l.length && fitss l
def fitss : List Tm → Bool
  | [] => true
  | t :: r => t.fits && fitss r
end
mutual
/-- How many words a term has, by definition. -/
def Tm.wordsR : Tm → Int
  | .mk k _ _ l => ownW k + (if hasL k = true then wordsRs l else 0)
def wordsRs : List Tm → Int
  | [] => 0
  | t :: r => t.wordsR + wordsRs r
end
theorem fits_mk (k n : Int) (s : ByteArray) (l : List Tm) : (Tm.mk k n s l).fits = (fitB k n s.size l.length && fitss l) := by rw [Tm.fits]
theorem wordsR_mk (k n : Int) (s : ByteArray) (l : List Tm) : (Tm.mk k n s l).wordsR = ownW k + (if hasL k = true then wordsRs l else 0) := by rw [Tm.wordsR]
theorem wordsRs_take (l : List Tm) (i : Nat) (hi : i < l.length) : wordsRs (l.take (i + 1)) = wordsRs (l.take i) + l[i].wordsR := by
  induction l generalizing i with
  | nil => cases hi
  | cons t r ih =>
    cases i with
    | zero => simp [wordsRs]
    | succ i =>
      have := ih i (by simpa using hi)
      simp only [List.take_succ_cons, wordsRs, List.getElem_cons_succ]
      omega
theorem fitss_take (l : List Tm) (i : Nat) (hi : i < l.length) : fitss (l.take (i + 1)) = (fitss (l.take i) && l[i].fits) := by
  induction l generalizing i with
  | nil => cases hi
  | cons t r ih =>
    cases i with
    | zero => simp [fitss]
    | succ i =>
      have := ih i (by simpa using hi)
      simp only [List.take_succ_cons, fitss, List.getElem_cons_succ, this, Bool.and_assoc]
theorem fitss_no (l : List Tm) (i : Nat) (hi : i < l.length) (h : l[i].fits = false) : fitss l = false := by
  induction l generalizing i with
  | nil => cases hi
  | cons t r ih =>
    cases i with
    | zero => rw [fitss]; simp only [List.getElem_cons_zero] at h; rw [h]; rfl
    | succ i =>
      have := ih i (by simpa using hi) (by simpa using h)
      rw [fitss, this, Bool.and_false]
/-- What has no parts that count has none, if it fits. -/
theorem fit_noL {k n : Int} {s len : Nat} (h : fitB k n s len = true) (hL : hasL k = false) : len = 0 := by
  have hL' := (hasL_not k).1 hL
  simp only [fitB, decide_eq_true_eq] at h
  omega
theorem words_pre (T : Tm) : T.words = T.wordsR := by
  induction T using Tm.induct with
  | h k n s l ih =>
    have hs : sumW (pres l) = wordsRs l := by
      induction l with
      | nil => rfl
      | cons t r ihr =>
        have h1 := ih t (by simp)
        have h2 := ihr (fun t ht => ih t (List.mem_cons_of_mem _ ht))
        simp only [pres, wordsRs, sumW_append, h2]
        rw [← h1]
        rfl
    rw [Tm.words, Tm.pre_mk, wordsR_mk]
    simp only [sumW]
    split
    · rw [hs]
    · simp [sumW]
theorem fits_pre (T : Tm) : fitAll T.pre = T.fits := by
  induction T using Tm.induct with
  | h k n s l ih =>
    have hs : fitAll (pres l) = fitss l := by
      induction l with
      | nil => rfl
      | cons t r ihr =>
        have h1 := ih t (by simp)
        have h2 := ihr (fun t ht => ih t (List.mem_cons_of_mem _ ht))
        simp only [pres, fitss, fitAll_append, h2, h1]
    rw [Tm.pre_mk, fits_mk]
    show (fitB k n s.size l.length && fitAll (if hasL k = true then pres l else [])) = _
    cases hL : hasL k
    · cases hf : fitB k n s.size l.length
      · rfl
      · have := fit_noL hf hL
        have hl : l = [] := List.eq_nil_of_length_eq_zero this
        subst hl
        simp [fitAll, fitss]
    · rw [if_pos rfl, hs]

end Go.Proofs.YtnelefokpopfdaaDoor
