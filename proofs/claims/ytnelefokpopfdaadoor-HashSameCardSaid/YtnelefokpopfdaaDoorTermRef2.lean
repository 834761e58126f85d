/-
  The document's answers on terms, walked: parts, words, check.
-/
import Derived.Test.YtnelefokpopfdaaDoorTermRef
namespace Go.Proofs.YtnelefokpopfdaaDoor
open Go.RowKit Go.Deep

theorem wordsRs_le (l : List Tm) (i : Nat) : wordsRs (l.take i) ≤ wordsRs l ∧ 0 ≤ wordsRs (l.take i) := by
  have pos : ∀ t : Tm, 0 ≤ t.wordsR := fun t => by rw [← words_pre]; exact (sumW_range _).1
  induction l generalizing i with
  | nil => simp [wordsRs]
  | cons t r ih =>
    have ht := pos t
    cases i with
    | zero =>
      have := ih 0
      have h2 := ih r.length
      simp only [List.take_zero, wordsRs, List.take_length] at *
      omega
    | succ i =>
      have := ih i
      simp only [List.take_succ_cons, wordsRs]
      omega
theorem words_le (T : Tm) : 0 ≤ T.wordsR ∧ T.wordsR ≤ 2 * T.size := by
  rw [← words_pre]
  have h := sumW_range T.pre
  have h2 := pre_length T
  unfold Tm.words
  omega

end Go.Proofs.YtnelefokpopfdaaDoor
