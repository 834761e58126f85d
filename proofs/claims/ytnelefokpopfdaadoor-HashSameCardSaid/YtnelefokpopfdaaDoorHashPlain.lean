/-
  Buckets, as plain mathematics, and the document's Bucket, walked.
-/
import Derived.Test.YtnelefokpopfdaaDoorTermReads
namespace Go.Proofs.YtnelefokpopfdaaDoor
open Go.RowKit Go.Deep

/-- How many binary digits a number has. -/
def lenN (k : Nat) : Nat := if k = 0 then 0 else Nat.log2 k + 1
/-- The least power of two that is at least n. -/
def powN (n : Nat) : Nat := 2 ^ lenN (n - 1)
theorem powN_ge (n : Nat) : n ≤ powN n := by
  unfold powN lenN
  split
  · have : 0 < 2 ^ 0 := by decide
    omega
  · have := Nat.lt_log2_self (n := n - 1)
    omega
theorem powN_is (n j : Nat) (h1 : n ≤ 2 ^ j) (h2 : j = 0 ∨ 2 ^ (j - 1) < n) : 2 ^ j = powN n := by
  unfold powN
  congr 1
  unfold lenN
  split
  · rename_i h
    rcases h2 with h2 | h2
    · exact h2
    · have : 0 < 2 ^ (j - 1) := Nat.two_pow_pos _
      omega
  · rename_i h
    rcases h2 with rfl | h2
    · simp at h1; omega
    · have e : Nat.log2 (n - 1) = j - 1 := by
        rw [Nat.log2_eq_iff h]
        have hj : j ≠ 0 := by
          rintro rfl
          simp at h1 h2
          omega
        rw [show j - 1 + 1 = j by omega]
        omega
      have hj : j ≠ 0 := by
        rintro rfl
        simp at h1 h2
        omega
      omega
/-- The bucket of a hash, of n. -/
def bkt (h n : Nat) : Nat := if h % powN n < n then h % powN n else h % (powN n / 2)
def bktE (n : Int) : Int := if 1 ≤ n ∧ n ≤ 1048576 then 0 else 2
def bktV (h : Nat) (n : Int) : Int := if 1 ≤ n ∧ n ≤ 1048576 then (bkt h n.toNat : Int) else 0

end Go.Proofs.YtnelefokpopfdaaDoor
