/-
  Buckets, as plain mathematics, and the document's Bucket, walked.
-/
import Derived.Test.YtkijbphbibcnoaaKitLen
namespace Go.Proofs.Ytkijbphbibcnoaa
open Go.RowKit Go.Deep

/-- The least power of two that is at least n. -/
def powN (n : Nat) : Nat := 2 ^ lenN (n - 1)
theorem powN_ge (n : Nat) : n ≤ powN n := by
  unfold powN lenN
  split
  · have : 0 < 2 ^ 0 := by decide
    omega
  · have := Nat.lt_log2_self (n := n - 1)
    omega
theorem powN_is (n j : Nat) (h1 : n ≤ 2 ^ j) (h2 : j = 0 ∨ 2 ^ (j - 1) < n) : 2 ^ j = powN n := by
  unfold powN
  congr 1
  unfold lenN
  split
  · rename_i h
    rcases h2 with h2 | h2
    · exact h2
    · have : 0 < 2 ^ (j - 1) := Nat.two_pow_pos _
      omega
  · rename_i h
    rcases h2 with rfl | h2
    · simp at h1; omega
    · have e : Nat.log2 (n - 1) = j - 1 := by
        rw [Nat.log2_eq_iff h]
        have hj : j ≠ 0 := by
          rintro rfl
          simp at h1 h2
          omega
        rw [show j - 1 + 1 = j by omega]
        omega
      have hj : j ≠ 0 := by
        rintro rfl
        simp at h1 h2
        omega
      omega
/-- The bucket of a hash, of n. -/
def bkt (h n : Nat) : Nat := if h % powN n < n then h % powN n else h % (powN n / 2)
def bktE (n : Int) : Int := if 1 ≤ n ∧ n ≤ 1048576 then 0 else 2
def bktV (h : Nat) (n : Int) : Int := if 1 ≤ n ∧ n ≤ 1048576 then (bkt h n.toNat : Int) else 0

set_option maxHeartbeats 2000000 in
theorem refbucket_any (h : Nat) (hh : h < 4294967296) (n : Int) (w : World) :
    Calls Try.prog 51 #[.int .u32 h, .int .i64 n] w fun e w' => e = .returned (.tuple #[.int .i64 (bktV h n), .int .i64 (bktE n)]) ∧ w = w' := by
  by_cases hr : 1 ≤ n ∧ n ≤ 1048576
  · have hV : bktV h n = (bkt h n.toNat : Int) := if_pos hr
    have hE : bktE n = 0 := if_pos hr
    rw [hV, hE]
    obtain ⟨N, rfl⟩ := Int.eq_ofNat_of_zero_le (show 0 ≤ n by omega)
    have hN1 : 1 ≤ N := by omega
    have hN2 : N ≤ 1048576 := by omega
    clear hr hV hE
    go_enter Try.func51, Try.ntmps51
    go_wp2
    go_loop [6] (fun mm => ∃ (m : Nat), mm = .int .i64 m ∧ Hid (∃ j, m = 2 ^ j ∧ (j = 0 ∨ 2 ^ (j - 1) < N)) ∧ 1 ≤ m ∧ m < 2 * N) (fun mm => 4 * N - (intOf mm).toNat)
    case atStart => exact ⟨1, rfl, Hid.mk ⟨0, rfl, Or.inl rfl⟩, by omega, by omega⟩
    case round =>
      obtain ⟨m, rfl, hm, hm1, hm2⟩ := hrel
      by_cases hlt : m < N
      · go_wp2
        go_round
        case rel =>
          refine ⟨2 * m, by go_num, Hid.mk ?_, by omega, by omega⟩
          obtain ⟨j, rfl, hj⟩ := hm.out
          exact ⟨j + 1, by rw [Nat.pow_succ]; omega, Or.inr (by simpa using hlt)⟩
        case measure => simp [intOf]; omega
      · have hp : Hid (m = powN N) := Hid.mk (by
          obtain ⟨j, rfl, hj⟩ := hm.out
          exact powN_is N j (by omega) hj)
        have hmpos : 0 < m := hm1
        have hmod := Nat.mod_lt h hmpos
        have hcm : Hid (((h % m : Nat) : Int) = (h : Int) % (m : Int)) := Hid.mk (by simp)
        by_cases hb : h % m < N
        · have hbv : Hid (bkt h N = h % m) := Hid.mk (by unfold bkt; rw [← hp.out, if_pos hb])
          clear hm
          go_wp2
          go_ret2
          exact ⟨by rw [hbv.out, hcm.out]; rfl, rfl⟩
        · have h2 : 2 ≤ m := by omega
          have hm20 : 0 < m / 2 := by omega
          have hbi : ¬ (h : Int) % (m : Int) < (N : Int) := by rw [← hcm.out]; omega
          have hcm2 : Hid (((h % (m / 2) : Nat) : Int) = (h : Int) % ((m : Int) / 2)) := Hid.mk (by simp)
          have hbv : Hid (bkt h N = h % (m / 2)) := Hid.mk (by unfold bkt; rw [← hp.out, if_neg hb])
          clear hm
          go_wp2
          go_ret2
          exact ⟨by rw [hbv.out, hcm2.out]; rfl, rfl⟩
  · have hV : bktV h n = 0 := if_neg hr
    have hE : bktE n = 2 := if_neg hr
    rw [hV, hE]
    by_cases h1 : n < 1
    · clear hr hV hE
      go_enter Try.func51, Try.ntmps51
      go_wp2
      go_ret2
      exact ⟨rfl, rfl⟩
    · have h3 : 1048576 < n := by omega
      clear hr hV hE
      go_enter Try.func51, Try.ntmps51
      go_wp2
      go_ret2
      exact ⟨rfl, rfl⟩

end Go.Proofs.Ytkijbphbibcnoaa
