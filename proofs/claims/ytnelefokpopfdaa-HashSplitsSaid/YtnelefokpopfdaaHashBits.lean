/-
  How many binary digits a number has: the library's own contract, laid over this program.
-/
import Derived.Shelf.Small.Bits
import Derived.Test.YtnelefokpopfdaaHashPlain
namespace Go.Proofs.Ytnelefokpopfdaa
open Go.Shelf Go.RowKit Go.Deep

def bitsRen : Go.Shelf.Ren := ⟨fun | 125 => 20 | 128 => 23 | 129 => 24 | n => n, fun | 46 => 43 | 3 => 3 | 51 => 22 | 53 => 50 | 4 => 4 | 5 => 5 | 9 => 9 | n => n, fun | n => n⟩
theorem bitsLays : Go.Proofs.Lays.n125 Try.prog bitsRen := {
  mixed := by kernel_rfl
  f125 := Try.func20.trans (congrArg some (by kernel_rfl))
  f128 := Try.func23.trans (congrArg some (by kernel_rfl))
  f129 := Try.func24.trans (congrArg some (by kernel_rfl))
  t3 := Try.underlying3
  a3 := Try.isAgg3
  z3 := Try.sizeOf3
  v3 := Try.zeroValue3
  t4 := Try.underlying4
  a4 := Try.isAgg4
  z4 := Try.sizeOf4
  v4 := Try.zeroValue4
  t5 := Try.underlying5
  a5 := Try.isAgg5
  z5 := Try.sizeOf5
  v5 := Try.zeroValue5
  t9 := Try.underlying9
  a9 := Try.isAgg9
  z9 := Try.sizeOf9
  v9 := Try.zeroValue9
  t46 := Try.underlying43
  a46 := Try.isAgg43
  z46 := Try.sizeOf43
  v46 := Try.zeroValue43
  t51 := Try.underlying22
  a51 := Try.isAgg22
  z51 := Try.sizeOf22
  v51 := Try.zeroValue22
  t53 := Try.underlying50
  a53 := Try.isAgg50
  z53 := Try.sizeOf50
  v53 := Try.zeroValue50 }

theorem bitLen_lenN (x : Nat) (h : x < 2 ^ 64) : Lib.bitLen x = lenN x := by
  induction x using Nat.strongRecOn with
  | _ x ih =>
    by_cases h0 : x = 0
    · subst h0; rfl
    · rw [Lib.bitLen_half x h0 h, ih (x / 2) (by omega) (by omega)]
      unfold lenN
      rw [if_neg h0, Nat.log2_def x]
      by_cases h2 : 2 ≤ x
      · rw [if_pos h2, if_neg (by omega)]; omega
      · obtain rfl : x = 1 := by omega
        simp

theorem bitsLen_any (x : Nat) (h : x < 18446744073709551616) (w : World) : Calls Try.prog 20 #[.int .u64 x] w fun e w' => e = .returned (.int .i64 (lenN x)) ∧ w' = w := by
  have h1 := Any.bits_Len bitsLays (x : Int) w (by omega) (by omega)
  rw [Int.toNat_natCast, bitLen_lenN x (by omega)] at h1
  exact h1

theorem lenN_le {n k : Nat} (h : n < 2 ^ k) : lenN n ≤ k := by
  unfold lenN
  split
  · omega
  · rename_i h0
    have := (Nat.log2_lt h0).2 h
    omega

set_option maxHeartbeats 1000000 in
set_option maxRecDepth 100000 in
theorem bucket_any (h : Nat) (hh : h < 4294967296) (n : Int) (hn0 : -9223372036854775808 ≤ n) (hn1 : n ≤ 9223372036854775807) (w : World) :
    Calls Try.prog 7 #[.int .u32 h, .int .i64 n] w fun e w' => e = .returned (.tuple #[.int .i64 (bktV h n), .int .i64 (bktE n)]) ∧ w = w' := by
  by_cases hr : 1 ≤ n ∧ n ≤ 1048576
  · have hV : bktV h n = (bkt h n.toNat : Int) := if_pos hr
    have hE : bktE n = 0 := if_pos hr
    rw [hV, hE]
    obtain ⟨N, rfl⟩ := Int.eq_ofNat_of_zero_le (show 0 ≤ n by omega)
    have hN1 : 1 ≤ N := by omega
    have hN2 : N ≤ 1048576 := by omega
    clear hr hV hE
    have hlen : lenN (N - 1) ≤ 20 := lenN_le (by omega)
    have hp : Hid (powN N = 2 ^ lenN (N - 1)) := Hid.mk rfl
    have hbl : Hid (∀ x : Int, x = (N : Int) - 1 → ∀ w1, Calls Try.prog 20 #[.int .u64 x] w1 fun e w' => e = .returned (.int .i64 (lenN (N - 1))) ∧ w' = w1) := Hid.mk (fun x hx w1 => by
      obtain rfl : x = ((N - 1 : Nat) : Int) := by omega
      exact bitsLen_any (N - 1) (by omega) w1)
    generalize lenN (N - 1) = L at hlen hp hbl
    obtain ⟨m, hm⟩ : ∃ m, powN N = m := ⟨_, rfl⟩
    have hm20 : m ≤ 1048576 := by
      rw [← hm, hp.out]
      exact Nat.pow_le_pow_right (n := 2) (by omega) hlen
    have hm1 : 1 ≤ m := by rw [← hm, hp.out]; exact Nat.two_pow_pos _
    have hmN : N ≤ m := by rw [← hm]; exact powN_ge N
    have hpw : (2 : Int) ^ L % 4294967296 = (m : Int) := by
      have e : ((2 : Int) ^ L) = (m : Int) := by rw [← hm, hp.out]; simp
      rw [e]; omega
    have hm := Hid.mk hm
    clear hp
    have hmod := Nat.mod_lt h (show 0 < m from hm1)
    have hcm : Hid (((h % m : Nat) : Int) = (h : Int) % (m : Int)) := Hid.mk (by simp)
    by_cases hb : h % m < N
    · have hbv : Hid (bkt h N = h % m) := Hid.mk (by unfold bkt; rw [hm.out, if_pos hb])
      go_enter Try.func7, Try.ntmps7
      go_wp2_with (go_at_call 20; refine (hbl.out _ (by omega) _).mono ?_; rintro e w2 ⟨rfl, rfl⟩)
      go_ret2
      exact ⟨by rw [Int.toNat_natCast, hbv.out, hcm.out]; rfl, rfl⟩
    · have h2 : 2 ≤ m := by omega
      have hm20 : 0 < m / 2 := by omega
      have hbi : ¬ (h : Int) % (m : Int) < (N : Int) := by rw [← hcm.out]; omega
      have hcm2 : Hid (((h % (m / 2) : Nat) : Int) = (h : Int) % ((m : Int) / 2)) := Hid.mk (by simp)
      have hw2 := Hid.mk (show wrap64 ((h : Int) % ((m : Int) / 2)) = (h : Int) % ((m : Int) / 2) from by
        have hmod2 := Nat.mod_lt h hm20
        rw [← hcm2.out]
        unfold wrap64
        omega)
      have hbv : Hid (bkt h N = h % (m / 2)) := Hid.mk (by unfold bkt; rw [hm.out, if_neg hb])
      go_enter Try.func7, Try.ntmps7
      go_wp2_with (go_at_call 20; refine (hbl.out _ (by omega) _).mono ?_; rintro e w2 ⟨rfl, rfl⟩)
      go_ret2
      refine ⟨?_, rfl⟩
      show Ending.returned (.tuple #[.int .i64 (wrap64 ((h : Int) % ((m : Int) / 2))), .int .i64 0]) = _
      rw [hw2.out, Int.toNat_natCast, hbv.out, hcm2.out]
  · have hV : bktV h n = 0 := if_neg hr
    have hE : bktE n = 2 := if_neg hr
    rw [hV, hE]
    by_cases h1 : n < 1
    · clear hr hV hE
      go_enter Try.func7, Try.ntmps7
      go_wp2
      go_ret2
      exact ⟨rfl, rfl⟩
    · have h3 : 1048576 < n := by omega
      clear hr hV hE
      go_enter Try.func7, Try.ntmps7
      go_wp2
      go_ret2
      exact ⟨rfl, rfl⟩

end Go.Proofs.Ytnelefokpopfdaa
