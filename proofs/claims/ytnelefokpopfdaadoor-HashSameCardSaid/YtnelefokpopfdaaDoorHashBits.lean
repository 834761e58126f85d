/-
  How many binary digits a number has: the library's own contract, laid over this program.
-/
import Derived.Shelf.Small.Bits
import Derived.Test.YtnelefokpopfdaaDoorHashPlain
namespace Go.Proofs.YtnelefokpopfdaaDoor
open Go.Shelf Go.RowKit Go.Deep

def bitsRen : Go.Shelf.Ren := ⟨fun | 125 => 26 | 128 => 35 | 129 => 36 | n => n, fun | 46 => 55 | 3 => 3 | 51 => 33 | 53 => 68 | 4 => 4 | 5 => 5 | 9 => 9 | n => n, fun | n => n⟩
theorem bitsLays : Go.Proofs.Lays.n125 Tryd.prog bitsRen := {
  mixed := by kernel_rfl
  f125 := Tryd.func26.trans (congrArg some (by kernel_rfl))
  f128 := Tryd.func35.trans (congrArg some (by kernel_rfl))
  f129 := Tryd.func36.trans (congrArg some (by kernel_rfl))
  t3 := Tryd.underlying3
  a3 := Tryd.isAgg3
  z3 := Tryd.sizeOf3
  v3 := Tryd.zeroValue3
  t4 := Tryd.underlying4
  a4 := Tryd.isAgg4
  z4 := Tryd.sizeOf4
  v4 := Tryd.zeroValue4
  t5 := Tryd.underlying5
  a5 := Tryd.isAgg5
  z5 := Tryd.sizeOf5
  v5 := Tryd.zeroValue5
  t9 := Tryd.underlying9
  a9 := Tryd.isAgg9
  z9 := Tryd.sizeOf9
  v9 := Tryd.zeroValue9
  t46 := Tryd.underlying55
  a46 := Tryd.isAgg55
  z46 := Tryd.sizeOf55
  v46 := Tryd.zeroValue55
  t51 := Tryd.underlying33
  a51 := Tryd.isAgg33
  z51 := Tryd.sizeOf33
  v51 := Tryd.zeroValue33
  t53 := Tryd.underlying68
  a53 := Tryd.isAgg68
  z53 := Tryd.sizeOf68
  v53 := Tryd.zeroValue68 }

theorem bitLen_lenN (x : Nat) (h : x < 2 ^ 64) : Lib.bitLen x = lenN x := by
  induction x using Nat.strongRecOn with
  | _ x ih =>
    by_cases h0 : x = 0
    · subst h0; rfl
    · rw [Lib.bitLen_half x h0 h, ih (x / 2) (by omega) (by omega)]
      unfold lenN
      rw [if_neg h0, Nat.log2_def x]
      by_cases h2 : 2 ≤ x
      · rw [if_pos h2, if_neg (by omega)]; omega
      · obtain rfl : x = 1 := by omega
        simp

theorem bitsLen_any (x : Nat) (h : x < 18446744073709551616) (w : World) : Calls Tryd.prog 26 #[.int .u64 x] w fun e w' => e = .returned (.int .i64 (lenN x)) ∧ w' = w := by
  have h1 := Any.bits_Len bitsLays (x : Int) w (by omega) (by omega)
  rw [Int.toNat_natCast, bitLen_lenN x (by omega)] at h1
  exact h1

theorem lenN_le {n k : Nat} (h : n < 2 ^ k) : lenN n ≤ k := by
  unfold lenN
  split
  · omega
  · rename_i h0
    have := (Nat.log2_lt h0).2 h
    omega

set_option maxHeartbeats 1000000 in
set_option maxRecDepth 100000 in
theorem bucket_any (h : Nat) (hh : h < 4294967296) (n : Int) (hn0 : -9223372036854775808 ≤ n) (hn1 : n ≤ 9223372036854775807) (w : World) :
    Calls Tryd.prog 11 #[.int .u32 h, .int .i64 n] w fun e w' => e = .returned (.tuple #[.int .i64 (bktV h n), .int .i64 (bktE n)]) ∧ w = w' := by
  by_cases hr : 1 ≤ n ∧ n ≤ 1048576
  · have hV : bktV h n = (bkt h n.toNat : Int) := if_pos hr
    have hE : bktE n = 0 := if_pos hr
    rw [hV, hE]
    obtain ⟨N, rfl⟩ := Int.eq_ofNat_of_zero_le (show 0 ≤ n by omega)
    have hN1 : 1 ≤ N := by omega
    have hN2 : N ≤ 1048576 := by omega
    clear hr hV hE
    have hlen : lenN (N - 1) ≤ 20 := lenN_le (by omega)
    have hp : Hid (powN N = 2 ^ lenN (N - 1)) := Hid.mk rfl
    have hbl : Hid (∀ x : Int, x = (N : Int) - 1 → ∀ w1, Calls Tryd.prog 26 #[.int .u64 x] w1 fun e w' => e = .returned (.int .i64 (lenN (N - 1))) ∧ w' = w1) := Hid.mk (fun x hx w1 => by
      obtain rfl : x = ((N - 1 : Nat) : Int) := by omega
      exact bitsLen_any (N - 1) (by omega) w1)
    generalize lenN (N - 1) = L at hlen hp hbl
    obtain ⟨m, hm⟩ : ∃ m, powN N = m := ⟨_, rfl⟩
    have hm20 : m ≤ 1048576 := by
      rw [← hm, hp.out]
      exact Nat.pow_le_pow_right (n := 2) (by omega) hlen
    have hm1 : 1 ≤ m := by rw [← hm, hp.out]; exact Nat.two_pow_pos _
    have hmN : N ≤ m := by rw [← hm]; exact powN_ge N
    have hpw : (2 : Int) ^ L % 4294967296 = (m : Int) := by
      have e : ((2 : Int) ^ L) = (m : Int) := by rw [← hm, hp.out]; simp
      rw [e]; omega
    have hm := Hid.mk hm
    clear hp
    have hmod := Nat.mod_lt h (show 0 < m from hm1)
    have hcm : Hid (((h % m : Nat) : Int) = (h : Int) % (m : Int)) := Hid.mk (by simp)
    by_cases hb : h % m < N
    · have hbv : Hid (bkt h N = h % m) := Hid.mk (by unfold bkt; rw [hm.out, if_pos hb])
      go_enter Tryd.func11, Tryd.ntmps11
      go_wp2_with (go_at_call 26; refine (hbl.out _ (by omega) _).mono ?_; rintro e w2 ⟨rfl, rfl⟩)
      go_ret2
      exact ⟨by rw [Int.toNat_natCast, hbv.out, hcm.out]; rfl, rfl⟩
    · have h2 : 2 ≤ m := by omega
      have hm20 : 0 < m / 2 := by omega
      have hbi : ¬ (h : Int) % (m : Int) < (N : Int) := by rw [← hcm.out]; omega
      have hcm2 : Hid (((h % (m / 2) : Nat) : Int) = (h : Int) % ((m : Int) / 2)) := Hid.mk (by simp)
      have hw2 := Hid.mk (show wrap64 ((h : Int) % ((m : Int) / 2)) = (h : Int) % ((m : Int) / 2) from by
        have hmod2 := Nat.mod_lt h hm20
        rw [← hcm2.out]
        unfold wrap64
        omega)
      have hbv : Hid (bkt h N = h % (m / 2)) := Hid.mk (by unfold bkt; rw [hm.out, if_neg hb])
      go_enter Tryd.func11, Tryd.ntmps11
      go_wp2_with (go_at_call 26; refine (hbl.out _ (by omega) _).mono ?_; rintro e w2 ⟨rfl, rfl⟩)
      go_ret2
      refine ⟨?_, rfl⟩
      show Ending.returned (.tuple #[.int .i64 (wrap64 ((h : Int) % ((m : Int) / 2))), .int .i64 0]) = _
      rw [hw2.out, Int.toNat_natCast, hbv.out, hcm2.out]
  · have hV : bktV h n = 0 := if_neg hr
    have hE : bktE n = 2 := if_neg hr
    rw [hV, hE]
    by_cases h1 : n < 1
    · clear hr hV hE
      go_enter Tryd.func11, Tryd.ntmps11
      go_wp2
      go_ret2
      exact ⟨rfl, rfl⟩
    · have h3 : 1048576 < n := by omega
      clear hr hV hE
      go_enter Tryd.func11, Tryd.ntmps11
      go_wp2
      go_ret2
      exact ⟨rfl, rfl⟩

end Go.Proofs.YtnelefokpopfdaaDoor
