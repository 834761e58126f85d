/-
  Which bucket of so many a hash has: the program's own.
-/
import Derived.Test.YtkijbphbibcnoaaKitBkt
namespace Go.Proofs.Ytkijbphbibcnoaa
open Go.Shelf Go.RowKit Go.Deep

set_option maxHeartbeats 1000000 in
set_option maxRecDepth 100000 in
theorem bucket_any (h : Nat) (hh : h < 4294967296) (n : Int) (hn0 : -9223372036854775808 ≤ n) (hn1 : n ≤ 9223372036854775807) (w : World) :
    Calls Try.prog 47 #[.int .u32 h, .int .i64 n] w fun e w' => e = .returned (.tuple #[.int .i64 (bktV h n), .int .i64 (bktE n)]) ∧ w = w' := by
  by_cases hr : 1 ≤ n ∧ n ≤ 1048576
  · have hV : bktV h n = (bkt h n.toNat : Int) := if_pos hr
    have hE : bktE n = 0 := if_pos hr
    rw [hV, hE]
    obtain ⟨N, rfl⟩ := Int.eq_ofNat_of_zero_le (show 0 ≤ n by omega)
    have hN1 : 1 ≤ N := by omega
    have hN2 : N ≤ 1048576 := by omega
    clear hr hV hE
    have hlen : lenN (N - 1) ≤ 20 := lenN_le (by omega)
    have hp : Hid (powN N = 2 ^ lenN (N - 1)) := Hid.mk rfl
    have hbl : Hid (∀ x : Int, x = (N : Int) - 1 → ∀ w1, Calls Try.prog 50 #[.int .u64 x] w1 fun e w' => e = .returned (.int .i64 (lenN (N - 1))) ∧ w' = w1) := Hid.mk (fun x hx w1 => by
      obtain rfl : x = ((N - 1 : Nat) : Int) := by omega
      exact bitsLen_any (N - 1) (by omega) w1)
    generalize lenN (N - 1) = L at hlen hp hbl
    obtain ⟨m, hm⟩ : ∃ m, powN N = m := ⟨_, rfl⟩
    have hm20 : m ≤ 1048576 := by
      rw [← hm, hp.out]
      exact Nat.pow_le_pow_right (n := 2) (by omega) hlen
    have hm1 : 1 ≤ m := by rw [← hm, hp.out]; exact Nat.two_pow_pos _
    have hmN : N ≤ m := by rw [← hm]; exact powN_ge N
    have hpw : (2 : Int) ^ L % 4294967296 = (m : Int) := by
      have e : ((2 : Int) ^ L) = (m : Int) := by rw [← hm, hp.out]; simp
      rw [e]; omega
    have hm := Hid.mk hm
    clear hp
    have hmod := Nat.mod_lt h (show 0 < m from hm1)
    have hcm : Hid (((h % m : Nat) : Int) = (h : Int) % (m : Int)) := Hid.mk (by simp)
    by_cases hb : h % m < N
    · have hbv : Hid (bkt h N = h % m) := Hid.mk (by unfold bkt; rw [hm.out, if_pos hb])
      go_enter Try.func47, Try.ntmps47
      go_wp2_with (go_at_call 50; refine (hbl.out _ (by omega) _).mono ?_; rintro e w2 ⟨rfl, rfl⟩)
      go_ret2
      exact ⟨by rw [Int.toNat_natCast, hbv.out, hcm.out]; rfl, rfl⟩
    · have h2 : 2 ≤ m := by omega
      have hm20 : 0 < m / 2 := by omega
      have hbi : ¬ (h : Int) % (m : Int) < (N : Int) := by rw [← hcm.out]; omega
      have hcm2 : Hid (((h % (m / 2) : Nat) : Int) = (h : Int) % ((m : Int) / 2)) := Hid.mk (by simp)
      have hw2 := Hid.mk (show wrap64 ((h : Int) % ((m : Int) / 2)) = (h : Int) % ((m : Int) / 2) from by
        have hmod2 := Nat.mod_lt h hm20
        rw [← hcm2.out]
        unfold wrap64
        omega)
      have hbv : Hid (bkt h N = h % (m / 2)) := Hid.mk (by unfold bkt; rw [hm.out, if_neg hb])
      go_enter Try.func47, Try.ntmps47
      go_wp2_with (go_at_call 50; refine (hbl.out _ (by omega) _).mono ?_; rintro e w2 ⟨rfl, rfl⟩)
      go_ret2
      refine ⟨?_, rfl⟩
      show Ending.returned (.tuple #[.int .i64 (wrap64 ((h : Int) % ((m : Int) / 2))), .int .i64 0]) = _
      rw [hw2.out, Int.toNat_natCast, hbv.out, hcm2.out]
  · have hV : bktV h n = 0 := if_neg hr
    have hE : bktE n = 2 := if_neg hr
    rw [hV, hE]
    by_cases h1 : n < 1
    · clear hr hV hE
      go_enter Try.func47, Try.ntmps47
      go_wp2
      go_ret2
      exact ⟨rfl, rfl⟩
    · have h3 : 1048576 < n := by omega
      clear hr hV hE
      go_enter Try.func47, Try.ntmps47
      go_wp2
      go_ret2
      exact ⟨rfl, rfl⟩

end Go.Proofs.Ytkijbphbibcnoaa
