/-
  How many binary digits a number has: the library's own contract, laid over this program.
-/
import Derived.Shelf.Small.Bits
import Derived.Test.YtkijbphbibcnoaaKitBase
namespace Go.Proofs.Ytkijbphbibcnoaa
open Go.Shelf Go.RowKit Go.Deep

/-- How many binary digits a number has. -/
def lenN (k : Nat) : Nat := if k = 0 then 0 else Nat.log2 k + 1
def bitsRen : Go.Shelf.Ren := ⟨fun | 125 => 50 | 128 => 52 | 129 => 53 | n => n, fun | 46 => 77 | 3 => 3 | 51 => 32 | 53 => 79 | 4 => 4 | 5 => 5 | 9 => 9 | n => n, fun | n => n⟩
theorem bitsLays : Go.Proofs.Lays.n125 Try.prog bitsRen := {
  mixed := by kernel_rfl
  f125 := Try.func50.trans (congrArg some (by kernel_rfl))
  f128 := Try.func52.trans (congrArg some (by kernel_rfl))
  f129 := Try.func53.trans (congrArg some (by kernel_rfl))
  t3 := Try.underlying3
  a3 := Try.isAgg3
  z3 := Try.sizeOf3
  v3 := Try.zeroValue3
  t4 := Try.underlying4
  a4 := Try.isAgg4
  z4 := Try.sizeOf4
  v4 := Try.zeroValue4
  t5 := Try.underlying5
  a5 := Try.isAgg5
  z5 := Try.sizeOf5
  v5 := Try.zeroValue5
  t9 := Try.underlying9
  a9 := Try.isAgg9
  z9 := Try.sizeOf9
  v9 := Try.zeroValue9
  t46 := Try.underlying77
  a46 := Try.isAgg77
  z46 := Try.sizeOf77
  v46 := Try.zeroValue77
  t51 := Try.underlying32
  a51 := Try.isAgg32
  z51 := Try.sizeOf32
  v51 := Try.zeroValue32
  t53 := Try.underlying79
  a53 := Try.isAgg79
  z53 := Try.sizeOf79
  v53 := Try.zeroValue79 }
theorem bitLen_lenN (x : Nat) (h : x < 2 ^ 64) : Lib.bitLen x = lenN x := by
  induction x using Nat.strongRecOn with
  | _ x ih =>
    by_cases h0 : x = 0
    · subst h0; rfl
    · rw [Lib.bitLen_half x h0 h, ih (x / 2) (by omega) (by omega)]
      unfold lenN
      rw [if_neg h0, Nat.log2_def x]
      by_cases h2 : 2 ≤ x
      · rw [if_pos h2, if_neg (by omega)]; omega
      · obtain rfl : x = 1 := by omega
        simp
theorem bitsLen_any (x : Nat) (h : x < 18446744073709551616) (w : World) : Calls Try.prog 50 #[.int .u64 x] w fun e w' => e = .returned (.int .i64 (lenN x)) ∧ w' = w := by
  have h1 := Any.bits_Len bitsLays (x : Int) w (by omega) (by omega)
  rw [Int.toNat_natCast, bitLen_lenN x (by omega)] at h1
  exact h1
theorem lenN_le {n k : Nat} (h : n < 2 ^ k) : lenN n ≤ k := by
  unfold lenN
  split
  · omega
  · rename_i h0
    have := (Nat.log2_lt h0).2 h
    omega

end Go.Proofs.Ytkijbphbibcnoaa
