/-
  How many binary digits a number has: the library's own contract, laid over this program.
-/
import Derived.Shelf.Small.Bits
import Derived.Test.YtamafhcgjbkikaaDoorKitBase
namespace Go.Proofs.YtamafhcgjbkikaaDoor
open Go.Shelf Go.RowKit Go.Deep

/-- How many binary digits a number has. -/
def lenN (k : Nat) : Nat := if k = 0 then 0 else Nat.log2 k + 1
def bitsRen : Go.Shelf.Ren := ⟨fun | 125 => 46 | 128 => 51 | 129 => 52 | n => n, fun | 46 => 57 | 3 => 3 | 51 => 62 | 53 => 64 | 4 => 4 | 5 => 5 | 9 => 9 | n => n, fun | n => n⟩
theorem bitsLays : Go.Proofs.Lays.n125 Tryd.prog bitsRen := {
  mixed := by kernel_rfl
  f125 := Tryd.func46.trans (congrArg some (by kernel_rfl))
  f128 := Tryd.func51.trans (congrArg some (by kernel_rfl))
  f129 := Tryd.func52.trans (congrArg some (by kernel_rfl))
  t3 := Tryd.underlying3
  a3 := Tryd.isAgg3
  z3 := Tryd.sizeOf3
  v3 := Tryd.zeroValue3
  t4 := Tryd.underlying4
  a4 := Tryd.isAgg4
  z4 := Tryd.sizeOf4
  v4 := Tryd.zeroValue4
  t5 := Tryd.underlying5
  a5 := Tryd.isAgg5
  z5 := Tryd.sizeOf5
  v5 := Tryd.zeroValue5
  t9 := Tryd.underlying9
  a9 := Tryd.isAgg9
  z9 := Tryd.sizeOf9
  v9 := Tryd.zeroValue9
  t46 := Tryd.underlying57
  a46 := Tryd.isAgg57
  z46 := Tryd.sizeOf57
  v46 := Tryd.zeroValue57
  t51 := Tryd.underlying62
  a51 := Tryd.isAgg62
  z51 := Tryd.sizeOf62
  v51 := Tryd.zeroValue62
  t53 := Tryd.underlying64
  a53 := Tryd.isAgg64
  z53 := Tryd.sizeOf64
  v53 := Tryd.zeroValue64 }
theorem bitLen_lenN (x : Nat) (h : x < 2 ^ 64) : Lib.bitLen x = lenN x := by
  induction x using Nat.strongRecOn with
  | _ x ih =>
    by_cases h0 : x = 0
    · subst h0; rfl
    · rw [Lib.bitLen_half x h0 h, ih (x / 2) (by omega) (by omega)]
      unfold lenN
      rw [if_neg h0, Nat.log2_def x]
      by_cases h2 : 2 ≤ x
      · rw [if_pos h2, if_neg (by omega)]; omega
      · obtain rfl : x = 1 := by omega
        simp
theorem bitsLen_any (x : Nat) (h : x < 18446744073709551616) (w : World) : Calls Tryd.prog 46 #[.int .u64 x] w fun e w' => e = .returned (.int .i64 (lenN x)) ∧ w' = w := by
  have h1 := Any.bits_Len bitsLays (x : Int) w (by omega) (by omega)
  rw [Int.toNat_natCast, bitLen_lenN x (by omega)] at h1
  exact h1
theorem lenN_le {n k : Nat} (h : n < 2 ^ k) : lenN n ≤ k := by
  unfold lenN
  split
  · omega
  · rename_i h0
    have := (Nat.log2_lt h0).2 h
    omega

end Go.Proofs.YtamafhcgjbkikaaDoor
