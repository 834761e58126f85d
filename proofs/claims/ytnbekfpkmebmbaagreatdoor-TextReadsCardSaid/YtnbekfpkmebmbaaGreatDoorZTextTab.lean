/-
  The laid variables hold what the program's text lays; a world for the witness.
-/
import Derived.Test.YtnbekfpkmebmbaaGreatDoorZTermTab
import Derived.Test.YtnbekfpkmebmbaaGreatDoorZTextNum
import Derived.Stop.LaidErr
import Derived.LaidSub
import Derived.MakeChecks
import Derived.Lay
namespace Go.Proofs.YtnbekfpkmebmbaaGreatDoor
open Go.ChangeShapes Go.WideShapes Go.ChangeAt Go.RowKit

abbrev six : List (String × DataW Unit) := [("math/bits.deBruijn32tab", Rows.laid_math_bits_deBruijn32tab), ("math/bits.deBruijn64tab", Rows.laid_math_bits_deBruijn64tab), ("internal/strconv.uint64pow10", Rows.laid_internal_strconv_uint64pow10), ("strconv.ErrRange", Rows.laid_strconv_ErrRange), ("strconv.ErrSyntax", Rows.laid_strconv_ErrSyntax), ("tenure/term.shapes", Rows.laid_tenure_term_shapes)]
theorem six_plain (W : World) : laidMetH Tryz.prog six W = laidMet Tryz.prog six W := Go.MakeChecks.laidMetH_plain _ _ _ (by kernel_rfl)
theorem pow_is : (Rows.laid_internal_strconv_uint64pow10 : DataW Unit) = Lib.tabData .u64 Lib.pow10Tab := by kernel_rfl
def big64 : List Int := [0, 1, 56, 2, 57, 49, 28, 3, 61, 58, 42, 50, 38, 29, 17, 4, 62, 47, 59, 36, 45, 43, 51, 22, 53, 39, 33, 30, 24, 18, 12, 5, 63, 55, 48, 27, 60, 41, 37, 16, 46, 35, 44, 21, 52, 32, 23, 11, 54, 26, 40, 15, 34, 20, 31, 10, 25, 14, 19, 9, 13, 8, 7, 6]
theorem big_is : (Rows.laid_math_bits_deBruijn64tab : DataW Unit) = Lib.tabData .u8 big64 := by kernel_rfl
theorem star : "*" ++ "errors.errorString" = "*errors.errorString" := by decide
theorem rowErr (u : TypeId) (h : Tryz.prog.typeName? 3 u = some "*errors.errorString") : u = 127 :=
  typeName_ptr_named (nm := "errors.errorString") (by rw [star]; kernel_rfl) (by kernel_rfl) (by decide) u (by rw [star]; exact h)
theorem gBig : Tryz.prog.globalNamed "math/bits.deBruijn64tab" = some 6 := by kernel_rfl

theorem wld_of {W : World} (h : laidMetH Tryz.prog six W) : Wld W := by
  rw [six_plain] at h
  have t1 := laidMet.tail h
  have t2 := laidMet.tail t1
  have t3 := laidMet.tail t2
  have t4 := laidMet.tail t3
  have t5 := laidMet.tail t4
  obtain ⟨a1, s1, hr, _⟩ := laid_sentinel (tp := 127) (te := 129) (ts := 9) t3 gRan (by kernel_rfl) Tryz.underlying78 rowErr Tryz.underlying127 Tryz.underlying129 rfl rfl Tryz.underlying9 (by kernel_rfl) (by kernel_rfl)
  obtain ⟨a2, s2, hs, _⟩ := laid_sentinel (tp := 127) (te := 129) (ts := 9) t4 gSyn (by kernel_rfl) Tryz.underlying78 rowErr Tryz.underlying127 Tryz.underlying129 rfl rfl Tryz.underlying9 (by kernel_rfl) (by kernel_rfl)
  refine ⟨shape_tab ?_, ?_, ⟨_, _, hs⟩, ⟨_, _, hr⟩, ?_⟩
  · rw [Go.MakeChecks.laidMetH_plain _ _ _ (by kernel_rfl)]
    exact t5
  · refine Lib.tabIs_of_head (rest := [("strconv.ErrRange", Rows.laid_strconv_ErrRange), ("strconv.ErrSyntax", Rows.laid_strconv_ErrSyntax), ("tenure/term.shapes", Rows.laid_tenure_term_shapes)]) (t := 131) (e := 115) (n := 20) gPow (by kernel_rfl) Tryz.underlying131 Tryz.underlying115 (by kernel_rfl) (by kernel_rfl) ?_
    rw [← pow_is]
    exact t2
  · have hb : Lib.TabIs Tryz.prog W "math/bits.deBruijn64tab" .u8 big64 := by
      refine Lib.tabIs_of_head (rest := [("internal/strconv.uint64pow10", Rows.laid_internal_strconv_uint64pow10), ("strconv.ErrRange", Rows.laid_strconv_ErrRange), ("strconv.ErrSyntax", Rows.laid_strconv_ErrSyntax), ("tenure/term.shapes", Rows.laid_tenure_term_shapes)]) (t := 137) (e := 5) (n := 64) gBig (by kernel_rfl) Tryz.underlying137 Tryz.underlying5 (by kernel_rfl) (by kernel_rfl) ?_
      rw [← big_is]
      exact t1
    have := World.block_lt_of_cell? W ⟨6, 0, none⟩ (hb.cell gBig 0 (by decide))
    simp only at this; omega
noncomputable def laidWorld6 (os : Os) : World := World.laidAll Tryz.prog os six
theorem laid_met6 (os : Os) (args : Array Value) : laidMet Tryz.prog six ((laidWorld6 os).forCall (fun _ _ => 0) ⟨#[], args, []⟩).memory := laidMet_laidAll args (by kernel_rfl) (by kernel_rfl)
end Go.Proofs.YtnbekfpkmebmbaaGreatDoor
