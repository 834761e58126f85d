/-
  TermLong: what the statement says, of every input.
-/
import Derived.Test.YtnpnbonodkpkdaaDoorTermLong
namespace Go.Proofs.YtnpnbonodkpkdaaDoor
open Go.RowKit Go.Deep

theorem lawLong (items each : Int) (w : World) (ht : ShapeTab w) : Calls Tryd.prog 4 #[.int .i64 items, .int .i64 each] w fun e w' => e = .returned (.bool true) ∧ Below w.heap.size w w' := by
  by_cases h : 0 ≤ items ∧ items ≤ 2000 ∧ 0 ≤ each ∧ each ≤ 70
  · exact termLong_any items each w ht h.1 h.2.1 h.2.2.1 h.2.2.2
  · have hb : (decide (items < 0) || decide (2000 < items) || decide (each < 0) || decide (70 < each)) = true := by simp; omega
    clear h
    go_enter Tryd.func4, Tryd.ntmps4
    go_wp2
    all_goals go_ret
    all_goals exact ⟨rfl, Below.refl _ _⟩

end Go.Proofs.YtnpnbonodkpkdaaDoor
