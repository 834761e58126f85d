/-
  What the statements of the layer of words come to: each returns true, whatever it is called with.
-/
import Derived.Test.YtaiiicmldogjoaaDoorZWordWalks
namespace Go.Proofs.YtaiiicmldogjoaaDoor
open Go.RowKit

set_option maxHeartbeats 400000 in
theorem boxed_any (x : Int) (w : World) (h0 : 0 ≤ x) (h1 : x < 18446744073709551616) :
    Calls Tryd.prog 43 #[.int .u64 x] w fun e w' => e = .returned (.bool (Wd.boxedB x)) ∧ w = w' := by
  go_enter Tryd.func43, Tryd.ntmps43
  go_wp2_with (go_at_call 63; refine (kind_any _ _ h0 h1).mono ?_; rintro e w' ⟨rfl, rfl⟩)
  all_goals go_ret
  all_goals
    refine ⟨ret_bool ?_, rfl⟩
    unfold Wd.kd at *
    simp only [beq_iff_eq, beq_eq_false_iff_ne, ne_eq] at *
    rw [Bool.eq_iff_iff]
    simp only [Wd.boxedB, Bool.false_eq_true, true_iff, false_iff, decide_eq_true_eq]
    omega

/-- The world has grown since the call began, and the table lies in it still. -/
structure Kp (w0 w : World) : Prop where
  tab : WordTab w
  below : Below w0.heap.size w0 w
theorem Kp.refl {w : World} (h : WordTab w) : Kp w w := ⟨h, Below.refl _ _⟩
theorem Kp.next {w0 w w1 : World} (h : Kp w0 w) (hb : Below w.heap.size w w1) : Kp w0 w1 := ⟨h.tab.below hb, h.below.trans (hb.mono h.below.size)⟩

end Go.Proofs.YtaiiicmldogjoaaDoor
