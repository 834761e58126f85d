/-
  ArenaRounds returns true.
-/
import Derived.Test.YtpfcbokckjfhbaaArenaW
namespace Go.Proofs.Ytpfcbokckjfhbaa
open Go.RowKit Go.Deep Go.Maps Go.WideShapes

set_option maxHeartbeats 1000000 in
theorem lawRounds8 (n : Int) (w : World) : Calls Try.prog 4 #[.int .i64 n] w fun e w' => e = .returned (.bool true) ∧ Below w.heap.size w w' := by
  have h1 := Hid.mk (round_any n)
  have h2 := Hid.mk (roundR_any n)
  generalize rnd n = r at h1 h2
  go_enter Try.func4, Try.ntmps4
  go_wp2_with (first
    | (go_at_call 13; refine (h1.out _).mono ?_; rintro e w1 ⟨rfl, rfl⟩)
    | (go_at_call 14; refine (h2.out _).mono ?_; rintro e w2 ⟨rfl, rfl⟩)
    | (go_at_call 11; refine (awake8_any _).mono ?_; rintro e w3 ⟨rfl, hb⟩))
  go_ret
  exact ⟨rfl, hb⟩
end Go.Proofs.Ytpfcbokckjfhbaa
