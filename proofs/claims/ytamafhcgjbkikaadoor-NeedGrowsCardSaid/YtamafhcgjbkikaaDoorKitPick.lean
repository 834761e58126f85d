/-
  Pick: some number below n.
-/
import Derived.Test.YtamafhcgjbkikaaDoorKitBase
import Derived.Laws.Small
namespace Go.Proofs.YtamafhcgjbkikaaDoor
open Go.RowKit Go.Deep

theorem pick6_any (x n : Int) (w : World) (hn : 1 ≤ n) (hn2 : n ≤ 4611686018427387904) : Calls Tryd.prog 28 #[.int .i64 x, .int .i64 n] w fun e w' => ∃ y : Nat, e = .returned (.int .i64 y) ∧ (y : Int) < n ∧ w = w' := by
  suffices h : Calls Tryd.prog 28 #[.int .i64 x, .int .i64 n] w (fun e w' => ∃ y : Int, e = .returned (.int .i64 y) ∧ 0 ≤ y ∧ y < n ∧ w = w') from h.mono fun e w' ⟨y, he, h0, h1, hw⟩ => by
    obtain ⟨m, rfl⟩ := Int.eq_ofNat_of_zero_le h0
    exact ⟨m, he, h1, hw⟩
  go_enter Tryd.func28, Tryd.ntmps28
  have h1 := Int.tmod_lt_of_pos x (b := n) (by omega)
  have h2 := Int.lt_tmod_of_pos x (b := n) (by omega)
  go_wp2
  all_goals go_ret
  · exact ⟨x.tmod n + n, by go_num, by omega, by omega, rfl⟩
  · exact ⟨_, rfl, by assumption, h1, rfl⟩

/-- .. the same one in whatever world. -/
theorem pick_fun (x n : Int) (hn : 1 ≤ n) (hn2 : n ≤ 4611686018427387904) : ∃ y : Nat, (y : Int) < n ∧ ∀ w, Calls Tryd.prog 28 #[.int .i64 x, .int .i64 n] w fun e w' => e = .returned (.int .i64 y) ∧ w = w' := by
  have h1 := Int.tmod_lt_of_pos x (b := n) (by omega)
  have h2 := Int.lt_tmod_of_pos x (b := n) (by omega)
  by_cases h0 : x.tmod n < 0
  · obtain ⟨m, hm⟩ := Int.eq_ofNat_of_zero_le (show 0 ≤ x.tmod n + n by omega)
    refine ⟨m, by omega, fun w => ?_⟩
    go_enter Tryd.func28, Tryd.ntmps28
    go_wp2
    go_ret
    exact ⟨by go_num, rfl⟩
  · obtain ⟨m, hm⟩ := Int.eq_ofNat_of_zero_le (show 0 ≤ x.tmod n by omega)
    refine ⟨m, by omega, fun w => ?_⟩
    go_enter Tryd.func28, Tryd.ntmps28
    go_wp2
    go_ret
    exact ⟨ret_int (by omega), rfl⟩

end Go.Proofs.YtamafhcgjbkikaaDoor
