/-
  AtomNone returns true: tables that nobody made.
-/
import Derived.Test.YtjmjifjmenmdgaaAtomK
namespace Go.Proofs.Ytjmjifjmenmdgaa
open Go.RowKit Go.Deep Go.Maps Go.WideShapes Go.WideMaps

theorem cell_is {w : World} {b j : Nat} {c : Array Value} {t : TypeId} {v : Value} (h : w.heap[b]? = some (.cells c t)) (hj : c[j]? = some v) : w.cell? ⟨b, j, none⟩ = some v := by simp [World.cell?, h, hj]
/-- No table, or one that nobody made. -/
def NoTab (w : World) (v : Value) : Prop := v = .pointer none ∨ ∃ p, v = .pointer (some ⟨p, 0, none⟩) ∧ w.cell? ⟨p, 0, none⟩ = some (.pointer none)
theorem made_not {v : Value} {w : World} (h : NoTab w v) : Calls Try.prog 20 #[v] w fun e w' => e = .returned (.bool false) ∧ w = w' := by
  rcases h with rfl | ⟨p, rfl, hc⟩
  · exact made_nil w
  · exact made_zero p w hc
theorem intern_not {v : Value} {w : World} (s : ByteArray) (h : NoTab w v) : Calls Try.prog 9 #[v, .string s] w fun e w' => e = .returned (.tuple #[.int .i64 0, .int .i64 1]) ∧ w = w' := by
  have H := Hid.mk h
  clear h
  go_enter Try.func9, Try.ntmps9
  go_wp2_with (first | (go_at_call 20; refine (made_not H.out).mono ?_; rintro e w1 ⟨rfl, rfl⟩))
  go_ret2
  exact ⟨rfl, rfl⟩
theorem find_not {v : Value} {w : World} (s : ByteArray) (h : NoTab w v) : Calls Try.prog 14 #[v, .string s] w fun e w' => e = .returned (.tuple #[.int .i64 0, .bool false]) ∧ w = w' := by
  have H := Hid.mk h
  clear h
  go_enter Try.func14, Try.ntmps14
  go_wp2_with (first | (go_at_call 20; refine (made_not H.out).mono ?_; rintro e w1 ⟨rfl, rfl⟩))
  go_ret2
  exact ⟨rfl, rfl⟩
theorem name_not {v : Value} {w : World} (n : Int) (h : NoTab w v) : Calls Try.prog 15 #[v, .int .i64 n] w fun e w' => e = .returned (.tuple #[.string ⟨#[]⟩, .int .i64 1]) ∧ w = w' := by
  have H := Hid.mk h
  clear h
  go_enter Try.func15, Try.ntmps15
  go_wp2_with (first | (go_at_call 20; refine (made_not H.out).mono ?_; rintro e w1 ⟨rfl, rfl⟩))
  go_ret2
  exact ⟨rfl, rfl⟩
theorem len_not {v : Value} {w : World} (h : NoTab w v) : Calls Try.prog 16 #[v] w fun e w' => e = .returned (.int .i64 0) ∧ w = w' := by
  have H := Hid.mk h
  clear h
  go_enter Try.func16, Try.ntmps16
  go_wp2_with (first | (go_at_call 20; refine (made_not H.out).mono ?_; rintro e w1 ⟨rfl, rfl⟩))
  go_ret
  exact ⟨rfl, rfl⟩
theorem all_not {v : Value} {w : World} (h : NoTab w v) : Calls Try.prog 17 #[v] w fun e w' => e = .returned (.slice none 0 0) ∧ w = w' := by
  have H := Hid.mk h
  clear h
  go_enter Try.func17, Try.ntmps17
  go_wp2_with (first | (go_at_call 20; refine (made_not H.out).mono ?_; rintro e w1 ⟨rfl, rfl⟩))
  go_ret
  exact ⟨rfl, rfl⟩

set_option maxRecDepth 100000 in
set_option maxHeartbeats 4000000 in
theorem lawNone6 (s : ByteArray) (n : Int) (w : World) :
    Calls Try.prog 4 #[.string s, .int .i64 n] w fun e w' => e = .returned (.bool true) ∧ Below w.heap.size w w' := by
  obtain ⟨W0, hW0⟩ : ∃ W0, W0 = (w.alloc (.cells #[.pointer none, .map none, .slice none 0 0, .int .i64 0] 37)).alloc (.cells #[.pointer none, .pointer (some ⟨w.heap.size, 0, none⟩)] 23) := ⟨_, rfl⟩
  have hb : Below w.heap.size w W0 := by rw [hW0]; exact ((Below.refl _ _).alloc (Nat.le_refl _) _).alloc (by simp) _
  have c0 : W0.cell? ⟨w.heap.size + 1, 0, none⟩ = some (.pointer none) := by rw [hW0]; exact cell_is (new_block2 _ _ _) rfl
  have c1 : W0.cell? ⟨w.heap.size + 1, 1, none⟩ = some (.pointer (some ⟨w.heap.size, 0, none⟩)) := by rw [hW0]; exact cell_is (new_block2 _ _ _) rfl
  have n1 : NoTab W0 (.pointer (some ⟨w.heap.size, 0, none⟩)) := Or.inr ⟨_, rfl, by rw [hW0]; exact cell_is (new_block1 _ _ _) rfl⟩
  have n0 : NoTab W0 (.pointer none) := Or.inl rfl
  have HB := Hid.mk hb
  have N0 := Hid.mk n0
  have N1 := Hid.mk n1
  clear hb n0 n1
  go_enter Try.func4, Try.ntmps4
  go_wp2
  rw [← hW0]
  have HW0 := Hid.mk hW0
  clear hW0
  by_cases h100 : 100 < s.size
  · have e3 : decide ((s.size : Int) ≤ 100) = false := by rw [decide_eq_false_iff_not]; omega
    have e4 : decide (s.size ≤ 100) = false := by rw [decide_eq_false_iff_not]; omega
    clear h100
    go_loop [6] (fun ii => ii = .int .i64 0) (fun _ => 0)
    case atStart => rfl
    case round =>
      obtain rfl := hrel
      go_wp2_with (first
        | (go_at_call 13; refine (awake6_any _).mono ?_; rintro e w3 ⟨rfl, h⟩; have T3 := Hid.mk (HB.out.trans (h.mono HB.out.size)); clear h))
      go_ret
      exact ⟨rfl, T3.out⟩
  · have e3 : decide ((s.size : Int) ≤ 100) = true := by rw [decide_eq_true_eq]; omega
    have e4 : decide (s.size ≤ 100) = true := by rw [decide_eq_true_eq]; omega
    clear h100
    go_loop [6] (fun ii => ∃ i : Nat, i ≤ 2 ∧ ii = .int .i64 i) (fun ii => 2 - (intOf ii).toNat)
    case atStart => exact ⟨0, by omega, rfl⟩
    case round =>
      obtain ⟨i, hi, rfl⟩ := hrel
      have h012 : i = 0 ∨ i = 1 ∨ i = 2 := by omega
      clear hi
      rcases h012 with rfl | rfl | rfl
      · have NN := N0
        go_wp2_with (first
        | (go_at_call 9; refine (intern_not s NN.out).mono ?_; rintro e w1 ⟨rfl, rfl⟩)
        | (go_at_call 14; refine (find_not s NN.out).mono ?_; rintro e w1 ⟨rfl, rfl⟩)
        | (go_at_call 15; refine (name_not n NN.out).mono ?_; rintro e w1 ⟨rfl, rfl⟩)
        | (go_at_call 16; refine (len_not NN.out).mono ?_; rintro e w1 ⟨rfl, rfl⟩)
        | (go_at_call 17; refine (all_not NN.out).mono ?_; rintro e w1 ⟨rfl, rfl⟩))
        go_round
        case rel => exact ⟨1, by omega, rfl⟩
        case measure => simp [intOf]
      · have NN := N1
        go_wp2_with (first
        | (go_at_call 9; refine (intern_not s NN.out).mono ?_; rintro e w1 ⟨rfl, rfl⟩)
        | (go_at_call 14; refine (find_not s NN.out).mono ?_; rintro e w1 ⟨rfl, rfl⟩)
        | (go_at_call 15; refine (name_not n NN.out).mono ?_; rintro e w1 ⟨rfl, rfl⟩)
        | (go_at_call 16; refine (len_not NN.out).mono ?_; rintro e w1 ⟨rfl, rfl⟩)
        | (go_at_call 17; refine (all_not NN.out).mono ?_; rintro e w1 ⟨rfl, rfl⟩))
        go_round
        case rel => exact ⟨2, by omega, rfl⟩
        case measure => simp [intOf]
      · go_wp2_with (first
          | (go_at_call 13; refine (awake6_any _).mono ?_; rintro e w3 ⟨rfl, h⟩; have T3 := Hid.mk (HB.out.trans (h.mono HB.out.size)); clear h))
        go_ret
        exact ⟨rfl, T3.out⟩

end Go.Proofs.Ytjmjifjmenmdgaa
