/-
  AtomScript and AtomNone return true.
-/
import Derived.Test.YtjmjifjmenmdgaaAtomOpen
namespace Go.Proofs.Ytjmjifjmenmdgaa
open Go.RowKit Go.Deep Go.Maps Go.WideShapes Go.WideMaps

set_option maxRecDepth 100000 in
set_option maxHeartbeats 4000000 in
theorem lawScript6 (l : List ByteArray) (a : Option Addr) (cap : Nat) (n : Int) (w : World) (hl : Str w l a cap) :
    Calls Try.prog 3 #[.slice a l.length cap, .int .i64 n] w fun e w' => e = .returned (.bool true) ∧ Below w.heap.size w w' := by
  by_cases h60 : 60 < l.length
  · have e1 : decide (60 < l.length) = true := by rw [decide_eq_true_eq]; exact h60
    have e2 : decide ((60 : Int) < l.length) = true := by rw [decide_eq_true_eq]; omega
    clear h60 hl
    go_enter Try.func3, Try.ntmps3
    go_wp2
    go_ret
    exact ⟨rfl, Below.refl _ _⟩
  · have e1 : decide (60 < l.length) = false := by rw [decide_eq_false_iff_not]; exact h60
    have e2 : decide ((60 : Int) < l.length) = false := by rw [decide_eq_false_iff_not]; omega
    have hL := Hid.mk (show l.length ≤ 60 by omega)
    have HS := Hid.mk hl
    clear h60 hl
    go_enter Try.func3, Try.ntmps3
    go_wp2_with (first
      | (go_at_call 8; refine (now_made _).mono ?_; rintro e w1 ⟨rfl, h⟩; have T0 := Hid.mk (Two.made h); clear h))
    go_loopw [7] (fun ii wr => ∃ (i : Nat) (L : List ByteArray), i ≤ l.length ∧ ii = .int .i64 i ∧ Hid (Two w.heap.size w wr (w.heap.size + 1) w.heap.size w1.heap.size L L)) (fun ii _ => l.length - (intOf ii).toNat)
    case atStart => exact ⟨0, [], Nat.zero_le _, rfl, T0⟩
    case round =>
      obtain ⟨i, L, hi, rfl, hT⟩ := hrel
      by_cases hlt : i < l.length
      · obtain ⟨b, o, rfl, hc⟩ := HS.out.now hT.out.below i hlt
        have hci := hc i hlt
        have hsz := Hid.mk (HS.out.size i hlt)
        have hwi : IntKind.i64.wrap ((i : Int) + 1) = ((i + 1 : Nat) : Int) := by have := hL.out; rw [wrap_id (by omega) (by omega)]; omega
        clear hc
        have hce := Hid.mk (fun w' hb => HS.out.cell (w' := w') hb i hlt)
        obtain ⟨x, hx⟩ : ∃ x, l[i] = x := ⟨_, rfl⟩
        rw [hx] at hci hsz hce
        have HL := Hid.mk hlt
        clear hx
        by_cases h100 : 100 < x.size
        · have e3 : decide ((100 : Int) < x.size) = true := by rw [decide_eq_true_eq]; omega
          have e4 : decide (100 < x.size) = true := by rw [decide_eq_true_eq]; exact h100
          clear h100
          go_wp2
          go_ret
          exact ⟨rfl, hT.out.below⟩
        · have e3 : decide ((100 : Int) < x.size) = false := by rw [decide_eq_false_iff_not]; omega
          have e4 : decide (100 < x.size) = false := by rw [decide_eq_false_iff_not]; exact h100
          have hx100 := Hid.mk (show x.size ≤ 100 by omega)
          clear h100
          go_wp2_with (first
            | (go_at_call 9; refine (hT.out.intern x hsz.out).mono ?_; rintro e w2 ⟨rfl, h⟩; have T2 := Hid.mk h; clear h; have hc2 := hce.out _ T2.out.below)
            | (go_at_call 10; refine (T2.out.internR x (by have := hx100.out; omega)).mono ?_; rintro e w3 ⟨rfl, h⟩; have T3 := Hid.mk h; clear h)
            | (go_at_call 12; refine (pick6_any _ _ _ (by omega) (by have := HL.out; have := hL.out; omega)).mono ?_; rintro e w4 ⟨y, rfl, hy, rfl⟩
               have hyl : y < l.length := by have : i < l.length := HL.out; omega
               have hcy := HS.out.cell T3.out.below y hyl
               have HY := Hid.mk (HS.out.size y hyl)
               obtain ⟨z, hz⟩ : ∃ z, l[y] = z := ⟨_, rfl⟩
               rw [hz] at hcy HY
               clear hz)
            | (go_at_call 11; refine (T3.out.tells n z HY.out).mono ?_; rintro e w5 ⟨rfl, h⟩; have T4 := Hid.mk h; clear h))
          go_roundw
          case rel => exact ⟨i + 1, _, HL.out, by first | rfl | go_num, T4⟩
          case measure =>
            have h1 : i < l.length := HL.out
            simp [intOf]
            omega
      · obtain rfl : i = l.length := by omega
        go_wp2_with (first
          | (go_at_call 11; refine (hT.out.tells n _ (small_a 0 _ rfl (by decide))).mono ?_; rintro e w2 ⟨rfl, h⟩; have T2 := Hid.mk h; clear h)
          | (go_at_call 13; refine (awake6_any _).mono ?_; rintro e w3 ⟨rfl, h⟩; have T3 := Hid.mk (T2.out.up h); clear h))
        go_ret
        exact ⟨rfl, T3.out.below⟩

end Go.Proofs.Ytjmjifjmenmdgaa
