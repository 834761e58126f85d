/-
  Bytes mixed, as the program does it.
-/
import Derived.Test.YtnelefokpopfdaaDoorHashMix
namespace Go.Proofs.YtnelefokpopfdaaDoor
open Go.RowKit Go.Deep

set_option maxHeartbeats 1000000 in
theorem mixed_any (h : Int) (_ : 0 ≤ h) (_ : h < 4294967296) (b : UInt8) (w : World) :
    Calls Tryd.prog 25 #[.int .u32 h, .int .u8 b.toNat] w fun e w' => e = .returned (.int .u32 (mix1 h b)) ∧ w = w' := by
  have hby : (0 : Int) ≤ (b.toNat : Int) := by omega
  have hby2 : (b.toNat : Int) < 256 := by have := b.toNat_lt; omega
  go_enter Tryd.func25, Tryd.ntmps25
  go_wp2
  go_ret
  exact ⟨by rw [mix1, wrap_u32]; rfl, rfl⟩

set_option maxHeartbeats 1000000 in
theorem mix_any (h : Int) (h0 : 0 ≤ h) (h1 : h < 4294967296) (bs : List UInt8) (S : Nat → Prop) (a : Option Addr) (cap : Nat) (w : World) (hb : Byt w S bs a cap) :
    Calls Tryd.prog 27 #[.int .u32 h, .slice a bs.length cap] w fun e w' => e = .returned (.int .u32 (mixT h bs)) ∧ w = w' := by
  have hlen : bs.length ≤ 9223372036854775807 := Nat.le_trans hb.1 hb.2.1
  have hb := Hid.mk hb
  go_enter Tryd.func27, Tryd.ntmps27
  go_wp2
  go_loop [0, 9] (fun hh ii => ∃ (i : Nat) (x : Int), i ≤ bs.length ∧ ii = .int .i64 i ∧ hh = .int .u32 x ∧ 0 ≤ x ∧ x < 4294967296 ∧ Hid (x = mixT h (bs.take i))) (fun _ ii => bs.length - (intOf ii).toNat)
  case atStart => exact ⟨0, h, Nat.zero_le _, rfl, rfl, h0, h1, Hid.mk (by simp [mixT])⟩
  case round =>
    obtain ⟨i, x, hi, rfl, rfl, hx0, hx1, hx⟩ := hrel
    by_cases hlt : i < bs.length
    · obtain ⟨b, o, rfl, _, hr⟩ := hb.out.some (by omega)
      have hc := hr i hlt
      have hst := Hid.mk (mixT_take h bs i hlt)
      have hrg := mixT_range x [bs[i]] hx0 hx1
      have hmx := Hid.mk (fun w1 => mixed_any x hx0 hx1 bs[i] w1)
      clear hr
      go_wp2_with (go_at_call 25; refine (hmx.out _).mono ?_; rintro e w2 ⟨rfl, rfl⟩)
      go_round
      case rel => exact ⟨i + 1, _, hlt, by go_num, rfl, hrg.1, hrg.2, Hid.mk (by rw [hst.out, ← hx.out])⟩
      case measure => simp [intOf]; omega
    · obtain rfl : i = bs.length := by omega
      have hx' := hx.out
      rw [List.take_length] at hx'
      have hx' := Hid.mk hx'
      clear hx
      go_wp2
      go_ret
      exact ⟨rfl, rfl⟩

end Go.Proofs.YtnelefokpopfdaaDoor
