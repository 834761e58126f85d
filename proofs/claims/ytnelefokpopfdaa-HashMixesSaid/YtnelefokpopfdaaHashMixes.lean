/-
  HashMixes: how bytes are mixed, which bucket a hash has, beside the document's answers.
-/
import Derived.Test.YtnelefokpopfdaaHashKnown
namespace Go.Proofs.Ytnelefokpopfdaa
open Go.RowKit Go.Deep

set_option maxHeartbeats 2000000 in
set_option maxRecDepth 100000 in
theorem lawMixes4 (h : Nat) (hh : h < 4294967296) (n : Int) (hn0 : -9223372036854775808 ≤ n) (hn1 : n ≤ 9223372036854775807) (bs : List UInt8) (S : Nat → Prop) (a : Option Addr) (cap : Nat) (x0 : World) (hb : Byt x0 S bs a cap) :
    Calls Try.prog 3 #[.int .u32 h, .slice a bs.length cap, .int .i64 n] x0 fun e w' => e = .returned (.bool true) ∧ Below x0.heap.size x0 w' := by
  by_cases hlong : 1000 < bs.length
  · have d1 : decide (1000 < (bs.length : Int)) = true := decide_eq_true (by omega)
    go_enter Try.func3, Try.ntmps3
    go_wp2
    go_ret
    exact ⟨rfl, Below.refl _ _⟩
  · have hl := Hid.mk (lentBytes_any bs (by omega) S a cap x0 hb)
    have hba := Hid.mk (fun w => bucketLit_any h h n _ _ hh rfl hn0 hn1 rfl rfl w)
    have hra := Hid.mk (fun w => refbucket_any h hh n w)
    have hmx := Hid.mk (fun (w : World) (h1 : w.heap[x0.heap.size]? = some (.cells ((lent bs).map enc8).toArray 5)) => mix_any h (by omega) (by omega) bs _ _ _ w (lent_byt0 h1 (by omega)))
    have hrx := Hid.mk (fun (w : World) (h1 : Below x0.heap.size x0 w) => refmix_any h (by omega) (by omega) bs S a cap w (hb.below h1))
    have hkp := Hid.mk (fun (w : World) (h1 : Below x0.heap.size x0 w) (h2 : w.heap[x0.heap.size]? = some (.cells ((lent bs).map enc8).toArray 5)) => keptBytes_any bs (by omega) S a cap x0.heap.size w (hb.below h1) h2)
    have d1 : decide (1000 < (bs.length : Int)) = false := decide_eq_false (by omega)
    generalize ((lent bs).map enc8).toArray = R at hl hmx hkp
    generalize bktV h n = x at hba hra
    generalize bktE n = y at hba hra
    generalize mixT h bs = q at hmx hrx
    generalize bs.length = len at hl hmx hrx hkp d1
    clear hb hlong
    go_enter Try.func3, Try.ntmps3
    go_wp2_with (first
      | (go_at_call 6; refine hl.out.mono ?_; rintro e x1 ⟨rfl, hr1, hb1⟩)
      | (go_at_call 7; refine (hba.out _).mono ?_; rintro e x2 ⟨rfl, rfl⟩)
      | (go_at_call 8; refine (hra.out _).mono ?_; rintro e x2 ⟨rfl, rfl⟩)
      | (go_at_call 9; refine (hmx.out _ hr1).mono ?_; rintro e x2 ⟨rfl, rfl⟩)
      | (go_at_call 10; refine (hrx.out _ hb1).mono ?_; rintro e x2 ⟨rfl, rfl⟩)
      | (go_at_call 11; refine (hkp.out _ hb1 hr1).mono ?_; rintro e x3 ⟨rfl, hb3⟩)
      | (go_at_call 12; refine (awake_any _).mono ?_; rintro e x4 ⟨rfl, hb4⟩))
    go_ret
    exact ⟨rfl, hb1.trans ((hb3.mono hb1.size).trans (hb4.mono (by have := hb3.size; have := hb1.size; omega)))⟩

end Go.Proofs.Ytnelefokpopfdaa
