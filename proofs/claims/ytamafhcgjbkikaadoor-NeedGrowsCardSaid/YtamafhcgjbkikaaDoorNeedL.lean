/-
  NeedTells and NeedSums return true.
-/
import Derived.Test.YtamafhcgjbkikaaDoorNeedK
import Derived.Test.YtamafhcgjbkikaaDoorNeedS
import Derived.Test.YtamafhcgjbkikaaDoorTermSame
import Derived.Test.YtamafhcgjbkikaaDoorTermMore
namespace Go.Proofs.YtamafhcgjbkikaaDoor
open Go.RowKit Go.Deep

theorem sameTermN (T : Tm) (S S' : Nat → Prop) (v u : Value) (w : World) (hv : Lies w S T v) (hu : Lies w S' T u) :
    Calls Tryd.prog 11 #[v, u] w fun e w' => e = .returned (.bool true) ∧ Below w.heap.size w w' := by
  have h := sameTerm_any T T S S' v u w hv hu
  rwa [eqB_refl] at h
theorem sameAllN (l : List Tm) (S S' : Nat → Prop) (a a' : Option Addr) (cap cap' : Nat) (w : World) (hl : Lst w S l a cap) (hl' : Lst w S' l a' cap') :
    Calls Tryd.prog 25 #[.slice a l.length cap, .slice a' l.length cap'] w fun e w' => e = .returned (.bool true) ∧ Below w.heap.size w w' := by
  have h := sameAll_any l l S S' a a' cap cap' w hl hl'
  rwa [eqL_refl] at h

set_option maxRecDepth 100000 in
set_option maxHeartbeats 2000000 in
theorem lawTells13 (T : Tm) (S : Nat → Prop) (v : Value) (k b : Int) (w : World) (hv : Lies w S T v) (ht : Tabs w) :
    Calls Tryd.prog 3 #[v, .int .i64 k, .int .i64 b] w fun e w' => e = .returned (.bool true) ∧ Below w.heap.size w w' := by
  obtain ⟨kk, n, s, a, m, cap, rfl⟩ := hv.agg
  obtain ⟨W0, hW0⟩ : ∃ W0, w.alloc (.cells #[.int .i64 kk, .int .i64 n, .string s, .slice a m cap] 24) = W0 := ⟨_, rfl⟩
  have hu0 : Up w W0 := by rw [← hW0]; exact (Up.refl w).alloc
  have hbx : W0.heap[w.heap.size]? = some (.cells #[.int .i64 kk, .int .i64 n, .string s, .slice a m cap] 24) := by rw [← hW0]; exact new_block _ _
  have hv0 := Hid.mk (hv.below hu0.out)
  have ht0 := Hid.mk (ht.below hu0.out)
  have hret : Hid (∀ W, Up W0 W → Below w.heap.size w W) := Hid.mk (fun W h => (hu0.call h.out).out)
  have hq : Up W0 W0 := Up.refl W0
  obtain ⟨g0, g1, g2, g3⟩ := hq.four hbx
  have hW0' := Hid.mk hW0
  have hnd := Hid.mk (fun W (h : Up W0 W) => nodeI_any k W (ht0.out.below h.out).kind)
  have htb := Hid.mk (fun W (h : Up W0 W) => tableI_any k W (ht0.out.below h.out).kind)
  have hbk := Hid.mk (bucketsI_any b)
  have hnR := Hid.mk (nodeR_any k)
  have htR := Hid.mk (tableR_any k)
  have hbR := Hid.mk (bucketsR_any b)
  generalize nodeN k = N at *
  generalize tableN k = TN at *
  generalize bktN b = B at *
  clear hv ht hu0 hW0
  go_enter Tryd.func3, Tryd.ntmps3
  go_upto_region 1 with fail
  rw [hW0'.out]
  go_wp2_with (first
    | (go_at_call 7; refine (largeTerm_any T _ _ 400 _ (hv0.out.below hq.out) (by omega) (by omega)).mono ?_; rintro e w1 ⟨⟨b1, rfl, hA⟩, hb⟩; have hq := hq.call hb; obtain ⟨g0, g1, g2, g3⟩ := hq.four hbx; have hA := Hid.mk hA; clear hb)
    | (go_at_call 8; have hb1 : b1 = false := (by first | assumption | simpa using ‹¬ b1 = true›); have hA2 := hA.out hb1; have hsz : T.size ≤ 1000000 := (by omega); have hob := Hid.mk (fun S v W hv (h : Up W0 W) => objectI_any T hsz S v W hv (ht0.out.below h.out).shape); have hor := Hid.mk (fun S v W hv => objectR_any T hsz S v W hv); generalize objV T = O at *; generalize T.check = C at *; refine (copyTerm_any T hsz _ _ _ (hv0.out.below hq.out)).mono ?_; rintro e w2 ⟨⟨v2, rfl, hown⟩, hb⟩; obtain ⟨k2, n2, s2, a2, m2, c2, rfl⟩ := hown.lies.agg; have hl2 := hown.lies; have hq := hq.call hb; obtain ⟨W3, hW3⟩ : ∃ W3, w2.alloc (.cells #[.int .i64 k2, .int .i64 n2, .string s2, .slice a2 m2 c2] 24) = W3 := ⟨_, rfl⟩; have hu3 : Up w2 W3 := (by rw [← hW3]; exact (Up.refl w2).alloc); have hbx3 : W3.heap[w2.heap.size]? = some (.cells #[.int .i64 k2, .int .i64 n2, .string s2, .slice a2 m2 c2] 24) := (by rw [← hW3]; exact new_block _ _); have hl3 := Hid.mk (hl2.below hu3.out); have hq := hq.call hu3.out; have HW3 := Hid.mk hW3; clear hb hA2 hown hl2 hsz hu3 hW3)
    | (go_at_call 9; rw [HW3.out]; refine (hob.out _ _ _ hl3.out hq).mono ?_; rintro e w4 ⟨rfl, hb⟩; have hq := hq.call hb; have hq3 : Up W3 w4 := hb; obtain ⟨g0, g1, g2, g3⟩ := hq.four hbx; clear hb)
    | (go_at_call 10; refine (hor.out _ _ _ (hv0.out.below hq.out)).mono ?_; rintro e w5 ⟨rfl, hb⟩; have hq := hq.call hb; have hq3 := hq3.call hb; obtain ⟨g0, g1, g2, g3⟩ := hq.four hbx; obtain ⟨q0, q1, q2, q3⟩ := hq3.four hbx3; clear hb)
    | (go_at_call 11; refine (sameTermN T _ _ _ _ _ (hl3.out.below hq3.out) (hv0.out.below hq.out)).mono ?_; rintro e w6 ⟨rfl, hb⟩; have hq := hq.call hb; clear hb)
    | (go_at_call 12; refine (hnd.out _ hq).mono ?_; rintro e w7 ⟨rfl, rfl⟩)
    | (go_at_call 13; refine (hnR.out _).mono ?_; rintro e w7 ⟨rfl, rfl⟩)
    | (go_at_call 14; refine (htb.out _ hq).mono ?_; rintro e w7 ⟨rfl, rfl⟩)
    | (go_at_call 15; refine (htR.out _).mono ?_; rintro e w7 ⟨rfl, rfl⟩)
    | (go_at_call 16; refine (hbk.out _).mono ?_; rintro e w7 ⟨rfl, rfl⟩)
    | (go_at_call 17; refine (hbR.out _).mono ?_; rintro e w7 ⟨rfl, rfl⟩)
    | (go_at_call 18; refine (awake13_any _ (ht0.out.below hq.out)).mono ?_; rintro e w8 ⟨rfl, hb⟩; have hq := hq.call hb; clear hb))
  all_goals go_ret
  all_goals exact ⟨rfl, hret.out _ hq⟩
set_option maxRecDepth 100000 in
set_option maxHeartbeats 2000000 in
theorem lawSums13 (k b c : Int) (l : List Tm) (S : Nat → Prop) (a : Option Addr) (cap : Nat) (w : World) (hl : Lst w S l a cap) (ht : Tabs w) :
    Calls Tryd.prog 4 #[.int .i64 k, .int .i64 b, .int .i64 c, .slice a l.length cap] w fun e w' => e = .returned (.bool true) ∧ Below w.heap.size w w' := by
  have hl0 := Hid.mk hl
  have ht0 := Hid.mk ht
  have hlen : l.length ≤ 9223372036854775807 := Nat.le_trans hl.1 hl.2.1
  have hq : Up w w := Up.refl w
  clear hl ht
  go_enter Tryd.func4, Tryd.ntmps4
  go_wp2_with (first
    | (go_at_call 19; refine (largeAll_any l _ _ _ 400 _ (hl0.out.below hq.out) (by omega) (by omega)).mono ?_; rintro e w1 ⟨⟨b1, rfl, hA⟩, hb⟩; have hq := hq.call hb; have hA := Hid.mk hA; clear hb)
    | (go_at_call 20; have hb1 : b1 = false := (by first | assumption | simpa using ‹¬ b1 = true›); have hA2 := hA.out hb1; have hsz : sizes l ≤ 1000000 := (by omega); have hsu := Hid.mk (fun S a cap W hl ht => sumI_any k b l hsz S a cap W hl ht); have hsr := Hid.mk (fun S a cap W hl => sumR_any k b l hsz S a cap W hl); have hsz := Hid.mk hsz; generalize sumV k b l = V at *; generalize sumE k b l = E at *; refine (copyAll_any l hsz.out _ _ _ _ (hl0.out.below hq.out)).mono ?_; rintro e w2 ⟨⟨v2, rfl, hown⟩, hb⟩; obtain ⟨a2, c2, rfl, hl2⟩ := hown.lst; have hq := hq.call hb; have hl2 := Hid.mk hl2; have hq2 : Up w2 w2 := Up.refl w2; clear hb hA2 hown)
    | (go_at_call 21; refine (hsu.out _ _ _ _ hl2.out (ht0.out.below hq.out)).mono ?_; rintro e w3 ⟨rfl, hb⟩; have hq := hq.call hb; have hq2 : Up w2 w3 := hb; clear hb)
    | (go_at_call 22; refine (hsr.out _ _ _ _ (hl0.out.below hq.out)).mono ?_; rintro e w4 ⟨rfl, hb⟩; have hq := hq.call hb; have hq2 := hq2.call hb; clear hb))
  · go_ret
    exact ⟨rfl, hq.out⟩
  have hq4 := Hid.mk hq
  have hq24 := Hid.mk hq2
  clear hq hq2
  go_loopw [14] (fun ii wr => ∃ (i : Nat), i ≤ l.length ∧ ii = .int .i64 i ∧ Up w4 wr) (fun ii _ => l.length - (intOf ii).toNat)
  case atStart => exact ⟨0, Nat.zero_le _, rfl, Up.refl w4⟩
  case round =>
    obtain ⟨i, hi, rfl, hq⟩ := hrel
    have hqw : Up w wr := hq4.out.call hq.out
    have hqx : Up w2 wr := hq24.out.call hq.out
    by_cases hlt : i < l.length
    · obtain ⟨bb, o, rfl, _, hr⟩ := (hl2.out.below hqx.out).some (by omega)
      obtain ⟨k', n', s', m', a', cap', hT, c0, c1, c2, c3, hli⟩ := hr.part i hlt
      obtain ⟨bd, p, rfl, _, hr2⟩ := (hl0.out.below hqw.out).some (by omega)
      obtain ⟨k2, n2, s2, m2, e2, cap2, hT2, d0, d1, d2, d3, hli2⟩ := hr2.part i hlt
      have hsz1 : l[i].size ≤ 1000000 := Nat.le_trans (sizes_at l i hlt) hsz.out
      have hli := Hid.mk hli
      have hli2 := Hid.mk hli2
      have hT := Hid.mk hT
      have hT2 := Hid.mk hT2
      have hpu := Hid.mk (fun S v W hv ht => putI_any k b c (l[i]'hlt) hsz1 S v W hv ht)
      have hpr := Hid.mk (fun S v W hv => putR_any k b c (l[i]'hlt) hsz1 S v W hv)
      have hsz1 := Hid.mk hsz1
      generalize putV k b c l[i] = PV at *
      generalize putE k b c l[i] = PE at *
      go_wp2_with (first
        | (go_at_call 23; refine (hpu.out _ _ _ hli.out (ht0.out.below hqw.out)).mono ?_; rintro e w5 ⟨rfl, hb⟩; have hq5 : Up wr w5 := hb; have d0 := cell_below hb _ _ _ d0; have d1 := cell_below hb _ _ _ d1; have d2 := cell_below hb _ _ _ d2; have d3 := cell_below hb _ _ _ d3; clear hb)
        | (go_at_call 24; refine (hpr.out _ _ _ (hli2.out.below hq5.out)).mono ?_; rintro e w6 ⟨rfl, hb⟩; have hq5 := hq5.call hb; clear hb))
      go_roundw
      case rel => exact ⟨i + 1, by omega, by go_num, hq.call hq5.out⟩
      case measure => simp [intOf]; omega
    · obtain rfl : i = l.length := by omega
      go_wp2_with (first
        | (go_at_call 25; refine (sameAllN l _ _ _ _ _ _ _ (hl2.out.below hqx.out) (hl0.out.below hqw.out)).mono ?_; rintro e w5 ⟨rfl, hb⟩; have hqw := hqw.call hb; clear hb)
        | (go_at_call 18; refine (awake13_any _ (ht0.out.below hqw.out)).mono ?_; rintro e w8 ⟨rfl, hb⟩; have hqw := hqw.call hb; clear hb))
      go_ret
      exact ⟨rfl, hqw.out⟩
end Go.Proofs.YtamafhcgjbkikaaDoor
