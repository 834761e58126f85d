/-
  FlatNone returns true.
-/
import Derived.Test.YthkjdcmlalgphaaDoorZFlatKit
namespace Go.Proofs.YthkjdcmlalgphaaDoor
open Go.RowKit Go.Deep

set_option maxHeartbeats 4000000 in
set_option maxRecDepth 100000 in
theorem lawNone7 (T : Tm) (S : Nat → Prop) (tv : Value) (xs : List Int) (la : Option Addr) (lcap : Nat) (w : World) (hT : Lies w S T tv) (hW : WordTab w) (hH : ShapeTab w) :
    Calls Tryd.prog 5 #[tv, .slice la xs.length lcap] w fun e w' => e = .returned (.bool true) ∧ Below w.heap.size w w' := by
  obtain ⟨k, n, s, l⟩ := T
  obtain ⟨a, cap, rfl, hsm, hl⟩ := hT.out
  generalize hTT : Tm.mk k n s l = T at *
  obtain ⟨W0, hW0⟩ : ∃ W0, W0 = ((w.alloc (.cells #[.int .i64 k, .int .i64 n, .string s, .slice a l.length cap] 25)).alloc (.cells #[.pointer none, .map none, .slice none 0 0, .int .i64 0] 53)).alloc (.cells #[.pointer none, .pointer (some ⟨w.heap.size + 1, 0, none⟩)] 28) := ⟨_, rfl⟩
  have hb : Below w.heap.size w W0 := by rw [hW0]; exact (Up.refl w).alloc.alloc.alloc.out
  have hz : W0.heap.size = w.heap.size + 3 := by rw [hW0]; simp
  have hb0 : W0.heap[w.heap.size]? = some (.cells #[.int .i64 k, .int .i64 n, .string s, .slice a l.length cap] 25) := by rw [hW0]; exact (Below.heap_alloc _ _ _ (by simp; omega)).trans (new_block1 _ _ _)
  have hb1 : W0.heap[w.heap.size + 1]? = some (.cells #[.pointer none, .map none, .slice none 0 0, .int .i64 0] 53) := by rw [hW0]; exact (Below.heap_alloc _ _ _ (by simp)).trans (new_block2 _ _ _)
  have hb2 : W0.heap[w.heap.size + 2]? = some (.cells #[.pointer none, .pointer (some ⟨w.heap.size + 1, 0, none⟩)] 28) := by rw [hW0]; exact new_block3 _ _ _ _
  have HB := Hid.mk hb
  have HT := Hid.mk (hT.below hb)
  have HWH := Hid.mk (show WordTab W0 ∧ ShapeTab W0 from ⟨hW.below hb, hH.below hb⟩)
  have N0 : Hid (NoTab W0 (.pointer none)) := Hid.mk (Or.inl rfl)
  have N1 : Hid (NoTab W0 (.pointer (some ⟨w.heap.size + 1, 0, none⟩))) := Hid.mk (Or.inr ⟨_, rfl, cell_is hb1 rfl⟩)
  have H0 := Hid.mk hb0
  have H2 := Hid.mk (show W0.cell? ⟨w.heap.size + 1 + 1, 0, none⟩ = some (.pointer none) ∧ W0.cell? ⟨w.heap.size + 1 + 1, 1, none⟩ = some (.pointer (some ⟨w.heap.size + 1, 0, none⟩)) from ⟨cell_is hb2 rfl, cell_is hb2 rfl⟩)
  have HZ := Hid.mk hz
  clear hb hz hb0 hb1 hb2 hT hW hH hsm hl
  go_enter Tryd.func5, Tryd.ntmps5
  go_wp2
  rw [← hW0]
  have HW0 := Hid.mk hW0
  clear hW0
  by_cases h100 : 100 < xs.length
  · have e3 : decide ((xs.length : Int) ≤ 100) = false := by rw [decide_eq_false_iff_not]; omega
    have e4 : decide (xs.length ≤ 100) = false := by rw [decide_eq_false_iff_not]; omega
    clear h100
    go_loop [6] (fun ii => ii = .int .i64 0) (fun _ => 0)
    case atStart => rfl
    case round =>
      obtain rfl := hrel
      go_wp2_with (go_at_call 17; refine (awake7_any _ HWH.out.1 HWH.out.2).mono ?_; rintro e w3 ⟨rfl, h⟩; have T3 := Hid.mk (HB.out.trans (h.mono HB.out.size)); clear h)
      go_ret
      exact ⟨rfl, T3.out⟩
  · have e3 : decide ((xs.length : Int) ≤ 100) = true := by rw [decide_eq_true_eq]; omega
    have e4 : decide (xs.length ≤ 100) = true := by rw [decide_eq_true_eq]; omega
    clear h100
    go_loopw [6] (fun ii wr => ∃ i : Nat, i ≤ 2 ∧ ii = .int .i64 i ∧ Hid (Below W0.heap.size W0 wr)) (fun ii _ => 2 - (intOf ii).toNat)
    case atStart => exact ⟨0, by omega, rfl, Hid.mk (Below.refl _ _)⟩
    case round =>
      obtain ⟨i, hi, rfl, hB⟩ := hrel
      have h012 : i = 0 ∨ i = 1 ∨ i = 2 := by omega
      clear hi
      obtain ⟨⟨q0, q1, q2, q3⟩, _⟩ := kept4 H0.out hB.out
      rcases h012 with rfl | rfl | rfl
      · go_upto_region 5 with (first
          | (go_at_call 9; refine (largeTerm_any T _ _ 100 _ (HT.out.below hB.out) (by omega) (by omega)).mono ?_; rintro e w1 ⟨⟨b, rfl, _⟩, hb⟩; have hu1 := Hid.mk ((show Up W0 wr from hB.out).call hb); clear hb q0 q1 q2 q3; obtain ⟨⟨q0, q1, q2, q3⟩, _⟩ := kept4 H0.out hu1.out.out)
          | (go_at_call 17; refine (awake7_any _ (HWH.out.1.below hu1.out.out) (HWH.out.2.below hu1.out.out)).mono ?_; rintro e w3 ⟨rfl, h⟩; have T3 := Hid.mk (hu1.out.call h); clear h))
        · have hci := cell_below hu1.out.out _ _ _ H2.out.1
          refine region_up (W := w1) (by kernel_rfl) (by kernel_rfl) (Up.refl _) ?_
          refine quiet_value (v := .slice (some ⟨w.heap.size + 1 + 1, 0, none⟩) 2 2) rfl (fun _ _ => rfl) ?_
          simp only [Act.put, List.setIfInBounds_toArray, List.set_cons_zero, List.set_cons_succ]
          refine quiet_value (v := .int .i64 0) rfl (fun _ _ => rfl) ?_
          simp only [Act.put, List.setIfInBounds_toArray, List.set_cons_zero, List.set_cons_succ]
          refine quiet_value (v := .pointer (some ⟨w.heap.size + 1 + 1, 0, none⟩)) rfl (fun _ _ => (by go_simp)) ?_
          simp only [Act.put, List.setIfInBounds_toArray, List.set_cons_zero, List.set_cons_succ]
          refine quiet_value (v := .pointer none) rfl (fun W h => (by have u0 := cell_below h.out _ _ _ hci; go_simp)) ?_
          simp only [Act.put, List.setIfInBounds_toArray, List.set_cons_zero, List.set_cons_succ]
          refine quiet_value (v := .agg #[.int .i64 k, .int .i64 n, .string s, .slice a l.length cap]) rfl (fun W h => (by have u0 := cell_below h.out _ _ _ q0; have u1 := cell_below h.out _ _ _ q1; have u2 := cell_below h.out _ _ _ q2; have u3 := cell_below h.out _ _ _ q3; go_simp)) ?_
          simp only [Act.put, List.setIfInBounds_toArray, List.set_cons_zero, List.set_cons_succ]
          refine quiet_call (v := .tuple #[.slice none 0 0, .int .i64 1]) rfl (fun W => (by go_simp)) (fun W h => (flatten_not k n s a l.length cap (N0.out.up (hu1.out.call h.out).out)).mono fun e w' ⟨he, hb⟩ => ⟨he, h.call hb⟩) ?_
          simp only [Act.put, List.setIfInBounds_toArray, List.set_cons_zero, List.set_cons_succ]
          refine quiet_value (v := .tuple #[.slice none 0 0, .int .i64 1]) rfl (fun _ _ => rfl) ?_
          simp only [Act.put, List.setIfInBounds_toArray, List.set_cons_zero, List.set_cons_succ]
          refine quiet_value (v := .slice none 0 0) rfl (fun _ _ => rfl) ?_
          simp only [Act.put, List.setIfInBounds_toArray, List.set_cons_zero, List.set_cons_succ]
          refine quiet_value (v := .int .i64 1) rfl (fun _ _ => rfl) ?_
          simp only [Act.put, List.setIfInBounds_toArray, List.set_cons_zero, List.set_cons_succ]
          refine quiet_value (v := .slice none 0 0) rfl (fun _ _ => rfl) ?_
          simp only [Act.put, List.setIfInBounds_toArray, List.set_cons_zero, List.set_cons_succ]
          refine quiet_value (v := .int .i64 1) rfl (fun _ _ => rfl) ?_
          simp only [Act.put, List.setIfInBounds_toArray, List.set_cons_zero, List.set_cons_succ]
          refine quiet_nil ?_
          intro w2 hw2
          have hu2 := Hid.mk (hu1.out.call hw2.out)
          have hci2 := cell_below hw2.out _ _ _ hci
          clear hw2 q0 q1 q2 q3
          go_wp2_with (first
            | (go_at_call 19; refine (read_not la xs.length lcap (N0.out.up hu2.out.out)).mono ?_; rintro e w3 ⟨rfl, hb3⟩
               have hu4 : Up w2 (w3.alloc (.cells #[.int .i64 0, .int .i64 0, .string ⟨#[]⟩, .slice none 0 0] 25)) := ((show Up w2 w3 from hb3).alloc)
               have hx4 : (w3.alloc (.cells #[.int .i64 0, .int .i64 0, .string ⟨#[]⟩, .slice none 0 0] 25)).heap[w3.heap.size]? = some (.cells #[.int .i64 0, .int .i64 0, .string ⟨#[]⟩, .slice none 0 0] 25) := new_block _ _
               have hci4 := cell_below hu4.out _ _ _ hci2
               have U4 := Hid.mk (hu2.out.call hu4.out); have X4 := Hid.mk hx4
               clear hb3 hu4 hx4)
            | (go_at_call 21; refine (part_not la xs.length lcap 1 (N0.out.up U4.out.out)).mono ?_; rintro e w5 ⟨rfl, hb5⟩
               obtain ⟨⟨r0, r1, r2, r3⟩, _⟩ := kept4 X4.out hb5
               have U5 := Hid.mk (U4.out.call hb5)
               clear hb5)
            | (go_at_call 16; refine (sameTerm_any zeroTm zeroTm (fun _ => True) (fun _ => True) _ _ _ (zero_lies _ _) (zero_lies _ _)).mono ?_; rintro e w6 ⟨rfl, hb6⟩; rw [eqB_refl]
               have U6 := Hid.mk (U5.out.call hb6)
               clear hb6))
          go_roundw
          case rel => exact ⟨1, by omega, by first | rfl | go_num, Hid.mk U6.out.out⟩
          case measure => simp [intOf]
        · go_ret
          exact ⟨rfl, HB.out.trans (T3.out.out.mono HB.out.size)⟩
      · go_upto_region 5 with (first
          | (go_at_call 9; refine (largeTerm_any T _ _ 100 _ (HT.out.below hB.out) (by omega) (by omega)).mono ?_; rintro e w1 ⟨⟨b, rfl, _⟩, hb⟩; have hu1 := Hid.mk ((show Up W0 wr from hB.out).call hb); clear hb q0 q1 q2 q3; obtain ⟨⟨q0, q1, q2, q3⟩, _⟩ := kept4 H0.out hu1.out.out)
          | (go_at_call 17; refine (awake7_any _ (HWH.out.1.below hu1.out.out) (HWH.out.2.below hu1.out.out)).mono ?_; rintro e w3 ⟨rfl, h⟩; have T3 := Hid.mk (hu1.out.call h); clear h))
        · have hci := cell_below hu1.out.out _ _ _ H2.out.2
          refine region_up (W := w1) (by kernel_rfl) (by kernel_rfl) (Up.refl _) ?_
          refine quiet_value (v := .slice (some ⟨w.heap.size + 1 + 1, 0, none⟩) 2 2) rfl (fun _ _ => rfl) ?_
          simp only [Act.put, List.setIfInBounds_toArray, List.set_cons_zero, List.set_cons_succ]
          refine quiet_value (v := .int .i64 1) rfl (fun _ _ => rfl) ?_
          simp only [Act.put, List.setIfInBounds_toArray, List.set_cons_zero, List.set_cons_succ]
          refine quiet_value (v := .pointer (some ⟨w.heap.size + 1 + 1, 1, none⟩)) rfl (fun _ _ => (by go_simp)) ?_
          simp only [Act.put, List.setIfInBounds_toArray, List.set_cons_zero, List.set_cons_succ]
          refine quiet_value (v := .pointer (some ⟨w.heap.size + 1, 0, none⟩)) rfl (fun W h => (by have u0 := cell_below h.out _ _ _ hci; go_simp)) ?_
          simp only [Act.put, List.setIfInBounds_toArray, List.set_cons_zero, List.set_cons_succ]
          refine quiet_value (v := .agg #[.int .i64 k, .int .i64 n, .string s, .slice a l.length cap]) rfl (fun W h => (by have u0 := cell_below h.out _ _ _ q0; have u1 := cell_below h.out _ _ _ q1; have u2 := cell_below h.out _ _ _ q2; have u3 := cell_below h.out _ _ _ q3; go_simp)) ?_
          simp only [Act.put, List.setIfInBounds_toArray, List.set_cons_zero, List.set_cons_succ]
          refine quiet_call (v := .tuple #[.slice none 0 0, .int .i64 1]) rfl (fun W => (by go_simp)) (fun W h => (flatten_not k n s a l.length cap (N1.out.up (hu1.out.call h.out).out)).mono fun e w' ⟨he, hb⟩ => ⟨he, h.call hb⟩) ?_
          simp only [Act.put, List.setIfInBounds_toArray, List.set_cons_zero, List.set_cons_succ]
          refine quiet_value (v := .tuple #[.slice none 0 0, .int .i64 1]) rfl (fun _ _ => rfl) ?_
          simp only [Act.put, List.setIfInBounds_toArray, List.set_cons_zero, List.set_cons_succ]
          refine quiet_value (v := .slice none 0 0) rfl (fun _ _ => rfl) ?_
          simp only [Act.put, List.setIfInBounds_toArray, List.set_cons_zero, List.set_cons_succ]
          refine quiet_value (v := .int .i64 1) rfl (fun _ _ => rfl) ?_
          simp only [Act.put, List.setIfInBounds_toArray, List.set_cons_zero, List.set_cons_succ]
          refine quiet_value (v := .slice none 0 0) rfl (fun _ _ => rfl) ?_
          simp only [Act.put, List.setIfInBounds_toArray, List.set_cons_zero, List.set_cons_succ]
          refine quiet_value (v := .int .i64 1) rfl (fun _ _ => rfl) ?_
          simp only [Act.put, List.setIfInBounds_toArray, List.set_cons_zero, List.set_cons_succ]
          refine quiet_nil ?_
          intro w2 hw2
          have hu2 := Hid.mk (hu1.out.call hw2.out)
          have hci2 := cell_below hw2.out _ _ _ hci
          clear hw2 q0 q1 q2 q3
          go_wp2_with (first
            | (go_at_call 19; refine (read_not la xs.length lcap (N1.out.up hu2.out.out)).mono ?_; rintro e w3 ⟨rfl, hb3⟩
               have hu4 : Up w2 (w3.alloc (.cells #[.int .i64 0, .int .i64 0, .string ⟨#[]⟩, .slice none 0 0] 25)) := ((show Up w2 w3 from hb3).alloc)
               have hx4 : (w3.alloc (.cells #[.int .i64 0, .int .i64 0, .string ⟨#[]⟩, .slice none 0 0] 25)).heap[w3.heap.size]? = some (.cells #[.int .i64 0, .int .i64 0, .string ⟨#[]⟩, .slice none 0 0] 25) := new_block _ _
               have hci4 := cell_below hu4.out _ _ _ hci2
               have U4 := Hid.mk (hu2.out.call hu4.out); have X4 := Hid.mk hx4
               clear hb3 hu4 hx4)
            | (go_at_call 21; refine (part_not la xs.length lcap 1 (N1.out.up U4.out.out)).mono ?_; rintro e w5 ⟨rfl, hb5⟩
               obtain ⟨⟨r0, r1, r2, r3⟩, _⟩ := kept4 X4.out hb5
               have U5 := Hid.mk (U4.out.call hb5)
               clear hb5)
            | (go_at_call 16; refine (sameTerm_any zeroTm zeroTm (fun _ => True) (fun _ => True) _ _ _ (zero_lies _ _) (zero_lies _ _)).mono ?_; rintro e w6 ⟨rfl, hb6⟩; rw [eqB_refl]
               have U6 := Hid.mk (U5.out.call hb6)
               clear hb6))
          go_roundw
          case rel => exact ⟨2, by omega, by first | rfl | go_num, Hid.mk U6.out.out⟩
          case measure => simp [intOf]
        · go_ret
          exact ⟨rfl, HB.out.trans (T3.out.out.mono HB.out.size)⟩
      · go_wp2_with (go_at_call 17; refine (awake7_any _ (HWH.out.1.below hB.out) (HWH.out.2.below hB.out)).mono ?_; rintro e w3 ⟨rfl, h⟩; have T3 := Hid.mk ((show Up W0 wr from hB.out).call h); clear h)
        go_ret
        exact ⟨rfl, HB.out.trans (T3.out.out.mono HB.out.size)⟩
end Go.Proofs.YthkjdcmlalgphaaDoor
