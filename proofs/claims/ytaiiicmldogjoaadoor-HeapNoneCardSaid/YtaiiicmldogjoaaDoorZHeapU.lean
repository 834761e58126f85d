/-
  HeapNone returns true.
-/
import Derived.Test.YtaiiicmldogjoaaDoorZHeapQ
namespace Go.Proofs.YtaiiicmldogjoaaDoor
open Go.RowKit Go.Deep Go.Maps Go.WideShapes

set_option maxHeartbeats 8000000 in
set_option maxRecDepth 100000 in
theorem lawNone9 (x n : Int) (w : World) (hW : WordTab w) (hH : ShapeTab w) :
    Calls Tryd.prog 3 #[.int .u64 x, .int .i64 n] w fun e w' => e = .returned (.bool true) ∧ Below w.heap.size w w' := by
  obtain ⟨W0, hW0⟩ : ∃ W0, W0 = (((w.alloc (.cells #[.pointer none, .pointer none, .int .i64 0, .slice none 0 0, .slice none 0 0] 30)).alloc (.cells #[.pointer none, .pointer (some ⟨w.heap.size, 0, none⟩)] 23)).alloc (.cells #[.pointer none, .map none, .slice none 0 0, .int .i64 0] 35)).alloc (.cells #[.pointer none, .pointer (some ⟨w.heap.size + 1 + 1, 0, none⟩)] 24) := ⟨_, rfl⟩
  have hb : Below w.heap.size w W0 := by rw [hW0]; exact (Up.refl w).alloc.alloc.alloc.alloc.out
  have hz : W0.heap.size = w.heap.size + 4 := by rw [hW0]; simp
  have ha : W0.heap[w.heap.size]? = some (.cells #[.pointer none, .pointer none, .int .i64 0, .slice none 0 0, .slice none 0 0] 30) := by rw [hW0]; exact (Below.heap_alloc _ _ _ (by simp; omega)).trans ((Below.heap_alloc _ _ _ (by simp; omega)).trans (new_block1 _ _ _))
  have hr : W0.heap[w.heap.size + 1]? = some (.cells #[.pointer none, .pointer (some ⟨w.heap.size, 0, none⟩)] 23) := by rw [hW0]; exact (Below.heap_alloc _ _ _ (by simp)).trans ((Below.heap_alloc _ _ _ (by simp)).trans (new_block2 _ _ _))
  have ht : W0.heap[w.heap.size + 2]? = some (.cells #[.pointer none, .map none, .slice none 0 0, .int .i64 0] 35) := by rw [hW0]; exact (Below.heap_alloc _ _ _ (by simp)).trans (new_block3 _ _ _ _)
  have hs : W0.heap[w.heap.size + 3]? = some (.cells #[.pointer none, .pointer (some ⟨w.heap.size + 1 + 1, 0, none⟩)] 24) := by
    rw [hW0]
    have := new_block (((w.alloc (.cells #[.pointer none, .pointer none, .int .i64 0, .slice none 0 0, .slice none 0 0] 30)).alloc (.cells #[.pointer none, .pointer (some ⟨w.heap.size, 0, none⟩)] 23)).alloc (.cells #[.pointer none, .map none, .slice none 0 0, .int .i64 0] 35)) (.cells #[.pointer none, .pointer (some ⟨w.heap.size + 1 + 1, 0, none⟩)] 24)
    simpa using this
  have HB := Hid.mk hb
  have HWH := Hid.mk (show WordTab W0 ∧ ShapeTab W0 from ⟨hW.below hb, hH.below hb⟩)
  have N0 : Hid (NoTab W0 (.pointer none)) := Hid.mk (Or.inl rfl)
  have NA : Hid (NoTab W0 (.pointer (some ⟨w.heap.size, 0, none⟩))) := Hid.mk (Or.inr ⟨_, rfl, cell_is ha rfl⟩)
  have NT : Hid (NoTab W0 (.pointer (some ⟨w.heap.size + 1 + 1, 0, none⟩))) := Hid.mk (Or.inr ⟨_, rfl, cell_is ht rfl⟩)
  have HR := Hid.mk (show W0.cell? ⟨w.heap.size + 1, 0, none⟩ = some (.pointer none) ∧ W0.cell? ⟨w.heap.size + 1, 1, none⟩ = some (.pointer (some ⟨w.heap.size, 0, none⟩)) from ⟨cell_is hr rfl, cell_is hr rfl⟩)
  have HS := Hid.mk (show W0.cell? ⟨w.heap.size + 1 + 1 + 1, 0, none⟩ = some (.pointer none) ∧ W0.cell? ⟨w.heap.size + 1 + 1 + 1, 1, none⟩ = some (.pointer (some ⟨w.heap.size + 1 + 1, 0, none⟩)) from ⟨cell_is hs rfl, cell_is hs rfl⟩)
  have HZ := Hid.mk hz
  clear hb hz ha hr ht hs hW hH
  go_enter Tryd.func3, Tryd.ntmps3
  go_wp2
  rw [← hW0]
  have HW0 := Hid.mk hW0
  clear hW0
  go_loopw [7] (fun ii wr => ∃ i : Nat, i ≤ 2 ∧ ii = .int .i64 i ∧ Hid (Below W0.heap.size W0 wr)) (fun ii _ => 2 - (intOf ii).toNat)
  case atStart => exact ⟨0, by omega, rfl, Hid.mk (Below.refl _ _)⟩
  case round =>
      obtain ⟨i, hi, rfl, hB⟩ := hrel
      have h012 : i = 0 ∨ i = 1 ∨ i = 2 := by omega
      clear hi
      rcases h012 with rfl | rfl | rfl
      · have NN := N0
        have MM := N0
        have hca := cell_below hB.out _ _ _ HR.out.1
        go_wp2_with (first
          | (go_at_call 6; refine (putH_no 8 0 ⟨#[]⟩ none 0 0 (noH_up NN.out hB.out)).mono ?_; rintro e w1 ⟨rfl, hb1⟩; have U1 := Hid.mk ((show Up W0 wr from hB.out).call hb1); clear hb1)
          | (go_at_call 7; refine (getH_no x (noH_up NN.out U1.out.out)).mono ?_; rintro e w2 ⟨rfl, hb2⟩; have U2 := Hid.mk ((U1.out.call hb2).alloc (o := .cells #[.int .i64 0, .int .i64 0, .string ⟨#[]⟩, .slice none 0 0] 42)); clear hb2)
          | (go_at_call 8; refine (tupleH_no _ (noH_up NN.out (Up.alloc U2.out).out)).mono ?_; rintro e w3 ⟨rfl, rfl⟩)
          | (go_at_call 9; refine (consH_no x x (noH_up NN.out (Up.alloc U2.out).out)).mono ?_; rintro e w4 ⟨rfl, hb4⟩; have U4 := Hid.mk ((Up.alloc U2.out).call hb4); clear hb4)
          | (go_at_call 10; refine (funH_no n _ (noH_up NN.out U4.out.out)).mono ?_; rintro e w3 ⟨rfl, rfl⟩)
          | (go_at_call 11; refine (partsH_no x (noH_up NN.out U4.out.out)).mono ?_; rintro e w3 ⟨rfl, rfl⟩)
          | (go_at_call 12; refine (collectH_no (noH_up NN.out U4.out.out)).mono ?_; rintro e w5 ⟨rfl, hb5⟩; have U5 := Hid.mk (U4.out.call hb5); have hci := cell_below U5.out.out _ _ _ HS.out.1; clear hb5)
          | (go_at_call 13; refine (usedH_no (noH_up NN.out U5.out.out)).mono ?_; rintro e w3 ⟨rfl, rfl⟩)
          | (go_at_call 14; refine (limitH_no (noH_up NN.out U5.out.out)).mono ?_; rintro e w3 ⟨rfl, rfl⟩)
          | (go_at_call 15; refine (wordsH_no (noH_up NN.out U5.out.out)).mono ?_; rintro e w3 ⟨rfl, rfl⟩)
          | (go_at_call 16; refine (newH_no n (noH_up MM.out U5.out.out)).mono ?_; rintro e w3 ⟨rfl, rfl⟩))
        go_roundw
        case rel => exact ⟨1, by omega, by first | rfl | go_num, Hid.mk U5.out.out⟩
        case measure => simp [intOf]
      · have NN := NA
        have MM := NT
        have hca := cell_below hB.out _ _ _ HR.out.2
        go_wp2_with (first
          | (go_at_call 6; refine (putH_no 8 0 ⟨#[]⟩ none 0 0 (noH_up NN.out hB.out)).mono ?_; rintro e w1 ⟨rfl, hb1⟩; have U1 := Hid.mk ((show Up W0 wr from hB.out).call hb1); clear hb1)
          | (go_at_call 7; refine (getH_no x (noH_up NN.out U1.out.out)).mono ?_; rintro e w2 ⟨rfl, hb2⟩; have U2 := Hid.mk ((U1.out.call hb2).alloc (o := .cells #[.int .i64 0, .int .i64 0, .string ⟨#[]⟩, .slice none 0 0] 42)); clear hb2)
          | (go_at_call 8; refine (tupleH_no _ (noH_up NN.out (Up.alloc U2.out).out)).mono ?_; rintro e w3 ⟨rfl, rfl⟩)
          | (go_at_call 9; refine (consH_no x x (noH_up NN.out (Up.alloc U2.out).out)).mono ?_; rintro e w4 ⟨rfl, hb4⟩; have U4 := Hid.mk ((Up.alloc U2.out).call hb4); clear hb4)
          | (go_at_call 10; refine (funH_no n _ (noH_up NN.out U4.out.out)).mono ?_; rintro e w3 ⟨rfl, rfl⟩)
          | (go_at_call 11; refine (partsH_no x (noH_up NN.out U4.out.out)).mono ?_; rintro e w3 ⟨rfl, rfl⟩)
          | (go_at_call 12; refine (collectH_no (noH_up NN.out U4.out.out)).mono ?_; rintro e w5 ⟨rfl, hb5⟩; have U5 := Hid.mk (U4.out.call hb5); have hci := cell_below U5.out.out _ _ _ HS.out.2; clear hb5)
          | (go_at_call 13; refine (usedH_no (noH_up NN.out U5.out.out)).mono ?_; rintro e w3 ⟨rfl, rfl⟩)
          | (go_at_call 14; refine (limitH_no (noH_up NN.out U5.out.out)).mono ?_; rintro e w3 ⟨rfl, rfl⟩)
          | (go_at_call 15; refine (wordsH_no (noH_up NN.out U5.out.out)).mono ?_; rintro e w3 ⟨rfl, rfl⟩)
          | (go_at_call 16; refine (newH_no n (noH_up MM.out U5.out.out)).mono ?_; rintro e w3 ⟨rfl, rfl⟩))
        go_roundw
        case rel => exact ⟨2, by omega, by first | rfl | go_num, Hid.mk U5.out.out⟩
        case measure => simp [intOf]
      · go_wp2_with (go_at_call 17; refine (awake9_any _ (HWH.out.1.below hB.out) (HWH.out.2.below hB.out)).mono ?_; rintro e w3 ⟨rfl, h⟩; have T3 := Hid.mk ((show Up W0 wr from hB.out).call h); clear h)
        go_ret
        exact ⟨rfl, HB.out.trans (T3.out.out.mono HB.out.size)⟩
end Go.Proofs.YtaiiicmldogjoaaDoor
