/-
  The reader of the document's answers: a number where there is none; plain atoms.
-/
import Derived.Test.YtnbekfpkmebmbaaGreatDoorZTextEa
import Derived.Test.YtnbekfpkmebmbaaGreatDoorZTextEn
import Derived.Test.YtnbekfpkmebmbaaGreatDoorZTextR4
import Derived.Deep.LoopGhost
import Derived.Test.YtnbekfpkmebmbaaGreatDoorZTextEb
import Derived.Test.YtnbekfpkmebmbaaGreatDoorZTextMay
namespace Go.Proofs.YtnbekfpkmebmbaaGreatDoor
open Go.RowKit Go.Deep

set_option maxHeartbeats 1000000 in
theorem number_bad (lo hi : Int) (p : Nat) (s : List UInt8) (i : Nat) (w : World) (h : Rd w p s i true) (hs : s.length ≤ 1000000) (hi1 : i ≤ s.length) :
    Calls Tryz.prog 25 #[.pointer (some ⟨p, 0, none⟩), .int .i64 lo, .int .i64 hi] w fun e w' => e = .returned (.int .i64 0) ∧ Rd w' p s i true ∧ Mv p w w' := by
  obtain ⟨⟨c0, c1, c2⟩, f0, f1, f2⟩ := h.cells
  have hst := starts_any p s [45] i true w h (by omega) hi1 (by simp)
  rw [Bool.not_true, Bool.false_and] at hst
  have hnx := fun w1 (h : Rd w1 p s i true) => next_any p s i true w1 h hi1
  rw [if_pos rfl] at hnx
  go_enter Tryz.func25, Tryz.ntmps25
  go_wp2_with (first
    | (go_at_call 29; refine hst.mono ?_; rintro e w1 ⟨rfl, hb1⟩; obtain ⟨⟨d0, d1, d2⟩, g0, g1, g2⟩ := (h.below hb1).cells))
  clear c0 c1 c2 f0 f1 f2 hst
  go_loopg [25] 0 (fun g _ wr => g = 0 ∧ wr = w1)
  case atStart => exact ⟨rfl, rfl⟩
  case round =>
    obtain ⟨rfl, hwr⟩ := hrel
    obtain rfl := hwr.symm
    have hR := h.below hb1
    go_wp2_with (first
      | (go_at_call 23; refine (hnx _ hR).mono ?_; rintro e w2 ⟨rfl, hb2⟩; obtain ⟨⟨d0, d1, d2⟩, g0, g1, g2⟩ := (hR.below hb2).cells)
      | (go_at_call 24; refine (within_any _ _ _ _).mono ?_; rintro e w3 ⟨rfl, rfl⟩))
    have hR2 := hR.below hb2
    go_loopg [9, 10] 0 (fun g nn ii wr => g = 0 ∧ nn = .int .i64 0 ∧ ii = .int .i64 i ∧ wr = w2)
    case atStart => exact ⟨rfl, rfl, rfl, rfl⟩
    case round =>
      obtain ⟨rfl, rfl, rfl, hwr⟩ := hrel
      obtain rfl := hwr.symm
      go_upto_region 19 with fail
      refine region_up (W := w2) (by kernel_rfl) (by kernel_rfl) (Up.refl _) ?_
      refine quiet_value (v := .pointer (some ⟨p, 0, none⟩)) rfl (fun _ _ => rfl) ?_
      simp only [Act.put, List.setIfInBounds_toArray, List.set_cons_zero, List.set_cons_succ]
      refine quiet_value (v := .pointer (some ⟨p, 0, none⟩)) rfl (fun _ _ => (by go_simp)) ?_
      simp only [Act.put, List.setIfInBounds_toArray, List.set_cons_zero, List.set_cons_succ]
      refine quiet_value (v := .pointer (some ⟨p, 2, none⟩)) rfl (fun _ _ => (by go_simp)) ?_
      simp only [Act.put, List.setIfInBounds_toArray, List.set_cons_zero, List.set_cons_succ]
      refine quiet_value (v := .bool true) rfl (fun W h => (by have u0 := cell_below h.out _ _ _ d2; go_simp)) ?_
      simp only [Act.put, List.setIfInBounds_toArray, List.set_cons_zero, List.set_cons_succ]
      refine quiet_value (v := .bool true) rfl (fun _ _ => rfl) ?_
      simp only [Act.put, List.setIfInBounds_toArray, List.set_cons_zero, List.set_cons_succ]
      refine quiet_not rfl ?_
      simp only [Act.put, List.setIfInBounds_toArray, List.set_cons_zero, List.set_cons_succ]
      refine quiet_not rfl ?_
      simp only [Act.put, List.setIfInBounds_toArray, List.set_cons_zero, List.set_cons_succ]
      refine quiet_not rfl ?_
      simp only [Act.put, List.setIfInBounds_toArray, List.set_cons_zero, List.set_cons_succ]
      refine quiet_value (v := .bool true) rfl (fun _ _ => (by go_simp)) ?_
      simp only [Act.put, List.setIfInBounds_toArray, List.set_cons_zero, List.set_cons_succ]
      refine quiet_value (v := .bool true) rfl (fun _ _ => rfl) ?_
      simp only [Act.put, List.setIfInBounds_toArray, List.set_cons_zero, List.set_cons_succ]
      refine quiet_not rfl ?_
      simp only [Act.put, List.setIfInBounds_toArray, List.set_cons_zero, List.set_cons_succ]
      refine quiet_not rfl ?_
      simp only [Act.put, List.setIfInBounds_toArray, List.set_cons_zero, List.set_cons_succ]
      refine quiet_not rfl ?_
      simp only [Act.put, List.setIfInBounds_toArray, List.set_cons_zero, List.set_cons_succ]
      refine quiet_value (v := .bool true) rfl (fun _ _ => (by go_simp)) ?_
      simp only [Act.put, List.setIfInBounds_toArray, List.set_cons_zero, List.set_cons_succ]
      refine quiet_value (v := .bool true) rfl (fun _ _ => rfl) ?_
      simp only [Act.put, List.setIfInBounds_toArray, List.set_cons_zero, List.set_cons_succ]
      refine quiet_not rfl ?_
      simp only [Act.put, List.setIfInBounds_toArray, List.set_cons_zero, List.set_cons_succ]
      refine quiet_not rfl ?_
      simp only [Act.put, List.setIfInBounds_toArray, List.set_cons_zero, List.set_cons_succ]
      refine quiet_not rfl ?_
      simp only [Act.put, List.setIfInBounds_toArray, List.set_cons_zero, List.set_cons_succ]
      refine quiet_not rfl ?_
      simp only [Act.put, List.setIfInBounds_toArray, List.set_cons_zero, List.set_cons_succ]
      refine quiet_not rfl ?_
      simp only [Act.put, List.setIfInBounds_toArray, List.set_cons_zero, List.set_cons_succ]
      refine quiet_not rfl ?_
      simp only [Act.put, List.setIfInBounds_toArray, List.set_cons_zero, List.set_cons_succ]
      refine quiet_not rfl ?_
      simp only [Act.put, List.setIfInBounds_toArray, List.set_cons_zero, List.set_cons_succ]
      refine quiet_not rfl ?_
      simp only [Act.put, List.setIfInBounds_toArray, List.set_cons_zero, List.set_cons_succ]
      refine quiet_not rfl ?_
      simp only [Act.put, List.setIfInBounds_toArray, List.set_cons_zero, List.set_cons_succ]
      refine quiet_not rfl ?_
      simp only [Act.put, List.setIfInBounds_toArray, List.set_cons_zero, List.set_cons_succ]
      refine quiet_not rfl ?_
      simp only [Act.put, List.setIfInBounds_toArray, List.set_cons_zero, List.set_cons_succ]
      refine quiet_not rfl ?_
      simp only [Act.put, List.setIfInBounds_toArray, List.set_cons_zero, List.set_cons_succ]
      refine quiet_not rfl ?_
      simp only [Act.put, List.setIfInBounds_toArray, List.set_cons_zero, List.set_cons_succ]
      refine quiet_value (v := .bool true) rfl (fun _ _ => (by go_simp)) ?_
      simp only [Act.put, List.setIfInBounds_toArray, List.set_cons_zero, List.set_cons_succ]
      refine quiet_nil ?_
      intro w3 hw3
      have hR3 := hR2.below hw3.out
      obtain ⟨⟨d0, d1, d2⟩, g0, g1, g2⟩ := hR3.cells
      go_wp2
      go_ret
      exact ⟨rfl, hR3.worse, (((Mv.up hb1).trans (Mv.up hb2)).trans (Mv.up hw3.out)).set⟩

theorem plain_a (c : UInt8) : plainT [97, c] = isWd c := by
  rw [plain_is _ (by simp)]
  have h1 : isLow 97 = true := by decide
  have h2 : isWd 97 = true := by decide
  simp [h1, h2, wordsT]

set_option maxHeartbeats 1000000 in
theorem plainE_any (p : Nat) (s : List UInt8) (i : Nat) (w : World) (h : Rd w p s i false) (hs : s.length ≤ 1000000) (hi1 : i ≤ s.length) :
    Calls Tryz.prog 27 #[.pointer (some ⟨p, 0, none⟩)] w fun e w' => e = .returned (.agg #[.int .i64 2, .int .i64 0, .string (tx ((s.drop i).takeWhile isWd)), .slice none 0 0]) ∧ Rd w' p s (i + ((s.drop i).takeWhile isWd).length) (!plainT ((s.drop i).takeWhile isWd)) ∧ Mv p w w' := by
  have hsp := Hid.mk (span_at isWd wd0 (s.drop i))
  have hml : ((s.drop i).takeWhile isWd).length ≤ s.length - i := by
    have := (List.takeWhile_sublist isWd (l := s.drop i)).length_le
    rwa [List.length_drop] at this
  have htk : (s.drop i).take ((s.drop i).takeWhile isWd).length = (s.drop i).takeWhile isWd := List.prefix_iff_eq_take.1 (List.takeWhile_prefix _) |>.symm
  have hpt := tx_part s i ((s.drop i).takeWhile isWd).length
  rw [htk] at hpt
  obtain ⟨X, hX⟩ : ∃ X, (s.drop i).takeWhile isWd = X := ⟨_, rfl⟩
  rw [hX] at hsp hml hpt ⊢
  have hsz := tx_size s
  have hpl := Hid.mk (fun w1 => plain_any X (by omega) w1)
  obtain ⟨W0, hW0⟩ : ∃ W0, w.alloc zeroTerm = W0 := ⟨_, rfl⟩
  have hbox0 : W0.heap[w.heap.size]? = some zeroTerm := by rw [← hW0]; exact new_block w _
  have hu0 : Up w W0 := by rw [← hW0]; exact (Up.refl w).alloc
  have hR0 := h.below hu0.out
  have hpw := h.lt
  obtain ⟨⟨c0, c1, c2⟩, f0, f1, f2⟩ := hR0.cells
  go_enter Tryz.func27, Tryz.ntmps27
  go_wp2
  go_loopg [10] X.length (fun g _ wr => ∃ k : Nat, Hid (k + g = X.length) ∧ Rd wr p s (i + k) false ∧ wr.heap[w.heap.size]? = some zeroTerm ∧ Mv p w wr)
  case atStart => exact ⟨0, Hid.mk (by omega), hR0, hbox0, Mv.up hu0⟩
  case round =>
    clear hR0 hbox0
    obtain ⟨k, hkm, hR, hbox, hM⟩ := hrel
    have hk1 := hkm.out
    have hat := hsp.out k (by omega)
    rw [show (s.drop i).drop k = s.drop (i + k) by rw [List.drop_drop]] at hat
    clear c0 c1 c2 f0 f1 f2
    obtain ⟨⟨c0, c1, c2⟩, f0, f1, f2⟩ := hR.cells
    by_cases hlt : i + k < s.length
    · rw [List.drop_eq_getElem_cons hlt, List.headD_cons] at hat
      have hone := tx_one s (i + k) hlt
      have hpa := plain_any [97, s[i + k]] (by simp)
      rw [plain_a, hat] at hpa
      generalize s[i + k] = c at *
      have hcat : (⟨#[97]⟩ : ByteArray) ++ tx [c] = tx [97, c] := tx_append [97] [c]
      have hto2 : ((i : Int) + k).toNat = i + k := by omega
      have hto : ((i : Int) + k + 1).toNat = i + k + 1 := by omega
      have hwk : IntKind.i64.wrap ((i : Int) + k + 1) = i + k + 1 := by rw [wrap_id] <;> omega
      go_upto_region 2 with fail
      by_cases hkX : k < X.length
      · rw [decide_eq_true hkX] at hpa
        refine region_up (W := wr) (by kernel_rfl) (by kernel_rfl) (Up.refl _) ?_
        refine quiet_value (v := .pointer (some ⟨p, 0, none⟩)) rfl (fun _ _ => rfl) ?_
        simp only [Act.put, List.setIfInBounds_toArray, List.set_cons_zero, List.set_cons_succ]
        refine quiet_value (v := .pointer (some ⟨p, 0, none⟩)) rfl (fun _ _ => (by go_simp)) ?_
        simp only [Act.put, List.setIfInBounds_toArray, List.set_cons_zero, List.set_cons_succ]
        refine quiet_value (v := .pointer (some ⟨p, 1, none⟩)) rfl (fun _ _ => (by go_simp)) ?_
        simp only [Act.put, List.setIfInBounds_toArray, List.set_cons_zero, List.set_cons_succ]
        refine quiet_value (v := .int .i64 ((i + k : Nat) : Int)) rfl (fun W h => (by have u0 := cell_below h.out _ _ _ c1; go_simp)) ?_
        simp only [Act.put, List.setIfInBounds_toArray, List.set_cons_zero, List.set_cons_succ]
        refine quiet_value (v := .pointer (some ⟨p, 0, none⟩)) rfl (fun _ _ => rfl) ?_
        simp only [Act.put, List.setIfInBounds_toArray, List.set_cons_zero, List.set_cons_succ]
        refine quiet_value (v := .pointer (some ⟨p, 0, none⟩)) rfl (fun _ _ => (by go_simp)) ?_
        simp only [Act.put, List.setIfInBounds_toArray, List.set_cons_zero, List.set_cons_succ]
        refine quiet_value (v := .pointer (some ⟨p, 0, none⟩)) rfl (fun _ _ => (by go_simp)) ?_
        simp only [Act.put, List.setIfInBounds_toArray, List.set_cons_zero, List.set_cons_succ]
        refine quiet_value (v := .string (tx s)) rfl (fun W h => (by have u0 := cell_below h.out _ _ _ c0; go_simp)) ?_
        simp only [Act.put, List.setIfInBounds_toArray, List.set_cons_zero, List.set_cons_succ]
        refine quiet_value (v := .int .i64 s.length) rfl (fun _ _ => (by go_simp)) ?_
        simp only [Act.put, List.setIfInBounds_toArray, List.set_cons_zero, List.set_cons_succ]
        refine quiet_value (v := .bool true) rfl (fun _ _ => (by go_simp; omega)) ?_
        simp only [Act.put, List.setIfInBounds_toArray, List.set_cons_zero, List.set_cons_succ]
        refine quiet_value (v := .bool true) rfl (fun _ _ => rfl) ?_
        simp only [Act.put, List.setIfInBounds_toArray, List.set_cons_zero, List.set_cons_succ]
        refine quiet_value (v := .pointer (some ⟨p, 0, none⟩)) rfl (fun _ _ => rfl) ?_
        simp only [Act.put, List.setIfInBounds_toArray, List.set_cons_zero, List.set_cons_succ]
        refine quiet_value (v := .pointer (some ⟨p, 0, none⟩)) rfl (fun _ _ => (by go_simp)) ?_
        simp only [Act.put, List.setIfInBounds_toArray, List.set_cons_zero, List.set_cons_succ]
        refine quiet_value (v := .pointer (some ⟨p, 0, none⟩)) rfl (fun _ _ => (by go_simp)) ?_
        simp only [Act.put, List.setIfInBounds_toArray, List.set_cons_zero, List.set_cons_succ]
        refine quiet_value (v := .string (tx s)) rfl (fun W h => (by have u0 := cell_below h.out _ _ _ c0; go_simp)) ?_
        simp only [Act.put, List.setIfInBounds_toArray, List.set_cons_zero, List.set_cons_succ]
        refine quiet_value (v := .pointer (some ⟨p, 0, none⟩)) rfl (fun _ _ => rfl) ?_
        simp only [Act.put, List.setIfInBounds_toArray, List.set_cons_zero, List.set_cons_succ]
        refine quiet_value (v := .pointer (some ⟨p, 0, none⟩)) rfl (fun _ _ => (by go_simp)) ?_
        simp only [Act.put, List.setIfInBounds_toArray, List.set_cons_zero, List.set_cons_succ]
        refine quiet_value (v := .pointer (some ⟨p, 1, none⟩)) rfl (fun _ _ => (by go_simp)) ?_
        simp only [Act.put, List.setIfInBounds_toArray, List.set_cons_zero, List.set_cons_succ]
        refine quiet_value (v := .int .i64 ((i + k : Nat) : Int)) rfl (fun W h => (by have u0 := cell_below h.out _ _ _ c1; go_simp)) ?_
        simp only [Act.put, List.setIfInBounds_toArray, List.set_cons_zero, List.set_cons_succ]
        refine quiet_value (v := .pointer (some ⟨p, 0, none⟩)) rfl (fun _ _ => rfl) ?_
        simp only [Act.put, List.setIfInBounds_toArray, List.set_cons_zero, List.set_cons_succ]
        refine quiet_value (v := .pointer (some ⟨p, 0, none⟩)) rfl (fun _ _ => (by go_simp)) ?_
        simp only [Act.put, List.setIfInBounds_toArray, List.set_cons_zero, List.set_cons_succ]
        refine quiet_value (v := .pointer (some ⟨p, 1, none⟩)) rfl (fun _ _ => (by go_simp)) ?_
        simp only [Act.put, List.setIfInBounds_toArray, List.set_cons_zero, List.set_cons_succ]
        refine quiet_value (v := .int .i64 ((i + k : Nat) : Int)) rfl (fun W h => (by have u0 := cell_below h.out _ _ _ c1; go_simp)) ?_
        simp only [Act.put, List.setIfInBounds_toArray, List.set_cons_zero, List.set_cons_succ]
        refine quiet_value (v := .int .i64 ((i + k + 1 : Nat) : Int)) rfl (fun _ _ => (by go_simp)) ?_
        simp only [Act.put, List.setIfInBounds_toArray, List.set_cons_zero, List.set_cons_succ]
        refine quiet_value (v := .string (tx [c])) rfl (fun _ _ => (by go_simp; rw [if_pos ⟨by omega, by omega⟩, if_pos (by omega)])) ?_
        simp only [Act.put, List.setIfInBounds_toArray, List.set_cons_zero, List.set_cons_succ]
        refine quiet_value (v := .string (tx [97, c])) rfl (fun _ _ => (by go_simp; (rw [tx_size]; simp))) ?_
        simp only [Act.put, List.setIfInBounds_toArray, List.set_cons_zero, List.set_cons_succ]
        refine quiet_call (v := .bool true) rfl (fun W => (by go_simp)) (fun W h => (hpa W).mono fun e w' ⟨he, hb⟩ => ⟨he, h.call hb⟩) ?_
        simp only [Act.put, List.setIfInBounds_toArray, List.set_cons_zero, List.set_cons_succ]
        refine quiet_value (v := .bool true) rfl (fun _ _ => (by go_simp)) ?_
        simp only [Act.put, List.setIfInBounds_toArray, List.set_cons_zero, List.set_cons_succ]
        refine quiet_nil ?_
        intro w3 hw3
        have hR3 := hR.below hw3.out
        have hM3 := hM.trans (Mv.up hw3.out)
        have hbox3 := (hw3.out.block _ (Array.getElem?_eq_some_iff.1 hbox).1).trans hbox
        obtain ⟨⟨d0, d1, d2⟩, g0, g1, g2⟩ := hR3.cells
        go_wp2
        go_roundg (gk - 1)
        case measure => have := hkm.out; omega
        case rel => exact ⟨k + 1, Hid.mk (by have := hkm.out; omega), hR3.at (i + (k + 1)), (Below.heap_setCell _ _ _ _ (show w.heap.size ≠ p by omega)).trans hbox3, hM3.set⟩
      · rw [decide_eq_false hkX] at hpa
        refine region_up (W := wr) (by kernel_rfl) (by kernel_rfl) (Up.refl _) ?_
        refine quiet_value (v := .pointer (some ⟨p, 0, none⟩)) rfl (fun _ _ => rfl) ?_
        simp only [Act.put, List.setIfInBounds_toArray, List.set_cons_zero, List.set_cons_succ]
        refine quiet_value (v := .pointer (some ⟨p, 0, none⟩)) rfl (fun _ _ => (by go_simp)) ?_
        simp only [Act.put, List.setIfInBounds_toArray, List.set_cons_zero, List.set_cons_succ]
        refine quiet_value (v := .pointer (some ⟨p, 1, none⟩)) rfl (fun _ _ => (by go_simp)) ?_
        simp only [Act.put, List.setIfInBounds_toArray, List.set_cons_zero, List.set_cons_succ]
        refine quiet_value (v := .int .i64 ((i + k : Nat) : Int)) rfl (fun W h => (by have u0 := cell_below h.out _ _ _ c1; go_simp)) ?_
        simp only [Act.put, List.setIfInBounds_toArray, List.set_cons_zero, List.set_cons_succ]
        refine quiet_value (v := .pointer (some ⟨p, 0, none⟩)) rfl (fun _ _ => rfl) ?_
        simp only [Act.put, List.setIfInBounds_toArray, List.set_cons_zero, List.set_cons_succ]
        refine quiet_value (v := .pointer (some ⟨p, 0, none⟩)) rfl (fun _ _ => (by go_simp)) ?_
        simp only [Act.put, List.setIfInBounds_toArray, List.set_cons_zero, List.set_cons_succ]
        refine quiet_value (v := .pointer (some ⟨p, 0, none⟩)) rfl (fun _ _ => (by go_simp)) ?_
        simp only [Act.put, List.setIfInBounds_toArray, List.set_cons_zero, List.set_cons_succ]
        refine quiet_value (v := .string (tx s)) rfl (fun W h => (by have u0 := cell_below h.out _ _ _ c0; go_simp)) ?_
        simp only [Act.put, List.setIfInBounds_toArray, List.set_cons_zero, List.set_cons_succ]
        refine quiet_value (v := .int .i64 s.length) rfl (fun _ _ => (by go_simp)) ?_
        simp only [Act.put, List.setIfInBounds_toArray, List.set_cons_zero, List.set_cons_succ]
        refine quiet_value (v := .bool true) rfl (fun _ _ => (by go_simp; omega)) ?_
        simp only [Act.put, List.setIfInBounds_toArray, List.set_cons_zero, List.set_cons_succ]
        refine quiet_value (v := .bool true) rfl (fun _ _ => rfl) ?_
        simp only [Act.put, List.setIfInBounds_toArray, List.set_cons_zero, List.set_cons_succ]
        refine quiet_value (v := .pointer (some ⟨p, 0, none⟩)) rfl (fun _ _ => rfl) ?_
        simp only [Act.put, List.setIfInBounds_toArray, List.set_cons_zero, List.set_cons_succ]
        refine quiet_value (v := .pointer (some ⟨p, 0, none⟩)) rfl (fun _ _ => (by go_simp)) ?_
        simp only [Act.put, List.setIfInBounds_toArray, List.set_cons_zero, List.set_cons_succ]
        refine quiet_value (v := .pointer (some ⟨p, 0, none⟩)) rfl (fun _ _ => (by go_simp)) ?_
        simp only [Act.put, List.setIfInBounds_toArray, List.set_cons_zero, List.set_cons_succ]
        refine quiet_value (v := .string (tx s)) rfl (fun W h => (by have u0 := cell_below h.out _ _ _ c0; go_simp)) ?_
        simp only [Act.put, List.setIfInBounds_toArray, List.set_cons_zero, List.set_cons_succ]
        refine quiet_value (v := .pointer (some ⟨p, 0, none⟩)) rfl (fun _ _ => rfl) ?_
        simp only [Act.put, List.setIfInBounds_toArray, List.set_cons_zero, List.set_cons_succ]
        refine quiet_value (v := .pointer (some ⟨p, 0, none⟩)) rfl (fun _ _ => (by go_simp)) ?_
        simp only [Act.put, List.setIfInBounds_toArray, List.set_cons_zero, List.set_cons_succ]
        refine quiet_value (v := .pointer (some ⟨p, 1, none⟩)) rfl (fun _ _ => (by go_simp)) ?_
        simp only [Act.put, List.setIfInBounds_toArray, List.set_cons_zero, List.set_cons_succ]
        refine quiet_value (v := .int .i64 ((i + k : Nat) : Int)) rfl (fun W h => (by have u0 := cell_below h.out _ _ _ c1; go_simp)) ?_
        simp only [Act.put, List.setIfInBounds_toArray, List.set_cons_zero, List.set_cons_succ]
        refine quiet_value (v := .pointer (some ⟨p, 0, none⟩)) rfl (fun _ _ => rfl) ?_
        simp only [Act.put, List.setIfInBounds_toArray, List.set_cons_zero, List.set_cons_succ]
        refine quiet_value (v := .pointer (some ⟨p, 0, none⟩)) rfl (fun _ _ => (by go_simp)) ?_
        simp only [Act.put, List.setIfInBounds_toArray, List.set_cons_zero, List.set_cons_succ]
        refine quiet_value (v := .pointer (some ⟨p, 1, none⟩)) rfl (fun _ _ => (by go_simp)) ?_
        simp only [Act.put, List.setIfInBounds_toArray, List.set_cons_zero, List.set_cons_succ]
        refine quiet_value (v := .int .i64 ((i + k : Nat) : Int)) rfl (fun W h => (by have u0 := cell_below h.out _ _ _ c1; go_simp)) ?_
        simp only [Act.put, List.setIfInBounds_toArray, List.set_cons_zero, List.set_cons_succ]
        refine quiet_value (v := .int .i64 ((i + k + 1 : Nat) : Int)) rfl (fun _ _ => (by go_simp)) ?_
        simp only [Act.put, List.setIfInBounds_toArray, List.set_cons_zero, List.set_cons_succ]
        refine quiet_value (v := .string (tx [c])) rfl (fun _ _ => (by go_simp; rw [if_pos ⟨by omega, by omega⟩, if_pos (by omega)])) ?_
        simp only [Act.put, List.setIfInBounds_toArray, List.set_cons_zero, List.set_cons_succ]
        refine quiet_value (v := .string (tx [97, c])) rfl (fun _ _ => (by go_simp; (rw [tx_size]; simp))) ?_
        simp only [Act.put, List.setIfInBounds_toArray, List.set_cons_zero, List.set_cons_succ]
        refine quiet_call (v := .bool false) rfl (fun W => (by go_simp)) (fun W h => (hpa W).mono fun e w' ⟨he, hb⟩ => ⟨he, h.call hb⟩) ?_
        simp only [Act.put, List.setIfInBounds_toArray, List.set_cons_zero, List.set_cons_succ]
        refine quiet_value (v := .bool false) rfl (fun _ _ => (by go_simp)) ?_
        simp only [Act.put, List.setIfInBounds_toArray, List.set_cons_zero, List.set_cons_succ]
        refine quiet_nil ?_
        intro w3 hw3
        have hR3 := hR.below hw3.out
        have hM3 := hM.trans (Mv.up hw3.out)
        have hbox3 := (hw3.out.block _ (Array.getElem?_eq_some_iff.1 hbox).1).trans hbox
        obtain ⟨⟨d0, d1, d2⟩, g0, g1, g2⟩ := hR3.cells
        have hkX : k = X.length := by omega
        rw [hkX] at hR3
        obtain ⟨⟨d0, d1, d2⟩, g0, g1, g2⟩ := hR3.cells
        clear hat
        have hto3 : ((i : Int) + X.length).toNat = i + X.length := by omega
        go_upto_region 4 with fail
        refine region_up (W := w3) (by kernel_rfl) (by kernel_rfl) (Up.refl _) ?_
        refine quiet_value (v := .pointer (some ⟨p, 0, none⟩)) rfl (fun _ _ => rfl) ?_
        simp only [Act.put, List.setIfInBounds_toArray, List.set_cons_zero, List.set_cons_succ]
        refine quiet_value (v := .pointer (some ⟨p, 0, none⟩)) rfl (fun _ _ => (by go_simp)) ?_
        simp only [Act.put, List.setIfInBounds_toArray, List.set_cons_zero, List.set_cons_succ]
        refine quiet_value (v := .pointer (some ⟨p, 0, none⟩)) rfl (fun _ _ => (by go_simp)) ?_
        simp only [Act.put, List.setIfInBounds_toArray, List.set_cons_zero, List.set_cons_succ]
        refine quiet_value (v := .string (tx s)) rfl (fun W h => (by have u0 := cell_below h.out _ _ _ d0; go_simp)) ?_
        simp only [Act.put, List.setIfInBounds_toArray, List.set_cons_zero, List.set_cons_succ]
        refine quiet_value (v := .int .i64 i) rfl (fun _ _ => rfl) ?_
        simp only [Act.put, List.setIfInBounds_toArray, List.set_cons_zero, List.set_cons_succ]
        refine quiet_value (v := .pointer (some ⟨p, 0, none⟩)) rfl (fun _ _ => rfl) ?_
        simp only [Act.put, List.setIfInBounds_toArray, List.set_cons_zero, List.set_cons_succ]
        refine quiet_value (v := .pointer (some ⟨p, 0, none⟩)) rfl (fun _ _ => (by go_simp)) ?_
        simp only [Act.put, List.setIfInBounds_toArray, List.set_cons_zero, List.set_cons_succ]
        refine quiet_value (v := .pointer (some ⟨p, 1, none⟩)) rfl (fun _ _ => (by go_simp)) ?_
        simp only [Act.put, List.setIfInBounds_toArray, List.set_cons_zero, List.set_cons_succ]
        refine quiet_value (v := .int .i64 ((i + X.length : Nat) : Int)) rfl (fun W h => (by have u0 := cell_below h.out _ _ _ d1; go_simp)) ?_
        simp only [Act.put, List.setIfInBounds_toArray, List.set_cons_zero, List.set_cons_succ]
        refine quiet_value (v := .string (tx X)) rfl (fun _ _ => (by go_simp; rw [if_pos ⟨by omega, by omega⟩, if_pos (by omega)])) ?_
        simp only [Act.put, List.setIfInBounds_toArray, List.set_cons_zero, List.set_cons_succ]
        refine quiet_value (v := .string (tx X)) rfl (fun _ _ => rfl) ?_
        simp only [Act.put, List.setIfInBounds_toArray, List.set_cons_zero, List.set_cons_succ]
        refine quiet_nil ?_
        intro w4 hw4
        have hR4 := hR3.below hw4.out
        have hM4 := hM3.trans (Mv.up hw4.out)
        have hbox4 := (hw4.out.block _ (Array.getElem?_eq_some_iff.1 hbox3).1).trans hbox3
        clear d0 d1 d2 g0 g1 g2
        have hne : ¬ w.heap.size = p := by omega
        have hne2 : ¬ p = w.heap.size := by omega
        cases hpX : plainT X
        all_goals go_wp2_with (go_at_call 55; refine (hpl.out _).mono ?_; rintro e w5 ⟨rfl, hb5⟩; rw [hpX]; obtain ⟨⟨d0, d1, d2⟩, g0, g1, g2⟩ := (hR4.below hb5).cells; have hbox5 := (hb5.block _ (Array.getElem?_eq_some_iff.1 hbox4).1).trans hbox4; obtain ⟨⟨q0, q1, q2, q3⟩, y0, y1, y2, y3⟩ := kept4 hbox5 (Below.refl _ _))
        · have hbox6 : (w5.setCell ⟨p, 2, none⟩ (.bool true)).heap[w.heap.size]? = some zeroTerm := (Below.heap_setCell _ _ _ _ (show w.heap.size ≠ p by omega)).trans hbox5
          obtain ⟨⟨r0, r1, r2, r3⟩, _⟩ := kept4 hbox6 (Below.refl _ _)
          exact ret_stored rfl rfl rfl r0 r1 r2 r3 ⟨rfl, by rw [hpX]; exact (set4_heap _ _ _ _ _ _ _ (by omega)).trans (hR4.below hb5).worse, ((hM4.trans (Mv.up hb5)).set).beside (Nat.le_refl _)⟩
        · exact ret_stored rfl rfl rfl q0 q1 q2 q3 ⟨rfl, by rw [hpX]; exact (set4_heap _ _ _ _ _ _ _ (by omega)).trans (hR4.below hb5), (hM4.trans (Mv.up hb5)).beside (Nat.le_refl _)⟩
    · go_upto_region 2 with fail
      skip
      refine region_up (W := wr) (by kernel_rfl) (by kernel_rfl) (Up.refl _) ?_
      refine quiet_value (v := .pointer (some ⟨p, 0, none⟩)) rfl (fun _ _ => rfl) ?_
      simp only [Act.put, List.setIfInBounds_toArray, List.set_cons_zero, List.set_cons_succ]
      refine quiet_value (v := .pointer (some ⟨p, 0, none⟩)) rfl (fun _ _ => (by go_simp)) ?_
      simp only [Act.put, List.setIfInBounds_toArray, List.set_cons_zero, List.set_cons_succ]
      refine quiet_value (v := .pointer (some ⟨p, 1, none⟩)) rfl (fun _ _ => (by go_simp)) ?_
      simp only [Act.put, List.setIfInBounds_toArray, List.set_cons_zero, List.set_cons_succ]
      refine quiet_value (v := .int .i64 ((i + k : Nat) : Int)) rfl (fun W h => (by have u0 := cell_below h.out _ _ _ c1; go_simp)) ?_
      simp only [Act.put, List.setIfInBounds_toArray, List.set_cons_zero, List.set_cons_succ]
      refine quiet_value (v := .pointer (some ⟨p, 0, none⟩)) rfl (fun _ _ => rfl) ?_
      simp only [Act.put, List.setIfInBounds_toArray, List.set_cons_zero, List.set_cons_succ]
      refine quiet_value (v := .pointer (some ⟨p, 0, none⟩)) rfl (fun _ _ => (by go_simp)) ?_
      simp only [Act.put, List.setIfInBounds_toArray, List.set_cons_zero, List.set_cons_succ]
      refine quiet_value (v := .pointer (some ⟨p, 0, none⟩)) rfl (fun _ _ => (by go_simp)) ?_
      simp only [Act.put, List.setIfInBounds_toArray, List.set_cons_zero, List.set_cons_succ]
      refine quiet_value (v := .string (tx s)) rfl (fun W h => (by have u0 := cell_below h.out _ _ _ c0; go_simp)) ?_
      simp only [Act.put, List.setIfInBounds_toArray, List.set_cons_zero, List.set_cons_succ]
      refine quiet_value (v := .int .i64 s.length) rfl (fun _ _ => (by go_simp)) ?_
      simp only [Act.put, List.setIfInBounds_toArray, List.set_cons_zero, List.set_cons_succ]
      refine quiet_value (v := .bool false) rfl (fun _ _ => (by go_simp; omega)) ?_
      simp only [Act.put, List.setIfInBounds_toArray, List.set_cons_zero, List.set_cons_succ]
      refine quiet_value (v := .bool false) rfl (fun _ _ => rfl) ?_
      simp only [Act.put, List.setIfInBounds_toArray, List.set_cons_zero, List.set_cons_succ]
      refine quiet_not rfl ?_
      simp only [Act.put, List.setIfInBounds_toArray, List.set_cons_zero, List.set_cons_succ]
      refine quiet_not rfl ?_
      simp only [Act.put, List.setIfInBounds_toArray, List.set_cons_zero, List.set_cons_succ]
      refine quiet_not rfl ?_
      simp only [Act.put, List.setIfInBounds_toArray, List.set_cons_zero, List.set_cons_succ]
      refine quiet_not rfl ?_
      simp only [Act.put, List.setIfInBounds_toArray, List.set_cons_zero, List.set_cons_succ]
      refine quiet_not rfl ?_
      simp only [Act.put, List.setIfInBounds_toArray, List.set_cons_zero, List.set_cons_succ]
      refine quiet_not rfl ?_
      simp only [Act.put, List.setIfInBounds_toArray, List.set_cons_zero, List.set_cons_succ]
      refine quiet_not rfl ?_
      simp only [Act.put, List.setIfInBounds_toArray, List.set_cons_zero, List.set_cons_succ]
      refine quiet_not rfl ?_
      simp only [Act.put, List.setIfInBounds_toArray, List.set_cons_zero, List.set_cons_succ]
      refine quiet_not rfl ?_
      simp only [Act.put, List.setIfInBounds_toArray, List.set_cons_zero, List.set_cons_succ]
      refine quiet_not rfl ?_
      simp only [Act.put, List.setIfInBounds_toArray, List.set_cons_zero, List.set_cons_succ]
      refine quiet_not rfl ?_
      simp only [Act.put, List.setIfInBounds_toArray, List.set_cons_zero, List.set_cons_succ]
      refine quiet_not rfl ?_
      simp only [Act.put, List.setIfInBounds_toArray, List.set_cons_zero, List.set_cons_succ]
      refine quiet_not rfl ?_
      simp only [Act.put, List.setIfInBounds_toArray, List.set_cons_zero, List.set_cons_succ]
      refine quiet_not rfl ?_
      simp only [Act.put, List.setIfInBounds_toArray, List.set_cons_zero, List.set_cons_succ]
      refine quiet_not rfl ?_
      simp only [Act.put, List.setIfInBounds_toArray, List.set_cons_zero, List.set_cons_succ]
      refine quiet_not rfl ?_
      simp only [Act.put, List.setIfInBounds_toArray, List.set_cons_zero, List.set_cons_succ]
      refine quiet_value (v := .bool false) rfl (fun _ _ => (by go_simp)) ?_
      simp only [Act.put, List.setIfInBounds_toArray, List.set_cons_zero, List.set_cons_succ]
      refine quiet_nil ?_
      intro w3 hw3
      have hR3 := hR.below hw3.out
      have hM3 := hM.trans (Mv.up hw3.out)
      have hbox3 := (hw3.out.block _ (Array.getElem?_eq_some_iff.1 hbox).1).trans hbox
      obtain ⟨⟨d0, d1, d2⟩, g0, g1, g2⟩ := hR3.cells
      have hkX : k = X.length := by omega
      rw [hkX] at hR3
      obtain ⟨⟨d0, d1, d2⟩, g0, g1, g2⟩ := hR3.cells
      clear hat
      have hto3 : ((i : Int) + X.length).toNat = i + X.length := by omega
      go_upto_region 4 with fail
      refine region_up (W := w3) (by kernel_rfl) (by kernel_rfl) (Up.refl _) ?_
      refine quiet_value (v := .pointer (some ⟨p, 0, none⟩)) rfl (fun _ _ => rfl) ?_
      simp only [Act.put, List.setIfInBounds_toArray, List.set_cons_zero, List.set_cons_succ]
      refine quiet_value (v := .pointer (some ⟨p, 0, none⟩)) rfl (fun _ _ => (by go_simp)) ?_
      simp only [Act.put, List.setIfInBounds_toArray, List.set_cons_zero, List.set_cons_succ]
      refine quiet_value (v := .pointer (some ⟨p, 0, none⟩)) rfl (fun _ _ => (by go_simp)) ?_
      simp only [Act.put, List.setIfInBounds_toArray, List.set_cons_zero, List.set_cons_succ]
      refine quiet_value (v := .string (tx s)) rfl (fun W h => (by have u0 := cell_below h.out _ _ _ d0; go_simp)) ?_
      simp only [Act.put, List.setIfInBounds_toArray, List.set_cons_zero, List.set_cons_succ]
      refine quiet_value (v := .int .i64 i) rfl (fun _ _ => rfl) ?_
      simp only [Act.put, List.setIfInBounds_toArray, List.set_cons_zero, List.set_cons_succ]
      refine quiet_value (v := .pointer (some ⟨p, 0, none⟩)) rfl (fun _ _ => rfl) ?_
      simp only [Act.put, List.setIfInBounds_toArray, List.set_cons_zero, List.set_cons_succ]
      refine quiet_value (v := .pointer (some ⟨p, 0, none⟩)) rfl (fun _ _ => (by go_simp)) ?_
      simp only [Act.put, List.setIfInBounds_toArray, List.set_cons_zero, List.set_cons_succ]
      refine quiet_value (v := .pointer (some ⟨p, 1, none⟩)) rfl (fun _ _ => (by go_simp)) ?_
      simp only [Act.put, List.setIfInBounds_toArray, List.set_cons_zero, List.set_cons_succ]
      refine quiet_value (v := .int .i64 ((i + X.length : Nat) : Int)) rfl (fun W h => (by have u0 := cell_below h.out _ _ _ d1; go_simp)) ?_
      simp only [Act.put, List.setIfInBounds_toArray, List.set_cons_zero, List.set_cons_succ]
      refine quiet_value (v := .string (tx X)) rfl (fun _ _ => (by go_simp; rw [if_pos ⟨by omega, by omega⟩, if_pos (by omega)])) ?_
      simp only [Act.put, List.setIfInBounds_toArray, List.set_cons_zero, List.set_cons_succ]
      refine quiet_value (v := .string (tx X)) rfl (fun _ _ => rfl) ?_
      simp only [Act.put, List.setIfInBounds_toArray, List.set_cons_zero, List.set_cons_succ]
      refine quiet_nil ?_
      intro w4 hw4
      have hR4 := hR3.below hw4.out
      have hM4 := hM3.trans (Mv.up hw4.out)
      have hbox4 := (hw4.out.block _ (Array.getElem?_eq_some_iff.1 hbox3).1).trans hbox3
      clear d0 d1 d2 g0 g1 g2
      have hne : ¬ w.heap.size = p := by omega
      have hne2 : ¬ p = w.heap.size := by omega
      cases hpX : plainT X
      all_goals go_wp2_with (go_at_call 55; refine (hpl.out _).mono ?_; rintro e w5 ⟨rfl, hb5⟩; rw [hpX]; obtain ⟨⟨d0, d1, d2⟩, g0, g1, g2⟩ := (hR4.below hb5).cells; have hbox5 := (hb5.block _ (Array.getElem?_eq_some_iff.1 hbox4).1).trans hbox4; obtain ⟨⟨q0, q1, q2, q3⟩, y0, y1, y2, y3⟩ := kept4 hbox5 (Below.refl _ _))
      · have hbox6 : (w5.setCell ⟨p, 2, none⟩ (.bool true)).heap[w.heap.size]? = some zeroTerm := (Below.heap_setCell _ _ _ _ (show w.heap.size ≠ p by omega)).trans hbox5
        obtain ⟨⟨r0, r1, r2, r3⟩, _⟩ := kept4 hbox6 (Below.refl _ _)
        exact ret_stored rfl rfl rfl r0 r1 r2 r3 ⟨rfl, by rw [hpX]; exact (set4_heap _ _ _ _ _ _ _ (by omega)).trans (hR4.below hb5).worse, ((hM4.trans (Mv.up hb5)).set).beside (Nat.le_refl _)⟩
      · exact ret_stored rfl rfl rfl q0 q1 q2 q3 ⟨rfl, by rw [hpX]; exact (set4_heap _ _ _ _ _ _ _ (by omega)).trans (hR4.below hb5), (hM4.trans (Mv.up hb5)).beside (Nat.le_refl _)⟩

end Go.Proofs.YtnbekfpkmebmbaaGreatDoor

/-
  The reader of the document's answers: what has a number alone.
-/
namespace Go.Proofs.YtnbekfpkmebmbaaGreatDoor
open Go.RowKit Go.Deep

theorem goes_strip {s q : List UInt8} {i : Nat} (h : goesOn s i q = true) : strip q (s.drop i) = some (s.drop (i + q.length)) ∧ (i + q.length ≤ s.length ∨ q = []) := by
  obtain ⟨r, hr⟩ := (goesOn_is s i q).1 h
  have hl := congrArg List.length hr
  rw [List.length_drop, List.length_append] at hl
  refine ⟨?_, ?_⟩
  · rw [hr, strip_app, ← List.drop_drop, hr, List.drop_left]
  · cases q with
    | nil => exact Or.inr rfl
    | cons a q => exact Or.inl (by simp at hl ⊢; omega)
theorem goes_no {s q : List UInt8} {i : Nat} (h : goesOn s i q = false) : strip q (s.drop i) = none := by
  refine strip_none fun r hr => ?_
  rw [(goesOn_is s i q).2 ⟨r, hr⟩] at h
  cases h
/-- A text has been eaten, or none. -/
def EatOut (q : List UInt8) (p : Nat) (s : List UInt8) (i : Nat) (b : Bool) (w : World) (e : Ending) (w' : World) : Prop :=
  e = .returned (.tuple #[]) ∧ Mv p w w' ∧ ((b = false ∧ strip q (s.drop i) = some (s.drop (i + q.length)) ∧ i + q.length ≤ s.length ∧ Rd w' p s (i + q.length) false) ∨ ((b = true ∨ strip q (s.drop i) = none) ∧ Rd w' p s i true))
theorem eat_any (p : Nat) (s q : List UInt8) (i : Nat) (b : Bool) (w : World) (h : Rd w p s i b) (hs : s.length ≤ 1000000) (hi : i ≤ s.length + 1) (hq : q.length ≤ 1000) (hq0 : q ≠ []) :
    Calls Tryz.prog 31 #[.pointer (some ⟨p, 0, none⟩), .string (tx q)] w (EatOut q p s i b w) := by
  cases b
  · cases hg : goesOn s i q
    · exact (eat_no p s q i false w h (by omega) hi hq hq0 (Or.inr hg)).mono fun e w' k => ⟨k.1, k.2.2, Or.inr ⟨Or.inr (goes_no hg), k.2.1⟩⟩
    · have hgs := goes_strip hg
      exact (eat_yes p s q i w h (by omega) hi hq hq0 hg).mono fun e w' k => ⟨k.1, k.2.2, Or.inl ⟨rfl, hgs.1, hgs.2.resolve_right hq0, k.2.1⟩⟩
  · exact (eat_no p s q i true w h (by omega) hi hq hq0 (Or.inl rfl)).mono fun e w' k => ⟨k.1, k.2.2, Or.inr ⟨Or.inl rfl, k.2.1⟩⟩
/-- A number has been read, or none. -/
def NumO (lo hi : Int) (p : Nat) (s : List UInt8) (i : Nat) (b : Bool) (w : World) (e : Ending) (w' : World) : Prop :=
  ∃ (n : Int) (j : Nat) (c : Bool), e = .returned (.int .i64 n) ∧ Mv p w w' ∧ Rd w' p s j c ∧ i ≤ j ∧ j ≤ s.length ∧ -576460752303423488 ≤ n ∧ n ≤ 576460752303423487 ∧
    ((b = false ∧ c = false ∧ numI lo hi (s.drop i) = some (n, s.drop j)) ∨ (c = true ∧ (b = true ∨ numI lo hi (s.drop i) = none)))
theorem numO_any (lo hi : Int) (hlo : -576460752303423488 ≤ lo) (hhi : hi ≤ 576460752303423487) (p : Nat) (s : List UInt8) (i : Nat) (b : Bool) (w : World) (h : Rd w p s i b) (hs : s.length ≤ 1000000) (hi1 : i ≤ s.length) :
    Calls Tryz.prog 25 #[.pointer (some ⟨p, 0, none⟩), .int .i64 lo, .int .i64 hi] w (NumO lo hi p s i b w) := by
  cases b
  · refine (numberE_any lo hi hlo hhi p s i w h hs hi1).mono ?_
    rintro e w' ⟨k1, n, j, c, k2, k3, k4, k5, k6, k7, k8⟩
    exact ⟨n, j, c, k2, k1, k3, k4, k5, k6, k7, k8.elim (fun k => Or.inl ⟨rfl, k⟩) (fun k => Or.inr ⟨k.1, Or.inr k.2⟩)⟩
  · refine (number_bad lo hi p s i w h hs hi1).mono ?_
    rintro e w' ⟨k1, k2, k3⟩
    exact ⟨0, i, true, k1, k3, k2, Nat.le_refl _, hi1, by omega, by omega, Or.inr ⟨rfl, Or.inl rfl⟩⟩

/-- What reading has come to: what P says. -/
def Out (p : Nat) (s : List UInt8) (i : Nat) (w : World) (o : Option (Tm × List UInt8)) (e : Ending) (w' : World) : Prop :=
  Mv p w w' ∧ ∃ (T : Tm) (v : Value) (j : Nat) (b : Bool), e = .returned v ∧ Lies w' (fun k => w.heap.size ≤ k) T v ∧ Rd w' p s j b ∧ i ≤ j ∧ j ≤ s.length + 1 ∧ ((b = false ∧ j ≤ s.length ∧ o = some (T, s.drop j)) ∨ (b = true ∧ o = none))

set_option maxHeartbeats 1000000 in
theorem numberedE_any (k : Int) (hk0 : 0 ≤ k) (hk1 : k ≤ 9) (x y : List UInt8) (hx : x.length ≤ 1000) (hx0 : x ≠ []) (hy : y.length ≤ 1000) (hy0 : y ≠ []) (p : Nat) (s : List UInt8) (i : Nat) (w : World) (h : Rd w p s i false) (hs : s.length ≤ 1000000) (hi1 : i ≤ s.length) :
    Calls Tryz.prog 28 #[.pointer (some ⟨p, 0, none⟩), .int .i64 k, .string (tx x), .string (tx y)] w (Out p s i w (namP k x y (s.drop i))) := by
  obtain ⟨W0, hW0⟩ : ∃ W0, w.alloc zeroTerm = W0 := ⟨_, rfl⟩
  have hbox0 : W0.heap[w.heap.size]? = some zeroTerm := by rw [← hW0]; exact new_block w _
  have hu0 : Up w W0 := by rw [← hW0]; exact (Up.refl w).alloc
  have hR0 := h.below hu0.out
  have hpw := h.lt
  have hne : ¬ w.heap.size = p := by omega
  have hne2 : ¬ p = w.heap.size := by omega
  have hE1 := Hid.mk (fun w1 h1 => eat_any p s x i false w1 h1 hs (by omega) hx hx0)
  have hN := Hid.mk (fun j b w1 h1 (hj : j ≤ s.length) => numO_any 0 1073741824 (by omega) (by omega) p s j b w1 h1 hs hj)
  have hE2 := Hid.mk (fun j b w1 h1 (hj : j ≤ s.length) => eat_any p s y j b w1 h1 hs (by omega) hy hy0)
  go_enter Tryz.func28, Tryz.ntmps28
  go_wp2_with (first
    | (go_at_call 31; refine (hE2.out j2 b2 _ h2 hj2).mono ?_; rintro e w3 ⟨rfl, m3, h3⟩; have hM3 := hM2.trans m3; have hbox3 := m3.box hbox2 hne; obtain ⟨⟨q0, q1, q2, q3⟩, y0, y1, y2, y3⟩ := kept4 hbox3 (Below.refl _ _))
    | (go_at_call 31; refine (hE1.out _ hR0).mono ?_; rintro e w1 ⟨rfl, m1, h1⟩; obtain ⟨i1, b1, hr1, hi1', ho1⟩ : ∃ i1 b1, Rd w1 p s i1 b1 ∧ (i ≤ i1 ∧ i1 ≤ s.length) ∧ ((b1 = false ∧ strip x (s.drop i) = some (s.drop i1)) ∨ (b1 = true ∧ strip x (s.drop i) = none)) := h1.elim (fun k => ⟨_, false, k.2.2.2, ⟨by omega, k.2.2.1⟩, Or.inl ⟨rfl, k.2.1⟩⟩) (fun k => ⟨i, true, k.2, ⟨Nat.le_refl _, hi1⟩, Or.inr ⟨rfl, k.1.resolve_left (by decide)⟩⟩); have hM1 := (Mv.up hu0).trans m1; have hbox1 := m1.box hbox0 hne; have hi1H := Hid.mk hi1'; have ho1H := Hid.mk ho1; clear hi1' ho1 h1)
    | (go_at_call 25; refine (hN.out i1 b1 _ hr1 hi1H.out.2).mono ?_; rintro e w2 ⟨n, j2, b2, rfl, m2, h2, hij, hj2, hn0, hn1, hn2⟩; have hM2 := hM1.trans m2; have hbox2 := m2.box hbox1 hne; have hn2H := Hid.mk hn2; clear hn2))
  have hnr : namP k x y (s.drop i) = (match (b1 || b2), strip y (s.drop j2) with | false, some r => some (.mk k n ⟨#[]⟩ [], r) | _, _ => none) := by
    unfold namP
    rcases ho1H.out with ⟨rfl, e1⟩ | ⟨rfl, e1⟩
    · rw [e1]
      rcases hn2H.out with ⟨_, rfl, e2⟩ | ⟨rfl, e2⟩
      · simp only [e2]
        cases strip y (s.drop j2) <;> rfl
      · simp only [e2.resolve_left (by decide)]
        rfl
    · rw [e1]
      rfl
  have hb12 : b1 = true → b2 = true := fun e => by
    rcases hn2H.out with ⟨e1, _⟩ | ⟨e1, _⟩
    · rw [e1] at e; cases e
    · exact e1
  have hij1 := hi1H.out.1
  have hout : ∀ W', Rd W' p s (j2 + y.length) false ∧ strip y (s.drop j2) = some (s.drop (j2 + y.length)) ∧ b2 = false ∧ j2 + y.length ≤ s.length ∨ Rd W' p s j2 true ∧ (b2 = true ∨ strip y (s.drop j2) = none) → Mv p w W' →
      Out p s i w (namP k x y (s.drop i)) (.returned (.agg #[.int .i64 k, .int .i64 n, .string ⟨#[]⟩, .slice none 0 0])) W' := fun W' hh hm => by
    rcases hh with ⟨a1, a2, a3, a4⟩ | ⟨a1, a2⟩
    · have hb1 : b1 = false := by
        cases b1
        · rfl
        · rw [hb12 rfl] at a3; cases a3
      exact ⟨hm, .mk k n ⟨#[]⟩ [], _, j2 + y.length, false, rfl, num_lies k n (by omega) (by omega) (by omega) (by omega) _, a1, by omega, by omega, Or.inl ⟨rfl, a4, by rw [hnr, hb1, a3, a2]; rfl⟩⟩
    · refine ⟨hm, .mk k n ⟨#[]⟩ [], _, j2, true, rfl, num_lies k n (by omega) (by omega) (by omega) (by omega) _, a1, by omega, by omega, Or.inr ⟨rfl, ?_⟩⟩
      rw [hnr]
      rcases a2 with a2 | a2
      · rw [a2, Bool.or_true]
      · rw [a2]
        cases (b1 || b2) <;> rfl
  refine ret_stored rfl rfl rfl q0 q1 q2 q3 (hout _ ?_ (hM3.beside (Nat.le_refl _)))
  rcases h3 with ⟨a1, a2, a3, a4⟩ | ⟨a1, a2⟩
  · exact Or.inl ⟨(set4_heap _ _ _ _ _ _ _ (by omega)).trans a4, a2, a1, a3⟩
  · exact Or.inr ⟨(set4_heap _ _ _ _ _ _ _ (by omega)).trans a2, a1⟩

end Go.Proofs.YtnbekfpkmebmbaaGreatDoor
