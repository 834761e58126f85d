/-
  The reader of the document's answers: numbers.
-/
import Derived.Test.YtnbekfpkmebmbaaGreatDoorZTextEa
import Derived.Test.YtnbekfpkmebmbaaGreatDoorZTextEn
import Derived.Deep.LoopGhost
namespace Go.Proofs.YtnbekfpkmebmbaaGreatDoor
open Go.RowKit Go.Deep

theorem goes_minus (s : List UInt8) (i : Nat) : goesOn s i [45] = decide (sgn (s.drop i) = 1) := by
  rw [Bool.eq_iff_iff, goesOn_is, decide_eq_true_eq]
  unfold sgn
  cases s.drop i with
  | nil => simp
  | cons c r => simp

/-- A number has been read, or none. -/
def NumOut (lo hi : Int) (p : Nat) (s : List UInt8) (i : Nat) (w : World) (e : Ending) (w' : World) : Prop :=
  Mv p w w' ∧ ∃ (n : Int) (j : Nat) (b : Bool), e = .returned (.int .i64 n) ∧ Rd w' p s j b ∧ i ≤ j ∧ j ≤ s.length ∧ -576460752303423488 ≤ n ∧ n ≤ 576460752303423487 ∧
    ((b = false ∧ numI lo hi (s.drop i) = some (n, s.drop j)) ∨ (b = true ∧ numI lo hi (s.drop i) = none))
theorem dig_up (c : UInt8) (w : World) : Calls Tryz.prog 24 #[.int .u8 c.toNat, .int .u8 48, .int .u8 57] w fun e w' => e = .returned (.bool (isDig c)) ∧ Below w.heap.size w w' :=
  (dig_any c w).mono fun _ _ h => ⟨h.1, h.2 ▸ Below.refl _ _⟩
theorem tdiv_is {d : Nat} (h : d ≤ 9) : (-576460752303423488 + (48 + (d : Int) - 48)).tdiv 10 = -((576460752303423488 - (d : Int)) / 10) := by
  rw [show (-576460752303423488 + (48 + (d : Int) - 48)) = -(576460752303423488 - (d : Int)) by omega, Int.neg_tdiv, Int.tdiv_eq_ediv_of_nonneg (by omega)]
theorem dec_up (n : Int) (h0 : -9223372036854775808 < n) (h1 : n ≤ 9223372036854775807) (w : World) : Calls Tryz.prog 52 #[.int .i64 n] w fun e w' => e = .returned (.string (tx (dec n))) ∧ Below w.heap.size w w' :=
  (dec_any n h0 h1 w).mono fun _ _ h => ⟨h.1, h.2 ▸ Below.refl _ _⟩
theorem span_le (q : List UInt8) : (numSpan q).length ≤ q.length := (span_pre q).length_le

theorem sgn_01 (q : List UInt8) : sgn q ≤ 1 := by
  unfold sgn
  split <;> omega

set_option maxHeartbeats 8000000 in
theorem numberE_any (lo hi : Int) (hlo : -576460752303423488 ≤ lo) (hhi : hi ≤ 576460752303423487) (p : Nat) (s : List UInt8) (i : Nat) (w : World) (h : Rd w p s i false) (hs : s.length ≤ 1000000) (hi1 : i ≤ s.length) :
    Calls Tryz.prog 25 #[.pointer (some ⟨p, 0, none⟩), .int .i64 lo, .int .i64 hi] w (NumOut lo hi p s i w) := by
  obtain ⟨⟨c0, c1, c2⟩, f0, f1, f2⟩ := h.cells
  obtain ⟨q, hq⟩ : ∃ q, s.drop i = q := ⟨_, rfl⟩
  have hst := starts_any p s [45] i false w h (by omega) hi1 (by simp)
  rw [goes_minus, hq] at hst
  obtain ⟨sg, hsg⟩ : ∃ b, (decide (sgn q = 1)) = b := ⟨_, rfl⟩
  rw [hsg, Bool.not_false, Bool.true_and] at hst
  have hwi : IntKind.i64.wrap ((i : Int) + 1) = ((i + 1 : Nat) : Int) := by rw [wrap_id] <;> omega
  go_enter Tryz.func25, Tryz.ntmps25
  cases sg
  all_goals go_wp2_with (first
    | (go_at_call 29; refine hst.mono ?_; rintro e w1 ⟨rfl, hb1⟩; obtain ⟨⟨d0, d1, d2⟩, g0, g1, g2⟩ := (h.below hb1).cells))
  · have hR2 : Rd w1 p s (i + 0) false := h.below hb1
    have hM2 : Mv p w w1 := Mv.up hb1
    clear c0 c1 c2 f0 f1 f2 d0 d1 d2 g0 g1 g2 hb1 hst
    go_loopg [25] ((numSpan q).length - sgn q) (fun g _ wr => ∃ m : Nat, Hid (m + g = (numSpan q).length ∧ sgn q ≤ m ∧ m ≤ 20) ∧ Rd wr p s (i + m) false ∧ Mv p w wr)
    case atStart => exact ⟨0, Hid.mk (by have h8 : ¬ sgn q = 1 := of_decide_eq_false hsg; have := sgn_le q; have h9 := sgn_01 q; omega), hR2, hM2⟩
    case round =>
      clear hR2 hM2
      obtain ⟨m, hmm, hR, hM⟩ := hrel
      obtain ⟨hm1, hm2, hm3⟩ := hmm.out
      have hims : i + m ≤ s.length := by have := span_le q; rw [← hq, List.length_drop] at this; rw [← hq] at hm1; omega
      obtain ⟨c, hc⟩ : ∃ c, (s.drop (i + m)).headD 0 = c := ⟨_, rfl⟩
      have hdc : isDig c = decide (m < (numSpan q).length) := by rw [← hc, ← List.drop_drop, hq]; exact span_next hm2 (by omega)
      have hnx := fun w1 (h : Rd w1 p s (i + m) false) => next_any p s (i + m) false w1 h hims
      rw [hc, if_neg (by decide)] at hnx
      have hwm : IntKind.i64.wrap (((i + m : Nat) : Int) - i) = m := by rw [wrap_id] <;> omega
      obtain ⟨⟨d0, d1, d2⟩, g0, g1, g2⟩ := hR.cells
      by_cases hlt : m < (numSpan q).length
      · rw [decide_eq_true hlt] at hdc
        have hdg := dig_any c
        rw [hdc] at hdg
        by_cases h20 : m < 20
        · have hb20 : decide ((m : Int) < 20) = true := decide_eq_true (by omega)
          have h20' : ((m : Int) < 20) := by omega
          have hwi1 : IntKind.i64.wrap (((i + m : Nat) : Int) + 1) = ((i + (m + 1) : Nat) : Int) := by rw [wrap_id] <;> omega
          go_wp2_with (first
            | (go_at_call 23; refine (hnx _ hR).mono ?_; rintro e w2 ⟨rfl, hb2⟩; obtain ⟨⟨d0, d1, d2⟩, g0, g1, g2⟩ := (hR.below hb2).cells)
            | (go_at_call 24; refine (hdg _).mono ?_; rintro e w3 ⟨rfl, rfl⟩))
          go_roundg (gk - 1)
          case measure => omega
          case rel => exact ⟨m + 1, Hid.mk (by omega), (hR.below hb2).at (i + (m + 1)), (hM.trans (Mv.up hb2)).set⟩
        · have hb20 : decide ((m : Int) < 20) = false := decide_eq_false (by omega)
          have h20' : ¬ ((m : Int) < 20) := by omega
          have hex : Hid (m = (numSpan q).length ∨ m = 20) := Hid.mk (by omega)
          have hs1 := of_decide_eq_false hsg
          have hil : i < s.length := by omega
          have hil2 : i < (tx s).size := by rw [tx_size]; exact hil
          obtain ⟨c9, hx⟩ : ∃ c9, (tx s)[i]'hil2 = c9 := ⟨_, rfl⟩
          have hx9 : ((c9.toNat : Int) == 45) = false := by
            rw [beq_eq_false_iff_ne]
            intro e
            apply hs1
            have e9 : c9 = 45 := UInt8.toNat.inj (by have h5 : (45 : UInt8).toNat = 45 := rfl; omega)
            have e8 : s[i]'hil = 45 := hx.trans e9
            have e7 : (s.drop i).head? = some 45 := by
              rw [List.drop_eq_getElem_cons hil, List.head?_cons]
              exact congrArg some e8
            unfold sgn
            rw [← hq]
            exact if_pos e7
          have him : ((i : Int) < i + m) = True := eq_true (by omega)
          have hMm : Hid (sgn q ≤ m ∧ m ≤ (numSpan q).length ∧ m ≤ 20) := Hid.mk (by omega)
          clear hlt h20 hmm hm1 hm2 hm3 hs1
          go_wp2_with (first
            | (go_at_call 23; refine (hnx _ hR).mono ?_; rintro e w2 ⟨rfl, hb2⟩; obtain ⟨⟨d0, d1, d2⟩, g0, g1, g2⟩ := (hR.below hb2).cells)
            | (go_at_call 24; refine (hdg _).mono ?_; rintro e w3 ⟨rfl, rfl⟩))
          have hR2 := hR.below hb2
          have hM2 := hM.trans (Mv.up hb2)
          have hex2 : Hid (m = (numSpan q).length ∨ m = 20) := hex
          go_loopg [9, 10] m (fun g nn ii wr => ∃ k : Nat, ii = .int .i64 ((i + k : Nat) : Int) ∧ nn = .int .i64 (nv ((numSpan q).take k)) ∧ Hid (k + g = m) ∧ Hid (-576460752303423488 ≤ nv ((numSpan q).take k)) ∧ wr = w2)
          case atStart => exact ⟨0, rfl, rfl, Hid.mk (by omega), Hid.mk (by rw [List.take_zero]; decide), rfl⟩
          case round =>
            obtain ⟨k, rfl, rfl, hkm, hnn, hwr⟩ := hrel
            obtain rfl := hwr.symm
            by_cases hlt : k < m
            · have hc2 := hMm.out
              obtain ⟨hkq, hkq2⟩ := span_get q k (by omega)
              have hil3 : i + k < (tx s).size := by rw [tx_size]; omega
              obtain ⟨c2, hc2'⟩ : ∃ c2, (numSpan q)[k]'(by omega) = c2 := ⟨_, rfl⟩
              have hx2 : (tx s)[i + k]'hil3 = c2 := by
                have h9 : s[i + k]? = some c2 := by rw [← List.getElem?_drop, hq, List.getElem?_eq_getElem hkq, hkq2, hc2']
                have h8 : i + k < s.length := by omega
                rw [List.getElem?_eq_getElem h8] at h9
                exact Option.some.inj h9
              have hall := span_all q c2 (hc2' ▸ List.getElem_mem _)
              have hnx2 : nv ((numSpan q).take (k + 1)) = nvS (nv ((numSpan q).take k)) c2 := by rw [List.take_succ_eq_append_getElem (by omega), nv_snoc, hc2']
              have hnp := (nv_take (span_all q) k).2
              have hikm : ((i : Int) + k < i + m) = True := eq_true (by omega)
              by_cases h45 : c2 = 45
              · subst h45
                go_wp2
                go_roundg (gk - 1)
                case measure => have := hkm.out; omega
                case rel => exact ⟨k + 1, by push_cast; rw [Int.add_assoc], by rw [hnx2]; rfl, Hid.mk (by have := hkm.out; omega), Hid.mk (by rw [hnx2]; exact hnn.out), rfl⟩
              · have hdg2 := hall.resolve_left h45
                have hdr := dig_toNat hdg2
                have h45' : ((c2.toNat : Int) == 45) = false := by
                  rw [beq_eq_false_iff_ne]
                  intro e
                  exact h45 (UInt8.toNat.inj (by have h5 : (45 : UInt8).toNat = 45 := rfl; omega))
                rw [nvS_dig hdg2] at hnx2
                obtain ⟨d, hd⟩ : ∃ d : Nat, c2.toNat = 48 + d := ⟨c2.toNat - 48, by omega⟩
                rw [hd] at hnx2 h45'
                have hd9 : d ≤ 9 := by omega
                obtain ⟨n0, hn0⟩ : ∃ n0, nv ((numSpan q).take k) = n0 := ⟨_, rfl⟩
                have hnn1 := hnn.out
                rw [hn0] at hnx2 hnp hnn1 ⊢
                go_wp2
                · rename_i hbig
                  have hgr : nv ((numSpan q).take (k + 1)) < -576460752303423488 := by rw [hnx2]; rw [tdiv_is hd9] at hbig; push_cast; omega
                  have hno := numI_great hlo hhi hgr
                  go_ret
                  unfold NumOut
                  exact ⟨hM2.set, 0, i + m, true, rfl, hR2.worse, by omega, hims, by omega, by omega, Or.inr ⟨rfl, by rw [hq]; exact hno⟩⟩
                · go_roundg (gk - 1)
                  case measure => have := hkm.out; omega
                  case rel => exact ⟨k + 1, by push_cast; rw [Int.add_assoc], by rw [hnx2]; push_cast; rfl, Hid.mk (by have := hkm.out; omega), Hid.mk (by rw [hnx2]; rename_i hbig; rw [tdiv_is hd9] at hbig; push_cast; omega), rfl⟩
            · have hk := hkm.out
              obtain rfl : k = m := by omega
              have hikm : ¬ ((i : Int) + k < i + k) := by omega
              have hat := numI_at (lo := lo) (hi := hi) (q := q) (m := k) (by omega) (by omega) hMm.out.2.1 hex2.out
              have hnvv := numVal_nv (q := q) (m := k) hMm.out.1 hMm.out.2.1
              rw [if_neg (of_decide_eq_false hsg)] at hnvv
              have hnp := (nv_take (span_all q) k).2
              have hnn2 := hnn.out
              have hpt := tx_part s i k
              rw [hq] at hpt
              have hst := tx_size (q.take k)
              have hsz := tx_size s
              have hto : ((i : Int) + k).toNat = i + k := by omega
              rw [hnvv] at hat
              generalize nv ((numSpan q).take k) = v at *
              clear hnvv hx hil2 hwi hwm hb20 h20' him hnn hdc hdg hnx
              go_upto_region 19 with fail
              by_cases hvl : (-v) < lo
              · skip
                refine region_up (W := w2) (by kernel_rfl) (by kernel_rfl) (Up.refl _) ?_
                refine quiet_value (v := .pointer (some ⟨p, 0, none⟩)) rfl (fun _ _ => rfl) ?_
                simp only [Act.put, List.setIfInBounds_toArray, List.set_cons_zero, List.set_cons_succ]
                refine quiet_value (v := .pointer (some ⟨p, 0, none⟩)) rfl (fun _ _ => (by go_simp)) ?_
                simp only [Act.put, List.setIfInBounds_toArray, List.set_cons_zero, List.set_cons_succ]
                refine quiet_value (v := .pointer (some ⟨p, 2, none⟩)) rfl (fun _ _ => (by go_simp)) ?_
                simp only [Act.put, List.setIfInBounds_toArray, List.set_cons_zero, List.set_cons_succ]
                refine quiet_value (v := .bool false) rfl (fun W h => (by have u0 := cell_below h.out _ _ _ d2; go_simp)) ?_
                simp only [Act.put, List.setIfInBounds_toArray, List.set_cons_zero, List.set_cons_succ]
                refine quiet_value (v := .bool false) rfl (fun _ _ => rfl) ?_
                simp only [Act.put, List.setIfInBounds_toArray, List.set_cons_zero, List.set_cons_succ]
                refine quiet_value (v := .int .i64 (-v)) rfl (fun _ _ => rfl) ?_
                simp only [Act.put, List.setIfInBounds_toArray, List.set_cons_zero, List.set_cons_succ]
                refine quiet_value (v := .int .i64 lo) rfl (fun _ _ => rfl) ?_
                simp only [Act.put, List.setIfInBounds_toArray, List.set_cons_zero, List.set_cons_succ]
                refine quiet_value (v := .bool true) rfl (fun _ _ => (by go_simp)) ?_
                simp only [Act.put, List.setIfInBounds_toArray, List.set_cons_zero, List.set_cons_succ]
                refine quiet_value (v := .bool true) rfl (fun _ _ => (by go_simp)) ?_
                simp only [Act.put, List.setIfInBounds_toArray, List.set_cons_zero, List.set_cons_succ]
                refine quiet_value (v := .bool true) rfl (fun _ _ => rfl) ?_
                simp only [Act.put, List.setIfInBounds_toArray, List.set_cons_zero, List.set_cons_succ]
                refine quiet_not rfl ?_
                simp only [Act.put, List.setIfInBounds_toArray, List.set_cons_zero, List.set_cons_succ]
                refine quiet_not rfl ?_
                simp only [Act.put, List.setIfInBounds_toArray, List.set_cons_zero, List.set_cons_succ]
                refine quiet_not rfl ?_
                simp only [Act.put, List.setIfInBounds_toArray, List.set_cons_zero, List.set_cons_succ]
                refine quiet_value (v := .bool true) rfl (fun _ _ => (by go_simp)) ?_
                simp only [Act.put, List.setIfInBounds_toArray, List.set_cons_zero, List.set_cons_succ]
                refine quiet_value (v := .bool true) rfl (fun _ _ => rfl) ?_
                simp only [Act.put, List.setIfInBounds_toArray, List.set_cons_zero, List.set_cons_succ]
                refine quiet_not rfl ?_
                simp only [Act.put, List.setIfInBounds_toArray, List.set_cons_zero, List.set_cons_succ]
                refine quiet_not rfl ?_
                simp only [Act.put, List.setIfInBounds_toArray, List.set_cons_zero, List.set_cons_succ]
                refine quiet_not rfl ?_
                simp only [Act.put, List.setIfInBounds_toArray, List.set_cons_zero, List.set_cons_succ]
                refine quiet_not rfl ?_
                simp only [Act.put, List.setIfInBounds_toArray, List.set_cons_zero, List.set_cons_succ]
                refine quiet_not rfl ?_
                simp only [Act.put, List.setIfInBounds_toArray, List.set_cons_zero, List.set_cons_succ]
                refine quiet_not rfl ?_
                simp only [Act.put, List.setIfInBounds_toArray, List.set_cons_zero, List.set_cons_succ]
                refine quiet_not rfl ?_
                simp only [Act.put, List.setIfInBounds_toArray, List.set_cons_zero, List.set_cons_succ]
                refine quiet_not rfl ?_
                simp only [Act.put, List.setIfInBounds_toArray, List.set_cons_zero, List.set_cons_succ]
                refine quiet_not rfl ?_
                simp only [Act.put, List.setIfInBounds_toArray, List.set_cons_zero, List.set_cons_succ]
                refine quiet_not rfl ?_
                simp only [Act.put, List.setIfInBounds_toArray, List.set_cons_zero, List.set_cons_succ]
                refine quiet_not rfl ?_
                simp only [Act.put, List.setIfInBounds_toArray, List.set_cons_zero, List.set_cons_succ]
                refine quiet_not rfl ?_
                simp only [Act.put, List.setIfInBounds_toArray, List.set_cons_zero, List.set_cons_succ]
                refine quiet_not rfl ?_
                simp only [Act.put, List.setIfInBounds_toArray, List.set_cons_zero, List.set_cons_succ]
                refine quiet_value (v := .bool true) rfl (fun _ _ => (by go_simp)) ?_
                simp only [Act.put, List.setIfInBounds_toArray, List.set_cons_zero, List.set_cons_succ]
                refine quiet_nil ?_
                intro w3 hw3
                have hR3 := hR2.below hw3.out
                obtain ⟨⟨d0, d1, d2⟩, g0, g1, g2⟩ := hR3.cells
                go_wp2
                go_ret
                unfold NumOut
                exact ⟨(hM2.trans (Mv.up hw3.out)).set, 0, i + k, true, rfl, hR3.worse, by omega, hims, by omega, by omega, Or.inr ⟨rfl, by rw [hq, hat]; exact if_neg fun h => absurd h.1 (by omega)⟩⟩
              · by_cases hvh : (-v) > hi
                · skip
                  refine region_up (W := w2) (by kernel_rfl) (by kernel_rfl) (Up.refl _) ?_
                  refine quiet_value (v := .pointer (some ⟨p, 0, none⟩)) rfl (fun _ _ => rfl) ?_
                  simp only [Act.put, List.setIfInBounds_toArray, List.set_cons_zero, List.set_cons_succ]
                  refine quiet_value (v := .pointer (some ⟨p, 0, none⟩)) rfl (fun _ _ => (by go_simp)) ?_
                  simp only [Act.put, List.setIfInBounds_toArray, List.set_cons_zero, List.set_cons_succ]
                  refine quiet_value (v := .pointer (some ⟨p, 2, none⟩)) rfl (fun _ _ => (by go_simp)) ?_
                  simp only [Act.put, List.setIfInBounds_toArray, List.set_cons_zero, List.set_cons_succ]
                  refine quiet_value (v := .bool false) rfl (fun W h => (by have u0 := cell_below h.out _ _ _ d2; go_simp)) ?_
                  simp only [Act.put, List.setIfInBounds_toArray, List.set_cons_zero, List.set_cons_succ]
                  refine quiet_value (v := .bool false) rfl (fun _ _ => rfl) ?_
                  simp only [Act.put, List.setIfInBounds_toArray, List.set_cons_zero, List.set_cons_succ]
                  refine quiet_value (v := .int .i64 (-v)) rfl (fun _ _ => rfl) ?_
                  simp only [Act.put, List.setIfInBounds_toArray, List.set_cons_zero, List.set_cons_succ]
                  refine quiet_value (v := .int .i64 lo) rfl (fun _ _ => rfl) ?_
                  simp only [Act.put, List.setIfInBounds_toArray, List.set_cons_zero, List.set_cons_succ]
                  refine quiet_value (v := .bool false) rfl (fun _ _ => (by go_simp)) ?_
                  simp only [Act.put, List.setIfInBounds_toArray, List.set_cons_zero, List.set_cons_succ]
                  refine quiet_value (v := .bool false) rfl (fun _ _ => (by go_simp)) ?_
                  simp only [Act.put, List.setIfInBounds_toArray, List.set_cons_zero, List.set_cons_succ]
                  refine quiet_value (v := .bool false) rfl (fun _ _ => rfl) ?_
                  simp only [Act.put, List.setIfInBounds_toArray, List.set_cons_zero, List.set_cons_succ]
                  refine quiet_value (v := .int .i64 (-v)) rfl (fun _ _ => rfl) ?_
                  simp only [Act.put, List.setIfInBounds_toArray, List.set_cons_zero, List.set_cons_succ]
                  refine quiet_value (v := .int .i64 hi) rfl (fun _ _ => rfl) ?_
                  simp only [Act.put, List.setIfInBounds_toArray, List.set_cons_zero, List.set_cons_succ]
                  refine quiet_value (v := .bool true) rfl (fun _ _ => (by go_simp)) ?_
                  simp only [Act.put, List.setIfInBounds_toArray, List.set_cons_zero, List.set_cons_succ]
                  refine quiet_value (v := .bool true) rfl (fun _ _ => (by go_simp)) ?_
                  simp only [Act.put, List.setIfInBounds_toArray, List.set_cons_zero, List.set_cons_succ]
                  refine quiet_value (v := .bool true) rfl (fun _ _ => rfl) ?_
                  simp only [Act.put, List.setIfInBounds_toArray, List.set_cons_zero, List.set_cons_succ]
                  refine quiet_not rfl ?_
                  simp only [Act.put, List.setIfInBounds_toArray, List.set_cons_zero, List.set_cons_succ]
                  refine quiet_not rfl ?_
                  simp only [Act.put, List.setIfInBounds_toArray, List.set_cons_zero, List.set_cons_succ]
                  refine quiet_not rfl ?_
                  simp only [Act.put, List.setIfInBounds_toArray, List.set_cons_zero, List.set_cons_succ]
                  refine quiet_not rfl ?_
                  simp only [Act.put, List.setIfInBounds_toArray, List.set_cons_zero, List.set_cons_succ]
                  refine quiet_not rfl ?_
                  simp only [Act.put, List.setIfInBounds_toArray, List.set_cons_zero, List.set_cons_succ]
                  refine quiet_not rfl ?_
                  simp only [Act.put, List.setIfInBounds_toArray, List.set_cons_zero, List.set_cons_succ]
                  refine quiet_not rfl ?_
                  simp only [Act.put, List.setIfInBounds_toArray, List.set_cons_zero, List.set_cons_succ]
                  refine quiet_not rfl ?_
                  simp only [Act.put, List.setIfInBounds_toArray, List.set_cons_zero, List.set_cons_succ]
                  refine quiet_not rfl ?_
                  simp only [Act.put, List.setIfInBounds_toArray, List.set_cons_zero, List.set_cons_succ]
                  refine quiet_not rfl ?_
                  simp only [Act.put, List.setIfInBounds_toArray, List.set_cons_zero, List.set_cons_succ]
                  refine quiet_not rfl ?_
                  simp only [Act.put, List.setIfInBounds_toArray, List.set_cons_zero, List.set_cons_succ]
                  refine quiet_not rfl ?_
                  simp only [Act.put, List.setIfInBounds_toArray, List.set_cons_zero, List.set_cons_succ]
                  refine quiet_not rfl ?_
                  simp only [Act.put, List.setIfInBounds_toArray, List.set_cons_zero, List.set_cons_succ]
                  refine quiet_value (v := .bool true) rfl (fun _ _ => (by go_simp)) ?_
                  simp only [Act.put, List.setIfInBounds_toArray, List.set_cons_zero, List.set_cons_succ]
                  refine quiet_nil ?_
                  intro w3 hw3
                  have hR3 := hR2.below hw3.out
                  obtain ⟨⟨d0, d1, d2⟩, g0, g1, g2⟩ := hR3.cells
                  go_wp2
                  go_ret
                  unfold NumOut
                  exact ⟨(hM2.trans (Mv.up hw3.out)).set, 0, i + k, true, rfl, hR3.worse, by omega, hims, by omega, by omega, Or.inr ⟨rfl, by rw [hq, hat]; exact if_neg fun h => absurd h.2.1 (by omega)⟩⟩
                · by_cases hne : q.take k = dec (-v)
                  · skip
                    refine region_up (W := w2) (by kernel_rfl) (by kernel_rfl) (Up.refl _) ?_
                    refine quiet_value (v := .pointer (some ⟨p, 0, none⟩)) rfl (fun _ _ => rfl) ?_
                    simp only [Act.put, List.setIfInBounds_toArray, List.set_cons_zero, List.set_cons_succ]
                    refine quiet_value (v := .pointer (some ⟨p, 0, none⟩)) rfl (fun _ _ => (by go_simp)) ?_
                    simp only [Act.put, List.setIfInBounds_toArray, List.set_cons_zero, List.set_cons_succ]
                    refine quiet_value (v := .pointer (some ⟨p, 2, none⟩)) rfl (fun _ _ => (by go_simp)) ?_
                    simp only [Act.put, List.setIfInBounds_toArray, List.set_cons_zero, List.set_cons_succ]
                    refine quiet_value (v := .bool false) rfl (fun W h => (by have u0 := cell_below h.out _ _ _ d2; go_simp)) ?_
                    simp only [Act.put, List.setIfInBounds_toArray, List.set_cons_zero, List.set_cons_succ]
                    refine quiet_value (v := .bool false) rfl (fun _ _ => rfl) ?_
                    simp only [Act.put, List.setIfInBounds_toArray, List.set_cons_zero, List.set_cons_succ]
                    refine quiet_value (v := .int .i64 (-v)) rfl (fun _ _ => rfl) ?_
                    simp only [Act.put, List.setIfInBounds_toArray, List.set_cons_zero, List.set_cons_succ]
                    refine quiet_value (v := .int .i64 lo) rfl (fun _ _ => rfl) ?_
                    simp only [Act.put, List.setIfInBounds_toArray, List.set_cons_zero, List.set_cons_succ]
                    refine quiet_value (v := .bool false) rfl (fun _ _ => (by go_simp)) ?_
                    simp only [Act.put, List.setIfInBounds_toArray, List.set_cons_zero, List.set_cons_succ]
                    refine quiet_value (v := .bool false) rfl (fun _ _ => (by go_simp)) ?_
                    simp only [Act.put, List.setIfInBounds_toArray, List.set_cons_zero, List.set_cons_succ]
                    refine quiet_value (v := .bool false) rfl (fun _ _ => rfl) ?_
                    simp only [Act.put, List.setIfInBounds_toArray, List.set_cons_zero, List.set_cons_succ]
                    refine quiet_value (v := .int .i64 (-v)) rfl (fun _ _ => rfl) ?_
                    simp only [Act.put, List.setIfInBounds_toArray, List.set_cons_zero, List.set_cons_succ]
                    refine quiet_value (v := .int .i64 hi) rfl (fun _ _ => rfl) ?_
                    simp only [Act.put, List.setIfInBounds_toArray, List.set_cons_zero, List.set_cons_succ]
                    refine quiet_value (v := .bool false) rfl (fun _ _ => (by go_simp)) ?_
                    simp only [Act.put, List.setIfInBounds_toArray, List.set_cons_zero, List.set_cons_succ]
                    refine quiet_value (v := .bool false) rfl (fun _ _ => (by go_simp)) ?_
                    simp only [Act.put, List.setIfInBounds_toArray, List.set_cons_zero, List.set_cons_succ]
                    refine quiet_value (v := .bool false) rfl (fun _ _ => rfl) ?_
                    simp only [Act.put, List.setIfInBounds_toArray, List.set_cons_zero, List.set_cons_succ]
                    refine quiet_value (v := .pointer (some ⟨p, 0, none⟩)) rfl (fun _ _ => rfl) ?_
                    simp only [Act.put, List.setIfInBounds_toArray, List.set_cons_zero, List.set_cons_succ]
                    refine quiet_value (v := .pointer (some ⟨p, 0, none⟩)) rfl (fun _ _ => (by go_simp)) ?_
                    simp only [Act.put, List.setIfInBounds_toArray, List.set_cons_zero, List.set_cons_succ]
                    refine quiet_value (v := .pointer (some ⟨p, 0, none⟩)) rfl (fun _ _ => (by go_simp)) ?_
                    simp only [Act.put, List.setIfInBounds_toArray, List.set_cons_zero, List.set_cons_succ]
                    refine quiet_value (v := .string (tx s)) rfl (fun W h => (by have u0 := cell_below h.out _ _ _ d0; go_simp)) ?_
                    simp only [Act.put, List.setIfInBounds_toArray, List.set_cons_zero, List.set_cons_succ]
                    refine quiet_value (v := .int .i64 i) rfl (fun _ _ => rfl) ?_
                    simp only [Act.put, List.setIfInBounds_toArray, List.set_cons_zero, List.set_cons_succ]
                    refine quiet_value (v := .pointer (some ⟨p, 0, none⟩)) rfl (fun _ _ => rfl) ?_
                    simp only [Act.put, List.setIfInBounds_toArray, List.set_cons_zero, List.set_cons_succ]
                    refine quiet_value (v := .pointer (some ⟨p, 0, none⟩)) rfl (fun _ _ => (by go_simp)) ?_
                    simp only [Act.put, List.setIfInBounds_toArray, List.set_cons_zero, List.set_cons_succ]
                    refine quiet_value (v := .pointer (some ⟨p, 1, none⟩)) rfl (fun _ _ => (by go_simp)) ?_
                    simp only [Act.put, List.setIfInBounds_toArray, List.set_cons_zero, List.set_cons_succ]
                    refine quiet_value (v := .int .i64 ((i + k : Nat) : Int)) rfl (fun W h => (by have u0 := cell_below h.out _ _ _ d1; go_simp)) ?_
                    simp only [Act.put, List.setIfInBounds_toArray, List.set_cons_zero, List.set_cons_succ]
                    refine quiet_value (v := .string (tx (q.take k))) rfl (fun _ _ => (by go_simp; rw [if_pos ⟨by omega, by omega⟩, if_pos (by omega)])) ?_
                    simp only [Act.put, List.setIfInBounds_toArray, List.set_cons_zero, List.set_cons_succ]
                    refine quiet_value (v := .int .i64 (-v)) rfl (fun _ _ => rfl) ?_
                    simp only [Act.put, List.setIfInBounds_toArray, List.set_cons_zero, List.set_cons_succ]
                    refine quiet_call (v := .string (tx (dec (-v)))) rfl (fun W => (by go_simp)) (fun W h => (dec_up (-v) (by omega) (by omega) W).mono fun e w' ⟨he, hb⟩ => ⟨he, h.call hb⟩) ?_
                    simp only [Act.put, List.setIfInBounds_toArray, List.set_cons_zero, List.set_cons_succ]
                    refine quiet_value (v := .bool false) rfl (fun _ _ => (by go_simp)) ?_
                    simp only [Act.put, List.setIfInBounds_toArray, List.set_cons_zero, List.set_cons_succ]
                    refine quiet_value (v := .bool false) rfl (fun _ _ => (by go_simp)) ?_
                    simp only [Act.put, List.setIfInBounds_toArray, List.set_cons_zero, List.set_cons_succ]
                    refine quiet_nil ?_
                    intro w3 hw3
                    have hR3 := hR2.below hw3.out
                    go_wp2
                    go_ret
                    unfold NumOut
                    exact ⟨hM2.trans (Mv.up hw3.out), (-v), i + k, false, rfl, hR3, by omega, hims, by omega, by omega, Or.inl ⟨rfl, by rw [hq, hat, if_pos ⟨by omega, by omega, hne⟩, ← hq, List.drop_drop]⟩⟩
                  · have hne2 : ¬ (tx (q.take k)).toList = (tx (dec (-v))).toList := by rw [tx_toList, tx_toList]; exact hne
                    have hne' : ¬ tx (q.take k) = tx (dec (-v)) := fun e => hne ((tx_eq _ _).1 e)
                    refine region_up (W := w2) (by kernel_rfl) (by kernel_rfl) (Up.refl _) ?_
                    refine quiet_value (v := .pointer (some ⟨p, 0, none⟩)) rfl (fun _ _ => rfl) ?_
                    simp only [Act.put, List.setIfInBounds_toArray, List.set_cons_zero, List.set_cons_succ]
                    refine quiet_value (v := .pointer (some ⟨p, 0, none⟩)) rfl (fun _ _ => (by go_simp)) ?_
                    simp only [Act.put, List.setIfInBounds_toArray, List.set_cons_zero, List.set_cons_succ]
                    refine quiet_value (v := .pointer (some ⟨p, 2, none⟩)) rfl (fun _ _ => (by go_simp)) ?_
                    simp only [Act.put, List.setIfInBounds_toArray, List.set_cons_zero, List.set_cons_succ]
                    refine quiet_value (v := .bool false) rfl (fun W h => (by have u0 := cell_below h.out _ _ _ d2; go_simp)) ?_
                    simp only [Act.put, List.setIfInBounds_toArray, List.set_cons_zero, List.set_cons_succ]
                    refine quiet_value (v := .bool false) rfl (fun _ _ => rfl) ?_
                    simp only [Act.put, List.setIfInBounds_toArray, List.set_cons_zero, List.set_cons_succ]
                    refine quiet_value (v := .int .i64 (-v)) rfl (fun _ _ => rfl) ?_
                    simp only [Act.put, List.setIfInBounds_toArray, List.set_cons_zero, List.set_cons_succ]
                    refine quiet_value (v := .int .i64 lo) rfl (fun _ _ => rfl) ?_
                    simp only [Act.put, List.setIfInBounds_toArray, List.set_cons_zero, List.set_cons_succ]
                    refine quiet_value (v := .bool false) rfl (fun _ _ => (by go_simp)) ?_
                    simp only [Act.put, List.setIfInBounds_toArray, List.set_cons_zero, List.set_cons_succ]
                    refine quiet_value (v := .bool false) rfl (fun _ _ => (by go_simp)) ?_
                    simp only [Act.put, List.setIfInBounds_toArray, List.set_cons_zero, List.set_cons_succ]
                    refine quiet_value (v := .bool false) rfl (fun _ _ => rfl) ?_
                    simp only [Act.put, List.setIfInBounds_toArray, List.set_cons_zero, List.set_cons_succ]
                    refine quiet_value (v := .int .i64 (-v)) rfl (fun _ _ => rfl) ?_
                    simp only [Act.put, List.setIfInBounds_toArray, List.set_cons_zero, List.set_cons_succ]
                    refine quiet_value (v := .int .i64 hi) rfl (fun _ _ => rfl) ?_
                    simp only [Act.put, List.setIfInBounds_toArray, List.set_cons_zero, List.set_cons_succ]
                    refine quiet_value (v := .bool false) rfl (fun _ _ => (by go_simp)) ?_
                    simp only [Act.put, List.setIfInBounds_toArray, List.set_cons_zero, List.set_cons_succ]
                    refine quiet_value (v := .bool false) rfl (fun _ _ => (by go_simp)) ?_
                    simp only [Act.put, List.setIfInBounds_toArray, List.set_cons_zero, List.set_cons_succ]
                    refine quiet_value (v := .bool false) rfl (fun _ _ => rfl) ?_
                    simp only [Act.put, List.setIfInBounds_toArray, List.set_cons_zero, List.set_cons_succ]
                    refine quiet_value (v := .pointer (some ⟨p, 0, none⟩)) rfl (fun _ _ => rfl) ?_
                    simp only [Act.put, List.setIfInBounds_toArray, List.set_cons_zero, List.set_cons_succ]
                    refine quiet_value (v := .pointer (some ⟨p, 0, none⟩)) rfl (fun _ _ => (by go_simp)) ?_
                    simp only [Act.put, List.setIfInBounds_toArray, List.set_cons_zero, List.set_cons_succ]
                    refine quiet_value (v := .pointer (some ⟨p, 0, none⟩)) rfl (fun _ _ => (by go_simp)) ?_
                    simp only [Act.put, List.setIfInBounds_toArray, List.set_cons_zero, List.set_cons_succ]
                    refine quiet_value (v := .string (tx s)) rfl (fun W h => (by have u0 := cell_below h.out _ _ _ d0; go_simp)) ?_
                    simp only [Act.put, List.setIfInBounds_toArray, List.set_cons_zero, List.set_cons_succ]
                    refine quiet_value (v := .int .i64 i) rfl (fun _ _ => rfl) ?_
                    simp only [Act.put, List.setIfInBounds_toArray, List.set_cons_zero, List.set_cons_succ]
                    refine quiet_value (v := .pointer (some ⟨p, 0, none⟩)) rfl (fun _ _ => rfl) ?_
                    simp only [Act.put, List.setIfInBounds_toArray, List.set_cons_zero, List.set_cons_succ]
                    refine quiet_value (v := .pointer (some ⟨p, 0, none⟩)) rfl (fun _ _ => (by go_simp)) ?_
                    simp only [Act.put, List.setIfInBounds_toArray, List.set_cons_zero, List.set_cons_succ]
                    refine quiet_value (v := .pointer (some ⟨p, 1, none⟩)) rfl (fun _ _ => (by go_simp)) ?_
                    simp only [Act.put, List.setIfInBounds_toArray, List.set_cons_zero, List.set_cons_succ]
                    refine quiet_value (v := .int .i64 ((i + k : Nat) : Int)) rfl (fun W h => (by have u0 := cell_below h.out _ _ _ d1; go_simp)) ?_
                    simp only [Act.put, List.setIfInBounds_toArray, List.set_cons_zero, List.set_cons_succ]
                    refine quiet_value (v := .string (tx (q.take k))) rfl (fun _ _ => (by go_simp; rw [if_pos ⟨by omega, by omega⟩, if_pos (by omega)])) ?_
                    simp only [Act.put, List.setIfInBounds_toArray, List.set_cons_zero, List.set_cons_succ]
                    refine quiet_value (v := .int .i64 (-v)) rfl (fun _ _ => rfl) ?_
                    simp only [Act.put, List.setIfInBounds_toArray, List.set_cons_zero, List.set_cons_succ]
                    refine quiet_call (v := .string (tx (dec (-v)))) rfl (fun W => (by go_simp)) (fun W h => (dec_up (-v) (by omega) (by omega) W).mono fun e w' ⟨he, hb⟩ => ⟨he, h.call hb⟩) ?_
                    simp only [Act.put, List.setIfInBounds_toArray, List.set_cons_zero, List.set_cons_succ]
                    refine quiet_value (v := .bool true) rfl (fun _ _ => (by go_simp)) ?_
                    simp only [Act.put, List.setIfInBounds_toArray, List.set_cons_zero, List.set_cons_succ]
                    refine quiet_value (v := .bool true) rfl (fun _ _ => (by go_simp)) ?_
                    simp only [Act.put, List.setIfInBounds_toArray, List.set_cons_zero, List.set_cons_succ]
                    refine quiet_nil ?_
                    intro w3 hw3
                    have hR3 := hR2.below hw3.out
                    obtain ⟨⟨d0, d1, d2⟩, g0, g1, g2⟩ := hR3.cells
                    go_wp2
                    go_ret
                    unfold NumOut
                    exact ⟨(hM2.trans (Mv.up hw3.out)).set, 0, i + k, true, rfl, hR3.worse, by omega, hims, by omega, by omega, Or.inr ⟨rfl, by rw [hq, hat]; exact if_neg fun h => hne h.2.2⟩⟩
      · rw [decide_eq_false hlt] at hdc
        have hdg := dig_any c
        rw [hdc] at hdg
        by_cases hm0 : m = 0
        · have hex : Hid (m = (numSpan q).length ∨ m = 20) := Hid.mk (by omega)
          have hs1 := of_decide_eq_false hsg
          have him : ((i : Int) < i + m) = False := eq_false (by omega)
          have hMm : Hid (sgn q ≤ m ∧ m ≤ (numSpan q).length ∧ m ≤ 20) := Hid.mk (by omega)
          clear hm0 hlt hmm hm1 hm2 hm3 hs1
          go_wp2_with (first
            | (go_at_call 23; refine (hnx _ hR).mono ?_; rintro e w2 ⟨rfl, hb2⟩; obtain ⟨⟨d0, d1, d2⟩, g0, g1, g2⟩ := (hR.below hb2).cells)
            | (go_at_call 24; refine (hdg _).mono ?_; rintro e w3 ⟨rfl, rfl⟩))
          have hR2 := hR.below hb2
          have hM2 := hM.trans (Mv.up hb2)
          have hex2 : Hid (m = (numSpan q).length ∨ m = 20) := hex
          go_loopg [9, 10] m (fun g nn ii wr => ∃ k : Nat, ii = .int .i64 ((i + k : Nat) : Int) ∧ nn = .int .i64 (nv ((numSpan q).take k)) ∧ Hid (k + g = m) ∧ Hid (-576460752303423488 ≤ nv ((numSpan q).take k)) ∧ wr = w2)
          case atStart => exact ⟨0, rfl, rfl, Hid.mk (by omega), Hid.mk (by rw [List.take_zero]; decide), rfl⟩
          case round =>
            obtain ⟨k, rfl, rfl, hkm, hnn, hwr⟩ := hrel
            obtain rfl := hwr.symm
            by_cases hlt : k < m
            · have hc2 := hMm.out
              obtain ⟨hkq, hkq2⟩ := span_get q k (by omega)
              have hil3 : i + k < (tx s).size := by rw [tx_size]; omega
              obtain ⟨c2, hc2'⟩ : ∃ c2, (numSpan q)[k]'(by omega) = c2 := ⟨_, rfl⟩
              have hx2 : (tx s)[i + k]'hil3 = c2 := by
                have h9 : s[i + k]? = some c2 := by rw [← List.getElem?_drop, hq, List.getElem?_eq_getElem hkq, hkq2, hc2']
                have h8 : i + k < s.length := by omega
                rw [List.getElem?_eq_getElem h8] at h9
                exact Option.some.inj h9
              have hall := span_all q c2 (hc2' ▸ List.getElem_mem _)
              have hnx2 : nv ((numSpan q).take (k + 1)) = nvS (nv ((numSpan q).take k)) c2 := by rw [List.take_succ_eq_append_getElem (by omega), nv_snoc, hc2']
              have hnp := (nv_take (span_all q) k).2
              have hikm : ((i : Int) + k < i + m) = True := eq_true (by omega)
              by_cases h45 : c2 = 45
              · subst h45
                go_wp2
                go_roundg (gk - 1)
                case measure => have := hkm.out; omega
                case rel => exact ⟨k + 1, by push_cast; rw [Int.add_assoc], by rw [hnx2]; rfl, Hid.mk (by have := hkm.out; omega), Hid.mk (by rw [hnx2]; exact hnn.out), rfl⟩
              · have hdg2 := hall.resolve_left h45
                have hdr := dig_toNat hdg2
                have h45' : ((c2.toNat : Int) == 45) = false := by
                  rw [beq_eq_false_iff_ne]
                  intro e
                  exact h45 (UInt8.toNat.inj (by have h5 : (45 : UInt8).toNat = 45 := rfl; omega))
                rw [nvS_dig hdg2] at hnx2
                obtain ⟨d, hd⟩ : ∃ d : Nat, c2.toNat = 48 + d := ⟨c2.toNat - 48, by omega⟩
                rw [hd] at hnx2 h45'
                have hd9 : d ≤ 9 := by omega
                obtain ⟨n0, hn0⟩ : ∃ n0, nv ((numSpan q).take k) = n0 := ⟨_, rfl⟩
                have hnn1 := hnn.out
                rw [hn0] at hnx2 hnp hnn1 ⊢
                go_wp2
                · rename_i hbig
                  have hgr : nv ((numSpan q).take (k + 1)) < -576460752303423488 := by rw [hnx2]; rw [tdiv_is hd9] at hbig; push_cast; omega
                  have hno := numI_great hlo hhi hgr
                  go_ret
                  unfold NumOut
                  exact ⟨hM2.set, 0, i + m, true, rfl, hR2.worse, by omega, hims, by omega, by omega, Or.inr ⟨rfl, by rw [hq]; exact hno⟩⟩
                · go_roundg (gk - 1)
                  case measure => have := hkm.out; omega
                  case rel => exact ⟨k + 1, by push_cast; rw [Int.add_assoc], by rw [hnx2]; push_cast; rfl, Hid.mk (by have := hkm.out; omega), Hid.mk (by rw [hnx2]; rename_i hbig; rw [tdiv_is hd9] at hbig; push_cast; omega), rfl⟩
            · have hk := hkm.out
              obtain rfl : k = m := by omega
              have hikm : ¬ ((i : Int) + k < i + k) := by omega
              have hat := numI_at (lo := lo) (hi := hi) (q := q) (m := k) (by omega) (by omega) hMm.out.2.1 hex2.out
              have hnvv := numVal_nv (q := q) (m := k) hMm.out.1 hMm.out.2.1
              rw [if_neg (of_decide_eq_false hsg)] at hnvv
              have hnp := (nv_take (span_all q) k).2
              have hnn2 := hnn.out
              have hpt := tx_part s i k
              rw [hq] at hpt
              have hst := tx_size (q.take k)
              have hsz := tx_size s
              have hto : ((i : Int) + k).toNat = i + k := by omega
              rw [hnvv] at hat
              generalize nv ((numSpan q).take k) = v at *
              clear hnvv hwi hwm him hnn hdc hdg hnx
              go_upto_region 19 with fail
              by_cases hvl : (-v) < lo
              · skip
                refine region_up (W := w2) (by kernel_rfl) (by kernel_rfl) (Up.refl _) ?_
                refine quiet_value (v := .pointer (some ⟨p, 0, none⟩)) rfl (fun _ _ => rfl) ?_
                simp only [Act.put, List.setIfInBounds_toArray, List.set_cons_zero, List.set_cons_succ]
                refine quiet_value (v := .pointer (some ⟨p, 0, none⟩)) rfl (fun _ _ => (by go_simp)) ?_
                simp only [Act.put, List.setIfInBounds_toArray, List.set_cons_zero, List.set_cons_succ]
                refine quiet_value (v := .pointer (some ⟨p, 2, none⟩)) rfl (fun _ _ => (by go_simp)) ?_
                simp only [Act.put, List.setIfInBounds_toArray, List.set_cons_zero, List.set_cons_succ]
                refine quiet_value (v := .bool false) rfl (fun W h => (by have u0 := cell_below h.out _ _ _ d2; go_simp)) ?_
                simp only [Act.put, List.setIfInBounds_toArray, List.set_cons_zero, List.set_cons_succ]
                refine quiet_value (v := .bool false) rfl (fun _ _ => rfl) ?_
                simp only [Act.put, List.setIfInBounds_toArray, List.set_cons_zero, List.set_cons_succ]
                refine quiet_value (v := .int .i64 (-v)) rfl (fun _ _ => rfl) ?_
                simp only [Act.put, List.setIfInBounds_toArray, List.set_cons_zero, List.set_cons_succ]
                refine quiet_value (v := .int .i64 lo) rfl (fun _ _ => rfl) ?_
                simp only [Act.put, List.setIfInBounds_toArray, List.set_cons_zero, List.set_cons_succ]
                refine quiet_value (v := .bool true) rfl (fun _ _ => (by go_simp)) ?_
                simp only [Act.put, List.setIfInBounds_toArray, List.set_cons_zero, List.set_cons_succ]
                refine quiet_value (v := .bool true) rfl (fun _ _ => (by go_simp)) ?_
                simp only [Act.put, List.setIfInBounds_toArray, List.set_cons_zero, List.set_cons_succ]
                refine quiet_value (v := .bool true) rfl (fun _ _ => rfl) ?_
                simp only [Act.put, List.setIfInBounds_toArray, List.set_cons_zero, List.set_cons_succ]
                refine quiet_not rfl ?_
                simp only [Act.put, List.setIfInBounds_toArray, List.set_cons_zero, List.set_cons_succ]
                refine quiet_not rfl ?_
                simp only [Act.put, List.setIfInBounds_toArray, List.set_cons_zero, List.set_cons_succ]
                refine quiet_not rfl ?_
                simp only [Act.put, List.setIfInBounds_toArray, List.set_cons_zero, List.set_cons_succ]
                refine quiet_value (v := .bool true) rfl (fun _ _ => (by go_simp)) ?_
                simp only [Act.put, List.setIfInBounds_toArray, List.set_cons_zero, List.set_cons_succ]
                refine quiet_value (v := .bool true) rfl (fun _ _ => rfl) ?_
                simp only [Act.put, List.setIfInBounds_toArray, List.set_cons_zero, List.set_cons_succ]
                refine quiet_not rfl ?_
                simp only [Act.put, List.setIfInBounds_toArray, List.set_cons_zero, List.set_cons_succ]
                refine quiet_not rfl ?_
                simp only [Act.put, List.setIfInBounds_toArray, List.set_cons_zero, List.set_cons_succ]
                refine quiet_not rfl ?_
                simp only [Act.put, List.setIfInBounds_toArray, List.set_cons_zero, List.set_cons_succ]
                refine quiet_not rfl ?_
                simp only [Act.put, List.setIfInBounds_toArray, List.set_cons_zero, List.set_cons_succ]
                refine quiet_not rfl ?_
                simp only [Act.put, List.setIfInBounds_toArray, List.set_cons_zero, List.set_cons_succ]
                refine quiet_not rfl ?_
                simp only [Act.put, List.setIfInBounds_toArray, List.set_cons_zero, List.set_cons_succ]
                refine quiet_not rfl ?_
                simp only [Act.put, List.setIfInBounds_toArray, List.set_cons_zero, List.set_cons_succ]
                refine quiet_not rfl ?_
                simp only [Act.put, List.setIfInBounds_toArray, List.set_cons_zero, List.set_cons_succ]
                refine quiet_not rfl ?_
                simp only [Act.put, List.setIfInBounds_toArray, List.set_cons_zero, List.set_cons_succ]
                refine quiet_not rfl ?_
                simp only [Act.put, List.setIfInBounds_toArray, List.set_cons_zero, List.set_cons_succ]
                refine quiet_not rfl ?_
                simp only [Act.put, List.setIfInBounds_toArray, List.set_cons_zero, List.set_cons_succ]
                refine quiet_not rfl ?_
                simp only [Act.put, List.setIfInBounds_toArray, List.set_cons_zero, List.set_cons_succ]
                refine quiet_not rfl ?_
                simp only [Act.put, List.setIfInBounds_toArray, List.set_cons_zero, List.set_cons_succ]
                refine quiet_value (v := .bool true) rfl (fun _ _ => (by go_simp)) ?_
                simp only [Act.put, List.setIfInBounds_toArray, List.set_cons_zero, List.set_cons_succ]
                refine quiet_nil ?_
                intro w3 hw3
                have hR3 := hR2.below hw3.out
                obtain ⟨⟨d0, d1, d2⟩, g0, g1, g2⟩ := hR3.cells
                go_wp2
                go_ret
                unfold NumOut
                exact ⟨(hM2.trans (Mv.up hw3.out)).set, 0, i + k, true, rfl, hR3.worse, by omega, hims, by omega, by omega, Or.inr ⟨rfl, by rw [hq, hat]; exact if_neg fun h => absurd h.1 (by omega)⟩⟩
              · by_cases hvh : (-v) > hi
                · skip
                  refine region_up (W := w2) (by kernel_rfl) (by kernel_rfl) (Up.refl _) ?_
                  refine quiet_value (v := .pointer (some ⟨p, 0, none⟩)) rfl (fun _ _ => rfl) ?_
                  simp only [Act.put, List.setIfInBounds_toArray, List.set_cons_zero, List.set_cons_succ]
                  refine quiet_value (v := .pointer (some ⟨p, 0, none⟩)) rfl (fun _ _ => (by go_simp)) ?_
                  simp only [Act.put, List.setIfInBounds_toArray, List.set_cons_zero, List.set_cons_succ]
                  refine quiet_value (v := .pointer (some ⟨p, 2, none⟩)) rfl (fun _ _ => (by go_simp)) ?_
                  simp only [Act.put, List.setIfInBounds_toArray, List.set_cons_zero, List.set_cons_succ]
                  refine quiet_value (v := .bool false) rfl (fun W h => (by have u0 := cell_below h.out _ _ _ d2; go_simp)) ?_
                  simp only [Act.put, List.setIfInBounds_toArray, List.set_cons_zero, List.set_cons_succ]
                  refine quiet_value (v := .bool false) rfl (fun _ _ => rfl) ?_
                  simp only [Act.put, List.setIfInBounds_toArray, List.set_cons_zero, List.set_cons_succ]
                  refine quiet_value (v := .int .i64 (-v)) rfl (fun _ _ => rfl) ?_
                  simp only [Act.put, List.setIfInBounds_toArray, List.set_cons_zero, List.set_cons_succ]
                  refine quiet_value (v := .int .i64 lo) rfl (fun _ _ => rfl) ?_
                  simp only [Act.put, List.setIfInBounds_toArray, List.set_cons_zero, List.set_cons_succ]
                  refine quiet_value (v := .bool false) rfl (fun _ _ => (by go_simp)) ?_
                  simp only [Act.put, List.setIfInBounds_toArray, List.set_cons_zero, List.set_cons_succ]
                  refine quiet_value (v := .bool false) rfl (fun _ _ => (by go_simp)) ?_
                  simp only [Act.put, List.setIfInBounds_toArray, List.set_cons_zero, List.set_cons_succ]
                  refine quiet_value (v := .bool false) rfl (fun _ _ => rfl) ?_
                  simp only [Act.put, List.setIfInBounds_toArray, List.set_cons_zero, List.set_cons_succ]
                  refine quiet_value (v := .int .i64 (-v)) rfl (fun _ _ => rfl) ?_
                  simp only [Act.put, List.setIfInBounds_toArray, List.set_cons_zero, List.set_cons_succ]
                  refine quiet_value (v := .int .i64 hi) rfl (fun _ _ => rfl) ?_
                  simp only [Act.put, List.setIfInBounds_toArray, List.set_cons_zero, List.set_cons_succ]
                  refine quiet_value (v := .bool true) rfl (fun _ _ => (by go_simp)) ?_
                  simp only [Act.put, List.setIfInBounds_toArray, List.set_cons_zero, List.set_cons_succ]
                  refine quiet_value (v := .bool true) rfl (fun _ _ => (by go_simp)) ?_
                  simp only [Act.put, List.setIfInBounds_toArray, List.set_cons_zero, List.set_cons_succ]
                  refine quiet_value (v := .bool true) rfl (fun _ _ => rfl) ?_
                  simp only [Act.put, List.setIfInBounds_toArray, List.set_cons_zero, List.set_cons_succ]
                  refine quiet_not rfl ?_
                  simp only [Act.put, List.setIfInBounds_toArray, List.set_cons_zero, List.set_cons_succ]
                  refine quiet_not rfl ?_
                  simp only [Act.put, List.setIfInBounds_toArray, List.set_cons_zero, List.set_cons_succ]
                  refine quiet_not rfl ?_
                  simp only [Act.put, List.setIfInBounds_toArray, List.set_cons_zero, List.set_cons_succ]
                  refine quiet_not rfl ?_
                  simp only [Act.put, List.setIfInBounds_toArray, List.set_cons_zero, List.set_cons_succ]
                  refine quiet_not rfl ?_
                  simp only [Act.put, List.setIfInBounds_toArray, List.set_cons_zero, List.set_cons_succ]
                  refine quiet_not rfl ?_
                  simp only [Act.put, List.setIfInBounds_toArray, List.set_cons_zero, List.set_cons_succ]
                  refine quiet_not rfl ?_
                  simp only [Act.put, List.setIfInBounds_toArray, List.set_cons_zero, List.set_cons_succ]
                  refine quiet_not rfl ?_
                  simp only [Act.put, List.setIfInBounds_toArray, List.set_cons_zero, List.set_cons_succ]
                  refine quiet_not rfl ?_
                  simp only [Act.put, List.setIfInBounds_toArray, List.set_cons_zero, List.set_cons_succ]
                  refine quiet_not rfl ?_
                  simp only [Act.put, List.setIfInBounds_toArray, List.set_cons_zero, List.set_cons_succ]
                  refine quiet_not rfl ?_
                  simp only [Act.put, List.setIfInBounds_toArray, List.set_cons_zero, List.set_cons_succ]
                  refine quiet_not rfl ?_
                  simp only [Act.put, List.setIfInBounds_toArray, List.set_cons_zero, List.set_cons_succ]
                  refine quiet_not rfl ?_
                  simp only [Act.put, List.setIfInBounds_toArray, List.set_cons_zero, List.set_cons_succ]
                  refine quiet_value (v := .bool true) rfl (fun _ _ => (by go_simp)) ?_
                  simp only [Act.put, List.setIfInBounds_toArray, List.set_cons_zero, List.set_cons_succ]
                  refine quiet_nil ?_
                  intro w3 hw3
                  have hR3 := hR2.below hw3.out
                  obtain ⟨⟨d0, d1, d2⟩, g0, g1, g2⟩ := hR3.cells
                  go_wp2
                  go_ret
                  unfold NumOut
                  exact ⟨(hM2.trans (Mv.up hw3.out)).set, 0, i + k, true, rfl, hR3.worse, by omega, hims, by omega, by omega, Or.inr ⟨rfl, by rw [hq, hat]; exact if_neg fun h => absurd h.2.1 (by omega)⟩⟩
                · by_cases hne : q.take k = dec (-v)
                  · skip
                    refine region_up (W := w2) (by kernel_rfl) (by kernel_rfl) (Up.refl _) ?_
                    refine quiet_value (v := .pointer (some ⟨p, 0, none⟩)) rfl (fun _ _ => rfl) ?_
                    simp only [Act.put, List.setIfInBounds_toArray, List.set_cons_zero, List.set_cons_succ]
                    refine quiet_value (v := .pointer (some ⟨p, 0, none⟩)) rfl (fun _ _ => (by go_simp)) ?_
                    simp only [Act.put, List.setIfInBounds_toArray, List.set_cons_zero, List.set_cons_succ]
                    refine quiet_value (v := .pointer (some ⟨p, 2, none⟩)) rfl (fun _ _ => (by go_simp)) ?_
                    simp only [Act.put, List.setIfInBounds_toArray, List.set_cons_zero, List.set_cons_succ]
                    refine quiet_value (v := .bool false) rfl (fun W h => (by have u0 := cell_below h.out _ _ _ d2; go_simp)) ?_
                    simp only [Act.put, List.setIfInBounds_toArray, List.set_cons_zero, List.set_cons_succ]
                    refine quiet_value (v := .bool false) rfl (fun _ _ => rfl) ?_
                    simp only [Act.put, List.setIfInBounds_toArray, List.set_cons_zero, List.set_cons_succ]
                    refine quiet_value (v := .int .i64 (-v)) rfl (fun _ _ => rfl) ?_
                    simp only [Act.put, List.setIfInBounds_toArray, List.set_cons_zero, List.set_cons_succ]
                    refine quiet_value (v := .int .i64 lo) rfl (fun _ _ => rfl) ?_
                    simp only [Act.put, List.setIfInBounds_toArray, List.set_cons_zero, List.set_cons_succ]
                    refine quiet_value (v := .bool false) rfl (fun _ _ => (by go_simp)) ?_
                    simp only [Act.put, List.setIfInBounds_toArray, List.set_cons_zero, List.set_cons_succ]
                    refine quiet_value (v := .bool false) rfl (fun _ _ => (by go_simp)) ?_
                    simp only [Act.put, List.setIfInBounds_toArray, List.set_cons_zero, List.set_cons_succ]
                    refine quiet_value (v := .bool false) rfl (fun _ _ => rfl) ?_
                    simp only [Act.put, List.setIfInBounds_toArray, List.set_cons_zero, List.set_cons_succ]
                    refine quiet_value (v := .int .i64 (-v)) rfl (fun _ _ => rfl) ?_
                    simp only [Act.put, List.setIfInBounds_toArray, List.set_cons_zero, List.set_cons_succ]
                    refine quiet_value (v := .int .i64 hi) rfl (fun _ _ => rfl) ?_
                    simp only [Act.put, List.setIfInBounds_toArray, List.set_cons_zero, List.set_cons_succ]
                    refine quiet_value (v := .bool false) rfl (fun _ _ => (by go_simp)) ?_
                    simp only [Act.put, List.setIfInBounds_toArray, List.set_cons_zero, List.set_cons_succ]
                    refine quiet_value (v := .bool false) rfl (fun _ _ => (by go_simp)) ?_
                    simp only [Act.put, List.setIfInBounds_toArray, List.set_cons_zero, List.set_cons_succ]
                    refine quiet_value (v := .bool false) rfl (fun _ _ => rfl) ?_
                    simp only [Act.put, List.setIfInBounds_toArray, List.set_cons_zero, List.set_cons_succ]
                    refine quiet_value (v := .pointer (some ⟨p, 0, none⟩)) rfl (fun _ _ => rfl) ?_
                    simp only [Act.put, List.setIfInBounds_toArray, List.set_cons_zero, List.set_cons_succ]
                    refine quiet_value (v := .pointer (some ⟨p, 0, none⟩)) rfl (fun _ _ => (by go_simp)) ?_
                    simp only [Act.put, List.setIfInBounds_toArray, List.set_cons_zero, List.set_cons_succ]
                    refine quiet_value (v := .pointer (some ⟨p, 0, none⟩)) rfl (fun _ _ => (by go_simp)) ?_
                    simp only [Act.put, List.setIfInBounds_toArray, List.set_cons_zero, List.set_cons_succ]
                    refine quiet_value (v := .string (tx s)) rfl (fun W h => (by have u0 := cell_below h.out _ _ _ d0; go_simp)) ?_
                    simp only [Act.put, List.setIfInBounds_toArray, List.set_cons_zero, List.set_cons_succ]
                    refine quiet_value (v := .int .i64 i) rfl (fun _ _ => rfl) ?_
                    simp only [Act.put, List.setIfInBounds_toArray, List.set_cons_zero, List.set_cons_succ]
                    refine quiet_value (v := .pointer (some ⟨p, 0, none⟩)) rfl (fun _ _ => rfl) ?_
                    simp only [Act.put, List.setIfInBounds_toArray, List.set_cons_zero, List.set_cons_succ]
                    refine quiet_value (v := .pointer (some ⟨p, 0, none⟩)) rfl (fun _ _ => (by go_simp)) ?_
                    simp only [Act.put, List.setIfInBounds_toArray, List.set_cons_zero, List.set_cons_succ]
                    refine quiet_value (v := .pointer (some ⟨p, 1, none⟩)) rfl (fun _ _ => (by go_simp)) ?_
                    simp only [Act.put, List.setIfInBounds_toArray, List.set_cons_zero, List.set_cons_succ]
                    refine quiet_value (v := .int .i64 ((i + k : Nat) : Int)) rfl (fun W h => (by have u0 := cell_below h.out _ _ _ d1; go_simp)) ?_
                    simp only [Act.put, List.setIfInBounds_toArray, List.set_cons_zero, List.set_cons_succ]
                    refine quiet_value (v := .string (tx (q.take k))) rfl (fun _ _ => (by go_simp; rw [if_pos ⟨by omega, by omega⟩, if_pos (by omega)])) ?_
                    simp only [Act.put, List.setIfInBounds_toArray, List.set_cons_zero, List.set_cons_succ]
                    refine quiet_value (v := .int .i64 (-v)) rfl (fun _ _ => rfl) ?_
                    simp only [Act.put, List.setIfInBounds_toArray, List.set_cons_zero, List.set_cons_succ]
                    refine quiet_call (v := .string (tx (dec (-v)))) rfl (fun W => (by go_simp)) (fun W h => (dec_up (-v) (by omega) (by omega) W).mono fun e w' ⟨he, hb⟩ => ⟨he, h.call hb⟩) ?_
                    simp only [Act.put, List.setIfInBounds_toArray, List.set_cons_zero, List.set_cons_succ]
                    refine quiet_value (v := .bool false) rfl (fun _ _ => (by go_simp)) ?_
                    simp only [Act.put, List.setIfInBounds_toArray, List.set_cons_zero, List.set_cons_succ]
                    refine quiet_value (v := .bool false) rfl (fun _ _ => (by go_simp)) ?_
                    simp only [Act.put, List.setIfInBounds_toArray, List.set_cons_zero, List.set_cons_succ]
                    refine quiet_nil ?_
                    intro w3 hw3
                    have hR3 := hR2.below hw3.out
                    go_wp2
                    go_ret
                    unfold NumOut
                    exact ⟨hM2.trans (Mv.up hw3.out), (-v), i + k, false, rfl, hR3, by omega, hims, by omega, by omega, Or.inl ⟨rfl, by rw [hq, hat, if_pos ⟨by omega, by omega, hne⟩, ← hq, List.drop_drop]⟩⟩
                  · have hne2 : ¬ (tx (q.take k)).toList = (tx (dec (-v))).toList := by rw [tx_toList, tx_toList]; exact hne
                    have hne' : ¬ tx (q.take k) = tx (dec (-v)) := fun e => hne ((tx_eq _ _).1 e)
                    refine region_up (W := w2) (by kernel_rfl) (by kernel_rfl) (Up.refl _) ?_
                    refine quiet_value (v := .pointer (some ⟨p, 0, none⟩)) rfl (fun _ _ => rfl) ?_
                    simp only [Act.put, List.setIfInBounds_toArray, List.set_cons_zero, List.set_cons_succ]
                    refine quiet_value (v := .pointer (some ⟨p, 0, none⟩)) rfl (fun _ _ => (by go_simp)) ?_
                    simp only [Act.put, List.setIfInBounds_toArray, List.set_cons_zero, List.set_cons_succ]
                    refine quiet_value (v := .pointer (some ⟨p, 2, none⟩)) rfl (fun _ _ => (by go_simp)) ?_
                    simp only [Act.put, List.setIfInBounds_toArray, List.set_cons_zero, List.set_cons_succ]
                    refine quiet_value (v := .bool false) rfl (fun W h => (by have u0 := cell_below h.out _ _ _ d2; go_simp)) ?_
                    simp only [Act.put, List.setIfInBounds_toArray, List.set_cons_zero, List.set_cons_succ]
                    refine quiet_value (v := .bool false) rfl (fun _ _ => rfl) ?_
                    simp only [Act.put, List.setIfInBounds_toArray, List.set_cons_zero, List.set_cons_succ]
                    refine quiet_value (v := .int .i64 (-v)) rfl (fun _ _ => rfl) ?_
                    simp only [Act.put, List.setIfInBounds_toArray, List.set_cons_zero, List.set_cons_succ]
                    refine quiet_value (v := .int .i64 lo) rfl (fun _ _ => rfl) ?_
                    simp only [Act.put, List.setIfInBounds_toArray, List.set_cons_zero, List.set_cons_succ]
                    refine quiet_value (v := .bool false) rfl (fun _ _ => (by go_simp)) ?_
                    simp only [Act.put, List.setIfInBounds_toArray, List.set_cons_zero, List.set_cons_succ]
                    refine quiet_value (v := .bool false) rfl (fun _ _ => (by go_simp)) ?_
                    simp only [Act.put, List.setIfInBounds_toArray, List.set_cons_zero, List.set_cons_succ]
                    refine quiet_value (v := .bool false) rfl (fun _ _ => rfl) ?_
                    simp only [Act.put, List.setIfInBounds_toArray, List.set_cons_zero, List.set_cons_succ]
                    refine quiet_value (v := .int .i64 (-v)) rfl (fun _ _ => rfl) ?_
                    simp only [Act.put, List.setIfInBounds_toArray, List.set_cons_zero, List.set_cons_succ]
                    refine quiet_value (v := .int .i64 hi) rfl (fun _ _ => rfl) ?_
                    simp only [Act.put, List.setIfInBounds_toArray, List.set_cons_zero, List.set_cons_succ]
                    refine quiet_value (v := .bool false) rfl (fun _ _ => (by go_simp)) ?_
                    simp only [Act.put, List.setIfInBounds_toArray, List.set_cons_zero, List.set_cons_succ]
                    refine quiet_value (v := .bool false) rfl (fun _ _ => (by go_simp)) ?_
                    simp only [Act.put, List.setIfInBounds_toArray, List.set_cons_zero, List.set_cons_succ]
                    refine quiet_value (v := .bool false) rfl (fun _ _ => rfl) ?_
                    simp only [Act.put, List.setIfInBounds_toArray, List.set_cons_zero, List.set_cons_succ]
                    refine quiet_value (v := .pointer (some ⟨p, 0, none⟩)) rfl (fun _ _ => rfl) ?_
                    simp only [Act.put, List.setIfInBounds_toArray, List.set_cons_zero, List.set_cons_succ]
                    refine quiet_value (v := .pointer (some ⟨p, 0, none⟩)) rfl (fun _ _ => (by go_simp)) ?_
                    simp only [Act.put, List.setIfInBounds_toArray, List.set_cons_zero, List.set_cons_succ]
                    refine quiet_value (v := .pointer (some ⟨p, 0, none⟩)) rfl (fun _ _ => (by go_simp)) ?_
                    simp only [Act.put, List.setIfInBounds_toArray, List.set_cons_zero, List.set_cons_succ]
                    refine quiet_value (v := .string (tx s)) rfl (fun W h => (by have u0 := cell_below h.out _ _ _ d0; go_simp)) ?_
                    simp only [Act.put, List.setIfInBounds_toArray, List.set_cons_zero, List.set_cons_succ]
                    refine quiet_value (v := .int .i64 i) rfl (fun _ _ => rfl) ?_
                    simp only [Act.put, List.setIfInBounds_toArray, List.set_cons_zero, List.set_cons_succ]
                    refine quiet_value (v := .pointer (some ⟨p, 0, none⟩)) rfl (fun _ _ => rfl) ?_
                    simp only [Act.put, List.setIfInBounds_toArray, List.set_cons_zero, List.set_cons_succ]
                    refine quiet_value (v := .pointer (some ⟨p, 0, none⟩)) rfl (fun _ _ => (by go_simp)) ?_
                    simp only [Act.put, List.setIfInBounds_toArray, List.set_cons_zero, List.set_cons_succ]
                    refine quiet_value (v := .pointer (some ⟨p, 1, none⟩)) rfl (fun _ _ => (by go_simp)) ?_
                    simp only [Act.put, List.setIfInBounds_toArray, List.set_cons_zero, List.set_cons_succ]
                    refine quiet_value (v := .int .i64 ((i + k : Nat) : Int)) rfl (fun W h => (by have u0 := cell_below h.out _ _ _ d1; go_simp)) ?_
                    simp only [Act.put, List.setIfInBounds_toArray, List.set_cons_zero, List.set_cons_succ]
                    refine quiet_value (v := .string (tx (q.take k))) rfl (fun _ _ => (by go_simp; rw [if_pos ⟨by omega, by omega⟩, if_pos (by omega)])) ?_
                    simp only [Act.put, List.setIfInBounds_toArray, List.set_cons_zero, List.set_cons_succ]
                    refine quiet_value (v := .int .i64 (-v)) rfl (fun _ _ => rfl) ?_
                    simp only [Act.put, List.setIfInBounds_toArray, List.set_cons_zero, List.set_cons_succ]
                    refine quiet_call (v := .string (tx (dec (-v)))) rfl (fun W => (by go_simp)) (fun W h => (dec_up (-v) (by omega) (by omega) W).mono fun e w' ⟨he, hb⟩ => ⟨he, h.call hb⟩) ?_
                    simp only [Act.put, List.setIfInBounds_toArray, List.set_cons_zero, List.set_cons_succ]
                    refine quiet_value (v := .bool true) rfl (fun _ _ => (by go_simp)) ?_
                    simp only [Act.put, List.setIfInBounds_toArray, List.set_cons_zero, List.set_cons_succ]
                    refine quiet_value (v := .bool true) rfl (fun _ _ => (by go_simp)) ?_
                    simp only [Act.put, List.setIfInBounds_toArray, List.set_cons_zero, List.set_cons_succ]
                    refine quiet_nil ?_
                    intro w3 hw3
                    have hR3 := hR2.below hw3.out
                    obtain ⟨⟨d0, d1, d2⟩, g0, g1, g2⟩ := hR3.cells
                    go_wp2
                    go_ret
                    unfold NumOut
                    exact ⟨(hM2.trans (Mv.up hw3.out)).set, 0, i + k, true, rfl, hR3.worse, by omega, hims, by omega, by omega, Or.inr ⟨rfl, by rw [hq, hat]; exact if_neg fun h => hne h.2.2⟩⟩
        · have hex : Hid (m = (numSpan q).length ∨ m = 20) := Hid.mk (by omega)
          have hs1 := of_decide_eq_false hsg
          have hil : i < s.length := by omega
          have hil2 : i < (tx s).size := by rw [tx_size]; exact hil
          obtain ⟨c9, hx⟩ : ∃ c9, (tx s)[i]'hil2 = c9 := ⟨_, rfl⟩
          have hx9 : ((c9.toNat : Int) == 45) = false := by
            rw [beq_eq_false_iff_ne]
            intro e
            apply hs1
            have e9 : c9 = 45 := UInt8.toNat.inj (by have h5 : (45 : UInt8).toNat = 45 := rfl; omega)
            have e8 : s[i]'hil = 45 := hx.trans e9
            have e7 : (s.drop i).head? = some 45 := by
              rw [List.drop_eq_getElem_cons hil, List.head?_cons]
              exact congrArg some e8
            unfold sgn
            rw [← hq]
            exact if_pos e7
          have him : ((i : Int) < i + m) = True := eq_true (by omega)
          have hMm : Hid (sgn q ≤ m ∧ m ≤ (numSpan q).length ∧ m ≤ 20) := Hid.mk (by omega)
          clear hlt hmm hm1 hm2 hm3 hs1
          go_wp2_with (first
            | (go_at_call 23; refine (hnx _ hR).mono ?_; rintro e w2 ⟨rfl, hb2⟩; obtain ⟨⟨d0, d1, d2⟩, g0, g1, g2⟩ := (hR.below hb2).cells)
            | (go_at_call 24; refine (hdg _).mono ?_; rintro e w3 ⟨rfl, rfl⟩))
          have hR2 := hR.below hb2
          have hM2 := hM.trans (Mv.up hb2)
          have hex2 : Hid (m = (numSpan q).length ∨ m = 20) := hex
          go_loopg [9, 10] m (fun g nn ii wr => ∃ k : Nat, ii = .int .i64 ((i + k : Nat) : Int) ∧ nn = .int .i64 (nv ((numSpan q).take k)) ∧ Hid (k + g = m) ∧ Hid (-576460752303423488 ≤ nv ((numSpan q).take k)) ∧ wr = w2)
          case atStart => exact ⟨0, rfl, rfl, Hid.mk (by omega), Hid.mk (by rw [List.take_zero]; decide), rfl⟩
          case round =>
            obtain ⟨k, rfl, rfl, hkm, hnn, hwr⟩ := hrel
            obtain rfl := hwr.symm
            by_cases hlt : k < m
            · have hc2 := hMm.out
              obtain ⟨hkq, hkq2⟩ := span_get q k (by omega)
              have hil3 : i + k < (tx s).size := by rw [tx_size]; omega
              obtain ⟨c2, hc2'⟩ : ∃ c2, (numSpan q)[k]'(by omega) = c2 := ⟨_, rfl⟩
              have hx2 : (tx s)[i + k]'hil3 = c2 := by
                have h9 : s[i + k]? = some c2 := by rw [← List.getElem?_drop, hq, List.getElem?_eq_getElem hkq, hkq2, hc2']
                have h8 : i + k < s.length := by omega
                rw [List.getElem?_eq_getElem h8] at h9
                exact Option.some.inj h9
              have hall := span_all q c2 (hc2' ▸ List.getElem_mem _)
              have hnx2 : nv ((numSpan q).take (k + 1)) = nvS (nv ((numSpan q).take k)) c2 := by rw [List.take_succ_eq_append_getElem (by omega), nv_snoc, hc2']
              have hnp := (nv_take (span_all q) k).2
              have hikm : ((i : Int) + k < i + m) = True := eq_true (by omega)
              by_cases h45 : c2 = 45
              · subst h45
                go_wp2
                go_roundg (gk - 1)
                case measure => have := hkm.out; omega
                case rel => exact ⟨k + 1, by push_cast; rw [Int.add_assoc], by rw [hnx2]; rfl, Hid.mk (by have := hkm.out; omega), Hid.mk (by rw [hnx2]; exact hnn.out), rfl⟩
              · have hdg2 := hall.resolve_left h45
                have hdr := dig_toNat hdg2
                have h45' : ((c2.toNat : Int) == 45) = false := by
                  rw [beq_eq_false_iff_ne]
                  intro e
                  exact h45 (UInt8.toNat.inj (by have h5 : (45 : UInt8).toNat = 45 := rfl; omega))
                rw [nvS_dig hdg2] at hnx2
                obtain ⟨d, hd⟩ : ∃ d : Nat, c2.toNat = 48 + d := ⟨c2.toNat - 48, by omega⟩
                rw [hd] at hnx2 h45'
                have hd9 : d ≤ 9 := by omega
                obtain ⟨n0, hn0⟩ : ∃ n0, nv ((numSpan q).take k) = n0 := ⟨_, rfl⟩
                have hnn1 := hnn.out
                rw [hn0] at hnx2 hnp hnn1 ⊢
                go_wp2
                · rename_i hbig
                  have hgr : nv ((numSpan q).take (k + 1)) < -576460752303423488 := by rw [hnx2]; rw [tdiv_is hd9] at hbig; push_cast; omega
                  have hno := numI_great hlo hhi hgr
                  go_ret
                  unfold NumOut
                  exact ⟨hM2.set, 0, i + m, true, rfl, hR2.worse, by omega, hims, by omega, by omega, Or.inr ⟨rfl, by rw [hq]; exact hno⟩⟩
                · go_roundg (gk - 1)
                  case measure => have := hkm.out; omega
                  case rel => exact ⟨k + 1, by push_cast; rw [Int.add_assoc], by rw [hnx2]; push_cast; rfl, Hid.mk (by have := hkm.out; omega), Hid.mk (by rw [hnx2]; rename_i hbig; rw [tdiv_is hd9] at hbig; push_cast; omega), rfl⟩
            · have hk := hkm.out
              obtain rfl : k = m := by omega
              have hikm : ¬ ((i : Int) + k < i + k) := by omega
              have hat := numI_at (lo := lo) (hi := hi) (q := q) (m := k) (by omega) (by omega) hMm.out.2.1 hex2.out
              have hnvv := numVal_nv (q := q) (m := k) hMm.out.1 hMm.out.2.1
              rw [if_neg (of_decide_eq_false hsg)] at hnvv
              have hnp := (nv_take (span_all q) k).2
              have hnn2 := hnn.out
              have hpt := tx_part s i k
              rw [hq] at hpt
              have hst := tx_size (q.take k)
              have hsz := tx_size s
              have hto : ((i : Int) + k).toNat = i + k := by omega
              rw [hnvv] at hat
              generalize nv ((numSpan q).take k) = v at *
              clear hnvv hx hil2 hwi hwm him hnn hdc hdg hnx
              go_upto_region 19 with fail
              by_cases hvl : (-v) < lo
              · skip
                refine region_up (W := w2) (by kernel_rfl) (by kernel_rfl) (Up.refl _) ?_
                refine quiet_value (v := .pointer (some ⟨p, 0, none⟩)) rfl (fun _ _ => rfl) ?_
                simp only [Act.put, List.setIfInBounds_toArray, List.set_cons_zero, List.set_cons_succ]
                refine quiet_value (v := .pointer (some ⟨p, 0, none⟩)) rfl (fun _ _ => (by go_simp)) ?_
                simp only [Act.put, List.setIfInBounds_toArray, List.set_cons_zero, List.set_cons_succ]
                refine quiet_value (v := .pointer (some ⟨p, 2, none⟩)) rfl (fun _ _ => (by go_simp)) ?_
                simp only [Act.put, List.setIfInBounds_toArray, List.set_cons_zero, List.set_cons_succ]
                refine quiet_value (v := .bool false) rfl (fun W h => (by have u0 := cell_below h.out _ _ _ d2; go_simp)) ?_
                simp only [Act.put, List.setIfInBounds_toArray, List.set_cons_zero, List.set_cons_succ]
                refine quiet_value (v := .bool false) rfl (fun _ _ => rfl) ?_
                simp only [Act.put, List.setIfInBounds_toArray, List.set_cons_zero, List.set_cons_succ]
                refine quiet_value (v := .int .i64 (-v)) rfl (fun _ _ => rfl) ?_
                simp only [Act.put, List.setIfInBounds_toArray, List.set_cons_zero, List.set_cons_succ]
                refine quiet_value (v := .int .i64 lo) rfl (fun _ _ => rfl) ?_
                simp only [Act.put, List.setIfInBounds_toArray, List.set_cons_zero, List.set_cons_succ]
                refine quiet_value (v := .bool true) rfl (fun _ _ => (by go_simp)) ?_
                simp only [Act.put, List.setIfInBounds_toArray, List.set_cons_zero, List.set_cons_succ]
                refine quiet_value (v := .bool true) rfl (fun _ _ => (by go_simp)) ?_
                simp only [Act.put, List.setIfInBounds_toArray, List.set_cons_zero, List.set_cons_succ]
                refine quiet_value (v := .bool true) rfl (fun _ _ => rfl) ?_
                simp only [Act.put, List.setIfInBounds_toArray, List.set_cons_zero, List.set_cons_succ]
                refine quiet_not rfl ?_
                simp only [Act.put, List.setIfInBounds_toArray, List.set_cons_zero, List.set_cons_succ]
                refine quiet_not rfl ?_
                simp only [Act.put, List.setIfInBounds_toArray, List.set_cons_zero, List.set_cons_succ]
                refine quiet_not rfl ?_
                simp only [Act.put, List.setIfInBounds_toArray, List.set_cons_zero, List.set_cons_succ]
                refine quiet_value (v := .bool true) rfl (fun _ _ => (by go_simp)) ?_
                simp only [Act.put, List.setIfInBounds_toArray, List.set_cons_zero, List.set_cons_succ]
                refine quiet_value (v := .bool true) rfl (fun _ _ => rfl) ?_
                simp only [Act.put, List.setIfInBounds_toArray, List.set_cons_zero, List.set_cons_succ]
                refine quiet_not rfl ?_
                simp only [Act.put, List.setIfInBounds_toArray, List.set_cons_zero, List.set_cons_succ]
                refine quiet_not rfl ?_
                simp only [Act.put, List.setIfInBounds_toArray, List.set_cons_zero, List.set_cons_succ]
                refine quiet_not rfl ?_
                simp only [Act.put, List.setIfInBounds_toArray, List.set_cons_zero, List.set_cons_succ]
                refine quiet_not rfl ?_
                simp only [Act.put, List.setIfInBounds_toArray, List.set_cons_zero, List.set_cons_succ]
                refine quiet_not rfl ?_
                simp only [Act.put, List.setIfInBounds_toArray, List.set_cons_zero, List.set_cons_succ]
                refine quiet_not rfl ?_
                simp only [Act.put, List.setIfInBounds_toArray, List.set_cons_zero, List.set_cons_succ]
                refine quiet_not rfl ?_
                simp only [Act.put, List.setIfInBounds_toArray, List.set_cons_zero, List.set_cons_succ]
                refine quiet_not rfl ?_
                simp only [Act.put, List.setIfInBounds_toArray, List.set_cons_zero, List.set_cons_succ]
                refine quiet_not rfl ?_
                simp only [Act.put, List.setIfInBounds_toArray, List.set_cons_zero, List.set_cons_succ]
                refine quiet_not rfl ?_
                simp only [Act.put, List.setIfInBounds_toArray, List.set_cons_zero, List.set_cons_succ]
                refine quiet_not rfl ?_
                simp only [Act.put, List.setIfInBounds_toArray, List.set_cons_zero, List.set_cons_succ]
                refine quiet_not rfl ?_
                simp only [Act.put, List.setIfInBounds_toArray, List.set_cons_zero, List.set_cons_succ]
                refine quiet_not rfl ?_
                simp only [Act.put, List.setIfInBounds_toArray, List.set_cons_zero, List.set_cons_succ]
                refine quiet_value (v := .bool true) rfl (fun _ _ => (by go_simp)) ?_
                simp only [Act.put, List.setIfInBounds_toArray, List.set_cons_zero, List.set_cons_succ]
                refine quiet_nil ?_
                intro w3 hw3
                have hR3 := hR2.below hw3.out
                obtain ⟨⟨d0, d1, d2⟩, g0, g1, g2⟩ := hR3.cells
                go_wp2
                go_ret
                unfold NumOut
                exact ⟨(hM2.trans (Mv.up hw3.out)).set, 0, i + k, true, rfl, hR3.worse, by omega, hims, by omega, by omega, Or.inr ⟨rfl, by rw [hq, hat]; exact if_neg fun h => absurd h.1 (by omega)⟩⟩
              · by_cases hvh : (-v) > hi
                · skip
                  refine region_up (W := w2) (by kernel_rfl) (by kernel_rfl) (Up.refl _) ?_
                  refine quiet_value (v := .pointer (some ⟨p, 0, none⟩)) rfl (fun _ _ => rfl) ?_
                  simp only [Act.put, List.setIfInBounds_toArray, List.set_cons_zero, List.set_cons_succ]
                  refine quiet_value (v := .pointer (some ⟨p, 0, none⟩)) rfl (fun _ _ => (by go_simp)) ?_
                  simp only [Act.put, List.setIfInBounds_toArray, List.set_cons_zero, List.set_cons_succ]
                  refine quiet_value (v := .pointer (some ⟨p, 2, none⟩)) rfl (fun _ _ => (by go_simp)) ?_
                  simp only [Act.put, List.setIfInBounds_toArray, List.set_cons_zero, List.set_cons_succ]
                  refine quiet_value (v := .bool false) rfl (fun W h => (by have u0 := cell_below h.out _ _ _ d2; go_simp)) ?_
                  simp only [Act.put, List.setIfInBounds_toArray, List.set_cons_zero, List.set_cons_succ]
                  refine quiet_value (v := .bool false) rfl (fun _ _ => rfl) ?_
                  simp only [Act.put, List.setIfInBounds_toArray, List.set_cons_zero, List.set_cons_succ]
                  refine quiet_value (v := .int .i64 (-v)) rfl (fun _ _ => rfl) ?_
                  simp only [Act.put, List.setIfInBounds_toArray, List.set_cons_zero, List.set_cons_succ]
                  refine quiet_value (v := .int .i64 lo) rfl (fun _ _ => rfl) ?_
                  simp only [Act.put, List.setIfInBounds_toArray, List.set_cons_zero, List.set_cons_succ]
                  refine quiet_value (v := .bool false) rfl (fun _ _ => (by go_simp)) ?_
                  simp only [Act.put, List.setIfInBounds_toArray, List.set_cons_zero, List.set_cons_succ]
                  refine quiet_value (v := .bool false) rfl (fun _ _ => (by go_simp)) ?_
                  simp only [Act.put, List.setIfInBounds_toArray, List.set_cons_zero, List.set_cons_succ]
                  refine quiet_value (v := .bool false) rfl (fun _ _ => rfl) ?_
                  simp only [Act.put, List.setIfInBounds_toArray, List.set_cons_zero, List.set_cons_succ]
                  refine quiet_value (v := .int .i64 (-v)) rfl (fun _ _ => rfl) ?_
                  simp only [Act.put, List.setIfInBounds_toArray, List.set_cons_zero, List.set_cons_succ]
                  refine quiet_value (v := .int .i64 hi) rfl (fun _ _ => rfl) ?_
                  simp only [Act.put, List.setIfInBounds_toArray, List.set_cons_zero, List.set_cons_succ]
                  refine quiet_value (v := .bool true) rfl (fun _ _ => (by go_simp)) ?_
                  simp only [Act.put, List.setIfInBounds_toArray, List.set_cons_zero, List.set_cons_succ]
                  refine quiet_value (v := .bool true) rfl (fun _ _ => (by go_simp)) ?_
                  simp only [Act.put, List.setIfInBounds_toArray, List.set_cons_zero, List.set_cons_succ]
                  refine quiet_value (v := .bool true) rfl (fun _ _ => rfl) ?_
                  simp only [Act.put, List.setIfInBounds_toArray, List.set_cons_zero, List.set_cons_succ]
                  refine quiet_not rfl ?_
                  simp only [Act.put, List.setIfInBounds_toArray, List.set_cons_zero, List.set_cons_succ]
                  refine quiet_not rfl ?_
                  simp only [Act.put, List.setIfInBounds_toArray, List.set_cons_zero, List.set_cons_succ]
                  refine quiet_not rfl ?_
                  simp only [Act.put, List.setIfInBounds_toArray, List.set_cons_zero, List.set_cons_succ]
                  refine quiet_not rfl ?_
                  simp only [Act.put, List.setIfInBounds_toArray, List.set_cons_zero, List.set_cons_succ]
                  refine quiet_not rfl ?_
                  simp only [Act.put, List.setIfInBounds_toArray, List.set_cons_zero, List.set_cons_succ]
                  refine quiet_not rfl ?_
                  simp only [Act.put, List.setIfInBounds_toArray, List.set_cons_zero, List.set_cons_succ]
                  refine quiet_not rfl ?_
                  simp only [Act.put, List.setIfInBounds_toArray, List.set_cons_zero, List.set_cons_succ]
                  refine quiet_not rfl ?_
                  simp only [Act.put, List.setIfInBounds_toArray, List.set_cons_zero, List.set_cons_succ]
                  refine quiet_not rfl ?_
                  simp only [Act.put, List.setIfInBounds_toArray, List.set_cons_zero, List.set_cons_succ]
                  refine quiet_not rfl ?_
                  simp only [Act.put, List.setIfInBounds_toArray, List.set_cons_zero, List.set_cons_succ]
                  refine quiet_not rfl ?_
                  simp only [Act.put, List.setIfInBounds_toArray, List.set_cons_zero, List.set_cons_succ]
                  refine quiet_not rfl ?_
                  simp only [Act.put, List.setIfInBounds_toArray, List.set_cons_zero, List.set_cons_succ]
                  refine quiet_not rfl ?_
                  simp only [Act.put, List.setIfInBounds_toArray, List.set_cons_zero, List.set_cons_succ]
                  refine quiet_value (v := .bool true) rfl (fun _ _ => (by go_simp)) ?_
                  simp only [Act.put, List.setIfInBounds_toArray, List.set_cons_zero, List.set_cons_succ]
                  refine quiet_nil ?_
                  intro w3 hw3
                  have hR3 := hR2.below hw3.out
                  obtain ⟨⟨d0, d1, d2⟩, g0, g1, g2⟩ := hR3.cells
                  go_wp2
                  go_ret
                  unfold NumOut
                  exact ⟨(hM2.trans (Mv.up hw3.out)).set, 0, i + k, true, rfl, hR3.worse, by omega, hims, by omega, by omega, Or.inr ⟨rfl, by rw [hq, hat]; exact if_neg fun h => absurd h.2.1 (by omega)⟩⟩
                · by_cases hne : q.take k = dec (-v)
                  · skip
                    refine region_up (W := w2) (by kernel_rfl) (by kernel_rfl) (Up.refl _) ?_
                    refine quiet_value (v := .pointer (some ⟨p, 0, none⟩)) rfl (fun _ _ => rfl) ?_
                    simp only [Act.put, List.setIfInBounds_toArray, List.set_cons_zero, List.set_cons_succ]
                    refine quiet_value (v := .pointer (some ⟨p, 0, none⟩)) rfl (fun _ _ => (by go_simp)) ?_
                    simp only [Act.put, List.setIfInBounds_toArray, List.set_cons_zero, List.set_cons_succ]
                    refine quiet_value (v := .pointer (some ⟨p, 2, none⟩)) rfl (fun _ _ => (by go_simp)) ?_
                    simp only [Act.put, List.setIfInBounds_toArray, List.set_cons_zero, List.set_cons_succ]
                    refine quiet_value (v := .bool false) rfl (fun W h => (by have u0 := cell_below h.out _ _ _ d2; go_simp)) ?_
                    simp only [Act.put, List.setIfInBounds_toArray, List.set_cons_zero, List.set_cons_succ]
                    refine quiet_value (v := .bool false) rfl (fun _ _ => rfl) ?_
                    simp only [Act.put, List.setIfInBounds_toArray, List.set_cons_zero, List.set_cons_succ]
                    refine quiet_value (v := .int .i64 (-v)) rfl (fun _ _ => rfl) ?_
                    simp only [Act.put, List.setIfInBounds_toArray, List.set_cons_zero, List.set_cons_succ]
                    refine quiet_value (v := .int .i64 lo) rfl (fun _ _ => rfl) ?_
                    simp only [Act.put, List.setIfInBounds_toArray, List.set_cons_zero, List.set_cons_succ]
                    refine quiet_value (v := .bool false) rfl (fun _ _ => (by go_simp)) ?_
                    simp only [Act.put, List.setIfInBounds_toArray, List.set_cons_zero, List.set_cons_succ]
                    refine quiet_value (v := .bool false) rfl (fun _ _ => (by go_simp)) ?_
                    simp only [Act.put, List.setIfInBounds_toArray, List.set_cons_zero, List.set_cons_succ]
                    refine quiet_value (v := .bool false) rfl (fun _ _ => rfl) ?_
                    simp only [Act.put, List.setIfInBounds_toArray, List.set_cons_zero, List.set_cons_succ]
                    refine quiet_value (v := .int .i64 (-v)) rfl (fun _ _ => rfl) ?_
                    simp only [Act.put, List.setIfInBounds_toArray, List.set_cons_zero, List.set_cons_succ]
                    refine quiet_value (v := .int .i64 hi) rfl (fun _ _ => rfl) ?_
                    simp only [Act.put, List.setIfInBounds_toArray, List.set_cons_zero, List.set_cons_succ]
                    refine quiet_value (v := .bool false) rfl (fun _ _ => (by go_simp)) ?_
                    simp only [Act.put, List.setIfInBounds_toArray, List.set_cons_zero, List.set_cons_succ]
                    refine quiet_value (v := .bool false) rfl (fun _ _ => (by go_simp)) ?_
                    simp only [Act.put, List.setIfInBounds_toArray, List.set_cons_zero, List.set_cons_succ]
                    refine quiet_value (v := .bool false) rfl (fun _ _ => rfl) ?_
                    simp only [Act.put, List.setIfInBounds_toArray, List.set_cons_zero, List.set_cons_succ]
                    refine quiet_value (v := .pointer (some ⟨p, 0, none⟩)) rfl (fun _ _ => rfl) ?_
                    simp only [Act.put, List.setIfInBounds_toArray, List.set_cons_zero, List.set_cons_succ]
                    refine quiet_value (v := .pointer (some ⟨p, 0, none⟩)) rfl (fun _ _ => (by go_simp)) ?_
                    simp only [Act.put, List.setIfInBounds_toArray, List.set_cons_zero, List.set_cons_succ]
                    refine quiet_value (v := .pointer (some ⟨p, 0, none⟩)) rfl (fun _ _ => (by go_simp)) ?_
                    simp only [Act.put, List.setIfInBounds_toArray, List.set_cons_zero, List.set_cons_succ]
                    refine quiet_value (v := .string (tx s)) rfl (fun W h => (by have u0 := cell_below h.out _ _ _ d0; go_simp)) ?_
                    simp only [Act.put, List.setIfInBounds_toArray, List.set_cons_zero, List.set_cons_succ]
                    refine quiet_value (v := .int .i64 i) rfl (fun _ _ => rfl) ?_
                    simp only [Act.put, List.setIfInBounds_toArray, List.set_cons_zero, List.set_cons_succ]
                    refine quiet_value (v := .pointer (some ⟨p, 0, none⟩)) rfl (fun _ _ => rfl) ?_
                    simp only [Act.put, List.setIfInBounds_toArray, List.set_cons_zero, List.set_cons_succ]
                    refine quiet_value (v := .pointer (some ⟨p, 0, none⟩)) rfl (fun _ _ => (by go_simp)) ?_
                    simp only [Act.put, List.setIfInBounds_toArray, List.set_cons_zero, List.set_cons_succ]
                    refine quiet_value (v := .pointer (some ⟨p, 1, none⟩)) rfl (fun _ _ => (by go_simp)) ?_
                    simp only [Act.put, List.setIfInBounds_toArray, List.set_cons_zero, List.set_cons_succ]
                    refine quiet_value (v := .int .i64 ((i + k : Nat) : Int)) rfl (fun W h => (by have u0 := cell_below h.out _ _ _ d1; go_simp)) ?_
                    simp only [Act.put, List.setIfInBounds_toArray, List.set_cons_zero, List.set_cons_succ]
                    refine quiet_value (v := .string (tx (q.take k))) rfl (fun _ _ => (by go_simp; rw [if_pos ⟨by omega, by omega⟩, if_pos (by omega)])) ?_
                    simp only [Act.put, List.setIfInBounds_toArray, List.set_cons_zero, List.set_cons_succ]
                    refine quiet_value (v := .int .i64 (-v)) rfl (fun _ _ => rfl) ?_
                    simp only [Act.put, List.setIfInBounds_toArray, List.set_cons_zero, List.set_cons_succ]
                    refine quiet_call (v := .string (tx (dec (-v)))) rfl (fun W => (by go_simp)) (fun W h => (dec_up (-v) (by omega) (by omega) W).mono fun e w' ⟨he, hb⟩ => ⟨he, h.call hb⟩) ?_
                    simp only [Act.put, List.setIfInBounds_toArray, List.set_cons_zero, List.set_cons_succ]
                    refine quiet_value (v := .bool false) rfl (fun _ _ => (by go_simp)) ?_
                    simp only [Act.put, List.setIfInBounds_toArray, List.set_cons_zero, List.set_cons_succ]
                    refine quiet_value (v := .bool false) rfl (fun _ _ => (by go_simp)) ?_
                    simp only [Act.put, List.setIfInBounds_toArray, List.set_cons_zero, List.set_cons_succ]
                    refine quiet_nil ?_
                    intro w3 hw3
                    have hR3 := hR2.below hw3.out
                    go_wp2
                    go_ret
                    unfold NumOut
                    exact ⟨hM2.trans (Mv.up hw3.out), (-v), i + k, false, rfl, hR3, by omega, hims, by omega, by omega, Or.inl ⟨rfl, by rw [hq, hat, if_pos ⟨by omega, by omega, hne⟩, ← hq, List.drop_drop]⟩⟩
                  · have hne2 : ¬ (tx (q.take k)).toList = (tx (dec (-v))).toList := by rw [tx_toList, tx_toList]; exact hne
                    have hne' : ¬ tx (q.take k) = tx (dec (-v)) := fun e => hne ((tx_eq _ _).1 e)
                    refine region_up (W := w2) (by kernel_rfl) (by kernel_rfl) (Up.refl _) ?_
                    refine quiet_value (v := .pointer (some ⟨p, 0, none⟩)) rfl (fun _ _ => rfl) ?_
                    simp only [Act.put, List.setIfInBounds_toArray, List.set_cons_zero, List.set_cons_succ]
                    refine quiet_value (v := .pointer (some ⟨p, 0, none⟩)) rfl (fun _ _ => (by go_simp)) ?_
                    simp only [Act.put, List.setIfInBounds_toArray, List.set_cons_zero, List.set_cons_succ]
                    refine quiet_value (v := .pointer (some ⟨p, 2, none⟩)) rfl (fun _ _ => (by go_simp)) ?_
                    simp only [Act.put, List.setIfInBounds_toArray, List.set_cons_zero, List.set_cons_succ]
                    refine quiet_value (v := .bool false) rfl (fun W h => (by have u0 := cell_below h.out _ _ _ d2; go_simp)) ?_
                    simp only [Act.put, List.setIfInBounds_toArray, List.set_cons_zero, List.set_cons_succ]
                    refine quiet_value (v := .bool false) rfl (fun _ _ => rfl) ?_
                    simp only [Act.put, List.setIfInBounds_toArray, List.set_cons_zero, List.set_cons_succ]
                    refine quiet_value (v := .int .i64 (-v)) rfl (fun _ _ => rfl) ?_
                    simp only [Act.put, List.setIfInBounds_toArray, List.set_cons_zero, List.set_cons_succ]
                    refine quiet_value (v := .int .i64 lo) rfl (fun _ _ => rfl) ?_
                    simp only [Act.put, List.setIfInBounds_toArray, List.set_cons_zero, List.set_cons_succ]
                    refine quiet_value (v := .bool false) rfl (fun _ _ => (by go_simp)) ?_
                    simp only [Act.put, List.setIfInBounds_toArray, List.set_cons_zero, List.set_cons_succ]
                    refine quiet_value (v := .bool false) rfl (fun _ _ => (by go_simp)) ?_
                    simp only [Act.put, List.setIfInBounds_toArray, List.set_cons_zero, List.set_cons_succ]
                    refine quiet_value (v := .bool false) rfl (fun _ _ => rfl) ?_
                    simp only [Act.put, List.setIfInBounds_toArray, List.set_cons_zero, List.set_cons_succ]
                    refine quiet_value (v := .int .i64 (-v)) rfl (fun _ _ => rfl) ?_
                    simp only [Act.put, List.setIfInBounds_toArray, List.set_cons_zero, List.set_cons_succ]
                    refine quiet_value (v := .int .i64 hi) rfl (fun _ _ => rfl) ?_
                    simp only [Act.put, List.setIfInBounds_toArray, List.set_cons_zero, List.set_cons_succ]
                    refine quiet_value (v := .bool false) rfl (fun _ _ => (by go_simp)) ?_
                    simp only [Act.put, List.setIfInBounds_toArray, List.set_cons_zero, List.set_cons_succ]
                    refine quiet_value (v := .bool false) rfl (fun _ _ => (by go_simp)) ?_
                    simp only [Act.put, List.setIfInBounds_toArray, List.set_cons_zero, List.set_cons_succ]
                    refine quiet_value (v := .bool false) rfl (fun _ _ => rfl) ?_
                    simp only [Act.put, List.setIfInBounds_toArray, List.set_cons_zero, List.set_cons_succ]
                    refine quiet_value (v := .pointer (some ⟨p, 0, none⟩)) rfl (fun _ _ => rfl) ?_
                    simp only [Act.put, List.setIfInBounds_toArray, List.set_cons_zero, List.set_cons_succ]
                    refine quiet_value (v := .pointer (some ⟨p, 0, none⟩)) rfl (fun _ _ => (by go_simp)) ?_
                    simp only [Act.put, List.setIfInBounds_toArray, List.set_cons_zero, List.set_cons_succ]
                    refine quiet_value (v := .pointer (some ⟨p, 0, none⟩)) rfl (fun _ _ => (by go_simp)) ?_
                    simp only [Act.put, List.setIfInBounds_toArray, List.set_cons_zero, List.set_cons_succ]
                    refine quiet_value (v := .string (tx s)) rfl (fun W h => (by have u0 := cell_below h.out _ _ _ d0; go_simp)) ?_
                    simp only [Act.put, List.setIfInBounds_toArray, List.set_cons_zero, List.set_cons_succ]
                    refine quiet_value (v := .int .i64 i) rfl (fun _ _ => rfl) ?_
                    simp only [Act.put, List.setIfInBounds_toArray, List.set_cons_zero, List.set_cons_succ]
                    refine quiet_value (v := .pointer (some ⟨p, 0, none⟩)) rfl (fun _ _ => rfl) ?_
                    simp only [Act.put, List.setIfInBounds_toArray, List.set_cons_zero, List.set_cons_succ]
                    refine quiet_value (v := .pointer (some ⟨p, 0, none⟩)) rfl (fun _ _ => (by go_simp)) ?_
                    simp only [Act.put, List.setIfInBounds_toArray, List.set_cons_zero, List.set_cons_succ]
                    refine quiet_value (v := .pointer (some ⟨p, 1, none⟩)) rfl (fun _ _ => (by go_simp)) ?_
                    simp only [Act.put, List.setIfInBounds_toArray, List.set_cons_zero, List.set_cons_succ]
                    refine quiet_value (v := .int .i64 ((i + k : Nat) : Int)) rfl (fun W h => (by have u0 := cell_below h.out _ _ _ d1; go_simp)) ?_
                    simp only [Act.put, List.setIfInBounds_toArray, List.set_cons_zero, List.set_cons_succ]
                    refine quiet_value (v := .string (tx (q.take k))) rfl (fun _ _ => (by go_simp; rw [if_pos ⟨by omega, by omega⟩, if_pos (by omega)])) ?_
                    simp only [Act.put, List.setIfInBounds_toArray, List.set_cons_zero, List.set_cons_succ]
                    refine quiet_value (v := .int .i64 (-v)) rfl (fun _ _ => rfl) ?_
                    simp only [Act.put, List.setIfInBounds_toArray, List.set_cons_zero, List.set_cons_succ]
                    refine quiet_call (v := .string (tx (dec (-v)))) rfl (fun W => (by go_simp)) (fun W h => (dec_up (-v) (by omega) (by omega) W).mono fun e w' ⟨he, hb⟩ => ⟨he, h.call hb⟩) ?_
                    simp only [Act.put, List.setIfInBounds_toArray, List.set_cons_zero, List.set_cons_succ]
                    refine quiet_value (v := .bool true) rfl (fun _ _ => (by go_simp)) ?_
                    simp only [Act.put, List.setIfInBounds_toArray, List.set_cons_zero, List.set_cons_succ]
                    refine quiet_value (v := .bool true) rfl (fun _ _ => (by go_simp)) ?_
                    simp only [Act.put, List.setIfInBounds_toArray, List.set_cons_zero, List.set_cons_succ]
                    refine quiet_nil ?_
                    intro w3 hw3
                    have hR3 := hR2.below hw3.out
                    obtain ⟨⟨d0, d1, d2⟩, g0, g1, g2⟩ := hR3.cells
                    go_wp2
                    go_ret
                    unfold NumOut
                    exact ⟨(hM2.trans (Mv.up hw3.out)).set, 0, i + k, true, rfl, hR3.worse, by omega, hims, by omega, by omega, Or.inr ⟨rfl, by rw [hq, hat]; exact if_neg fun h => hne h.2.2⟩⟩
  · obtain ⟨W2, hW2⟩ : ∃ W2, w1.setCell ⟨p, 1, none⟩ (.int .i64 ((i : Int) + 1)) = W2 := ⟨_, rfl⟩
    have hR2 : Rd W2 p s (i + 1) false := by rw [← hW2]; exact (h.below hb1).at (i + 1)
    have hM2 : Mv p w W2 := by rw [← hW2]; exact (Mv.up hb1).set
    rw [hW2]
    clear c0 c1 c2 f0 f1 f2 d0 d1 d2 g0 g1 g2 hW2 hb1 hst
    go_loopg [25] ((numSpan q).length - sgn q) (fun g _ wr => ∃ m : Nat, Hid (m + g = (numSpan q).length ∧ sgn q ≤ m ∧ m ≤ 20) ∧ Rd wr p s (i + m) false ∧ Mv p w wr)
    case atStart => exact ⟨1, Hid.mk (by have := of_decide_eq_true hsg; have := sgn_le q; omega), hR2, hM2⟩
    case round =>
      clear hR2 hM2
      obtain ⟨m, hmm, hR, hM⟩ := hrel
      obtain ⟨hm1, hm2, hm3⟩ := hmm.out
      have hims : i + m ≤ s.length := by have := span_le q; rw [← hq, List.length_drop] at this; rw [← hq] at hm1; omega
      obtain ⟨c, hc⟩ : ∃ c, (s.drop (i + m)).headD 0 = c := ⟨_, rfl⟩
      have hdc : isDig c = decide (m < (numSpan q).length) := by rw [← hc, ← List.drop_drop, hq]; exact span_next hm2 (by omega)
      have hnx := fun w1 (h : Rd w1 p s (i + m) false) => next_any p s (i + m) false w1 h hims
      rw [hc, if_neg (by decide)] at hnx
      have hwm : IntKind.i64.wrap (((i + m : Nat) : Int) - i) = m := by rw [wrap_id] <;> omega
      obtain ⟨⟨d0, d1, d2⟩, g0, g1, g2⟩ := hR.cells
      by_cases hlt : m < (numSpan q).length
      · rw [decide_eq_true hlt] at hdc
        have hdg := dig_any c
        rw [hdc] at hdg
        by_cases h20 : m < 20
        · have hb20 : decide ((m : Int) < 20) = true := decide_eq_true (by omega)
          have h20' : ((m : Int) < 20) := by omega
          have hwi1 : IntKind.i64.wrap (((i + m : Nat) : Int) + 1) = ((i + (m + 1) : Nat) : Int) := by rw [wrap_id] <;> omega
          go_wp2_with (first
            | (go_at_call 23; refine (hnx _ hR).mono ?_; rintro e w2 ⟨rfl, hb2⟩; obtain ⟨⟨d0, d1, d2⟩, g0, g1, g2⟩ := (hR.below hb2).cells)
            | (go_at_call 24; refine (hdg _).mono ?_; rintro e w3 ⟨rfl, rfl⟩))
          go_roundg (gk - 1)
          case measure => omega
          case rel => exact ⟨m + 1, Hid.mk (by omega), (hR.below hb2).at (i + (m + 1)), (hM.trans (Mv.up hb2)).set⟩
        · have hb20 : decide ((m : Int) < 20) = false := decide_eq_false (by omega)
          have h20' : ¬ ((m : Int) < 20) := by omega
          have hex : Hid (m = (numSpan q).length ∨ m = 20) := Hid.mk (by omega)
          have hs1 := of_decide_eq_true hsg
          have hil : i < s.length := by omega
          have hil2 : i < (tx s).size := by rw [tx_size]; exact hil
          have hx : (tx s)[i]'hil2 = 45 := by
            have h9 : q.head? = some 45 := by
              by_cases h : q.head? = some 45
              · exact h
              · unfold sgn at hs1; rw [if_neg h] at hs1; omega
            rw [← hq, List.drop_eq_getElem_cons hil, List.head?_cons] at h9
            exact Option.some.inj h9
          have him : ((i : Int) < i + m) = True := eq_true (by omega)
          have hMm : Hid (sgn q ≤ m ∧ m ≤ (numSpan q).length ∧ m ≤ 20) := Hid.mk (by omega)
          clear hlt h20 hmm hm1 hm2 hm3 hs1
          go_wp2_with (first
            | (go_at_call 23; refine (hnx _ hR).mono ?_; rintro e w2 ⟨rfl, hb2⟩; obtain ⟨⟨d0, d1, d2⟩, g0, g1, g2⟩ := (hR.below hb2).cells)
            | (go_at_call 24; refine (hdg _).mono ?_; rintro e w3 ⟨rfl, rfl⟩))
          have hR2 := hR.below hb2
          have hM2 := hM.trans (Mv.up hb2)
          have hex2 : Hid (m = (numSpan q).length ∨ m = 20) := hex
          go_loopg [9, 10] m (fun g nn ii wr => ∃ k : Nat, ii = .int .i64 ((i + k : Nat) : Int) ∧ nn = .int .i64 (nv ((numSpan q).take k)) ∧ Hid (k + g = m) ∧ Hid (-576460752303423488 ≤ nv ((numSpan q).take k)) ∧ wr = w2)
          case atStart => exact ⟨0, rfl, rfl, Hid.mk (by omega), Hid.mk (by rw [List.take_zero]; decide), rfl⟩
          case round =>
            obtain ⟨k, rfl, rfl, hkm, hnn, hwr⟩ := hrel
            obtain rfl := hwr.symm
            by_cases hlt : k < m
            · have hc2 := hMm.out
              obtain ⟨hkq, hkq2⟩ := span_get q k (by omega)
              have hil3 : i + k < (tx s).size := by rw [tx_size]; omega
              obtain ⟨c2, hc2'⟩ : ∃ c2, (numSpan q)[k]'(by omega) = c2 := ⟨_, rfl⟩
              have hx2 : (tx s)[i + k]'hil3 = c2 := by
                have h9 : s[i + k]? = some c2 := by rw [← List.getElem?_drop, hq, List.getElem?_eq_getElem hkq, hkq2, hc2']
                have h8 : i + k < s.length := by omega
                rw [List.getElem?_eq_getElem h8] at h9
                exact Option.some.inj h9
              have hall := span_all q c2 (hc2' ▸ List.getElem_mem _)
              have hnx2 : nv ((numSpan q).take (k + 1)) = nvS (nv ((numSpan q).take k)) c2 := by rw [List.take_succ_eq_append_getElem (by omega), nv_snoc, hc2']
              have hnp := (nv_take (span_all q) k).2
              have hikm : ((i : Int) + k < i + m) = True := eq_true (by omega)
              by_cases h45 : c2 = 45
              · subst h45
                go_wp2
                go_roundg (gk - 1)
                case measure => have := hkm.out; omega
                case rel => exact ⟨k + 1, by push_cast; rw [Int.add_assoc], by rw [hnx2]; rfl, Hid.mk (by have := hkm.out; omega), Hid.mk (by rw [hnx2]; exact hnn.out), rfl⟩
              · have hdg2 := hall.resolve_left h45
                have hdr := dig_toNat hdg2
                have h45' : ((c2.toNat : Int) == 45) = false := by
                  rw [beq_eq_false_iff_ne]
                  intro e
                  exact h45 (UInt8.toNat.inj (by have h5 : (45 : UInt8).toNat = 45 := rfl; omega))
                rw [nvS_dig hdg2] at hnx2
                obtain ⟨d, hd⟩ : ∃ d : Nat, c2.toNat = 48 + d := ⟨c2.toNat - 48, by omega⟩
                rw [hd] at hnx2 h45'
                have hd9 : d ≤ 9 := by omega
                obtain ⟨n0, hn0⟩ : ∃ n0, nv ((numSpan q).take k) = n0 := ⟨_, rfl⟩
                have hnn1 := hnn.out
                rw [hn0] at hnx2 hnp hnn1 ⊢
                go_wp2
                · rename_i hbig
                  have hgr : nv ((numSpan q).take (k + 1)) < -576460752303423488 := by rw [hnx2]; rw [tdiv_is hd9] at hbig; push_cast; omega
                  have hno := numI_great hlo hhi hgr
                  go_ret
                  unfold NumOut
                  exact ⟨hM2.set, 0, i + m, true, rfl, hR2.worse, by omega, hims, by omega, by omega, Or.inr ⟨rfl, by rw [hq]; exact hno⟩⟩
                · go_roundg (gk - 1)
                  case measure => have := hkm.out; omega
                  case rel => exact ⟨k + 1, by push_cast; rw [Int.add_assoc], by rw [hnx2]; push_cast; rfl, Hid.mk (by have := hkm.out; omega), Hid.mk (by rw [hnx2]; rename_i hbig; rw [tdiv_is hd9] at hbig; push_cast; omega), rfl⟩
            · have hk := hkm.out
              obtain rfl : k = m := by omega
              have hikm : ¬ ((i : Int) + k < i + k) := by omega
              have hat := numI_at (lo := lo) (hi := hi) (q := q) (m := k) (by omega) (by omega) hMm.out.2.1 hex2.out
              have hnvv := numVal_nv (q := q) (m := k) hMm.out.1 hMm.out.2.1
              rw [if_pos (of_decide_eq_true hsg)] at hnvv
              have hnp := (nv_take (span_all q) k).2
              have hnn2 := hnn.out
              have hpt := tx_part s i k
              rw [hq] at hpt
              have hst := tx_size (q.take k)
              have hsz := tx_size s
              have hto : ((i : Int) + k).toNat = i + k := by omega
              rw [hnvv] at hat
              generalize nv ((numSpan q).take k) = v at *
              clear hnvv hx hil2 hwi hwm hb20 h20' him hnn hdc hdg hnx
              go_upto_region 19 with fail
              by_cases hvl : v < lo
              · skip
                refine region_up (W := w2) (by kernel_rfl) (by kernel_rfl) (Up.refl _) ?_
                refine quiet_value (v := .pointer (some ⟨p, 0, none⟩)) rfl (fun _ _ => rfl) ?_
                simp only [Act.put, List.setIfInBounds_toArray, List.set_cons_zero, List.set_cons_succ]
                refine quiet_value (v := .pointer (some ⟨p, 0, none⟩)) rfl (fun _ _ => (by go_simp)) ?_
                simp only [Act.put, List.setIfInBounds_toArray, List.set_cons_zero, List.set_cons_succ]
                refine quiet_value (v := .pointer (some ⟨p, 2, none⟩)) rfl (fun _ _ => (by go_simp)) ?_
                simp only [Act.put, List.setIfInBounds_toArray, List.set_cons_zero, List.set_cons_succ]
                refine quiet_value (v := .bool false) rfl (fun W h => (by have u0 := cell_below h.out _ _ _ d2; go_simp)) ?_
                simp only [Act.put, List.setIfInBounds_toArray, List.set_cons_zero, List.set_cons_succ]
                refine quiet_value (v := .bool false) rfl (fun _ _ => rfl) ?_
                simp only [Act.put, List.setIfInBounds_toArray, List.set_cons_zero, List.set_cons_succ]
                refine quiet_value (v := .int .i64 v) rfl (fun _ _ => rfl) ?_
                simp only [Act.put, List.setIfInBounds_toArray, List.set_cons_zero, List.set_cons_succ]
                refine quiet_value (v := .int .i64 lo) rfl (fun _ _ => rfl) ?_
                simp only [Act.put, List.setIfInBounds_toArray, List.set_cons_zero, List.set_cons_succ]
                refine quiet_value (v := .bool true) rfl (fun _ _ => (by go_simp)) ?_
                simp only [Act.put, List.setIfInBounds_toArray, List.set_cons_zero, List.set_cons_succ]
                refine quiet_value (v := .bool true) rfl (fun _ _ => (by go_simp)) ?_
                simp only [Act.put, List.setIfInBounds_toArray, List.set_cons_zero, List.set_cons_succ]
                refine quiet_value (v := .bool true) rfl (fun _ _ => rfl) ?_
                simp only [Act.put, List.setIfInBounds_toArray, List.set_cons_zero, List.set_cons_succ]
                refine quiet_not rfl ?_
                simp only [Act.put, List.setIfInBounds_toArray, List.set_cons_zero, List.set_cons_succ]
                refine quiet_not rfl ?_
                simp only [Act.put, List.setIfInBounds_toArray, List.set_cons_zero, List.set_cons_succ]
                refine quiet_not rfl ?_
                simp only [Act.put, List.setIfInBounds_toArray, List.set_cons_zero, List.set_cons_succ]
                refine quiet_value (v := .bool true) rfl (fun _ _ => (by go_simp)) ?_
                simp only [Act.put, List.setIfInBounds_toArray, List.set_cons_zero, List.set_cons_succ]
                refine quiet_value (v := .bool true) rfl (fun _ _ => rfl) ?_
                simp only [Act.put, List.setIfInBounds_toArray, List.set_cons_zero, List.set_cons_succ]
                refine quiet_not rfl ?_
                simp only [Act.put, List.setIfInBounds_toArray, List.set_cons_zero, List.set_cons_succ]
                refine quiet_not rfl ?_
                simp only [Act.put, List.setIfInBounds_toArray, List.set_cons_zero, List.set_cons_succ]
                refine quiet_not rfl ?_
                simp only [Act.put, List.setIfInBounds_toArray, List.set_cons_zero, List.set_cons_succ]
                refine quiet_not rfl ?_
                simp only [Act.put, List.setIfInBounds_toArray, List.set_cons_zero, List.set_cons_succ]
                refine quiet_not rfl ?_
                simp only [Act.put, List.setIfInBounds_toArray, List.set_cons_zero, List.set_cons_succ]
                refine quiet_not rfl ?_
                simp only [Act.put, List.setIfInBounds_toArray, List.set_cons_zero, List.set_cons_succ]
                refine quiet_not rfl ?_
                simp only [Act.put, List.setIfInBounds_toArray, List.set_cons_zero, List.set_cons_succ]
                refine quiet_not rfl ?_
                simp only [Act.put, List.setIfInBounds_toArray, List.set_cons_zero, List.set_cons_succ]
                refine quiet_not rfl ?_
                simp only [Act.put, List.setIfInBounds_toArray, List.set_cons_zero, List.set_cons_succ]
                refine quiet_not rfl ?_
                simp only [Act.put, List.setIfInBounds_toArray, List.set_cons_zero, List.set_cons_succ]
                refine quiet_not rfl ?_
                simp only [Act.put, List.setIfInBounds_toArray, List.set_cons_zero, List.set_cons_succ]
                refine quiet_not rfl ?_
                simp only [Act.put, List.setIfInBounds_toArray, List.set_cons_zero, List.set_cons_succ]
                refine quiet_not rfl ?_
                simp only [Act.put, List.setIfInBounds_toArray, List.set_cons_zero, List.set_cons_succ]
                refine quiet_value (v := .bool true) rfl (fun _ _ => (by go_simp)) ?_
                simp only [Act.put, List.setIfInBounds_toArray, List.set_cons_zero, List.set_cons_succ]
                refine quiet_nil ?_
                intro w3 hw3
                have hR3 := hR2.below hw3.out
                obtain ⟨⟨d0, d1, d2⟩, g0, g1, g2⟩ := hR3.cells
                go_wp2
                go_ret
                unfold NumOut
                exact ⟨(hM2.trans (Mv.up hw3.out)).set, 0, i + k, true, rfl, hR3.worse, by omega, hims, by omega, by omega, Or.inr ⟨rfl, by rw [hq, hat]; exact if_neg fun h => absurd h.1 (by omega)⟩⟩
              · by_cases hvh : v > hi
                · skip
                  refine region_up (W := w2) (by kernel_rfl) (by kernel_rfl) (Up.refl _) ?_
                  refine quiet_value (v := .pointer (some ⟨p, 0, none⟩)) rfl (fun _ _ => rfl) ?_
                  simp only [Act.put, List.setIfInBounds_toArray, List.set_cons_zero, List.set_cons_succ]
                  refine quiet_value (v := .pointer (some ⟨p, 0, none⟩)) rfl (fun _ _ => (by go_simp)) ?_
                  simp only [Act.put, List.setIfInBounds_toArray, List.set_cons_zero, List.set_cons_succ]
                  refine quiet_value (v := .pointer (some ⟨p, 2, none⟩)) rfl (fun _ _ => (by go_simp)) ?_
                  simp only [Act.put, List.setIfInBounds_toArray, List.set_cons_zero, List.set_cons_succ]
                  refine quiet_value (v := .bool false) rfl (fun W h => (by have u0 := cell_below h.out _ _ _ d2; go_simp)) ?_
                  simp only [Act.put, List.setIfInBounds_toArray, List.set_cons_zero, List.set_cons_succ]
                  refine quiet_value (v := .bool false) rfl (fun _ _ => rfl) ?_
                  simp only [Act.put, List.setIfInBounds_toArray, List.set_cons_zero, List.set_cons_succ]
                  refine quiet_value (v := .int .i64 v) rfl (fun _ _ => rfl) ?_
                  simp only [Act.put, List.setIfInBounds_toArray, List.set_cons_zero, List.set_cons_succ]
                  refine quiet_value (v := .int .i64 lo) rfl (fun _ _ => rfl) ?_
                  simp only [Act.put, List.setIfInBounds_toArray, List.set_cons_zero, List.set_cons_succ]
                  refine quiet_value (v := .bool false) rfl (fun _ _ => (by go_simp)) ?_
                  simp only [Act.put, List.setIfInBounds_toArray, List.set_cons_zero, List.set_cons_succ]
                  refine quiet_value (v := .bool false) rfl (fun _ _ => (by go_simp)) ?_
                  simp only [Act.put, List.setIfInBounds_toArray, List.set_cons_zero, List.set_cons_succ]
                  refine quiet_value (v := .bool false) rfl (fun _ _ => rfl) ?_
                  simp only [Act.put, List.setIfInBounds_toArray, List.set_cons_zero, List.set_cons_succ]
                  refine quiet_value (v := .int .i64 v) rfl (fun _ _ => rfl) ?_
                  simp only [Act.put, List.setIfInBounds_toArray, List.set_cons_zero, List.set_cons_succ]
                  refine quiet_value (v := .int .i64 hi) rfl (fun _ _ => rfl) ?_
                  simp only [Act.put, List.setIfInBounds_toArray, List.set_cons_zero, List.set_cons_succ]
                  refine quiet_value (v := .bool true) rfl (fun _ _ => (by go_simp)) ?_
                  simp only [Act.put, List.setIfInBounds_toArray, List.set_cons_zero, List.set_cons_succ]
                  refine quiet_value (v := .bool true) rfl (fun _ _ => (by go_simp)) ?_
                  simp only [Act.put, List.setIfInBounds_toArray, List.set_cons_zero, List.set_cons_succ]
                  refine quiet_value (v := .bool true) rfl (fun _ _ => rfl) ?_
                  simp only [Act.put, List.setIfInBounds_toArray, List.set_cons_zero, List.set_cons_succ]
                  refine quiet_not rfl ?_
                  simp only [Act.put, List.setIfInBounds_toArray, List.set_cons_zero, List.set_cons_succ]
                  refine quiet_not rfl ?_
                  simp only [Act.put, List.setIfInBounds_toArray, List.set_cons_zero, List.set_cons_succ]
                  refine quiet_not rfl ?_
                  simp only [Act.put, List.setIfInBounds_toArray, List.set_cons_zero, List.set_cons_succ]
                  refine quiet_not rfl ?_
                  simp only [Act.put, List.setIfInBounds_toArray, List.set_cons_zero, List.set_cons_succ]
                  refine quiet_not rfl ?_
                  simp only [Act.put, List.setIfInBounds_toArray, List.set_cons_zero, List.set_cons_succ]
                  refine quiet_not rfl ?_
                  simp only [Act.put, List.setIfInBounds_toArray, List.set_cons_zero, List.set_cons_succ]
                  refine quiet_not rfl ?_
                  simp only [Act.put, List.setIfInBounds_toArray, List.set_cons_zero, List.set_cons_succ]
                  refine quiet_not rfl ?_
                  simp only [Act.put, List.setIfInBounds_toArray, List.set_cons_zero, List.set_cons_succ]
                  refine quiet_not rfl ?_
                  simp only [Act.put, List.setIfInBounds_toArray, List.set_cons_zero, List.set_cons_succ]
                  refine quiet_not rfl ?_
                  simp only [Act.put, List.setIfInBounds_toArray, List.set_cons_zero, List.set_cons_succ]
                  refine quiet_not rfl ?_
                  simp only [Act.put, List.setIfInBounds_toArray, List.set_cons_zero, List.set_cons_succ]
                  refine quiet_not rfl ?_
                  simp only [Act.put, List.setIfInBounds_toArray, List.set_cons_zero, List.set_cons_succ]
                  refine quiet_not rfl ?_
                  simp only [Act.put, List.setIfInBounds_toArray, List.set_cons_zero, List.set_cons_succ]
                  refine quiet_value (v := .bool true) rfl (fun _ _ => (by go_simp)) ?_
                  simp only [Act.put, List.setIfInBounds_toArray, List.set_cons_zero, List.set_cons_succ]
                  refine quiet_nil ?_
                  intro w3 hw3
                  have hR3 := hR2.below hw3.out
                  obtain ⟨⟨d0, d1, d2⟩, g0, g1, g2⟩ := hR3.cells
                  go_wp2
                  go_ret
                  unfold NumOut
                  exact ⟨(hM2.trans (Mv.up hw3.out)).set, 0, i + k, true, rfl, hR3.worse, by omega, hims, by omega, by omega, Or.inr ⟨rfl, by rw [hq, hat]; exact if_neg fun h => absurd h.2.1 (by omega)⟩⟩
                · by_cases hne : q.take k = dec v
                  · skip
                    refine region_up (W := w2) (by kernel_rfl) (by kernel_rfl) (Up.refl _) ?_
                    refine quiet_value (v := .pointer (some ⟨p, 0, none⟩)) rfl (fun _ _ => rfl) ?_
                    simp only [Act.put, List.setIfInBounds_toArray, List.set_cons_zero, List.set_cons_succ]
                    refine quiet_value (v := .pointer (some ⟨p, 0, none⟩)) rfl (fun _ _ => (by go_simp)) ?_
                    simp only [Act.put, List.setIfInBounds_toArray, List.set_cons_zero, List.set_cons_succ]
                    refine quiet_value (v := .pointer (some ⟨p, 2, none⟩)) rfl (fun _ _ => (by go_simp)) ?_
                    simp only [Act.put, List.setIfInBounds_toArray, List.set_cons_zero, List.set_cons_succ]
                    refine quiet_value (v := .bool false) rfl (fun W h => (by have u0 := cell_below h.out _ _ _ d2; go_simp)) ?_
                    simp only [Act.put, List.setIfInBounds_toArray, List.set_cons_zero, List.set_cons_succ]
                    refine quiet_value (v := .bool false) rfl (fun _ _ => rfl) ?_
                    simp only [Act.put, List.setIfInBounds_toArray, List.set_cons_zero, List.set_cons_succ]
                    refine quiet_value (v := .int .i64 v) rfl (fun _ _ => rfl) ?_
                    simp only [Act.put, List.setIfInBounds_toArray, List.set_cons_zero, List.set_cons_succ]
                    refine quiet_value (v := .int .i64 lo) rfl (fun _ _ => rfl) ?_
                    simp only [Act.put, List.setIfInBounds_toArray, List.set_cons_zero, List.set_cons_succ]
                    refine quiet_value (v := .bool false) rfl (fun _ _ => (by go_simp)) ?_
                    simp only [Act.put, List.setIfInBounds_toArray, List.set_cons_zero, List.set_cons_succ]
                    refine quiet_value (v := .bool false) rfl (fun _ _ => (by go_simp)) ?_
                    simp only [Act.put, List.setIfInBounds_toArray, List.set_cons_zero, List.set_cons_succ]
                    refine quiet_value (v := .bool false) rfl (fun _ _ => rfl) ?_
                    simp only [Act.put, List.setIfInBounds_toArray, List.set_cons_zero, List.set_cons_succ]
                    refine quiet_value (v := .int .i64 v) rfl (fun _ _ => rfl) ?_
                    simp only [Act.put, List.setIfInBounds_toArray, List.set_cons_zero, List.set_cons_succ]
                    refine quiet_value (v := .int .i64 hi) rfl (fun _ _ => rfl) ?_
                    simp only [Act.put, List.setIfInBounds_toArray, List.set_cons_zero, List.set_cons_succ]
                    refine quiet_value (v := .bool false) rfl (fun _ _ => (by go_simp)) ?_
                    simp only [Act.put, List.setIfInBounds_toArray, List.set_cons_zero, List.set_cons_succ]
                    refine quiet_value (v := .bool false) rfl (fun _ _ => (by go_simp)) ?_
                    simp only [Act.put, List.setIfInBounds_toArray, List.set_cons_zero, List.set_cons_succ]
                    refine quiet_value (v := .bool false) rfl (fun _ _ => rfl) ?_
                    simp only [Act.put, List.setIfInBounds_toArray, List.set_cons_zero, List.set_cons_succ]
                    refine quiet_value (v := .pointer (some ⟨p, 0, none⟩)) rfl (fun _ _ => rfl) ?_
                    simp only [Act.put, List.setIfInBounds_toArray, List.set_cons_zero, List.set_cons_succ]
                    refine quiet_value (v := .pointer (some ⟨p, 0, none⟩)) rfl (fun _ _ => (by go_simp)) ?_
                    simp only [Act.put, List.setIfInBounds_toArray, List.set_cons_zero, List.set_cons_succ]
                    refine quiet_value (v := .pointer (some ⟨p, 0, none⟩)) rfl (fun _ _ => (by go_simp)) ?_
                    simp only [Act.put, List.setIfInBounds_toArray, List.set_cons_zero, List.set_cons_succ]
                    refine quiet_value (v := .string (tx s)) rfl (fun W h => (by have u0 := cell_below h.out _ _ _ d0; go_simp)) ?_
                    simp only [Act.put, List.setIfInBounds_toArray, List.set_cons_zero, List.set_cons_succ]
                    refine quiet_value (v := .int .i64 i) rfl (fun _ _ => rfl) ?_
                    simp only [Act.put, List.setIfInBounds_toArray, List.set_cons_zero, List.set_cons_succ]
                    refine quiet_value (v := .pointer (some ⟨p, 0, none⟩)) rfl (fun _ _ => rfl) ?_
                    simp only [Act.put, List.setIfInBounds_toArray, List.set_cons_zero, List.set_cons_succ]
                    refine quiet_value (v := .pointer (some ⟨p, 0, none⟩)) rfl (fun _ _ => (by go_simp)) ?_
                    simp only [Act.put, List.setIfInBounds_toArray, List.set_cons_zero, List.set_cons_succ]
                    refine quiet_value (v := .pointer (some ⟨p, 1, none⟩)) rfl (fun _ _ => (by go_simp)) ?_
                    simp only [Act.put, List.setIfInBounds_toArray, List.set_cons_zero, List.set_cons_succ]
                    refine quiet_value (v := .int .i64 ((i + k : Nat) : Int)) rfl (fun W h => (by have u0 := cell_below h.out _ _ _ d1; go_simp)) ?_
                    simp only [Act.put, List.setIfInBounds_toArray, List.set_cons_zero, List.set_cons_succ]
                    refine quiet_value (v := .string (tx (q.take k))) rfl (fun _ _ => (by go_simp; rw [if_pos ⟨by omega, by omega⟩, if_pos (by omega)])) ?_
                    simp only [Act.put, List.setIfInBounds_toArray, List.set_cons_zero, List.set_cons_succ]
                    refine quiet_value (v := .int .i64 v) rfl (fun _ _ => rfl) ?_
                    simp only [Act.put, List.setIfInBounds_toArray, List.set_cons_zero, List.set_cons_succ]
                    refine quiet_call (v := .string (tx (dec v))) rfl (fun W => (by go_simp)) (fun W h => (dec_up v (by omega) (by omega) W).mono fun e w' ⟨he, hb⟩ => ⟨he, h.call hb⟩) ?_
                    simp only [Act.put, List.setIfInBounds_toArray, List.set_cons_zero, List.set_cons_succ]
                    refine quiet_value (v := .bool false) rfl (fun _ _ => (by go_simp)) ?_
                    simp only [Act.put, List.setIfInBounds_toArray, List.set_cons_zero, List.set_cons_succ]
                    refine quiet_value (v := .bool false) rfl (fun _ _ => (by go_simp)) ?_
                    simp only [Act.put, List.setIfInBounds_toArray, List.set_cons_zero, List.set_cons_succ]
                    refine quiet_nil ?_
                    intro w3 hw3
                    have hR3 := hR2.below hw3.out
                    go_wp2
                    go_ret
                    unfold NumOut
                    exact ⟨hM2.trans (Mv.up hw3.out), v, i + k, false, rfl, hR3, by omega, hims, by omega, by omega, Or.inl ⟨rfl, by rw [hq, hat, if_pos ⟨by omega, by omega, hne⟩, ← hq, List.drop_drop]⟩⟩
                  · have hne2 : ¬ (tx (q.take k)).toList = (tx (dec v)).toList := by rw [tx_toList, tx_toList]; exact hne
                    have hne' : ¬ tx (q.take k) = tx (dec v) := fun e => hne ((tx_eq _ _).1 e)
                    refine region_up (W := w2) (by kernel_rfl) (by kernel_rfl) (Up.refl _) ?_
                    refine quiet_value (v := .pointer (some ⟨p, 0, none⟩)) rfl (fun _ _ => rfl) ?_
                    simp only [Act.put, List.setIfInBounds_toArray, List.set_cons_zero, List.set_cons_succ]
                    refine quiet_value (v := .pointer (some ⟨p, 0, none⟩)) rfl (fun _ _ => (by go_simp)) ?_
                    simp only [Act.put, List.setIfInBounds_toArray, List.set_cons_zero, List.set_cons_succ]
                    refine quiet_value (v := .pointer (some ⟨p, 2, none⟩)) rfl (fun _ _ => (by go_simp)) ?_
                    simp only [Act.put, List.setIfInBounds_toArray, List.set_cons_zero, List.set_cons_succ]
                    refine quiet_value (v := .bool false) rfl (fun W h => (by have u0 := cell_below h.out _ _ _ d2; go_simp)) ?_
                    simp only [Act.put, List.setIfInBounds_toArray, List.set_cons_zero, List.set_cons_succ]
                    refine quiet_value (v := .bool false) rfl (fun _ _ => rfl) ?_
                    simp only [Act.put, List.setIfInBounds_toArray, List.set_cons_zero, List.set_cons_succ]
                    refine quiet_value (v := .int .i64 v) rfl (fun _ _ => rfl) ?_
                    simp only [Act.put, List.setIfInBounds_toArray, List.set_cons_zero, List.set_cons_succ]
                    refine quiet_value (v := .int .i64 lo) rfl (fun _ _ => rfl) ?_
                    simp only [Act.put, List.setIfInBounds_toArray, List.set_cons_zero, List.set_cons_succ]
                    refine quiet_value (v := .bool false) rfl (fun _ _ => (by go_simp)) ?_
                    simp only [Act.put, List.setIfInBounds_toArray, List.set_cons_zero, List.set_cons_succ]
                    refine quiet_value (v := .bool false) rfl (fun _ _ => (by go_simp)) ?_
                    simp only [Act.put, List.setIfInBounds_toArray, List.set_cons_zero, List.set_cons_succ]
                    refine quiet_value (v := .bool false) rfl (fun _ _ => rfl) ?_
                    simp only [Act.put, List.setIfInBounds_toArray, List.set_cons_zero, List.set_cons_succ]
                    refine quiet_value (v := .int .i64 v) rfl (fun _ _ => rfl) ?_
                    simp only [Act.put, List.setIfInBounds_toArray, List.set_cons_zero, List.set_cons_succ]
                    refine quiet_value (v := .int .i64 hi) rfl (fun _ _ => rfl) ?_
                    simp only [Act.put, List.setIfInBounds_toArray, List.set_cons_zero, List.set_cons_succ]
                    refine quiet_value (v := .bool false) rfl (fun _ _ => (by go_simp)) ?_
                    simp only [Act.put, List.setIfInBounds_toArray, List.set_cons_zero, List.set_cons_succ]
                    refine quiet_value (v := .bool false) rfl (fun _ _ => (by go_simp)) ?_
                    simp only [Act.put, List.setIfInBounds_toArray, List.set_cons_zero, List.set_cons_succ]
                    refine quiet_value (v := .bool false) rfl (fun _ _ => rfl) ?_
                    simp only [Act.put, List.setIfInBounds_toArray, List.set_cons_zero, List.set_cons_succ]
                    refine quiet_value (v := .pointer (some ⟨p, 0, none⟩)) rfl (fun _ _ => rfl) ?_
                    simp only [Act.put, List.setIfInBounds_toArray, List.set_cons_zero, List.set_cons_succ]
                    refine quiet_value (v := .pointer (some ⟨p, 0, none⟩)) rfl (fun _ _ => (by go_simp)) ?_
                    simp only [Act.put, List.setIfInBounds_toArray, List.set_cons_zero, List.set_cons_succ]
                    refine quiet_value (v := .pointer (some ⟨p, 0, none⟩)) rfl (fun _ _ => (by go_simp)) ?_
                    simp only [Act.put, List.setIfInBounds_toArray, List.set_cons_zero, List.set_cons_succ]
                    refine quiet_value (v := .string (tx s)) rfl (fun W h => (by have u0 := cell_below h.out _ _ _ d0; go_simp)) ?_
                    simp only [Act.put, List.setIfInBounds_toArray, List.set_cons_zero, List.set_cons_succ]
                    refine quiet_value (v := .int .i64 i) rfl (fun _ _ => rfl) ?_
                    simp only [Act.put, List.setIfInBounds_toArray, List.set_cons_zero, List.set_cons_succ]
                    refine quiet_value (v := .pointer (some ⟨p, 0, none⟩)) rfl (fun _ _ => rfl) ?_
                    simp only [Act.put, List.setIfInBounds_toArray, List.set_cons_zero, List.set_cons_succ]
                    refine quiet_value (v := .pointer (some ⟨p, 0, none⟩)) rfl (fun _ _ => (by go_simp)) ?_
                    simp only [Act.put, List.setIfInBounds_toArray, List.set_cons_zero, List.set_cons_succ]
                    refine quiet_value (v := .pointer (some ⟨p, 1, none⟩)) rfl (fun _ _ => (by go_simp)) ?_
                    simp only [Act.put, List.setIfInBounds_toArray, List.set_cons_zero, List.set_cons_succ]
                    refine quiet_value (v := .int .i64 ((i + k : Nat) : Int)) rfl (fun W h => (by have u0 := cell_below h.out _ _ _ d1; go_simp)) ?_
                    simp only [Act.put, List.setIfInBounds_toArray, List.set_cons_zero, List.set_cons_succ]
                    refine quiet_value (v := .string (tx (q.take k))) rfl (fun _ _ => (by go_simp; rw [if_pos ⟨by omega, by omega⟩, if_pos (by omega)])) ?_
                    simp only [Act.put, List.setIfInBounds_toArray, List.set_cons_zero, List.set_cons_succ]
                    refine quiet_value (v := .int .i64 v) rfl (fun _ _ => rfl) ?_
                    simp only [Act.put, List.setIfInBounds_toArray, List.set_cons_zero, List.set_cons_succ]
                    refine quiet_call (v := .string (tx (dec v))) rfl (fun W => (by go_simp)) (fun W h => (dec_up v (by omega) (by omega) W).mono fun e w' ⟨he, hb⟩ => ⟨he, h.call hb⟩) ?_
                    simp only [Act.put, List.setIfInBounds_toArray, List.set_cons_zero, List.set_cons_succ]
                    refine quiet_value (v := .bool true) rfl (fun _ _ => (by go_simp)) ?_
                    simp only [Act.put, List.setIfInBounds_toArray, List.set_cons_zero, List.set_cons_succ]
                    refine quiet_value (v := .bool true) rfl (fun _ _ => (by go_simp)) ?_
                    simp only [Act.put, List.setIfInBounds_toArray, List.set_cons_zero, List.set_cons_succ]
                    refine quiet_nil ?_
                    intro w3 hw3
                    have hR3 := hR2.below hw3.out
                    obtain ⟨⟨d0, d1, d2⟩, g0, g1, g2⟩ := hR3.cells
                    go_wp2
                    go_ret
                    unfold NumOut
                    exact ⟨(hM2.trans (Mv.up hw3.out)).set, 0, i + k, true, rfl, hR3.worse, by omega, hims, by omega, by omega, Or.inr ⟨rfl, by rw [hq, hat]; exact if_neg fun h => hne h.2.2⟩⟩
      · rw [decide_eq_false hlt] at hdc
        have hdg := dig_any c
        rw [hdc] at hdg
        have hex : Hid (m = (numSpan q).length ∨ m = 20) := Hid.mk (by omega)
        have hs1 := of_decide_eq_true hsg
        have hil : i < s.length := by omega
        have hil2 : i < (tx s).size := by rw [tx_size]; exact hil
        have hx : (tx s)[i]'hil2 = 45 := by
          have h9 : q.head? = some 45 := by
            by_cases h : q.head? = some 45
            · exact h
            · unfold sgn at hs1; rw [if_neg h] at hs1; omega
          rw [← hq, List.drop_eq_getElem_cons hil, List.head?_cons] at h9
          exact Option.some.inj h9
        have him : ((i : Int) < i + m) = True := eq_true (by omega)
        have hMm : Hid (sgn q ≤ m ∧ m ≤ (numSpan q).length ∧ m ≤ 20) := Hid.mk (by omega)
        clear hlt hmm hm1 hm2 hm3 hs1
        go_wp2_with (first
          | (go_at_call 23; refine (hnx _ hR).mono ?_; rintro e w2 ⟨rfl, hb2⟩; obtain ⟨⟨d0, d1, d2⟩, g0, g1, g2⟩ := (hR.below hb2).cells)
          | (go_at_call 24; refine (hdg _).mono ?_; rintro e w3 ⟨rfl, rfl⟩))
        have hR2 := hR.below hb2
        have hM2 := hM.trans (Mv.up hb2)
        have hex2 : Hid (m = (numSpan q).length ∨ m = 20) := hex
        go_loopg [9, 10] m (fun g nn ii wr => ∃ k : Nat, ii = .int .i64 ((i + k : Nat) : Int) ∧ nn = .int .i64 (nv ((numSpan q).take k)) ∧ Hid (k + g = m) ∧ Hid (-576460752303423488 ≤ nv ((numSpan q).take k)) ∧ wr = w2)
        case atStart => exact ⟨0, rfl, rfl, Hid.mk (by omega), Hid.mk (by rw [List.take_zero]; decide), rfl⟩
        case round =>
          obtain ⟨k, rfl, rfl, hkm, hnn, hwr⟩ := hrel
          obtain rfl := hwr.symm
          by_cases hlt : k < m
          · have hc2 := hMm.out
            obtain ⟨hkq, hkq2⟩ := span_get q k (by omega)
            have hil3 : i + k < (tx s).size := by rw [tx_size]; omega
            obtain ⟨c2, hc2'⟩ : ∃ c2, (numSpan q)[k]'(by omega) = c2 := ⟨_, rfl⟩
            have hx2 : (tx s)[i + k]'hil3 = c2 := by
              have h9 : s[i + k]? = some c2 := by rw [← List.getElem?_drop, hq, List.getElem?_eq_getElem hkq, hkq2, hc2']
              have h8 : i + k < s.length := by omega
              rw [List.getElem?_eq_getElem h8] at h9
              exact Option.some.inj h9
            have hall := span_all q c2 (hc2' ▸ List.getElem_mem _)
            have hnx2 : nv ((numSpan q).take (k + 1)) = nvS (nv ((numSpan q).take k)) c2 := by rw [List.take_succ_eq_append_getElem (by omega), nv_snoc, hc2']
            have hnp := (nv_take (span_all q) k).2
            have hikm : ((i : Int) + k < i + m) = True := eq_true (by omega)
            by_cases h45 : c2 = 45
            · subst h45
              go_wp2
              go_roundg (gk - 1)
              case measure => have := hkm.out; omega
              case rel => exact ⟨k + 1, by push_cast; rw [Int.add_assoc], by rw [hnx2]; rfl, Hid.mk (by have := hkm.out; omega), Hid.mk (by rw [hnx2]; exact hnn.out), rfl⟩
            · have hdg2 := hall.resolve_left h45
              have hdr := dig_toNat hdg2
              have h45' : ((c2.toNat : Int) == 45) = false := by
                rw [beq_eq_false_iff_ne]
                intro e
                exact h45 (UInt8.toNat.inj (by have h5 : (45 : UInt8).toNat = 45 := rfl; omega))
              rw [nvS_dig hdg2] at hnx2
              obtain ⟨d, hd⟩ : ∃ d : Nat, c2.toNat = 48 + d := ⟨c2.toNat - 48, by omega⟩
              rw [hd] at hnx2 h45'
              have hd9 : d ≤ 9 := by omega
              obtain ⟨n0, hn0⟩ : ∃ n0, nv ((numSpan q).take k) = n0 := ⟨_, rfl⟩
              have hnn1 := hnn.out
              rw [hn0] at hnx2 hnp hnn1 ⊢
              go_wp2
              · rename_i hbig
                have hgr : nv ((numSpan q).take (k + 1)) < -576460752303423488 := by rw [hnx2]; rw [tdiv_is hd9] at hbig; push_cast; omega
                have hno := numI_great hlo hhi hgr
                go_ret
                unfold NumOut
                exact ⟨hM2.set, 0, i + m, true, rfl, hR2.worse, by omega, hims, by omega, by omega, Or.inr ⟨rfl, by rw [hq]; exact hno⟩⟩
              · go_roundg (gk - 1)
                case measure => have := hkm.out; omega
                case rel => exact ⟨k + 1, by push_cast; rw [Int.add_assoc], by rw [hnx2]; push_cast; rfl, Hid.mk (by have := hkm.out; omega), Hid.mk (by rw [hnx2]; rename_i hbig; rw [tdiv_is hd9] at hbig; push_cast; omega), rfl⟩
          · have hk := hkm.out
            obtain rfl : k = m := by omega
            have hikm : ¬ ((i : Int) + k < i + k) := by omega
            have hat := numI_at (lo := lo) (hi := hi) (q := q) (m := k) (by omega) (by omega) hMm.out.2.1 hex2.out
            have hnvv := numVal_nv (q := q) (m := k) hMm.out.1 hMm.out.2.1
            rw [if_pos (of_decide_eq_true hsg)] at hnvv
            have hnp := (nv_take (span_all q) k).2
            have hnn2 := hnn.out
            have hpt := tx_part s i k
            rw [hq] at hpt
            have hst := tx_size (q.take k)
            have hsz := tx_size s
            have hto : ((i : Int) + k).toNat = i + k := by omega
            rw [hnvv] at hat
            generalize nv ((numSpan q).take k) = v at *
            clear hnvv hx hil2 hwi hwm him hnn hdc hdg hnx
            go_upto_region 19 with fail
            by_cases hvl : v < lo
            · skip
              refine region_up (W := w2) (by kernel_rfl) (by kernel_rfl) (Up.refl _) ?_
              refine quiet_value (v := .pointer (some ⟨p, 0, none⟩)) rfl (fun _ _ => rfl) ?_
              simp only [Act.put, List.setIfInBounds_toArray, List.set_cons_zero, List.set_cons_succ]
              refine quiet_value (v := .pointer (some ⟨p, 0, none⟩)) rfl (fun _ _ => (by go_simp)) ?_
              simp only [Act.put, List.setIfInBounds_toArray, List.set_cons_zero, List.set_cons_succ]
              refine quiet_value (v := .pointer (some ⟨p, 2, none⟩)) rfl (fun _ _ => (by go_simp)) ?_
              simp only [Act.put, List.setIfInBounds_toArray, List.set_cons_zero, List.set_cons_succ]
              refine quiet_value (v := .bool false) rfl (fun W h => (by have u0 := cell_below h.out _ _ _ d2; go_simp)) ?_
              simp only [Act.put, List.setIfInBounds_toArray, List.set_cons_zero, List.set_cons_succ]
              refine quiet_value (v := .bool false) rfl (fun _ _ => rfl) ?_
              simp only [Act.put, List.setIfInBounds_toArray, List.set_cons_zero, List.set_cons_succ]
              refine quiet_value (v := .int .i64 v) rfl (fun _ _ => rfl) ?_
              simp only [Act.put, List.setIfInBounds_toArray, List.set_cons_zero, List.set_cons_succ]
              refine quiet_value (v := .int .i64 lo) rfl (fun _ _ => rfl) ?_
              simp only [Act.put, List.setIfInBounds_toArray, List.set_cons_zero, List.set_cons_succ]
              refine quiet_value (v := .bool true) rfl (fun _ _ => (by go_simp)) ?_
              simp only [Act.put, List.setIfInBounds_toArray, List.set_cons_zero, List.set_cons_succ]
              refine quiet_value (v := .bool true) rfl (fun _ _ => (by go_simp)) ?_
              simp only [Act.put, List.setIfInBounds_toArray, List.set_cons_zero, List.set_cons_succ]
              refine quiet_value (v := .bool true) rfl (fun _ _ => rfl) ?_
              simp only [Act.put, List.setIfInBounds_toArray, List.set_cons_zero, List.set_cons_succ]
              refine quiet_not rfl ?_
              simp only [Act.put, List.setIfInBounds_toArray, List.set_cons_zero, List.set_cons_succ]
              refine quiet_not rfl ?_
              simp only [Act.put, List.setIfInBounds_toArray, List.set_cons_zero, List.set_cons_succ]
              refine quiet_not rfl ?_
              simp only [Act.put, List.setIfInBounds_toArray, List.set_cons_zero, List.set_cons_succ]
              refine quiet_value (v := .bool true) rfl (fun _ _ => (by go_simp)) ?_
              simp only [Act.put, List.setIfInBounds_toArray, List.set_cons_zero, List.set_cons_succ]
              refine quiet_value (v := .bool true) rfl (fun _ _ => rfl) ?_
              simp only [Act.put, List.setIfInBounds_toArray, List.set_cons_zero, List.set_cons_succ]
              refine quiet_not rfl ?_
              simp only [Act.put, List.setIfInBounds_toArray, List.set_cons_zero, List.set_cons_succ]
              refine quiet_not rfl ?_
              simp only [Act.put, List.setIfInBounds_toArray, List.set_cons_zero, List.set_cons_succ]
              refine quiet_not rfl ?_
              simp only [Act.put, List.setIfInBounds_toArray, List.set_cons_zero, List.set_cons_succ]
              refine quiet_not rfl ?_
              simp only [Act.put, List.setIfInBounds_toArray, List.set_cons_zero, List.set_cons_succ]
              refine quiet_not rfl ?_
              simp only [Act.put, List.setIfInBounds_toArray, List.set_cons_zero, List.set_cons_succ]
              refine quiet_not rfl ?_
              simp only [Act.put, List.setIfInBounds_toArray, List.set_cons_zero, List.set_cons_succ]
              refine quiet_not rfl ?_
              simp only [Act.put, List.setIfInBounds_toArray, List.set_cons_zero, List.set_cons_succ]
              refine quiet_not rfl ?_
              simp only [Act.put, List.setIfInBounds_toArray, List.set_cons_zero, List.set_cons_succ]
              refine quiet_not rfl ?_
              simp only [Act.put, List.setIfInBounds_toArray, List.set_cons_zero, List.set_cons_succ]
              refine quiet_not rfl ?_
              simp only [Act.put, List.setIfInBounds_toArray, List.set_cons_zero, List.set_cons_succ]
              refine quiet_not rfl ?_
              simp only [Act.put, List.setIfInBounds_toArray, List.set_cons_zero, List.set_cons_succ]
              refine quiet_not rfl ?_
              simp only [Act.put, List.setIfInBounds_toArray, List.set_cons_zero, List.set_cons_succ]
              refine quiet_not rfl ?_
              simp only [Act.put, List.setIfInBounds_toArray, List.set_cons_zero, List.set_cons_succ]
              refine quiet_value (v := .bool true) rfl (fun _ _ => (by go_simp)) ?_
              simp only [Act.put, List.setIfInBounds_toArray, List.set_cons_zero, List.set_cons_succ]
              refine quiet_nil ?_
              intro w3 hw3
              have hR3 := hR2.below hw3.out
              obtain ⟨⟨d0, d1, d2⟩, g0, g1, g2⟩ := hR3.cells
              go_wp2
              go_ret
              unfold NumOut
              exact ⟨(hM2.trans (Mv.up hw3.out)).set, 0, i + k, true, rfl, hR3.worse, by omega, hims, by omega, by omega, Or.inr ⟨rfl, by rw [hq, hat]; exact if_neg fun h => absurd h.1 (by omega)⟩⟩
            · by_cases hvh : v > hi
              · skip
                refine region_up (W := w2) (by kernel_rfl) (by kernel_rfl) (Up.refl _) ?_
                refine quiet_value (v := .pointer (some ⟨p, 0, none⟩)) rfl (fun _ _ => rfl) ?_
                simp only [Act.put, List.setIfInBounds_toArray, List.set_cons_zero, List.set_cons_succ]
                refine quiet_value (v := .pointer (some ⟨p, 0, none⟩)) rfl (fun _ _ => (by go_simp)) ?_
                simp only [Act.put, List.setIfInBounds_toArray, List.set_cons_zero, List.set_cons_succ]
                refine quiet_value (v := .pointer (some ⟨p, 2, none⟩)) rfl (fun _ _ => (by go_simp)) ?_
                simp only [Act.put, List.setIfInBounds_toArray, List.set_cons_zero, List.set_cons_succ]
                refine quiet_value (v := .bool false) rfl (fun W h => (by have u0 := cell_below h.out _ _ _ d2; go_simp)) ?_
                simp only [Act.put, List.setIfInBounds_toArray, List.set_cons_zero, List.set_cons_succ]
                refine quiet_value (v := .bool false) rfl (fun _ _ => rfl) ?_
                simp only [Act.put, List.setIfInBounds_toArray, List.set_cons_zero, List.set_cons_succ]
                refine quiet_value (v := .int .i64 v) rfl (fun _ _ => rfl) ?_
                simp only [Act.put, List.setIfInBounds_toArray, List.set_cons_zero, List.set_cons_succ]
                refine quiet_value (v := .int .i64 lo) rfl (fun _ _ => rfl) ?_
                simp only [Act.put, List.setIfInBounds_toArray, List.set_cons_zero, List.set_cons_succ]
                refine quiet_value (v := .bool false) rfl (fun _ _ => (by go_simp)) ?_
                simp only [Act.put, List.setIfInBounds_toArray, List.set_cons_zero, List.set_cons_succ]
                refine quiet_value (v := .bool false) rfl (fun _ _ => (by go_simp)) ?_
                simp only [Act.put, List.setIfInBounds_toArray, List.set_cons_zero, List.set_cons_succ]
                refine quiet_value (v := .bool false) rfl (fun _ _ => rfl) ?_
                simp only [Act.put, List.setIfInBounds_toArray, List.set_cons_zero, List.set_cons_succ]
                refine quiet_value (v := .int .i64 v) rfl (fun _ _ => rfl) ?_
                simp only [Act.put, List.setIfInBounds_toArray, List.set_cons_zero, List.set_cons_succ]
                refine quiet_value (v := .int .i64 hi) rfl (fun _ _ => rfl) ?_
                simp only [Act.put, List.setIfInBounds_toArray, List.set_cons_zero, List.set_cons_succ]
                refine quiet_value (v := .bool true) rfl (fun _ _ => (by go_simp)) ?_
                simp only [Act.put, List.setIfInBounds_toArray, List.set_cons_zero, List.set_cons_succ]
                refine quiet_value (v := .bool true) rfl (fun _ _ => (by go_simp)) ?_
                simp only [Act.put, List.setIfInBounds_toArray, List.set_cons_zero, List.set_cons_succ]
                refine quiet_value (v := .bool true) rfl (fun _ _ => rfl) ?_
                simp only [Act.put, List.setIfInBounds_toArray, List.set_cons_zero, List.set_cons_succ]
                refine quiet_not rfl ?_
                simp only [Act.put, List.setIfInBounds_toArray, List.set_cons_zero, List.set_cons_succ]
                refine quiet_not rfl ?_
                simp only [Act.put, List.setIfInBounds_toArray, List.set_cons_zero, List.set_cons_succ]
                refine quiet_not rfl ?_
                simp only [Act.put, List.setIfInBounds_toArray, List.set_cons_zero, List.set_cons_succ]
                refine quiet_not rfl ?_
                simp only [Act.put, List.setIfInBounds_toArray, List.set_cons_zero, List.set_cons_succ]
                refine quiet_not rfl ?_
                simp only [Act.put, List.setIfInBounds_toArray, List.set_cons_zero, List.set_cons_succ]
                refine quiet_not rfl ?_
                simp only [Act.put, List.setIfInBounds_toArray, List.set_cons_zero, List.set_cons_succ]
                refine quiet_not rfl ?_
                simp only [Act.put, List.setIfInBounds_toArray, List.set_cons_zero, List.set_cons_succ]
                refine quiet_not rfl ?_
                simp only [Act.put, List.setIfInBounds_toArray, List.set_cons_zero, List.set_cons_succ]
                refine quiet_not rfl ?_
                simp only [Act.put, List.setIfInBounds_toArray, List.set_cons_zero, List.set_cons_succ]
                refine quiet_not rfl ?_
                simp only [Act.put, List.setIfInBounds_toArray, List.set_cons_zero, List.set_cons_succ]
                refine quiet_not rfl ?_
                simp only [Act.put, List.setIfInBounds_toArray, List.set_cons_zero, List.set_cons_succ]
                refine quiet_not rfl ?_
                simp only [Act.put, List.setIfInBounds_toArray, List.set_cons_zero, List.set_cons_succ]
                refine quiet_not rfl ?_
                simp only [Act.put, List.setIfInBounds_toArray, List.set_cons_zero, List.set_cons_succ]
                refine quiet_value (v := .bool true) rfl (fun _ _ => (by go_simp)) ?_
                simp only [Act.put, List.setIfInBounds_toArray, List.set_cons_zero, List.set_cons_succ]
                refine quiet_nil ?_
                intro w3 hw3
                have hR3 := hR2.below hw3.out
                obtain ⟨⟨d0, d1, d2⟩, g0, g1, g2⟩ := hR3.cells
                go_wp2
                go_ret
                unfold NumOut
                exact ⟨(hM2.trans (Mv.up hw3.out)).set, 0, i + k, true, rfl, hR3.worse, by omega, hims, by omega, by omega, Or.inr ⟨rfl, by rw [hq, hat]; exact if_neg fun h => absurd h.2.1 (by omega)⟩⟩
              · by_cases hne : q.take k = dec v
                · skip
                  refine region_up (W := w2) (by kernel_rfl) (by kernel_rfl) (Up.refl _) ?_
                  refine quiet_value (v := .pointer (some ⟨p, 0, none⟩)) rfl (fun _ _ => rfl) ?_
                  simp only [Act.put, List.setIfInBounds_toArray, List.set_cons_zero, List.set_cons_succ]
                  refine quiet_value (v := .pointer (some ⟨p, 0, none⟩)) rfl (fun _ _ => (by go_simp)) ?_
                  simp only [Act.put, List.setIfInBounds_toArray, List.set_cons_zero, List.set_cons_succ]
                  refine quiet_value (v := .pointer (some ⟨p, 2, none⟩)) rfl (fun _ _ => (by go_simp)) ?_
                  simp only [Act.put, List.setIfInBounds_toArray, List.set_cons_zero, List.set_cons_succ]
                  refine quiet_value (v := .bool false) rfl (fun W h => (by have u0 := cell_below h.out _ _ _ d2; go_simp)) ?_
                  simp only [Act.put, List.setIfInBounds_toArray, List.set_cons_zero, List.set_cons_succ]
                  refine quiet_value (v := .bool false) rfl (fun _ _ => rfl) ?_
                  simp only [Act.put, List.setIfInBounds_toArray, List.set_cons_zero, List.set_cons_succ]
                  refine quiet_value (v := .int .i64 v) rfl (fun _ _ => rfl) ?_
                  simp only [Act.put, List.setIfInBounds_toArray, List.set_cons_zero, List.set_cons_succ]
                  refine quiet_value (v := .int .i64 lo) rfl (fun _ _ => rfl) ?_
                  simp only [Act.put, List.setIfInBounds_toArray, List.set_cons_zero, List.set_cons_succ]
                  refine quiet_value (v := .bool false) rfl (fun _ _ => (by go_simp)) ?_
                  simp only [Act.put, List.setIfInBounds_toArray, List.set_cons_zero, List.set_cons_succ]
                  refine quiet_value (v := .bool false) rfl (fun _ _ => (by go_simp)) ?_
                  simp only [Act.put, List.setIfInBounds_toArray, List.set_cons_zero, List.set_cons_succ]
                  refine quiet_value (v := .bool false) rfl (fun _ _ => rfl) ?_
                  simp only [Act.put, List.setIfInBounds_toArray, List.set_cons_zero, List.set_cons_succ]
                  refine quiet_value (v := .int .i64 v) rfl (fun _ _ => rfl) ?_
                  simp only [Act.put, List.setIfInBounds_toArray, List.set_cons_zero, List.set_cons_succ]
                  refine quiet_value (v := .int .i64 hi) rfl (fun _ _ => rfl) ?_
                  simp only [Act.put, List.setIfInBounds_toArray, List.set_cons_zero, List.set_cons_succ]
                  refine quiet_value (v := .bool false) rfl (fun _ _ => (by go_simp)) ?_
                  simp only [Act.put, List.setIfInBounds_toArray, List.set_cons_zero, List.set_cons_succ]
                  refine quiet_value (v := .bool false) rfl (fun _ _ => (by go_simp)) ?_
                  simp only [Act.put, List.setIfInBounds_toArray, List.set_cons_zero, List.set_cons_succ]
                  refine quiet_value (v := .bool false) rfl (fun _ _ => rfl) ?_
                  simp only [Act.put, List.setIfInBounds_toArray, List.set_cons_zero, List.set_cons_succ]
                  refine quiet_value (v := .pointer (some ⟨p, 0, none⟩)) rfl (fun _ _ => rfl) ?_
                  simp only [Act.put, List.setIfInBounds_toArray, List.set_cons_zero, List.set_cons_succ]
                  refine quiet_value (v := .pointer (some ⟨p, 0, none⟩)) rfl (fun _ _ => (by go_simp)) ?_
                  simp only [Act.put, List.setIfInBounds_toArray, List.set_cons_zero, List.set_cons_succ]
                  refine quiet_value (v := .pointer (some ⟨p, 0, none⟩)) rfl (fun _ _ => (by go_simp)) ?_
                  simp only [Act.put, List.setIfInBounds_toArray, List.set_cons_zero, List.set_cons_succ]
                  refine quiet_value (v := .string (tx s)) rfl (fun W h => (by have u0 := cell_below h.out _ _ _ d0; go_simp)) ?_
                  simp only [Act.put, List.setIfInBounds_toArray, List.set_cons_zero, List.set_cons_succ]
                  refine quiet_value (v := .int .i64 i) rfl (fun _ _ => rfl) ?_
                  simp only [Act.put, List.setIfInBounds_toArray, List.set_cons_zero, List.set_cons_succ]
                  refine quiet_value (v := .pointer (some ⟨p, 0, none⟩)) rfl (fun _ _ => rfl) ?_
                  simp only [Act.put, List.setIfInBounds_toArray, List.set_cons_zero, List.set_cons_succ]
                  refine quiet_value (v := .pointer (some ⟨p, 0, none⟩)) rfl (fun _ _ => (by go_simp)) ?_
                  simp only [Act.put, List.setIfInBounds_toArray, List.set_cons_zero, List.set_cons_succ]
                  refine quiet_value (v := .pointer (some ⟨p, 1, none⟩)) rfl (fun _ _ => (by go_simp)) ?_
                  simp only [Act.put, List.setIfInBounds_toArray, List.set_cons_zero, List.set_cons_succ]
                  refine quiet_value (v := .int .i64 ((i + k : Nat) : Int)) rfl (fun W h => (by have u0 := cell_below h.out _ _ _ d1; go_simp)) ?_
                  simp only [Act.put, List.setIfInBounds_toArray, List.set_cons_zero, List.set_cons_succ]
                  refine quiet_value (v := .string (tx (q.take k))) rfl (fun _ _ => (by go_simp; rw [if_pos ⟨by omega, by omega⟩, if_pos (by omega)])) ?_
                  simp only [Act.put, List.setIfInBounds_toArray, List.set_cons_zero, List.set_cons_succ]
                  refine quiet_value (v := .int .i64 v) rfl (fun _ _ => rfl) ?_
                  simp only [Act.put, List.setIfInBounds_toArray, List.set_cons_zero, List.set_cons_succ]
                  refine quiet_call (v := .string (tx (dec v))) rfl (fun W => (by go_simp)) (fun W h => (dec_up v (by omega) (by omega) W).mono fun e w' ⟨he, hb⟩ => ⟨he, h.call hb⟩) ?_
                  simp only [Act.put, List.setIfInBounds_toArray, List.set_cons_zero, List.set_cons_succ]
                  refine quiet_value (v := .bool false) rfl (fun _ _ => (by go_simp)) ?_
                  simp only [Act.put, List.setIfInBounds_toArray, List.set_cons_zero, List.set_cons_succ]
                  refine quiet_value (v := .bool false) rfl (fun _ _ => (by go_simp)) ?_
                  simp only [Act.put, List.setIfInBounds_toArray, List.set_cons_zero, List.set_cons_succ]
                  refine quiet_nil ?_
                  intro w3 hw3
                  have hR3 := hR2.below hw3.out
                  go_wp2
                  go_ret
                  unfold NumOut
                  exact ⟨hM2.trans (Mv.up hw3.out), v, i + k, false, rfl, hR3, by omega, hims, by omega, by omega, Or.inl ⟨rfl, by rw [hq, hat, if_pos ⟨by omega, by omega, hne⟩, ← hq, List.drop_drop]⟩⟩
                · have hne2 : ¬ (tx (q.take k)).toList = (tx (dec v)).toList := by rw [tx_toList, tx_toList]; exact hne
                  have hne' : ¬ tx (q.take k) = tx (dec v) := fun e => hne ((tx_eq _ _).1 e)
                  refine region_up (W := w2) (by kernel_rfl) (by kernel_rfl) (Up.refl _) ?_
                  refine quiet_value (v := .pointer (some ⟨p, 0, none⟩)) rfl (fun _ _ => rfl) ?_
                  simp only [Act.put, List.setIfInBounds_toArray, List.set_cons_zero, List.set_cons_succ]
                  refine quiet_value (v := .pointer (some ⟨p, 0, none⟩)) rfl (fun _ _ => (by go_simp)) ?_
                  simp only [Act.put, List.setIfInBounds_toArray, List.set_cons_zero, List.set_cons_succ]
                  refine quiet_value (v := .pointer (some ⟨p, 2, none⟩)) rfl (fun _ _ => (by go_simp)) ?_
                  simp only [Act.put, List.setIfInBounds_toArray, List.set_cons_zero, List.set_cons_succ]
                  refine quiet_value (v := .bool false) rfl (fun W h => (by have u0 := cell_below h.out _ _ _ d2; go_simp)) ?_
                  simp only [Act.put, List.setIfInBounds_toArray, List.set_cons_zero, List.set_cons_succ]
                  refine quiet_value (v := .bool false) rfl (fun _ _ => rfl) ?_
                  simp only [Act.put, List.setIfInBounds_toArray, List.set_cons_zero, List.set_cons_succ]
                  refine quiet_value (v := .int .i64 v) rfl (fun _ _ => rfl) ?_
                  simp only [Act.put, List.setIfInBounds_toArray, List.set_cons_zero, List.set_cons_succ]
                  refine quiet_value (v := .int .i64 lo) rfl (fun _ _ => rfl) ?_
                  simp only [Act.put, List.setIfInBounds_toArray, List.set_cons_zero, List.set_cons_succ]
                  refine quiet_value (v := .bool false) rfl (fun _ _ => (by go_simp)) ?_
                  simp only [Act.put, List.setIfInBounds_toArray, List.set_cons_zero, List.set_cons_succ]
                  refine quiet_value (v := .bool false) rfl (fun _ _ => (by go_simp)) ?_
                  simp only [Act.put, List.setIfInBounds_toArray, List.set_cons_zero, List.set_cons_succ]
                  refine quiet_value (v := .bool false) rfl (fun _ _ => rfl) ?_
                  simp only [Act.put, List.setIfInBounds_toArray, List.set_cons_zero, List.set_cons_succ]
                  refine quiet_value (v := .int .i64 v) rfl (fun _ _ => rfl) ?_
                  simp only [Act.put, List.setIfInBounds_toArray, List.set_cons_zero, List.set_cons_succ]
                  refine quiet_value (v := .int .i64 hi) rfl (fun _ _ => rfl) ?_
                  simp only [Act.put, List.setIfInBounds_toArray, List.set_cons_zero, List.set_cons_succ]
                  refine quiet_value (v := .bool false) rfl (fun _ _ => (by go_simp)) ?_
                  simp only [Act.put, List.setIfInBounds_toArray, List.set_cons_zero, List.set_cons_succ]
                  refine quiet_value (v := .bool false) rfl (fun _ _ => (by go_simp)) ?_
                  simp only [Act.put, List.setIfInBounds_toArray, List.set_cons_zero, List.set_cons_succ]
                  refine quiet_value (v := .bool false) rfl (fun _ _ => rfl) ?_
                  simp only [Act.put, List.setIfInBounds_toArray, List.set_cons_zero, List.set_cons_succ]
                  refine quiet_value (v := .pointer (some ⟨p, 0, none⟩)) rfl (fun _ _ => rfl) ?_
                  simp only [Act.put, List.setIfInBounds_toArray, List.set_cons_zero, List.set_cons_succ]
                  refine quiet_value (v := .pointer (some ⟨p, 0, none⟩)) rfl (fun _ _ => (by go_simp)) ?_
                  simp only [Act.put, List.setIfInBounds_toArray, List.set_cons_zero, List.set_cons_succ]
                  refine quiet_value (v := .pointer (some ⟨p, 0, none⟩)) rfl (fun _ _ => (by go_simp)) ?_
                  simp only [Act.put, List.setIfInBounds_toArray, List.set_cons_zero, List.set_cons_succ]
                  refine quiet_value (v := .string (tx s)) rfl (fun W h => (by have u0 := cell_below h.out _ _ _ d0; go_simp)) ?_
                  simp only [Act.put, List.setIfInBounds_toArray, List.set_cons_zero, List.set_cons_succ]
                  refine quiet_value (v := .int .i64 i) rfl (fun _ _ => rfl) ?_
                  simp only [Act.put, List.setIfInBounds_toArray, List.set_cons_zero, List.set_cons_succ]
                  refine quiet_value (v := .pointer (some ⟨p, 0, none⟩)) rfl (fun _ _ => rfl) ?_
                  simp only [Act.put, List.setIfInBounds_toArray, List.set_cons_zero, List.set_cons_succ]
                  refine quiet_value (v := .pointer (some ⟨p, 0, none⟩)) rfl (fun _ _ => (by go_simp)) ?_
                  simp only [Act.put, List.setIfInBounds_toArray, List.set_cons_zero, List.set_cons_succ]
                  refine quiet_value (v := .pointer (some ⟨p, 1, none⟩)) rfl (fun _ _ => (by go_simp)) ?_
                  simp only [Act.put, List.setIfInBounds_toArray, List.set_cons_zero, List.set_cons_succ]
                  refine quiet_value (v := .int .i64 ((i + k : Nat) : Int)) rfl (fun W h => (by have u0 := cell_below h.out _ _ _ d1; go_simp)) ?_
                  simp only [Act.put, List.setIfInBounds_toArray, List.set_cons_zero, List.set_cons_succ]
                  refine quiet_value (v := .string (tx (q.take k))) rfl (fun _ _ => (by go_simp; rw [if_pos ⟨by omega, by omega⟩, if_pos (by omega)])) ?_
                  simp only [Act.put, List.setIfInBounds_toArray, List.set_cons_zero, List.set_cons_succ]
                  refine quiet_value (v := .int .i64 v) rfl (fun _ _ => rfl) ?_
                  simp only [Act.put, List.setIfInBounds_toArray, List.set_cons_zero, List.set_cons_succ]
                  refine quiet_call (v := .string (tx (dec v))) rfl (fun W => (by go_simp)) (fun W h => (dec_up v (by omega) (by omega) W).mono fun e w' ⟨he, hb⟩ => ⟨he, h.call hb⟩) ?_
                  simp only [Act.put, List.setIfInBounds_toArray, List.set_cons_zero, List.set_cons_succ]
                  refine quiet_value (v := .bool true) rfl (fun _ _ => (by go_simp)) ?_
                  simp only [Act.put, List.setIfInBounds_toArray, List.set_cons_zero, List.set_cons_succ]
                  refine quiet_value (v := .bool true) rfl (fun _ _ => (by go_simp)) ?_
                  simp only [Act.put, List.setIfInBounds_toArray, List.set_cons_zero, List.set_cons_succ]
                  refine quiet_nil ?_
                  intro w3 hw3
                  have hR3 := hR2.below hw3.out
                  obtain ⟨⟨d0, d1, d2⟩, g0, g1, g2⟩ := hR3.cells
                  go_wp2
                  go_ret
                  unfold NumOut
                  exact ⟨(hM2.trans (Mv.up hw3.out)).set, 0, i + k, true, rfl, hR3.worse, by omega, hims, by omega, by omega, Or.inr ⟨rfl, by rw [hq, hat]; exact if_neg fun h => hne h.2.2⟩⟩

end Go.Proofs.YtnbekfpkmebmbaaGreatDoor
