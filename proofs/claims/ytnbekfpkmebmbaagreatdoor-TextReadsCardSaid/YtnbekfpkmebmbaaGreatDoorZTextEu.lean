/-
  The reader of the document's answers: atoms in quotes.
-/
import Derived.Test.YtnbekfpkmebmbaaGreatDoorZTextEo
import Derived.Lib.AppendZeros
namespace Go.Proofs.YtnbekfpkmebmbaaGreatDoor
open Go.RowKit Go.Deep

theorem keep4 {p B j : Nat} {s O : List UInt8} {w wr w3 : World} {v : Value} {b : Bool} (hR : Rd wr p s j b) (hM : Mv p w wr) (hbox : wr.heap[w.heap.size]? = some zeroTerm) (hO : Obs B O v wr) (h : Below wr.heap.size wr w3) :
    Rd w3 p s j b ∧ Mv p w w3 ∧ w3.heap[w.heap.size]? = some zeroTerm ∧ Obs B O v w3 :=
  ⟨hR.below h, hM.trans (Mv.up h), (h.block _ (Array.getElem?_eq_some_iff.1 hbox).1).trans hbox, hO.below h⟩
theorem put4_at {p B j : Nat} {s O : List UInt8} {w wr W : World} {v : Value} {b : Bool} (hR : Rd wr p s j b) (hM : Mv p w wr) (hbox : wr.heap[w.heap.size]? = some zeroTerm) (hO : Obs B O v wr) (hp : p < w.heap.size) (hB : p < B) (j1 : Nat) (hW : wr.setCell ⟨p, 1, none⟩ (.int .i64 j1) = W) :
    Rd W p s j1 b ∧ Mv p w W ∧ W.heap[w.heap.size]? = some zeroTerm ∧ Obs B O v W := by
  subst hW
  exact ⟨hR.at j1, hM.set, (Below.heap_setCell _ _ _ _ (by show w.heap.size ≠ p; omega)).trans hbox, hO.mv (Mv.refl p wr).set hB⟩
/-- A byte appended: what is so behind it. -/
theorem app_byte {p j : Nat} {s O : List UInt8} {w W V : World} {v : Value} (c : UInt8) (hV : W.alloc (.cells #[.int .u8 c.toNat] 5) = V) (hR : Rd W p s j false) (hM : Mv p w W) (hbox : W.heap[w.heap.size]? = some zeroTerm) (hO : Obs (w.heap.size + 1) O v W) (hp : p < w.heap.size) (hl : O.length ≤ 2000000) (ty : TypeId) :
    ∃ v' w', (Builtin.append_ #[64, 64] ty #[v, .slice (some ⟨W.heap.size, 0, none⟩) 1 1]).run Tryz.prog V = .ok v' w' ∧ Obs (w.heap.size + 1) (O ++ [c]) v' w' ∧ Rd w' p s j false ∧ w'.heap[w.heap.size]? = some zeroTerm ∧ Mv p w w' := by
  have hbV : Below W.heap.size W V := by rw [← hV]; exact (Up.refl W).alloc.out
  have hxV : V.heap[W.heap.size]? = some (.cells #[.int .u8 c.toNat] 5) := by rw [← hV]; exact new_block _ _
  obtain ⟨hR2, hM2, hb2, hO2⟩ := keep4 hR hM hbox hO hbV
  have hlt := (Array.getElem?_eq_some_iff.1 hb2).1
  obtain ⟨v', w', hr, hO', hg⟩ := hO2.append (by omega) c W.heap.size (by simp [World.cell?, hxV]) hl ty
  refine ⟨v', w', hr, hO', ?_, ?_, ?_⟩
  · exact (hg.block p (Nat.lt_trans hp hlt) (fun e => by have := hO2.own p e.symm; omega)).trans hR2
  · exact (hg.block _ hlt (fun e => by have := hO2.own _ e.symm; omega)).trans hb2
  · have hbk : ∀ k, k < w.heap.size → k ≠ p → w'.heap[k]? = w.heap[k]? := fun k h1 h2 =>
      (hg.block k (Nat.lt_trans h1 hlt) (fun e => by have := hO2.own k e.symm; omega)).trans (hM2.block k h1 h2)
    exact ⟨hg.os.trans hM2.os, hg.tape.trans hM2.tape, hg.output.trans hM2.output, Nat.le_trans hM2.size hg.size, hbk⟩
theorem textAtom_any (O : List UInt8) (h : O.length ≤ 64) (w : World) : Calls Tryz.prog 54 #[.agg #[.int .i64 2, .int .i64 0, .string (tx O), .slice none 0 0]] w fun e w' => e = .returned (.string (tx (atomT O))) ∧ Below w.heap.size w w' := by
  have ht := text_any (.mk 2 0 (tx O) []) (by simp [Tm.size_mk, sizes]) (atom_fits h) (fun _ => True) (.agg #[.int .i64 2, .int .i64 0, .string (tx O), .slice none 0 0]) w (sym_is w _ (tx O) (by rw [tx_size]; omega))
  rw [text_k2, tx_toList] at ht
  exact ht
theorem quo_out {p : Nat} {s O Z : List UInt8} {w W : World} {i j : Nat} (b : Bool) (hR : Rd W p s j b) (hM : Mv p w W) (hp : p < w.heap.size) (hO : O.length ≤ 2000000) (hj : i ≤ j ∧ j ≤ s.length + 1)
    (ho : (b = false ∧ j ≤ s.length ∧ quoP Z = some (O, s.drop j)) ∨ (b = true ∧ quoP Z = none)) :
    Out p s i w (atomM (quoP Z)) (.returned (.agg #[.int .i64 2, .int .i64 0, .string (tx O), .slice none 0 0])) ((((W.setCell ⟨w.heap.size, 0, none⟩ (.int .i64 2)).setCell ⟨w.heap.size, 1, none⟩ (.int .i64 0)).setCell ⟨w.heap.size, 2, none⟩ (.string (tx O))).setCell ⟨w.heap.size, 3, none⟩ (.slice none 0 0)) := by
  refine ⟨hM.beside (Nat.le_refl _), .mk 2 0 (tx O) [], _, j, b, rfl, ?_, (set4_heap _ _ _ _ _ _ _ (by omega)).trans hR, hj.1, hj.2, ?_⟩
  · exact sym_is _ _ (tx O) (by rw [tx_size]; omega)
  · rcases ho with ⟨rfl, h1, h2⟩ | ⟨rfl, h2⟩
    · exact Or.inl ⟨rfl, h1, by rw [h2]; rfl⟩
    · exact Or.inr ⟨rfl, by rw [h2]; rfl⟩

set_option maxRecDepth 100000 in
set_option maxHeartbeats 8000000 in
theorem quotedE_any (p : Nat) (s : List UInt8) (i : Nat) (w : World) (h : Rd w p s i false) (hs : s.length ≤ 1000000) (Z : List UInt8) (hZ : s.drop i = 39 :: Z) :
    Calls Tryz.prog 26 #[.pointer (some ⟨p, 0, none⟩)] w (Out p s i w (atomM (quoP Z))) := by
  have hil : i + 1 ≤ s.length := by have := congrArg List.length hZ; simp at this; omega
  have hg : goesOn s i [39] = true := (goesOn_is s i [39]).2 ⟨Z, hZ⟩
  obtain ⟨W0, hW0⟩ : ∃ W0, w.alloc zeroTerm = W0 := ⟨_, rfl⟩
  have hbox0 : W0.heap[w.heap.size]? = some zeroTerm := by rw [← hW0]; exact new_block w _
  have hu0 : Up w W0 := by rw [← hW0]; exact (Up.refl w).alloc
  have hR0 := h.below hu0.out
  have hpw := h.lt
  have hZH := Hid.mk hZ
  have hilH := Hid.mk hil
  have hsz := tx_size s
  have hne : ¬ w.heap.size = p := by omega
  have hE1 := Hid.mk (fun w1 h1 => eat_yes p s [39] i w1 h1 (by omega) (by omega) (by simp) (by simp) hg)
  obtain ⟨⟨c0, c1, c2⟩, f0, f1, f2⟩ := hR0.cells
  go_enter Tryz.func26, Tryz.ntmps26
  go_wp2_with (first
    | (go_at_call 31; refine (hE1.out _ hR0).mono ?_; rintro e w1 ⟨rfl, h1, m1⟩; have hM1 := (Mv.up hu0).trans m1; have hbox1 := m1.box hbox0 hne))
  clear c0 c1 c2 f0 f1 f2
  have h1' : Rd w1 p s (i + 1) false := h1
  clear h1
  go_loopg [4] (s.length - i) (fun g ov wr => ∃ (j : Nat) (O : List UInt8), Hid (j + g = s.length + 1 ∧ i + 1 ≤ j ∧ O.length ≤ j) ∧ Obs (w.heap.size + 1) O ov wr ∧ Rd wr p s j false ∧ wr.heap[w.heap.size]? = some zeroTerm ∧ Mv p w wr ∧ Hid (Half Z O (s.drop j)))
  case atStart => exact ⟨i + 1, [], Hid.mk (by simp; omega), World.ownsRow_nil _ _ _ _, h1', hbox1, hM1, Hid.mk (by rw [← List.drop_drop, hZ]; exact half_start Z)⟩
  case round =>
    clear hR0 hbox0 h1' hbox1 hM1 hZ hil hg hW0 hu0 m1 h hE1
    obtain ⟨j, O, hjH, hO, hR, hbox, hM, hH⟩ := hrel
    obtain ⟨⟨c0, c1, c2⟩, f0, f1, f2⟩ := hR.cells
    have hOl : Hid (O.length ≤ 2000000) := Hid.mk (by have := hjH.out; omega)
    have hOl2 : Hid (O.length ≤ j) := Hid.mk (by have := hjH.out; omega)
    go_upto_region 4 with fail
    by_cases hlt : j < s.length
    · obtain ⟨c, hc⟩ : ∃ c, s[j]'hlt = c := ⟨_, rfl⟩
      have hjz : j < (tx s).size := by omega
      have hxc : (tx s)[j]'hjz = c := hc
      have hdj := Hid.mk (show s.drop j = c :: s.drop (j + 1) by rw [List.drop_eq_getElem_cons hlt, hc])
      by_cases h39 : c = 39
      · subst h39
        refine region_up (W := wr) (by kernel_rfl) (by kernel_rfl) (Up.refl _) ?_
        refine quiet_value (v := .pointer (some ⟨p, 0, none⟩)) rfl (fun _ _ => rfl) ?_
        simp only [Act.put, List.setIfInBounds_toArray, List.set_cons_zero, List.set_cons_succ]
        refine quiet_value (v := .pointer (some ⟨p, 0, none⟩)) rfl (fun _ _ => (by go_simp)) ?_
        simp only [Act.put, List.setIfInBounds_toArray, List.set_cons_zero, List.set_cons_succ]
        refine quiet_value (v := .pointer (some ⟨p, 2, none⟩)) rfl (fun _ _ => (by go_simp)) ?_
        simp only [Act.put, List.setIfInBounds_toArray, List.set_cons_zero, List.set_cons_succ]
        refine quiet_value (v := .bool false) rfl (fun W h => (by have u0 := cell_below h.out _ _ _ c2; go_simp)) ?_
        simp only [Act.put, List.setIfInBounds_toArray, List.set_cons_zero, List.set_cons_succ]
        refine quiet_value (v := .bool true) rfl (fun _ _ => (by go_simp)) ?_
        simp only [Act.put, List.setIfInBounds_toArray, List.set_cons_zero, List.set_cons_succ]
        refine quiet_value (v := .bool true) rfl (fun _ _ => rfl) ?_
        simp only [Act.put, List.setIfInBounds_toArray, List.set_cons_zero, List.set_cons_succ]
        refine quiet_value (v := .pointer (some ⟨p, 0, none⟩)) rfl (fun _ _ => rfl) ?_
        simp only [Act.put, List.setIfInBounds_toArray, List.set_cons_zero, List.set_cons_succ]
        refine quiet_value (v := .pointer (some ⟨p, 0, none⟩)) rfl (fun _ _ => (by go_simp)) ?_
        simp only [Act.put, List.setIfInBounds_toArray, List.set_cons_zero, List.set_cons_succ]
        refine quiet_value (v := .pointer (some ⟨p, 1, none⟩)) rfl (fun _ _ => (by go_simp)) ?_
        simp only [Act.put, List.setIfInBounds_toArray, List.set_cons_zero, List.set_cons_succ]
        refine quiet_value (v := .int .i64 j) rfl (fun W h => (by have u0 := cell_below h.out _ _ _ c1; go_simp)) ?_
        simp only [Act.put, List.setIfInBounds_toArray, List.set_cons_zero, List.set_cons_succ]
        refine quiet_value (v := .pointer (some ⟨p, 0, none⟩)) rfl (fun _ _ => rfl) ?_
        simp only [Act.put, List.setIfInBounds_toArray, List.set_cons_zero, List.set_cons_succ]
        refine quiet_value (v := .pointer (some ⟨p, 0, none⟩)) rfl (fun _ _ => (by go_simp)) ?_
        simp only [Act.put, List.setIfInBounds_toArray, List.set_cons_zero, List.set_cons_succ]
        refine quiet_value (v := .pointer (some ⟨p, 0, none⟩)) rfl (fun _ _ => (by go_simp)) ?_
        simp only [Act.put, List.setIfInBounds_toArray, List.set_cons_zero, List.set_cons_succ]
        refine quiet_value (v := .string (tx s)) rfl (fun W h => (by have u0 := cell_below h.out _ _ _ c0; go_simp)) ?_
        simp only [Act.put, List.setIfInBounds_toArray, List.set_cons_zero, List.set_cons_succ]
        refine quiet_value (v := .int .i64 s.length) rfl (fun _ _ => (by go_simp)) ?_
        simp only [Act.put, List.setIfInBounds_toArray, List.set_cons_zero, List.set_cons_succ]
        refine quiet_value (v := .bool true) rfl (fun _ _ => (by go_simp)) ?_
        simp only [Act.put, List.setIfInBounds_toArray, List.set_cons_zero, List.set_cons_succ]
        refine quiet_value (v := .bool true) rfl (fun _ _ => (by go_simp)) ?_
        simp only [Act.put, List.setIfInBounds_toArray, List.set_cons_zero, List.set_cons_succ]
        refine quiet_value (v := .bool true) rfl (fun _ _ => rfl) ?_
        simp only [Act.put, List.setIfInBounds_toArray, List.set_cons_zero, List.set_cons_succ]
        refine quiet_value (v := .pointer (some ⟨p, 0, none⟩)) rfl (fun _ _ => rfl) ?_
        simp only [Act.put, List.setIfInBounds_toArray, List.set_cons_zero, List.set_cons_succ]
        refine quiet_value (v := .pointer (some ⟨p, 0, none⟩)) rfl (fun _ _ => (by go_simp)) ?_
        simp only [Act.put, List.setIfInBounds_toArray, List.set_cons_zero, List.set_cons_succ]
        refine quiet_value (v := .pointer (some ⟨p, 0, none⟩)) rfl (fun _ _ => (by go_simp)) ?_
        simp only [Act.put, List.setIfInBounds_toArray, List.set_cons_zero, List.set_cons_succ]
        refine quiet_value (v := .string (tx s)) rfl (fun W h => (by have u0 := cell_below h.out _ _ _ c0; go_simp)) ?_
        simp only [Act.put, List.setIfInBounds_toArray, List.set_cons_zero, List.set_cons_succ]
        refine quiet_value (v := .pointer (some ⟨p, 0, none⟩)) rfl (fun _ _ => rfl) ?_
        simp only [Act.put, List.setIfInBounds_toArray, List.set_cons_zero, List.set_cons_succ]
        refine quiet_value (v := .pointer (some ⟨p, 0, none⟩)) rfl (fun _ _ => (by go_simp)) ?_
        simp only [Act.put, List.setIfInBounds_toArray, List.set_cons_zero, List.set_cons_succ]
        refine quiet_value (v := .pointer (some ⟨p, 1, none⟩)) rfl (fun _ _ => (by go_simp)) ?_
        simp only [Act.put, List.setIfInBounds_toArray, List.set_cons_zero, List.set_cons_succ]
        refine quiet_value (v := .int .i64 j) rfl (fun W h => (by have u0 := cell_below h.out _ _ _ c1; go_simp)) ?_
        simp only [Act.put, List.setIfInBounds_toArray, List.set_cons_zero, List.set_cons_succ]
        refine quiet_value (v := .int .u8 39) rfl (fun _ _ => (by go_simp)) ?_
        simp only [Act.put, List.setIfInBounds_toArray, List.set_cons_zero, List.set_cons_succ]
        refine quiet_value (v := .bool false) rfl (fun _ _ => (by go_simp)) ?_
        simp only [Act.put, List.setIfInBounds_toArray, List.set_cons_zero, List.set_cons_succ]
        refine quiet_value (v := .bool false) rfl (fun _ _ => (by go_simp)) ?_
        simp only [Act.put, List.setIfInBounds_toArray, List.set_cons_zero, List.set_cons_succ]
        refine quiet_nil ?_
        intro w3 hw3
        obtain ⟨hR3, hM3, hbox3, hO3⟩ := keep4 hR hM hbox hO hw3.out
        clear hR hM hbox hO hw3 c0 c1 c2 f0 f1 f2
        obtain ⟨⟨d0, d1, d2⟩, g0, g1, g2⟩ := hR3.cells
        obtain ⟨k, hk⟩ : ∃ k, j + 1 = i + k := ⟨j + 1 - i, by have := hjH.out; omega⟩
        have hkH := Hid.mk (show i ≤ i + k ∧ i + k ≤ s.length + 1 by omega)
        have hkL := Hid.mk (show i + k ≤ s.length by omega)
        have hHE := Hid.mk (show Half Z O (39 :: s.drop (j + 1)) by have := hH.out; rw [hdj.out] at this; exact this)
        have hkj := Hid.mk (show s.drop (j + 1) = s.drop (i + k) by rw [hk])
        obtain ⟨oa, ocap, rfl⟩ := hO3.slice
        have hE2 := Hid.mk (eat_yes p s [39] j w3 hR3 (by omega) (by omega) (by simp) (by simp) ((goesOn_is s j [39]).2 ⟨_, hdj.out⟩))
        have HO3 := Hid.mk hO3
        have HM3 := Hid.mk hM3
        have HX3 := Hid.mk hbox3
        clear hO3 hM3 hbox3 hR3 d0 d1 d2 g0 g1 g2
        go_upto_region 16 with (
          go_at_call 31
          refine hE2.out.mono ?_
          rintro e w5 ⟨rfl, h5, m5⟩
          have hcv := (HO3.out.mv m5 (by omega)).string
          have H5 := Hid.mk h5
          have M5 := Hid.mk m5
          clear h5 m5)
        obtain ⟨W6, hW6⟩ : ∃ W6, w5.alloc (.cells #[.int .i64 2, .int .i64 0, .string (tx O), .slice none 0 0] 24) = W6 := ⟨_, rfl⟩
        rw [hW6]
        have hb6 : Below w5.heap.size w5 W6 := (by rw [← hW6]; exact (Up.refl w5).alloc.out)
        have hx6 : W6.heap[w5.heap.size]? = some (.cells #[.int .i64 2, .int .i64 0, .string (tx O), .slice none 0 0] 24) := (by rw [← hW6]; exact new_block _ _)
        have hR6 : Rd W6 p s (i + k) false := (show Rd w5 p s (i + k) false from hk ▸ H5.out).below hb6
        have hM6 := (HM3.out.trans M5.out).trans (Mv.up hb6)
        have hbox6 := (hb6.block _ (Array.getElem?_eq_some_iff.1 (M5.out.box HX3.out hne)).1).trans (M5.out.box HX3.out hne)
        have HB6 := Hid.mk (show p < w5.heap.size from Nat.lt_of_lt_of_le hpw (HM3.out.trans M5.out).size)
        clear hb6 hW6
        have hsz2 := tx_size ((s.drop i).take k)
        have hpt := tx_part s i k
        have hki : ((i : Int) + k).toNat = i + k := by omega
        have hkl := hkL.out
        by_cases h64 : 64 < O.length
        · have hO64 := Hid.mk h64
          have h64i : (64 : Int) < O.length := by omega
          obtain ⟨⟨e0, e1, e2⟩, g0, g1, g2⟩ := hR6.cells
          obtain ⟨⟨p0, p1, p2, p3⟩, _⟩ := kept4 hx6 (Below.refl _ _)
          refine region_up (W := W6) (by kernel_rfl) (by kernel_rfl) (Up.refl _) ?_
          refine quiet_value (v := .pointer (some ⟨p, 0, none⟩)) rfl (fun _ _ => rfl) ?_
          simp only [Act.put, List.setIfInBounds_toArray, List.set_cons_zero, List.set_cons_succ]
          refine quiet_value (v := .pointer (some ⟨p, 0, none⟩)) rfl (fun _ _ => (by go_simp)) ?_
          simp only [Act.put, List.setIfInBounds_toArray, List.set_cons_zero, List.set_cons_succ]
          refine quiet_value (v := .pointer (some ⟨p, 2, none⟩)) rfl (fun _ _ => (by go_simp)) ?_
          simp only [Act.put, List.setIfInBounds_toArray, List.set_cons_zero, List.set_cons_succ]
          refine quiet_value (v := .bool false) rfl (fun W h => (by have u0 := cell_below h.out _ _ _ e2; go_simp)) ?_
          simp only [Act.put, List.setIfInBounds_toArray, List.set_cons_zero, List.set_cons_succ]
          refine quiet_value (v := .bool false) rfl (fun _ _ => rfl) ?_
          simp only [Act.put, List.setIfInBounds_toArray, List.set_cons_zero, List.set_cons_succ]
          refine quiet_value (v := .slice oa O.length ocap) rfl (fun _ _ => rfl) ?_
          simp only [Act.put, List.setIfInBounds_toArray, List.set_cons_zero, List.set_cons_succ]
          refine quiet_value (v := .int .i64 O.length) rfl (fun _ _ => (by go_simp)) ?_
          simp only [Act.put, List.setIfInBounds_toArray, List.set_cons_zero, List.set_cons_succ]
          refine quiet_value (v := .bool true) rfl (fun _ _ => (by go_simp)) ?_
          simp only [Act.put, List.setIfInBounds_toArray, List.set_cons_zero, List.set_cons_succ]
          refine quiet_value (v := .bool true) rfl (fun _ _ => (by go_simp)) ?_
          simp only [Act.put, List.setIfInBounds_toArray, List.set_cons_zero, List.set_cons_succ]
          refine quiet_value (v := .bool true) rfl (fun _ _ => rfl) ?_
          simp only [Act.put, List.setIfInBounds_toArray, List.set_cons_zero, List.set_cons_succ]
          refine quiet_not rfl ?_
          simp only [Act.put, List.setIfInBounds_toArray, List.set_cons_zero, List.set_cons_succ]
          refine quiet_not rfl ?_
          simp only [Act.put, List.setIfInBounds_toArray, List.set_cons_zero, List.set_cons_succ]
          refine quiet_not rfl ?_
          simp only [Act.put, List.setIfInBounds_toArray, List.set_cons_zero, List.set_cons_succ]
          refine quiet_not rfl ?_
          simp only [Act.put, List.setIfInBounds_toArray, List.set_cons_zero, List.set_cons_succ]
          refine quiet_not rfl ?_
          simp only [Act.put, List.setIfInBounds_toArray, List.set_cons_zero, List.set_cons_succ]
          refine quiet_not rfl ?_
          simp only [Act.put, List.setIfInBounds_toArray, List.set_cons_zero, List.set_cons_succ]
          refine quiet_not rfl ?_
          simp only [Act.put, List.setIfInBounds_toArray, List.set_cons_zero, List.set_cons_succ]
          refine quiet_not rfl ?_
          simp only [Act.put, List.setIfInBounds_toArray, List.set_cons_zero, List.set_cons_succ]
          refine quiet_not rfl ?_
          simp only [Act.put, List.setIfInBounds_toArray, List.set_cons_zero, List.set_cons_succ]
          refine quiet_not rfl ?_
          simp only [Act.put, List.setIfInBounds_toArray, List.set_cons_zero, List.set_cons_succ]
          refine quiet_not rfl ?_
          simp only [Act.put, List.setIfInBounds_toArray, List.set_cons_zero, List.set_cons_succ]
          refine quiet_not rfl ?_
          simp only [Act.put, List.setIfInBounds_toArray, List.set_cons_zero, List.set_cons_succ]
          refine quiet_not rfl ?_
          simp only [Act.put, List.setIfInBounds_toArray, List.set_cons_zero, List.set_cons_succ]
          refine quiet_value (v := .bool true) rfl (fun _ _ => (by go_simp)) ?_
          simp only [Act.put, List.setIfInBounds_toArray, List.set_cons_zero, List.set_cons_succ]
          refine quiet_nil ?_
          intro W7 hw7
          have hR7 := hR6.below hw7.out
          have hM7 := hM6.trans (Mv.up hw7.out)
          have hx7 := (hw7.out.block _ (Array.getElem?_eq_some_iff.1 hx6).1).trans hx6
          have hbox7 := (hw7.out.block _ (Array.getElem?_eq_some_iff.1 hbox6).1).trans hbox6
          clear e0 e1 e2 p0 p1 p2 p3 g0 g1 g2 hw7
          obtain ⟨⟨e0, e1, e2⟩, g0, g1, g2⟩ := hR7.cells
          obtain ⟨⟨p0, p1, p2, p3⟩, _⟩ := kept4 hx7 (Below.refl _ _)
          obtain ⟨⟨q0, q1, q2, q3⟩, y0, y1, y2, y3⟩ := kept4 hbox7 (Below.refl _ _)
          obtain ⟨W8, hW8⟩ : ∃ W8, W7.setCell ⟨p, 2, none⟩ (.bool true) = W8 := ⟨_, rfl⟩
          have hR8 : Rd W8 p s (i + k) true := by rw [← hW8]; exact hR7.worse
          have hM8 : Mv p w W8 := by rw [← hW8]; exact hM7.set
          have hx8 : W8.heap[w5.heap.size]? = some (.cells #[.int .i64 2, .int .i64 0, .string (tx O), .slice none 0 0] 24) := by rw [← hW8]; exact (Below.heap_setCell _ _ _ _ (by show w5.heap.size ≠ p; have := HB6.out; omega)).trans hx7
          have hbox8 : W8.heap[w.heap.size]? = some zeroTerm := by rw [← hW8]; exact (Below.heap_setCell _ _ _ _ (by show w.heap.size ≠ p; omega)).trans hbox7
          go_upto_region 18 with fail
          try rw [hW8]
          clear e0 e1 e2 p0 p1 p2 p3 g0 g1 g2 q0 q1 q2 q3 y0 y1 y2 y3 hW8 hR7 hM7 hx7 hbox7
          obtain ⟨⟨p0, p1, p2, p3⟩, _⟩ := kept4 hx8 (Below.refl _ _)
          obtain ⟨⟨q0, q1, q2, q3⟩, y0, y1, y2, y3⟩ := kept4 hbox8 (Below.refl _ _)
          have HF := Hid.mk (show Rd W8 p s (i + k) true ∧ Mv p w W8 from ⟨hR8, hM8⟩)
          clear hR8 hM8 hx8 hbox8
          go_wp2
          refine ret_stored rfl rfl rfl q0 q1 q2 q3 (quo_out true HF.out.1 HF.out.2 hpw hOl.out hkH.out ?_)
          exact Or.inr ⟨rfl, by rw [quo_end hHE.out, if_neg (fun h => absurd h.1 (by have := hO64.out; omega))]⟩
        · have hO64 := Hid.mk (show O.length ≤ 64 by omega)
          have h64i : (O.length : Int) ≤ 64 := by omega
          by_cases hsm : atomT O = (s.drop i).take k
          · have hsame := Hid.mk (show atomT O ++ s.drop (j + 1) = 39 :: Z by rw [hkj.out, hsm, ← hZH.out, ← List.drop_drop, List.take_append_drop])
            have hbe := bytesT_eq hsm
            obtain ⟨⟨e0, e1, e2⟩, g0, g1, g2⟩ := hR6.cells
            obtain ⟨⟨p0, p1, p2, p3⟩, _⟩ := kept4 hx6 (Below.refl _ _)
            refine region_up (W := W6) (by kernel_rfl) (by kernel_rfl) (Up.refl _) ?_
            refine quiet_value (v := .pointer (some ⟨p, 0, none⟩)) rfl (fun _ _ => rfl) ?_
            simp only [Act.put, List.setIfInBounds_toArray, List.set_cons_zero, List.set_cons_succ]
            refine quiet_value (v := .pointer (some ⟨p, 0, none⟩)) rfl (fun _ _ => (by go_simp)) ?_
            simp only [Act.put, List.setIfInBounds_toArray, List.set_cons_zero, List.set_cons_succ]
            refine quiet_value (v := .pointer (some ⟨p, 2, none⟩)) rfl (fun _ _ => (by go_simp)) ?_
            simp only [Act.put, List.setIfInBounds_toArray, List.set_cons_zero, List.set_cons_succ]
            refine quiet_value (v := .bool false) rfl (fun W h => (by have u0 := cell_below h.out _ _ _ e2; go_simp)) ?_
            simp only [Act.put, List.setIfInBounds_toArray, List.set_cons_zero, List.set_cons_succ]
            refine quiet_value (v := .bool false) rfl (fun _ _ => rfl) ?_
            simp only [Act.put, List.setIfInBounds_toArray, List.set_cons_zero, List.set_cons_succ]
            refine quiet_value (v := .slice oa O.length ocap) rfl (fun _ _ => rfl) ?_
            simp only [Act.put, List.setIfInBounds_toArray, List.set_cons_zero, List.set_cons_succ]
            refine quiet_value (v := .int .i64 O.length) rfl (fun _ _ => (by go_simp)) ?_
            simp only [Act.put, List.setIfInBounds_toArray, List.set_cons_zero, List.set_cons_succ]
            refine quiet_value (v := .bool false) rfl (fun _ _ => (by go_simp)) ?_
            simp only [Act.put, List.setIfInBounds_toArray, List.set_cons_zero, List.set_cons_succ]
            refine quiet_value (v := .bool false) rfl (fun _ _ => (by go_simp)) ?_
            simp only [Act.put, List.setIfInBounds_toArray, List.set_cons_zero, List.set_cons_succ]
            refine quiet_value (v := .bool false) rfl (fun _ _ => rfl) ?_
            simp only [Act.put, List.setIfInBounds_toArray, List.set_cons_zero, List.set_cons_succ]
            refine quiet_value (v := .agg #[.int .i64 2, .int .i64 0, .string (tx O), .slice none 0 0]) rfl (fun W h => (by have u0 := cell_below h.out _ _ _ p0; have u1 := cell_below h.out _ _ _ p1; have u2 := cell_below h.out _ _ _ p2; have u3 := cell_below h.out _ _ _ p3; go_simp)) ?_
            simp only [Act.put, List.setIfInBounds_toArray, List.set_cons_zero, List.set_cons_succ]
            refine quiet_call (v := .string (tx (atomT O))) rfl (fun W => (by go_simp)) (fun W h => (textAtom_any O hO64.out W).mono fun e w' ⟨he, hb⟩ => ⟨he, h.call hb⟩) ?_
            simp only [Act.put, List.setIfInBounds_toArray, List.set_cons_zero, List.set_cons_succ]
            refine quiet_value (v := .pointer (some ⟨p, 0, none⟩)) rfl (fun _ _ => rfl) ?_
            simp only [Act.put, List.setIfInBounds_toArray, List.set_cons_zero, List.set_cons_succ]
            refine quiet_value (v := .pointer (some ⟨p, 0, none⟩)) rfl (fun _ _ => (by go_simp)) ?_
            simp only [Act.put, List.setIfInBounds_toArray, List.set_cons_zero, List.set_cons_succ]
            refine quiet_value (v := .pointer (some ⟨p, 0, none⟩)) rfl (fun _ _ => (by go_simp)) ?_
            simp only [Act.put, List.setIfInBounds_toArray, List.set_cons_zero, List.set_cons_succ]
            refine quiet_value (v := .string (tx s)) rfl (fun W h => (by have u0 := cell_below h.out _ _ _ e0; go_simp)) ?_
            simp only [Act.put, List.setIfInBounds_toArray, List.set_cons_zero, List.set_cons_succ]
            refine quiet_value (v := .int .i64 i) rfl (fun _ _ => rfl) ?_
            simp only [Act.put, List.setIfInBounds_toArray, List.set_cons_zero, List.set_cons_succ]
            refine quiet_value (v := .pointer (some ⟨p, 0, none⟩)) rfl (fun _ _ => rfl) ?_
            simp only [Act.put, List.setIfInBounds_toArray, List.set_cons_zero, List.set_cons_succ]
            refine quiet_value (v := .pointer (some ⟨p, 0, none⟩)) rfl (fun _ _ => (by go_simp)) ?_
            simp only [Act.put, List.setIfInBounds_toArray, List.set_cons_zero, List.set_cons_succ]
            refine quiet_value (v := .pointer (some ⟨p, 1, none⟩)) rfl (fun _ _ => (by go_simp)) ?_
            simp only [Act.put, List.setIfInBounds_toArray, List.set_cons_zero, List.set_cons_succ]
            refine quiet_value (v := .int .i64 ((i + k : Nat) : Int)) rfl (fun W h => (by have u0 := cell_below h.out _ _ _ e1; go_simp)) ?_
            simp only [Act.put, List.setIfInBounds_toArray, List.set_cons_zero, List.set_cons_succ]
            refine quiet_value (v := .string (tx ((s.drop i).take k))) rfl (fun _ _ => (by go_simp; rw [if_pos ⟨by omega, by omega⟩, if_pos (by omega)])) ?_
            simp only [Act.put, List.setIfInBounds_toArray, List.set_cons_zero, List.set_cons_succ]
            refine quiet_value (v := .bool false) rfl (fun _ _ => (by go_simp)) ?_
            simp only [Act.put, List.setIfInBounds_toArray, List.set_cons_zero, List.set_cons_succ]
            refine quiet_value (v := .bool false) rfl (fun _ _ => (by go_simp)) ?_
            simp only [Act.put, List.setIfInBounds_toArray, List.set_cons_zero, List.set_cons_succ]
            refine quiet_nil ?_
            intro W7 hw7
            have hR7 := hR6.below hw7.out
            have hM7 := hM6.trans (Mv.up hw7.out)
            have hx7 := (hw7.out.block _ (Array.getElem?_eq_some_iff.1 hx6).1).trans hx6
            have hbox7 := (hw7.out.block _ (Array.getElem?_eq_some_iff.1 hbox6).1).trans hbox6
            clear e0 e1 e2 p0 p1 p2 p3 g0 g1 g2 hw7
            obtain ⟨⟨e0, e1, e2⟩, g0, g1, g2⟩ := hR7.cells
            obtain ⟨⟨p0, p1, p2, p3⟩, _⟩ := kept4 hx7 (Below.refl _ _)
            obtain ⟨⟨q0, q1, q2, q3⟩, y0, y1, y2, y3⟩ := kept4 hbox7 (Below.refl _ _)
            have HF := Hid.mk (show Rd W7 p s (i + k) false ∧ Mv p w W7 from ⟨hR7, hM7⟩)
            clear hR7 hM7 hx7 hbox7
            go_wp2
            refine ret_stored rfl rfl rfl q0 q1 q2 q3 (quo_out false HF.out.1 HF.out.2 hpw hOl.out hkH.out ?_)
            exact Or.inl ⟨rfl, hkL.out, by rw [quo_end hHE.out, if_pos ⟨hO64.out, hsame.out⟩]; rw [hkj.out]⟩
          · have hsame := Hid.mk (show ¬ atomT O ++ s.drop (j + 1) = 39 :: Z from fun e => hsm (by rw [hkj.out, ← hZH.out, ← List.drop_drop] at e; exact List.append_cancel_right (e.trans (List.take_append_drop k (s.drop i)).symm)))
            obtain ⟨hbe1, hbe2, hbe3⟩ := bytesT_ne hsm
            obtain ⟨⟨e0, e1, e2⟩, g0, g1, g2⟩ := hR6.cells
            obtain ⟨⟨p0, p1, p2, p3⟩, _⟩ := kept4 hx6 (Below.refl _ _)
            refine region_up (W := W6) (by kernel_rfl) (by kernel_rfl) (Up.refl _) ?_
            refine quiet_value (v := .pointer (some ⟨p, 0, none⟩)) rfl (fun _ _ => rfl) ?_
            simp only [Act.put, List.setIfInBounds_toArray, List.set_cons_zero, List.set_cons_succ]
            refine quiet_value (v := .pointer (some ⟨p, 0, none⟩)) rfl (fun _ _ => (by go_simp)) ?_
            simp only [Act.put, List.setIfInBounds_toArray, List.set_cons_zero, List.set_cons_succ]
            refine quiet_value (v := .pointer (some ⟨p, 2, none⟩)) rfl (fun _ _ => (by go_simp)) ?_
            simp only [Act.put, List.setIfInBounds_toArray, List.set_cons_zero, List.set_cons_succ]
            refine quiet_value (v := .bool false) rfl (fun W h => (by have u0 := cell_below h.out _ _ _ e2; go_simp)) ?_
            simp only [Act.put, List.setIfInBounds_toArray, List.set_cons_zero, List.set_cons_succ]
            refine quiet_value (v := .bool false) rfl (fun _ _ => rfl) ?_
            simp only [Act.put, List.setIfInBounds_toArray, List.set_cons_zero, List.set_cons_succ]
            refine quiet_value (v := .slice oa O.length ocap) rfl (fun _ _ => rfl) ?_
            simp only [Act.put, List.setIfInBounds_toArray, List.set_cons_zero, List.set_cons_succ]
            refine quiet_value (v := .int .i64 O.length) rfl (fun _ _ => (by go_simp)) ?_
            simp only [Act.put, List.setIfInBounds_toArray, List.set_cons_zero, List.set_cons_succ]
            refine quiet_value (v := .bool false) rfl (fun _ _ => (by go_simp)) ?_
            simp only [Act.put, List.setIfInBounds_toArray, List.set_cons_zero, List.set_cons_succ]
            refine quiet_value (v := .bool false) rfl (fun _ _ => (by go_simp)) ?_
            simp only [Act.put, List.setIfInBounds_toArray, List.set_cons_zero, List.set_cons_succ]
            refine quiet_value (v := .bool false) rfl (fun _ _ => rfl) ?_
            simp only [Act.put, List.setIfInBounds_toArray, List.set_cons_zero, List.set_cons_succ]
            refine quiet_value (v := .agg #[.int .i64 2, .int .i64 0, .string (tx O), .slice none 0 0]) rfl (fun W h => (by have u0 := cell_below h.out _ _ _ p0; have u1 := cell_below h.out _ _ _ p1; have u2 := cell_below h.out _ _ _ p2; have u3 := cell_below h.out _ _ _ p3; go_simp)) ?_
            simp only [Act.put, List.setIfInBounds_toArray, List.set_cons_zero, List.set_cons_succ]
            refine quiet_call (v := .string (tx (atomT O))) rfl (fun W => (by go_simp)) (fun W h => (textAtom_any O hO64.out W).mono fun e w' ⟨he, hb⟩ => ⟨he, h.call hb⟩) ?_
            simp only [Act.put, List.setIfInBounds_toArray, List.set_cons_zero, List.set_cons_succ]
            refine quiet_value (v := .pointer (some ⟨p, 0, none⟩)) rfl (fun _ _ => rfl) ?_
            simp only [Act.put, List.setIfInBounds_toArray, List.set_cons_zero, List.set_cons_succ]
            refine quiet_value (v := .pointer (some ⟨p, 0, none⟩)) rfl (fun _ _ => (by go_simp)) ?_
            simp only [Act.put, List.setIfInBounds_toArray, List.set_cons_zero, List.set_cons_succ]
            refine quiet_value (v := .pointer (some ⟨p, 0, none⟩)) rfl (fun _ _ => (by go_simp)) ?_
            simp only [Act.put, List.setIfInBounds_toArray, List.set_cons_zero, List.set_cons_succ]
            refine quiet_value (v := .string (tx s)) rfl (fun W h => (by have u0 := cell_below h.out _ _ _ e0; go_simp)) ?_
            simp only [Act.put, List.setIfInBounds_toArray, List.set_cons_zero, List.set_cons_succ]
            refine quiet_value (v := .int .i64 i) rfl (fun _ _ => rfl) ?_
            simp only [Act.put, List.setIfInBounds_toArray, List.set_cons_zero, List.set_cons_succ]
            refine quiet_value (v := .pointer (some ⟨p, 0, none⟩)) rfl (fun _ _ => rfl) ?_
            simp only [Act.put, List.setIfInBounds_toArray, List.set_cons_zero, List.set_cons_succ]
            refine quiet_value (v := .pointer (some ⟨p, 0, none⟩)) rfl (fun _ _ => (by go_simp)) ?_
            simp only [Act.put, List.setIfInBounds_toArray, List.set_cons_zero, List.set_cons_succ]
            refine quiet_value (v := .pointer (some ⟨p, 1, none⟩)) rfl (fun _ _ => (by go_simp)) ?_
            simp only [Act.put, List.setIfInBounds_toArray, List.set_cons_zero, List.set_cons_succ]
            refine quiet_value (v := .int .i64 ((i + k : Nat) : Int)) rfl (fun W h => (by have u0 := cell_below h.out _ _ _ e1; go_simp)) ?_
            simp only [Act.put, List.setIfInBounds_toArray, List.set_cons_zero, List.set_cons_succ]
            refine quiet_value (v := .string (tx ((s.drop i).take k))) rfl (fun _ _ => (by go_simp; rw [if_pos ⟨by omega, by omega⟩, if_pos (by omega)])) ?_
            simp only [Act.put, List.setIfInBounds_toArray, List.set_cons_zero, List.set_cons_succ]
            refine quiet_value (v := .bool true) rfl (fun _ _ => (by go_simp)) ?_
            simp only [Act.put, List.setIfInBounds_toArray, List.set_cons_zero, List.set_cons_succ]
            refine quiet_value (v := .bool true) rfl (fun _ _ => (by go_simp)) ?_
            simp only [Act.put, List.setIfInBounds_toArray, List.set_cons_zero, List.set_cons_succ]
            refine quiet_nil ?_
            intro W7 hw7
            have hR7 := hR6.below hw7.out
            have hM7 := hM6.trans (Mv.up hw7.out)
            have hx7 := (hw7.out.block _ (Array.getElem?_eq_some_iff.1 hx6).1).trans hx6
            have hbox7 := (hw7.out.block _ (Array.getElem?_eq_some_iff.1 hbox6).1).trans hbox6
            clear e0 e1 e2 p0 p1 p2 p3 g0 g1 g2 hw7
            obtain ⟨⟨e0, e1, e2⟩, g0, g1, g2⟩ := hR7.cells
            obtain ⟨⟨p0, p1, p2, p3⟩, _⟩ := kept4 hx7 (Below.refl _ _)
            obtain ⟨⟨q0, q1, q2, q3⟩, y0, y1, y2, y3⟩ := kept4 hbox7 (Below.refl _ _)
            obtain ⟨W8, hW8⟩ : ∃ W8, W7.setCell ⟨p, 2, none⟩ (.bool true) = W8 := ⟨_, rfl⟩
            have hR8 : Rd W8 p s (i + k) true := by rw [← hW8]; exact hR7.worse
            have hM8 : Mv p w W8 := by rw [← hW8]; exact hM7.set
            have hx8 : W8.heap[w5.heap.size]? = some (.cells #[.int .i64 2, .int .i64 0, .string (tx O), .slice none 0 0] 24) := by rw [← hW8]; exact (Below.heap_setCell _ _ _ _ (by show w5.heap.size ≠ p; have := HB6.out; omega)).trans hx7
            have hbox8 : W8.heap[w.heap.size]? = some zeroTerm := by rw [← hW8]; exact (Below.heap_setCell _ _ _ _ (by show w.heap.size ≠ p; omega)).trans hbox7
            go_upto_region 18 with fail
            try rw [hW8]
            clear e0 e1 e2 p0 p1 p2 p3 g0 g1 g2 q0 q1 q2 q3 y0 y1 y2 y3 hW8 hR7 hM7 hx7 hbox7
            obtain ⟨⟨p0, p1, p2, p3⟩, _⟩ := kept4 hx8 (Below.refl _ _)
            obtain ⟨⟨q0, q1, q2, q3⟩, y0, y1, y2, y3⟩ := kept4 hbox8 (Below.refl _ _)
            have HF := Hid.mk (show Rd W8 p s (i + k) true ∧ Mv p w W8 from ⟨hR8, hM8⟩)
            clear hR8 hM8 hx8 hbox8
            go_wp2
            refine ret_stored rfl rfl rfl q0 q1 q2 q3 (quo_out true HF.out.1 HF.out.2 hpw hOl.out hkH.out ?_)
            exact Or.inr ⟨rfl, by rw [quo_end hHE.out, if_neg (fun h => hsame.out h.2)]⟩
      · have h39' : ((c.toNat : Int) == 39) = false := by
          rw [beq_eq_false_iff_ne]
          intro e
          exact h39 (UInt8.toNat.inj (by have h5 : (39 : UInt8).toNat = 39 := rfl; omega))
        have h39'' : ¬ ((c.toNat : Int) = 39) := by simpa using h39'
        refine region_up (W := wr) (by kernel_rfl) (by kernel_rfl) (Up.refl _) ?_
        refine quiet_value (v := .pointer (some ⟨p, 0, none⟩)) rfl (fun _ _ => rfl) ?_
        simp only [Act.put, List.setIfInBounds_toArray, List.set_cons_zero, List.set_cons_succ]
        refine quiet_value (v := .pointer (some ⟨p, 0, none⟩)) rfl (fun _ _ => (by go_simp)) ?_
        simp only [Act.put, List.setIfInBounds_toArray, List.set_cons_zero, List.set_cons_succ]
        refine quiet_value (v := .pointer (some ⟨p, 2, none⟩)) rfl (fun _ _ => (by go_simp)) ?_
        simp only [Act.put, List.setIfInBounds_toArray, List.set_cons_zero, List.set_cons_succ]
        refine quiet_value (v := .bool false) rfl (fun W h => (by have u0 := cell_below h.out _ _ _ c2; go_simp)) ?_
        simp only [Act.put, List.setIfInBounds_toArray, List.set_cons_zero, List.set_cons_succ]
        refine quiet_value (v := .bool true) rfl (fun _ _ => (by go_simp)) ?_
        simp only [Act.put, List.setIfInBounds_toArray, List.set_cons_zero, List.set_cons_succ]
        refine quiet_value (v := .bool true) rfl (fun _ _ => rfl) ?_
        simp only [Act.put, List.setIfInBounds_toArray, List.set_cons_zero, List.set_cons_succ]
        refine quiet_value (v := .pointer (some ⟨p, 0, none⟩)) rfl (fun _ _ => rfl) ?_
        simp only [Act.put, List.setIfInBounds_toArray, List.set_cons_zero, List.set_cons_succ]
        refine quiet_value (v := .pointer (some ⟨p, 0, none⟩)) rfl (fun _ _ => (by go_simp)) ?_
        simp only [Act.put, List.setIfInBounds_toArray, List.set_cons_zero, List.set_cons_succ]
        refine quiet_value (v := .pointer (some ⟨p, 1, none⟩)) rfl (fun _ _ => (by go_simp)) ?_
        simp only [Act.put, List.setIfInBounds_toArray, List.set_cons_zero, List.set_cons_succ]
        refine quiet_value (v := .int .i64 j) rfl (fun W h => (by have u0 := cell_below h.out _ _ _ c1; go_simp)) ?_
        simp only [Act.put, List.setIfInBounds_toArray, List.set_cons_zero, List.set_cons_succ]
        refine quiet_value (v := .pointer (some ⟨p, 0, none⟩)) rfl (fun _ _ => rfl) ?_
        simp only [Act.put, List.setIfInBounds_toArray, List.set_cons_zero, List.set_cons_succ]
        refine quiet_value (v := .pointer (some ⟨p, 0, none⟩)) rfl (fun _ _ => (by go_simp)) ?_
        simp only [Act.put, List.setIfInBounds_toArray, List.set_cons_zero, List.set_cons_succ]
        refine quiet_value (v := .pointer (some ⟨p, 0, none⟩)) rfl (fun _ _ => (by go_simp)) ?_
        simp only [Act.put, List.setIfInBounds_toArray, List.set_cons_zero, List.set_cons_succ]
        refine quiet_value (v := .string (tx s)) rfl (fun W h => (by have u0 := cell_below h.out _ _ _ c0; go_simp)) ?_
        simp only [Act.put, List.setIfInBounds_toArray, List.set_cons_zero, List.set_cons_succ]
        refine quiet_value (v := .int .i64 s.length) rfl (fun _ _ => (by go_simp)) ?_
        simp only [Act.put, List.setIfInBounds_toArray, List.set_cons_zero, List.set_cons_succ]
        refine quiet_value (v := .bool true) rfl (fun _ _ => (by go_simp)) ?_
        simp only [Act.put, List.setIfInBounds_toArray, List.set_cons_zero, List.set_cons_succ]
        refine quiet_value (v := .bool true) rfl (fun _ _ => (by go_simp)) ?_
        simp only [Act.put, List.setIfInBounds_toArray, List.set_cons_zero, List.set_cons_succ]
        refine quiet_value (v := .bool true) rfl (fun _ _ => rfl) ?_
        simp only [Act.put, List.setIfInBounds_toArray, List.set_cons_zero, List.set_cons_succ]
        refine quiet_value (v := .pointer (some ⟨p, 0, none⟩)) rfl (fun _ _ => rfl) ?_
        simp only [Act.put, List.setIfInBounds_toArray, List.set_cons_zero, List.set_cons_succ]
        refine quiet_value (v := .pointer (some ⟨p, 0, none⟩)) rfl (fun _ _ => (by go_simp)) ?_
        simp only [Act.put, List.setIfInBounds_toArray, List.set_cons_zero, List.set_cons_succ]
        refine quiet_value (v := .pointer (some ⟨p, 0, none⟩)) rfl (fun _ _ => (by go_simp)) ?_
        simp only [Act.put, List.setIfInBounds_toArray, List.set_cons_zero, List.set_cons_succ]
        refine quiet_value (v := .string (tx s)) rfl (fun W h => (by have u0 := cell_below h.out _ _ _ c0; go_simp)) ?_
        simp only [Act.put, List.setIfInBounds_toArray, List.set_cons_zero, List.set_cons_succ]
        refine quiet_value (v := .pointer (some ⟨p, 0, none⟩)) rfl (fun _ _ => rfl) ?_
        simp only [Act.put, List.setIfInBounds_toArray, List.set_cons_zero, List.set_cons_succ]
        refine quiet_value (v := .pointer (some ⟨p, 0, none⟩)) rfl (fun _ _ => (by go_simp)) ?_
        simp only [Act.put, List.setIfInBounds_toArray, List.set_cons_zero, List.set_cons_succ]
        refine quiet_value (v := .pointer (some ⟨p, 1, none⟩)) rfl (fun _ _ => (by go_simp)) ?_
        simp only [Act.put, List.setIfInBounds_toArray, List.set_cons_zero, List.set_cons_succ]
        refine quiet_value (v := .int .i64 j) rfl (fun W h => (by have u0 := cell_below h.out _ _ _ c1; go_simp)) ?_
        simp only [Act.put, List.setIfInBounds_toArray, List.set_cons_zero, List.set_cons_succ]
        refine quiet_value (v := .int .u8 c.toNat) rfl (fun _ _ => (by go_simp)) ?_
        simp only [Act.put, List.setIfInBounds_toArray, List.set_cons_zero, List.set_cons_succ]
        refine quiet_value (v := .bool true) rfl (fun _ _ => (by go_simp)) ?_
        simp only [Act.put, List.setIfInBounds_toArray, List.set_cons_zero, List.set_cons_succ]
        refine quiet_value (v := .bool true) rfl (fun _ _ => (by go_simp)) ?_
        simp only [Act.put, List.setIfInBounds_toArray, List.set_cons_zero, List.set_cons_succ]
        refine quiet_nil ?_
        intro w3 hw3
        obtain ⟨hR3, hM3, hbox3, hO3⟩ := keep4 hR hM hbox hO hw3.out
        clear hR hM hbox hO hw3 c0 c1 c2 f0 f1 f2
        obtain ⟨⟨d0, d1, d2⟩, g0, g1, g2⟩ := hR3.cells
        go_upto_region 5 with fail
        refine region_up (W := w3) (by kernel_rfl) (by kernel_rfl) (Up.refl _) ?_
        refine quiet_value (v := .pointer (some ⟨p, 0, none⟩)) rfl (fun _ _ => rfl) ?_
        simp only [Act.put, List.setIfInBounds_toArray, List.set_cons_zero, List.set_cons_succ]
        refine quiet_value (v := .pointer (some ⟨p, 0, none⟩)) rfl (fun _ _ => (by go_simp)) ?_
        simp only [Act.put, List.setIfInBounds_toArray, List.set_cons_zero, List.set_cons_succ]
        refine quiet_value (v := .pointer (some ⟨p, 0, none⟩)) rfl (fun _ _ => (by go_simp)) ?_
        simp only [Act.put, List.setIfInBounds_toArray, List.set_cons_zero, List.set_cons_succ]
        refine quiet_value (v := .string (tx s)) rfl (fun W h => (by have u0 := cell_below h.out _ _ _ d0; go_simp)) ?_
        simp only [Act.put, List.setIfInBounds_toArray, List.set_cons_zero, List.set_cons_succ]
        refine quiet_value (v := .pointer (some ⟨p, 0, none⟩)) rfl (fun _ _ => rfl) ?_
        simp only [Act.put, List.setIfInBounds_toArray, List.set_cons_zero, List.set_cons_succ]
        refine quiet_value (v := .pointer (some ⟨p, 0, none⟩)) rfl (fun _ _ => (by go_simp)) ?_
        simp only [Act.put, List.setIfInBounds_toArray, List.set_cons_zero, List.set_cons_succ]
        refine quiet_value (v := .pointer (some ⟨p, 1, none⟩)) rfl (fun _ _ => (by go_simp)) ?_
        simp only [Act.put, List.setIfInBounds_toArray, List.set_cons_zero, List.set_cons_succ]
        refine quiet_value (v := .int .i64 j) rfl (fun W h => (by have u0 := cell_below h.out _ _ _ d1; go_simp)) ?_
        simp only [Act.put, List.setIfInBounds_toArray, List.set_cons_zero, List.set_cons_succ]
        refine quiet_value (v := .int .u8 c.toNat) rfl (fun _ _ => (by go_simp)) ?_
        simp only [Act.put, List.setIfInBounds_toArray, List.set_cons_zero, List.set_cons_succ]
        refine quiet_value (v := .int .u8 c.toNat) rfl (fun _ _ => rfl) ?_
        simp only [Act.put, List.setIfInBounds_toArray, List.set_cons_zero, List.set_cons_succ]
        refine quiet_nil ?_
        intro w4 hw4
        obtain ⟨hR4, hM4, hbox4, hO4⟩ := keep4 hR3 hM3 hbox3 hO3 hw4.out
        clear hR3 hM3 hbox3 hO3 hw4 d0 d1 d2 g0 g1 g2
        obtain ⟨⟨d0, d1, d2⟩, g0, g1, g2⟩ := hR4.cells
        obtain ⟨j1, hj1⟩ : ∃ j1, j + 1 = j1 := ⟨_, rfl⟩
        have hwj : IntKind.i64.wrap ((j : Int) + 1) = (j1 : Int) := by rw [wrap_id (by omega) (by omega)]; omega
        obtain ⟨W5, hW5⟩ : ∃ W5, w4.setCell ⟨p, 1, none⟩ (.int .i64 j1) = W5 := ⟨_, rfl⟩
        obtain ⟨hR5, hM5, hbox5, hO5⟩ := put4_at hR4 hM4 hbox4 hO4 hpw (by omega) j1 hW5
        rw [hj1] at hdj
        have HJ1 := Hid.mk (show j + 1 = j1 ∧ j1 ≤ s.length from ⟨hj1, by omega⟩)
        clear hR4 hM4 hbox4 hO4 hj1
        by_cases h92 : c = 92
        · subst h92
          obtain ⟨x, hx⟩ : ∃ x, (s.drop j1).headD 0 = x := ⟨_, rfl⟩
          have hN := Hid.mk (next_any p s j1 false W5 hR5 HJ1.out.2)
          rw [hx] at hN
          obtain ⟨j2, hj2⟩ : ∃ j2, j1 + 1 = j2 := ⟨_, rfl⟩
          have hwj2 : IntKind.i64.wrap ((j1 : Int) + 1) = (j2 : Int) := by have := HJ1.out; rw [wrap_id (by omega) (by omega)]; omega
          have HK5 := Hid.mk (show Rd W5 p s j1 false ∧ Mv p w W5 ∧ W5.heap[w.heap.size]? = some zeroTerm ∧ Obs (w.heap.size + 1) O u4 W5 from ⟨hR5, hM5, hbox5, hO5⟩)
          have HJ2 := Hid.mk hj2
          clear hR5 hM5 hbox5 hO5 hj2
          go_upto_region 10 with (
            go_at_call 23
            refine hN.out.mono ?_
            rintro e w6 ⟨rfl, hb6⟩
            obtain ⟨hR6, hM6, hbox6, hO6⟩ := keep4 HK5.out.1 HK5.out.2.1 HK5.out.2.2.1 HK5.out.2.2.2 hb6
            obtain ⟨⟨e0, e1, e2⟩, y0, y1, y2⟩ := hR6.cells
            obtain ⟨W7, hW7⟩ : ∃ W7, w6.setCell ⟨p, 1, none⟩ (.int .i64 j2) = W7 := ⟨_, rfl⟩
            obtain ⟨hR7, hM7, hbox7, hO7⟩ := put4_at hR6 hM6 hbox6 hO6 hpw (by omega) j2 hW7
            clear hR6 hM6 hbox6 hO6 hb6 d0 d1 d2 g0 g1 g2)
          try rw [hW7]
          clear hW7 hW5 hN e0 e1 e2 y0 y1 y2
          obtain ⟨⟨e0, e1, e2⟩, y0, y1, y2⟩ := hR7.cells
          have hxx := Hid.mk (show (j1 < s.length ∧ s.drop j = 92 :: x :: s.drop j2) ∨ (j1 = s.length ∧ s.drop j = [92]) by
            rw [hdj.out]
            by_cases hl1 : j1 < s.length
            · left
              refine ⟨hl1, ?_⟩
              rw [← HJ2.out, List.drop_eq_getElem_cons hl1] at *
              simp only [List.headD_cons] at hx
              rw [hx]
            · right
              have : j1 = s.length := by have := HJ1.out.2; omega
              refine ⟨this, ?_⟩
              rw [this, List.drop_length])
          by_cases h120 : x = 120
          · subst h120
            obtain ⟨j4, hj4⟩ : ∃ j4, j2 + 2 = j4 := ⟨_, rfl⟩
            have hwj4 : IntKind.i64.wrap ((j2 : Int) + 2) = (j4 : Int) := by have := HJ1.out; have := HJ2.out; rw [wrap_id (by omega) (by omega)]; omega
            by_cases hl4 : j4 ≤ s.length
            · have hd4 : decide ((j4 : Int) ≤ s.length) = true := by rw [decide_eq_true_eq]; omega
              have hl4' : (j4 : Int) ≤ s.length := by omega
              refine region_up (W := W7) (by kernel_rfl) (by kernel_rfl) (Up.refl _) ?_
              refine quiet_value (v := .int .u8 120) rfl (fun _ _ => rfl) ?_
              simp only [Act.put, List.setIfInBounds_toArray, List.set_cons_zero, List.set_cons_succ]
              refine quiet_value (v := .bool true) rfl (fun _ _ => (by go_simp)) ?_
              simp only [Act.put, List.setIfInBounds_toArray, List.set_cons_zero, List.set_cons_succ]
              refine quiet_value (v := .bool true) rfl (fun _ _ => rfl) ?_
              simp only [Act.put, List.setIfInBounds_toArray, List.set_cons_zero, List.set_cons_succ]
              refine quiet_value (v := .pointer (some ⟨p, 0, none⟩)) rfl (fun _ _ => rfl) ?_
              simp only [Act.put, List.setIfInBounds_toArray, List.set_cons_zero, List.set_cons_succ]
              refine quiet_value (v := .pointer (some ⟨p, 0, none⟩)) rfl (fun _ _ => (by go_simp)) ?_
              simp only [Act.put, List.setIfInBounds_toArray, List.set_cons_zero, List.set_cons_succ]
              refine quiet_value (v := .pointer (some ⟨p, 1, none⟩)) rfl (fun _ _ => (by go_simp)) ?_
              simp only [Act.put, List.setIfInBounds_toArray, List.set_cons_zero, List.set_cons_succ]
              refine quiet_value (v := .int .i64 j2) rfl (fun W h => (by have u0 := cell_below h.out _ _ _ e1; go_simp)) ?_
              simp only [Act.put, List.setIfInBounds_toArray, List.set_cons_zero, List.set_cons_succ]
              refine quiet_value (v := .int .i64 j4) rfl (fun _ _ => (by go_simp)) ?_
              simp only [Act.put, List.setIfInBounds_toArray, List.set_cons_zero, List.set_cons_succ]
              refine quiet_value (v := .pointer (some ⟨p, 0, none⟩)) rfl (fun _ _ => rfl) ?_
              simp only [Act.put, List.setIfInBounds_toArray, List.set_cons_zero, List.set_cons_succ]
              refine quiet_value (v := .pointer (some ⟨p, 0, none⟩)) rfl (fun _ _ => (by go_simp)) ?_
              simp only [Act.put, List.setIfInBounds_toArray, List.set_cons_zero, List.set_cons_succ]
              refine quiet_value (v := .pointer (some ⟨p, 0, none⟩)) rfl (fun _ _ => (by go_simp)) ?_
              simp only [Act.put, List.setIfInBounds_toArray, List.set_cons_zero, List.set_cons_succ]
              refine quiet_value (v := .string (tx s)) rfl (fun W h => (by have u0 := cell_below h.out _ _ _ e0; go_simp)) ?_
              simp only [Act.put, List.setIfInBounds_toArray, List.set_cons_zero, List.set_cons_succ]
              refine quiet_value (v := .int .i64 s.length) rfl (fun _ _ => (by go_simp)) ?_
              simp only [Act.put, List.setIfInBounds_toArray, List.set_cons_zero, List.set_cons_succ]
              refine quiet_value (v := .bool true) rfl (fun _ _ => (by go_simp)) ?_
              simp only [Act.put, List.setIfInBounds_toArray, List.set_cons_zero, List.set_cons_succ]
              refine quiet_value (v := .bool true) rfl (fun _ _ => (by go_simp)) ?_
              simp only [Act.put, List.setIfInBounds_toArray, List.set_cons_zero, List.set_cons_succ]
              refine quiet_nil ?_
              intro w8 hw8
              obtain ⟨hR8, hM8, hbox8, hO8⟩ := keep4 hR7 hM7 hbox7 hO7 hw8.out
              clear hR7 hM7 hbox7 hO7 hw8 e0 e1 e2 y0 y1 y2
              obtain ⟨⟨e0, e1, e2⟩, y0, y1, y2⟩ := hR8.cells
              have hl2 : j2 < s.length := by omega
              have hl3 : j2 + 1 < s.length := by omega
              obtain ⟨a, ha⟩ : ∃ a, s[j2]'hl2 = a := ⟨_, rfl⟩
              obtain ⟨b, hb⟩ : ∃ b, s[j2 + 1]'hl3 = b := ⟨_, rfl⟩
              have hd24 := Hid.mk (show s.drop j = 92 :: 120 :: a :: b :: s.drop j4 by
                rcases hxx.out with ⟨_, e⟩ | ⟨e, _⟩
                · rw [e, List.drop_eq_getElem_cons hl2, List.drop_eq_getElem_cons hl3, ha, hb, ← hj4]
                · have := HJ2.out; omega)
              obtain ⟨j3, hj3⟩ : ∃ j3, j2 + 1 = j3 := ⟨_, rfl⟩
              have hwj3 : IntKind.i64.wrap ((j2 : Int) + 1) = (j3 : Int) := by rw [wrap_id (by omega) (by omega)]; omega
              have hz2 : j2 < (tx s).size := by omega
              have hz3 : j3 < (tx s).size := by omega
              have hxa : (tx s)[j2]'hz2 = a := ha
              have hxb : (tx s)[j3]'hz3 = b := by subst hj3; exact hb
              have hl3' : (j3 : Int) < s.length := by omega
              have hl2' : (j2 : Int) < s.length := by omega
              have hra := hexE_rng a
              have hrb := hexE_rng b
              have hup : Hid (∀ (c : UInt8) (W : World), Calls Tryz.prog 53 #[.int .u8 c.toNat] W fun e w' => e = .returned (.int .i64 (hexE c)) ∧ Below W.heap.size W w') := Hid.mk hexE_up
              have hbyt := Hid.mk (fun y h1 h2 => hexE_byte (a := a) (b := b) (y := y) h1 h2)
              have hcA := Hid.mk (hup.out a)
              have hcB := Hid.mk (hup.out b)
              obtain ⟨xa, hxa2⟩ : ∃ xa, hexE a = xa := ⟨_, rfl⟩
              obtain ⟨xb, hxb2⟩ : ∃ xb, hexE b = xb := ⟨_, rfl⟩
              rw [hxa2] at hra hcA
              rw [hxb2] at hrb hcB
              rw [hxa2, hxb2] at hbyt
              obtain ⟨X16, hX16⟩ : ∃ X, 16 * xa = X := ⟨_, rfl⟩
              obtain ⟨Y16, hY16⟩ : ∃ Y, X16 + xb = Y := ⟨_, rfl⟩
              have hwX : IntKind.i64.wrap (16 * xa) = X16 := by rw [wrap_id (by omega) (by omega)]; exact hX16
              have hwY : IntKind.i64.wrap (X16 + xb) = Y16 := by rw [wrap_id (by omega) (by omega)]; exact hY16
              obtain ⟨U, hU, hUy⟩ := byte_of Y16
              have hcY := Hid.mk (show ∀ y : UInt8, a = hxd (y.toNat / 16) → b = hxd (y.toNat % 16) → U = y from fun y h1 h2 => by
                have h3 := hbyt.out y h1 h2
                rw [hX16, hY16] at h3
                exact hUy y h3)
              have HJ4 := Hid.mk (show j2 + 2 = j4 ∧ j4 ≤ s.length from ⟨hj4, hl4⟩)
              clear hxa2 hxb2 hX16 hY16 hbyt hup ha hb hra hrb hj3 hj4 hUy
              go_upto_region 11 with fail
              refine region_up (W := w8) (by kernel_rfl) (by kernel_rfl) (Up.refl _) ?_
              refine quiet_value (v := .pointer (some ⟨p, 0, none⟩)) rfl (fun _ _ => rfl) ?_
              simp only [Act.put, List.setIfInBounds_toArray, List.set_cons_zero, List.set_cons_succ]
              refine quiet_value (v := .pointer (some ⟨p, 0, none⟩)) rfl (fun _ _ => (by go_simp)) ?_
              simp only [Act.put, List.setIfInBounds_toArray, List.set_cons_zero, List.set_cons_succ]
              refine quiet_value (v := .pointer (some ⟨p, 0, none⟩)) rfl (fun _ _ => (by go_simp)) ?_
              simp only [Act.put, List.setIfInBounds_toArray, List.set_cons_zero, List.set_cons_succ]
              refine quiet_value (v := .string (tx s)) rfl (fun W h => (by have u0 := cell_below h.out _ _ _ e0; go_simp)) ?_
              simp only [Act.put, List.setIfInBounds_toArray, List.set_cons_zero, List.set_cons_succ]
              refine quiet_value (v := .pointer (some ⟨p, 0, none⟩)) rfl (fun _ _ => rfl) ?_
              simp only [Act.put, List.setIfInBounds_toArray, List.set_cons_zero, List.set_cons_succ]
              refine quiet_value (v := .pointer (some ⟨p, 0, none⟩)) rfl (fun _ _ => (by go_simp)) ?_
              simp only [Act.put, List.setIfInBounds_toArray, List.set_cons_zero, List.set_cons_succ]
              refine quiet_value (v := .pointer (some ⟨p, 1, none⟩)) rfl (fun _ _ => (by go_simp)) ?_
              simp only [Act.put, List.setIfInBounds_toArray, List.set_cons_zero, List.set_cons_succ]
              refine quiet_value (v := .int .i64 j2) rfl (fun W h => (by have u0 := cell_below h.out _ _ _ e1; go_simp)) ?_
              simp only [Act.put, List.setIfInBounds_toArray, List.set_cons_zero, List.set_cons_succ]
              refine quiet_value (v := .int .u8 a.toNat) rfl (fun _ _ => (by go_simp)) ?_
              simp only [Act.put, List.setIfInBounds_toArray, List.set_cons_zero, List.set_cons_succ]
              refine quiet_call (v := .int .i64 xa) rfl (fun W => (by go_simp)) (fun W h => (hcA.out W).mono fun e w' ⟨he, hb⟩ => ⟨he, h.call hb⟩) ?_
              simp only [Act.put, List.setIfInBounds_toArray, List.set_cons_zero, List.set_cons_succ]
              refine quiet_value (v := .int .i64 X16) rfl (fun _ _ => (by go_simp)) ?_
              simp only [Act.put, List.setIfInBounds_toArray, List.set_cons_zero, List.set_cons_succ]
              refine quiet_value (v := .pointer (some ⟨p, 0, none⟩)) rfl (fun _ _ => rfl) ?_
              simp only [Act.put, List.setIfInBounds_toArray, List.set_cons_zero, List.set_cons_succ]
              refine quiet_value (v := .pointer (some ⟨p, 0, none⟩)) rfl (fun _ _ => (by go_simp)) ?_
              simp only [Act.put, List.setIfInBounds_toArray, List.set_cons_zero, List.set_cons_succ]
              refine quiet_value (v := .pointer (some ⟨p, 0, none⟩)) rfl (fun _ _ => (by go_simp)) ?_
              simp only [Act.put, List.setIfInBounds_toArray, List.set_cons_zero, List.set_cons_succ]
              refine quiet_value (v := .string (tx s)) rfl (fun W h => (by have u0 := cell_below h.out _ _ _ e0; go_simp)) ?_
              simp only [Act.put, List.setIfInBounds_toArray, List.set_cons_zero, List.set_cons_succ]
              refine quiet_value (v := .pointer (some ⟨p, 0, none⟩)) rfl (fun _ _ => rfl) ?_
              simp only [Act.put, List.setIfInBounds_toArray, List.set_cons_zero, List.set_cons_succ]
              refine quiet_value (v := .pointer (some ⟨p, 0, none⟩)) rfl (fun _ _ => (by go_simp)) ?_
              simp only [Act.put, List.setIfInBounds_toArray, List.set_cons_zero, List.set_cons_succ]
              refine quiet_value (v := .pointer (some ⟨p, 1, none⟩)) rfl (fun _ _ => (by go_simp)) ?_
              simp only [Act.put, List.setIfInBounds_toArray, List.set_cons_zero, List.set_cons_succ]
              refine quiet_value (v := .int .i64 j2) rfl (fun W h => (by have u0 := cell_below h.out _ _ _ e1; go_simp)) ?_
              simp only [Act.put, List.setIfInBounds_toArray, List.set_cons_zero, List.set_cons_succ]
              refine quiet_value (v := .int .i64 j3) rfl (fun _ _ => (by go_simp)) ?_
              simp only [Act.put, List.setIfInBounds_toArray, List.set_cons_zero, List.set_cons_succ]
              refine quiet_value (v := .int .u8 b.toNat) rfl (fun _ _ => (by go_simp)) ?_
              simp only [Act.put, List.setIfInBounds_toArray, List.set_cons_zero, List.set_cons_succ]
              refine quiet_call (v := .int .i64 xb) rfl (fun W => (by go_simp)) (fun W h => (hcB.out W).mono fun e w' ⟨he, hb⟩ => ⟨he, h.call hb⟩) ?_
              simp only [Act.put, List.setIfInBounds_toArray, List.set_cons_zero, List.set_cons_succ]
              refine quiet_value (v := .int .i64 Y16) rfl (fun _ _ => (by go_simp)) ?_
              simp only [Act.put, List.setIfInBounds_toArray, List.set_cons_zero, List.set_cons_succ]
              refine quiet_value (v := .int .u8 U.toNat) rfl (fun _ _ => (by go_simp)) ?_
              simp only [Act.put, List.setIfInBounds_toArray, List.set_cons_zero, List.set_cons_succ]
              refine quiet_value (v := .int .u8 U.toNat) rfl (fun _ _ => rfl) ?_
              simp only [Act.put, List.setIfInBounds_toArray, List.set_cons_zero, List.set_cons_succ]
              refine quiet_nil ?_
              intro w9 hw9
              obtain ⟨hR9, hM9, hbox9, hO9⟩ := keep4 hR8 hM8 hbox8 hO8 hw9.out
              clear hR8 hM8 hbox8 hO8 hw9 e0 e1 e2 y0 y1 y2
              obtain ⟨⟨e0, e1, e2⟩, y0, y1, y2⟩ := hR9.cells
              obtain ⟨W10, hW10⟩ : ∃ W10, w9.setCell ⟨p, 1, none⟩ (.int .i64 j4) = W10 := ⟨_, rfl⟩
              obtain ⟨hR10, hM10, hbox10, hO10⟩ := put4_at hR9 hM9 hbox9 hO9 hpw (by omega) j4 hW10
              clear hR9 hM9 hbox9 hO9
              have HJ := Hid.mk (show j < j4 ∧ j4 ≤ s.length + 1 by have := HJ1.out; have := HJ2.out; have := HJ4.out; omega)
              go_upto_region 13 with fail
              try rw [hW10]
              clear hW10 e0 e1 e2 y0 y1 y2
              have hnew := Hid.mk (half_four (by have := hH.out; rw [hd24.out] at this; exact this) U hcY.out)
              obtain ⟨V, hV⟩ : ∃ V, W10.alloc (.cells #[.int .u8 U.toNat] 5) = V := ⟨_, rfl⟩
              obtain ⟨v', w', hr, hE⟩ := app_byte U hV hR10 hM10 hbox10 hO10 hpw hOl.out 64
              have HE := Hid.mk hE
              clear hE hR10 hM10 hbox10 hO10
              go_wp2_with (at_builtin; refine Lib.wpList_append_run _ rfl _ _ _ _ rfl _ _ rfl rfl _ _ hr ?_)
              go_roundg (s.length + 1 - j4)
              case measure => have := hjH.out; have := HJ.out; omega
              case rel => exact ⟨j4, O ++ [U], Hid.mk (by have := hjH.out; have := HJ.out; have := hOl2.out; rw [List.length_append]; simp only [List.length_cons, List.length_nil]; omega), HE.out.1, HE.out.2.1, HE.out.2.2.1, HE.out.2.2.2, hnew⟩
            · have hd4 : decide ((j4 : Int) ≤ s.length) = false := by rw [decide_eq_false_iff_not]; omega
              have hl4' : ¬ (j4 : Int) ≤ s.length := by omega
              have HJ := Hid.mk (show j < j2 ∧ j2 ≤ s.length + 1 by have := HJ1.out; have := HJ2.out; omega)
              have HJ4 := Hid.mk (show j2 + 2 = j4 ∧ s.length < j4 from ⟨hj4, by omega⟩)
              clear hj4
              refine region_up (W := W7) (by kernel_rfl) (by kernel_rfl) (Up.refl _) ?_
              refine quiet_value (v := .int .u8 120) rfl (fun _ _ => rfl) ?_
              simp only [Act.put, List.setIfInBounds_toArray, List.set_cons_zero, List.set_cons_succ]
              refine quiet_value (v := .bool true) rfl (fun _ _ => (by go_simp)) ?_
              simp only [Act.put, List.setIfInBounds_toArray, List.set_cons_zero, List.set_cons_succ]
              refine quiet_value (v := .bool true) rfl (fun _ _ => rfl) ?_
              simp only [Act.put, List.setIfInBounds_toArray, List.set_cons_zero, List.set_cons_succ]
              refine quiet_value (v := .pointer (some ⟨p, 0, none⟩)) rfl (fun _ _ => rfl) ?_
              simp only [Act.put, List.setIfInBounds_toArray, List.set_cons_zero, List.set_cons_succ]
              refine quiet_value (v := .pointer (some ⟨p, 0, none⟩)) rfl (fun _ _ => (by go_simp)) ?_
              simp only [Act.put, List.setIfInBounds_toArray, List.set_cons_zero, List.set_cons_succ]
              refine quiet_value (v := .pointer (some ⟨p, 1, none⟩)) rfl (fun _ _ => (by go_simp)) ?_
              simp only [Act.put, List.setIfInBounds_toArray, List.set_cons_zero, List.set_cons_succ]
              refine quiet_value (v := .int .i64 j2) rfl (fun W h => (by have u0 := cell_below h.out _ _ _ e1; go_simp)) ?_
              simp only [Act.put, List.setIfInBounds_toArray, List.set_cons_zero, List.set_cons_succ]
              refine quiet_value (v := .int .i64 j4) rfl (fun _ _ => (by go_simp)) ?_
              simp only [Act.put, List.setIfInBounds_toArray, List.set_cons_zero, List.set_cons_succ]
              refine quiet_value (v := .pointer (some ⟨p, 0, none⟩)) rfl (fun _ _ => rfl) ?_
              simp only [Act.put, List.setIfInBounds_toArray, List.set_cons_zero, List.set_cons_succ]
              refine quiet_value (v := .pointer (some ⟨p, 0, none⟩)) rfl (fun _ _ => (by go_simp)) ?_
              simp only [Act.put, List.setIfInBounds_toArray, List.set_cons_zero, List.set_cons_succ]
              refine quiet_value (v := .pointer (some ⟨p, 0, none⟩)) rfl (fun _ _ => (by go_simp)) ?_
              simp only [Act.put, List.setIfInBounds_toArray, List.set_cons_zero, List.set_cons_succ]
              refine quiet_value (v := .string (tx s)) rfl (fun W h => (by have u0 := cell_below h.out _ _ _ e0; go_simp)) ?_
              simp only [Act.put, List.setIfInBounds_toArray, List.set_cons_zero, List.set_cons_succ]
              refine quiet_value (v := .int .i64 s.length) rfl (fun _ _ => (by go_simp)) ?_
              simp only [Act.put, List.setIfInBounds_toArray, List.set_cons_zero, List.set_cons_succ]
              refine quiet_value (v := .bool false) rfl (fun _ _ => (by go_simp)) ?_
              simp only [Act.put, List.setIfInBounds_toArray, List.set_cons_zero, List.set_cons_succ]
              refine quiet_value (v := .bool false) rfl (fun _ _ => (by go_simp)) ?_
              simp only [Act.put, List.setIfInBounds_toArray, List.set_cons_zero, List.set_cons_succ]
              refine quiet_nil ?_
              intro w8 hw8
              obtain ⟨hR8, hM8, hbox8, hO8⟩ := keep4 hR7 hM7 hbox7 hO7 hw8.out
              clear hR7 hM7 hbox7 hO7 hw8 e0 e1 e2 y0 y1 y2
              go_upto_region 13 with fail
              have hnew := Hid.mk (by
                rcases hxx.out with ⟨_, e⟩ | ⟨_, e⟩
                · exact half_two (by have := hH.out; rw [e] at this; exact this) (fun _ => by rw [List.length_drop]; have := HJ4.out; omega)
                · exact half_none 120 (by have := hH.out; rw [e] at this; exact this) _)
              obtain ⟨V, hV⟩ : ∃ V, w8.alloc (.cells #[.int .u8 120] 5) = V := ⟨_, rfl⟩
              obtain ⟨v', w', hr, hE⟩ := app_byte (120 : UInt8) (show w8.alloc (.cells #[.int .u8 (120 : UInt8).toNat] 5) = V from hV) hR8 hM8 hbox8 hO8 hpw hOl.out 64
              have HE := Hid.mk hE
              clear hE hR8 hM8 hbox8 hO8
              go_wp2_with (at_builtin; refine Lib.wpList_append_run _ rfl _ _ _ _ rfl _ _ rfl rfl _ _ hr ?_)
              go_roundg (s.length + 1 - j2)
              case measure => have := hjH.out; have := HJ.out; omega
              case rel => exact ⟨j2, O ++ [120], Hid.mk (by have := hjH.out; have := HJ.out; have := hOl2.out; rw [List.length_append]; simp only [List.length_cons, List.length_nil]; omega), HE.out.1, HE.out.2.1, HE.out.2.2.1, HE.out.2.2.2, hnew⟩
          · have h120' : ((x.toNat : Int) == 120) = false := by
              rw [beq_eq_false_iff_ne]
              intro e
              exact h120 (UInt8.toNat.inj (by have h5 : (120 : UInt8).toNat = 120 := rfl; omega))
            have h120'' : ¬ ((x.toNat : Int) = 120) := by simpa using h120'
            have HJ := Hid.mk (show j < j2 ∧ j2 ≤ s.length + 1 by have := HJ1.out; have := HJ2.out; omega)
            refine region_up (W := W7) (by kernel_rfl) (by kernel_rfl) (Up.refl _) ?_
            refine quiet_value (v := .int .u8 x.toNat) rfl (fun _ _ => rfl) ?_
            simp only [Act.put, List.setIfInBounds_toArray, List.set_cons_zero, List.set_cons_succ]
            refine quiet_value (v := .bool false) rfl (fun _ _ => (by go_simp)) ?_
            simp only [Act.put, List.setIfInBounds_toArray, List.set_cons_zero, List.set_cons_succ]
            refine quiet_value (v := .bool false) rfl (fun _ _ => rfl) ?_
            simp only [Act.put, List.setIfInBounds_toArray, List.set_cons_zero, List.set_cons_succ]
            refine quiet_not rfl ?_
            simp only [Act.put, List.setIfInBounds_toArray, List.set_cons_zero, List.set_cons_succ]
            refine quiet_not rfl ?_
            simp only [Act.put, List.setIfInBounds_toArray, List.set_cons_zero, List.set_cons_succ]
            refine quiet_not rfl ?_
            simp only [Act.put, List.setIfInBounds_toArray, List.set_cons_zero, List.set_cons_succ]
            refine quiet_not rfl ?_
            simp only [Act.put, List.setIfInBounds_toArray, List.set_cons_zero, List.set_cons_succ]
            refine quiet_not rfl ?_
            simp only [Act.put, List.setIfInBounds_toArray, List.set_cons_zero, List.set_cons_succ]
            refine quiet_not rfl ?_
            simp only [Act.put, List.setIfInBounds_toArray, List.set_cons_zero, List.set_cons_succ]
            refine quiet_not rfl ?_
            simp only [Act.put, List.setIfInBounds_toArray, List.set_cons_zero, List.set_cons_succ]
            refine quiet_not rfl ?_
            simp only [Act.put, List.setIfInBounds_toArray, List.set_cons_zero, List.set_cons_succ]
            refine quiet_not rfl ?_
            simp only [Act.put, List.setIfInBounds_toArray, List.set_cons_zero, List.set_cons_succ]
            refine quiet_not rfl ?_
            simp only [Act.put, List.setIfInBounds_toArray, List.set_cons_zero, List.set_cons_succ]
            refine quiet_not rfl ?_
            simp only [Act.put, List.setIfInBounds_toArray, List.set_cons_zero, List.set_cons_succ]
            refine quiet_value (v := .bool false) rfl (fun _ _ => (by go_simp)) ?_
            simp only [Act.put, List.setIfInBounds_toArray, List.set_cons_zero, List.set_cons_succ]
            refine quiet_nil ?_
            intro w8 hw8
            obtain ⟨hR8, hM8, hbox8, hO8⟩ := keep4 hR7 hM7 hbox7 hO7 hw8.out
            clear hR7 hM7 hbox7 hO7 hw8 e0 e1 e2 y0 y1 y2
            go_upto_region 13 with fail
            have hnew := Hid.mk (by
              rcases hxx.out with ⟨_, e⟩ | ⟨_, e⟩
              · exact half_two (by have := hH.out; rw [e] at this; exact this) (fun e => absurd e h120)
              · exact half_none x (by have := hH.out; rw [e] at this; exact this) _)
            obtain ⟨V, hV⟩ : ∃ V, w8.alloc (.cells #[.int .u8 x.toNat] 5) = V := ⟨_, rfl⟩
            obtain ⟨v', w', hr, hE⟩ := app_byte x hV hR8 hM8 hbox8 hO8 hpw hOl.out 64
            have HE := Hid.mk hE
            clear hE hR8 hM8 hbox8 hO8
            go_wp2_with (at_builtin; refine Lib.wpList_append_run _ rfl _ _ _ _ rfl _ _ rfl rfl _ _ hr ?_)
            go_roundg (s.length + 1 - j2)
            case measure => have := hjH.out; have := HJ.out; omega
            case rel => exact ⟨j2, O ++ [x], Hid.mk (by have := hjH.out; have := HJ.out; have := hOl2.out; rw [List.length_append]; simp only [List.length_cons, List.length_nil]; omega), HE.out.1, HE.out.2.1, HE.out.2.2.1, HE.out.2.2.2, hnew⟩
        · have h92' : ((c.toNat : Int) == 92) = false := by
            rw [beq_eq_false_iff_ne]
            intro e
            exact h92 (UInt8.toNat.inj (by have h5 : (92 : UInt8).toNat = 92 := rfl; omega))
          have h92'' : ¬ ((c.toNat : Int) = 92) := by simpa using h92'
          have HJ := Hid.mk (show j < j1 ∧ j1 ≤ s.length + 1 by have := HJ1.out; omega)
          go_upto_region 13 with fail
          try rw [hW5]
          clear hW5 d0 d1 d2 g0 g1 g2
          have hnew := Hid.mk (half_one (by have := hH.out; rw [hdj.out] at this; exact this) h39 h92)
          obtain ⟨V, hV⟩ : ∃ V, W5.alloc (.cells #[.int .u8 c.toNat] 5) = V := ⟨_, rfl⟩
          obtain ⟨v', w', hr, hE⟩ := app_byte c hV hR5 hM5 hbox5 hO5 hpw hOl.out 64
          have HE := Hid.mk hE
          clear hE hR5 hM5 hbox5 hO5
          go_wp2_with (at_builtin; refine Lib.wpList_append_run _ rfl _ _ _ _ rfl _ _ rfl rfl _ _ hr ?_)
          go_roundg (s.length + 1 - j1)
          case measure => have := hjH.out; have := HJ.out; omega
          case rel => exact ⟨j1, O ++ [c], Hid.mk (by have := hjH.out; have := HJ.out; have := hOl2.out; rw [List.length_append]; simp only [List.length_cons, List.length_nil]; omega), HE.out.1, HE.out.2.1, HE.out.2.2.1, HE.out.2.2.2, hnew⟩
    · skip
      refine region_up (W := wr) (by kernel_rfl) (by kernel_rfl) (Up.refl _) ?_
      refine quiet_value (v := .pointer (some ⟨p, 0, none⟩)) rfl (fun _ _ => rfl) ?_
      simp only [Act.put, List.setIfInBounds_toArray, List.set_cons_zero, List.set_cons_succ]
      refine quiet_value (v := .pointer (some ⟨p, 0, none⟩)) rfl (fun _ _ => (by go_simp)) ?_
      simp only [Act.put, List.setIfInBounds_toArray, List.set_cons_zero, List.set_cons_succ]
      refine quiet_value (v := .pointer (some ⟨p, 2, none⟩)) rfl (fun _ _ => (by go_simp)) ?_
      simp only [Act.put, List.setIfInBounds_toArray, List.set_cons_zero, List.set_cons_succ]
      refine quiet_value (v := .bool false) rfl (fun W h => (by have u0 := cell_below h.out _ _ _ c2; go_simp)) ?_
      simp only [Act.put, List.setIfInBounds_toArray, List.set_cons_zero, List.set_cons_succ]
      refine quiet_value (v := .bool true) rfl (fun _ _ => (by go_simp)) ?_
      simp only [Act.put, List.setIfInBounds_toArray, List.set_cons_zero, List.set_cons_succ]
      refine quiet_value (v := .bool true) rfl (fun _ _ => rfl) ?_
      simp only [Act.put, List.setIfInBounds_toArray, List.set_cons_zero, List.set_cons_succ]
      refine quiet_value (v := .pointer (some ⟨p, 0, none⟩)) rfl (fun _ _ => rfl) ?_
      simp only [Act.put, List.setIfInBounds_toArray, List.set_cons_zero, List.set_cons_succ]
      refine quiet_value (v := .pointer (some ⟨p, 0, none⟩)) rfl (fun _ _ => (by go_simp)) ?_
      simp only [Act.put, List.setIfInBounds_toArray, List.set_cons_zero, List.set_cons_succ]
      refine quiet_value (v := .pointer (some ⟨p, 1, none⟩)) rfl (fun _ _ => (by go_simp)) ?_
      simp only [Act.put, List.setIfInBounds_toArray, List.set_cons_zero, List.set_cons_succ]
      refine quiet_value (v := .int .i64 j) rfl (fun W h => (by have u0 := cell_below h.out _ _ _ c1; go_simp)) ?_
      simp only [Act.put, List.setIfInBounds_toArray, List.set_cons_zero, List.set_cons_succ]
      refine quiet_value (v := .pointer (some ⟨p, 0, none⟩)) rfl (fun _ _ => rfl) ?_
      simp only [Act.put, List.setIfInBounds_toArray, List.set_cons_zero, List.set_cons_succ]
      refine quiet_value (v := .pointer (some ⟨p, 0, none⟩)) rfl (fun _ _ => (by go_simp)) ?_
      simp only [Act.put, List.setIfInBounds_toArray, List.set_cons_zero, List.set_cons_succ]
      refine quiet_value (v := .pointer (some ⟨p, 0, none⟩)) rfl (fun _ _ => (by go_simp)) ?_
      simp only [Act.put, List.setIfInBounds_toArray, List.set_cons_zero, List.set_cons_succ]
      refine quiet_value (v := .string (tx s)) rfl (fun W h => (by have u0 := cell_below h.out _ _ _ c0; go_simp)) ?_
      simp only [Act.put, List.setIfInBounds_toArray, List.set_cons_zero, List.set_cons_succ]
      refine quiet_value (v := .int .i64 s.length) rfl (fun _ _ => (by go_simp)) ?_
      simp only [Act.put, List.setIfInBounds_toArray, List.set_cons_zero, List.set_cons_succ]
      refine quiet_value (v := .bool false) rfl (fun _ _ => (by go_simp)) ?_
      simp only [Act.put, List.setIfInBounds_toArray, List.set_cons_zero, List.set_cons_succ]
      refine quiet_value (v := .bool false) rfl (fun _ _ => (by go_simp)) ?_
      simp only [Act.put, List.setIfInBounds_toArray, List.set_cons_zero, List.set_cons_succ]
      refine quiet_value (v := .bool false) rfl (fun _ _ => rfl) ?_
      simp only [Act.put, List.setIfInBounds_toArray, List.set_cons_zero, List.set_cons_succ]
      refine quiet_not rfl ?_
      simp only [Act.put, List.setIfInBounds_toArray, List.set_cons_zero, List.set_cons_succ]
      refine quiet_not rfl ?_
      simp only [Act.put, List.setIfInBounds_toArray, List.set_cons_zero, List.set_cons_succ]
      refine quiet_not rfl ?_
      simp only [Act.put, List.setIfInBounds_toArray, List.set_cons_zero, List.set_cons_succ]
      refine quiet_not rfl ?_
      simp only [Act.put, List.setIfInBounds_toArray, List.set_cons_zero, List.set_cons_succ]
      refine quiet_not rfl ?_
      simp only [Act.put, List.setIfInBounds_toArray, List.set_cons_zero, List.set_cons_succ]
      refine quiet_not rfl ?_
      simp only [Act.put, List.setIfInBounds_toArray, List.set_cons_zero, List.set_cons_succ]
      refine quiet_not rfl ?_
      simp only [Act.put, List.setIfInBounds_toArray, List.set_cons_zero, List.set_cons_succ]
      refine quiet_not rfl ?_
      simp only [Act.put, List.setIfInBounds_toArray, List.set_cons_zero, List.set_cons_succ]
      refine quiet_not rfl ?_
      simp only [Act.put, List.setIfInBounds_toArray, List.set_cons_zero, List.set_cons_succ]
      refine quiet_not rfl ?_
      simp only [Act.put, List.setIfInBounds_toArray, List.set_cons_zero, List.set_cons_succ]
      refine quiet_value (v := .bool false) rfl (fun _ _ => (by go_simp)) ?_
      simp only [Act.put, List.setIfInBounds_toArray, List.set_cons_zero, List.set_cons_succ]
      refine quiet_nil ?_
      intro w3 hw3
      obtain ⟨hR3, hM3, hbox3, hO3⟩ := keep4 hR hM hbox hO hw3.out
      clear hR hM hbox hO hw3 c0 c1 c2 f0 f1 f2
      obtain ⟨⟨d0, d1, d2⟩, g0, g1, g2⟩ := hR3.cells
      obtain ⟨je, hje⟩ : ∃ je, j = je := ⟨_, rfl⟩
      have hkH := Hid.mk (show i ≤ je ∧ je ≤ s.length + 1 by have := hjH.out; omega)
      have hHE := Hid.mk (show Half Z O [] by have := hH.out; rw [List.drop_of_length_le (by omega)] at this; exact this)
      have hgn : goesOn s j [39] = false := by
        rw [Bool.eq_false_iff]
        intro e
        obtain ⟨r, hr⟩ := (goesOn_is s j [39]).1 e
        rw [List.drop_of_length_le (by omega)] at hr
        cases hr
      obtain ⟨oa, ocap, rfl⟩ := hO3.slice
      have hE2 := Hid.mk (eat_no p s [39] j false w3 hR3 (by omega) (by have := hjH.out; omega) (by simp) (by simp) (Or.inr hgn))
      have HO3 := Hid.mk hO3
      have HM3 := Hid.mk hM3
      have HX3 := Hid.mk hbox3
      clear hO3 hM3 hbox3 hR3 d0 d1 d2 g0 g1 g2
      go_upto_region 16 with (
        go_at_call 31
        refine hE2.out.mono ?_
        rintro e w5 ⟨rfl, h5, m5⟩
        have hcv := (HO3.out.mv m5 (by omega)).string
        have H5 := Hid.mk h5
        have M5 := Hid.mk m5
        clear h5 m5)
      obtain ⟨W6, hW6⟩ : ∃ W6, w5.alloc (.cells #[.int .i64 2, .int .i64 0, .string (tx O), .slice none 0 0] 24) = W6 := ⟨_, rfl⟩
      rw [hW6]
      have hb6 : Below w5.heap.size w5 W6 := (by rw [← hW6]; exact (Up.refl w5).alloc.out)
      have hx6 : W6.heap[w5.heap.size]? = some (.cells #[.int .i64 2, .int .i64 0, .string (tx O), .slice none 0 0] 24) := (by rw [← hW6]; exact new_block _ _)
      have hR6 : Rd W6 p s (je) true := (show Rd w5 p s je true from hje ▸ H5.out).below hb6
      have hM6 := (HM3.out.trans M5.out).trans (Mv.up hb6)
      have hbox6 := (hb6.block _ (Array.getElem?_eq_some_iff.1 (M5.out.box HX3.out hne)).1).trans (M5.out.box HX3.out hne)
      have HB6 := Hid.mk (show p < w5.heap.size from Nat.lt_of_lt_of_le hpw (HM3.out.trans M5.out).size)
      clear hb6 hW6
      obtain ⟨⟨e0, e1, e2⟩, g0, g1, g2⟩ := hR6.cells
      obtain ⟨⟨p0, p1, p2, p3⟩, _⟩ := kept4 hx6 (Below.refl _ _)
      refine region_up (W := W6) (by kernel_rfl) (by kernel_rfl) (Up.refl _) ?_
      refine quiet_value (v := .pointer (some ⟨p, 0, none⟩)) rfl (fun _ _ => rfl) ?_
      simp only [Act.put, List.setIfInBounds_toArray, List.set_cons_zero, List.set_cons_succ]
      refine quiet_value (v := .pointer (some ⟨p, 0, none⟩)) rfl (fun _ _ => (by go_simp)) ?_
      simp only [Act.put, List.setIfInBounds_toArray, List.set_cons_zero, List.set_cons_succ]
      refine quiet_value (v := .pointer (some ⟨p, 2, none⟩)) rfl (fun _ _ => (by go_simp)) ?_
      simp only [Act.put, List.setIfInBounds_toArray, List.set_cons_zero, List.set_cons_succ]
      refine quiet_value (v := .bool true) rfl (fun W h => (by have u0 := cell_below h.out _ _ _ e2; go_simp)) ?_
      simp only [Act.put, List.setIfInBounds_toArray, List.set_cons_zero, List.set_cons_succ]
      refine quiet_value (v := .bool true) rfl (fun _ _ => rfl) ?_
      simp only [Act.put, List.setIfInBounds_toArray, List.set_cons_zero, List.set_cons_succ]
      refine quiet_not rfl ?_
      simp only [Act.put, List.setIfInBounds_toArray, List.set_cons_zero, List.set_cons_succ]
      refine quiet_not rfl ?_
      simp only [Act.put, List.setIfInBounds_toArray, List.set_cons_zero, List.set_cons_succ]
      refine quiet_not rfl ?_
      simp only [Act.put, List.setIfInBounds_toArray, List.set_cons_zero, List.set_cons_succ]
      refine quiet_value (v := .bool true) rfl (fun _ _ => (by go_simp)) ?_
      simp only [Act.put, List.setIfInBounds_toArray, List.set_cons_zero, List.set_cons_succ]
      refine quiet_value (v := .bool true) rfl (fun _ _ => rfl) ?_
      simp only [Act.put, List.setIfInBounds_toArray, List.set_cons_zero, List.set_cons_succ]
      refine quiet_not rfl ?_
      simp only [Act.put, List.setIfInBounds_toArray, List.set_cons_zero, List.set_cons_succ]
      refine quiet_not rfl ?_
      simp only [Act.put, List.setIfInBounds_toArray, List.set_cons_zero, List.set_cons_succ]
      refine quiet_not rfl ?_
      simp only [Act.put, List.setIfInBounds_toArray, List.set_cons_zero, List.set_cons_succ]
      refine quiet_not rfl ?_
      simp only [Act.put, List.setIfInBounds_toArray, List.set_cons_zero, List.set_cons_succ]
      refine quiet_not rfl ?_
      simp only [Act.put, List.setIfInBounds_toArray, List.set_cons_zero, List.set_cons_succ]
      refine quiet_not rfl ?_
      simp only [Act.put, List.setIfInBounds_toArray, List.set_cons_zero, List.set_cons_succ]
      refine quiet_not rfl ?_
      simp only [Act.put, List.setIfInBounds_toArray, List.set_cons_zero, List.set_cons_succ]
      refine quiet_not rfl ?_
      simp only [Act.put, List.setIfInBounds_toArray, List.set_cons_zero, List.set_cons_succ]
      refine quiet_not rfl ?_
      simp only [Act.put, List.setIfInBounds_toArray, List.set_cons_zero, List.set_cons_succ]
      refine quiet_not rfl ?_
      simp only [Act.put, List.setIfInBounds_toArray, List.set_cons_zero, List.set_cons_succ]
      refine quiet_not rfl ?_
      simp only [Act.put, List.setIfInBounds_toArray, List.set_cons_zero, List.set_cons_succ]
      refine quiet_not rfl ?_
      simp only [Act.put, List.setIfInBounds_toArray, List.set_cons_zero, List.set_cons_succ]
      refine quiet_not rfl ?_
      simp only [Act.put, List.setIfInBounds_toArray, List.set_cons_zero, List.set_cons_succ]
      refine quiet_value (v := .bool true) rfl (fun _ _ => (by go_simp)) ?_
      simp only [Act.put, List.setIfInBounds_toArray, List.set_cons_zero, List.set_cons_succ]
      refine quiet_nil ?_
      intro W7 hw7
      have hR7 := hR6.below hw7.out
      have hM7 := hM6.trans (Mv.up hw7.out)
      have hx7 := (hw7.out.block _ (Array.getElem?_eq_some_iff.1 hx6).1).trans hx6
      have hbox7 := (hw7.out.block _ (Array.getElem?_eq_some_iff.1 hbox6).1).trans hbox6
      clear e0 e1 e2 p0 p1 p2 p3 g0 g1 g2 hw7
      obtain ⟨⟨e0, e1, e2⟩, g0, g1, g2⟩ := hR7.cells
      obtain ⟨⟨p0, p1, p2, p3⟩, _⟩ := kept4 hx7 (Below.refl _ _)
      obtain ⟨⟨q0, q1, q2, q3⟩, y0, y1, y2, y3⟩ := kept4 hbox7 (Below.refl _ _)
      obtain ⟨W8, hW8⟩ : ∃ W8, W7.setCell ⟨p, 2, none⟩ (.bool true) = W8 := ⟨_, rfl⟩
      have hR8 : Rd W8 p s (je) true := by rw [← hW8]; exact hR7.worse
      have hM8 : Mv p w W8 := by rw [← hW8]; exact hM7.set
      have hx8 : W8.heap[w5.heap.size]? = some (.cells #[.int .i64 2, .int .i64 0, .string (tx O), .slice none 0 0] 24) := by rw [← hW8]; exact (Below.heap_setCell _ _ _ _ (by show w5.heap.size ≠ p; have := HB6.out; omega)).trans hx7
      have hbox8 : W8.heap[w.heap.size]? = some zeroTerm := by rw [← hW8]; exact (Below.heap_setCell _ _ _ _ (by show w.heap.size ≠ p; omega)).trans hbox7
      go_upto_region 18 with fail
      try rw [hW8]
      clear e0 e1 e2 p0 p1 p2 p3 g0 g1 g2 q0 q1 q2 q3 y0 y1 y2 y3 hW8 hR7 hM7 hx7 hbox7
      obtain ⟨⟨p0, p1, p2, p3⟩, _⟩ := kept4 hx8 (Below.refl _ _)
      obtain ⟨⟨q0, q1, q2, q3⟩, y0, y1, y2, y3⟩ := kept4 hbox8 (Below.refl _ _)
      have HF := Hid.mk (show Rd W8 p s (je) true ∧ Mv p w W8 from ⟨hR8, hM8⟩)
      clear hR8 hM8 hx8 hbox8
      go_wp2
      refine ret_stored rfl rfl rfl q0 q1 q2 q3 (quo_out true HF.out.1 HF.out.2 hpw hOl.out hkH.out ?_)
      exact Or.inr ⟨rfl, quo_no hHE.out⟩
end Go.Proofs.YtnbekfpkmebmbaaGreatDoor
