/-
  The program's reader: a whole text.
-/
import Derived.Test.YtnbekfpkmebmbaaGreatDoorZTextR9
import Derived.Test.YtnbekfpkmebmbaaGreatDoorZTextDec
namespace Go.Proofs.YtnbekfpkmebmbaaGreatDoor
open Go.RowKit Go.Deep

/-- A text is too long. -/
def fault3 : Ending := .panicked [{ v := .iface 31 (.int .i64 3), recovered := false }]
theorem whole_tooLong (p : Nat) (s : List UInt8) (i g d : Nat) (w : World) (h : RdP w p s i g d) (hg : g ≤ 65536) :
    Calls Tryz.prog 21 #[.pointer (some ⟨p, 0, none⟩)] w fun e w' => e = .returned (.bool false) ∧ w = w' := tooLong_any p s i g d w h hg

set_option maxRecDepth 100000 in
set_option maxHeartbeats 2000000 in
theorem whole_any (s : List UInt8) (φ : Nat → Nat) (hs : s.length ≤ 200000) (hφ : Pot s φ) (h0 : φ 0 ≤ 65535)
    (p : Nat) (w : World) (h : RdP w p s 0 0 0) (hw : Wld w) (hp : 6 ≤ p) :
    Calls Tryz.prog 9 #[.pointer (some ⟨p, 0, none⟩)] w fun e w' => Mv p w w' ∧
      ((∃ T v, parse true (s.length + 1) s = some (T, []) ∧ T.check ≠ 3 ∧ e = .returned v ∧ Lies w' (fun b => w.heap.size ≤ b) T v) ∨ (∃ T, parse true (s.length + 1) s = some (T, []) ∧ T.check = 3 ∧ e = fault3) ∨ (e = fault4 ∧ ∀ T, parse true (s.length + 1) s ≠ some (T, []))) := by
  have hlt := h.lt
  have hte := Hid.mk (fun w1 (h1 : RdP w1 p s 0 0 0) (hw1 : Wld w1) => term_any s φ hs hφ (s.length + 1) p 0 0 0 w1 h1 hw1 hp ⟨by omega, by omega, by omega⟩ (by omega))
  obtain ⟨W0, hW0⟩ : ∃ W0, w.alloc zeroTerm = W0 := ⟨_, rfl⟩
  have hbox : W0.heap[w.heap.size]? = some zeroTerm := by rw [← hW0]; exact new_block w _
  have hu0 : Up w W0 := by rw [← hW0]; exact (Up.refl w).alloc
  have hz0 : w.heap.size < W0.heap.size := (Array.getElem?_eq_some_iff.1 hbox).1
  have hR0 := h.up hu0
  have hw0 := hw.next hu0
  have hsz := tx_size s
  have HS := Hid.mk hs
  clear hs hφ hw
  go_enter Tryz.func9, Tryz.ntmps9
  go_wp2_with (first
    | (go_at_call 19; refine (hte.out _ hR0 hw0).mono ?_; rintro e w1 ⟨k1, ⟨T, r, j, g', v, eT, rfl, hT, h1, e2, hj, hjs, hg⟩ | ⟨rfl, eT⟩⟩; all_goals (try unfold fault4); all_goals (have hM1 := (Mv.up hu0).trans k1; have hbox1 := k1.box hbox (by omega)); all_goals (first | (have hT' := hT; obtain ⟨kk, nn, ss, aa, mm, cc, rfl⟩ := hT'.agg) | skip)))
  · obtain ⟨W2, hW2⟩ : ∃ W2, w1.alloc (.cells #[.int .i64 kk, .int .i64 nn, .string ss, .slice aa mm cc] 24) = W2 := ⟨_, rfl⟩
    have hu2 : Up w1 W2 := by rw [← hW2]; exact (Up.refl w1).alloc
    have hboxT : W2.heap[w1.heap.size]? = some (.cells #[.int .i64 kk, .int .i64 nn, .string ss, .slice aa mm cc] 24) := by rw [← hW2]; exact new_block w1 _
    have hbox2 : W2.heap[w.heap.size]? = some zeroTerm := (hu2.out.block _ (Array.getElem?_eq_some_iff.1 hbox1).1).trans hbox1
    have h2 := h1.up hu2
    have hT2 := hT.below hu2.out
    have hw2 : Wld W2 := (k1.wld hw0 hp).next hu2
    have hM2 := hM1.trans (Mv.up hu2)
    have hle1 : w.heap.size ≤ w1.heap.size := hM1.size
    rw [hW2]
    have HW2 := Hid.mk hW2
    have HT := Hid.mk eT
    have HG := Hid.mk (show g' ≤ 65536 by omega)
    have hps := Hid.mk (parse_some true _ _ _ _ eT)
    have HS0 := Hid.mk hz0
    clear hW2 hu2 hbox1 h1 hT k1 hM1 hbox hu0 hz0 hR0 hw0 hte h
    obtain ⟨⟨c0, c1, c2, c3⟩, _⟩ := h2.cells
    by_cases hjl : j = s.length
    · subst hjl
      have hr : r = [] := by rw [← e2]; simp
      subst hr
      clear e2 eT
      refine wp_region_held (S := Up W2) (by kernel_rfl) ?_
      refine chain_take (i := 0) (d := 6) (v := .pointer (some ⟨p, 0, none⟩)) rfl rfl (by kernel_rfl) (by kernel_rfl) (by kernel_rfl) rfl (fun _ _ => rfl) (fun _ _ _ h => h) (Up.refl W2).drew ?_
      simp only [Act.put, List.setIfInBounds_toArray, List.set_cons_zero, List.set_cons_succ]
      refine chain_take (i := 1) (d := 7) (v := .pointer (some ⟨p, 0, none⟩)) rfl rfl (by kernel_rfl) (by kernel_rfl) (by kernel_rfl) rfl (fun _ _ => (by go_simp)) (fun _ _ _ h => h) (Up.refl W2).drew ?_
      simp only [Act.put, List.setIfInBounds_toArray, List.set_cons_zero, List.set_cons_succ]
      refine chain_take (i := 2) (d := 8) (v := .pointer (some ⟨p, 1, none⟩)) rfl rfl (by kernel_rfl) (by kernel_rfl) (by kernel_rfl) rfl (fun _ _ => (by go_simp)) (fun _ _ _ h => h) (Up.refl W2).drew ?_
      simp only [Act.put, List.setIfInBounds_toArray, List.set_cons_zero, List.set_cons_succ]
      refine chain_take (i := 3) (d := 9) (v := .int .i64 s.length) rfl rfl (by kernel_rfl) (by kernel_rfl) (by kernel_rfl) rfl (fun W h => (by have u0 := cell_below h.out _ _ _ c1; go_simp)) (fun _ _ _ h => h) (Up.refl W2).drew ?_
      simp only [Act.put, List.setIfInBounds_toArray, List.set_cons_zero, List.set_cons_succ]
      refine chain_take (i := 4) (d := 10) (v := .pointer (some ⟨p, 0, none⟩)) rfl rfl (by kernel_rfl) (by kernel_rfl) (by kernel_rfl) rfl (fun _ _ => rfl) (fun _ _ _ h => h) (Up.refl W2).drew ?_
      simp only [Act.put, List.setIfInBounds_toArray, List.set_cons_zero, List.set_cons_succ]
      refine chain_take (i := 5) (d := 11) (v := .pointer (some ⟨p, 0, none⟩)) rfl rfl (by kernel_rfl) (by kernel_rfl) (by kernel_rfl) rfl (fun _ _ => (by go_simp)) (fun _ _ _ h => h) (Up.refl W2).drew ?_
      simp only [Act.put, List.setIfInBounds_toArray, List.set_cons_zero, List.set_cons_succ]
      refine chain_take (i := 6) (d := 12) (v := .pointer (some ⟨p, 0, none⟩)) rfl rfl (by kernel_rfl) (by kernel_rfl) (by kernel_rfl) rfl (fun _ _ => (by go_simp)) (fun _ _ _ h => h) (Up.refl W2).drew ?_
      simp only [Act.put, List.setIfInBounds_toArray, List.set_cons_zero, List.set_cons_succ]
      refine chain_take (i := 7) (d := 13) (v := .string (tx s)) rfl rfl (by kernel_rfl) (by kernel_rfl) (by kernel_rfl) rfl (fun W h => (by have u0 := cell_below h.out _ _ _ c0; go_simp)) (fun _ _ _ h => h) (Up.refl W2).drew ?_
      simp only [Act.put, List.setIfInBounds_toArray, List.set_cons_zero, List.set_cons_succ]
      refine chain_take (i := 8) (d := 14) (v := .int .i64 s.length) rfl rfl (by kernel_rfl) (by kernel_rfl) (by kernel_rfl) rfl (fun _ _ => (by go_simp)) (fun _ _ _ h => h) (Up.refl W2).drew ?_
      simp only [Act.put, List.setIfInBounds_toArray, List.set_cons_zero, List.set_cons_succ]
      refine chain_take (i := 9) (d := 15) (v := .bool true) rfl rfl (by kernel_rfl) (by kernel_rfl) (by kernel_rfl) rfl (fun _ _ => (by go_simp)) (fun _ _ _ h => h) (Up.refl W2).drew ?_
      simp only [Act.put, List.setIfInBounds_toArray, List.set_cons_zero, List.set_cons_succ]
      refine chain_call (i := 10) (d := 16) (f := 20) (args := #[.bool true]) (by kernel_rfl) rfl rfl rfl (by go_simp) ?_
      refine (must_yes _).mono ?_
      rintro e w2 ⟨rfl, rfl⟩
      refine ⟨.tuple #[], rfl, (Up.refl W2).drew, ?_⟩
      simp only [Act.put, List.setIfInBounds_toArray, List.set_cons_zero, List.set_cons_succ]
      refine wpAnyH_done (by kernel_rfl) ?_ _
      have h3 := h2.up (Up.refl W2).drew
      have hw3 : Wld W2.drew := hw2.next (Up.refl W2).drew
      have hT3 := hT2.below (Up.refl W2).drew.out
      have hM3 : Mv p w W2.drew := hM2.trans (Mv.up (Up.refl W2).drew)
      have hboxT3 : W2.drew.heap[w1.heap.size]? = some (.cells #[.int .i64 kk, .int .i64 nn, .string ss, .slice aa mm cc] 24) := hboxT
      have hbox3 : W2.drew.heap[w.heap.size]? = some zeroTerm := hbox2
      obtain ⟨W3, hW3⟩ : ∃ W3, W2.drew = W3 := ⟨_, rfl⟩
      rw [show ({ heap := W2.heap, tape := W2.tape, drawn := W2.drawn + 1, os := W2.os, output := W2.output } : World) = W3 from hW3]
      rw [hW3] at h3 hw3 hT3 hM3 hboxT3 hbox3
      have hck := Hid.mk (checkI_any T (by have h5 := hps.out; have := (text_ge T h5.2.1).1; have h6 := congrArg List.length h5.1; have := HS.out; simp at h6; omega) _ _ W3 hT3 hw3.shapes)
      have hboxT4 := Hid.mk hboxT3
      have hbox4 := Hid.mk hbox3
      have HM3 := Hid.mk hM3
      have HT3 := Hid.mk hT3
      have htl := Hid.mk (tooLong_any p s s.length g' 0 W3 h3 HG.out)
      obtain ⟨⟨d0, d1, d2, d3⟩, _⟩ := kept4 hboxT3 (Below.refl _ _)
      clear hbox3 hboxT3 hM3 hT3 hW3 h3 hw3 c0 c1 c2 c3 hboxT hbox2 hM2 hT2 h2 hw2 hps HW2
      by_cases hc3 : T.check = 3
      · have q1 : (T.check == 3) = true := by rw [hc3]; rfl
        have HC := Hid.mk hc3
        clear hc3
        go_wp2_with (first
          | (go_at_call 21; refine htl.out.mono ?_; rintro e w9 ⟨rfl, rfl⟩)
          | (go_at_call 22; refine hck.out.mono ?_; rintro e w5 ⟨rfl, hb5⟩; have HB5 := Hid.mk hb5; clear hb5))
        exact ⟨rfl, HM3.out.trans (Mv.up HB5.out), Or.inr (Or.inl ⟨T, HT.out, HC.out, rfl⟩)⟩
      · have q1 : (T.check == 3) = false := by rw [beq_eq_false_iff_ne]; exact hc3
        have HC := Hid.mk hc3
        clear hc3
        go_wp2_with (first
          | (go_at_call 21; refine htl.out.mono ?_; rintro e w9 ⟨rfl, rfl⟩)
          | (go_at_call 22; refine hck.out.mono ?_; rintro e w5 ⟨rfl, hb5⟩; have HB5 := Hid.mk hb5; obtain ⟨⟨d0, d1, d2, d3⟩, _⟩ := kept4 hboxT4.out hb5; obtain ⟨⟨r0, r1, r2, r3⟩, f0, f1, f2, f3⟩ := kept4 hbox4.out hb5; clear hb5))
        have hT5 := HT3.out.below HB5.out
        have hle := HS0.out
        refine ret_stored rfl rfl rfl r0 r1 r2 r3 ⟨(((((HM3.out.trans (Mv.up HB5.out)).side (Nat.le_refl _)).side (Nat.le_refl _)).side (Nat.le_refl _)).side (Nat.le_refl _)), Or.inl ⟨T, _, HT.out, HC.out, rfl, ?_⟩⟩
        exact hT5.move (fun b hb => by omega) (fun b o v hb hc => by
          rw [World.cell?_of_block (w := w5) (a := ⟨b, o, none⟩) (set4_heap w5 w.heap.size _ _ _ _ b (by omega))]
          exact hc)
    · have hr : r ≠ [] := by rw [← e2]; intro e; have := congrArg List.length e; simp at this; omega
      refine wp_region_held (S := Up W2) (by kernel_rfl) ?_
      refine chain_take (i := 0) (d := 6) (v := .pointer (some ⟨p, 0, none⟩)) rfl rfl (by kernel_rfl) (by kernel_rfl) (by kernel_rfl) rfl (fun _ _ => rfl) (fun _ _ _ h => h) (Up.refl W2).drew ?_
      simp only [Act.put, List.setIfInBounds_toArray, List.set_cons_zero, List.set_cons_succ]
      refine chain_take (i := 1) (d := 7) (v := .pointer (some ⟨p, 0, none⟩)) rfl rfl (by kernel_rfl) (by kernel_rfl) (by kernel_rfl) rfl (fun _ _ => (by go_simp)) (fun _ _ _ h => h) (Up.refl W2).drew ?_
      simp only [Act.put, List.setIfInBounds_toArray, List.set_cons_zero, List.set_cons_succ]
      refine chain_take (i := 2) (d := 8) (v := .pointer (some ⟨p, 1, none⟩)) rfl rfl (by kernel_rfl) (by kernel_rfl) (by kernel_rfl) rfl (fun _ _ => (by go_simp)) (fun _ _ _ h => h) (Up.refl W2).drew ?_
      simp only [Act.put, List.setIfInBounds_toArray, List.set_cons_zero, List.set_cons_succ]
      refine chain_take (i := 3) (d := 9) (v := .int .i64 j) rfl rfl (by kernel_rfl) (by kernel_rfl) (by kernel_rfl) rfl (fun W h => (by have u0 := cell_below h.out _ _ _ c1; go_simp)) (fun _ _ _ h => h) (Up.refl W2).drew ?_
      simp only [Act.put, List.setIfInBounds_toArray, List.set_cons_zero, List.set_cons_succ]
      refine chain_take (i := 4) (d := 10) (v := .pointer (some ⟨p, 0, none⟩)) rfl rfl (by kernel_rfl) (by kernel_rfl) (by kernel_rfl) rfl (fun _ _ => rfl) (fun _ _ _ h => h) (Up.refl W2).drew ?_
      simp only [Act.put, List.setIfInBounds_toArray, List.set_cons_zero, List.set_cons_succ]
      refine chain_take (i := 5) (d := 11) (v := .pointer (some ⟨p, 0, none⟩)) rfl rfl (by kernel_rfl) (by kernel_rfl) (by kernel_rfl) rfl (fun _ _ => (by go_simp)) (fun _ _ _ h => h) (Up.refl W2).drew ?_
      simp only [Act.put, List.setIfInBounds_toArray, List.set_cons_zero, List.set_cons_succ]
      refine chain_take (i := 6) (d := 12) (v := .pointer (some ⟨p, 0, none⟩)) rfl rfl (by kernel_rfl) (by kernel_rfl) (by kernel_rfl) rfl (fun _ _ => (by go_simp)) (fun _ _ _ h => h) (Up.refl W2).drew ?_
      simp only [Act.put, List.setIfInBounds_toArray, List.set_cons_zero, List.set_cons_succ]
      refine chain_take (i := 7) (d := 13) (v := .string (tx s)) rfl rfl (by kernel_rfl) (by kernel_rfl) (by kernel_rfl) rfl (fun W h => (by have u0 := cell_below h.out _ _ _ c0; go_simp)) (fun _ _ _ h => h) (Up.refl W2).drew ?_
      simp only [Act.put, List.setIfInBounds_toArray, List.set_cons_zero, List.set_cons_succ]
      refine chain_take (i := 8) (d := 14) (v := .int .i64 s.length) rfl rfl (by kernel_rfl) (by kernel_rfl) (by kernel_rfl) rfl (fun _ _ => (by go_simp)) (fun _ _ _ h => h) (Up.refl W2).drew ?_
      simp only [Act.put, List.setIfInBounds_toArray, List.set_cons_zero, List.set_cons_succ]
      refine chain_take (i := 9) (d := 15) (v := .bool false) rfl rfl (by kernel_rfl) (by kernel_rfl) (by kernel_rfl) rfl (fun _ _ => (by go_simp; omega)) (fun _ _ _ h => h) (Up.refl W2).drew ?_
      simp only [Act.put, List.setIfInBounds_toArray, List.set_cons_zero, List.set_cons_succ]
      refine chain_dies (i := 10) (d := 16) (f := 20) (args := #[.bool false]) (by kernel_rfl) rfl rfl rfl (by go_simp) ?_
      refine (must_no _).mono ?_
      rintro e w2 ⟨rfl, rfl⟩
      refine ⟨_, rfl, ?_⟩
      exact ⟨rfl, hM2.trans (Mv.up (Up.refl W2).drew), Or.inr (Or.inr ⟨rfl, fun T' e => by have e' := HT.out; rw [List.drop_zero] at e'; rw [e'] at e; cases e; exact hr rfl⟩)⟩
  · exact ⟨rfl, hM1, Or.inr (Or.inr ⟨rfl, fun T' e => by rw [List.drop_zero] at eT; rw [eT] at e; cases e⟩)⟩

end Go.Proofs.YtnbekfpkmebmbaaGreatDoor
