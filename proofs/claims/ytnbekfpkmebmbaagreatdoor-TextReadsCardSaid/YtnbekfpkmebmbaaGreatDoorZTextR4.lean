/-
  The program's reader: numbers and plain atoms.
-/
import Derived.Test.YtnbekfpkmebmbaaGreatDoorZTextR1
import Derived.Test.YtnbekfpkmebmbaaGreatDoorZTextR3
namespace Go.Proofs.YtnbekfpkmebmbaaGreatDoor
open Go.RowKit Go.Deep

theorem tx_slice (s : List UInt8) (i j : Nat) (h : i ≤ j) : (tx s).extract i j = tx ((s.drop i).take (j - i)) := by
  have := tx_part s i (j - i)
  rwa [show i + (j - i) = j by omega] at this
theorem take_while (pr : UInt8 → Bool) (q : List UInt8) : q.take (q.takeWhile pr).length = q.takeWhile pr := by
  obtain ⟨h, _⟩ := span_rest pr q
  generalize q.takeWhile pr = X at *
  generalize q.drop X.length = Y at *
  rw [h, List.take_left]
theorem take_num (q : List UInt8) : q.take (numSpan q).length = numSpan q := by
  obtain ⟨h, _⟩ := numSpan_rest q
  generalize numSpan q = X at *
  generalize q.drop X.length = Y at *
  rw [h, List.take_left]
theorem makeAtom_lies {w : World} {s : List UInt8} (hs : s.length ≤ 1000000000) (S : Nat → Prop) : Lies w S (.mk 2 0 (tx s) []) (.agg #[.int .i64 2, .int .i64 0, .string (tx s), .slice none 0 0]) :=
  Lies.mk (l := []) ⟨by omega, by omega, by omega, by omega, by rw [tx_size]; omega⟩ ⟨Nat.le_refl _, by simp, Or.inl ⟨rfl, rfl, rfl⟩⟩

theorem Mv.cell {p b o : Nat} {w w' : World} {v : Value} (h : Mv p w w') (hb : b ≠ p) (hc : w.cell? ⟨b, o, none⟩ = some v) : w'.cell? ⟨b, o, none⟩ = some v := by
  have hlt := World.block_lt_of_cell? w ⟨b, o, none⟩ hc
  unfold World.cell? at hc ⊢
  simp only at hc hlt ⊢
  rw [h.block b hlt hb]
  exact hc
theorem Mv.beside {p k : Nat} {w w' : World} {v0 v1 v2 v3 : Value} (h : Mv p w w') (hk : w.heap.size ≤ k) : Mv p w (put4 w' k 0 v0 v1 v2 v3) :=
  ⟨h.os, h.tape, h.output, by rw [put4_size]; exact h.size, fun j hj hn => (put4_heap _ _ _ _ _ _ _ _ (by omega)).trans (h.block j hj hn)⟩
theorem Mv.put4 {p : Nat} {w w' : World} {v0 v1 v2 v3 : Value} (h : Mv p w w') : Mv p w (put4 w' p 0 v0 v1 v2 v3) := h.set.set.set.set
set_option maxHeartbeats 1000000 in
theorem plainR_any (p : Nat) (s : List UInt8) (i g d : Nat) (w : World) (h : RdP w p s i g d) (hi : i ≤ s.length) (hs : s.length ≤ 1000000000) :
    Calls Tryz.prog 48 #[.pointer (some ⟨p, 0, none⟩)] w fun e w' => Mv p w w' ∧
      ((∃ t r j, plainP (s.drop i) = some (t, r) ∧ e = .returned (.agg #[.int .i64 2, .int .i64 0, .string (tx t), .slice none 0 0]) ∧ RdP w' p s j g d ∧ s.drop j = r ∧ j ≤ s.length) ∨ (e = fault4 ∧ plainP (s.drop i) = none)) := by
  obtain ⟨⟨c0, c1, c2, c3⟩, f0, f1, f2, f3⟩ := h.cells
  have hsp := Hid.mk (fun w1 (h1 : RdP w1 p s i g d) => spanLetter_any p s i g d w1 h1 hi hs)
  have hml : ((s.drop i).takeWhile isWd).length ≤ s.length - i := by
    have := (List.takeWhile_sublist isWd (l := s.drop i)).length_le
    rwa [List.length_drop] at this
  have htk := take_while isWd (s.drop i)
  have hpp : plainP (s.drop i) = if plainT ((s.drop i).takeWhile isWd) = true then some ((s.drop i).takeWhile isWd, (s.drop i).drop ((s.drop i).takeWhile isWd).length) else none := rfl
  generalize (s.drop i).takeWhile isWd = X at *
  have hsl := tx_slice s i (i + X.length) (by omega)
  rw [show i + X.length - i = X.length by omega, htk] at hsl
  have hpl := Hid.mk (fun w1 => plainP_any X (by omega) w1)
  have hma := Hid.mk (fun w1 => makeAtom_any (tx X) w1 (by rw [tx_size]; omega))
  have hsz := tx_size s
  obtain ⟨W0, hW0⟩ : ∃ W0, w.alloc zeroTerm = W0 := ⟨_, rfl⟩
  have hbox : W0.heap[w.heap.size]? = some zeroTerm := by rw [← hW0]; exact new_block w _
  have hu0 : Up w W0 := by rw [← hW0]; exact (Up.refl w).alloc
  have h0 := h.up hu0
  have hlt := h.lt
  clear c0 c1 c2 c3 f0 f1 f2 f3
  obtain ⟨⟨c0, c1, c2, c3⟩, f0, f1, f2, f3⟩ := h0.cells
  go_enter Tryz.func48, Tryz.ntmps48
  go_wp2_with (first
    | (go_at_call 71; refine (hsp.out _ h0).mono ?_; rintro e w1 ⟨⟨u, rfl⟩, h1, k1⟩))
  clear c0 c1 c2 c3 f0 f1 f2 f3
  obtain ⟨⟨c0, c1, c2, c3⟩, f0, f1, f2, f3⟩ := h1.cells
  cases hpx : plainT X with
  | false =>
    rw [hpx] at hpl
    refine wp_region_held (S := Up w1) (by kernel_rfl) ?_
    refine chain_take (i := 0) (d := 10) (v := .pointer (some ⟨p, 0, none⟩)) rfl rfl (by kernel_rfl) (by kernel_rfl) (by kernel_rfl) rfl (fun _ _ => rfl) (fun _ _ _ h => h) (Up.refl w1).drew ?_
    simp only [Act.put, List.setIfInBounds_toArray, List.set_cons_zero, List.set_cons_succ]
    refine chain_take (i := 1) (d := 11) (v := .pointer (some ⟨p, 0, none⟩)) rfl rfl (by kernel_rfl) (by kernel_rfl) (by kernel_rfl) rfl (fun _ _ => (by go_simp)) (fun _ _ _ h => h) (Up.refl w1).drew ?_
    simp only [Act.put, List.setIfInBounds_toArray, List.set_cons_zero, List.set_cons_succ]
    refine chain_take (i := 2) (d := 12) (v := .pointer (some ⟨p, 0, none⟩)) rfl rfl (by kernel_rfl) (by kernel_rfl) (by kernel_rfl) rfl (fun _ _ => (by go_simp)) (fun _ _ _ h => h) (Up.refl w1).drew ?_
    simp only [Act.put, List.setIfInBounds_toArray, List.set_cons_zero, List.set_cons_succ]
    refine chain_take (i := 3) (d := 13) (v := .string (tx s)) rfl rfl (by kernel_rfl) (by kernel_rfl) (by kernel_rfl) rfl (fun W h => (by have u0 := cell_below h.out _ _ _ c0; go_simp)) (fun _ _ _ h => h) (Up.refl w1).drew ?_
    simp only [Act.put, List.setIfInBounds_toArray, List.set_cons_zero, List.set_cons_succ]
    refine chain_take (i := 4) (d := 14) (v := .int .i64 i) rfl rfl (by kernel_rfl) (by kernel_rfl) (by kernel_rfl) rfl (fun _ _ => rfl) (fun _ _ _ h => h) (Up.refl w1).drew ?_
    simp only [Act.put, List.setIfInBounds_toArray, List.set_cons_zero, List.set_cons_succ]
    refine chain_take (i := 5) (d := 15) (v := .pointer (some ⟨p, 0, none⟩)) rfl rfl (by kernel_rfl) (by kernel_rfl) (by kernel_rfl) rfl (fun _ _ => rfl) (fun _ _ _ h => h) (Up.refl w1).drew ?_
    simp only [Act.put, List.setIfInBounds_toArray, List.set_cons_zero, List.set_cons_succ]
    refine chain_take (i := 6) (d := 16) (v := .pointer (some ⟨p, 0, none⟩)) rfl rfl (by kernel_rfl) (by kernel_rfl) (by kernel_rfl) rfl (fun _ _ => (by go_simp)) (fun _ _ _ h => h) (Up.refl w1).drew ?_
    simp only [Act.put, List.setIfInBounds_toArray, List.set_cons_zero, List.set_cons_succ]
    refine chain_take (i := 7) (d := 17) (v := .pointer (some ⟨p, 1, none⟩)) rfl rfl (by kernel_rfl) (by kernel_rfl) (by kernel_rfl) rfl (fun _ _ => (by go_simp)) (fun _ _ _ h => h) (Up.refl w1).drew ?_
    simp only [Act.put, List.setIfInBounds_toArray, List.set_cons_zero, List.set_cons_succ]
    refine chain_take (i := 8) (d := 18) (v := .int .i64 ((i + X.length : Nat) : Int)) rfl rfl (by kernel_rfl) (by kernel_rfl) (by kernel_rfl) rfl (fun W h => (by have u0 := cell_below h.out _ _ _ c1; go_simp)) (fun _ _ _ h => h) (Up.refl w1).drew ?_
    simp only [Act.put, List.setIfInBounds_toArray, List.set_cons_zero, List.set_cons_succ]
    refine chain_take (i := 9) (d := 19) (v := .string (tx X)) rfl rfl (by kernel_rfl) (by kernel_rfl) (by kernel_rfl) rfl (fun _ _ => (by go_simp; rw [if_pos ⟨by omega, by omega⟩, if_pos (by omega), show ((i : Int) + X.length).toNat = i + X.length by omega, hsl])) (fun _ _ _ h => h) (Up.refl w1).drew ?_
    simp only [Act.put, List.setIfInBounds_toArray, List.set_cons_zero, List.set_cons_succ]
    refine chain_call (i := 10) (d := 20) (f := 67) (args := #[.string (tx X)]) (by kernel_rfl) rfl rfl rfl (by go_simp) ?_
    refine (hpl.out _).mono ?_
    rintro e w2 ⟨rfl, rfl⟩
    refine ⟨.bool false, rfl, (Up.refl w1).drew, ?_⟩
    simp only [Act.put, List.setIfInBounds_toArray, List.set_cons_zero, List.set_cons_succ]
    refine chain_dies (i := 11) (d := 21) (f := 20) (args := #[.bool false]) (by kernel_rfl) rfl rfl rfl (by go_simp) ?_
    refine (must_no _).mono ?_
    rintro e w2 ⟨rfl, rfl⟩
    refine ⟨_, rfl, ?_⟩
    refine ⟨rfl, (Mv.up hu0).trans (k1.trans (Mv.up (Up.refl w1).drew)), Or.inr ⟨rfl, ?_⟩⟩
    rw [hpp, if_neg (by rw [hpx]; simp)]
  | true =>
    rw [hpx] at hpl
    refine wp_region_held (S := Up w1) (by kernel_rfl) ?_
    refine chain_take (i := 0) (d := 10) (v := .pointer (some ⟨p, 0, none⟩)) rfl rfl (by kernel_rfl) (by kernel_rfl) (by kernel_rfl) rfl (fun _ _ => rfl) (fun _ _ _ h => h) (Up.refl w1).drew ?_
    simp only [Act.put, List.setIfInBounds_toArray, List.set_cons_zero, List.set_cons_succ]
    refine chain_take (i := 1) (d := 11) (v := .pointer (some ⟨p, 0, none⟩)) rfl rfl (by kernel_rfl) (by kernel_rfl) (by kernel_rfl) rfl (fun _ _ => (by go_simp)) (fun _ _ _ h => h) (Up.refl w1).drew ?_
    simp only [Act.put, List.setIfInBounds_toArray, List.set_cons_zero, List.set_cons_succ]
    refine chain_take (i := 2) (d := 12) (v := .pointer (some ⟨p, 0, none⟩)) rfl rfl (by kernel_rfl) (by kernel_rfl) (by kernel_rfl) rfl (fun _ _ => (by go_simp)) (fun _ _ _ h => h) (Up.refl w1).drew ?_
    simp only [Act.put, List.setIfInBounds_toArray, List.set_cons_zero, List.set_cons_succ]
    refine chain_take (i := 3) (d := 13) (v := .string (tx s)) rfl rfl (by kernel_rfl) (by kernel_rfl) (by kernel_rfl) rfl (fun W h => (by have u0 := cell_below h.out _ _ _ c0; go_simp)) (fun _ _ _ h => h) (Up.refl w1).drew ?_
    simp only [Act.put, List.setIfInBounds_toArray, List.set_cons_zero, List.set_cons_succ]
    refine chain_take (i := 4) (d := 14) (v := .int .i64 i) rfl rfl (by kernel_rfl) (by kernel_rfl) (by kernel_rfl) rfl (fun _ _ => rfl) (fun _ _ _ h => h) (Up.refl w1).drew ?_
    simp only [Act.put, List.setIfInBounds_toArray, List.set_cons_zero, List.set_cons_succ]
    refine chain_take (i := 5) (d := 15) (v := .pointer (some ⟨p, 0, none⟩)) rfl rfl (by kernel_rfl) (by kernel_rfl) (by kernel_rfl) rfl (fun _ _ => rfl) (fun _ _ _ h => h) (Up.refl w1).drew ?_
    simp only [Act.put, List.setIfInBounds_toArray, List.set_cons_zero, List.set_cons_succ]
    refine chain_take (i := 6) (d := 16) (v := .pointer (some ⟨p, 0, none⟩)) rfl rfl (by kernel_rfl) (by kernel_rfl) (by kernel_rfl) rfl (fun _ _ => (by go_simp)) (fun _ _ _ h => h) (Up.refl w1).drew ?_
    simp only [Act.put, List.setIfInBounds_toArray, List.set_cons_zero, List.set_cons_succ]
    refine chain_take (i := 7) (d := 17) (v := .pointer (some ⟨p, 1, none⟩)) rfl rfl (by kernel_rfl) (by kernel_rfl) (by kernel_rfl) rfl (fun _ _ => (by go_simp)) (fun _ _ _ h => h) (Up.refl w1).drew ?_
    simp only [Act.put, List.setIfInBounds_toArray, List.set_cons_zero, List.set_cons_succ]
    refine chain_take (i := 8) (d := 18) (v := .int .i64 ((i + X.length : Nat) : Int)) rfl rfl (by kernel_rfl) (by kernel_rfl) (by kernel_rfl) rfl (fun W h => (by have u0 := cell_below h.out _ _ _ c1; go_simp)) (fun _ _ _ h => h) (Up.refl w1).drew ?_
    simp only [Act.put, List.setIfInBounds_toArray, List.set_cons_zero, List.set_cons_succ]
    refine chain_take (i := 9) (d := 19) (v := .string (tx X)) rfl rfl (by kernel_rfl) (by kernel_rfl) (by kernel_rfl) rfl (fun _ _ => (by go_simp; rw [if_pos ⟨by omega, by omega⟩, if_pos (by omega), show ((i : Int) + X.length).toNat = i + X.length by omega, hsl])) (fun _ _ _ h => h) (Up.refl w1).drew ?_
    simp only [Act.put, List.setIfInBounds_toArray, List.set_cons_zero, List.set_cons_succ]
    refine chain_call (i := 10) (d := 20) (f := 67) (args := #[.string (tx X)]) (by kernel_rfl) rfl rfl rfl (by go_simp) ?_
    refine (hpl.out _).mono ?_
    rintro e w2 ⟨rfl, rfl⟩
    refine ⟨.bool true, rfl, (Up.refl w1).drew, ?_⟩
    simp only [Act.put, List.setIfInBounds_toArray, List.set_cons_zero, List.set_cons_succ]
    refine chain_call (i := 11) (d := 21) (f := 20) (args := #[.bool true]) (by kernel_rfl) rfl rfl rfl (by go_simp) ?_
    refine (must_yes _).mono ?_
    rintro e w2 ⟨rfl, rfl⟩
    refine ⟨.tuple #[], rfl, (Up.refl w1).drew, ?_⟩
    simp only [Act.put, List.setIfInBounds_toArray, List.set_cons_zero, List.set_cons_succ]
    refine wpAnyH_done (by kernel_rfl) ?_ _
    have h2 := h1.up (Up.refl w1).drew
    have k2 := (Mv.up hu0).trans (k1.trans (Mv.up (Up.refl w1).drew))
    have hbox2 : w1.drew.heap[w.heap.size]? = some zeroTerm := k1.box hbox (by omega)
    obtain ⟨W2, hW2⟩ : ∃ W2, w1.drew = W2 := ⟨_, rfl⟩
    rw [show ({ heap := w1.heap, tape := w1.tape, drawn := w1.drawn + 1, os := w1.os, output := w1.output } : World) = W2 from hW2]
    rw [hW2] at h2 k2 hbox2
    clear c0 c1 c2 c3 f0 f1 f2 f3
    obtain ⟨⟨c0, c1, c2, c3⟩, f0, f1, f2, f3⟩ := h2.cells
    have hbx := Hid.mk (fun w3 (hb : Below W2.drew.heap.size W2.drew w3) => show w3.heap[w.heap.size]? = some zeroTerm from (hb.block _ (Array.getElem?_eq_some_iff.1 hbox2).1).trans hbox2)
    clear hbox hbox2
    go_wp2
    refine wp_region_held (S := Mv w.heap.size W2) (by kernel_rfl) ?_
    refine chain_take (i := 0) (d := 22) (v := .pointer (some ⟨p, 0, none⟩)) rfl rfl (by kernel_rfl) (by kernel_rfl) (by kernel_rfl) rfl (fun _ _ => rfl) (fun _ _ _ h => h) (Mv.refl w.heap.size W2).drew ?_
    simp only [Act.put, List.setIfInBounds_toArray, List.set_cons_zero, List.set_cons_succ]
    refine chain_take (i := 1) (d := 23) (v := .pointer (some ⟨p, 0, none⟩)) rfl rfl (by kernel_rfl) (by kernel_rfl) (by kernel_rfl) rfl (fun _ _ => (by go_simp)) (fun _ _ _ h => h) (Mv.refl w.heap.size W2).drew ?_
    simp only [Act.put, List.setIfInBounds_toArray, List.set_cons_zero, List.set_cons_succ]
    refine chain_take (i := 2) (d := 24) (v := .pointer (some ⟨p, 0, none⟩)) rfl rfl (by kernel_rfl) (by kernel_rfl) (by kernel_rfl) rfl (fun _ _ => (by go_simp)) (fun _ _ _ h => h) (Mv.refl w.heap.size W2).drew ?_
    simp only [Act.put, List.setIfInBounds_toArray, List.set_cons_zero, List.set_cons_succ]
    refine chain_take (i := 3) (d := 25) (v := .string (tx s)) rfl rfl (by kernel_rfl) (by kernel_rfl) (by kernel_rfl) rfl (fun W h => (by have u0 := Mv.cell h (by omega) c0; go_simp)) (fun _ _ _ h => h) (Mv.refl w.heap.size W2).drew ?_
    simp only [Act.put, List.setIfInBounds_toArray, List.set_cons_zero, List.set_cons_succ]
    refine chain_take (i := 4) (d := 26) (v := .int .i64 i) rfl rfl (by kernel_rfl) (by kernel_rfl) (by kernel_rfl) rfl (fun _ _ => rfl) (fun _ _ _ h => h) (Mv.refl w.heap.size W2).drew ?_
    simp only [Act.put, List.setIfInBounds_toArray, List.set_cons_zero, List.set_cons_succ]
    refine chain_take (i := 5) (d := 27) (v := .pointer (some ⟨p, 0, none⟩)) rfl rfl (by kernel_rfl) (by kernel_rfl) (by kernel_rfl) rfl (fun _ _ => rfl) (fun _ _ _ h => h) (Mv.refl w.heap.size W2).drew ?_
    simp only [Act.put, List.setIfInBounds_toArray, List.set_cons_zero, List.set_cons_succ]
    refine chain_take (i := 6) (d := 28) (v := .pointer (some ⟨p, 0, none⟩)) rfl rfl (by kernel_rfl) (by kernel_rfl) (by kernel_rfl) rfl (fun _ _ => (by go_simp)) (fun _ _ _ h => h) (Mv.refl w.heap.size W2).drew ?_
    simp only [Act.put, List.setIfInBounds_toArray, List.set_cons_zero, List.set_cons_succ]
    refine chain_take (i := 7) (d := 29) (v := .pointer (some ⟨p, 1, none⟩)) rfl rfl (by kernel_rfl) (by kernel_rfl) (by kernel_rfl) rfl (fun _ _ => (by go_simp)) (fun _ _ _ h => h) (Mv.refl w.heap.size W2).drew ?_
    simp only [Act.put, List.setIfInBounds_toArray, List.set_cons_zero, List.set_cons_succ]
    refine chain_take (i := 8) (d := 30) (v := .int .i64 ((i + X.length : Nat) : Int)) rfl rfl (by kernel_rfl) (by kernel_rfl) (by kernel_rfl) rfl (fun W h => (by have u0 := Mv.cell h (by omega) c1; go_simp)) (fun _ _ _ h => h) (Mv.refl w.heap.size W2).drew ?_
    simp only [Act.put, List.setIfInBounds_toArray, List.set_cons_zero, List.set_cons_succ]
    refine chain_take (i := 9) (d := 31) (v := .string (tx X)) rfl rfl (by kernel_rfl) (by kernel_rfl) (by kernel_rfl) rfl (fun _ _ => (by go_simp; rw [if_pos ⟨by omega, by omega⟩, if_pos (by omega), show ((i : Int) + X.length).toNat = i + X.length by omega, hsl])) (fun _ _ _ h => h) (Mv.refl w.heap.size W2).drew ?_
    simp only [Act.put, List.setIfInBounds_toArray, List.set_cons_zero, List.set_cons_succ]
    refine chain_call (i := 10) (d := 32) (f := 69) (args := #[.string (tx X)]) (by kernel_rfl) rfl rfl rfl (by go_simp) ?_
    refine (hma.out W2.drew).mono ?_
    rintro e w3 ⟨rfl, hb3⟩
    refine ⟨.agg #[.int .i64 2, .int .i64 0, .string (tx X), .slice none 0 0], rfl, (Mv.refl _ W2).drew.trans (Mv.up hb3), ?_⟩
    simp only [Act.put, List.setIfInBounds_toArray, List.set_cons_zero, List.set_cons_succ]
    refine chain_skip (i := 11) (w' := put4 w3 w.heap.size 0 (.int .i64 2) (.int .i64 0) (.string (tx X)) (.slice none 0 0)) (by kernel_rfl) rfl rfl rfl (exec_store4 (off := 0) (w := w3) (hbx.out w3 hb3) (by simp) rfl rfl _ _ _ _) ((Mv.refl _ W2).drew.trans (Mv.up hb3)).put4 ?_
    refine wpAnyH_done (by kernel_rfl) ?_ _
    have hb5 : (put4 w3 w.heap.size 0 (.int .i64 2) (.int .i64 0) (.string (tx X)) (.slice none 0 0)).heap[w.heap.size]? = some (.cells #[.int .i64 2, .int .i64 0, .string (tx X), .slice none 0 0] 24) := put4_block (o := 0) (hbx.out w3 hb3)
    obtain ⟨⟨q0, q1, q2, q3⟩, _⟩ := kept4 hb5 (Below.refl _ _)
    have h3 := h2.up ((Up.refl W2).drew.call hb3)
    have h4 : RdP (put4 w3 w.heap.size 0 (.int .i64 2) (.int .i64 0) (.string (tx X)) (.slice none 0 0)) p s (i + X.length) g d := (put4_heap _ _ _ _ _ _ _ _ (by omega)).trans h3
    have k5 : Mv p w (put4 w3 w.heap.size 0 (.int .i64 2) (.int .i64 0) (.string (tx X)) (.slice none 0 0)) := (k2.trans (Mv.up ((Up.refl W2).drew.call hb3))).beside (Nat.le_refl _)
    go_wp2
    refine bodyPost_ret (results_term rfl _ rfl q0 q1 q2 q3) rfl ⟨k5, Or.inl ⟨X, _, _, by rw [hpp, if_pos hpx], rfl, h4, by rw [List.drop_drop], by omega⟩⟩

set_option maxHeartbeats 1000000 in
theorem number_any (p : Nat) (s : List UInt8) (i g d : Nat) (w : World) (h : RdP w p s i g d) (hw : Wld w) (hp : 6 ≤ p) (hi : i ≤ s.length) (hs : s.length ≤ 1000000000) :
    Calls Tryz.prog 70 #[.pointer (some ⟨p, 0, none⟩)] w fun e w' => Mv p w w' ∧
      ((∃ n r j, numI (-9223372036854775808) 9223372036854775807 (s.drop i) = some (n, r) ∧ e = .returned (.int .i64 n) ∧ RdP w' p s j g d ∧ s.drop j = r ∧ j ≤ s.length) ∨ (e = fault4 ∧ numI (-9223372036854775808) 9223372036854775807 (s.drop i) = none)) := by
  obtain ⟨⟨c0, c1, c2, c3⟩, f0, f1, f2, f3⟩ := h.cells
  have hsk := Hid.mk (fun w1 (h1 : RdP w1 p s i g d) => skip_any p s [45] i g d w1 h1 hi hs (by simp))
  have hsp := Hid.mk (fun j w1 (h1 : RdP w1 p s j g d) hj => spanDigit_any p s j g d w1 h1 hj hs)
  have hsz := tx_size s
  have hq1 := Hid.mk (fun r (e : strip [45] (s.drop i) = some r) (e2 : s.drop (i + [45].length) = r) => show i + [45].length + ((s.drop (i + [45].length)).takeWhile isDig).length = i + (numSpan (s.drop i)).length by
    rw [e2, strip_some e]
    simp [numSpan]
    omega)
  have hq2 := Hid.mk (fun (e : strip [45] (s.drop i) = none) => show i + ((s.drop i).takeWhile isDig).length = i + (numSpan (s.drop i)).length by
    unfold numSpan
    rw [if_neg (strip1_no e)])
  have hml : (numSpan (s.drop i)).length ≤ s.length - i := by
    have h := (numSpan_rest (s.drop i)).1
    have := congrArg List.length h
    rw [List.length_append, List.length_drop, List.length_drop, List.length_drop] at this
    omega
  have htk := take_num (s.drop i)
  have hpp : numI (-9223372036854775808) 9223372036854775807 (s.drop i) = if dec (numVal (numSpan (s.drop i))) = numSpan (s.drop i) ∧ -9223372036854775808 ≤ numVal (numSpan (s.drop i)) ∧ numVal (numSpan (s.drop i)) ≤ 9223372036854775807 then some (numVal (numSpan (s.drop i)), (s.drop i).drop (numSpan (s.drop i)).length) else none := rfl
  have hat := Hid.mk (fun w1 (hw1 : Wld w1) => atoi_any (s.drop i) (by omega) w1 hw1)
  have hok := Hid.mk (fun v => @atoi_ok (s.drop i) v)
  have hok2 := Hid.mk (@ok_atoi (s.drop i))
  generalize numSpan (s.drop i) = X at *
  have hsl := tx_slice s i (i + X.length) (by omega)
  rw [show i + X.length - i = X.length by omega, htk] at hsl
  have hpp := Hid.mk hpp
  go_enter Tryz.func70, Tryz.ntmps70
  go_wp2_with (first
    | (go_at_call 40; refine (hsk.out _ h).mono ?_; rintro e w1 ⟨k1, hh⟩; have hh2 : ∃ bb : Bool, e = .returned (.bool bb) ∧ ∃ j, RdP w1 p s j g d ∧ j ≤ s.length ∧ j + ((s.drop j).takeWhile isDig).length = i + X.length := (by
          rcases hh with ⟨r, e1, h1, h2, e2, hi1⟩ | ⟨e1, h1, h2⟩
          · exact ⟨true, h1, _, h2, hi1, hq1.out r e1 e2⟩
          · exact ⟨false, h1, _, h2, hi, hq2.out e1⟩); clear hh; obtain ⟨bb, rfl, j1, h1, hj1, hjX⟩ := hh2)
    | (go_at_call 71; refine (hsp.out _ _ h1 hj1).mono ?_; rintro e w2 ⟨⟨u, rfl⟩, h2, k2⟩; rw [hjX] at h2))
  clear c0 c1 c2 c3 f0 f1 f2 f3
  obtain ⟨⟨c0, c1, c2, c3⟩, f0, f1, f2, f3⟩ := h2.cells
  have hw2 := (k1.trans k2).wld hw hp
  by_cases hao : ∃ v, Lib.atoiAll X = .ok v
  · obtain ⟨v, hv⟩ := hao
    have hatA := Hid.mk (fun w1 hw1 => (hat.out w1 hw1).mono (R' := fun e w' => e = .returned (.tuple #[.int .i64 v, .nilIface]) ∧ Below w1.heap.size w1 w') (fun e w' h => by
      obtain ⟨⟨v', h1, h2⟩ | ⟨h1, _⟩, h3⟩ := h
      · rw [hv] at h1
        injection h1 with h1
        subst h1
        exact ⟨h2, h3⟩
      · exact absurd hv (h1 v)))
    refine wp_region_held (S := Up w2) (by kernel_rfl) ?_
    refine chain_take (i := 0) (d := 15) (v := .pointer (some ⟨p, 0, none⟩)) rfl rfl (by kernel_rfl) (by kernel_rfl) (by kernel_rfl) rfl (fun _ _ => rfl) (fun _ _ _ h => h) (Up.refl w2).drew ?_
    simp only [Act.put, List.setIfInBounds_toArray, List.set_cons_zero, List.set_cons_succ]
    refine chain_take (i := 1) (d := 16) (v := .pointer (some ⟨p, 0, none⟩)) rfl rfl (by kernel_rfl) (by kernel_rfl) (by kernel_rfl) rfl (fun _ _ => (by go_simp)) (fun _ _ _ h => h) (Up.refl w2).drew ?_
    simp only [Act.put, List.setIfInBounds_toArray, List.set_cons_zero, List.set_cons_succ]
    refine chain_take (i := 2) (d := 17) (v := .pointer (some ⟨p, 0, none⟩)) rfl rfl (by kernel_rfl) (by kernel_rfl) (by kernel_rfl) rfl (fun _ _ => (by go_simp)) (fun _ _ _ h => h) (Up.refl w2).drew ?_
    simp only [Act.put, List.setIfInBounds_toArray, List.set_cons_zero, List.set_cons_succ]
    refine chain_take (i := 3) (d := 18) (v := .string (tx s)) rfl rfl (by kernel_rfl) (by kernel_rfl) (by kernel_rfl) rfl (fun W h => (by have u0 := cell_below h.out _ _ _ c0; go_simp)) (fun _ _ _ h => h) (Up.refl w2).drew ?_
    simp only [Act.put, List.setIfInBounds_toArray, List.set_cons_zero, List.set_cons_succ]
    refine chain_take (i := 4) (d := 19) (v := .int .i64 i) rfl rfl (by kernel_rfl) (by kernel_rfl) (by kernel_rfl) rfl (fun _ _ => rfl) (fun _ _ _ h => h) (Up.refl w2).drew ?_
    simp only [Act.put, List.setIfInBounds_toArray, List.set_cons_zero, List.set_cons_succ]
    refine chain_take (i := 5) (d := 20) (v := .pointer (some ⟨p, 0, none⟩)) rfl rfl (by kernel_rfl) (by kernel_rfl) (by kernel_rfl) rfl (fun _ _ => rfl) (fun _ _ _ h => h) (Up.refl w2).drew ?_
    simp only [Act.put, List.setIfInBounds_toArray, List.set_cons_zero, List.set_cons_succ]
    refine chain_take (i := 6) (d := 21) (v := .pointer (some ⟨p, 0, none⟩)) rfl rfl (by kernel_rfl) (by kernel_rfl) (by kernel_rfl) rfl (fun _ _ => (by go_simp)) (fun _ _ _ h => h) (Up.refl w2).drew ?_
    simp only [Act.put, List.setIfInBounds_toArray, List.set_cons_zero, List.set_cons_succ]
    refine chain_take (i := 7) (d := 22) (v := .pointer (some ⟨p, 1, none⟩)) rfl rfl (by kernel_rfl) (by kernel_rfl) (by kernel_rfl) rfl (fun _ _ => (by go_simp)) (fun _ _ _ h => h) (Up.refl w2).drew ?_
    simp only [Act.put, List.setIfInBounds_toArray, List.set_cons_zero, List.set_cons_succ]
    refine chain_take (i := 8) (d := 23) (v := .int .i64 ((i + X.length : Nat) : Int)) rfl rfl (by kernel_rfl) (by kernel_rfl) (by kernel_rfl) rfl (fun W h => (by have u0 := cell_below h.out _ _ _ c1; go_simp)) (fun _ _ _ h => h) (Up.refl w2).drew ?_
    simp only [Act.put, List.setIfInBounds_toArray, List.set_cons_zero, List.set_cons_succ]
    refine chain_take (i := 9) (d := 24) (v := .string (tx X)) rfl rfl (by kernel_rfl) (by kernel_rfl) (by kernel_rfl) rfl (fun _ _ => (by go_simp; rw [if_pos ⟨by omega, by omega⟩, if_pos (by omega), show ((i : Int) + X.length).toNat = i + X.length by omega, hsl])) (fun _ _ _ h => h) (Up.refl w2).drew ?_
    simp only [Act.put, List.setIfInBounds_toArray, List.set_cons_zero, List.set_cons_succ]
    refine chain_call (i := 10) (d := 25) (f := 96) (args := #[.string (tx X)]) (by kernel_rfl) rfl rfl rfl (by go_simp) ?_
    refine (hatA.out w2.drew (hw2.next (Up.refl w2).drew)).mono ?_
    rintro e w3 ⟨rfl, hb3⟩
    refine ⟨.tuple #[.int .i64 v, .nilIface], rfl, (Up.refl w2).drew.call hb3, ?_⟩
    simp only [Act.put, List.setIfInBounds_toArray, List.set_cons_zero, List.set_cons_succ]
    refine chain_take (i := 11) (d := 14) (v := .tuple #[.int .i64 v, .nilIface]) rfl rfl (by kernel_rfl) (by kernel_rfl) (by kernel_rfl) rfl (fun _ _ => rfl) (fun _ _ _ h => h) ((Up.refl w2).drew.call hb3) ?_
    simp only [Act.put, List.setIfInBounds_toArray, List.set_cons_zero, List.set_cons_succ]
    refine chain_take (i := 12) (d := 26) (v := .int .i64 v) rfl rfl (by kernel_rfl) (by kernel_rfl) (by kernel_rfl) rfl (fun _ _ => (by go_simp)) (fun _ _ _ h => h) ((Up.refl w2).drew.call hb3) ?_
    simp only [Act.put, List.setIfInBounds_toArray, List.set_cons_zero, List.set_cons_succ]
    refine chain_take (i := 13) (d := 27) (v := .nilIface) rfl rfl (by kernel_rfl) (by kernel_rfl) (by kernel_rfl) rfl (fun _ _ => (by go_simp)) (fun _ _ _ h => h) ((Up.refl w2).drew.call hb3) ?_
    simp only [Act.put, List.setIfInBounds_toArray, List.set_cons_zero, List.set_cons_succ]
    refine chain_take (i := 14) (d := 4) (v := .int .i64 v) rfl rfl (by kernel_rfl) (by kernel_rfl) (by kernel_rfl) rfl (fun _ _ => rfl) (fun _ _ _ h => h) ((Up.refl w2).drew.call hb3) ?_
    simp only [Act.put, List.setIfInBounds_toArray, List.set_cons_zero, List.set_cons_succ]
    refine chain_take (i := 15) (d := 5) (v := .nilIface) rfl rfl (by kernel_rfl) (by kernel_rfl) (by kernel_rfl) rfl (fun _ _ => rfl) (fun _ _ _ h => h) ((Up.refl w2).drew.call hb3) ?_
    simp only [Act.put, List.setIfInBounds_toArray, List.set_cons_zero, List.set_cons_succ]
    refine wpAnyH_done (by kernel_rfl) ?_ _
    have hu3 : Up w2 w3 := (Up.refl w2).drew.call hb3
    have h3 := h2.up hu3
    have hw3 := hw2.next hu3
    have hvb := hok.out v hv
    clear c0 c1 c2 c3 f0 f1 f2 f3
    obtain ⟨⟨c0, c1, c2, c3⟩, f0, f1, f2, f3⟩ := h3.cells
    have hit := Hid.mk (fun w1 hw1 => itoa_any v hvb.2.1 hvb.2.2 w1 hw1)
    go_wp2
    have hpp2 := hpp.out
    rw [← hvb.1] at hpp2
    have hvb2 := Hid.mk hvb
    clear hvb
    by_cases hdv : dec v = X
    · have hbq : (tx (dec v)).toList = (tx X).toList := by rw [tx_toList, tx_toList, hdv]
      rw [if_pos ⟨hdv, hvb2.out.2⟩] at hpp2
      have hpp2 := Hid.mk hpp2
      clear hdv
      refine wp_region_held (S := Up w3) (by kernel_rfl) ?_
      refine chain_take (i := 0) (d := 28) (v := .nilIface) rfl rfl (by kernel_rfl) (by kernel_rfl) (by kernel_rfl) rfl (fun _ _ => rfl) (fun _ _ _ h => h) (Up.refl w3).drew ?_
      simp only [Act.put, List.setIfInBounds_toArray, List.set_cons_zero, List.set_cons_succ]
      refine chain_take (i := 1) (d := 29) (v := .bool true) rfl rfl (by kernel_rfl) (by kernel_rfl) (by kernel_rfl) rfl (fun _ _ => (by go_simp)) (fun _ _ _ h => h) (Up.refl w3).drew ?_
      simp only [Act.put, List.setIfInBounds_toArray, List.set_cons_zero, List.set_cons_succ]
      refine chain_take (i := 2) (d := 30) (v := .bool true) rfl rfl (by kernel_rfl) (by kernel_rfl) (by kernel_rfl) rfl (fun _ _ => rfl) (fun _ _ _ h => h) (Up.refl w3).drew ?_
      simp only [Act.put, List.setIfInBounds_toArray, List.set_cons_zero, List.set_cons_succ]
      refine chain_take (i := 3) (d := 31) (v := .int .i64 v) rfl rfl (by kernel_rfl) (by kernel_rfl) (by kernel_rfl) rfl (fun _ _ => rfl) (fun _ _ _ h => h) (Up.refl w3).drew ?_
      simp only [Act.put, List.setIfInBounds_toArray, List.set_cons_zero, List.set_cons_succ]
      refine chain_take (i := 5) (d := 33) (v := .pointer (some ⟨p, 0, none⟩)) rfl rfl (by kernel_rfl) (by kernel_rfl) (by kernel_rfl) rfl (fun _ _ => rfl) (fun _ _ _ h => h) (Up.refl w3).drew ?_
      simp only [Act.put, List.setIfInBounds_toArray, List.set_cons_zero, List.set_cons_succ]
      refine chain_take (i := 6) (d := 34) (v := .pointer (some ⟨p, 0, none⟩)) rfl rfl (by kernel_rfl) (by kernel_rfl) (by kernel_rfl) rfl (fun _ _ => (by go_simp)) (fun _ _ _ h => h) (Up.refl w3).drew ?_
      simp only [Act.put, List.setIfInBounds_toArray, List.set_cons_zero, List.set_cons_succ]
      refine chain_take (i := 7) (d := 35) (v := .pointer (some ⟨p, 0, none⟩)) rfl rfl (by kernel_rfl) (by kernel_rfl) (by kernel_rfl) rfl (fun _ _ => (by go_simp)) (fun _ _ _ h => h) (Up.refl w3).drew ?_
      simp only [Act.put, List.setIfInBounds_toArray, List.set_cons_zero, List.set_cons_succ]
      refine chain_take (i := 8) (d := 36) (v := .string (tx s)) rfl rfl (by kernel_rfl) (by kernel_rfl) (by kernel_rfl) rfl (fun W h => (by have u0 := cell_below h.out _ _ _ c0; go_simp)) (fun _ _ _ h => h) (Up.refl w3).drew ?_
      simp only [Act.put, List.setIfInBounds_toArray, List.set_cons_zero, List.set_cons_succ]
      refine chain_take (i := 9) (d := 37) (v := .int .i64 i) rfl rfl (by kernel_rfl) (by kernel_rfl) (by kernel_rfl) rfl (fun _ _ => rfl) (fun _ _ _ h => h) (Up.refl w3).drew ?_
      simp only [Act.put, List.setIfInBounds_toArray, List.set_cons_zero, List.set_cons_succ]
      refine chain_take (i := 10) (d := 38) (v := .pointer (some ⟨p, 0, none⟩)) rfl rfl (by kernel_rfl) (by kernel_rfl) (by kernel_rfl) rfl (fun _ _ => rfl) (fun _ _ _ h => h) (Up.refl w3).drew ?_
      simp only [Act.put, List.setIfInBounds_toArray, List.set_cons_zero, List.set_cons_succ]
      refine chain_take (i := 11) (d := 39) (v := .pointer (some ⟨p, 0, none⟩)) rfl rfl (by kernel_rfl) (by kernel_rfl) (by kernel_rfl) rfl (fun _ _ => (by go_simp)) (fun _ _ _ h => h) (Up.refl w3).drew ?_
      simp only [Act.put, List.setIfInBounds_toArray, List.set_cons_zero, List.set_cons_succ]
      refine chain_take (i := 12) (d := 40) (v := .pointer (some ⟨p, 1, none⟩)) rfl rfl (by kernel_rfl) (by kernel_rfl) (by kernel_rfl) rfl (fun _ _ => (by go_simp)) (fun _ _ _ h => h) (Up.refl w3).drew ?_
      simp only [Act.put, List.setIfInBounds_toArray, List.set_cons_zero, List.set_cons_succ]
      refine chain_take (i := 13) (d := 41) (v := .int .i64 ((i + X.length : Nat) : Int)) rfl rfl (by kernel_rfl) (by kernel_rfl) (by kernel_rfl) rfl (fun W h => (by have u0 := cell_below h.out _ _ _ c1; go_simp)) (fun _ _ _ h => h) (Up.refl w3).drew ?_
      simp only [Act.put, List.setIfInBounds_toArray, List.set_cons_zero, List.set_cons_succ]
      refine chain_take (i := 14) (d := 42) (v := .string (tx X)) rfl rfl (by kernel_rfl) (by kernel_rfl) (by kernel_rfl) rfl (fun _ _ => (by go_simp; rw [if_pos ⟨by omega, by omega⟩, if_pos (by omega), show ((i : Int) + X.length).toNat = i + X.length by omega, hsl])) (fun _ _ _ h => h) (Up.refl w3).drew ?_
      simp only [Act.put, List.setIfInBounds_toArray, List.set_cons_zero, List.set_cons_succ]
      refine chain_call (i := 4) (d := 32) (f := 97) (args := #[.int .i64 v]) (by kernel_rfl) rfl rfl rfl (by go_simp) ?_
      refine (hit.out w3.drew (hw3.next (Up.refl w3).drew)).mono ?_
      rintro e w4 ⟨rfl, hb4⟩
      refine ⟨.string (tx (dec v)), rfl, (Up.refl w3).drew.call hb4, ?_⟩
      simp only [Act.put, List.setIfInBounds_toArray, List.set_cons_zero, List.set_cons_succ]
      refine chain_take (i := 15) (d := 43) (v := .bool true) rfl rfl (by kernel_rfl) (by kernel_rfl) (by kernel_rfl) rfl (fun _ _ => (by go_simp)) (fun _ _ _ h => h) ((Up.refl w3).drew.call hb4) ?_
      simp only [Act.put, List.setIfInBounds_toArray, List.set_cons_zero, List.set_cons_succ]
      refine chain_take (i := 16) (d := 44) (v := .bool true) rfl rfl (by kernel_rfl) (by kernel_rfl) (by kernel_rfl) rfl (fun _ _ => (by go_simp)) (fun _ _ _ h => h) ((Up.refl w3).drew.call hb4) ?_
      simp only [Act.put, List.setIfInBounds_toArray, List.set_cons_zero, List.set_cons_succ]
      refine chain_call (i := 17) (d := 45) (f := 20) (args := #[.bool true]) (by kernel_rfl) rfl rfl rfl (by go_simp) ?_
      refine (must_yes _).mono ?_
      rintro e w5 ⟨rfl, rfl⟩
      refine ⟨.tuple #[], rfl, (Up.refl w3).drew.call hb4, ?_⟩
      simp only [Act.put, List.setIfInBounds_toArray, List.set_cons_zero, List.set_cons_succ]
      refine wpAnyH_done (by kernel_rfl) ?_ _
      go_wp2
      go_ret
      have hu4 := (Up.refl w3).drew.call hb4
      exact ⟨(k1.trans k2).trans ((Mv.up hu3).trans (Mv.up hu4)), Or.inl ⟨v, _, _, hpp2.out, rfl, h3.up hu4, by rw [List.drop_drop], by omega⟩⟩
    · have hbq : ¬ (tx (dec v)).toList = (tx X).toList := by rw [tx_toList, tx_toList]; exact hdv
      rw [if_neg (fun h => hdv h.1)] at hpp2
      have hpp2 := Hid.mk hpp2
      clear hdv
      refine wp_region_held (S := Up w3) (by kernel_rfl) ?_
      refine chain_take (i := 0) (d := 28) (v := .nilIface) rfl rfl (by kernel_rfl) (by kernel_rfl) (by kernel_rfl) rfl (fun _ _ => rfl) (fun _ _ _ h => h) (Up.refl w3).drew ?_
      simp only [Act.put, List.setIfInBounds_toArray, List.set_cons_zero, List.set_cons_succ]
      refine chain_take (i := 1) (d := 29) (v := .bool true) rfl rfl (by kernel_rfl) (by kernel_rfl) (by kernel_rfl) rfl (fun _ _ => (by go_simp)) (fun _ _ _ h => h) (Up.refl w3).drew ?_
      simp only [Act.put, List.setIfInBounds_toArray, List.set_cons_zero, List.set_cons_succ]
      refine chain_take (i := 2) (d := 30) (v := .bool true) rfl rfl (by kernel_rfl) (by kernel_rfl) (by kernel_rfl) rfl (fun _ _ => rfl) (fun _ _ _ h => h) (Up.refl w3).drew ?_
      simp only [Act.put, List.setIfInBounds_toArray, List.set_cons_zero, List.set_cons_succ]
      refine chain_take (i := 3) (d := 31) (v := .int .i64 v) rfl rfl (by kernel_rfl) (by kernel_rfl) (by kernel_rfl) rfl (fun _ _ => rfl) (fun _ _ _ h => h) (Up.refl w3).drew ?_
      simp only [Act.put, List.setIfInBounds_toArray, List.set_cons_zero, List.set_cons_succ]
      refine chain_take (i := 5) (d := 33) (v := .pointer (some ⟨p, 0, none⟩)) rfl rfl (by kernel_rfl) (by kernel_rfl) (by kernel_rfl) rfl (fun _ _ => rfl) (fun _ _ _ h => h) (Up.refl w3).drew ?_
      simp only [Act.put, List.setIfInBounds_toArray, List.set_cons_zero, List.set_cons_succ]
      refine chain_take (i := 6) (d := 34) (v := .pointer (some ⟨p, 0, none⟩)) rfl rfl (by kernel_rfl) (by kernel_rfl) (by kernel_rfl) rfl (fun _ _ => (by go_simp)) (fun _ _ _ h => h) (Up.refl w3).drew ?_
      simp only [Act.put, List.setIfInBounds_toArray, List.set_cons_zero, List.set_cons_succ]
      refine chain_take (i := 7) (d := 35) (v := .pointer (some ⟨p, 0, none⟩)) rfl rfl (by kernel_rfl) (by kernel_rfl) (by kernel_rfl) rfl (fun _ _ => (by go_simp)) (fun _ _ _ h => h) (Up.refl w3).drew ?_
      simp only [Act.put, List.setIfInBounds_toArray, List.set_cons_zero, List.set_cons_succ]
      refine chain_take (i := 8) (d := 36) (v := .string (tx s)) rfl rfl (by kernel_rfl) (by kernel_rfl) (by kernel_rfl) rfl (fun W h => (by have u0 := cell_below h.out _ _ _ c0; go_simp)) (fun _ _ _ h => h) (Up.refl w3).drew ?_
      simp only [Act.put, List.setIfInBounds_toArray, List.set_cons_zero, List.set_cons_succ]
      refine chain_take (i := 9) (d := 37) (v := .int .i64 i) rfl rfl (by kernel_rfl) (by kernel_rfl) (by kernel_rfl) rfl (fun _ _ => rfl) (fun _ _ _ h => h) (Up.refl w3).drew ?_
      simp only [Act.put, List.setIfInBounds_toArray, List.set_cons_zero, List.set_cons_succ]
      refine chain_take (i := 10) (d := 38) (v := .pointer (some ⟨p, 0, none⟩)) rfl rfl (by kernel_rfl) (by kernel_rfl) (by kernel_rfl) rfl (fun _ _ => rfl) (fun _ _ _ h => h) (Up.refl w3).drew ?_
      simp only [Act.put, List.setIfInBounds_toArray, List.set_cons_zero, List.set_cons_succ]
      refine chain_take (i := 11) (d := 39) (v := .pointer (some ⟨p, 0, none⟩)) rfl rfl (by kernel_rfl) (by kernel_rfl) (by kernel_rfl) rfl (fun _ _ => (by go_simp)) (fun _ _ _ h => h) (Up.refl w3).drew ?_
      simp only [Act.put, List.setIfInBounds_toArray, List.set_cons_zero, List.set_cons_succ]
      refine chain_take (i := 12) (d := 40) (v := .pointer (some ⟨p, 1, none⟩)) rfl rfl (by kernel_rfl) (by kernel_rfl) (by kernel_rfl) rfl (fun _ _ => (by go_simp)) (fun _ _ _ h => h) (Up.refl w3).drew ?_
      simp only [Act.put, List.setIfInBounds_toArray, List.set_cons_zero, List.set_cons_succ]
      refine chain_take (i := 13) (d := 41) (v := .int .i64 ((i + X.length : Nat) : Int)) rfl rfl (by kernel_rfl) (by kernel_rfl) (by kernel_rfl) rfl (fun W h => (by have u0 := cell_below h.out _ _ _ c1; go_simp)) (fun _ _ _ h => h) (Up.refl w3).drew ?_
      simp only [Act.put, List.setIfInBounds_toArray, List.set_cons_zero, List.set_cons_succ]
      refine chain_take (i := 14) (d := 42) (v := .string (tx X)) rfl rfl (by kernel_rfl) (by kernel_rfl) (by kernel_rfl) rfl (fun _ _ => (by go_simp; rw [if_pos ⟨by omega, by omega⟩, if_pos (by omega), show ((i : Int) + X.length).toNat = i + X.length by omega, hsl])) (fun _ _ _ h => h) (Up.refl w3).drew ?_
      simp only [Act.put, List.setIfInBounds_toArray, List.set_cons_zero, List.set_cons_succ]
      refine chain_call (i := 4) (d := 32) (f := 97) (args := #[.int .i64 v]) (by kernel_rfl) rfl rfl rfl (by go_simp) ?_
      refine (hit.out w3.drew (hw3.next (Up.refl w3).drew)).mono ?_
      rintro e w4 ⟨rfl, hb4⟩
      refine ⟨.string (tx (dec v)), rfl, (Up.refl w3).drew.call hb4, ?_⟩
      simp only [Act.put, List.setIfInBounds_toArray, List.set_cons_zero, List.set_cons_succ]
      refine chain_take (i := 15) (d := 43) (v := .bool false) rfl rfl (by kernel_rfl) (by kernel_rfl) (by kernel_rfl) rfl (fun _ _ => (by go_simp)) (fun _ _ _ h => h) ((Up.refl w3).drew.call hb4) ?_
      simp only [Act.put, List.setIfInBounds_toArray, List.set_cons_zero, List.set_cons_succ]
      refine chain_take (i := 16) (d := 44) (v := .bool false) rfl rfl (by kernel_rfl) (by kernel_rfl) (by kernel_rfl) rfl (fun _ _ => (by go_simp)) (fun _ _ _ h => h) ((Up.refl w3).drew.call hb4) ?_
      simp only [Act.put, List.setIfInBounds_toArray, List.set_cons_zero, List.set_cons_succ]
      refine chain_dies (i := 17) (d := 45) (f := 20) (args := #[.bool false]) (by kernel_rfl) rfl rfl rfl (by go_simp) ?_
      refine (must_no _).mono ?_
      rintro e w5 ⟨rfl, rfl⟩
      refine ⟨_, rfl, ?_⟩
      have hu4 := (Up.refl w3).drew.call hb4
      exact ⟨rfl, (k1.trans k2).trans ((Mv.up hu3).trans (Mv.up hu4)), Or.inr ⟨rfl, hpp2.out⟩⟩
  · have hatB := Hid.mk (fun w1 hw1 => (hat.out w1 hw1).mono (R' := fun e w' => ∃ v N, e = .returned (.tuple #[.int .i64 v, .iface 111 (.pointer (some ⟨N, 0, none⟩))]) ∧ Below w1.heap.size w1 w') (fun e w' h => by
      obtain ⟨⟨v', h1, h2⟩ | ⟨h1, v', N, h2⟩, h3⟩ := h
      · exact absurd ⟨v', h1⟩ hao
      · exact ⟨v', N, h2, h3⟩))
    refine wp_region_held (S := Up w2) (by kernel_rfl) ?_
    refine chain_take (i := 0) (d := 15) (v := .pointer (some ⟨p, 0, none⟩)) rfl rfl (by kernel_rfl) (by kernel_rfl) (by kernel_rfl) rfl (fun _ _ => rfl) (fun _ _ _ h => h) (Up.refl w2).drew ?_
    simp only [Act.put, List.setIfInBounds_toArray, List.set_cons_zero, List.set_cons_succ]
    refine chain_take (i := 1) (d := 16) (v := .pointer (some ⟨p, 0, none⟩)) rfl rfl (by kernel_rfl) (by kernel_rfl) (by kernel_rfl) rfl (fun _ _ => (by go_simp)) (fun _ _ _ h => h) (Up.refl w2).drew ?_
    simp only [Act.put, List.setIfInBounds_toArray, List.set_cons_zero, List.set_cons_succ]
    refine chain_take (i := 2) (d := 17) (v := .pointer (some ⟨p, 0, none⟩)) rfl rfl (by kernel_rfl) (by kernel_rfl) (by kernel_rfl) rfl (fun _ _ => (by go_simp)) (fun _ _ _ h => h) (Up.refl w2).drew ?_
    simp only [Act.put, List.setIfInBounds_toArray, List.set_cons_zero, List.set_cons_succ]
    refine chain_take (i := 3) (d := 18) (v := .string (tx s)) rfl rfl (by kernel_rfl) (by kernel_rfl) (by kernel_rfl) rfl (fun W h => (by have u0 := cell_below h.out _ _ _ c0; go_simp)) (fun _ _ _ h => h) (Up.refl w2).drew ?_
    simp only [Act.put, List.setIfInBounds_toArray, List.set_cons_zero, List.set_cons_succ]
    refine chain_take (i := 4) (d := 19) (v := .int .i64 i) rfl rfl (by kernel_rfl) (by kernel_rfl) (by kernel_rfl) rfl (fun _ _ => rfl) (fun _ _ _ h => h) (Up.refl w2).drew ?_
    simp only [Act.put, List.setIfInBounds_toArray, List.set_cons_zero, List.set_cons_succ]
    refine chain_take (i := 5) (d := 20) (v := .pointer (some ⟨p, 0, none⟩)) rfl rfl (by kernel_rfl) (by kernel_rfl) (by kernel_rfl) rfl (fun _ _ => rfl) (fun _ _ _ h => h) (Up.refl w2).drew ?_
    simp only [Act.put, List.setIfInBounds_toArray, List.set_cons_zero, List.set_cons_succ]
    refine chain_take (i := 6) (d := 21) (v := .pointer (some ⟨p, 0, none⟩)) rfl rfl (by kernel_rfl) (by kernel_rfl) (by kernel_rfl) rfl (fun _ _ => (by go_simp)) (fun _ _ _ h => h) (Up.refl w2).drew ?_
    simp only [Act.put, List.setIfInBounds_toArray, List.set_cons_zero, List.set_cons_succ]
    refine chain_take (i := 7) (d := 22) (v := .pointer (some ⟨p, 1, none⟩)) rfl rfl (by kernel_rfl) (by kernel_rfl) (by kernel_rfl) rfl (fun _ _ => (by go_simp)) (fun _ _ _ h => h) (Up.refl w2).drew ?_
    simp only [Act.put, List.setIfInBounds_toArray, List.set_cons_zero, List.set_cons_succ]
    refine chain_take (i := 8) (d := 23) (v := .int .i64 ((i + X.length : Nat) : Int)) rfl rfl (by kernel_rfl) (by kernel_rfl) (by kernel_rfl) rfl (fun W h => (by have u0 := cell_below h.out _ _ _ c1; go_simp)) (fun _ _ _ h => h) (Up.refl w2).drew ?_
    simp only [Act.put, List.setIfInBounds_toArray, List.set_cons_zero, List.set_cons_succ]
    refine chain_take (i := 9) (d := 24) (v := .string (tx X)) rfl rfl (by kernel_rfl) (by kernel_rfl) (by kernel_rfl) rfl (fun _ _ => (by go_simp; rw [if_pos ⟨by omega, by omega⟩, if_pos (by omega), show ((i : Int) + X.length).toNat = i + X.length by omega, hsl])) (fun _ _ _ h => h) (Up.refl w2).drew ?_
    simp only [Act.put, List.setIfInBounds_toArray, List.set_cons_zero, List.set_cons_succ]
    refine chain_call (i := 10) (d := 25) (f := 96) (args := #[.string (tx X)]) (by kernel_rfl) rfl rfl rfl (by go_simp) ?_
    refine (hatB.out w2.drew (hw2.next (Up.refl w2).drew)).mono ?_
    rintro e w3 ⟨v, N, rfl, hb3⟩
    refine ⟨.tuple #[.int .i64 v, .iface 111 (.pointer (some ⟨N, 0, none⟩))], rfl, (Up.refl w2).drew.call hb3, ?_⟩
    simp only [Act.put, List.setIfInBounds_toArray, List.set_cons_zero, List.set_cons_succ]
    refine chain_take (i := 11) (d := 14) (v := .tuple #[.int .i64 v, .iface 111 (.pointer (some ⟨N, 0, none⟩))]) rfl rfl (by kernel_rfl) (by kernel_rfl) (by kernel_rfl) rfl (fun _ _ => rfl) (fun _ _ _ h => h) ((Up.refl w2).drew.call hb3) ?_
    simp only [Act.put, List.setIfInBounds_toArray, List.set_cons_zero, List.set_cons_succ]
    refine chain_take (i := 12) (d := 26) (v := .int .i64 v) rfl rfl (by kernel_rfl) (by kernel_rfl) (by kernel_rfl) rfl (fun _ _ => (by go_simp)) (fun _ _ _ h => h) ((Up.refl w2).drew.call hb3) ?_
    simp only [Act.put, List.setIfInBounds_toArray, List.set_cons_zero, List.set_cons_succ]
    refine chain_take (i := 13) (d := 27) (v := .iface 111 (.pointer (some ⟨N, 0, none⟩))) rfl rfl (by kernel_rfl) (by kernel_rfl) (by kernel_rfl) rfl (fun _ _ => (by go_simp)) (fun _ _ _ h => h) ((Up.refl w2).drew.call hb3) ?_
    simp only [Act.put, List.setIfInBounds_toArray, List.set_cons_zero, List.set_cons_succ]
    refine chain_take (i := 14) (d := 4) (v := .int .i64 v) rfl rfl (by kernel_rfl) (by kernel_rfl) (by kernel_rfl) rfl (fun _ _ => rfl) (fun _ _ _ h => h) ((Up.refl w2).drew.call hb3) ?_
    simp only [Act.put, List.setIfInBounds_toArray, List.set_cons_zero, List.set_cons_succ]
    refine chain_take (i := 15) (d := 5) (v := .iface 111 (.pointer (some ⟨N, 0, none⟩))) rfl rfl (by kernel_rfl) (by kernel_rfl) (by kernel_rfl) rfl (fun _ _ => rfl) (fun _ _ _ h => h) ((Up.refl w2).drew.call hb3) ?_
    simp only [Act.put, List.setIfInBounds_toArray, List.set_cons_zero, List.set_cons_succ]
    refine wpAnyH_done (by kernel_rfl) ?_ _
    have hu3 : Up w2 w3 := (Up.refl w2).drew.call hb3
    have h3 := h2.up hu3
    have hw3 := hw2.next hu3
    clear c0 c1 c2 c3 f0 f1 f2 f3
    obtain ⟨⟨c0, c1, c2, c3⟩, f0, f1, f2, f3⟩ := h3.cells
    have hpp2 := hpp.out
    rw [if_neg (fun h => hao ⟨_, hok2.out h.1 h.2.1 h.2.2⟩)] at hpp2
    have hpp2 := Hid.mk hpp2
    go_wp2
    refine wp_region_held (S := Up w3) (by kernel_rfl) ?_
    refine chain_take (i := 0) (d := 28) (v := .iface 111 (.pointer (some ⟨N, 0, none⟩))) rfl rfl (by kernel_rfl) (by kernel_rfl) (by kernel_rfl) rfl (fun _ _ => rfl) (fun _ _ _ h => h) (Up.refl w3).drew ?_
    simp only [Act.put, List.setIfInBounds_toArray, List.set_cons_zero, List.set_cons_succ]
    refine chain_take (i := 1) (d := 29) (v := .bool false) rfl rfl (by kernel_rfl) (by kernel_rfl) (by kernel_rfl) rfl (fun _ _ => (by go_simp)) (fun _ _ _ h => h) (Up.refl w3).drew ?_
    simp only [Act.put, List.setIfInBounds_toArray, List.set_cons_zero, List.set_cons_succ]
    refine chain_take (i := 2) (d := 30) (v := .bool false) rfl rfl (by kernel_rfl) (by kernel_rfl) (by kernel_rfl) rfl (fun _ _ => rfl) (fun _ _ _ h => h) (Up.refl w3).drew ?_
    simp only [Act.put, List.setIfInBounds_toArray, List.set_cons_zero, List.set_cons_succ]
    refine chain_not (i := 3) (d := 31) rfl rfl (by kernel_rfl) (by kernel_rfl) (by kernel_rfl) rfl (fun _ _ _ h => h) (Up.refl w3).drew ?_
    simp only [Act.put, List.setIfInBounds_toArray, List.set_cons_zero, List.set_cons_succ]
    refine chain_not (i := 4) (d := 32) rfl rfl (by kernel_rfl) (by kernel_rfl) (by kernel_rfl) rfl (fun _ _ _ h => h) (Up.refl w3).drew ?_
    simp only [Act.put, List.setIfInBounds_toArray, List.set_cons_zero, List.set_cons_succ]
    refine chain_not (i := 5) (d := 33) rfl rfl (by kernel_rfl) (by kernel_rfl) (by kernel_rfl) rfl (fun _ _ _ h => h) (Up.refl w3).drew ?_
    simp only [Act.put, List.setIfInBounds_toArray, List.set_cons_zero, List.set_cons_succ]
    refine chain_not (i := 6) (d := 34) rfl rfl (by kernel_rfl) (by kernel_rfl) (by kernel_rfl) rfl (fun _ _ _ h => h) (Up.refl w3).drew ?_
    simp only [Act.put, List.setIfInBounds_toArray, List.set_cons_zero, List.set_cons_succ]
    refine chain_not (i := 7) (d := 35) rfl rfl (by kernel_rfl) (by kernel_rfl) (by kernel_rfl) rfl (fun _ _ _ h => h) (Up.refl w3).drew ?_
    simp only [Act.put, List.setIfInBounds_toArray, List.set_cons_zero, List.set_cons_succ]
    refine chain_not (i := 8) (d := 36) rfl rfl (by kernel_rfl) (by kernel_rfl) (by kernel_rfl) rfl (fun _ _ _ h => h) (Up.refl w3).drew ?_
    simp only [Act.put, List.setIfInBounds_toArray, List.set_cons_zero, List.set_cons_succ]
    refine chain_not (i := 9) (d := 37) rfl rfl (by kernel_rfl) (by kernel_rfl) (by kernel_rfl) rfl (fun _ _ _ h => h) (Up.refl w3).drew ?_
    simp only [Act.put, List.setIfInBounds_toArray, List.set_cons_zero, List.set_cons_succ]
    refine chain_not (i := 10) (d := 38) rfl rfl (by kernel_rfl) (by kernel_rfl) (by kernel_rfl) rfl (fun _ _ _ h => h) (Up.refl w3).drew ?_
    simp only [Act.put, List.setIfInBounds_toArray, List.set_cons_zero, List.set_cons_succ]
    refine chain_not (i := 11) (d := 39) rfl rfl (by kernel_rfl) (by kernel_rfl) (by kernel_rfl) rfl (fun _ _ _ h => h) (Up.refl w3).drew ?_
    simp only [Act.put, List.setIfInBounds_toArray, List.set_cons_zero, List.set_cons_succ]
    refine chain_not (i := 12) (d := 40) rfl rfl (by kernel_rfl) (by kernel_rfl) (by kernel_rfl) rfl (fun _ _ _ h => h) (Up.refl w3).drew ?_
    simp only [Act.put, List.setIfInBounds_toArray, List.set_cons_zero, List.set_cons_succ]
    refine chain_not (i := 13) (d := 41) rfl rfl (by kernel_rfl) (by kernel_rfl) (by kernel_rfl) rfl (fun _ _ _ h => h) (Up.refl w3).drew ?_
    simp only [Act.put, List.setIfInBounds_toArray, List.set_cons_zero, List.set_cons_succ]
    refine chain_not (i := 14) (d := 42) rfl rfl (by kernel_rfl) (by kernel_rfl) (by kernel_rfl) rfl (fun _ _ _ h => h) (Up.refl w3).drew ?_
    simp only [Act.put, List.setIfInBounds_toArray, List.set_cons_zero, List.set_cons_succ]
    refine chain_not (i := 15) (d := 43) rfl rfl (by kernel_rfl) (by kernel_rfl) (by kernel_rfl) rfl (fun _ _ _ h => h) (Up.refl w3).drew ?_
    simp only [Act.put, List.setIfInBounds_toArray, List.set_cons_zero, List.set_cons_succ]
    refine chain_take (i := 16) (d := 44) (v := .bool false) rfl rfl (by kernel_rfl) (by kernel_rfl) (by kernel_rfl) rfl (fun _ _ => (by go_simp)) (fun _ _ _ h => h) (Up.refl w3).drew ?_
    simp only [Act.put, List.setIfInBounds_toArray, List.set_cons_zero, List.set_cons_succ]
    refine chain_dies (i := 17) (d := 45) (f := 20) (args := #[.bool false]) (by kernel_rfl) rfl rfl rfl (by go_simp) ?_
    refine (must_no _).mono ?_
    rintro e w5 ⟨rfl, rfl⟩
    refine ⟨_, rfl, ?_⟩
    exact ⟨rfl, (k1.trans k2).trans ((Mv.up hu3).trans (Mv.up (Up.refl w3).drew)), Or.inr ⟨rfl, hpp2.out⟩⟩

end Go.Proofs.YtnbekfpkmebmbaaGreatDoor
