/-
  The program's reader: tuples, funs and lists.
-/
import Derived.Test.YtnbekfpkmebmbaaGreatDoorZTextMay
import Derived.Test.YtnbekfpkmebmbaaGreatDoorZTermMore
import Derived.Test.YtnbekfpkmebmbaaGreatDoorZTermList
namespace Go.Proofs.YtnbekfpkmebmbaaGreatDoor
open Go.RowKit Go.Deep

/-- A term beside a block that is written. -/
theorem Lies.stored {w : World} {S S' : Nat → Prop} {T : Tm} {v u0 u1 u2 u3 : Value} (h : Lies w S T v) {k : Nat} (hk : ∀ b, S b → k < b) (hS : ∀ b, S b → S' b) : Lies (put4 w k 0 u0 u1 u2 u3) S' T v :=
  h.move hS (fun b o v hb hc => by
    unfold World.cell? at hc ⊢
    simp only at hc ⊢
    rw [put4_heap _ _ _ _ _ _ _ _ (by have := hk b hb; omega)]
    exact hc) _ _
/-- What a reader of one kind of terms answers, of reader 'P'. -/
def Reads (s : List UInt8) (φ : Nat → Nat) (p i g d : Nat) (w : World) (R : Option (Tm × List UInt8)) (e : Ending) (w' : World) : Prop :=
  Mv p w w' ∧ ((∃ T r j g' v, R = some (T, r) ∧ e = .returned v ∧ Lies w' (fun b => w.heap.size ≤ b) T v ∧ RdP w' p s j g' d ∧ s.drop j = r ∧ i < j ∧ j ≤ s.length ∧ g' + φ j ≤ g + 1 + φ i) ∨ (e = fault4 ∧ R = none))

set_option maxRecDepth 100000 in
set_option maxHeartbeats 1000000 in
theorem tuple_any (s : List UInt8) (φ : Nat → Nat) (hs : s.length ≤ 200000) (hφ : Pot s φ) (P : Rdr) (N : Nat) (hP : RT s φ P N)
    (p i g d : Nat) (w : World) (h : RdP w p s i g d) (hw : Wld w) (hp : 6 ≤ p) (hm : May s φ i g d) (hi1 : 1 ≤ i) (hN : s.length - i < N) (hd : d + (s.length - i) ≤ 262142) :
    Calls Tryz.prog 41 #[.pointer (some ⟨p, 0, none⟩)] w (Reads s φ p i g d w (tupP P true (s.drop i))) := by
  have hlt := h.lt
  have hi := hm.hi
  have hs9 : s.length ≤ 1000000000 := by omega
  have hsk := Hid.mk (fun w1 (h1 : RdP w1 p s i g d) => skip_any p s [125] i g d w1 h1 hi hs9 (by simp))
  have hso := Hid.mk (fun w1 (h1 : RdP w1 p s i g d) (k1 : Mv p w w1) => some_any s φ hs hφ P N hP true 64 (Or.inl ⟨rfl, rfl⟩) p i g d w1 h1 (k1.wld hw hp) hp hm hi1 hN hd)
  have hwa := Hid.mk (fun j g2 w1 (h1 : RdP w1 p s j g2 d) hj => want_any p s [125] j g2 d w1 h1 hj hs9 (by simp))
  have hφH := Hid.mk (hφ.falls)
  have hsH := Hid.mk hs
  have hmH := Hid.mk hm
  obtain ⟨W0, hW0⟩ : ∃ W0, w.alloc zeroTerm = W0 := ⟨_, rfl⟩
  have hbox : W0.heap[w.heap.size]? = some zeroTerm := by rw [← hW0]; exact new_block w _
  have hu0 : Up w W0 := by rw [← hW0]; exact (Up.refl w).alloc
  have hR0 := h.up hu0
  have hz0 : w.heap.size < W0.heap.size := (Array.getElem?_eq_some_iff.1 hbox).1
  have htu : Hid (tupP P true (s.drop i) = match strip [125] (s.drop i) with
    | some r => some (.mk 7 0 ⟨#[]⟩ [], r)
    | none => match itemsP P true ((s.drop i).length + 1) 0 (s.drop i) with
      | none => none
      | some (l, x) => match strip [125] x with
        | none => none
        | some r => some (.mk 7 0 ⟨#[]⟩ l, r)) := Hid.mk rfl
  clear hs hm hd hN hi1 hi hs9 hφ hP
  generalize tupP P true (s.drop i) = TP at *
  go_enter Tryz.func41, Tryz.ntmps41
  go_wp2_with (first
    | (go_at_call 40; refine (hsk.out _ hR0).mono ?_; rintro e w1 ⟨k1, ⟨r, e1, rfl, h1, e2, hi2⟩ | ⟨e1, rfl, h1⟩⟩; all_goals (have hM1 := (Mv.up hu0).trans k1; have hbox1 := k1.box hbox (by omega)))
    | (go_at_call 62; refine (hso.out _ h1 hM1).mono ?_; rintro e w2 ⟨k2, ⟨L, r2, j, g2, a, cap, hL, rfl, hl, h2, e3, hj1, hj2, hg2, hll⟩ | ⟨rfl, hL⟩⟩; all_goals (have hM2 := hM1.trans k2; have hbox2 := k2.box hbox1 (by omega)); all_goals (try unfold fault4))
    | (go_at_call 63; refine (hwa.out _ _ _ h2 hj2).mono ?_; rintro e w3 ⟨k3, ⟨u, r3, rfl, hw3, h3, e4, hj3⟩ | ⟨rfl, hw3⟩⟩; all_goals (have hM3 := hM2.trans k3; have hbox3 := k3.box hbox2 (by omega)); all_goals (try unfold fault4))
    | (go_at_call 61; have hp1 := h1.lt; have hl3 := hl.move (w' := w3) (fun b (hb : w1.heap.size ≤ b) => hb) (fun b o v hb hc => k3.cell (by omega) hc); refine (makeTuple_any L (by have := hsH.out; omega) _ a cap _ hl3).mono ?_; rintro e w4 ⟨⟨v4, rfl, hv4⟩, hb4⟩; have hv5 := hv4; obtain ⟨kk, nn, ss, aa, mm, cc, rfl⟩ := hv5.agg; obtain ⟨⟨q0, q1, q2, q3⟩, _⟩ := kept4 (hM3.trans (Mv.up hb4) |> fun _ => (hb4.block _ (Array.getElem?_eq_some_iff.1 hbox3).1).trans hbox3) (Below.refl _ _))
    | (go_at_call 61; refine (makeTuple_any [] (by simp) (fun _ => False) none 0 _ (lst_nil _ _)).mono ?_; rintro e w4 ⟨⟨v4, rfl, hv4⟩, hb4⟩; have hv5 := hv4; obtain ⟨kk, nn, ss, aa, mm, cc, rfl⟩ := hv5.agg; obtain ⟨⟨q0, q1, q2, q3⟩, _⟩ := kept4 ((hb4.block _ (Array.getElem?_eq_some_iff.1 hbox1).1).trans hbox1) (Below.refl _ _)))
  · have hz1 : W0.heap.size ≤ w1.heap.size := k1.size
    have h4 := h1.up hb4
    have hq := htu.out
    rw [e1] at hq
    simp only [List.length_cons, List.length_nil, Nat.zero_add] at e2 hi2 h4
    have hf := hφH.out i (i + 1) (by omega)
    exact ret_stored rfl rfl rfl q0 q1 q2 q3 ⟨(hM1.trans (Mv.up hb4)).beside (Nat.le_refl _), Or.inl ⟨_, r, i + 1, g, _, hq, rfl, hv4.stored (fun b hb => by rcases hb with hb | hb; exact hb.elim; omega) (fun b hb => by rcases hb with hb | hb; exact hb.elim; omega), (set4_heap _ _ _ _ _ _ _ (by omega)).trans h4, e2, by omega, hi2, by omega⟩⟩
  · have hz1 : W0.heap.size ≤ w1.heap.size := k1.size
    have hz3 : w1.heap.size ≤ w3.heap.size := (k2.trans k3).size
    have h4 := h3.up hb4
    have hq := htu.out
    rw [e1] at hq
    rw [e3] at hw3
    simp only [hL, hw3] at hq
    simp only [List.length_cons, List.length_nil, Nat.zero_add] at e4 hj3 h4
    have hf := hφH.out j (j + 1) (by omega)
    exact ret_stored rfl rfl rfl q0 q1 q2 q3 ⟨(hM3.trans (Mv.up hb4)).beside (Nat.le_refl _), Or.inl ⟨_, r3, j + 1, g2, _, hq, rfl, hv4.stored (fun b hb => by rcases hb with hb | hb <;> omega) (fun b hb => by rcases hb with hb | hb <;> omega), (set4_heap _ _ _ _ _ _ _ (by omega)).trans h4, e4, by omega, hj3, by omega⟩⟩
  · have hq := htu.out
    rw [e1] at hq
    rw [e3] at hw3
    simp only [hL, hw3] at hq
    exact ⟨rfl, hM3, Or.inr ⟨rfl, hq⟩⟩
  · have hq := htu.out
    rw [e1] at hq
    simp only [hL] at hq
    exact ⟨rfl, hM2, Or.inr ⟨rfl, hq⟩⟩

end Go.Proofs.YtnbekfpkmebmbaaGreatDoor

/-
  The program's reader: funs.
-/
namespace Go.Proofs.YtnbekfpkmebmbaaGreatDoor
open Go.RowKit Go.Deep

theorem strip_nil (q : List UInt8) : strip [] q = some q := by rw [strip]
theorem Mv.side {p k j : Nat} {w w' : World} {v : Value} (h : Mv p w w') (hk : w.heap.size ≤ k) : Mv p w (w'.setCell ⟨k, j, none⟩ v) :=
  ⟨h.os, h.tape, h.output, by rw [size_setCell']; exact h.size, fun i hi hn => (Below.heap_setCell _ _ _ _ (show i ≠ k from by omega)).trans (h.block i hi hn)⟩
theorem namQ_bare {k lo hi n : Int} {q r : List UInt8} (h : namQ k lo hi [] q = some (.mk k n ⟨#[]⟩ [], r)) : numI lo hi q = some (n, r) ∧ r.length ≤ q.length := by
  unfold namQ at h
  cases e : numI lo hi q with
  | none => rw [e] at h; cases h
  | some x =>
    obtain ⟨n', y⟩ := x
    rw [e] at h
    simp only [strip_nil, Option.some.injEq, Prod.mk.injEq, Tm.mk.injEq, true_and, and_true] at h
    obtain ⟨rfl, rfl⟩ := h
    exact ⟨rfl, by have := (numI_some e).1; rw [this]; simp⟩
theorem namQ_miss {k lo hi : Int} {q : List UInt8} (h : namQ k lo hi [] q = none) : numI lo hi q = none := by
  unfold namQ at h
  cases e : numI lo hi q with
  | none => rfl
  | some x => rw [e] at h; simp only [strip_nil] at h; cases h

set_option maxRecDepth 100000 in
set_option maxHeartbeats 1000000 in
theorem fun_any (s : List UInt8) (φ : Nat → Nat) (hs : s.length ≤ 200000) (hφ : Pot s φ) (P : Rdr) (N : Nat) (hP : RT s φ P N)
    (p i g d : Nat) (w : World) (h : RdP w p s i (g + 1) d) (hw : Wld w) (hp : 6 ≤ p) (hm : May s φ i g d) (hi1 : 1 ≤ i) (hN : s.length - i < N) (hd : d + (s.length - i) ≤ 262142) :
    Calls Tryz.prog 45 #[.pointer (some ⟨p, 0, none⟩)] w (Reads s φ p i g d w (funP P true (s.drop i))) := by
  have hlt := h.lt
  have hi := hm.hi
  have hs9 : s.length ≤ 1000000000 := by omega
  have hna := Hid.mk (fun w1 (h1 : RdP w1 p s i (g + 1) d) (hw1 : Wld w1) => named_any p s [] i (g + 1) d 5 0 1073741824 w1 h1 hw1 hp hi hs9 (by simp) (by omega) (by omega) (by omega) (by omega) (fun n => nam_check 5 n (by simp)))
  have hsk := Hid.mk (fun j w1 (h1 : RdP w1 p s j (g + 1) d) hj => skip_any p s [44] j (g + 1) d w1 h1 hj hs9 (by simp))
  have hso := Hid.mk (fun j w1 (h1 : RdP w1 p s j (g + 1) d) (k1 : Mv p w w1) (hij : i ≤ j) (hsep : φ j + 1 ≤ φ i) (hj : j ≤ s.length) => some_any s φ hs hφ P N hP true 64 (Or.inl ⟨rfl, rfl⟩) p j (g + 1) d w1 h1 (k1.wld hw hp) hp ⟨hj, by have := hm.hg; omega, by have := hm.hd; omega⟩ (by omega) (by omega) (by omega))
  have hwa := Hid.mk (fun j g2 w1 (h1 : RdP w1 p s j g2 d) hj => want_any p s [62] j g2 d w1 h1 hj hs9 (by simp))
  have hφH := Hid.mk (hφ.falls)
  have hsepH := Hid.mk (fun (j : Nat) (r : List UInt8) (e : strip [44] (s.drop j) = some r) (hij : i ≤ j) => show φ (j + 1) + 1 ≤ φ i by
    have h1 := hφ.sep j 44 r (strip_some e) (by simp)
    have h2 := hφ.falls i j hij
    omega)
  have hsH := Hid.mk hs
  have hiH := Hid.mk hi
  obtain ⟨W0, hW0⟩ : ∃ W0, w.alloc zeroTerm = W0 := ⟨_, rfl⟩
  have hbox : W0.heap[w.heap.size]? = some zeroTerm := by rw [← hW0]; exact new_block w _
  have hu0 : Up w W0 := by rw [← hW0]; exact (Up.refl w).alloc
  have hR0 := h.up hu0
  have hw0 := hw.next hu0
  have hz0 : w.heap.size < W0.heap.size := (Array.getElem?_eq_some_iff.1 hbox).1
  clear hs hm hd hN hi1 hi hs9 hφ hP
  go_enter Tryz.func45, Tryz.ntmps45
  go_wp2_with (first
    | (go_at_call 44; refine (hna.out _ hR0 hw0).mono ?_; rintro e w1 ⟨k1, ⟨n, r, j, eN, rfl, h1, e2, hj, hn0, hn1⟩ | ⟨rfl, eN⟩⟩; all_goals (try unfold fault4); all_goals (have hM1 := (Mv.up hu0).trans k1; have hbox1 := k1.box hbox (by omega)); all_goals (first | (have hp1 := h1.lt) | skip); all_goals (first | (have hN2 := namQ_bare eN; have hjl : i ≤ j := (by have h5 := hN2.2; rw [← e2, List.length_drop, List.length_drop] at h5; have := hiH.out; omega); have hnb := Hid.mk (And.intro hn0 hn1); clear hn0 hn1) | skip))
    | (go_at_call 40; have hal : Up w1 (w1.alloc (.cells #[.int .i64 5, .int .i64 n, .string ⟨#[]⟩, .slice none 0 0] 24)) := (Up.refl w1).alloc; have htb := new_block w1 (.cells #[.int .i64 5, .int .i64 n, .string ⟨#[]⟩, .slice none 0 0] 24); have hboxa := (hal.block _ (Array.getElem?_eq_some_iff.1 hbox1).1).trans hbox1; have hMa := hM1.trans (Mv.up hal); have hza : w1.heap.size < (w1.alloc (.cells #[.int .i64 5, .int .i64 n, .string ⟨#[]⟩, .slice none 0 0] 24)).heap.size := (by rw [World.size_alloc]; omega); refine (hsk.out j _ (h1.up hal) hj).mono ?_; rintro e w2 ⟨k2, ⟨r2, e3, rfl, h2, e4, hi2⟩ | ⟨e3, rfl, h2⟩⟩; all_goals (have hM2 := hMa.trans k2; have hbox2 := k2.box hboxa (by omega); have htb2 := k2.box htb (by omega); have hz2 : w1.heap.size < w2.heap.size := Nat.lt_of_lt_of_le hza k2.size; obtain ⟨⟨r0, r1, r2', r3⟩, g0, g1, g2', g3⟩ := kept4 htb2 (Below.refl _ _); clear hza))
    | (go_at_call 62; refine (hso.out _ _ h2 hM2 (by simp; omega) (hsepH.out j r2 e3 hjl) hi2).mono ?_; rintro e w3 ⟨k3, ⟨L, r5, j3, g5, a, cap, hL, rfl, hl, h3, e5, hj5, hj6, hg5, hll⟩ | ⟨rfl, hL⟩⟩; all_goals (try unfold fault4); all_goals (have hM3 := hM2.trans k3; have hbox3 := k3.box hbox2 (by omega); have htb3 := k3.box htb2 (by omega)); all_goals (first | (clear r0 r1 r2' r3 g0 g1 g2' g3; obtain ⟨⟨r0, r1, r2', r3⟩, g0, g1, g2', g3⟩ := kept4 htb3 (Below.refl _ _)) | skip))
    | (go_at_call 63; have hzz : p ≠ w1.heap.size := (by omega); have hww : w.heap.size ≠ w1.heap.size := (by have := (Array.getElem?_eq_some_iff.1 hbox1).1; omega); have h4 : RdP (w3.setCell ⟨w1.heap.size, 3, none⟩ (.slice a L.length cap)) p s j3 g5 d := (Below.heap_setCell _ _ _ _ hzz).trans h3; have htb4 : (w3.setCell ⟨w1.heap.size, 3, none⟩ (.slice a L.length cap)).heap[w1.heap.size]? = some (.cells #[.int .i64 5, .int .i64 n, .string ⟨#[]⟩, .slice a L.length cap] 24) := (by simp [World.setCell, Array.getElem?_modify, htb3]); have hbox4 := (Below.heap_setCell w3 ⟨w1.heap.size, 3, none⟩ (.slice a L.length cap) _ hww).trans hbox3; have hM4 := hM3.side (j := 3) (v := .slice a L.length cap) (k := w1.heap.size) hM1.size; have hl4 := hl.move (w' := w3.setCell ⟨w1.heap.size, 3, none⟩ (.slice a L.length cap)) (fun b (hb : w2.heap.size ≤ b) => hb) (fun b o v hb hc => (by unfold World.cell? at hc ⊢; simp only at hc ⊢; rw [Below.heap_setCell _ _ _ _ (show b ≠ w1.heap.size from by omega)]; exact hc)); refine (hwa.out _ _ _ h4 hj6).mono ?_; rintro e w5 ⟨k5, ⟨u, r7, rfl, hw5, h5, e7, hj7⟩ | ⟨rfl, hw5⟩⟩; all_goals (try unfold fault4); all_goals (have hM5 := hM4.trans k5); all_goals (first | (obtain ⟨⟨q0, q1, q2, q3⟩, _⟩ := kept4 (k5.box hbox4 (by omega)) (Below.refl _ _); clear r0 r1 r2' r3 g0 g1 g2' g3; obtain ⟨⟨r0, r1, r2', r3⟩, _⟩ := kept4 (k5.box htb4 (by omega)) (Below.refl _ _); have hp2 := h2.lt; have hl5 := hl4.move (w' := w5) (fun b (hb : w2.heap.size ≤ b) => hb) (fun b o v hb hc => k5.cell (by omega) hc)) | skip))
    | (go_at_call 63; refine (hwa.out _ _ _ h2 hj).mono ?_; rintro e w5 ⟨k5, ⟨u, r7, rfl, hw5, h5, e7, hj7⟩ | ⟨rfl, hw5⟩⟩; all_goals (try unfold fault4); all_goals (have hM5 := hM2.trans k5); all_goals (first | (obtain ⟨⟨q0, q1, q2, q3⟩, _⟩ := kept4 (k5.box hbox2 (by omega)) (Below.refl _ _); clear r0 r1 r2' r3 g0 g1 g2' g3; obtain ⟨⟨r0, r1, r2', r3⟩, _⟩ := kept4 (k5.box htb2 (by omega)) (Below.refl _ _)) | skip)))
  · have hsp := hsepH.out j r2 e3 hjl
    rw [e2] at e3
    rw [e4] at hL
    rw [e5] at hw5
    have hq : funP P true (s.drop i) = some (.mk 5 n ⟨#[]⟩ L, r7) := by
      unfold funP
      simp only [hN2.1, e3, hL, hw5]
    simp only [List.length_cons, List.length_nil, Nat.zero_add] at hj5 hg5 e7 hj7 h5 hi2
    have hf := hφH.out j3 (j3 + 1) (by omega)
    have hf2 := hφH.out i (j + 1) (by omega)
    have hz1 := hM1.size
    exact ret_stored rfl rfl rfl q0 q1 q2 q3 ⟨hM5.beside (Nat.le_refl _), Or.inl ⟨_, r7, j3 + 1, g5, _, hq, rfl, (Lies.mk (k := 5) (n := n) (s := ⟨#[]⟩) ⟨by omega, by omega, hnb.out.1, hnb.out.2, (Nat.zero_le _ : 0 ≤ 9223372036854775807)⟩ hl5).stored (fun b hb => by omega) (fun b hb => by omega), (set4_heap _ _ _ _ _ _ _ (by omega)).trans h5, e7, by omega, hj7, by omega⟩⟩
  · rw [e2] at e3
    rw [e4] at hL
    rw [e5] at hw5
    have hq : funP P true (s.drop i) = none := by
      unfold funP
      simp only [hN2.1, e3, hL, hw5]
    exact ⟨rfl, hM5, Or.inr ⟨rfl, hq⟩⟩
  · rw [e2] at e3
    rw [e4] at hL
    have hq : funP P true (s.drop i) = none := by
      unfold funP
      simp only [hN2.1, e3, hL]
    exact ⟨rfl, hM3, Or.inr ⟨rfl, hq⟩⟩
  · rw [e2] at e3 hw5
    have hq : funP P true (s.drop i) = some (.mk 5 n ⟨#[]⟩ [], r7) := by
      unfold funP
      simp only [hN2.1, e3, hw5]
    simp only [List.length_cons, List.length_nil, Nat.zero_add] at e7 hj7 h5
    have hf := hφH.out i (j + 1) (by omega)
    exact ret_stored rfl rfl rfl q0 q1 q2 q3 ⟨hM5.beside (Nat.le_refl _), Or.inl ⟨_, r7, j + 1, g + 1, _, hq, rfl, num_lies 5 n (by omega) (by omega) hnb.out.1 hnb.out.2 _, (set4_heap _ _ _ _ _ _ _ (by omega)).trans h5, e7, by omega, hj7, by omega⟩⟩
  · rw [e2] at e3 hw5
    have hq : funP P true (s.drop i) = none := by
      unfold funP
      simp only [hN2.1, e3, hw5]
    exact ⟨rfl, hM5, Or.inr ⟨rfl, hq⟩⟩
  · have hq : funP P true (s.drop i) = none := by
      unfold funP
      simp only [namQ_miss eN]
    exact ⟨rfl, hM1, Or.inr ⟨rfl, hq⟩⟩

end Go.Proofs.YtnbekfpkmebmbaaGreatDoor

/-
  The program's reader: lists.
-/
namespace Go.Proofs.YtnbekfpkmebmbaaGreatDoor
open Go.RowKit Go.Deep

theorem peek_bar {s : List UInt8} {j : Nat} {b : Bool} (hb : (((s[j + 1]?.getD 0).toNat : Int) != 91) = b) : (s.drop (j + 1)).headD 0 = 91 ↔ b = false := by
  have h : (s.drop (j + 1)).headD 0 = s[j + 1]?.getD 0 := by simp
  rw [h]
  generalize s[j + 1]?.getD 0 = c at hb
  rw [← hb, bne_eq_false_iff_eq]
  constructor
  · intro h; subst h; rfl
  · intro h
    exact UInt8.toNat.inj (by have : (91 : UInt8).toNat = 91 := rfl; omega)
theorem end_bar {P : Rdr} {x y r z : List UInt8} {e : Tm} (h1 : strip [124] x = some y) (h2 : P y = some (e, z)) (h3 : ¬ (e.kd = 8 ∨ e.kd = 9)) (h4 : strip [93] z = some r) : endP P x = some (e, r) := by
  unfold endP
  simp only [h1, h2, if_neg h3, h4]

set_option maxRecDepth 100000 in
set_option maxHeartbeats 1000000 in
theorem list_any (s : List UInt8) (φ : Nat → Nat) (hs : s.length ≤ 200000) (hφ : Pot s φ) (P : Rdr) (N : Nat) (hP : RT s φ P N) (hPk : ∀ q e z, P q = some (e, z) → ((e.kd = 8 ∨ e.kd = 9) ↔ q.headD 0 = 91))
    (p i g d : Nat) (w : World) (h : RdP w p s i g d) (hw : Wld w) (hp : 6 ≤ p) (hm : May s φ i g d) (hi1 : 1 ≤ i) (hN : s.length - i < N) (hd : d + (s.length - i) ≤ 262142) :
    Calls Tryz.prog 42 #[.pointer (some ⟨p, 0, none⟩)] w (Reads s φ p i g d w (lstP P (s.drop i))) := by
  have hlt := h.lt
  have hi := hm.hi
  have hs9 : s.length ≤ 1000000000 := by omega
  have hsk := Hid.mk (fun w1 (h1 : RdP w1 p s i g d) => skip_any p s [93] i g d w1 h1 hi hs9 (by simp))
  have hso := Hid.mk (fun w1 (h1 : RdP w1 p s i g d) (k1 : Mv p w w1) => some_any s φ hs hφ P N hP false s.length (Or.inr ⟨rfl, rfl⟩) p i g d w1 h1 (k1.wld hw hp) hp hm hi1 hN hd)
  have hsb := Hid.mk (fun j g2 w1 (h1 : RdP w1 p s j g2 d) hj => skip_any p s [124] j g2 d w1 h1 hj hs9 (by simp))
  have hpe := Hid.mk (fun j g2 w1 (h1 : RdP w1 p s j g2 d) hj => peek_any p s j g2 d w1 h1 hj)
  have hpot := Hid.mk (fun (j g2 : Nat) (r : List UInt8) (e : strip [124] (s.drop j) = some r) (h2 : g2 + φ j ≤ g + 1 + φ i) => show g2 + φ (j + 1) ≤ g + φ i by
    have h1 := hφ.sep j 124 r (strip_some e) (by simp)
    omega)
  have hte := Hid.mk (fun j g2 w1 (h1 : RdP w1 p s j g2 d) (k1 : Mv p w w1) (hij : i ≤ j) (hj : j ≤ s.length) (hg2 : g2 + φ j ≤ g + φ i) => hP p j g2 d w1 h1 (k1.wld hw hp) hp ⟨hj, by have := hm.hg; omega, by have := hm.hd; omega⟩ (by omega))
  have hwa := Hid.mk (fun j g2 w1 (h1 : RdP w1 p s j g2 d) hj => want_any p s [93] j g2 d w1 h1 hj hs9 (by simp))
  have hφH := Hid.mk (hφ.falls)
  have hsH := Hid.mk hs
  have hiH := Hid.mk hi
  have hPkH := Hid.mk hPk
  have hsz := tx_size s
  obtain ⟨W0, hW0⟩ : ∃ W0, w.alloc zeroTerm = W0 := ⟨_, rfl⟩
  have hbox0 : W0.heap[w.heap.size]? = some zeroTerm := by rw [← hW0]; exact new_block w _
  have hu0 : Up w W0 := by rw [← hW0]; exact (Up.refl w).alloc
  have hz0 : w.heap.size < W0.heap.size := (Array.getElem?_eq_some_iff.1 hbox0).1
  obtain ⟨t, ht⟩ : ∃ t, W0.heap.size = t := ⟨_, rfl⟩
  obtain ⟨Wz, hWz⟩ : ∃ Wz, W0.alloc (.cells #[.int .i64 0, .int .i64 0, .string ⟨#[]⟩, .slice none 0 0] 24) = Wz := ⟨_, rfl⟩
  have htz : Wz.heap[t]? = some (.cells #[.int .i64 0, .int .i64 0, .string ⟨#[]⟩, .slice none 0 0] 24) := by rw [← hWz, ← ht]; exact new_block W0 _
  obtain ⟨⟨z0, z1, z2, z3⟩, y0, y1, y2, y3⟩ := kept4 htz (Below.refl _ _)
  have huz : Up w Wz := by rw [← hWz]; exact hu0.alloc
  obtain ⟨W1, hW1⟩ : ∃ W1, ((((Wz.setCell ⟨t, 0, none⟩ (.int .i64 8)).setCell ⟨t, 1, none⟩ (.int .i64 0)).setCell ⟨t, 2, none⟩ (.string ⟨#[]⟩)).setCell ⟨t, 3, none⟩ (.slice none 0 0)) = W1 := ⟨_, rfl⟩
  have htb : W1.heap[t]? = some (.cells #[.int .i64 8, .int .i64 0, .string ⟨#[]⟩, .slice none 0 0] 24) := by rw [← hW1]; exact set4_block htz
  have hu1 : Up w W1 := by rw [← hW1]; exact Below.set4 huz (by omega)
  have hbox : W1.heap[w.heap.size]? = some zeroTerm := by rw [← hW1, set4_heap _ _ _ _ _ _ _ (by omega), ← hWz]; exact (Below.heap_alloc _ _ _ (by omega)).trans hbox0
  have hz1 : t < W1.heap.size := (Array.getElem?_eq_some_iff.1 htb).1
  have hR1 := h.up hu1
  rw [ht] at hz0
  clear hs hm hd hN hi1 hi hs9 hφ hP hPk hbox0 hu0
  go_enter Tryz.func42, Tryz.ntmps42
  go_wp2_with (first
    | (go_at_call 40; have hj2' := hj2; refine (hsb.out _ _ _ h2 hj2).mono ?_; rintro e w3 ⟨k3, ⟨y, e4, rfl, h3, e5, hi3⟩ | ⟨e4, rfl, h3⟩⟩; all_goals (have hM3 := hM2.trans k3; have hbox3 := k3.box hbox2 (by omega); have htb3 := k3.box htb2 (by omega); have hp1 := h1.lt; have hl3 := hl.move (w' := w3) (fun b (hb : w1.heap.size ≤ b) => hb) (fun b o v hb hc => k3.cell (by omega) hc)))
    | (go_at_call 40; refine (hsk.out _ hR1).mono ?_; rintro e w1 ⟨k1, ⟨r, e1, rfl, h1, e2, hi2⟩ | ⟨e1, rfl, h1⟩⟩; all_goals (have hM1 := (Mv.up hu1).trans k1; have hbox1 := k1.box hbox (by omega); have htb1 := k1.box htb (by omega); have hy1 : t < w1.heap.size := Nat.lt_of_lt_of_le hz1 k1.size; obtain ⟨⟨q0, q1, q2, q3⟩, _⟩ := kept4 hbox1 (Below.refl _ _); obtain ⟨⟨r0, r1, r2', r3⟩, _⟩ := kept4 htb1 (Below.refl _ _); obtain ⟨⟨c0, c1, c2, c3⟩, _⟩ := h1.cells))
    | (go_at_call 62; refine (hso.out _ h1 hM1).mono ?_; rintro e w2 ⟨k2, ⟨L, r2, j, g2, a, cap, hL, rfl, hl, h2, e3, hj1, hj2, hg2, hll⟩ | ⟨rfl, hL⟩⟩; all_goals (try unfold fault4); all_goals (have hM2 := hM1.trans k2; have hbox2 := k2.box hbox1 (by omega); have htb2 := k2.box htb1 (by omega)); all_goals (clear q0 q1 q2 q3 r0 r1 r2' r3 c0 c1 c2 c3))
    | (go_at_call 47; refine (hpe.out _ _ _ h3 hi3).mono ?_; rintro e w4 ⟨rfl, hb4⟩; have h4 := h3.up hb4; have hM4 := hM3.trans (Mv.up hb4); have hbox4 := (hb4.block _ (Array.getElem?_eq_some_iff.1 hbox3).1).trans hbox3; have htb4 := (hb4.block _ (Array.getElem?_eq_some_iff.1 htb3).1).trans htb3; have hl4 := hl3.below hb4)
    | (go_at_call 20; refine (must_any _ _).mono ?_; rintro e w5 ⟨⟨hb, rfl⟩ | ⟨hb, rfl⟩, rfl⟩; all_goals (try unfold fault4))
    | (go_at_call 19; refine (hte.out _ _ _ h4 hM4 (by simp; omega) hi3 (hpot.out j g2 y e4 hg2)).mono ?_; rintro e w6 ⟨k6, ⟨T, r6, j6, g6, v, eT, rfl, hT, h6, e6, hj6, hj7, hg6⟩ | ⟨rfl, eT⟩⟩; all_goals (try unfold fault4); all_goals (have hM6 := hM4.trans k6; have hbox6 := k6.box hbox4 (by omega); have htb6 := k6.box htb4 (by omega)); all_goals (first | (have hT' := hT; obtain ⟨kk, nn, ss, aa, mm, cc, rfl⟩ := hT'.agg; obtain ⟨⟨s0, s1, s2, s3⟩, x0, x1, x2, x3⟩ := kept4 htb6 (Below.refl _ _); have hz4 : w1.heap.size ≤ w4.heap.size := Nat.le_trans (k2.trans k3).size hb4.size; have hl6 := hl4.move (w' := w6) (fun b (hb : w1.heap.size ≤ b) => hb) (fun b o v hb hc => k6.cell (by omega) hc)) | skip))
    | (go_at_call 63; have h7 : RdP (put4 w6 t 0 (.int .i64 kk) (.int .i64 nn) (.string ss) (.slice aa mm cc)) p s j6 g6 d := (set4_heap _ _ _ _ _ _ _ (by omega)).trans h6; have htb7 : (put4 w6 t 0 (.int .i64 kk) (.int .i64 nn) (.string ss) (.slice aa mm cc)).heap[t]? = _ := set4_block htb6; have hbox7 : (put4 w6 t 0 (.int .i64 kk) (.int .i64 nn) (.string ss) (.slice aa mm cc)).heap[w.heap.size]? = _ := (set4_heap _ _ _ _ _ _ _ (by omega)).trans hbox6; have hM7 : Mv p w (put4 w6 t 0 (.int .i64 kk) (.int .i64 nn) (.string ss) (.slice aa mm cc)) := hM6.beside (by omega); have hT7 : Lies (put4 w6 t 0 (.int .i64 kk) (.int .i64 nn) (.string ss) (.slice aa mm cc)) (fun b => w4.heap.size ≤ b) T _ := hT.stored (k := t) (fun b hb => by omega) (fun b hb => hb); have hl7 := hl6.move (w' := (put4 w6 t 0 (.int .i64 kk) (.int .i64 nn) (.string ss) (.slice aa mm cc))) (fun b (hb : w1.heap.size ≤ b) => hb) (fun b o v hb hc => (by unfold World.cell? at hc ⊢; simp only at hc ⊢; rw [put4_heap _ _ _ _ _ _ _ _ (show b ≠ t from by omega)]; exact hc)); refine (hwa.out _ _ _ h7 hj7).mono ?_; rintro e w8 ⟨k8, ⟨u, r8, rfl, hw8, h8, e8, hj8⟩ | ⟨rfl, hw8⟩⟩; all_goals (try unfold fault4); all_goals (have hM8 := hM7.trans k8); all_goals (first | (have hbox8 := k8.box hbox7 (by omega); clear s0 s1 s2 s3 x0 x1 x2 x3; obtain ⟨⟨s0, s1, s2, s3⟩, _⟩ := kept4 (k8.box htb7 (by omega)) (Below.refl _ _); have hl8 := hl7.move (w' := w8) (fun b (hb : w1.heap.size ≤ b) => hb) (fun b o v hb hc => k8.cell (by omega) hc); have hT8 := hT7.move (w' := w8) (fun b (hb : w4.heap.size ≤ b) => hb) (fun b o v hb hc => k8.cell (by omega) hc) _ _) | skip))
    | (go_at_call 63; refine (hwa.out _ _ _ h3 hj2).mono ?_; rintro e w8 ⟨k8, ⟨u, r8, rfl, hw8, h8, e8, hj8⟩ | ⟨rfl, hw8⟩⟩; all_goals (try unfold fault4); all_goals (have hM8 := hM3.trans k8); all_goals (first | (have hbox8 := k8.box hbox3 (by omega); obtain ⟨⟨s0, s1, s2, s3⟩, _⟩ := kept4 (k8.box htb3 (by omega)) (Below.refl _ _); have hl8 := hl3.move (w' := w8) (fun b (hb : w1.heap.size ≤ b) => hb) (fun b o v hb hc => k8.cell (by omega) hc)) | skip))
    | (go_at_call 64; refine (makeList_of L (by have := hsH.out; omega) T (fun b => w1.heap.size ≤ b ∧ b < w8.heap.size) a cap _ _ hl8.inside (hT8.inside.wider (fun b hb => ⟨Nat.le_trans hz4 hb.1, hb.2⟩)) (fun b hb => hb.2)).mono ?_; rintro e w9 ⟨⟨v9, rfl, hv9⟩, hb9⟩; have hv5 := hv9; obtain ⟨ka, na, sa, aa9, ma, ca, rfl⟩ := hv5.agg; obtain ⟨⟨q0, q1, q2, q3⟩, _⟩ := kept4 ((hb9.block _ (Array.getElem?_eq_some_iff.1 hbox8).1).trans hbox8) (Below.refl _ _))
    | (go_at_call 64; refine (makeList_of L (by have := hsH.out; omega) (.mk 8 0 ⟨#[]⟩ []) (fun b => w1.heap.size ≤ b ∧ b < w8.heap.size) a cap _ _ hl8.inside (num_lies 8 0 (by omega) (by omega) (by omega) (by omega) _) (fun b hb => hb.2)).mono ?_; rintro e w9 ⟨⟨v9, rfl, hv9⟩, hb9⟩; have hv5 := hv9; obtain ⟨ka, na, sa, aa9, ma, ca, rfl⟩ := hv5.agg; obtain ⟨⟨q0, q1, q2, q3⟩, _⟩ := kept4 ((hb9.block _ (Array.getElem?_eq_some_iff.1 hbox8).1).trans hbox8) (Below.refl _ _)))
  · have h5 := hi2
    have hq : lstP P (s.drop i) = some (.mk 8 0 ⟨#[]⟩ [], r) := by
      unfold lstP
      simp only [e1]
    simp only [List.length_cons, List.length_nil, Nat.zero_add] at e2 hi2 h1
    have hf := hφH.out i (i + 1) (by omega)
    exact ret_stored rfl rfl rfl q0 q1 q2 q3 ⟨hM1.beside (Nat.le_refl _), Or.inl ⟨_, r, i + 1, g, _, hq, rfl, num_lies 8 0 (by omega) (by omega) (by omega) (by omega) _, (set4_heap _ _ _ _ _ _ _ (by omega)).trans h1, e2, by omega, hi2, by omega⟩⟩
  · rw [e3] at e4
    rw [e6] at hw8
    have hk := hPkH.out _ _ _ eT
    have hk2 : ¬ (T.kd = 8 ∨ T.kd = 9) := fun h => by have h2 := (peek_bar hb).1 (hk.1 h); cases h2
    rw [e5] at eT
    have hq : lstP P (s.drop i) = some (conses L T, r8) := by
      unfold lstP
      simp only [e1, hL, end_bar e4 eT hk2 hw8]
    have h9 := h8.up hb9
    simp only [List.length_cons, List.length_nil, Nat.zero_add] at e8 hj8 h9 hj6 hg6 hi3
    have hf := hφH.out j6 (j6 + 1) (by omega)
    have hp2 := hpot.out j g2 y (by rw [e3]; exact e4) hg2
    have hz9 : w1.heap.size ≤ w8.heap.size := Nat.le_trans hz4 (Nat.le_trans k6.size (Nat.le_trans (Nat.le_of_eq (put4_size _ _ _ _ _ _ _).symm) k8.size))
    exact ret_stored rfl rfl rfl q0 q1 q2 q3 ⟨(hM8.trans (Mv.up hb9)).beside (Nat.le_refl _), Or.inl ⟨_, r8, j6 + 1, g6, _, hq, rfl, hv9.stored (fun b hb => by rcases hb with hb | hb <;> omega) (fun b hb => by rcases hb with hb | hb <;> omega), (set4_heap _ _ _ _ _ _ _ (by omega)).trans h9, e8, by omega, hj8, by omega⟩⟩
  · rw [e3] at e4
    rw [e6] at hw8
    rw [e5] at eT
    have hq : lstP P (s.drop i) = none := by
      unfold lstP endP
      simp only [e1, hL, e4, eT, hw8]
      split <;> simp_all
    exact ⟨rfl, hM8, Or.inr ⟨rfl, hq⟩⟩
  · rw [e3] at e4
    rw [e5] at eT
    have hq : lstP P (s.drop i) = none := by
      unfold lstP endP
      simp only [e1, hL, e4, eT]
    exact ⟨rfl, hM6, Or.inr ⟨rfl, hq⟩⟩
  · rw [e3] at e4
    have hq : lstP P (s.drop i) = none := by
      unfold lstP endP
      simp only [e1, hL, e4]
      cases eT : P y with
      | none => rfl
      | some x =>
        obtain ⟨T, z⟩ := x
        have hk := hPkH.out _ _ _ eT
        rw [← e5] at hk
        have hk2 := hk.2 ((peek_bar hb).2 rfl)
        simp only [if_pos hk2]
    exact ⟨rfl, hM4, Or.inr ⟨rfl, hq⟩⟩
  · rw [e3] at e4 hw8
    have hq : lstP P (s.drop i) = some (conses L (.mk 8 0 ⟨#[]⟩ []), r8) := by
      unfold lstP endP
      simp only [e1, hL, e4, hw8]
    have h9 := h8.up hb9
    simp only [List.length_cons, List.length_nil, Nat.zero_add] at e8 hj8 h9
    have hf := hφH.out j (j + 1) (by omega)
    have hz9 : w1.heap.size ≤ w8.heap.size := ((k2.trans k3).trans k8).size
    exact ret_stored rfl rfl rfl q0 q1 q2 q3 ⟨(hM8.trans (Mv.up hb9)).beside (Nat.le_refl _), Or.inl ⟨_, r8, j + 1, g2, _, hq, rfl, hv9.stored (fun b hb => by rcases hb with hb | hb <;> omega) (fun b hb => by rcases hb with hb | hb <;> omega), (set4_heap _ _ _ _ _ _ _ (by omega)).trans h9, e8, by omega, hj8, by omega⟩⟩
  · rw [e3] at e4 hw8
    have hq : lstP P (s.drop i) = none := by
      unfold lstP endP
      simp only [e1, hL, e4, hw8]
    exact ⟨rfl, hM8, Or.inr ⟨rfl, hq⟩⟩
  · have hq : lstP P (s.drop i) = none := by
      unfold lstP
      simp only [e1, hL]
    exact ⟨rfl, hM2, Or.inr ⟨rfl, hq⟩⟩

end Go.Proofs.YtnbekfpkmebmbaaGreatDoor

/-
  The program's reader: which way a term is read.
-/
namespace Go.Proofs.YtnbekfpkmebmbaaGreatDoor
open Go.RowKit Go.Deep

/-- A term is read by what it begins with, in the order in which the program asks. -/
def termS (P : Rdr) (lim : Bool) (q : List UInt8) : Option (Tm × List UInt8) :=
  match strip [123] q with
  | some x => tupP P lim x
  | none => match strip [91] q with
    | some x => lstP P x
    | none => match strip [39] q with
      | some x => atomM (quoP x)
      | none => match strip [35, 82, 101, 102, 60] q with
        | some x => namQ 3 0 1073741824 [62] x
        | none => match strip [35, 84, 105, 100, 60] q with
          | some x => namQ 4 0 1073741824 [62] x
          | none => match strip [60, 48, 46] q with
            | some x => namQ 6 0 1073741824 [46, 48, 62] x
            | none => match strip [35, 70, 117, 110, 60] q with
              | some x => funP P lim x
              | none => if isLow (q.headD 0) = true then atomM (plainP q) else namQ 1 (-576460752303423488) 576460752303423487 [] q
theorem strip_ne {a c : UInt8} {p q : List UInt8} (h : a ≠ c) : strip (a :: p) (c :: q) = none := strip_none (fun r e => h (by injection e with e1 _; exact e1.symm))
theorem strip_empty {a : UInt8} {p : List UInt8} : strip (a :: p) [] = none := strip_none (fun r e => by cases e)
theorem strip_one {a : UInt8} {q : List UInt8} : strip [a] (a :: q) = some q := by simp [strip]
theorem numI_no {lo hi : Int} {c : UInt8} {q : List UInt8} (h : ¬ (c = 45 ∨ isDig c = true)) : numI lo hi (c :: q) = none := by
  cases e : numI lo hi (c :: q) with
  | none => rfl
  | some x =>
    obtain ⟨n, r⟩ := x
    have h1 := (numI_some e).1
    obtain ⟨c', y, e2, h2⟩ := dec_head n
    rw [e2] at h1
    injection h1 with h3 _
    subst h3
    exact absurd h2 h
theorem numI_empty {lo hi : Int} : numI lo hi [] = none := by
  cases e : numI lo hi [] with
  | none => rfl
  | some x =>
    obtain ⟨n, r⟩ := x
    have h1 := (numI_some e).1
    obtain ⟨c', y, e2, h2⟩ := dec_head n
    rw [e2] at h1
    cases h1
theorem namQ_int (q : List UInt8) : namQ 1 (-576460752303423488) 576460752303423487 [] q = (numI (-576460752303423488) 576460752303423487 q).map fun p => (.mk 1 p.1 ⟨#[]⟩ [], p.2) := by
  unfold namQ
  cases numI (-576460752303423488) 576460752303423487 q with
  | none => rfl
  | some x => simp [strip_nil]
theorem namP_eq (k : Int) (a b q : List UInt8) : namP k a b q = match strip a q with
    | none => none
    | some x => namQ k 0 1073741824 b x := rfl
theorem termP_eq (P : Rdr) (lim : Bool) (q : List UInt8) : termP P lim q = termS P lim q := by
  cases q with
  | nil =>
    unfold termS
    simp only [strip_empty]
    rw [if_neg (by decide), namQ_int, numI_empty]
    rfl
  | cons c q' =>
    unfold termP termS
    simp only [List.headD_cons]
    by_cases h1 : c = 45 ∨ isDig c = true
    · have hn : ∀ a : UInt8, ¬ (a = 45 ∨ isDig a = true) → a ≠ c := fun a h e => h (e ▸ h1)
      have hl : ¬ isLow c = true := fun h => low_no h h1
      rw [if_pos h1, strip_ne (hn 123 (by decide)), strip_ne (hn 91 (by decide)), strip_ne (hn 39 (by decide)), strip_ne (hn 35 (by decide)), strip_ne (hn 35 (by decide)), strip_ne (hn 60 (by decide)), strip_ne (hn 35 (by decide))]
      simp only [if_neg hl, namQ_int]
    · rw [if_neg h1]
      have hno := numI_no (lo := -576460752303423488) (hi := 576460752303423487) (q := q') h1
      by_cases h2 : c = 39
      · subst h2
        rw [if_pos rfl, strip_ne (by decide), strip_ne (by decide), strip_one]
      · rw [if_neg h2]
        by_cases h3 : isLow c = true
        · have hn : ∀ a : UInt8, isLow a = false → a ≠ c := fun a h e => by subst e; rw [h] at h3; cases h3
          rw [if_pos h3, strip_ne (hn 123 (by decide)), strip_ne (hn 91 (by decide)), strip_ne (hn 39 (by decide)), strip_ne (hn 35 (by decide)), strip_ne (hn 35 (by decide)), strip_ne (hn 60 (by decide)), strip_ne (hn 35 (by decide))]
          simp only [h3, if_true]
        · rw [if_neg h3]
          by_cases h4 : c = 60
          · subst h4
            rw [if_pos rfl, strip_ne (a := 123) (by decide), strip_ne (a := 91) (by decide), strip_ne (a := 39) (by decide), strip_ne (a := 35) (by decide), strip_ne (a := 35) (by decide), strip_ne (a := 35) (by decide), namP_eq]
            simp only [if_neg h3, namQ_int, hno]
            cases strip [60, 48, 46] (60 :: q') <;> rfl
          · rw [if_neg h4]
            by_cases h5 : c = 35
            · subst h5
              rw [if_pos rfl, strip_ne (a := 123) (by decide), strip_ne (a := 91) (by decide), strip_ne (a := 39) (by decide), strip_ne (a := 60) (by decide), namP_eq, namP_eq]
              simp only [if_neg h3, namQ_int, hno]
              cases strip [35, 82, 101, 102, 60] (35 :: q') with
              | some x => rfl
              | none => cases strip [35, 84, 105, 100, 60] (35 :: q') with
                | some x => rfl
                | none => cases strip [35, 70, 117, 110, 60] (35 :: q') <;> rfl
            · rw [if_neg h5]
              by_cases h6 : c = 123
              · subst h6
                rw [if_pos rfl, strip_one]
              · rw [if_neg h6]
                by_cases h7 : c = 91
                · subst h7
                  rw [if_pos rfl, strip_ne (a := 123) (by decide), strip_one]
                · rw [if_neg h7, strip_ne (a := 123) (fun e => h6 e.symm), strip_ne (a := 91) (fun e => h7 e.symm), strip_ne (a := 39) (fun e => h2 e.symm), strip_ne (a := 35) (fun e => h5 e.symm), strip_ne (a := 35) (fun e => h5 e.symm), strip_ne (a := 60) (fun e => h4 e.symm), strip_ne (a := 35) (fun e => h5 e.symm)]
                  simp only [if_neg h3, namQ_int, hno]
                  rfl

end Go.Proofs.YtnbekfpkmebmbaaGreatDoor

/-
  The program's reader: terms.
-/
namespace Go.Proofs.YtnbekfpkmebmbaaGreatDoor
open Go.RowKit Go.Deep

/-- What one way of reading a term answers. -/
def Got (s : List UInt8) (φ : Nat → Nat) (p i g d : Nat) (w : World) (R : Option (Tm × List UInt8)) (e : Ending) (w' : World) : Prop :=
  Mv p w w' ∧ ((∃ T r j g' k n ss a m cap, R = some (T, r) ∧ e = .returned (.agg #[.int .i64 k, .int .i64 n, .string ss, .slice a m cap]) ∧ Lies w' (fun b => w.heap.size ≤ b) T (.agg #[.int .i64 k, .int .i64 n, .string ss, .slice a m cap]) ∧ RdP w' p s j g' d ∧ s.drop j = r ∧ j ≤ s.length ∧ (i ≤ j → g' + φ j ≤ g + 1 + φ i)) ∨ (e = fault4 ∧ R = none))
theorem Reads.got {s : List UInt8} {φ : Nat → Nat} {p i i2 g c d : Nat} {w w' : World} {R R' : Option (Tm × List UInt8)} {e : Ending} (h : Reads s φ p i2 c d w R e w') (hR : R' = R) (hb : c + φ i2 ≤ g + φ i) : Got s φ p i g d w R' e w' := by
  obtain ⟨h1, ⟨T, r, j, g', v, h2, rfl, h3, h4, h5, h6, h7, h8⟩ | ⟨h2, h3⟩⟩ := h
  · have h3' := h3
    obtain ⟨k, n, ss, a, m, cap, rfl⟩ := h3'.agg
    exact ⟨h1, Or.inl ⟨T, r, j, g', _, _, _, _, _, _, hR.trans h2, rfl, h3, h4, h5, h7, fun _ => by omega⟩⟩
  · exact ⟨h1, Or.inr ⟨h2, hR.trans h3⟩⟩
theorem got_named {s b : List UInt8} {φ : Nat → Nat} (hφ : Pot s φ) {p i i2 g d : Nat} {w w' : World} {R' : Option (Tm × List UInt8)} {k lo hi : Int} {e : Ending} (hk0 : 0 ≤ k) (hk1 : k ≤ 100)
    (h : Mv p w w' ∧ ((∃ n r j, namQ k lo hi b (s.drop i2) = some (.mk k n ⟨#[]⟩ [], r) ∧ e = .returned (.agg #[.int .i64 k, .int .i64 n, .string ⟨#[]⟩, .slice none 0 0]) ∧ RdP w' p s j (g + 1) d ∧ s.drop j = r ∧ j ≤ s.length ∧ -9223372036854775808 ≤ n ∧ n ≤ 9223372036854775807) ∨ (e = fault4 ∧ namQ k lo hi b (s.drop i2) = none)))
    (hR : R' = namQ k lo hi b (s.drop i2)) : Got s φ p i g d w R' e w' := by
  obtain ⟨h1, ⟨n, r, j, h2, rfl, h4, h5, h7, h8, h9⟩ | ⟨h2, h3⟩⟩ := h
  · exact ⟨h1, Or.inl ⟨_, r, j, g + 1, _, _, _, _, _, _, hR.trans h2, rfl, num_lies k n (by omega) (by omega) h8 h9 _, h4, h5, h7, fun hij => by have := hφ.falls i j hij; omega⟩⟩
  · exact ⟨h1, Or.inr ⟨h2, hR.trans h3⟩⟩
theorem got_atom {s : List UInt8} {φ : Nat → Nat} (hφ : Pot s φ) {p i g d : Nat} {w w' : World} {R' : Option (Tm × List UInt8)} {o : Option (List UInt8 × List UInt8)} {e : Ending} (ho : ∀ t r, o = some (t, r) → t.length ≤ 1000000000)
    (h : Mv p w w' ∧ ((∃ t r j, o = some (t, r) ∧ e = .returned (.agg #[.int .i64 2, .int .i64 0, .string (tx t), .slice none 0 0]) ∧ RdP w' p s j (g + 1) d ∧ s.drop j = r ∧ j ≤ s.length) ∨ (e = fault4 ∧ o = none)))
    (hR : R' = atomM o) : Got s φ p i g d w R' e w' := by
  obtain ⟨h1, ⟨t, r, j, h2, rfl, h4, h5, h7⟩ | ⟨h2, h3⟩⟩ := h
  · have h8 := ho t r h2
    refine ⟨h1, Or.inl ⟨.mk 2 0 (tx t) [], r, j, g + 1, _, _, _, _, _, _, by rw [hR, h2]; rfl, rfl, ?_, h4, h5, h7, fun hij => by have := hφ.falls i j hij; omega⟩⟩
    exact Lies.mk (k := 2) (n := 0) (s := tx t) (l := []) ⟨by omega, by omega, by omega, by omega, by rw [tx_size]; omega⟩ (lst_nil _ _)
  · exact ⟨h1, Or.inr ⟨h2, by rw [hR, h3]; rfl⟩⟩

set_option maxRecDepth 100000 in
set_option maxHeartbeats 1000000 in
theorem term_step (s : List UInt8) (φ : Nat → Nat) (hs : s.length ≤ 200000) (hφ : Pot s φ) (P : Rdr) (N : Nat) (hP : RT s φ P N) (hPk : ∀ q e z, P q = some (e, z) → ((e.kd = 8 ∨ e.kd = 9) ↔ q.headD 0 = 91)) (hS : Snd true (termP P true)) : RT s φ (termP P true) (N + 1) := by
  intro p i g d w h hw hp hm hN
  have hlt := h.lt
  have hi := hm.hi
  have hs9 : s.length ≤ 1000000000 := by omega
  obtain ⟨R, hR⟩ : ∃ R, termP P true (s.drop i) = R := ⟨_, rfl⟩
  have hRS : Hid (R = termS P true (s.drop i)) := Hid.mk (by rw [← hR, termP_eq])
  have hSR : Hid (∀ T r, R = some (T, r) → r.length < s.length - i) := Hid.mk (fun T r hT => by
    have h1 := (hS _ _ _ (hR.trans hT)).1
    have h2 := congrArg List.length h1
    rw [List.length_drop, List.length_append] at h2
    obtain ⟨k, n, ss, l⟩ := T
    obtain ⟨c, x, e, _⟩ := text_head k n ss.toList (l.map Tm.txs)
    rw [text_mk, e, List.length_cons] at h2
    omega)
  rw [hR]
  have hsk := Hid.mk (fun q w1 (h1 : RdP w1 p s i (g + 1) d) (hq : q.length ≤ 1000) => skip_any p s q i (g + 1) d w1 h1 hi hs9 hq)
  have hpe := Hid.mk (fun w1 (h1 : RdP w1 p s i (g + 1) d) => peek_any p s i (g + 1) d w1 h1 hi)
  obtain ⟨g1, hg1⟩ : ∃ g1, g1 = g + 1 := ⟨_, rfl⟩
  have hwg : IntKind.i64.wrap ((g : Int) + 1) = (g1 : Int) := by have := hm.hg; rw [hg1, wrap_id] <;> omega
  obtain ⟨W0, hW0⟩ : ∃ W0, w.alloc zeroTerm = W0 := ⟨_, rfl⟩
  have hbox0 : W0.heap[w.heap.size]? = some zeroTerm := by rw [← hW0]; exact new_block w _
  have hu0 : Up w W0 := by rw [← hW0]; exact (Up.refl w).alloc
  have hz0 : w.heap.size < W0.heap.size := (Array.getElem?_eq_some_iff.1 hbox0).1
  have h0 := h.up hu0
  obtain ⟨⟨c0, c1, c2, c3⟩, f0, f1, f2, f3⟩ := h0.cells
  obtain ⟨W1, hW1⟩ : ∃ W1, W0.setCell ⟨p, 2, none⟩ (.int .i64 g1) = W1 := ⟨_, rfl⟩
  have hR1 : RdP W1 p s i g1 d := by rw [← hW1]; exact (h0.begun g1)
  have hM1 : Mv p w W1 := by rw [← hW1]; exact (Mv.up hu0).set
  have hbox : W1.heap[w.heap.size]? = some zeroTerm := by rw [← hW1]; exact (Below.heap_setCell _ _ _ _ (show w.heap.size ≠ p from by omega)).trans hbox0
  have hg1H := Hid.mk hg1
  have hsH := Hid.mk hs
  have hmH := Hid.mk hm
  have hNH := Hid.mk hN
  rw [← hg1] at hsk hpe
  clear hR hs hN hg1 hbox0 hi hs9
  go_enter Tryz.func19, Tryz.ntmps19
  have htu := Hid.mk (fun w1 (h1 : RdP w1 p s (i + [(123 : UInt8)].length) g1 d) (k1 : Mv p w w1) (hj : i + [(123 : UInt8)].length ≤ s.length) x (e : strip [123] (s.drop i) = some x) (ex : s.drop (i + [(123 : UInt8)].length) = x) =>
    show Calls Tryz.prog 41 #[.pointer (some ⟨p, 0, none⟩)] w1 (Got s φ p i g d w1 R) from by
    have h2 := hφ.sep i 123 x (strip_some e) (by simp)
    have h3 := hmH.out
    have h4 := h3.hg
    have h5 := h3.hd
    have h6 := hNH.out
    have h7 := hg1H.out
    simp only [List.length_cons, List.length_nil, Nat.zero_add] at h1 hj ex
    refine (tuple_any s φ hsH.out hφ P N hP p (i + 1) g1 d w1 h1 (k1.wld hw hp) hp ⟨hj, by omega, by omega⟩ (by omega) (by omega) (by omega)).mono fun e' w' h => Reads.got h ?_ (by omega)
    rw [hRS.out, termS, e, ex])
  have hli := Hid.mk (fun w1 (h1 : RdP w1 p s (i + [(91 : UInt8)].length) g1 d) (k1 : Mv p w w1) (hj : i + [(91 : UInt8)].length ≤ s.length) x (e0 : strip [123] (s.drop i) = none) (e : strip [91] (s.drop i) = some x) (ex : s.drop (i + [(91 : UInt8)].length) = x) =>
    show Calls Tryz.prog 42 #[.pointer (some ⟨p, 0, none⟩)] w1 (Got s φ p i g d w1 R) from by
    have h2 := hφ.sep i 91 x (strip_some e) (by simp)
    have h3 := hmH.out
    have h4 := h3.hg
    have h5 := h3.hd
    have h6 := hNH.out
    have h7 := hg1H.out
    simp only [List.length_cons, List.length_nil, Nat.zero_add] at h1 hj ex
    refine (list_any s φ hsH.out hφ P N hP hPk p (i + 1) g1 d w1 h1 (k1.wld hw hp) hp ⟨hj, by omega, by omega⟩ (by omega) (by omega) (by omega)).mono fun e' w' h => Reads.got h ?_ (by omega)
    rw [hRS.out, termS, e0]
    simp only [e, ex])
  have hrf := Hid.mk (fun w1 (h1 : RdP w1 p s (i + ([35, 82, 101, 102, 60] : List UInt8).length) g1 d) (k1 : Mv p w w1) (hj : i + ([35, 82, 101, 102, 60] : List UInt8).length ≤ s.length) x (e1 : strip [123] (s.drop i) = none) (e2 : strip [91] (s.drop i) = none) (e3 : strip [39] (s.drop i) = none) (e : strip [35, 82, 101, 102, 60] (s.drop i) = some x) (ex : s.drop (i + ([35, 82, 101, 102, 60] : List UInt8).length) = x) =>
    show Calls Tryz.prog 44 #[.pointer (some ⟨p, 0, none⟩), .int .i64 3, .string (tx [62])] w1 (Got s φ p i g d w1 R) from by
    have h7 := hg1H.out
    subst h7
    have hs9 : s.length ≤ 1000000000 := by have := hsH.out; omega
    refine (named_any p s [62] _ (g + 1) d 3 0 1073741824 w1 h1 (k1.wld hw hp) hp hj hs9 (by simp) (by omega) (by omega) (by omega) (by omega) (fun n => nam_check 3 n (by simp))).mono fun e' w' h => got_named hφ (by omega) (by omega) h ?_
    rw [hRS.out, termS]
    simp only [e1, e2, e3, e, ex])
  have hti := Hid.mk (fun w1 (h1 : RdP w1 p s (i + ([35, 84, 105, 100, 60] : List UInt8).length) g1 d) (k1 : Mv p w w1) (hj : i + ([35, 84, 105, 100, 60] : List UInt8).length ≤ s.length) x (e1 : strip [123] (s.drop i) = none) (e2 : strip [91] (s.drop i) = none) (e3 : strip [39] (s.drop i) = none) (e4 : strip [35, 82, 101, 102, 60] (s.drop i) = none) (e : strip [35, 84, 105, 100, 60] (s.drop i) = some x) (ex : s.drop (i + ([35, 84, 105, 100, 60] : List UInt8).length) = x) =>
    show Calls Tryz.prog 44 #[.pointer (some ⟨p, 0, none⟩), .int .i64 4, .string (tx [62])] w1 (Got s φ p i g d w1 R) from by
    have h7 := hg1H.out
    subst h7
    have hs9 : s.length ≤ 1000000000 := by have := hsH.out; omega
    refine (named_any p s [62] _ (g + 1) d 4 0 1073741824 w1 h1 (k1.wld hw hp) hp hj hs9 (by simp) (by omega) (by omega) (by omega) (by omega) (fun n => nam_check 4 n (by simp))).mono fun e' w' h => got_named hφ (by omega) (by omega) h ?_
    rw [hRS.out, termS]
    simp only [e1, e2, e3, e4, e, ex])
  have hpi := Hid.mk (fun w1 (h1 : RdP w1 p s (i + ([60, 48, 46] : List UInt8).length) g1 d) (k1 : Mv p w w1) (hj : i + ([60, 48, 46] : List UInt8).length ≤ s.length) x (e1 : strip [123] (s.drop i) = none) (e2 : strip [91] (s.drop i) = none) (e3 : strip [39] (s.drop i) = none) (e4 : strip [35, 82, 101, 102, 60] (s.drop i) = none) (e5 : strip [35, 84, 105, 100, 60] (s.drop i) = none) (e : strip [60, 48, 46] (s.drop i) = some x) (ex : s.drop (i + ([60, 48, 46] : List UInt8).length) = x) =>
    show Calls Tryz.prog 44 #[.pointer (some ⟨p, 0, none⟩), .int .i64 6, .string (tx [46, 48, 62])] w1 (Got s φ p i g d w1 R) from by
    have h7 := hg1H.out
    subst h7
    have hs9 : s.length ≤ 1000000000 := by have := hsH.out; omega
    refine (named_any p s [46, 48, 62] _ (g + 1) d 6 0 1073741824 w1 h1 (k1.wld hw hp) hp hj hs9 (by simp) (by omega) (by omega) (by omega) (by omega) (fun n => nam_check 6 n (by simp))).mono fun e' w' h => got_named hφ (by omega) (by omega) h ?_
    rw [hRS.out, termS]
    simp only [e1, e2, e3, e4, e5, e, ex])
  have hqu := Hid.mk (fun w1 (h1 : RdP w1 p s (i + [(39 : UInt8)].length) g1 d) (k1 : Mv p w w1) (hj : i + [(39 : UInt8)].length ≤ s.length) x (e1 : strip [123] (s.drop i) = none) (e2 : strip [91] (s.drop i) = none) (e : strip [39] (s.drop i) = some x) (ex : s.drop (i + [(39 : UInt8)].length) = x) =>
    show Calls Tryz.prog 43 #[.pointer (some ⟨p, 0, none⟩)] w1 (Got s φ p i g d w1 R) from by
    have h7 := hg1H.out
    subst h7
    refine (quotedR_any p s _ (g + 1) d w1 h1 (k1.wld hw hp) hp hj (by have := hsH.out; omega)).mono fun e' w' h => got_atom hφ (fun t r ho => ?_) h ?_
    · have := (quoP_some ho).2.1
      omega
    · rw [hRS.out, termS]
      simp only [e1, e2, e, ex])
  have hfu := Hid.mk (fun w1 (h1 : RdP w1 p s (i + ([35, 70, 117, 110, 60] : List UInt8).length) g1 d) (k1 : Mv p w w1) (hj : i + ([35, 70, 117, 110, 60] : List UInt8).length ≤ s.length) x (e1 : strip [123] (s.drop i) = none) (e2 : strip [91] (s.drop i) = none) (e3 : strip [39] (s.drop i) = none) (e4 : strip [35, 82, 101, 102, 60] (s.drop i) = none) (e5 : strip [35, 84, 105, 100, 60] (s.drop i) = none) (e6 : strip [60, 48, 46] (s.drop i) = none) (e : strip [35, 70, 117, 110, 60] (s.drop i) = some x) (ex : s.drop (i + ([35, 70, 117, 110, 60] : List UInt8).length) = x) =>
    show Calls Tryz.prog 45 #[.pointer (some ⟨p, 0, none⟩)] w1 (Got s φ p i g d w1 R) from by
    have h7 := hg1H.out
    subst h7
    have h2 := hφ.falls i (i + ([35, 70, 117, 110, 60] : List UInt8).length) (by omega)
    have h3 := hmH.out
    have h4 := h3.hg
    have h5 := h3.hd
    have h6 := hNH.out
    have hl : ([35, 70, 117, 110, 60] : List UInt8).length = 5 := rfl
    refine (fun_any s φ hsH.out hφ P N hP p _ g d w1 h1 (k1.wld hw hp) hp ⟨hj, by omega, by omega⟩ (by omega) (by omega) (by omega)).mono fun e' w' h => Reads.got h ?_ (by omega)
    rw [hRS.out, termS]
    simp only [e1, e2, e3, e4, e5, e6, e, ex])
  have hpl := Hid.mk (fun w1 (h1 : RdP w1 p s i g1 d) (e1 : strip [123] (s.drop i) = none) (e2 : strip [91] (s.drop i) = none) (e3 : strip [39] (s.drop i) = none) (e4 : strip [35, 82, 101, 102, 60] (s.drop i) = none) (e5 : strip [35, 84, 105, 100, 60] (s.drop i) = none) (e6 : strip [60, 48, 46] (s.drop i) = none) (e7 : strip [35, 70, 117, 110, 60] (s.drop i) = none) (hl : isLow (s[i]?.getD 0) = true) =>
    show Calls Tryz.prog 48 #[.pointer (some ⟨p, 0, none⟩)] w1 (Got s φ p i g d w1 R) from by
    have h7 := hg1H.out
    subst h7
    have h8 := hsH.out
    refine (plainR_any p s _ (g + 1) d w1 h1 hmH.out.hi (by omega)).mono fun e' w' h => got_atom hφ (fun t r ho => ?_) h ?_
    · have h9 := congrArg List.length (plainP_some ho).1
      rw [List.length_drop, List.length_append] at h9
      omega
    · rw [hRS.out, termS]
      have hh : (s.drop i).headD 0 = s[i]?.getD 0 := by simp
      simp only [e1, e2, e3, e4, e5, e6, e7, hh, hl, if_true])
  have hin := Hid.mk (fun w1 (h1 : RdP w1 p s i g1 d) (k1 : Mv p w w1) (e1 : strip [123] (s.drop i) = none) (e2 : strip [91] (s.drop i) = none) (e3 : strip [39] (s.drop i) = none) (e4 : strip [35, 82, 101, 102, 60] (s.drop i) = none) (e5 : strip [35, 84, 105, 100, 60] (s.drop i) = none) (e6 : strip [60, 48, 46] (s.drop i) = none) (e7 : strip [35, 70, 117, 110, 60] (s.drop i) = none) (hl : ¬ isLow (s[i]?.getD 0) = true) =>
    show Calls Tryz.prog 44 #[.pointer (some ⟨p, 0, none⟩), .int .i64 1, .string (tx [])] w1 (Got s φ p i g d w1 R) from by
    have h7 := hg1H.out
    subst h7
    have hs9 : s.length ≤ 1000000000 := by have := hsH.out; omega
    refine (named_any p s [] _ (g + 1) d 1 (-576460752303423488) 576460752303423487 w1 h1 (k1.wld hw hp) hp hmH.out.hi hs9 (by simp) (by omega) (by omega) (by omega) (by omega) (fun n => int_check n)).mono fun e' w' h => got_named hφ (by omega) (by omega) h ?_
    rw [hRS.out, termS]
    have hh : (s.drop i).headD 0 = s[i]?.getD 0 := by simp
    simp only [e1, e2, e3, e4, e5, e6, e7, hh, if_neg hl])
  have h0' := hR1
  have M0 := hM1
  have b0 := hbox
  clear hφ hP hPk hw hp
  go_wp2_with (first
    | (go_at_call 40; have hh := h6'; refine (hsk.out [35, 70, 117, 110, 60] _ h6' (by simp)).mono ?_; rintro e w7 ⟨k7, ⟨x7, e7, rfl, y7, q7, i7⟩ | ⟨e7, rfl, h7'⟩⟩; all_goals (have M7 := M6.trans k7; have b7 := k7.box b6 (by omega)))
    | (go_at_call 40; have hh := h5'; refine (hsk.out [60, 48, 46] _ h5' (by simp)).mono ?_; rintro e w6 ⟨k6, ⟨x6, e6, rfl, y6, q6, i6⟩ | ⟨e6, rfl, h6'⟩⟩; all_goals (have M6 := M5.trans k6; have b6 := k6.box b5 (by omega)))
    | (go_at_call 40; have hh := h4'; refine (hsk.out [35, 84, 105, 100, 60] _ h4' (by simp)).mono ?_; rintro e w5 ⟨k5, ⟨x5, e5, rfl, y5, q5, i5⟩ | ⟨e5, rfl, h5'⟩⟩; all_goals (have M5 := M4.trans k5; have b5 := k5.box b4 (by omega)))
    | (go_at_call 40; have hh := h3'; refine (hsk.out [35, 82, 101, 102, 60] _ h3' (by simp)).mono ?_; rintro e w4 ⟨k4, ⟨x4, e4, rfl, y4, q4, i4⟩ | ⟨e4, rfl, h4'⟩⟩; all_goals (have M4 := M3.trans k4; have b4 := k4.box b3 (by omega)))
    | (go_at_call 40; have hh := h2'; refine (hsk.out [39] _ h2' (by simp)).mono ?_; rintro e w3 ⟨k3, ⟨x3, e3, rfl, y3, q3, i3⟩ | ⟨e3, rfl, h3'⟩⟩; all_goals (have M3 := M2.trans k3; have b3 := k3.box b2 (by omega)))
    | (go_at_call 40; have hh := h1'; refine (hsk.out [91] _ h1' (by simp)).mono ?_; rintro e w2 ⟨k2, ⟨x2, e2, rfl, y2, q2, i2⟩ | ⟨e2, rfl, h2'⟩⟩; all_goals (have M2 := M1.trans k2; have b2 := k2.box b1 (by omega)))
    | (go_at_call 40; have hh := h0'; refine (hsk.out [123] _ h0' (by simp)).mono ?_; rintro e w1 ⟨k1, ⟨x1, e1, rfl, y1, q1, i1⟩ | ⟨e1, rfl, h1'⟩⟩; all_goals (have M1 := M0.trans k1; have b1 := k1.box b0 (by omega)))
    | (go_at_call 41; refine (htu.out _ y1 M1 i1 x1 e1 q1).mono ?_; rintro e w9 ⟨k9, ⟨T, r9, j9, g9, kv, nv, sv, av, mv, cv, eR, rfl, hT, h9, e9, hj9, hg9⟩ | ⟨rfl, eR⟩⟩; all_goals (try unfold fault4); all_goals (have M9 := M1.trans k9; have b9 := k9.box b1 (by omega); have hzz := (Array.getElem?_eq_some_iff.1 b1).1); all_goals (obtain ⟨⟨z0, z1, z2, z3⟩, _⟩ := kept4 b9 (Below.refl _ _)))
    | (go_at_call 42; refine (hli.out _ y2 M2 i2 x2 e1 e2 q2).mono ?_; rintro e w9 ⟨k9, ⟨T, r9, j9, g9, kv, nv, sv, av, mv, cv, eR, rfl, hT, h9, e9, hj9, hg9⟩ | ⟨rfl, eR⟩⟩; all_goals (try unfold fault4); all_goals (have M9 := M2.trans k9; have b9 := k9.box b2 (by omega); have hzz := (Array.getElem?_eq_some_iff.1 b2).1); all_goals (obtain ⟨⟨z0, z1, z2, z3⟩, _⟩ := kept4 b9 (Below.refl _ _)))
    | (go_at_call 47; refine (hpe.out _ h7').mono ?_; rintro e w8 ⟨rfl, hb8⟩; have h8' := h7'.up hb8; have M8 := M7.trans (Mv.up hb8); have b8 := (hb8.block _ (Array.getElem?_eq_some_iff.1 b7).1).trans b7)
    | (go_at_call 43; refine (hqu.out _ y3 M3 i3 x3 e1 e2 e3 q3).mono ?_; rintro e w9 ⟨k9, ⟨T, r9, j9, g9, kv, nv, sv, av, mv, cv, eR, rfl, hT, h9, e9, hj9, hg9⟩ | ⟨rfl, eR⟩⟩; all_goals (try unfold fault4); all_goals (have M9 := M3.trans k9; have b9 := k9.box b3 (by omega); have hzz := (Array.getElem?_eq_some_iff.1 b3).1); all_goals (obtain ⟨⟨z0, z1, z2, z3⟩, _⟩ := kept4 b9 (Below.refl _ _)))
    | (go_at_call 45; refine (hfu.out _ y7 M7 i7 x7 e1 e2 e3 e4 e5 e6 e7 q7).mono ?_; rintro e w9 ⟨k9, ⟨T, r9, j9, g9, kv, nv, sv, av, mv, cv, eR, rfl, hT, h9, e9, hj9, hg9⟩ | ⟨rfl, eR⟩⟩; all_goals (try unfold fault4); all_goals (have M9 := M7.trans k9; have b9 := k9.box b7 (by omega); have hzz := (Array.getElem?_eq_some_iff.1 b7).1); all_goals (obtain ⟨⟨z0, z1, z2, z3⟩, _⟩ := kept4 b9 (Below.refl _ _)))
    | (go_at_call 46; refine (lower_any _ _).mono ?_; rintro e w ⟨rfl, rfl⟩)
    | (go_at_call 48; refine (hpl.out _ h8' e1 e2 e3 e4 e5 e6 e7 ‹_›).mono ?_; rintro e w9 ⟨k9, ⟨T, r9, j9, g9, kv, nv, sv, av, mv, cv, eR, rfl, hT, h9, e9, hj9, hg9⟩ | ⟨rfl, eR⟩⟩; all_goals (try unfold fault4); all_goals (have M9 := M8.trans k9; have b9 := k9.box b8 (by omega); have hzz := (Array.getElem?_eq_some_iff.1 b8).1); all_goals (obtain ⟨⟨z0, z1, z2, z3⟩, _⟩ := kept4 b9 (Below.refl _ _)))
    | (go_at_call 44; refine (hrf.out _ y4 M4 i4 x4 e1 e2 e3 e4 q4).mono ?_; rintro e w9 ⟨k9, ⟨T, r9, j9, g9, kv, nv, sv, av, mv, cv, eR, rfl, hT, h9, e9, hj9, hg9⟩ | ⟨rfl, eR⟩⟩; all_goals (try unfold fault4); all_goals (have M9 := M4.trans k9; have b9 := k9.box b4 (by omega); have hzz := (Array.getElem?_eq_some_iff.1 b4).1); all_goals (obtain ⟨⟨z0, z1, z2, z3⟩, _⟩ := kept4 b9 (Below.refl _ _)))
    | (go_at_call 44; refine (hti.out _ y5 M5 i5 x5 e1 e2 e3 e4 e5 q5).mono ?_; rintro e w9 ⟨k9, ⟨T, r9, j9, g9, kv, nv, sv, av, mv, cv, eR, rfl, hT, h9, e9, hj9, hg9⟩ | ⟨rfl, eR⟩⟩; all_goals (try unfold fault4); all_goals (have M9 := M5.trans k9; have b9 := k9.box b5 (by omega); have hzz := (Array.getElem?_eq_some_iff.1 b5).1); all_goals (obtain ⟨⟨z0, z1, z2, z3⟩, _⟩ := kept4 b9 (Below.refl _ _)))
    | (go_at_call 44; refine (hpi.out _ y6 M6 i6 x6 e1 e2 e3 e4 e5 e6 q6).mono ?_; rintro e w9 ⟨k9, ⟨T, r9, j9, g9, kv, nv, sv, av, mv, cv, eR, rfl, hT, h9, e9, hj9, hg9⟩ | ⟨rfl, eR⟩⟩; all_goals (try unfold fault4); all_goals (have M9 := M6.trans k9; have b9 := k9.box b6 (by omega); have hzz := (Array.getElem?_eq_some_iff.1 b6).1); all_goals (obtain ⟨⟨z0, z1, z2, z3⟩, _⟩ := kept4 b9 (Below.refl _ _)))
    | (go_at_call 44; refine (hin.out _ h8' M8 e1 e2 e3 e4 e5 e6 e7 (by simpa using ‹_›)).mono ?_; rintro e w9 ⟨k9, ⟨T, r9, j9, g9, kv, nv, sv, av, mv, cv, eR, rfl, hT, h9, e9, hj9, hg9⟩ | ⟨rfl, eR⟩⟩; all_goals (try unfold fault4); all_goals (have M9 := M8.trans k9; have b9 := k9.box b8 (by omega); have hzz := (Array.getElem?_eq_some_iff.1 b8).1); all_goals (obtain ⟨⟨z0, z1, z2, z3⟩, _⟩ := kept4 b9 (Below.refl _ _))))
  all_goals (first
    | exact ⟨rfl, M9, Or.inr ⟨rfl, eR⟩⟩
    | (have hsr := hSR.out T r9 eR
       rw [← e9, List.length_drop] at hsr
       exact ret_stored rfl rfl rfl z0 z1 z2 z3 ⟨M9.beside (Nat.le_refl _), Or.inl ⟨T, r9, j9, g9, _, eR, rfl, hT.stored (fun b hb => by omega) (fun b hb => by omega), (set4_heap _ _ _ _ _ _ _ (by omega)).trans h9, e9, by omega, hj9, hg9 (by omega)⟩⟩))

end Go.Proofs.YtnbekfpkmebmbaaGreatDoor

/-
  The program's reader: terms, however deep.
-/
namespace Go.Proofs.YtnbekfpkmebmbaaGreatDoor
open Go.RowKit Go.Deep

/-- A list, or another Cons, is what begins with its bracket. -/
theorem parse_bar (lim : Bool) (f : Nat) (q : List UInt8) (e : Tm) (z : List UInt8) (h : parse lim f q = some (e, z)) : (e.kd = 8 ∨ e.kd = 9) ↔ q.headD 0 = 91 := by
  obtain ⟨h1, h2, _, _⟩ := parse_some lim f q e z h
  obtain ⟨k, n, ss, l⟩ := e
  obtain ⟨c, x, e, hc⟩ := text_head k n ss.toList (l.map Tm.txs)
  rw [text_mk, e] at h1
  subst h1
  rw [Tm.fitsR, Bool.and_eq_true] at h2
  have hk := fitR_kind h2.1
  simp only [Tm.kd, List.cons_append, List.headD_cons]
  unfold first at hc
  constructor
  · intro h8
    rw [if_neg (by omega), if_neg (by omega), if_neg (by omega), if_neg (by omega), if_neg (by omega)] at hc
    exact hc
  · intro h9
    subst h9
    by_cases h1 : k = 1
    · rw [if_pos h1] at hc; exact absurd hc (by decide)
    by_cases h2 : k = 2
    · rw [if_neg h1, if_pos h2] at hc; exact absurd hc (by decide)
    by_cases h3 : k = 3 ∨ k = 4 ∨ k = 5
    · rw [if_neg h1, if_neg h2, if_pos h3] at hc; exact absurd hc (by decide)
    by_cases h6 : k = 6
    · rw [if_neg h1, if_neg h2, if_neg h3, if_pos h6] at hc; exact absurd hc (by decide)
    by_cases h7 : k = 7
    · rw [if_neg h1, if_neg h2, if_neg h3, if_neg h6, if_pos h7] at hc; exact absurd hc (by decide)
    omega
theorem term_any (s : List UInt8) (φ : Nat → Nat) (hs : s.length ≤ 200000) (hφ : Pot s φ) : ∀ f, RT s φ (parse true f) f := by
  intro f
  induction f with
  | zero => intro p i g d w _ _ _ _ h; omega
  | succ f ih => exact term_step s φ hs hφ (parse true f) f ih (parse_bar true f) (parse_some true (f + 1))

end Go.Proofs.YtnbekfpkmebmbaaGreatDoor
