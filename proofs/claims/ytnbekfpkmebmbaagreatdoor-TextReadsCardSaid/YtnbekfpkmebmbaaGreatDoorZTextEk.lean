/-
  The reader of the document's answers: a list, walked.
-/
import Derived.Test.YtnbekfpkmebmbaaGreatDoorZTextEg
namespace Go.Proofs.YtnbekfpkmebmbaaGreatDoor
open Go.RowKit Go.Deep

theorem lst_out {p t B j i : Nat} {s : List UInt8} {w W : World} {b : Bool} {L : List Tm} {lv : Value} {c : Array Value} {T : Tm} {o : Option (Tm × List UInt8)} {k n : Int} {ss : ByteArray} {a : Option Addr} {m cc : Nat} (h : LS p w W t B s j b L lv c) (hp : p < w.heap.size ∧ w.heap.size < t ∧ t < B)
    (hT : Lies W (fun b => B ≤ b) T (.agg #[.int .i64 k, .int .i64 n, .string ss, .slice a m cc])) (hj : i ≤ j ∧ j ≤ s.length + 1) (ho : (b = false ∧ j ≤ s.length ∧ o = some (T, s.drop j)) ∨ (b = true ∧ o = none)) :
    Out p s i w o (.returned (.agg #[.int .i64 k, .int .i64 n, .string ss, .slice a m cc])) ((((W.setCell ⟨w.heap.size, 0, none⟩ (.int .i64 k)).setCell ⟨w.heap.size, 1, none⟩ (.int .i64 n)).setCell ⟨w.heap.size, 2, none⟩ (.string ss)).setCell ⟨w.heap.size, 3, none⟩ (.slice a m cc)) :=
  ⟨h.mv.beside (Nat.le_refl _), T, _, j, b, rfl, Lies.stored (k := w.heap.size) hT (fun b hb => by omega) (fun b hb => by omega), (set4_heap _ _ _ _ _ _ _ (by omega)).trans h.rd, hj.1, hj.2, ho⟩

set_option maxRecDepth 100000 in
set_option maxHeartbeats 8000000 in
theorem listE_any (s : List UInt8) (hs : s.length ≤ 200000) (P : Rdr) (N : Nat) (hP : RTE s P N) (hS : Snd false P) (p i : Nat) (w : World) (h : Rd w p s i false) (Q : List UInt8) (hQ : s.drop i = 91 :: Q) (hN : s.length - i < N + 1) :
    Calls Tryz.prog 33 #[.pointer (some ⟨p, 0, none⟩)] w (Out p s i w (lstP P Q)) := by
  have hil : i + 1 ≤ s.length := by have := congrArg List.length hQ; simp at this; omega
  have hQ1 : s.drop (i + 1) = Q := by rw [← List.drop_drop, hQ]; rfl
  have hg0 : goesOn s i [91] = true := (goesOn_is s i [91]).2 ⟨Q, hQ⟩
  obtain ⟨i1, hi1⟩ : ∃ i1, i + 1 = i1 := ⟨_, rfl⟩
  rw [hi1] at hQ1 hil
  have hpw := h.lt
  obtain ⟨W0, hW0⟩ : ∃ W0, w.alloc zeroTerm = W0 := ⟨_, rfl⟩
  have hbox0 : W0.heap[w.heap.size]? = some zeroTerm := by rw [← hW0]; exact new_block w _
  have hu0 : Up w W0 := by rw [← hW0]; exact (Up.refl w).alloc
  have hz0 : w.heap.size < W0.heap.size := (Array.getElem?_eq_some_iff.1 hbox0).1
  obtain ⟨t, ht⟩ : ∃ t, W0.heap.size = t := ⟨_, rfl⟩
  obtain ⟨Wz, hWz⟩ : ∃ Wz, W0.alloc (.cells #[.int .i64 0, .int .i64 0, .string ⟨#[]⟩, .slice none 0 0] 24) = Wz := ⟨_, rfl⟩
  have htz : Wz.heap[t]? = some (.cells #[.int .i64 0, .int .i64 0, .string ⟨#[]⟩, .slice none 0 0] 24) := by rw [← hWz, ← ht]; exact new_block W0 _
  obtain ⟨⟨z0, z1, z2, z3⟩, y0, y1, y2, y3⟩ := kept4 htz (Below.refl _ _)
  have huz : Up w Wz := by rw [← hWz]; exact hu0.alloc
  obtain ⟨W1, hW1⟩ : ∃ W1, ((((Wz.setCell ⟨t, 0, none⟩ (.int .i64 8)).setCell ⟨t, 1, none⟩ (.int .i64 0)).setCell ⟨t, 2, none⟩ (.string ⟨#[]⟩)).setCell ⟨t, 3, none⟩ (.slice none 0 0)) = W1 := ⟨_, rfl⟩
  have htb : W1.heap[t]? = some (.cells #[.int .i64 8, .int .i64 0, .string ⟨#[]⟩, .slice none 0 0] 24) := by rw [← hW1]; exact set4_block htz
  have hu1 : Up w W1 := by rw [← hW1]; exact Below.set4 huz (by omega)
  have hbox : W1.heap[w.heap.size]? = some zeroTerm := by rw [← hW1, set4_heap _ _ _ _ _ _ _ (by omega), ← hWz]; exact (Below.heap_alloc _ _ _ (by omega)).trans hbox0
  have hz1 : t < W1.heap.size := (Array.getElem?_eq_some_iff.1 htb).1
  obtain ⟨B0, hB0⟩ : ∃ B0, W1.heap.size = B0 := ⟨_, rfl⟩
  have hpt : p < w.heap.size ∧ w.heap.size < t ∧ t < B0 := ⟨hpw, by omega, by omega⟩
  have K1 := Hid.mk (show LS p w W1 t B0 s i false [] (.slice none 0 0) #[.int .i64 8, .int .i64 0, .string ⟨#[]⟩, .slice none 0 0] from ⟨h.below hu1, Mv.up hu1, hbox, htb, Itm.start _ _, by omega⟩)
  have hsH := Hid.mk hs
  have hNH := Hid.mk (show s.length - i1 < N by omega)
  have hI1 := Hid.mk (show i + 1 = i1 ∧ i1 ≤ s.length from ⟨hi1, hil⟩)
  have hSH := Hid.mk hS
  have hQH := Hid.mk hQ1
  have hE0 := Hid.mk (eat_yes p s [91] i W1 (K1.out.rd) (by omega) (by omega) (by simp) (by simp) hg0)
  have hst : Hid (∀ (c : UInt8) (j : Nat) (b : Bool) (w1 : World), Rd w1 p s j b → (b = false → j ≤ s.length) → Calls Tryz.prog 29 #[.pointer (some ⟨p, 0, none⟩), .string ⟨#[c]⟩] w1 fun e w' => e = .returned (.bool (!b && goesOn s j [c])) ∧ Below w1.heap.size w1 w') := Hid.mk (fun c j b w1 h1 hj => startsE_any p s [c] j b w1 h1 (by omega) hj (by simp))
  have heL : Hid (∀ (c : UInt8) (j : Nat) (b : Bool) (w1 : World), Rd w1 p s j b → j ≤ s.length + 1 → Calls Tryz.prog 31 #[.pointer (some ⟨p, 0, none⟩), .string ⟨#[c]⟩] w1 fun e w' => e = .returned (.tuple #[]) ∧ Mv p w1 w' ∧ ∃ j1 c1, Rd w' p s j1 c1 ∧ EatO [c] s j b j1 c1) := Hid.mk (fun c j b w1 h1 hj => eatO_any p s [c] j b w1 h1 (by omega) hj (by simp) (by simp))
  obtain ⟨Tot, hTot⟩ : ∃ Tot, itemsP P false (Q.length + 1) 0 Q = Tot := ⟨_, rfl⟩
  have HTot := Hid.mk hTot
  clear hs hN hS hQ hQ1 hil hi1 hg0 hTot hbox hu1 hbox0 hu0 hz0 hz1 huz htb htz hB0 h
  go_enter Tryz.func33, Tryz.ntmps33
  go_wp2_with (first
    | (go_at_call 29
       (with_reducible refine (hst.out 93 i1 false _ K2.out.rd (fun _ => hI1.out.2)).mono ?_)
       rintro e2 w2 ⟨rfl, hb2⟩
       obtain ⟨st0, hst0⟩ : ∃ st0, (!false && goesOn s i1 [93]) = st0 := ⟨_, rfl⟩
       rw [hst0]
       have HST0 := Hid.mk hst0
       have K2b := Hid.mk (K2.out.up hpt hb2)
       have K2 := K2b
       clear hst0 hb2)
    | (go_at_call 31
       (with_reducible refine (heL.out 93 i1 false _ K2.out.rd (by have := hI1.out; omega)).mono ?_)
       rintro e3 w3 ⟨rfl, m3, j3, c3, R3, hE3⟩
       have K3 := Hid.mk (K2.out.call hpt m3 R3)
       have E3 := Hid.mk hE3
       obtain ⟨⟨s0, s1, s2, s3⟩, x0, x1, x2, x3⟩ := kept4 K3.out.tb (Below.refl _ _)
       obtain ⟨⟨q0, q1, q2, q3⟩, y0, y1, y2, y3⟩ := kept4 K3.out.box (Below.refl _ _)
       clear m3 R3 hE3)
    | (go_at_call 31
       refine hE0.out.mono ?_
       rintro e1 w1 ⟨rfl, R1, m1⟩
       have K2 := Hid.mk (K1.out.call hpt m1 (show Rd w1 p s i1 false from hI1.out.1 ▸ R1))
       clear R1 m1 z0 z1 z2 z3 y0 y1 y2 y3))
  · have h1 : st0 = true := by first | assumption | simp_all
    have h2 := HST0.out
    rw [h1, Bool.not_false, Bool.true_and, goes_is] at h2
    have hE := E3.out
    refine ret_stored rfl rfl rfl q0 q1 q2 q3 (lst_out (T := .mk 8 0 ⟨#[]⟩ []) K3.out hpt (num_lies 8 0 (by omega) (by omega) (by omega) (by omega) _) ?_ ?_)
    · rcases hE with ⟨_, _, h3, h4, _⟩ | ⟨_, h3, _⟩ <;> (try simp at h3) <;> have := hI1.out <;> omega
    · rcases hE with ⟨rfl, _, rfl, h5, h6⟩ | ⟨rfl, rfl, h6⟩
      · rw [hQH.out] at h6
        exact Or.inl ⟨rfl, h5, by rw [lstP, h6]⟩
      · rw [h6.resolve_left (by decide)] at h2
        cases h2
  · have h1 : st0 = false := by first | assumption | simp_all
    have h2 := HST0.out
    rw [h1, Bool.not_false, Bool.true_and, goes_is, hQH.out] at h2
    have hno : strip [93] Q = none := by
      cases hh : strip [93] Q with
      | none => rfl
      | some x => rw [hh] at h2; cases h2
    have HNO := Hid.mk hno
    have hA0 := Hid.mk (show ItTo P s i1 false [] Tot from Or.inl ⟨rfl, hI1.out.2, Q.length + 1, by rw [hQH.out]; exact Nat.lt_succ_self _, by rw [hQH.out, HTot.out]; cases Tot <;> simp⟩)
    clear h2 hno
    subst h1
    have K2' := K2.out
    clear K1 K2 hE0
    go_loopg [3] (s.length + 1 - i1) (fun g lv wr => ∃ (j : Nat) (b : Bool) (L : List Tm), Hid ((b = false ∧ j + g = s.length + 1) ∨ b = true) ∧ Hid (i1 ≤ j ∧ j ≤ s.length + 1 ∧ (b = false → L.length ≤ j) ∧ L.length ≤ s.length + 1) ∧ LS p w wr t B0 s j b L lv #[.int .i64 8, .int .i64 0, .string ⟨#[]⟩, .slice none 0 0] ∧ Hid (ItTo P s j b L Tot))
    case atStart => exact ⟨i1, false, [], Hid.mk (Or.inl ⟨rfl, by have := hI1.out; omega⟩), Hid.mk ⟨Nat.le_refl _, by have := hI1.out; omega, fun _ => by simp, by simp⟩, K2', hA0⟩
    case round =>
      clear hA0 K2'
      obtain ⟨j, b, L, hm, hj, hK, hA⟩ := hrel
      obtain ⟨⟨c0, c1, c2⟩, f0, f1, f2⟩ := hK.rd.cells
      cases b
      · have hjl := Hid.mk (show j ≤ s.length by rcases hA.out with ⟨_, h1, _⟩ | ⟨h1, _⟩; exact h1; cases h1)
        have hT1 := Hid.mk (hP p j wr hK.rd hjl.out (by have := hj.out; have := hNH.out; omega))
        have hKH := Hid.mk hK
        have hLl := Hid.mk (show L.length ≤ 1000000 by have := hj.out.2.2.1 (by simp); have := hjl.out; have := hsH.out; omega)
        have hLj := Hid.mk (show L.length ≤ j from hj.out.2.2.1 (by simp))
        clear hK
        go_upto_region 17 with (first
          | (go_at_call 10
             have g0 := k6
             have hT2 := hP p j3 w6 R6'.out G6.out.2.2.2.1 (by have := G6.out.2.2.1; have := HJX1.out; have := hNH.out; omega)
             refine hT2.mono ?_
             rintro e7 w7 ⟨m7, T2, v7, j4, b4, rfl, hT7, R7, hij7, hj7, ho7⟩
             obtain ⟨kT, nT, sT, lT⟩ := T2
             obtain ⟨aT, cT, rfl, _, hlT⟩ := hT7.out
             have K7 := Hid.mk (K6.out.call hpt m7 R7)
             obtain ⟨⟨s0, s1, s2, s3⟩, x0, x1, x2, x3⟩ := kept4 K7.out.tb (Below.refl _ _)
             obtain ⟨⟨q0, q1, q2, q3⟩, y0, y1, y2, y3⟩ := kept4 K7.out.box (Below.refl _ _)
             obtain ⟨W8, hW8⟩ : ∃ W8, ((((w7.setCell ⟨t, 0, none⟩ (.int .i64 kT)).setCell ⟨t, 1, none⟩ (.int .i64 nT)).setCell ⟨t, 2, none⟩ (.string sT)).setCell ⟨t, 3, none⟩ (.slice aT lT.length cT)) = W8 := ⟨_, rfl⟩
             have K8 := Hid.mk (K7.out.put hpt hW8)
             have T8 := Hid.mk (show Lies W8 (fun b => w6.heap.size ≤ b) (.mk kT nT sT lT) (.agg #[.int .i64 kT, .int .i64 nT, .string sT, .slice aT lT.length cT]) from by rw [← hW8]; exact Lies.stored (k := t) hT7 (fun b hb => by have := K6.out.size; omega) (fun b hb => hb))
             have O7 := Hid.mk ho7
             have HJ7 := Hid.mk (show j3 ≤ j4 ∧ j4 ≤ s.length + 1 from ⟨hij7, hj7⟩)
             have Z6 := Hid.mk (show t < w6.heap.size from by have := K6.out.size; omega)
             obtain ⟨⟨r0, r1, r2, r3⟩, _⟩ := kept4 K8.out.tb (Below.refl _ _)
             obtain ⟨⟨c0, c1, c2⟩, f0, f1, f2⟩ := K8.out.rd.cells
             obtain ⟨W9, hW9⟩ : ∃ W9, W8.setCell ⟨p, 2, none⟩ (.bool true) = W9 := ⟨_, rfl⟩
             have K9 := Hid.mk (K8.out.worse hpt hW9)
             have T9 := Hid.mk (show Lies W9 (fun b => w6.heap.size ≤ b) (.mk kT nT sT lT) (.agg #[.int .i64 kT, .int .i64 nT, .string sT, .slice aT lT.length cT]) from by rw [← hW9]; exact T8.out.move (fun _ h => h) (fun b o u hb hc => (Mv.refl p W8).set.cell (by have := Z6.out; omega) hc) _ _)
             have k7 := True.intro
             clear m7 hT7 R7 hij7 hj7 ho7 hlT)
          | (go_at_call 10
             (with_reducible refine hT1.out.mono ?_)
             rintro e2 w2 ⟨m2, T, v, j2, b2, rfl, hT, R2, hij, hj2, ho⟩
             obtain ⟨kk, nn, ss, aa, mm, cc, rfl⟩ := hT.agg
             obtain ⟨V, hV⟩ : ∃ V, w2.alloc (.cells #[.int .i64 kk, .int .i64 nn, .string ss, .slice aa mm cc] 24) = V := ⟨_, rfl⟩
             obtain ⟨v', w3, hr, hK3⟩ := (hKH.out.call hpt m2 R2).app hpt hV hT hKH.out.size (fun g hg => (hKH.out.itm.own g hg).2) hLl.out 22
             have K3 := Hid.mk hK3
             have HO := Hid.mk ho
             have HJX := Hid.mk hj2
             have HJ2b := Hid.mk (show b2 = false → j2 ≤ s.length from fun hb => by rcases ho with ⟨_, h1, _⟩ | ⟨h1, _⟩; exact h1; rw [hb] at h1; cases h1)
             have HJX1 := Hid.mk (show i1 ≤ j2 from by have := hj.out; omega)
             have HJJ := Hid.mk hij
             obtain ⟨LX, hLX⟩ : ∃ LX, L ++ [T] = LX := ⟨_, rfl⟩
             have HLXe := Hid.mk hLX
             have HLX := Hid.mk (show LX.length ≤ 1000000 from by rw [← hLX]; have := hLj.out; have := hjl.out; have := hsH.out; simp; omega)
             rw [hLX] at K3
             clear hT m2 R2 hK3 ho hj2 hij hLX c0 c1 c2 f0 f1 f2)
          | (at_builtin; refine Lib.wpList_append_run _ rfl _ _ _ _ rfl _ _ rfl rfl _ _ hr ?_)
          | (go_at_call 29
             (with_reducible refine (hst.out 44 j2 b2 _ K3.out.rd HJ2b.out).mono ?_)
             rintro e4 w4 ⟨rfl, hb4⟩
             obtain ⟨st, hst1⟩ : ∃ st, (!b2 && goesOn s j2 [44]) = st := ⟨_, rfl⟩
             rw [hst1]
             have HST := Hid.mk hst1
             have K4 := Hid.mk (K3.out.up hpt hb4)
             clear hst1 hb4)
          | (go_at_call 31
             (with_reducible refine (heL.out 44 j2 b2 _ K4.out.rd HJX.out).mono ?_)
             rintro e5 w5 ⟨rfl, m5, j5, c5, R5, hE5⟩
             have K5e := Hid.mk (K4.out.call hpt m5 R5)
             have E5 := Hid.mk hE5
             clear m5 R5 hE5)
          | (go_at_call 29
             (with_reducible refine (hst.out 124 j2 b2 _ K4.out.rd HJ2b.out).mono ?_)
             rintro e5 w5 ⟨rfl, hb5⟩
             obtain ⟨st2, hst2⟩ : ∃ st2, (!b2 && goesOn s j2 [124]) = st2 := ⟨_, rfl⟩
             rw [hst2]
             have HST2 := Hid.mk hst2
             have K5 := Hid.mk (K4.out.up hpt hb5)
             clear hst2 hb5)
          | (go_at_call 31
             (with_reducible refine (heL.out 124 j2 b2 _ K5.out.rd HJX.out).mono ?_)
             rintro e6 w6 ⟨rfl, m6, j3, c3, R6, hE6⟩
             have G7b := Hid.mk (show st2 = true from by assumption)
             have hg6 := bar_good (HST2.out.trans G7b.out) hE6
             have K6 := Hid.mk (K5.out.call hpt m6 R6)
             have E6 := Hid.mk hE6
             have G6 := Hid.mk hg6
             have R6' := Hid.mk (show Rd w6 p s j3 false from hg6.1 ▸ R6)
             have k6 := True.intro
             clear m6 R6 hE6 hg6)
          | (go_at_call 31
             have g9 := k7
             (with_reducible refine (heL.out 93 j4 true W9 K9.out.rd HJ7.out.2).mono ?_)
             rintro e10 w10 ⟨rfl, m10, j8, c8, R10, hE10⟩
             have K10 := Hid.mk (K9.out.call hpt m10 R10)
             have E10 := Hid.mk hE10
             have T10 := Hid.mk (T9.out.move (w' := w10) (fun _ h => h) (fun b o u hb hc => m10.cell (by have := Z6.out; omega) hc) _ _)
             clear r0 r1 r2 r3 c0 c1 c2 f0 f1 f2
             clear s0 s1 s2 s3 x0 x1 x2 x3 q0 q1 q2 q3 y0 y1 y2 y3
             obtain ⟨⟨s0, s1, s2, s3⟩, x0, x1, x2, x3⟩ := kept4 K10.out.tb (Below.refl _ _)
             obtain ⟨⟨q0, q1, q2, q3⟩, y0, y1, y2, y3⟩ := kept4 K10.out.box (Below.refl _ _)
             have kc := True.intro
             clear m10 R10 hE10)
          | (go_at_call 31
             have g9 := k7
             (with_reducible refine (heL.out 93 j4 b4 W8 K8.out.rd HJ7.out.2).mono ?_)
             rintro e10 w10 ⟨rfl, m10, j8, c8, R10, hE10⟩
             have K10 := Hid.mk (K8.out.call hpt m10 R10)
             have E10 := Hid.mk hE10
             have T10 := Hid.mk (T8.out.move (w' := w10) (fun _ h => h) (fun b o u hb hc => m10.cell (by have := Z6.out; omega) hc) _ _)
             clear r0 r1 r2 r3 c0 c1 c2 f0 f1 f2
             clear s0 s1 s2 s3 x0 x1 x2 x3 q0 q1 q2 q3 y0 y1 y2 y3
             obtain ⟨⟨s0, s1, s2, s3⟩, x0, x1, x2, x3⟩ := kept4 K10.out.tb (Below.refl _ _)
             obtain ⟨⟨q0, q1, q2, q3⟩, y0, y1, y2, y3⟩ := kept4 K10.out.box (Below.refl _ _)
             have kb := True.intro
             clear m10 R10 hE10)
          | (go_at_call 31
             (with_reducible refine (heL.out 93 j2 b2 _ K5.out.rd HJX.out).mono ?_)
             rintro e10 w10 ⟨rfl, m10, j8, c8, R10, hE10⟩
             have K10 := Hid.mk (K5.out.call hpt m10 R10)
             have E10 := Hid.mk hE10
             obtain ⟨⟨s0, s1, s2, s3⟩, x0, x1, x2, x3⟩ := kept4 K10.out.tb (Below.refl _ _)
             obtain ⟨⟨q0, q1, q2, q3⟩, y0, y1, y2, y3⟩ := kept4 K10.out.box (Below.refl _ _)
             have ka := True.intro
             clear m10 R10 hE10))
        · rename kT = 8 => hk
          have G7 := G7b
          have HK := Hid.mk (show kT = 8 ∨ kT = 9 from Or.inl hk)
          clear hk
          go_wp2_with (
               go_at_call 56
               have g0 := kc
               obtain ⟨oa, ocap, rfl, hlst⟩ := K10.out.itm.out
               refine (refMakeList_any LX (by have := HLX.out; omega) (.mk kT nT sT lT) (fun b => B0 ≤ b) oa ocap _ _ hlst (T10.out.move (fun b hb => by have := K6.out.size; omega) (fun _ _ _ _ h => h) _ _)).mono ?_
               rintro e11 w11 ⟨⟨v11, rfl, hv11⟩, hb11⟩
               have hv12 := hv11
               obtain ⟨ka', na', sa', aa', ma', ca', rfl⟩ := hv12.agg
               have K11 := Hid.mk (K10.out.up hpt hb11)
               have V11 := Hid.mk hv11
               have Z11 := Hid.mk (show B0 ≤ w10.heap.size from K10.out.size)
               clear s0 s1 s2 s3 x0 x1 x2 x3 q0 q1 q2 q3 y0 y1 y2 y3
               obtain ⟨⟨q0, q1, q2, q3⟩, y0, y1, y2, y3⟩ := kept4 K11.out.box (Below.refl _ _)
               clear hv11 hv12 hb11 hlst)
          have hst44 : (!b2 && goesOn s j2 [44]) = false := HST.out.trans (by simpa using ‹(!st) = true›)
          have hF := it_end hA.out HO.out hst44
          rw [HLXe.out] at hF
          have hfin := lst_c (P := P) (s := s) (i := i1) (T := .mk kT nT sT lT) (by rw [hQH.out]; exact HNO.out) (by rw [hQH.out, HTot.out]; exact hF) (HST2.out.trans G7.out) E6.out O7.out HK.out E10.out
          rw [hQH.out] at hfin
          refine ret_stored rfl rfl rfl q0 q1 q2 q3 (lst_out (T := conses LX (.mk kT nT sT lT)) K11.out hpt (V11.out.move (fun b hb => by have := Z11.out; omega) (fun _ _ _ _ h => h) _ _) ?_ (Or.inr hfin))
          have h1 := hj.out
          have h2 := hI1.out
          have h3 := HJ7.out
          have h4 := HJX1.out
          have h5 := G6.out.2.2.1
          rcases E10.out with ⟨_, hc, _⟩ | ⟨_, h6, _⟩
          · cases hc
          · omega
        · rename ¬kT = 8 => h8
          rename (kT == 8) = true ∨ (kT == 9) = true => hk
          have G7 := G7b
          have HK := Hid.mk (show kT = 8 ∨ kT = 9 from hk.elim (fun h => Or.inl (by simpa using h)) (fun h => Or.inr (by simpa using h)))
          clear h8 hk
          go_wp2_with (
               go_at_call 56
               have g0 := kc
               obtain ⟨oa, ocap, rfl, hlst⟩ := K10.out.itm.out
               refine (refMakeList_any LX (by have := HLX.out; omega) (.mk kT nT sT lT) (fun b => B0 ≤ b) oa ocap _ _ hlst (T10.out.move (fun b hb => by have := K6.out.size; omega) (fun _ _ _ _ h => h) _ _)).mono ?_
               rintro e11 w11 ⟨⟨v11, rfl, hv11⟩, hb11⟩
               have hv12 := hv11
               obtain ⟨ka', na', sa', aa', ma', ca', rfl⟩ := hv12.agg
               have K11 := Hid.mk (K10.out.up hpt hb11)
               have V11 := Hid.mk hv11
               have Z11 := Hid.mk (show B0 ≤ w10.heap.size from K10.out.size)
               clear s0 s1 s2 s3 x0 x1 x2 x3 q0 q1 q2 q3 y0 y1 y2 y3
               obtain ⟨⟨q0, q1, q2, q3⟩, y0, y1, y2, y3⟩ := kept4 K11.out.box (Below.refl _ _)
               clear hv11 hv12 hb11 hlst)
          have hst44 : (!b2 && goesOn s j2 [44]) = false := HST.out.trans (by simpa using ‹(!st) = true›)
          have hF := it_end hA.out HO.out hst44
          rw [HLXe.out] at hF
          have hfin := lst_c (P := P) (s := s) (i := i1) (T := .mk kT nT sT lT) (by rw [hQH.out]; exact HNO.out) (by rw [hQH.out, HTot.out]; exact hF) (HST2.out.trans G7.out) E6.out O7.out HK.out E10.out
          rw [hQH.out] at hfin
          refine ret_stored rfl rfl rfl q0 q1 q2 q3 (lst_out (T := conses LX (.mk kT nT sT lT)) K11.out hpt (V11.out.move (fun b hb => by have := Z11.out; omega) (fun _ _ _ _ h => h) _ _) ?_ (Or.inr hfin))
          have h1 := hj.out
          have h2 := hI1.out
          have h3 := HJ7.out
          have h4 := HJX1.out
          have h5 := G6.out.2.2.1
          rcases E10.out with ⟨_, hc, _⟩ | ⟨_, h6, _⟩
          · cases hc
          · omega
        · rename ¬kT = 8 => h8
          rename (kT == 8) = false ∧ (kT == 9) = false => hk
          have G7 := G7b
          have HK := Hid.mk (show ¬ (kT = 8 ∨ kT = 9) from fun h => h.elim h8 (fun h => by have := hk.2; simp [h] at this))
          clear h8 hk
          go_wp2_with (
               go_at_call 56
               have g0 := kb
               obtain ⟨oa, ocap, rfl, hlst⟩ := K10.out.itm.out
               refine (refMakeList_any LX (by have := HLX.out; omega) (.mk kT nT sT lT) (fun b => B0 ≤ b) oa ocap _ _ hlst (T10.out.move (fun b hb => by have := K6.out.size; omega) (fun _ _ _ _ h => h) _ _)).mono ?_
               rintro e11 w11 ⟨⟨v11, rfl, hv11⟩, hb11⟩
               have hv12 := hv11
               obtain ⟨ka', na', sa', aa', ma', ca', rfl⟩ := hv12.agg
               have K11 := Hid.mk (K10.out.up hpt hb11)
               have V11 := Hid.mk hv11
               have Z11 := Hid.mk (show B0 ≤ w10.heap.size from K10.out.size)
               clear s0 s1 s2 s3 x0 x1 x2 x3 q0 q1 q2 q3 y0 y1 y2 y3
               obtain ⟨⟨q0, q1, q2, q3⟩, y0, y1, y2, y3⟩ := kept4 K11.out.box (Below.refl _ _)
               clear hv11 hv12 hb11 hlst)
          have hst44 : (!b2 && goesOn s j2 [44]) = false := HST.out.trans (by simpa using ‹(!st) = true›)
          have hF := it_end hA.out HO.out hst44
          rw [HLXe.out] at hF
          have hfin := lst_b (P := P) (s := s) (i := i1) (T := .mk kT nT sT lT) (by rw [hQH.out]; exact HNO.out) (by rw [hQH.out, HTot.out]; exact hF) (HST2.out.trans G7.out) E6.out O7.out HK.out E10.out
          rw [hQH.out] at hfin
          refine ret_stored rfl rfl rfl q0 q1 q2 q3 (lst_out (T := conses LX (.mk kT nT sT lT)) K11.out hpt (V11.out.move (fun b hb => by have := Z11.out; omega) (fun _ _ _ _ h => h) _ _) ?_ hfin)
          have h1 := hj.out
          have h2 := hI1.out
          have h3 := HJ7.out
          have h4 := HJX1.out
          have h5 := G6.out.2.2.1
          rcases E10.out with ⟨_, _, h6, h7, _⟩ | ⟨_, h6, _⟩
          · simp at h6; omega
          · omega
        · go_wp2_with (
               go_at_call 56
               have g0 := ka
               obtain ⟨oa, ocap, rfl, hlst⟩ := K10.out.itm.out
               refine (refMakeList_any LX (by have := HLX.out; omega) (.mk 8 0 ⟨#[]⟩ []) (fun b => B0 ≤ b) oa ocap _ _ hlst (num_lies 8 0 (by omega) (by omega) (by omega) (by omega) _)).mono ?_
               rintro e11 w11 ⟨⟨v11, rfl, hv11⟩, hb11⟩
               have hv12 := hv11
               obtain ⟨ka', na', sa', aa', ma', ca', rfl⟩ := hv12.agg
               have K11 := Hid.mk (K10.out.up hpt hb11)
               have V11 := Hid.mk hv11
               have Z11 := Hid.mk (show B0 ≤ w10.heap.size from K10.out.size)
               clear s0 s1 s2 s3 x0 x1 x2 x3 q0 q1 q2 q3 y0 y1 y2 y3
               obtain ⟨⟨q0, q1, q2, q3⟩, y0, y1, y2, y3⟩ := kept4 K11.out.box (Below.refl _ _)
               clear hv11 hv12 hb11 hlst)
          have hst44 : (!b2 && goesOn s j2 [44]) = false := HST.out.trans (by simpa using ‹(!st) = true›)
          have hF := it_end hA.out HO.out hst44
          rw [HLXe.out] at hF
          have hst124 : (!b2 && goesOn s j2 [124]) = false := HST2.out.trans (by assumption)
          have hfin := lst_a (P := P) (s := s) (i := i1) (by rw [hQH.out]; exact HNO.out) (by rw [hQH.out, HTot.out]; exact hF) hst124 E10.out
          rw [hQH.out] at hfin
          refine ret_stored rfl rfl rfl q0 q1 q2 q3 (lst_out (T := conses LX (.mk 8 0 ⟨#[]⟩ [])) K11.out hpt (V11.out.move (fun b hb => by have := Z11.out; omega) (fun _ _ _ _ h => h) _ _) ?_ hfin)
          have h1 := hj.out
          have h2 := hI1.out
          have h3 := HJX.out
          have h4 := HJX1.out
          rcases E10.out with ⟨_, _, h6, h7, _⟩ | ⟨_, h6, _⟩
          · simp at h6; omega
          · omega
        · have hst44 : (!b2 && goesOn s j2 [44]) = true := HST.out.trans (by simpa using ‹(!st) = false›)
          obtain ⟨hc5, hn, hjj, hj5⟩ := it_next hSH.out hA.out HO.out hst44 E5.out
          subst hc5
          rw [HLXe.out] at hn
          have HN1 := Hid.mk hn
          have HJ5 := Hid.mk (show j < j5 ∧ j5 ≤ s.length from ⟨hjj, hj5⟩)
          have HLn := Hid.mk (show LX.length = L.length + 1 by rw [← HLXe.out]; simp)
          clear hn hjj hj5 hst44
          go_roundg (s.length + 1 - j5)
          case measure =>
            have := HJ5.out
            rcases hm.out with ⟨_, h7⟩ | h7
            · omega
            · cases h7
          case rel =>
            exact ⟨j5, false, LX, Hid.mk (Or.inl ⟨rfl, by have := HJ5.out; omega⟩), Hid.mk ⟨by have := HJ5.out; have := hj.out; omega, by have := HJ5.out; omega, fun _ => by have := HJ5.out; have := HLn.out; have := hLj.out; omega, by have := HLn.out; have := hLj.out; have := hjl.out; omega⟩, K5e.out, HN1⟩
      · have HJX := Hid.mk hj.out.2.1
        have HJX1 := Hid.mk hj.out.1
        have HLX := Hid.mk (show L.length ≤ 1000000 by have := hj.out.2.2.2; have := hsH.out; omega)
        have hKH := Hid.mk hK
        have HF := Hid.mk (show ItFin s j true L Tot by rcases hA.out with ⟨h1, _⟩ | ⟨_, h1⟩; cases h1; exact Or.inr ⟨rfl, h1⟩)
        clear hK
        go_wp2_with (first
          | (go_at_call 29
             (with_reducible refine (hst.out 124 j true _ hKH.out.rd (fun h => by cases h)).mono ?_)
             rintro e5 w5 ⟨rfl, hb5⟩
             rw [Bool.not_true, Bool.false_and]
             have K5 := Hid.mk (hKH.out.up hpt hb5)
             clear hb5)
          | (go_at_call 31
             (with_reducible refine (heL.out 93 j true _ K5.out.rd HJX.out).mono ?_)
             rintro e10 w10 ⟨rfl, m10, j8, c8, R10, hE10⟩
             have K10 := Hid.mk (K5.out.call hpt m10 R10)
             have E10 := Hid.mk hE10
             obtain ⟨⟨s0, s1, s2, s3⟩, x0, x1, x2, x3⟩ := kept4 K10.out.tb (Below.refl _ _)
             obtain ⟨⟨q0, q1, q2, q3⟩, y0, y1, y2, y3⟩ := kept4 K10.out.box (Below.refl _ _)
             have ka := True.intro
             clear m10 R10 hE10)
          | (go_at_call 56
             have g0 := ka
             obtain ⟨oa, ocap, rfl, hlst⟩ := K10.out.itm.out
             refine (refMakeList_any L (by have := HLX.out; omega) (.mk 8 0 ⟨#[]⟩ []) (fun b => B0 ≤ b) oa ocap _ _ hlst (num_lies 8 0 (by omega) (by omega) (by omega) (by omega) _)).mono ?_
             rintro e11 w11 ⟨⟨v11, rfl, hv11⟩, hb11⟩
             have hv12 := hv11
             obtain ⟨ka', na', sa', aa', ma', ca', rfl⟩ := hv12.agg
             have K11 := Hid.mk (K10.out.up hpt hb11)
             have V11 := Hid.mk hv11
             have Z11 := Hid.mk (show B0 ≤ w10.heap.size from K10.out.size)
             clear s0 s1 s2 s3 x0 x1 x2 x3 q0 q1 q2 q3 y0 y1 y2 y3
             obtain ⟨⟨q0, q1, q2, q3⟩, y0, y1, y2, y3⟩ := kept4 K11.out.box (Below.refl _ _)
             clear hv11 hv12 hb11 hlst))
        have hfin := lst_a (P := P) (s := s) (i := i1) (by rw [hQH.out]; exact HNO.out) (by rw [hQH.out, HTot.out]; exact HF.out) rfl E10.out
        rw [hQH.out] at hfin
        refine ret_stored rfl rfl rfl q0 q1 q2 q3 (lst_out (T := conses L (.mk 8 0 ⟨#[]⟩ [])) K11.out hpt (V11.out.move (fun b hb => by have := Z11.out; omega) (fun _ _ _ _ h => h) _ _) ?_ hfin)
        have h1 := hj.out
        have h2 := hI1.out
        rcases E10.out with ⟨_, hc, _⟩ | ⟨_, h3, _⟩
        · cases hc
        · omega
end Go.Proofs.YtnbekfpkmebmbaaGreatDoor
