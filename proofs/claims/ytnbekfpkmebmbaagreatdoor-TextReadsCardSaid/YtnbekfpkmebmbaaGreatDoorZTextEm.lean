/-
  The reader of the document's answers: a function.
-/
import Derived.Test.YtnbekfpkmebmbaaGreatDoorZTextEk
namespace Go.Proofs.YtnbekfpkmebmbaaGreatDoor
open Go.RowKit Go.Deep

theorem LS.put1 {p : Nat} {w W W' : World} {t B : Nat} {s : List UInt8} {j : Nat} {b : Bool} {L : List Tm} {lv : Value} {u0 u1 u2 u3 v : Value} (h : LS p w W t B s j b L lv #[u0, u1, u2, u3]) (hp : p < w.heap.size ∧ w.heap.size < t ∧ t < B)
    (hW : W.setCell ⟨t, 3, none⟩ v = W') : LS p w W' t B s j b L lv #[u0, u1, u2, v] := by
  subst hW
  have hk : ∀ k, k ≠ t → (W.setCell ⟨t, 3, none⟩ v).heap[k]? = W.heap[k]? := fun k h1 => Below.heap_setCell _ _ _ _ h1
  have hm : Mv t W (W.setCell ⟨t, 3, none⟩ v) := (Mv.refl t W).set
  refine ⟨(hk p (by omega)).trans h.rd, ⟨hm.os.trans h.mv.os, hm.tape.trans h.mv.tape, hm.output.trans h.mv.output, Nat.le_trans h.mv.size hm.size, fun k h1 h2 => (hk k (by omega)).trans (h.mv.block k h1 h2)⟩, (hk _ (by omega)).trans h.box, ?_, h.itm.mv hm (by omega), Nat.le_trans h.size hm.size⟩
  simp [World.setCell, Array.getElem?_modify, h.tb]
theorem amF_ne {P : Rdr} {e : UInt8} : ∀ {g : Nat} {q z : List UInt8} {l : List Tm}, amF P e g q = some (l, z) → l ≠ []
  | 0, q, z, l, h => by rw [amF] at h; cases h
  | g + 1, q, z, l, h => by
    rw [amF] at h
    split at h
    · cases h
    · split at h
      · simp only [Option.some.injEq, Prod.mk.injEq] at h
        rw [← h.1]; simp
      · split at h
        · cases h
        · split at h
          · cases h
          · simp only [Option.some.injEq, Prod.mk.injEq] at h
            rw [← h.1]; simp
theorem fun_am {P : Rdr} (hS : Snd false P) (q : List UInt8) : funP P false q = match numI 0 1073741824 q with
    | none => none
    | some (n, x) => match strip [44] x with
      | none => match strip [62] x with
        | none => none
        | some r => some (.mk 5 n ⟨#[]⟩ [], r)
      | some y => match amP P 62 y with
        | none => none
        | some (l, z) => if l = [] then none else some (.mk 5 n ⟨#[]⟩ l, z) := by
  unfold funP
  cases numI 0 1073741824 q with
  | none => rfl
  | some nx =>
    obtain ⟨n, x⟩ := nx
    simp only
    cases strip [44] x with
    | none => rfl
    | some y =>
      simp only
      rw [amP]
      cases h62 : strip [62] y with
      | some r =>
        obtain rfl := strip_some h62
        simp only [List.singleton_append]
        rw [itemsP, if_neg (by simp), snd_no62 hS]
        simp
      | none =>
        simp only
        have h2 := amF_items (P := P) (e := 62) (by decide) (y.length + 1) 0 y
        cases h3 : itemsP P false (y.length + 1) 0 y with
        | none =>
          rw [h3] at h2
          simp only at h2
          simp only [h2]
        | some lx =>
          obtain ⟨l, x⟩ := lx
          rw [h3] at h2
          simp only at h2
          cases h4 : strip [62] x with
          | none =>
            rw [h4] at h2
            simp only at h2
            simp only [h2, h4]
          | some r =>
            rw [h4] at h2
            simp only at h2
            simp only [h2, h4, if_neg (amF_ne h2)]
/-- What a function comes to. -/
theorem fun_a {P : Rdr} (hS : Snd false P) {s q : List UInt8} {j2 j8 : Nat} {c2 c8 : Bool} {n : Int} (hn : (c2 = false ∧ numI 0 1073741824 q = some (n, s.drop j2)) ∨ (c2 = true ∧ numI 0 1073741824 q = none)) (hst : (!c2 && goesOn s j2 [44]) = false) (hE : EatO [62] s j2 c2 j8 c8) :
    (c8 = false ∧ j8 ≤ s.length ∧ funP P false q = some (.mk 5 n ⟨#[]⟩ [], s.drop j8)) ∨ (c8 = true ∧ funP P false q = none) := by
  rw [fun_am hS]
  rcases hn with ⟨rfl, h1⟩ | ⟨rfl, h1⟩
  · have hno : strip [44] (s.drop j2) = none := by
      rw [Bool.not_false, Bool.true_and, goes_is] at hst
      cases hh : strip [44] (s.drop j2) with
      | none => rfl
      | some x => rw [hh] at hst; cases hst
    rcases hE with ⟨rfl, _, _, h5, h6⟩ | ⟨rfl, rfl, h6⟩
    · exact Or.inl ⟨rfl, h5, by simp only [h1, hno, h6]⟩
    · exact Or.inr ⟨rfl, by simp only [h1, hno, h6.resolve_left (by decide)]⟩
  · rcases hE with ⟨_, hc, _⟩ | ⟨rfl, rfl, _⟩
    · cases hc
    · exact Or.inr ⟨rfl, by simp only [h1]⟩
theorem comma_good {s : List UInt8} {jx j3 : Nat} {bx c3 : Bool} (hst : (!bx && goesOn s jx [44]) = true) (hE : EatO [44] s jx bx j3 c3) : c3 = false ∧ bx = false ∧ j3 = jx + 1 ∧ j3 ≤ s.length ∧ strip [44] (s.drop jx) = some (s.drop j3) := by
  rcases hE with ⟨rfl, rfl, rfl, h5, h6⟩ | ⟨rfl, rfl, h6⟩
  · exact ⟨rfl, rfl, rfl, h5, h6⟩
  · rcases h6 with rfl | h6
    · cases hst
    · rw [goes_is, h6] at hst
      cases bx <;> cases hst
theorem fun_b {P : Rdr} (hS : Snd false P) {s q : List UInt8} {j2 j3 j8 : Nat} {c2 b8 : Bool} {n : Int} {L : List Tm} (hn : (c2 = false ∧ numI 0 1073741824 q = some (n, s.drop j2)) ∨ (c2 = true ∧ numI 0 1073741824 q = none)) (hc : c2 = false) (hm : strip [44] (s.drop j2) = some (s.drop j3))
    (ha : (b8 = false ∧ j8 ≤ s.length ∧ amP P 62 (s.drop j3) = some (L, s.drop j8)) ∨ (b8 = true ∧ amP P 62 (s.drop j3) = none)) (hL : ¬ L.length = 0) :
    (b8 = false ∧ j8 ≤ s.length ∧ funP P false q = some (.mk 5 n ⟨#[]⟩ L, s.drop j8)) ∨ (b8 = true ∧ funP P false q = none) := by
  rw [fun_am hS]
  rcases hn with ⟨_, h1⟩ | ⟨h, h1⟩
  · rcases ha with ⟨rfl, h2, h3⟩ | ⟨rfl, h3⟩
    · exact Or.inl ⟨rfl, h2, by simp only [h1, hm, h3]; rw [if_neg (fun e => hL (by rw [e]; rfl))]⟩
    · exact Or.inr ⟨rfl, by simp only [h1, hm, h3]⟩
  · rw [hc] at h; cases h
theorem fun_c {P : Rdr} (hS : Snd false P) {s q : List UInt8} {j2 j3 j8 : Nat} {c2 b8 : Bool} {n : Int} {L : List Tm} (hn : (c2 = false ∧ numI 0 1073741824 q = some (n, s.drop j2)) ∨ (c2 = true ∧ numI 0 1073741824 q = none)) (hc : c2 = false) (hm : strip [44] (s.drop j2) = some (s.drop j3))
    (ha : (b8 = false ∧ j8 ≤ s.length ∧ amP P 62 (s.drop j3) = some (L, s.drop j8)) ∨ (b8 = true ∧ amP P 62 (s.drop j3) = none)) (hL : L.length = 0) : funP P false q = none := by
  rw [fun_am hS]
  rcases hn with ⟨_, h1⟩ | ⟨h, h1⟩
  · rcases ha with ⟨rfl, h2, h3⟩ | ⟨rfl, h3⟩
    · simp only [h1, hm, h3]; rw [if_pos (List.length_eq_zero_iff.1 hL)]
    · simp only [h1, hm, h3]
  · rw [hc] at h; cases h
end Go.Proofs.YtnbekfpkmebmbaaGreatDoor

/-
  The reader of the document's answers: a function, walked.
-/
namespace Go.Proofs.YtnbekfpkmebmbaaGreatDoor
open Go.RowKit Go.Deep

set_option maxRecDepth 100000 in
set_option maxHeartbeats 8000000 in
theorem funE_any (s : List UInt8) (hs : s.length ≤ 200000) (P : Rdr) (N : Nat) (hP : RTE s P N) (hS : Snd false P) (p i : Nat) (w : World) (h : Rd w p s i false) (Q : List UInt8) (hQ : strip [35, 70, 117, 110, 60] (s.drop i) = some Q) (hN : s.length - i < N + 1) :
    Calls Tryz.prog 30 #[.pointer (some ⟨p, 0, none⟩)] w (Out p s i w (funP P false Q)) := by
  have hQ0 := strip_some hQ
  have hil : i + 5 ≤ s.length := by have := congrArg List.length hQ0; simp at this; omega
  have hQ1 : s.drop (i + 5) = Q := by rw [← List.drop_drop, hQ0]; rfl
  have hg0 : goesOn s i [35, 70, 117, 110, 60] = true := (goesOn_is s i _).2 ⟨Q, hQ0⟩
  obtain ⟨i5, hi5⟩ : ∃ i5, i + 5 = i5 := ⟨_, rfl⟩
  rw [hi5] at hQ1 hil
  have hpw := h.lt
  obtain ⟨W0, hW0⟩ : ∃ W0, w.alloc zeroTerm = W0 := ⟨_, rfl⟩
  have hbox0 : W0.heap[w.heap.size]? = some zeroTerm := by rw [← hW0]; exact new_block w _
  have hu0 : Up w W0 := by rw [← hW0]; exact (Up.refl w).alloc
  have hz0 : w.heap.size < W0.heap.size := (Array.getElem?_eq_some_iff.1 hbox0).1
  have hR0 := h.below hu0.out
  have hne : ¬ w.heap.size = p := by omega
  have hsH := Hid.mk hs
  have hNH := Hid.mk (show s.length - i5 < N by omega)
  have hI5 := Hid.mk (show i + 5 = i5 ∧ i5 ≤ s.length from ⟨hi5, hil⟩)
  have hSH := Hid.mk hS
  have hQH := Hid.mk hQ1
  have hE0 := Hid.mk (eat_yes p s [35, 70, 117, 110, 60] i W0 hR0 (by omega) (by omega) (by simp) (by simp) hg0)
  have hN := Hid.mk (fun w1 h1 => numO_any 0 1073741824 (by omega) (by omega) p s i5 false w1 h1 (by omega) hil)
  have hst : Hid (∀ (c : UInt8) (j : Nat) (b : Bool) (w1 : World), Rd w1 p s j b → (b = false → j ≤ s.length) → Calls Tryz.prog 29 #[.pointer (some ⟨p, 0, none⟩), .string ⟨#[c]⟩] w1 fun e w' => e = .returned (.bool (!b && goesOn s j [c])) ∧ Below w1.heap.size w1 w') := Hid.mk (fun c j b w1 h1 hj => startsE_any p s [c] j b w1 h1 (by omega) hj (by simp))
  have heL : Hid (∀ (c : UInt8) (j : Nat) (b : Bool) (w1 : World), Rd w1 p s j b → j ≤ s.length + 1 → Calls Tryz.prog 31 #[.pointer (some ⟨p, 0, none⟩), .string ⟨#[c]⟩] w1 fun e w' => e = .returned (.tuple #[]) ∧ Mv p w1 w' ∧ ∃ j1 c1, Rd w' p s j1 c1 ∧ EatO [c] s j b j1 c1) := Hid.mk (fun c j b w1 h1 hj => eatO_any p s [c] j b w1 h1 (by omega) hj (by simp) (by simp))
  have hAM : Hid (∀ (j : Nat) (w1 : World), Rd w1 p s j false → j ≤ s.length → s.length - j < N → Calls Tryz.prog 32 #[.pointer (some ⟨p, 0, none⟩), .string ⟨#[62]⟩] w1 (AmOut p s j w1 (amP P 62 (s.drop j)))) := Hid.mk (fun j w1 h1 h2 h3 => amongE_any s hs P N hP hS 62 p j w1 h1 h2 h3)
  clear hs hS hQ hQ0 hQ1 hil hi5 hg0 h
  go_enter Tryz.func30, Tryz.ntmps30
  go_upto_region 3 with (first
    | (go_at_call 25
       refine (hN.out _ R1).mono ?_
       rintro e2 w2 ⟨n, j2, c2, rfl, m2, R2, hij2, hj2, hn0, hn1, hn⟩
       have HM2 := Hid.mk (HM1.out.trans m2)
       have HBX2 := Hid.mk (m2.box HBX1.out hne)
       have HNR := Hid.mk hn
       have HJ2 := Hid.mk (show i5 ≤ j2 ∧ j2 ≤ s.length from ⟨hij2, hj2⟩)
       have HNB := Hid.mk (show -576460752303423488 ≤ n ∧ n ≤ 576460752303423487 from ⟨hn0, hn1⟩)
       clear m2 hn hij2 hj2 hn0 hn1)
    | (go_at_call 31
       refine hE0.out.mono ?_
       rintro e1 w1 ⟨rfl, R1a, m1⟩
       have R1 : Rd w1 p s i5 false := (hI5.out.1 ▸ R1a)
       have HM1 := Hid.mk ((Mv.up hu0).trans m1)
       have HBX1 := Hid.mk (m1.box hbox0 hne)
       clear R1a m1))
  obtain ⟨W3, hW3⟩ : ∃ W3, w2.alloc (.cells #[.int .i64 5, .int .i64 n, .string ⟨#[]⟩, .slice none 0 0] 24) = W3 := ⟨_, rfl⟩
  try rw [hW3]
  obtain ⟨t, ht⟩ : ∃ t, w2.heap.size = t := ⟨_, rfl⟩
  try rw [ht]
  have hx3 : W3.heap[t]? = some (.cells #[.int .i64 5, .int .i64 n, .string ⟨#[]⟩, .slice none 0 0] 24) := by rw [← hW3, ← ht]; exact new_block _ _
  have hb3 : Below w2.heap.size w2 W3 := by rw [← hW3]; exact (Up.refl w2).alloc.out
  obtain ⟨B0, hB0⟩ : ∃ B0, W3.heap.size = B0 := ⟨_, rfl⟩
  have hpt : p < w.heap.size ∧ w.heap.size < t ∧ t < B0 := ⟨hpw, by have := (Array.getElem?_eq_some_iff.1 HBX2.out).1; omega, by have := (Array.getElem?_eq_some_iff.1 hx3).1; omega⟩
  have K3 := Hid.mk (show LS p w W3 t B0 s j2 c2 [] (.slice none 0 0) #[.int .i64 5, .int .i64 n, .string ⟨#[]⟩, .slice none 0 0] from ⟨R2.below hb3, HM2.out.trans (Mv.up hb3), (hb3.block _ (Array.getElem?_eq_some_iff.1 HBX2.out).1).trans HBX2.out, hx3, Itm.start _ _, by omega⟩)
  clear hW3 ht hx3 hb3 hB0 R2 hR0 hbox0 hu0 hz0 hE0 hN R1 hW0
  go_upto_region 8 with (first
    | (go_at_call 29
       (with_reducible refine (hst.out 44 j2 c2 _ K3.out.rd (fun _ => HJ2.out.2)).mono ?_)
       rintro e4 w4 ⟨rfl, hb4⟩
       obtain ⟨st, hst1⟩ : ∃ st, (!c2 && goesOn s j2 [44]) = st := ⟨_, rfl⟩
       rw [hst1]
       have HST := Hid.mk hst1
       have K4 := Hid.mk (K3.out.up hpt hb4)
       clear hst1 hb4)
    | (go_at_call 31
       (with_reducible refine (heL.out 44 j2 c2 _ K4.out.rd (by have := HJ2.out; omega)).mono ?_)
       rintro e5 w5 ⟨rfl, m5, j3, c3, R5, hE5⟩
       have HS1 := Hid.mk (show st = true from by assumption)
       have hg5 := comma_good (HST.out.trans HS1.out) hE5
       have G5 := Hid.mk hg5
       have K5 := Hid.mk (K4.out.call hpt m5 R5)
       have R5' := Hid.mk (show Rd w5 p s j3 false from hg5.1 ▸ R5)
       clear m5 R5 hE5 hg5)
    | (go_at_call 32
       (with_reducible refine (hAM.out j3 _ R5'.out G5.out.2.2.2.1 (by have := G5.out.2.2.1; have := HJ2.out; have := hNH.out; omega)).mono ?_)
       rintro e6 w6 ⟨m6, L, a, cap, j8, b8, rfl, hl6, R6, hij6, hj6, hll, ho6⟩
       have K6 := Hid.mk (K5.out.call hpt m6 R6)
       obtain ⟨⟨s0, s1, s2, s3⟩, x0, x1, x2, x3⟩ := kept4 K6.out.tb (Below.refl _ _)
       obtain ⟨⟨q0, q1, q2, q3⟩, y0, y1, y2, y3⟩ := kept4 K6.out.box (Below.refl _ _)
       obtain ⟨W7, hW7⟩ : ∃ W7, w6.setCell ⟨t, 3, none⟩ (.slice a L.length cap) = W7 := ⟨_, rfl⟩
       have K7 := Hid.mk (K6.out.put1 hpt hW7)
       have Z5 := Hid.mk (show B0 ≤ w5.heap.size from K5.out.size)
       have L7 := Hid.mk (show Lst W7 (fun k => w5.heap.size ≤ k) L a cap from by rw [← hW7]; exact Lst.move (fun _ h => h) (fun b o u hb hc => by rw [World.cell?_of_block (w := w6) (a := ⟨b, o, none⟩) (Below.heap_setCell _ _ _ _ (by show b ≠ t; have := Z5.out; omega))]; exact hc) hl6)
       obtain ⟨⟨r0, r1, r2, r3⟩, _⟩ := kept4 K7.out.tb (Below.refl _ _)
       obtain ⟨⟨c0, c1, c2'⟩, f0, f1, f2⟩ := K7.out.rd.cells
       obtain ⟨W8, hW8⟩ : ∃ W8, W7.setCell ⟨p, 2, none⟩ (.bool true) = W8 := ⟨_, rfl⟩
       have K8 := Hid.mk (K7.out.worse hpt hW8)
       have L8 := Hid.mk (show Lst W8 (fun k => w5.heap.size ≤ k) L a cap from by rw [← hW8]; exact Lst.move (fun _ h => h) (fun b o u hb hc => (Mv.refl p W7).set.cell (by have := Z5.out; omega) hc) L7.out)
       have O6 := Hid.mk ho6
       have HJ6 := Hid.mk (show j3 ≤ j8 ∧ j8 ≤ s.length + 1 ∧ L.length ≤ s.length + 1 from ⟨hij6, hj6, hll⟩)
       clear m6 hl6 R6 hij6 hj6 hll ho6)
    | (go_at_call 31
       (with_reducible refine (heL.out 62 j2 c2 _ K4.out.rd (by have := HJ2.out; omega)).mono ?_)
       rintro e10 w10 ⟨rfl, m10, j8, c8, R10, hE10⟩
       have K10 := Hid.mk (K4.out.call hpt m10 R10)
       have E10 := Hid.mk hE10
       obtain ⟨⟨s0, s1, s2, s3⟩, x0, x1, x2, x3⟩ := kept4 K10.out.tb (Below.refl _ _)
       obtain ⟨⟨q0, q1, q2, q3⟩, y0, y1, y2, y3⟩ := kept4 K10.out.box (Below.refl _ _)
       clear m10 R10 hE10))
  all_goals have HNQ := Hid.mk (show (c2 = false ∧ numI 0 1073741824 Q = some (n, s.drop j2)) ∨ (c2 = true ∧ numI 0 1073741824 Q = none) by
    have h1 := HNR.out
    rw [hQH.out] at h1
    rcases h1 with ⟨_, h2, h3⟩ | ⟨h2, h3⟩
    · exact Or.inl ⟨h2, h3⟩
    · exact Or.inr ⟨h2, by rcases h3 with h3 | h3; exact absurd h3 (by simp); exact h3⟩)
  · rename ((L.length : Int) == 0) = true => hl
    have HL0 := Hid.mk (show L.length = 0 by simpa using hl)
    clear hl
    clear s0 s1 s2 s3 x0 x1 x2 x3 q0 q1 q2 q3 y0 y1 y2 y3
    obtain ⟨⟨s0, s1, s2, s3⟩, x0, x1, x2, x3⟩ := kept4 K8.out.tb (Below.refl _ _)
    obtain ⟨⟨q0, q1, q2, q3⟩, y0, y1, y2, y3⟩ := kept4 K8.out.box (Below.refl _ _)
    go_wp2
    refine ret_stored rfl rfl rfl q0 q1 q2 q3 (lst_out (T := .mk 5 n ⟨#[]⟩ L) K8.out hpt (Lies.mk (small_of (by omega) (by omega) (by have := HNB.out; omega) (by have := HNB.out; omega) size_empty) (Lst.move (fun b hb => by have := Z5.out; omega) (fun _ _ _ _ h => h) L8.out)) ?_ (Or.inr ⟨rfl, fun_c hSH.out HNQ.out G5.out.2.1 G5.out.2.2.2.2 O6.out HL0.out⟩))
    have h1 := HJ6.out
    have h2 := HJ2.out
    have h3 := hI5.out
    have h4 := G5.out.2.2.1
    omega
  · rename ((L.length : Int) == 0) = false => hl
    have HL0 := Hid.mk (show ¬ L.length = 0 by simpa using hl)
    clear hl
    clear s0 s1 s2 s3 x0 x1 x2 x3 q0 q1 q2 q3 y0 y1 y2 y3
    obtain ⟨⟨s0, s1, s2, s3⟩, x0, x1, x2, x3⟩ := kept4 K7.out.tb (Below.refl _ _)
    obtain ⟨⟨q0, q1, q2, q3⟩, y0, y1, y2, y3⟩ := kept4 K7.out.box (Below.refl _ _)
    go_wp2
    refine ret_stored rfl rfl rfl q0 q1 q2 q3 (lst_out (T := .mk 5 n ⟨#[]⟩ L) K7.out hpt (Lies.mk (small_of (by omega) (by omega) (by have := HNB.out; omega) (by have := HNB.out; omega) size_empty) (Lst.move (fun b hb => by have := Z5.out; omega) (fun _ _ _ _ h => h) L7.out)) ?_ (fun_b hSH.out HNQ.out G5.out.2.1 G5.out.2.2.2.2 O6.out HL0.out))
    have h1 := HJ6.out
    have h2 := HJ2.out
    have h3 := hI5.out
    have h4 := G5.out.2.2.1
    omega
  · have h1 : (!c2 && goesOn s j2 [44]) = false := HST.out.trans (by assumption)
    refine ret_stored rfl rfl rfl q0 q1 q2 q3 (lst_out (T := .mk 5 n ⟨#[]⟩ []) K10.out hpt (num_lies 5 n (by omega) (by omega) (by have := HNB.out; omega) (by have := HNB.out; omega) _) ?_ (fun_a hSH.out HNQ.out h1 E10.out))
    have h2 := HJ2.out
    have h3 := hI5.out
    rcases E10.out with ⟨_, _, h6, h7, _⟩ | ⟨_, h6, _⟩
    · simp at h6; omega
    · omega
end Go.Proofs.YtnbekfpkmebmbaaGreatDoor
