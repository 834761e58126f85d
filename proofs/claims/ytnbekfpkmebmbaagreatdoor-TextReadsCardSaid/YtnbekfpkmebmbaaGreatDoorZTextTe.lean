/-
  The reader of the document's answers: a term.
-/
import Derived.Test.YtnbekfpkmebmbaaGreatDoorZTextEm
import Derived.Test.YtnbekfpkmebmbaaGreatDoorZTextEu
namespace Go.Proofs.YtnbekfpkmebmbaaGreatDoor
open Go.RowKit Go.Deep

theorem te_head {q : List UInt8} {c : UInt8} {ci : Int} (hc : q.headD 0 = c) (hci : (c.toNat : Int) = ci) (k : UInt8) (hk : k ≠ 0) (h : (ci == (k.toNat : Int)) = true) : q = k :: q.tail := by
  have h1 : ci = k.toNat := by simpa using h
  obtain rfl : c = k := UInt8.toNat.inj (by omega)
  cases q with
  | nil => exact absurd hc.symm hk
  | cons a q => rw [List.headD_cons] at hc; rw [hc]; rfl
theorem te_strip {s x : List UInt8} {i : Nat} {st : Bool} (h : (!false && goesOn s i x) = st) (h1 : st = true) : strip x (s.drop i) = some ((s.drop i).drop x.length) := by
  rw [h1, Bool.not_false, Bool.true_and] at h
  rw [(goes_strip h).1, List.drop_drop]
theorem te_next {s : List UInt8} {i : Nat} {k : UInt8} (h : s.drop i = k :: (s.drop i).tail) : s.drop (i + 1) = (s.drop i).tail ∧ i + 1 ≤ s.length := by
  refine ⟨by rw [List.tail_drop], ?_⟩
  have := congrArg List.length h
  rw [List.length_cons, List.length_tail, List.length_drop] at this
  omega
theorem te_box {p : Nat} {w W0 w1 w6 : World} (_ : Up w W0) (hb0 : W0.heap[w.heap.size]? = some zeroTerm) (hp : p < w.heap.size) (u1 : Up W0 w1) (m : Mv p w1 w6) : w6.heap[w.heap.size]? = some zeroTerm := by
  have h1 := (u1.out.block _ (Array.getElem?_eq_some_iff.1 hb0).1).trans hb0
  exact m.box h1 (by omega)
theorem te_use {p i : Nat} {s : List UInt8} {w W0 w1 w6 : World} {o : Option (Tm × List UInt8)} {e : Ending} (hu0 : Up w W0) (hb0 : W0.heap[w.heap.size]? = some zeroTerm) (hp : p < w.heap.size) (u1 : Up W0 w1) (h : Out p s i w1 o e w6) :
    ∃ (kk nn : Int) (ss : ByteArray) (aa : Option Addr) (mm cc : Nat), e = .returned (.agg #[.int .i64 kk, .int .i64 nn, .string ss, .slice aa mm cc]) ∧ w6.heap[w.heap.size]? = some zeroTerm ∧
      Out p s i w o (.returned (.agg #[.int .i64 kk, .int .i64 nn, .string ss, .slice aa mm cc])) ((((w6.setCell ⟨w.heap.size, 0, none⟩ (.int .i64 kk)).setCell ⟨w.heap.size, 1, none⟩ (.int .i64 nn)).setCell ⟨w.heap.size, 2, none⟩ (.string ss)).setCell ⟨w.heap.size, 3, none⟩ (.slice aa mm cc)) := by
  obtain ⟨m, T, v, j, b, rfl, hT, hR, hij, hj, ho⟩ := h
  obtain ⟨kk, nn, ss, aa, mm, cc, rfl⟩ := hT.agg
  have hlt := (Array.getElem?_eq_some_iff.1 hb0).1
  have h1 := u1.out.size
  have hM : Mv p w w6 := ((Mv.up hu0).trans (Mv.up u1.out)).trans m
  exact ⟨kk, nn, ss, aa, mm, cc, rfl, te_box hu0 hb0 hp u1 m, hM.beside (Nat.le_refl _), T, _, j, b, rfl, Lies.stored (k := w.heap.size) hT (fun b hb => by omega) (fun b hb => by omega), (set4_heap _ _ _ _ _ _ _ (by omega)).trans hR, hij, hj, ho⟩
theorem te_num {p i j : Nat} {s : List UInt8} {w W0 w1 w6 : World} {n : Int} {c6 : Bool} (hu0 : Up w W0) (_ : W0.heap[w.heap.size]? = some zeroTerm) (hp : p < w.heap.size) (u1 : Up W0 w1) (m : Mv p w1 w6) (hR : Rd w6 p s j c6) (hij : i ≤ j) (hj : j ≤ s.length) (hn0 : -576460752303423488 ≤ n) (hn1 : n ≤ 576460752303423487)
    (hn : (false = false ∧ c6 = false ∧ numI (-576460752303423488) 576460752303423487 (s.drop i) = some (n, s.drop j)) ∨ (c6 = true ∧ (false = true ∨ numI (-576460752303423488) 576460752303423487 (s.drop i) = none))) :
    Out p s i w ((numI (-576460752303423488) 576460752303423487 (s.drop i)).map fun x => (.mk 1 x.1 ⟨#[]⟩ [], x.2)) (.returned (.agg #[.int .i64 1, .int .i64 n, .string ⟨#[]⟩, .slice none 0 0])) ((((w6.setCell ⟨w.heap.size, 0, none⟩ (.int .i64 1)).setCell ⟨w.heap.size, 1, none⟩ (.int .i64 n)).setCell ⟨w.heap.size, 2, none⟩ (.string ⟨#[]⟩)).setCell ⟨w.heap.size, 3, none⟩ (.slice none 0 0)) := by
  have hM : Mv p w w6 := ((Mv.up hu0).trans (Mv.up u1.out)).trans m
  refine ⟨hM.beside (Nat.le_refl _), .mk 1 n ⟨#[]⟩ [], _, j, c6, rfl, num_lies 1 n (by omega) (by omega) (by omega) (by omega) _, (set4_heap _ _ _ _ _ _ _ (by omega)).trans hR, hij, by omega, ?_⟩
  rcases hn with ⟨_, rfl, h⟩ | ⟨rfl, h⟩
  · exact Or.inl ⟨rfl, hj, by rw [h]; rfl⟩
  · exact Or.inr ⟨rfl, by rw [h.resolve_left (by decide)]; rfl⟩
theorem te_tup {p i : Nat} {s : List UInt8} {w W0 w5 w6 w7 : World} {o : Option (List Tm × List UInt8)} {e : Ending} (hu0 : Up w W0) (hb0 : W0.heap[w.heap.size]? = some zeroTerm) (hp : p < w.heap.size) (u5 : Up W0 w5) (m6 : Mv p w5 w6) (h : AmOut p s (i + 1) w6 o e w7) :
    ∃ (L : List Tm) (a : Option Addr) (cap : Nat), e = .returned (.slice a L.length cap) ∧ w7.heap[w.heap.size]? = some zeroTerm ∧
      Out p s i w (o.map fun x => (.mk 7 0 ⟨#[]⟩ x.1, x.2)) (.returned (.agg #[.int .i64 7, .int .i64 0, .string ⟨#[]⟩, .slice a L.length cap])) ((((w7.setCell ⟨w.heap.size, 0, none⟩ (.int .i64 7)).setCell ⟨w.heap.size, 1, none⟩ (.int .i64 0)).setCell ⟨w.heap.size, 2, none⟩ (.string ⟨#[]⟩)).setCell ⟨w.heap.size, 3, none⟩ (.slice a L.length cap)) := by
  obtain ⟨m, L, a, cap, j, b, rfl, hL, hR, hij, hj, hll, ho⟩ := h
  have hlt := (Array.getElem?_eq_some_iff.1 hb0).1
  have h1 := u5.out.size
  have h2 := m6.size
  have hM : Mv p w w7 := ((Mv.up hu0).trans (Mv.up u5.out)).trans (m6.trans m)
  refine ⟨L, a, cap, rfl, te_box hu0 hb0 hp u5 (m6.trans m), hM.beside (Nat.le_refl _), .mk 7 0 ⟨#[]⟩ L, _, j, b, rfl, ?_, (set4_heap _ _ _ _ _ _ _ (by omega)).trans hR, by omega, hj, ?_⟩
  · exact Lies.stored (k := w.heap.size) (S := fun k => w6.heap.size ≤ k) (Lies.mk tup_small hL) (fun b hb => by omega) (fun b hb => by omega)
  · rcases ho with ⟨rfl, h3, rfl⟩ | ⟨rfl, rfl⟩
    · exact Or.inl ⟨rfl, h3, rfl⟩
    · exact Or.inr ⟨rfl, rfl⟩
theorem te_bad {p i : Nat} {s : List UInt8} {w W0 w5 : World} (hu0 : Up w W0) (_hb0 : W0.heap[w.heap.size]? = some zeroTerm) (hp : p < w.heap.size) (u5 : Up W0 w5) (hR : Rd w5 p s i false) (hi : i ≤ s.length) :
    Out p s i w none (.returned (.agg #[.int .i64 0, .int .i64 0, .string ⟨#[]⟩, .slice none 0 0])) (((((w5.setCell ⟨p, 2, none⟩ (.bool true)).setCell ⟨w.heap.size, 0, none⟩ (.int .i64 0)).setCell ⟨w.heap.size, 1, none⟩ (.int .i64 0)).setCell ⟨w.heap.size, 2, none⟩ (.string ⟨#[]⟩)).setCell ⟨w.heap.size, 3, none⟩ (.slice none 0 0)) := by
  have hM : Mv p w (w5.setCell ⟨p, 2, none⟩ (.bool true)) := ((Mv.up hu0).trans (Mv.up u5.out)).set
  exact ⟨hM.beside (Nat.le_refl _), .mk 0 0 ⟨#[]⟩ [], _, i, true, rfl, num_lies 0 0 (by omega) (by omega) (by omega) (by omega) _, (set4_heap _ _ _ _ _ _ _ (by omega)).trans hR.worse, Nat.le_refl _, by omega, Or.inr ⟨rfl, rfl⟩⟩
theorem plainOut_any (p : Nat) (s : List UInt8) (i : Nat) (w : World) (h : Rd w p s i false) (hs : s.length ≤ 1000000) (hi1 : i ≤ s.length) :
    Calls Tryz.prog 27 #[.pointer (some ⟨p, 0, none⟩)] w (Out p s i w (atomM (plainP (s.drop i)))) :=
  (plainE_any p s i w h hs hi1).mono (by
    rintro e w' ⟨rfl, hR, m⟩
    have hl : ((s.drop i).takeWhile isWd).length ≤ s.length - i := by
      have := (List.takeWhile_sublist isWd (l := s.drop i)).length_le
      rwa [List.length_drop] at this
    refine ⟨m, .mk 2 0 (tx ((s.drop i).takeWhile isWd)) [], _, _, _, rfl, sym_is _ _ _ (by rw [tx_size]; omega), hR, by omega, by omega, ?_⟩
    rw [plainP]
    cases plainT ((s.drop i).takeWhile isWd)
    · exact Or.inr ⟨rfl, rfl⟩
    · exact Or.inl ⟨rfl, by omega, by rw [List.drop_drop]; rfl⟩)
theorem termP_sel {P : Rdr} {s : List UInt8} {i : Nat} {c : UInt8} {ci : Int} {dg lw st3 st4 st5 : Bool} (hc : (s.drop i).headD 0 = c) (hci : (c.toNat : Int) = ci) (hdg : isDig c = dg) (hlw : isLow c = lw)
    (h3 : st3 = (!false && goesOn s i [35, 82, 101, 102, 60])) (h4 : st4 = (!false && goesOn s i [35, 84, 105, 100, 60])) (h5 : st5 = (!false && goesOn s i [35, 70, 117, 110, 60])) :
    termP P false (s.drop i) = if ci = 45 ∨ dg = true then (numI (-576460752303423488) 576460752303423487 (s.drop i)).map fun x => (.mk 1 x.1 ⟨#[]⟩ [], x.2)
      else if ci = 39 then atomM (quoP (s.drop i).tail)
      else if lw = true then atomM (plainP (s.drop i))
      else if ci = 60 then namP 6 [60, 48, 46] [46, 48, 62] (s.drop i)
      else if st3 = true then namP 3 [35, 82, 101, 102, 60] [62] (s.drop i)
      else if st4 = true then namP 4 [35, 84, 105, 100, 60] [62] (s.drop i)
      else if st5 = true then funP P false ((s.drop i).drop 5)
      else if ci = 123 then tupP P false (s.drop i).tail
      else if ci = 91 then lstP P (s.drop i).tail
      else none := by
  rw [Bool.not_false, Bool.true_and, goes_is] at h3 h4 h5
  have hk : ∀ k : UInt8, (c = k) ↔ ci = (k.toNat : Int) := fun k => by
    constructor
    · rintro rfl; exact hci.symm
    · intro e; exact UInt8.toNat.inj (by omega)
  have k45 : c = 45 ↔ ci = 45 := hk 45
  have k39 : c = 39 ↔ ci = 39 := hk 39
  have k60 : c = 60 ↔ ci = 60 := hk 60
  have k35 : c = 35 ↔ ci = 35 := hk 35
  have k123 : c = 123 ↔ ci = 123 := hk 123
  have k91 : c = 91 ↔ ci = 91 := hk 91
  generalize s.drop i = q at *
  subst h3 h4 h5 hdg hlw
  cases q with
  | nil =>
    obtain rfl : (0 : UInt8) = c := hc
    have hz : ci = 0 := by rw [← hci]; rfl
    subst hz
    rw [termP]
    simp [strip, show isDig 0 = false by decide, show isLow 0 = false by decide]
  | cons a q =>
    obtain rfl : a = c := hc
    rw [termP, List.tail_cons]
    simp only [k45, k39, k60, k35, k123, k91]
    by_cases e1 : ci = 45 ∨ isDig a = true
    · rw [if_pos e1, if_pos e1]
    · rw [if_neg e1, if_neg e1]
      by_cases e2 : ci = 39
      · rw [if_pos e2, if_pos e2]
      · rw [if_neg e2, if_neg e2]
        by_cases e3 : isLow a = true
        · rw [if_pos e3, if_pos e3]
        · rw [if_neg e3, if_neg e3]
          by_cases e4 : ci = 60
          · rw [if_pos e4, if_pos e4]
          · rw [if_neg e4, if_neg e4]
            by_cases e5 : ci = 35
            · rw [if_pos e5]
              cases h3 : strip [35, 82, 101, 102, 60] (a :: q) with
              | some x => rfl
              | none =>
                simp only [Option.isSome_none, Bool.false_eq_true, if_false]
                cases h4 : strip [35, 84, 105, 100, 60] (a :: q) with
                | some x => rfl
                | none =>
                  simp only [Option.isSome_none, Bool.false_eq_true, if_false]
                  cases h5 : strip [35, 70, 117, 110, 60] (a :: q) with
                  | some x =>
                    have := strip_some h5
                    rw [this]
                    simp
                  | none =>
                    simp only [Option.isSome_none, Bool.false_eq_true, if_false]
                    rw [if_neg (by rw [e5]; decide), if_neg (by rw [e5]; decide)]
            · have ha : ¬ (35 : UInt8) = a := fun e => e5 (k35.1 e.symm)
              rw [if_neg e5]
              simp only [strip, if_neg ha, Option.isSome_none, Bool.false_eq_true, if_false]

set_option maxRecDepth 100000 in
set_option maxHeartbeats 8000000 in
theorem termE_any (s : List UInt8) (hs : s.length ≤ 200000) (P : Rdr) (N : Nat) (hP : RTE s P N) (hS : Snd false P) (p i : Nat) (w : World) (h : Rd w p s i false) (hi : i ≤ s.length) (hN : s.length - i < N + 1) :
    Calls Tryz.prog 10 #[.pointer (some ⟨p, 0, none⟩)] w (Out p s i w (termP P false (s.drop i))) := by
  have hpw := h.lt
  obtain ⟨W0, hW0⟩ : ∃ W0, w.alloc zeroTerm = W0 := ⟨_, rfl⟩
  have hbox0 : W0.heap[w.heap.size]? = some zeroTerm := by rw [← hW0]; exact new_block w _
  have hu0 : Up w W0 := by rw [← hW0]; exact (Up.refl w).alloc
  have hR0 := h.below hu0.out
  obtain ⟨c, hc⟩ : ∃ c, (s.drop i).headD 0 = c := ⟨_, rfl⟩
  obtain ⟨ci, hci⟩ : ∃ ci : Int, (c.toNat : Int) = ci := ⟨_, rfl⟩
  obtain ⟨dg, hdg⟩ : ∃ dg, isDig c = dg := ⟨_, rfl⟩
  obtain ⟨lw, hlw⟩ : ∃ lw, isLow c = lw := ⟨_, rfl⟩
  obtain ⟨st3, hst3⟩ : ∃ b, (!false && goesOn s i [35, 82, 101, 102, 60]) = b := ⟨_, rfl⟩
  obtain ⟨st4, hst4⟩ : ∃ b, (!false && goesOn s i [35, 84, 105, 100, 60]) = b := ⟨_, rfl⟩
  obtain ⟨st5, hst5⟩ : ∃ b, (!false && goesOn s i [35, 70, 117, 110, 60]) = b := ⟨_, rfl⟩
  have hnx := Hid.mk (next_any p s i false W0 hR0 hi)
  rw [if_neg (by decide), hc, hci] at hnx
  have hwd : Hid (∀ w1, Calls Tryz.prog 24 #[.int .u8 ci, .int .u8 48, .int .u8 57] w1 fun e w' => e = .returned (.bool dg) ∧ w1 = w') := Hid.mk (fun w1 => by have := dig_any c w1; rw [hci, hdg] at this; exact this)
  have hwl : Hid (∀ w1, Calls Tryz.prog 24 #[.int .u8 ci, .int .u8 97, .int .u8 122] w1 fun e w' => e = .returned (.bool lw) ∧ w1 = w') := Hid.mk (fun w1 => by have := low_any c w1; rw [hci, hlw] at this; exact this)
  have hs3 : Hid (∀ w1, Rd w1 p s i false → Calls Tryz.prog 29 #[.pointer (some ⟨p, 0, none⟩), .string ⟨#[35, 82, 101, 102, 60]⟩] w1 fun e w' => e = .returned (.bool st3) ∧ Below w1.heap.size w1 w') := Hid.mk (fun w1 h1 => by have := startsE_any p s [35, 82, 101, 102, 60] i false w1 h1 (by omega) (fun _ => hi) (by simp); rw [hst3] at this; exact this)
  have hs4 : Hid (∀ w1, Rd w1 p s i false → Calls Tryz.prog 29 #[.pointer (some ⟨p, 0, none⟩), .string ⟨#[35, 84, 105, 100, 60]⟩] w1 fun e w' => e = .returned (.bool st4) ∧ Below w1.heap.size w1 w') := Hid.mk (fun w1 h1 => by have := startsE_any p s [35, 84, 105, 100, 60] i false w1 h1 (by omega) (fun _ => hi) (by simp); rw [hst4] at this; exact this)
  have hs5 : Hid (∀ w1, Rd w1 p s i false → Calls Tryz.prog 29 #[.pointer (some ⟨p, 0, none⟩), .string ⟨#[35, 70, 117, 110, 60]⟩] w1 fun e w' => e = .returned (.bool st5) ∧ Below w1.heap.size w1 w') := Hid.mk (fun w1 h1 => by have := startsE_any p s [35, 70, 117, 110, 60] i false w1 h1 (by omega) (fun _ => hi) (by simp); rw [hst5] at this; exact this)
  have HSEL := Hid.mk (termP_sel (P := P) hc hci hdg hlw hst3.symm hst4.symm hst5.symm)
  have hs6 : s.length ≤ 1000000 := by omega
  have hQuo := Hid.mk (fun w1 h1 Z hZ => quotedE_any p s i w1 h1 hs6 Z hZ)
  have hNum6 : Hid (∀ w1, Rd w1 p s i false → Calls Tryz.prog 28 #[.pointer (some ⟨p, 0, none⟩), .int .i64 6, .string ⟨#[60, 48, 46]⟩, .string ⟨#[46, 48, 62]⟩] w1 (Out p s i w1 (namP 6 [60, 48, 46] [46, 48, 62] (s.drop i)))) := Hid.mk (fun w1 h1 => numberedE_any 6 (by omega) (by omega) [60, 48, 46] [46, 48, 62] (by simp) (by simp) (by simp) (by simp) p s i w1 h1 hs6 hi)
  have hNum3 : Hid (∀ w1, Rd w1 p s i false → Calls Tryz.prog 28 #[.pointer (some ⟨p, 0, none⟩), .int .i64 3, .string ⟨#[35, 82, 101, 102, 60]⟩, .string ⟨#[62]⟩] w1 (Out p s i w1 (namP 3 [35, 82, 101, 102, 60] [62] (s.drop i)))) := Hid.mk (fun w1 h1 => numberedE_any 3 (by omega) (by omega) [35, 82, 101, 102, 60] [62] (by simp) (by simp) (by simp) (by simp) p s i w1 h1 hs6 hi)
  have hNum4 : Hid (∀ w1, Rd w1 p s i false → Calls Tryz.prog 28 #[.pointer (some ⟨p, 0, none⟩), .int .i64 4, .string ⟨#[35, 84, 105, 100, 60]⟩, .string ⟨#[62]⟩] w1 (Out p s i w1 (namP 4 [35, 84, 105, 100, 60] [62] (s.drop i)))) := Hid.mk (fun w1 h1 => numberedE_any 4 (by omega) (by omega) [35, 84, 105, 100, 60] [62] (by simp) (by simp) (by simp) (by simp) p s i w1 h1 hs6 hi)
  have hFun := Hid.mk (fun w1 h1 Q hQ => funE_any s hs P N hP hS p i w1 h1 Q hQ hN)
  have hLst := Hid.mk (fun w1 h1 Q hQ => listE_any s hs P N hP hS p i w1 h1 Q hQ hN)
  have hEat : Hid (∀ w1, Rd w1 p s i false → goesOn s i [123] = true → Calls Tryz.prog 31 #[.pointer (some ⟨p, 0, none⟩), .string ⟨#[123]⟩] w1 fun e w' => e = .returned (.tuple #[]) ∧ Rd w' p s (i + 1) false ∧ Mv p w1 w') := Hid.mk (fun w1 h1 hg => eat_yes p s [123] i w1 h1 (by omega) (by omega) (by simp) (by simp) hg)
  have hAm : Hid (∀ w1, Rd w1 p s (i + 1) false → i + 1 ≤ s.length → Calls Tryz.prog 32 #[.pointer (some ⟨p, 0, none⟩), .string ⟨#[125]⟩] w1 (AmOut p s (i + 1) w1 (amP P 125 (s.drop (i + 1))))) := Hid.mk (fun w1 h1 h2 => amongE_any s hs P N hP hS 125 p (i + 1) w1 h1 h2 (by omega))
  have HC := Hid.mk hc
  have HCI := Hid.mk hci
  have HDG := Hid.mk hdg
  have HLW := Hid.mk hlw
  have HS3 := Hid.mk hst3
  have HS4 := Hid.mk hst4
  have HS5 := Hid.mk hst5
  have HI := Hid.mk hi
  have HU0 := Hid.mk hu0
  have HB0 := Hid.mk hbox0
  have HR0 := Hid.mk hR0
  clear hc hci hdg hlw hst3 hst4 hst5 hi hu0 hbox0 hR0 h
  go_enter Tryz.func10, Tryz.ntmps10
  go_wp2_with (first
    | (go_at_call 23; refine hnx.out.mono ?_; rintro e w1 ⟨rfl, hb1⟩; have R1 := HR0.out.below hb1; have U1 := Hid.mk (show Up W0 w1 from hb1); obtain ⟨⟨c0, c1, c2⟩, f0, f1, f2⟩ := R1.cells; obtain ⟨⟨q0, q1, q2, q3⟩, y0, y1, y2, y3⟩ := kept4 HB0.out hb1; clear hb1)
    | (go_at_call 24; (with_reducible refine (hwd.out _).mono ?_); rintro e w2 ⟨rfl, rfl⟩)
    | (go_at_call 24; (with_reducible refine (hwl.out _).mono ?_); rintro e w2 ⟨rfl, rfl⟩)
    | (go_at_call 29; (with_reducible refine (hs3.out _ R1).mono ?_); rintro e w3 ⟨rfl, hb3⟩; have R3 := R1.below hb3; have U3 := Hid.mk (U1.out.call hb3); clear hb3)
    | (go_at_call 29; (with_reducible refine (hs4.out _ R3).mono ?_); rintro e w4 ⟨rfl, hb4⟩; have R4 := R3.below hb4; have U4 := Hid.mk (U3.out.call hb4); clear hb4)
    | (go_at_call 29; (with_reducible refine (hs5.out _ R4).mono ?_); rintro e w5 ⟨rfl, hb5⟩; have R5 := R4.below hb5; have U5 := Hid.mk (U4.out.call hb5); clear hb5 c0 c1 c2 f0 f1 f2 q0 q1 q2 q3 y0 y1 y2 y3; obtain ⟨⟨c0, c1, c2⟩, f0, f1, f2⟩ := R5.cells; obtain ⟨⟨q0, q1, q2, q3⟩, y0, y1, y2, y3⟩ := kept4 HB0.out U5.out.out)
    | (go_at_call 25
       (with_reducible refine (numO_any (-576460752303423488) 576460752303423487 (by omega) (by omega) p s i false _ R1 hs6 HI.out).mono ?_)
       rintro e w6 ⟨n, j, c6, rfl, m6, R6, hij, hj, hn0, hn1, hn⟩
       have HO := Hid.mk (te_num HU0.out HB0.out hpw U1.out m6 R6 hij hj hn0 hn1 hn)
       have hb6 := te_box HU0.out HB0.out hpw U1.out m6
       clear c0 c1 c2 f0 f1 f2 q0 q1 q2 q3 y0 y1 y2 y3 m6 R6 hij hj hn0 hn1 hn
       obtain ⟨⟨q0, q1, q2, q3⟩, y0, y1, y2, y3⟩ := kept4 hb6 (Below.refl _ _)
       clear hb6)
    | (go_at_call 26
       have hhd := te_head HC.out HCI.out 39 (by decide) ‹(ci == 39) = true›
       (with_reducible refine (hQuo.out _ R1 _ hhd).mono ?_)
       rintro e w6 h6
       obtain ⟨kk, nn, ss, aa, mm, cc, rfl, hb6, ho6⟩ := te_use HU0.out HB0.out hpw U1.out h6
       have HO := Hid.mk ho6
       clear c0 c1 c2 f0 f1 f2 q0 q1 q2 q3 y0 y1 y2 y3 h6 ho6
       obtain ⟨⟨q0, q1, q2, q3⟩, y0, y1, y2, y3⟩ := kept4 hb6 (Below.refl _ _)
       clear hb6
       clear hhd)
    | (go_at_call 27
       (with_reducible refine (plainOut_any p s i _ R1 hs6 HI.out).mono ?_)
       rintro e w6 h6
       obtain ⟨kk, nn, ss, aa, mm, cc, rfl, hb6, ho6⟩ := te_use HU0.out HB0.out hpw U1.out h6
       have HO := Hid.mk ho6
       clear c0 c1 c2 f0 f1 f2 q0 q1 q2 q3 y0 y1 y2 y3 h6 ho6
       obtain ⟨⟨q0, q1, q2, q3⟩, y0, y1, y2, y3⟩ := kept4 hb6 (Below.refl _ _)
       clear hb6)
    | (go_at_call 28
       (with_reducible refine (hNum6.out _ R1).mono ?_)
       rintro e w6 h6
       obtain ⟨kk, nn, ss, aa, mm, cc, rfl, hb6, ho6⟩ := te_use HU0.out HB0.out hpw U1.out h6
       have HO := Hid.mk ho6
       clear c0 c1 c2 f0 f1 f2 q0 q1 q2 q3 y0 y1 y2 y3 h6 ho6
       obtain ⟨⟨q0, q1, q2, q3⟩, y0, y1, y2, y3⟩ := kept4 hb6 (Below.refl _ _)
       clear hb6)
    | (go_at_call 28
       (with_reducible refine (hNum3.out _ R3).mono ?_)
       rintro e w6 h6
       obtain ⟨kk, nn, ss, aa, mm, cc, rfl, hb6, ho6⟩ := te_use HU0.out HB0.out hpw U3.out h6
       have HO := Hid.mk ho6
       clear c0 c1 c2 f0 f1 f2 q0 q1 q2 q3 y0 y1 y2 y3 h6 ho6
       obtain ⟨⟨q0, q1, q2, q3⟩, y0, y1, y2, y3⟩ := kept4 hb6 (Below.refl _ _)
       clear hb6)
    | (go_at_call 28
       (with_reducible refine (hNum4.out _ R4).mono ?_)
       rintro e w6 h6
       obtain ⟨kk, nn, ss, aa, mm, cc, rfl, hb6, ho6⟩ := te_use HU0.out HB0.out hpw U4.out h6
       have HO := Hid.mk ho6
       clear c0 c1 c2 f0 f1 f2 q0 q1 q2 q3 y0 y1 y2 y3 h6 ho6
       obtain ⟨⟨q0, q1, q2, q3⟩, y0, y1, y2, y3⟩ := kept4 hb6 (Below.refl _ _)
       clear hb6)
    | (go_at_call 30
       (with_reducible refine (hFun.out _ R5 _ (te_strip HS5.out (by assumption))).mono ?_)
       rintro e w6 h6
       obtain ⟨kk, nn, ss, aa, mm, cc, rfl, hb6, ho6⟩ := te_use HU0.out HB0.out hpw U5.out h6
       have HO := Hid.mk ho6
       clear c0 c1 c2 f0 f1 f2 q0 q1 q2 q3 y0 y1 y2 y3 h6 ho6
       obtain ⟨⟨q0, q1, q2, q3⟩, y0, y1, y2, y3⟩ := kept4 hb6 (Below.refl _ _)
       clear hb6)
    | (go_at_call 33
       have hhd := te_head HC.out HCI.out 91 (by decide) ‹(ci == 91) = true›
       (with_reducible refine (hLst.out _ R5 _ hhd).mono ?_)
       rintro e w6 h6
       obtain ⟨kk, nn, ss, aa, mm, cc, rfl, hb6, ho6⟩ := te_use HU0.out HB0.out hpw U5.out h6
       have HO := Hid.mk ho6
       clear c0 c1 c2 f0 f1 f2 q0 q1 q2 q3 y0 y1 y2 y3 h6 ho6
       obtain ⟨⟨q0, q1, q2, q3⟩, y0, y1, y2, y3⟩ := kept4 hb6 (Below.refl _ _)
       clear hb6
       clear hhd)
    | (go_at_call 31
       have hhd := te_head HC.out HCI.out 123 (by decide) ‹(ci == 123) = true›
       (with_reducible refine (hEat.out _ R5 ((goesOn_is s i [123]).2 ⟨_, hhd⟩)).mono ?_)
       rintro e w6 ⟨rfl, R6, m6⟩
       have HH := Hid.mk (te_next hhd)
       have M6 := Hid.mk m6
       clear c0 c1 c2 f0 f1 f2 q0 q1 q2 q3 y0 y1 y2 y3 m6 hhd)
    | (go_at_call 32
       (with_reducible refine (hAm.out _ R6 HH.out.2).mono ?_)
       rintro e w7 h7
       obtain ⟨L, a, cap, rfl, hb7, ho7⟩ := te_tup HU0.out HB0.out hpw U5.out M6.out h7
       have HO := Hid.mk ho7
       clear h7 ho7
       obtain ⟨⟨q0, q1, q2, q3⟩, y0, y1, y2, y3⟩ := kept4 hb7 (Below.refl _ _)
       clear hb7))
  · refine ret_stored rfl rfl rfl q0 q1 q2 q3 ?_
    rw [HSEL.out, if_pos (Or.inl ‹ci = 45›)]
    exact HO.out
  · refine ret_stored rfl rfl rfl q0 q1 q2 q3 ?_
    rw [HSEL.out, if_pos (‹(ci == 45) = true ∨ dg = true›.elim (fun h => Or.inl (by simpa using h)) Or.inr)]
    exact HO.out
  · refine ret_stored rfl rfl rfl q0 q1 q2 q3 ?_
    rw [HSEL.out, if_neg (fun h => h.elim ‹¬ci = 45› (fun h => absurd (‹(ci == 45) = false ∧ dg = false›.2.symm.trans h) (by decide))), if_pos (by simpa using ‹(ci == 39) = true›)]
    exact HO.out
  · refine ret_stored rfl rfl rfl q0 q1 q2 q3 ?_
    rw [HSEL.out, if_neg (fun h => h.elim ‹¬ci = 45› (fun h => absurd (‹(ci == 45) = false ∧ dg = false›.2.symm.trans h) (by decide))), if_neg (by simpa using ‹(ci == 39) = false›), if_pos ‹lw = true›]
    exact HO.out
  · refine ret_stored rfl rfl rfl q0 q1 q2 q3 ?_
    rw [HSEL.out, if_neg (fun h => h.elim ‹¬ci = 45› (fun h => absurd (‹(ci == 45) = false ∧ dg = false›.2.symm.trans h) (by decide))), if_neg (by simpa using ‹(ci == 39) = false›), if_neg (fun h => absurd (‹lw = false›.symm.trans h) (by decide)), if_pos (by simpa using ‹(ci == 60) = true›)]
    exact HO.out
  · refine ret_stored rfl rfl rfl q0 q1 q2 q3 ?_
    rw [HSEL.out, if_neg (fun h => h.elim ‹¬ci = 45› (fun h => absurd (‹(ci == 45) = false ∧ dg = false›.2.symm.trans h) (by decide))), if_neg (by simpa using ‹(ci == 39) = false›), if_neg (fun h => absurd (‹lw = false›.symm.trans h) (by decide)), if_neg (by simpa using ‹(ci == 60) = false›), if_pos ‹st3 = true›]
    exact HO.out
  · refine ret_stored rfl rfl rfl q0 q1 q2 q3 ?_
    rw [HSEL.out, if_neg (fun h => h.elim ‹¬ci = 45› (fun h => absurd (‹(ci == 45) = false ∧ dg = false›.2.symm.trans h) (by decide))), if_neg (by simpa using ‹(ci == 39) = false›), if_neg (fun h => absurd (‹lw = false›.symm.trans h) (by decide)), if_neg (by simpa using ‹(ci == 60) = false›), if_neg (fun h => absurd (‹st3 = false›.symm.trans h) (by decide)), if_pos ‹st4 = true›]
    exact HO.out
  · refine ret_stored rfl rfl rfl q0 q1 q2 q3 ?_
    rw [HSEL.out, if_neg (fun h => h.elim ‹¬ci = 45› (fun h => absurd (‹(ci == 45) = false ∧ dg = false›.2.symm.trans h) (by decide))), if_neg (by simpa using ‹(ci == 39) = false›), if_neg (fun h => absurd (‹lw = false›.symm.trans h) (by decide)), if_neg (by simpa using ‹(ci == 60) = false›), if_neg (fun h => absurd (‹st3 = false›.symm.trans h) (by decide)), if_neg (fun h => absurd (‹st4 = false›.symm.trans h) (by decide)), if_pos ‹st5 = true›]
    exact HO.out
  · refine ret_stored rfl rfl rfl q0 q1 q2 q3 ?_
    rw [HSEL.out, if_neg (fun h => h.elim ‹¬ci = 45› (fun h => absurd (‹(ci == 45) = false ∧ dg = false›.2.symm.trans h) (by decide))), if_neg (by simpa using ‹(ci == 39) = false›), if_neg (fun h => absurd (‹lw = false›.symm.trans h) (by decide)), if_neg (by simpa using ‹(ci == 60) = false›), if_neg (fun h => absurd (‹st3 = false›.symm.trans h) (by decide)), if_neg (fun h => absurd (‹st4 = false›.symm.trans h) (by decide)), if_neg (fun h => absurd (‹st5 = false›.symm.trans h) (by decide)), if_pos (by simpa using ‹(ci == 123) = true›)]
    rw [tup_am, ← HH.out.1]; exact HO.out
  · refine ret_stored rfl rfl rfl q0 q1 q2 q3 ?_
    rw [HSEL.out, if_neg (fun h => h.elim ‹¬ci = 45› (fun h => absurd (‹(ci == 45) = false ∧ dg = false›.2.symm.trans h) (by decide))), if_neg (by simpa using ‹(ci == 39) = false›), if_neg (fun h => absurd (‹lw = false›.symm.trans h) (by decide)), if_neg (by simpa using ‹(ci == 60) = false›), if_neg (fun h => absurd (‹st3 = false›.symm.trans h) (by decide)), if_neg (fun h => absurd (‹st4 = false›.symm.trans h) (by decide)), if_neg (fun h => absurd (‹st5 = false›.symm.trans h) (by decide)), if_neg (by simpa using ‹(ci == 123) = false›), if_pos (by simpa using ‹(ci == 91) = true›)]
    exact HO.out
  · have hb9 := te_box HU0.out HB0.out hpw U5.out ((Mv.refl p w5).set (j := 2) (v := .bool true))
    clear q0 q1 q2 q3 y0 y1 y2 y3
    obtain ⟨⟨q0, q1, q2, q3⟩, y0, y1, y2, y3⟩ := kept4 hb9 (Below.refl _ _)
    refine ret_stored rfl rfl rfl q0 q1 q2 q3 ?_
    rw [HSEL.out, if_neg (fun h => h.elim ‹¬ci = 45› (fun h => absurd (‹(ci == 45) = false ∧ dg = false›.2.symm.trans h) (by decide))), if_neg (by simpa using ‹(ci == 39) = false›), if_neg (fun h => absurd (‹lw = false›.symm.trans h) (by decide)), if_neg (by simpa using ‹(ci == 60) = false›), if_neg (fun h => absurd (‹st3 = false›.symm.trans h) (by decide)), if_neg (fun h => absurd (‹st4 = false›.symm.trans h) (by decide)), if_neg (fun h => absurd (‹st5 = false›.symm.trans h) (by decide)), if_neg (by simpa using ‹(ci == 123) = false›), if_neg (by simpa using ‹(ci == 91) = false›)]
    exact te_bad HU0.out HB0.out hpw U5.out R5 HI.out
end Go.Proofs.YtnbekfpkmebmbaaGreatDoor
