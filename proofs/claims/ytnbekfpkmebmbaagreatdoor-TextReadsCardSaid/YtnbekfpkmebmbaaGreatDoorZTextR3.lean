/-
  The program's reader: bytes in quotes.
-/
import Derived.Test.YtnbekfpkmebmbaaGreatDoorZTextR1
namespace Go.Proofs.YtnbekfpkmebmbaaGreatDoor
open Go.RowKit Go.Deep

set_option maxRecDepth 100000 in
/-- The place of a digit among the digits. -/
theorem hexAt_is (c : UInt8) : Lib.indexByte [48, 49, 50, 51, 52, 53, 54, 55, 56, 57, 97, 98, 99, 100, 101, 102] c = match hexv c with
    | some d => (d : Int)
    | none => -1 := by
  have h : ∀ n : Fin 256, Lib.indexByte [48, 49, 50, 51, 52, 53, 54, 55, 56, 57, 97, 98, 99, 100, 101, 102] (UInt8.ofNat n) = match hexv (UInt8.ofNat n) with
    | some d => (d : Int)
    | none => -1 := by decide
  have h2 := h ⟨c.toNat, c.toNat_lt⟩
  simpa using h2
theorem hexByte_any (c : UInt8) (w : World) : Calls Tryz.prog 107 #[.string ⟨#[48, 49, 50, 51, 52, 53, 54, 55, 56, 57, 97, 98, 99, 100, 101, 102]⟩, .int .u8 c.toNat] w fun e w' => e = .returned (.int .i64 (match hexv c with
    | some d => (d : Int)
    | none => -1)) ∧ w = w' := by
  refine (show Calls Tryz.prog 107 _ _ _ from Any.strings_IndexByte shlays137 ⟨#[48, 49, 50, 51, 52, 53, 54, 55, 56, 57, 97, 98, 99, 100, 101, 102]⟩ c.toNat w).mono ?_
  rintro e w' ⟨rfl, rfl⟩
  refine ⟨?_, rfl⟩
  rw [← hexAt_is c]
  simp

theorem hex_yes (p : Nat) (s : List UInt8) (i g d : Nat) (x : Nat) (w : World) (h : RdP w p s i g d) (hlt : i < s.length) (hs : s.length ≤ 1000000000) (hx : hexv s[i] = some x) :
    Calls Tryz.prog 102 #[.pointer (some ⟨p, 0, none⟩)] w fun e w' => e = .returned (.int .u8 x) ∧ RdP w' p s (i + 1) g d ∧ Mv p w w' := by
  have hx16 := (hexv_some hx).1
  have hc := Hid.mk (fun w1 => hexByte_any s[i] w1)
  rw [hx] at hc
  have hn := Hid.mk (nextP_any p s i g d w h hlt hs)
  generalize s[i] = c at *
  go_enter Tryz.func102, Tryz.ntmps102
  go_wp2_with (first
    | (go_at_call 90; refine hn.out.mono ?_; rintro e w1 ⟨rfl, h1, k1⟩)
    | (go_at_call 107; refine (hc.out _).mono ?_; rintro e w2 ⟨rfl, rfl⟩)
    | (go_at_call 20; refine (must_yes _).mono ?_; rintro e w2 ⟨rfl, rfl⟩))
  go_ret
  exact ⟨rfl, h1, k1⟩
theorem needs16 {x y : Nat} {c : UInt8} (hx : x < 16) (hy : y < 16) (h : c = UInt8.ofNat (16 * x + y)) : needs (16 * x + y) = needs c.toNat := by
  rw [h, UInt8.toNat_ofNat', show (16 * x + y) % 2 ^ 8 = 16 * x + y by omega]
theorem hex_no (p : Nat) (s : List UInt8) (i g d : Nat) (w : World) (h : RdP w p s i g d) (hlt : i < s.length) (hs : s.length ≤ 1000000000) (hx : hexv s[i] = none) :
    Calls Tryz.prog 102 #[.pointer (some ⟨p, 0, none⟩)] w fun e w' => e = fault4 ∧ Mv p w w' := by
  have hc := Hid.mk (fun w1 => hexByte_any s[i] w1)
  rw [hx] at hc
  have hn := Hid.mk (nextP_any p s i g d w h hlt hs)
  generalize s[i] = c at *
  go_enter Tryz.func102, Tryz.ntmps102
  go_wp2_with (first
    | (go_at_call 90; refine hn.out.mono ?_; rintro e w1 ⟨rfl, h1, k1⟩)
    | (go_at_call 107; refine (hc.out _).mono ?_; rintro e w2 ⟨rfl, rfl⟩)
    | (go_at_call 20; refine (must_no _).mono ?_; rintro e w2 ⟨rfl, rfl⟩; unfold fault4))
  exact ⟨rfl, rfl, k1⟩
theorem hex_end (p : Nat) (s : List UInt8) (g d : Nat) (w : World) (h : RdP w p s s.length g d) :
    Calls Tryz.prog 102 #[.pointer (some ⟨p, 0, none⟩)] w fun e w' => e = fault4 ∧ Mv p w w' := by
  have hn := Hid.mk (next_no p s g d w h)
  go_enter Tryz.func102, Tryz.ntmps102
  go_wp2_with (go_at_call 90; refine hn.out.mono ?_; rintro e w1 ⟨rfl, k1⟩; unfold fault4)
  exact ⟨rfl, rfl, k1⟩
/-- A digit of an escape. -/
theorem hex_any (p : Nat) (s : List UInt8) (i g d : Nat) (w : World) (h : RdP w p s i g d) (hi : i ≤ s.length) (hs : s.length ≤ 1000000000) :
    Calls Tryz.prog 102 #[.pointer (some ⟨p, 0, none⟩)] w fun e w' => Mv p w w' ∧
      ((∃ c r x, s.drop i = c :: r ∧ hexv c = some x ∧ e = .returned (.int .u8 (x : Nat)) ∧ RdP w' p s (i + 1) g d ∧ x < 16) ∨ (e = fault4 ∧ ∀ c r, s.drop i = c :: r → hexv c = none)) := by
  by_cases hlt : i < s.length
  · have hd := List.drop_eq_getElem_cons hlt
    cases hx : hexv s[i] with
    | some x => exact (hex_yes p s i g d x w h hlt hs hx).mono fun e w' ⟨h1, h2, h3⟩ => ⟨h3, Or.inl ⟨_, _, x, hd, hx, h1, h2, (hexv_some hx).1⟩⟩
    | none => exact (hex_no p s i g d w h hlt hs hx).mono fun e w' ⟨h1, h2⟩ => ⟨h2, Or.inr ⟨h1, fun c r e => by rw [hd] at e; cases e; exact hx⟩⟩
  · obtain rfl : i = s.length := by omega
    exact (hex_end p s g d w h).mono fun e w' ⟨h1, h2⟩ => ⟨h2, Or.inr ⟨h1, fun c r e => by rw [List.drop_length] at e; cases e⟩⟩

theorem hex2_some {q r r2 : List UInt8} {c c2 : UInt8} {x y : Nat} (e1 : q = c :: r) (e2 : hexv c = some x) (e3 : r = c2 :: r2) (e4 : hexv c2 = some y) : hex2 q = if needs (16 * x + y) = true then some (UInt8.ofNat (16 * x + y), r2) else none := by
  subst e1 e3
  simp only [hex2, e2, e4]
theorem hex2_no2 {q r : List UInt8} {c : UInt8} (e1 : q = c :: r) (h : ∀ d r2, r = d :: r2 → hexv d = none) : hex2 q = none := by
  subst e1
  cases r with
  | nil => rfl
  | cons d r2 =>
    simp only [hex2, h d r2 rfl]
    split <;> first | rfl | (rename_i h1; cases h1)
theorem hex2_no1 {q : List UInt8} (h : ∀ d r2, q = d :: r2 → hexv d = none) : hex2 q = none := by
  cases q with
  | nil => rfl
  | cons d r =>
    cases r with
    | nil => rfl
    | cons e r2 => simp only [hex2, h d _ rfl]
theorem hex2_len {q r : List UInt8} {c : UInt8} (h : hex2 q = some (c, r)) : q.length = r.length + 2 := by
  unfold hex2 at h
  split at h
  · split at h
    · split at h
      · simp only [Option.some.injEq, Prod.mk.injEq] at h
        rw [← h.2]
        rfl
      · cases h
    · cases h
  · cases h
set_option maxRecDepth 100000 in
theorem or16 {x y : Nat} (hx : x < 16) (hy : y < 16) : ∃ c : UInt8, Hid (c = UInt8.ofNat (16 * x + y)) ∧ bits .or .u8 ((x : Int) * 16) y = (c.toNat : Int) := by
  refine ⟨_, Hid.mk rfl, ?_⟩
  have h : ∀ a b : Fin 16, bits .or .u8 ((a.val : Int) * 16) (b.val : Int) = ((UInt8.ofNat (16 * a.val + b.val)).toNat : Int) := by decide
  exact h ⟨x, hx⟩ ⟨y, hy⟩
set_option maxHeartbeats 1000000 in
theorem escaped_any (p : Nat) (s : List UInt8) (i g d : Nat) (w : World) (h : RdP w p s i g d) (hi : i ≤ s.length) (hs : s.length ≤ 1000000000) :
    Calls Tryz.prog 92 #[.pointer (some ⟨p, 0, none⟩)] w fun e w' => Mv p w w' ∧
      ((∃ c r, hex2 (s.drop i) = some (c, r) ∧ e = .returned (.int .u8 c.toNat) ∧ RdP w' p s (i + 2) g d ∧ s.drop (i + 2) = r) ∨ (e = fault4 ∧ hex2 (s.drop i) = none)) := by
  have ha := Hid.mk (hex_any p s i g d w h hi hs)
  have ha2 := Hid.mk (fun (c : UInt8) (r : List UInt8) (e : s.drop i = c :: r) w1 (h1 : RdP w1 p s (i + 1) g d) => hex_any p s (i + 1) g d w1 h1 (by have := congrArg List.length e; rw [List.length_drop, List.length_cons] at this; omega) hs)
  have hd1 := Hid.mk (fun (c : UInt8) (r : List UInt8) (e : s.drop i = c :: r) => show s.drop (i + 1) = r by rw [← List.drop_drop, e]; rfl)
  have hd2 := Hid.mk (fun (c b : UInt8) (r r2 : List UInt8) (e : s.drop i = c :: r) (e2 : s.drop (i + 1) = b :: r2) => show s.drop (i + 2) = r2 by rw [← List.drop_drop (i := 1) (j := i + 1), e2]; rfl)
  have t0 := True.intro
  go_enter Tryz.func92, Tryz.ntmps92
  go_wp2_with (first
    | (go_at_call 102; have g := t0; clear t0; refine ha.out.mono ?_; rintro e w1 ⟨k1, ⟨c, r, x, e1, e2, rfl, h1, hx⟩ | ⟨rfl, hn⟩⟩; all_goals (try unfold fault4))
    | (go_at_call 102; refine (ha2.out c r e1 _ h1).mono ?_; rintro e w2 ⟨k2, ⟨c2, r2, y, e3, e4, rfl, h2, hy⟩ | ⟨rfl, hn⟩⟩; all_goals (first | (have hy' := hy; obtain ⟨c3, hc3, hor⟩ := or16 hx hy') | unfold fault4))
    | (go_at_call 91; refine (shown_any c3 _).mono ?_; rintro e w3 ⟨rfl, rfl⟩)
    | (go_at_call 20; refine (must_any (needs c3.toNat) _).mono ?_; rintro e w3 ⟨⟨hb, rfl⟩ | ⟨hb, rfl⟩, rfl⟩; all_goals (try unfold fault4)))
  · go_ret
    refine ⟨k1.trans k2, Or.inl ⟨c3, r2, ?_, rfl, h2, hd2.out _ _ _ _ e1 e3⟩⟩
    rw [hex2_some e1 e2 ((hd1.out _ _ e1).symm.trans e3) e4, needs16 hx hy hc3.out, hb, ← hc3.out]
    rfl
  · refine ⟨rfl, k1.trans k2, Or.inr ⟨rfl, ?_⟩⟩
    rw [hex2_some e1 e2 ((hd1.out _ _ e1).symm.trans e3) e4, needs16 hx hy hc3.out, hb]
    rfl
  · exact ⟨rfl, k1.trans k2, Or.inr ⟨rfl, hex2_no2 e1 (by rw [← hd1.out _ _ e1]; exact hn)⟩⟩
  · exact ⟨rfl, k1, Or.inr ⟨rfl, hex2_no1 hn⟩⟩

/-- A byte that stands in quotes. -/
theorem next_any2 (p : Nat) (s : List UInt8) (i g d : Nat) (w : World) (h : RdP w p s i g d) (hi : i ≤ s.length) (hs : s.length ≤ 1000000000) :
    Calls Tryz.prog 90 #[.pointer (some ⟨p, 0, none⟩)] w fun e w' => Mv p w w' ∧
      ((∃ c r, s.drop i = c :: r ∧ e = .returned (.int .u8 c.toNat) ∧ RdP w' p s (i + 1) g d ∧ s.drop (i + 1) = r) ∨ (e = fault4 ∧ s.drop i = [])) := by
  by_cases hlt : i < s.length
  · have hd := List.drop_eq_getElem_cons hlt
    exact (nextP_any p s i g d w h hlt hs).mono fun e w' ⟨h1, h2, h3⟩ => ⟨h3, Or.inl ⟨_, _, hd, h1, h2, rfl⟩⟩
  · obtain rfl : i = s.length := by omega
    exact (next_no p s g d w h).mono fun e w' ⟨h1, h2⟩ => ⟨h2, Or.inr ⟨h1, List.drop_length⟩⟩
theorem skip_any (p : Nat) (s q : List UInt8) (i g d : Nat) (w : World) (h : RdP w p s i g d) (hi : i ≤ s.length) (hs : s.length ≤ 1000000000) (hq : q.length ≤ 1000) :
    Calls Tryz.prog 40 #[.pointer (some ⟨p, 0, none⟩), .string (tx q)] w fun e w' => Mv p w w' ∧
      ((∃ r, strip q (s.drop i) = some r ∧ e = .returned (.bool true) ∧ RdP w' p s (i + q.length) g d ∧ s.drop (i + q.length) = r ∧ i + q.length ≤ s.length) ∨ (strip q (s.drop i) = none ∧ e = .returned (.bool false) ∧ RdP w' p s i g d)) := by
  cases hn : strip q (s.drop i) with
  | none => exact (skip_none p s q i g d w h hi hs hq hn).mono fun e w' ⟨h1, h2⟩ => ⟨Mv.up h2, Or.inr ⟨rfl, h1, h.up h2⟩⟩
  | some r =>
    have hl := strip_len hn
    rw [List.length_drop] at hl
    exact (skip_yes p s q i g d r w h hi hs hn).mono fun e w' ⟨h1, h2, h3⟩ => ⟨h3, Or.inl ⟨r, rfl, h1, h2, by rw [← List.drop_drop, strip_some hn, List.drop_left], by omega⟩⟩

theorem u8_eq (c : UInt8) (n : Nat) (hn : n < 256) : c = UInt8.ofNat n ↔ ((c.toNat : Int) == n) = true := by
  have h := u8_is c n hn
  rw [beq_iff_eq]
  constructor
  · intro e
    rw [e, UInt8.toNat_ofNat']
    omega
  · intro e
    rw [decide_eq_true e] at h
    exact beq_iff_eq.1 h
theorem escP_is (c : UInt8) (r : List UInt8) : escP (c :: r) = if ((c.toNat : Int) == 120) = true then hex2 r else if ((c.toNat : Int) == 39 || (c.toNat : Int) == 92) = true then some (c, r) else none := by
  have h1 : c = 120 ↔ _ := u8_eq c 120 (by omega)
  have h2 : c = 39 ↔ _ := u8_eq c 39 (by omega)
  have h3 : c = 92 ↔ _ := u8_eq c 92 (by omega)
  rw [escP]
  simp only [h1, h2, h3, Bool.or_eq_true]
  rfl
theorem piece_esc {q r : List UInt8} (h : strip [92] q = some r) : piece q = escP r := by
  rw [strip_some h]
  simp [piece]
theorem piece_not {q r : List UInt8} {c : UInt8} (h : strip [92] q = none) (e : q = c :: r) : piece q = if needs c.toNat = true then none else some (c, r) := by
  have hc := strip1_no h
  subst e
  rw [piece, if_neg (fun e => hc (by rw [e]; rfl))]
set_option maxHeartbeats 1000000 in
theorem piece_any (p : Nat) (s : List UInt8) (i g d : Nat) (w : World) (h : RdP w p s i g d) (hi : i ≤ s.length) (hs : s.length ≤ 1000000000) :
    Calls Tryz.prog 66 #[.pointer (some ⟨p, 0, none⟩)] w fun e w' => Mv p w w' ∧
      ((∃ c r j, piece (s.drop i) = some (c, r) ∧ e = .returned (.int .u8 c.toNat) ∧ RdP w' p s j g d ∧ s.drop j = r ∧ j ≤ s.length) ∨ (e = fault4 ∧ piece (s.drop i) = none)) := by
  have hsk := Hid.mk (skip_any p s [92] i g d w h hi hs (by simp))
  have hnx := Hid.mk (fun w1 (h1 : RdP w1 p s i g d) => next_any2 p s i g d w1 h1 hi hs)
  have hnx2 := Hid.mk (fun w1 (h1 : RdP w1 p s (i + 1) g d) hi1 => next_any2 p s (i + 1) g d w1 h1 hi1 hs)
  have hes := Hid.mk (fun w1 (h1 : RdP w1 p s (i + 1 + 1) g d) hi1 => escaped_any p s (i + 1 + 1) g d w1 h1 hi1 hs)
  have hle := Hid.mk (fun (c : UInt8) (r2 : List UInt8) (e : s.drop (i + 1) = c :: r2) => show i + 1 + 1 ≤ s.length by have := congrArg List.length e; rw [List.length_drop, List.length_cons] at this; omega)
  have hle0 := Hid.mk (fun (c : UInt8) (r2 : List UInt8) (e : s.drop i = c :: r2) => show i + 1 ≤ s.length by have := congrArg List.length e; rw [List.length_drop, List.length_cons] at this; omega)
  have hle2 := Hid.mk (fun (j : Nat) (c : UInt8) (r2 : List UInt8) (e : hex2 (s.drop j) = some (c, r2)) => show j + 2 ≤ s.length by have := hex2_len e; rw [List.length_drop] at this; omega)
  have t0 := True.intro
  go_enter Tryz.func66, Tryz.ntmps66
  go_wp2_with (first
    | (go_at_call 40; have g := t0; clear t0; refine hsk.out.mono ?_; rintro e w1 ⟨k1, ⟨r, e1, rfl, h1, e2, hi1⟩ | ⟨e1, rfl, h1⟩⟩)
    | (go_at_call 90; have h1' := hi1; refine (hnx2.out _ h1 h1').mono ?_; rintro e w2 ⟨k2, ⟨c, r2, e3, rfl, h2, e4⟩ | ⟨rfl, e3⟩⟩; all_goals (try unfold fault4))
    | (go_at_call 90; refine (hnx.out _ h1).mono ?_; rintro e w2 ⟨k2, ⟨c, r2, e3, rfl, h2, e4⟩ | ⟨rfl, e3⟩⟩; all_goals (try unfold fault4))
    | (go_at_call 91; refine (shown_any c _).mono ?_; rintro e w3 ⟨rfl, rfl⟩)
    | (go_at_call 92; have hi2 := hle.out _ _ e3; refine (hes.out _ h2 hi2).mono ?_; rintro e w3 ⟨k3, ⟨c3, r3, e5, rfl, h3, e6⟩ | ⟨rfl, e5⟩⟩; all_goals (try unfold fault4))
    | (go_at_call 20; refine (must_any _ _).mono ?_; rintro e w4 ⟨⟨hb, rfl⟩ | ⟨hb, rfl⟩, rfl⟩; all_goals (try unfold fault4)))
  · rename_i hc
    go_ret
    refine ⟨k1.trans (k2.trans k3), Or.inl ⟨c3, r3, _, ?_, rfl, h3, e6, hle2.out _ _ _ e5⟩⟩
    rw [piece_esc e1, show r = _ from (show s.drop (i + 1) = r from e2).symm.trans e3, escP_is, if_pos hc, ← e4]
    exact e5
  · refine ⟨rfl, k1.trans (k2.trans k3), Or.inr ⟨rfl, ?_⟩⟩
    rw [piece_esc e1, show r = _ from (show s.drop (i + 1) = r from e2).symm.trans e3, escP_is, if_pos (by assumption), ← e4]
    exact e5
  · rename_i hc1 hc
    go_ret
    refine ⟨k1.trans k2, Or.inl ⟨c, r2, _, ?_, by rw [hc]; rfl, h2, e4, hle.out _ _ e3⟩⟩
    rw [piece_esc e1, show r = _ from (show s.drop (i + 1) = r from e2).symm.trans e3, escP_is, hc1, if_neg (by simp), if_pos (by rw [hc]; rfl)]
  · cases hb
  · rename_i hc1 hc
    go_ret
    refine ⟨k1.trans k2, Or.inl ⟨c, r2, _, ?_, rfl, h2, e4, hle.out _ _ e3⟩⟩
    rw [piece_esc e1, show r = _ from (show s.drop (i + 1) = r from e2).symm.trans e3, escP_is, hc1, if_neg (by simp), if_pos hb]
  · refine ⟨rfl, k1.trans k2, Or.inr ⟨rfl, ?_⟩⟩
    rw [piece_esc e1, show r = _ from (show s.drop (i + 1) = r from e2).symm.trans e3, escP_is, show ((c.toNat : Int) == 120) = false by assumption, if_neg (by simp), hb, if_neg (by simp)]
  · refine ⟨rfl, k1.trans k2, Or.inr ⟨rfl, ?_⟩⟩
    rw [piece_esc e1, show r = _ from (show s.drop (i + 1) = r from e2).symm.trans e3]
    rfl
  · go_ret
    refine ⟨k1.trans k2, Or.inl ⟨c, r2, _, ?_, rfl, h2, e4, hle0.out _ _ e3⟩⟩
    rw [piece_not e1 e3, if_neg (by simpa using hb)]
  · refine ⟨rfl, k1.trans k2, Or.inr ⟨rfl, ?_⟩⟩
    rw [piece_not e1 e3, if_pos (by simpa using hb)]
  · refine ⟨rfl, k1.trans k2, Or.inr ⟨rfl, ?_⟩⟩
    rw [e3]
    rfl

end Go.Proofs.YtnbekfpkmebmbaaGreatDoor
