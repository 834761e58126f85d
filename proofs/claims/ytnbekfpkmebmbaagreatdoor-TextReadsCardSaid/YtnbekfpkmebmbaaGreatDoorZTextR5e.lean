/-
  The reader of the document's answers: Read; TextReads returns true.
-/
import Derived.Test.YtnbekfpkmebmbaaGreatDoorZTextTe
import Derived.Test.YtnbekfpkmebmbaaGreatDoorZTextRg
namespace Go.Proofs.YtnbekfpkmebmbaaGreatDoor
open Go.RowKit Go.Deep

theorem ret2r_at {fn : Func} {R : Ending → World → Prop} {a : Act} {p q : Tmp} {b : Nat} {w : World} {u v0 v1 v2 v3 : Value} (h : fn.results = #[.cell p 24, .tmp q]) (hp : a.tmps.getD p undef = .pointer (some ⟨b, 0, none⟩)) (hq : a.tmps.getD q undef = u) (hd : a.defers = [])
    (h0 : w.cell? ⟨b, 0, none⟩ = some v0) (h1 : w.cell? ⟨b, 1, none⟩ = some v1) (h2 : w.cell? ⟨b, 2, none⟩ = some v2) (h3 : w.cell? ⟨b, 3, none⟩ = some v3)
    (hR : R (.returned (.tuple #[.agg #[v0, v1, v2, v3], u])) w) : bodyPost Tryz.prog fn R .ret a w := by
  have hp' : a.tmps[p]?.getD undef = .pointer (some ⟨b, 0, none⟩) := by simpa using hp
  have hq' : a.tmps[q]?.getD undef = u := by simpa using hq
  have hl := load4 (o := 0) h0 h1 h2 h3
  exact bodyPost_ret (by simp [results, h, hp', hq', asAddr, hl]) hd hR
theorem ret2r_stored {fn : Func} {R : Ending → World → Prop} {a : Act} {p q : Tmp} {b : Nat} {w : World} {u u0 u1 u2 u3 v0 v1 v2 v3 : Value} (h : fn.results = #[.cell p 24, .tmp q]) (hp : a.tmps.getD p undef = .pointer (some ⟨b, 0, none⟩)) (hq : a.tmps.getD q undef = u) (hd : a.defers = [])
    (h0 : w.cell? ⟨b, 0, none⟩ = some u0) (h1 : w.cell? ⟨b, 1, none⟩ = some u1) (h2 : w.cell? ⟨b, 2, none⟩ = some u2) (h3 : w.cell? ⟨b, 3, none⟩ = some u3)
    (hR : R (.returned (.tuple #[.agg #[v0, v1, v2, v3], u])) ((((w.setCell ⟨b, 0, none⟩ v0).setCell ⟨b, 1, none⟩ v1).setCell ⟨b, 2, none⟩ v2).setCell ⟨b, 3, none⟩ v3)) :
    bodyPost Tryz.prog fn R .ret a ((((w.setCell ⟨b, 0, none⟩ v0).setCell ⟨b, 1, none⟩ v1).setCell ⟨b, 2, none⟩ v2).setCell ⟨b, 3, none⟩ v3) := by
  obtain ⟨e0, e1, e2, e3⟩ := stored4 (v0 := v0) (v1 := v1) (v2 := v2) (v3 := v3) h0 h1 h2 h3
  exact ret2r_at h hp hq hd e0 e1 e2 e3 hR


theorem rte (s : List UInt8) (hs : s.length ≤ 200000) : ∀ f, RTE s (parse false f) f
  | 0 => fun p i w h hi hN => by omega
  | f + 1 => fun p i w h hi hN => termE_any s hs (parse false f) f (rte s hs f) (parse_some false f) p i w h hi hN
/-- The term that a whole text is. -/
def goodT (s : List UInt8) (T : Tm) : Prop := parse true (s.length + 1) s = some (T, [])
theorem good_of {s : List UInt8} {T : Tm} (h : goodT s T) : s = T.text ∧ T.fitsR = true ∧ T.fits = true ∧ T.size ≤ s.length := by
  obtain ⟨h1, h2, h3, _⟩ := parse_some true _ _ _ _ h
  rw [List.append_nil] at h1
  have h4 := (text_ge T h2).1
  rw [← h1] at h4
  exact ⟨h1, h2, h3 rfl, h4⟩
theorem check_small {T : Tm} (h : T.size ≤ 20000) : T.check ≠ 3 := by
  have h1 := sumW_range T.pre
  have h2 := pre_length T
  rw [Tm.check, Tm.words]
  split
  · rw [longE_no (by omega)]; decide
  · decide
theorem good_false {s : List UInt8} {T : Tm} (h : goodT s T) : parse false (s.length + 1) s = some (T, []) := by
  obtain ⟨h1, h2, h3, h4⟩ := good_of h
  have h5 := parse_text false T h2 (fun e => by cases e) (s.length + 1) (by omega) [] (stop_nil T)
  rw [List.append_nil, ← h1] at h5
  exact h5
theorem fits_checkE {T : Tm} (h : T.fits = true) (h3 : T.check ≠ 3) : T.check = 0 := by
  rw [Tm.check, fits_pre, if_pos h] at h3 ⊢
  unfold longE at h3 ⊢
  split
  · rename_i h4
    rw [if_pos h4] at h3
    exact absurd rfl h3
  · rfl
/-- What the document's reader says of a whole text. -/
theorem whole_false {s : List UInt8} {T : Tm} (h : parse false (s.length + 1) s = some (T, [])) (hs : s.length ≤ 20000) : (T.check = 0 ∧ goodT s T) ∨ (T.check = 2 ∧ ∀ U, ¬ goodT s U) := by
  obtain ⟨h1, h2, _, _⟩ := parse_some false _ _ _ _ h
  rw [List.append_nil] at h1
  have h4 := (text_ge T h2).1
  rw [← h1] at h4
  have hc3 := check_small (T := T) (by omega)
  by_cases hf : T.fits = true
  · have h5 := parse_text true T h2 (fun _ => hf) (s.length + 1) (by omega) [] (stop_nil T)
    rw [List.append_nil, ← h1] at h5
    exact Or.inl ⟨fits_checkE hf hc3, h5⟩
  · refine Or.inr ⟨?_, fun U hU => ?_⟩
    · rw [Tm.check, fits_pre, if_neg hf]
    · have h6 := good_false hU
      rw [h] at h6
      simp only [Option.some.injEq, Prod.mk.injEq, and_true] at h6
      exact hf (by rw [h6]; exact (good_of hU).2.2.1)
theorem drop_nil {s : List UInt8} {j : Nat} (h : s.drop j = []) (hj : j ≤ s.length) : j = s.length := by
  have := congrArg List.length h
  rw [List.length_drop] at this
  simp at this
  omega

theorem whole_size {s r : List UInt8} {T : Tm} {f : Nat} (h : parse false f (s.drop 0) = some (T, r)) : T.size ≤ s.length := by
  obtain ⟨h1, h2, _, _⟩ := parse_some false _ _ _ _ h
  have h4 := (text_ge T h2).1
  have := congrArg List.length h1
  rw [List.drop_zero, List.length_append] at this
  omega

/-- What Read answers, the program's or the document's. -/
def R5Out (s : List UInt8) (w : World) (e : Ending) (w' : World) : Prop :=
  ∃ (v : Value) (x : Int), e = .returned (.tuple #[v, .int .i64 x]) ∧ Below w.heap.size w w' ∧ ((∃ T, goodT s T ∧ x = 0 ∧ Lies w' (fun b => w.heap.size ≤ b) T v) ∨ ((∀ T, ¬ goodT s T) ∧ x = 4 ∧ v = noTerm))
theorem readP5_any (s : List UInt8) (hs : s.length ≤ 1000) (w : World) (hw : Wld w) : Calls Tryz.prog 4 #[.string (tx s)] w (R5Out s w) := by
  by_cases h : ∃ T, goodT s T
  · obtain ⟨T, hT⟩ := h
    have h1 := (good_of hT).2.2.2
    refine (read_yes s _ (by omega) (pot_len s) (by omega) T hT (check_small (by omega)) w hw).mono ?_
    rintro e w' ⟨⟨v, rfl, hL⟩, hb⟩
    exact ⟨v, 0, rfl, hb, Or.inl ⟨T, hT, rfl, hL⟩⟩
  · refine (read_no s _ (by omega) (pot_len s) (by omega) (fun T hT => h ⟨T, hT⟩) w hw).mono ?_
    rintro e w' ⟨rfl, hb⟩
    exact ⟨noTerm, 4, rfl, hb, Or.inr ⟨fun T hT => h ⟨T, hT⟩, rfl, rfl⟩⟩

set_option maxRecDepth 100000 in
set_option maxHeartbeats 4000000 in
theorem readE5_any (s : List UInt8) (hs : s.length ≤ 1000) (w : World) : Calls Tryz.prog 5 #[.string (tx s)] w (R5Out s w) := by
  obtain ⟨W1, hW1⟩ : ∃ W1, (w.alloc zeroTerm).alloc (.cells #[.string (tx s), .int .i64 0, .bool false] 37) = W1 := ⟨_, rfl⟩
  have hu1 : Up w W1 := by rw [← hW1]; exact (Up.refl w).alloc.alloc
  have hb1 : W1.heap[w.heap.size]? = some zeroTerm := by rw [← hW1]; exact new_block1 _ _ _
  have hR1 : Rd W1 (w.heap.size + 1) s 0 false := by show W1.heap[w.heap.size + 1]? = _; rw [← hW1]; exact new_block2 _ _ _
  obtain ⟨p, hp⟩ : ∃ p, w.heap.size + 1 = p := ⟨_, rfl⟩
  rw [hp] at hR1
  have hT := Hid.mk (rte s (by omega) (s.length + 1) p 0 W1 hR1 (by omega) (by omega))
  have HU1 := Hid.mk hu1
  have HB1 := Hid.mk hb1
  have HP := Hid.mk hp
  have HPS := Hid.mk (show p < W1.heap.size from hR1.lt)
  have hsH := Hid.mk hs
  have hsz := tx_size s
  clear hu1 hb1 hR1 hs
  go_enter Tryz.func5, Tryz.ntmps5
  go_upto_region 2 with fail
  try rw [hW1]
  try rw [hp]
  clear hW1 hp
  go_wp2_with (first
    | (go_at_call 10
       refine hT.out.mono ?_
       rintro e w2 ⟨m2, T, v, j, b, rfl, hL, R2, _, hj, ho⟩
       obtain ⟨kk, nn, ss, aa, mm, cc, rfl⟩ := hL.agg
       obtain ⟨W3, hW3⟩ : ∃ W3, w2.alloc (.cells #[.int .i64 kk, .int .i64 nn, .string ss, .slice aa mm cc] 24) = W3 := ⟨_, rfl⟩
       have hb3 : Below w2.heap.size w2 W3 := (by rw [← hW3]; exact (Up.refl w2).alloc.out)
       have hx3 : W3.heap[w2.heap.size]? = some (.cells #[.int .i64 kk, .int .i64 nn, .string ss, .slice aa mm cc] 24) := (by rw [← hW3]; exact new_block _ _)
       have M3 := Hid.mk (m2.trans (Mv.up hb3))
       have hbx := M3.out.box HB1.out (by have := HP.out; omega)
       have HBX := Hid.mk hbx
       have HX3 := Hid.mk hx3
       have HL3 := Hid.mk (hL.below hb3)
       have HO := Hid.mk ho
       have HZ := Hid.mk (show W1.heap.size ≤ w2.heap.size from m2.size)
       obtain ⟨⟨c0, c1, c2⟩, f0, f1, f2⟩ := (R2.below hb3).cells
       obtain ⟨⟨p0, p1, p2, p3⟩, _⟩ := kept4 hx3 (Below.refl _ _)
       obtain ⟨⟨q0, q1, q2, q3⟩, y0, y1, y2, y3⟩ := kept4 hbx (Below.refl _ _)
       clear m2 hL R2 hj ho hb3 hx3 hbx)
    | (go_at_call 11
       have hbf : b = false := (by simp_all)
       refine (refcheck_any T (by rcases HO.out with ⟨_, hj1, h1⟩ | ⟨h1, _⟩; exact Nat.le_trans (whole_size h1) (by have := hsH.out; omega); rw [hbf] at h1; cases h1) _ _ _ HL3.out).mono ?_
       rintro e w4 ⟨rfl, hb4⟩
       obtain ⟨ck, hck⟩ : ∃ ck, T.check = ck := ⟨_, rfl⟩
       rw [hck]
       have HCK := Hid.mk hck
       have B4 := Hid.mk hb4
       clear c0 c1 c2 f0 f1 f2 p0 p1 p2 p3 q0 q1 q2 q3 y0 y1 y2 y3 hck
       obtain ⟨⟨p0, p1, p2, p3⟩, _⟩ := kept4 HX3.out hb4
       obtain ⟨⟨q0, q1, q2, q3⟩, y0, y1, y2, y3⟩ := kept4 HBX.out hb4
       clear hb4))
  all_goals have HBW := Hid.mk (show Below w.heap.size w W3 from HU1.out.out.trans (M3.out.below (B := w.heap.size) (by have := HP.out; omega) HU1.out.out.size))
  · refine ret2r_stored rfl rfl rfl rfl q0 q1 q2 q3 ⟨noTerm, 4, rfl, Below.set4 HBW.out (Nat.le_refl _), Or.inr ⟨fun U hU => ?_, rfl, rfl⟩⟩
    have h1 := good_false hU
    rcases HO.out with ⟨h2, _⟩ | ⟨_, h2⟩
    · exact absurd (h2.symm.trans ‹b = true›) (by decide)
    · rw [List.drop_zero, h1] at h2
      cases h2
  · refine ret2r_stored rfl rfl rfl rfl q0 q1 q2 q3 ⟨noTerm, 4, rfl, Below.set4 HBW.out (Nat.le_refl _), Or.inr ⟨fun U hU => ?_, rfl, rfl⟩⟩
    have h1 := good_false hU
    have h9 := ‹j < s.length›
    rcases HO.out with ⟨_, h3, h2⟩ | ⟨h2, _⟩
    · rw [List.drop_zero, h1] at h2
      simp only [Option.some.injEq, Prod.mk.injEq] at h2
      have := drop_nil h2.2.symm h3
      omega
    · exact absurd h2 ‹¬b = true›
  all_goals have hw := Hid.mk (show parse false (s.length + 1) s = some (T, []) by
    have h9 := ‹¬j < s.length›
    rcases HO.out with ⟨_, h3, h2⟩ | ⟨h2, _⟩
    · rw [List.drop_zero, List.drop_of_length_le (by omega)] at h2
      exact h2
    · exact absurd h2 ‹¬b = true›)
  all_goals have hwf := whole_false hw.out (by have := hsH.out; omega)
  all_goals have HB4 := Hid.mk (HBW.out.trans (B4.out.mono HBW.out.size))
  · refine ret2r_stored rfl rfl rfl rfl q0 q1 q2 q3 ⟨noTerm, 4, rfl, Below.set4 HB4.out (Nat.le_refl _), Or.inr ⟨?_, rfl, rfl⟩⟩
    have hk : ck = 2 := by simpa using ‹(ck == 2) = true›
    rcases hwf with ⟨h1, _⟩ | ⟨_, h1⟩
    · rw [HCK.out, hk] at h1; exact absurd h1 (by decide)
    · exact h1
  · exfalso
    have hk : ¬ ck = 2 := by simpa using ‹(ck == 2) = false›
    have hk0 : ¬ ck = 0 := by simpa using ‹(ck != 0) = true›
    rw [HCK.out] at hwf
    rcases hwf with ⟨h1, _⟩ | ⟨h1, _⟩
    · exact hk0 h1
    · exact hk h1
  · have hk0 : ck = 0 := by simpa using ‹(ck != 0) = false›
    rw [HCK.out, hk0] at hwf
    have hg : goodT s T := by
      rcases hwf with ⟨_, h1⟩ | ⟨h1, _⟩
      · exact h1
      · exact absurd h1 (by decide)
    exact ret2r_stored rfl rfl rfl rfl q0 q1 q2 q3 ⟨_, 0, rfl, Below.set4 HB4.out (Nat.le_refl _), Or.inl ⟨T, hg, rfl, Lies.stored (k := w.heap.size) (HL3.out.below B4.out) (fun b hb => by have h1 : W1.heap.size ≤ b := hb; have := HP.out; have := HU1.out.out.size; have := HPS.out; omega) (fun b hb => by have h1 : W1.heap.size ≤ b := hb; have := HU1.out.out.size; omega)⟩⟩

theorem tx_of (s : ByteArray) : tx s.toList = s := by
  apply bytes_toList
  rw [tx_toList]
/-- Both have answered the same. -/
theorem same_of {l : List UInt8} {x1 x3 : Int} {w W2 w3 W4 : World} {v1 v3 : Value} (h1 : (∃ T, goodT l T ∧ x1 = 0 ∧ Lies W2 (fun b => w.heap.size ≤ b) T v1) ∨ ((∀ T, ¬ goodT l T) ∧ x1 = 4 ∧ v1 = noTerm))
    (h3 : (∃ T, goodT l T ∧ x3 = 0 ∧ Lies w3 (fun b => W2.heap.size ≤ b) T v3) ∨ ((∀ T, ¬ goodT l T) ∧ x3 = 4 ∧ v3 = noTerm)) (hb : Below W2.heap.size W2 W4) (hb4 : Below w3.heap.size w3 W4) :
    x1 = x3 ∧ Calls Tryz.prog 6 #[v1, v3] W4 fun e w' => e = .returned (.bool true) ∧ Below W4.heap.size W4 w' := by
  have hsame : ∀ (T : Tm) (S S' : Nat → Prop) (v u : Value), Lies W4 S T v → Lies W4 S' T u → Calls Tryz.prog 6 #[v, u] W4 fun e w' => e = .returned (.bool true) ∧ Below W4.heap.size W4 w' := fun T S S' v u hv hu => by
    have h := sameTerm_any T T S S' v u W4 hv hu
    rwa [eqB_refl] at h
  rcases h1 with ⟨T, hT, rfl, hL⟩ | ⟨hn, rfl, rfl⟩
  · rcases h3 with ⟨U, hU, rfl, hM⟩ | ⟨hn, _⟩
    · have h5 : T = U := by
        have h6 : parse true (l.length + 1) l = some (T, []) := hT
        rw [show parse true (l.length + 1) l = some (U, []) from hU] at h6
        simp only [Option.some.injEq, Prod.mk.injEq, and_true] at h6
        exact h6.symm
      subst h5
      exact ⟨rfl, hsame T _ _ _ _ (hL.below hb) (hM.below hb4)⟩
    · exact absurd hT (hn T)
  · rcases h3 with ⟨U, hU, _, _⟩ | ⟨_, rfl, rfl⟩
    · exact absurd hU (hn U)
    · exact ⟨rfl, hsame (.mk 0 0 ⟨#[]⟩ []) (fun _ => True) (fun _ => True) _ _ (num_lies 0 0 (by omega) (by omega) (by omega) (by omega) _) (num_lies 0 0 (by omega) (by omega) (by omega) (by omega) _)⟩

set_option maxRecDepth 100000 in
set_option maxHeartbeats 4000000 in
theorem lawReads5 (s : ByteArray) (w : World) (hw : Wld w) : Calls Tryz.prog 3 #[.string s] w fun e w' => e = .returned (.bool true) ∧ Below w.heap.size w w' := by
  obtain ⟨l, rfl⟩ : ∃ l, s = tx l := ⟨s.toList, (tx_of s).symm⟩
  have hsz := tx_size l
  by_cases h1000 : 1000 < l.length
  · have e1 : decide ((1000 : Int) < l.length) = true := by rw [decide_eq_true_eq]; omega
    have e2 : decide (1000 < l.length) = true := by rw [decide_eq_true_eq]; exact h1000
    clear h1000 hw
    go_enter Tryz.func3, Tryz.ntmps3
    go_wp2
    go_ret
    exact ⟨rfl, Below.refl _ _⟩
  · have e1 : decide ((1000 : Int) < l.length) = false := by rw [decide_eq_false_iff_not]; omega
    have e2 : decide (1000 < l.length) = false := by rw [decide_eq_false_iff_not]; exact h1000
    have HL := Hid.mk (show l.length ≤ 1000 by omega)
    have HW := Hid.mk hw
    clear h1000 hw
    go_enter Tryz.func3, Tryz.ntmps3
    go_wp2_with (first
      | (go_at_call 4
         refine (readP5_any l HL.out w HW.out).mono ?_
         rintro e w1 ⟨v1, x1, rfl, hb1, h1⟩
         have hv1 : ∃ (kk nn : Int) (ss : ByteArray) (aa : Option Addr) (mm cc : Nat), v1 = .agg #[.int .i64 kk, .int .i64 nn, .string ss, .slice aa mm cc] := (by rcases h1 with ⟨T, _, _, hL⟩ | ⟨_, _, rfl⟩; exact hL.agg; exact ⟨_, _, _, _, _, _, rfl⟩)
         obtain ⟨kk, nn, ss, aa, mm, cc, rfl⟩ := hv1
         obtain ⟨W2, hW2⟩ : ∃ W2, w1.alloc (.cells #[.int .i64 kk, .int .i64 nn, .string ss, .slice aa mm cc] 24) = W2 := ⟨_, rfl⟩
         have U2 := Hid.mk (show Up w W2 from by rw [← hW2]; exact (show Up w w1 from hb1).alloc)
         have hb2 : Below w1.heap.size w1 W2 := (by rw [← hW2]; exact (Up.refl w1).alloc.out)
         have X2 := Hid.mk (show W2.heap[w1.heap.size]? = some (.cells #[.int .i64 kk, .int .i64 nn, .string ss, .slice aa mm cc] 24) from by rw [← hW2]; exact new_block _ _)
         have H1 := Hid.mk (show (∃ T, goodT l T ∧ x1 = 0 ∧ Lies W2 (fun b => w.heap.size ≤ b) T (.agg #[.int .i64 kk, .int .i64 nn, .string ss, .slice aa mm cc])) ∨ ((∀ T, ¬ goodT l T) ∧ x1 = 4 ∧ (Value.agg #[.int .i64 kk, .int .i64 nn, .string ss, .slice aa mm cc]) = noTerm) from h1.imp (fun ⟨T, a, b, c⟩ => ⟨T, a, b, c.below hb2⟩) id)
         clear hb1 h1 hb2)
      | (go_at_call 5
         refine (readE5_any l HL.out _).mono ?_
         rintro e w3 ⟨v3, x3, rfl, hb3, h3⟩
         have hv3 : ∃ (kk nn : Int) (ss : ByteArray) (aa : Option Addr) (mm cc : Nat), v3 = .agg #[.int .i64 kk, .int .i64 nn, .string ss, .slice aa mm cc] := (by rcases h3 with ⟨T, _, _, hL⟩ | ⟨_, _, rfl⟩; exact hL.agg; exact ⟨_, _, _, _, _, _, rfl⟩)
         obtain ⟨kk', nn', ss', aa', mm', cc', rfl⟩ := hv3
         obtain ⟨W4, hW4⟩ : ∃ W4, w3.alloc (.cells #[.int .i64 kk', .int .i64 nn', .string ss', .slice aa' mm' cc'] 24) = W4 := ⟨_, rfl⟩
         have hb4 : Below w3.heap.size w3 W4 := (by rw [← hW4]; exact (Up.refl w3).alloc.out)
         have U4 := Hid.mk ((show Up W2 w3 from hb3).call hb4)
         have hx4 : W4.heap[w3.heap.size]? = some (.cells #[.int .i64 kk', .int .i64 nn', .string ss', .slice aa' mm' cc'] 24) := (by rw [← hW4]; exact new_block _ _)
         obtain ⟨⟨p0, p1, p2, p3⟩, _⟩ := kept4 X2.out U4.out.out
         obtain ⟨⟨q0, q1, q2, q3⟩, _⟩ := kept4 hx4 (Below.refl _ _)
         have hst := same_of H1.out h3 U4.out.out hb4
         obtain rfl : x1 = x3 := hst.1
         have HST := Hid.mk hst.2
         clear hb3 h3 hb4 hx4 hst H1)
      | (go_at_call 6
         refine HST.out.mono ?_
         rintro e w5 ⟨rfl, hb5⟩
         have U5 := Hid.mk (U4.out.call hb5)
         clear hb5)
      | (go_at_call 7
         refine (awake5_any _ ((HW.out.next U2.out.out).next U5.out.out)).mono ?_
         rintro e w6 ⟨rfl, hb6⟩
         have U6 := Hid.mk (U5.out.call hb6)
         clear hb6))
    go_ret
    exact ⟨rfl, (U2.out.call U6.out.out).out⟩
end Go.Proofs.YtnbekfpkmebmbaaGreatDoor
