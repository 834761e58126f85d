/-
  TextBack returns true.
-/
import Derived.Test.YtnnoclddemackaaGreatDoorZTextLk
import Derived.Test.YtnnoclddemackaaGreatDoorZTextLw
import Derived.Test.YtnnoclddemackaaGreatDoorZTextPot
namespace Go.Proofs.YtnnoclddemackaaGreatDoor
open Go.RowKit Go.Deep

theorem fits_check {T : Tm} (h : T.fits = true) (h3 : T.check ≠ 3) : T.check = 0 := by
  rw [Tm.check, fits_pre, if_pos h] at h3 ⊢
  unfold longE at h3 ⊢
  split at h3
  · exact absurd rfl h3
  · rename_i hh
    rw [if_neg hh]
theorem fitsR_of_fits (T : Tm) : T.fits = true → T.fitsR = true := by
  induction T using Tm.induct with
  | h k n s l ih =>
    intro h
    rw [fits_mk, Bool.and_eq_true] at h
    rw [fitsR_mk, fitR_fit h.1, fitssR_of fun t ht => ih t ht (fitss_at h.2 t ht)]
    rfl
/-- A term's own text is read as the term. -/
theorem back_any (T : Tm) (hsz : T.size ≤ 400) (hc : T.check = 0) (w : World) (hw : Wld w) :
    Calls Tryz.prog 15 #[.string (tx T.text)] w fun e w' => (∃ v, e = .returned (.tuple #[v, .int .i64 0]) ∧ Is w' T v) ∧ Below w.heap.size w w' := by
  have hf := (check_zero T).1 hc
  have hR := fitsR_of_fits T hf.1
  have h1 := (text_len T hf.1).1
  have h2 := (cnt_text T hf.1).1
  have h3 := (text_ge T hR).1
  have hp := parse_text true T hR (fun _ => hf.1) (T.text.length + 1) (by omega) [] (by
    obtain ⟨k, n, s, l⟩ := T
    exact ⟨fun _ => (fun _ _ e => by cases e), fun _ _ => (fun _ _ e => by cases e)⟩)
  rw [List.append_nil] at hp
  exact (read_yes T.text _ (by omega) (pot_cnt T.text) (by rw [List.drop_zero]; omega) T hp (by rw [hc]; decide) w hw).mono fun e w' ⟨⟨v, he, hL⟩, hb⟩ => ⟨⟨v, he, hL.is⟩, hb⟩
/-- What is read of a short text: a term of just that text, or an error. -/
theorem readback_any (s : List UInt8) (hs : s.length ≤ 1000) (w : World) (hw : Wld w) :
    Calls Tryz.prog 15 #[.string (tx s)] w fun e w' => ((∃ T v, e = .returned (.tuple #[v, .int .i64 0]) ∧ Is w' T v ∧ T.check = 0 ∧ T.text = s ∧ T.size ≤ 1000) ∨ (∃ n : Int, e = .returned (.tuple #[noTerm, .int .i64 n]) ∧ (n == 0) = false)) ∧ Below w.heap.size w w' := by
  refine (read_any s _ (by omega) (pot_len s) (by omega) w hw).mono fun e w' hh => ?_
  obtain ⟨hb, ⟨T, v, eT, hck, rfl, hL⟩ | ⟨T, eT, hck, rfl⟩ | ⟨rfl, eT⟩⟩ := hh
  · obtain ⟨h1, h2, h3, _⟩ := parse_some true _ _ _ _ eT
    rw [List.append_nil] at h1
    have h4 := (text_ge T h2).1
    exact ⟨Or.inl ⟨T, v, rfl, hL.is, fits_check (h3 rfl) hck, h1.symm, by rw [← h1] at h4; omega⟩, hb⟩
  · exact ⟨Or.inr ⟨3, rfl, rfl⟩, hb⟩
  · exact ⟨Or.inr ⟨4, rfl, rfl⟩, hb⟩

set_option maxRecDepth 100000 in
set_option maxHeartbeats 4000000 in
theorem lawBack5 (T : Tm) (s : ByteArray) (v : Value) (w : World) (hw : Wld w) (hv0 : Is w T v) :
    Calls Tryz.prog 6 #[v, .string s] w fun e w' => e = .returned (.bool true) ∧ Below w.heap.size w w' := by
  obtain ⟨k, m, z, a', m', cap', rfl⟩ := hv0.agg
  obtain ⟨W0, hW0⟩ : ∃ W0, w.alloc (.cells #[.int .i64 k, .int .i64 m, .string z, .slice a' m' cap'] 24) = W0 := ⟨_, rfl⟩
  have hu0 : Up w W0 := by rw [← hW0]; exact (Up.refl w).alloc
  have hbx : W0.heap[w.heap.size]? = some (.cells #[.int .i64 k, .int .i64 m, .string z, .slice a' m' cap'] 24) := by rw [← hW0]; exact new_block _ _
  have HV := Hid.mk (hv0.below hu0.out)
  have HB := Hid.mk hbx
  have HWd := Hid.mk (hw.next hu0)
  have hret : Hid (∀ W, Up W0 W → Below w.heap.size w W) := Hid.mk (fun W h => (hu0.call h.out).out)
  obtain ⟨l, rfl⟩ : ∃ l, s = tx l := ⟨s.data.toList, rfl⟩
  have hsl := tx_size l
  have HW0 := Hid.mk hW0
  clear hu0 hw hv0 hbx hW0
  go_enter Tryz.func6, Tryz.ntmps6
  go_upto_region 1 with fail
  rw [HW0.out]
  by_cases hl : 1000 < l.length
  · have q1 : decide (1000 < l.length) = true := by rw [decide_eq_true_eq]; exact hl
    have q2 : decide ((1000 : Int) < l.length) = true := by rw [decide_eq_true_eq]; omega
    clear hl
    go_wp2_with (first
      | (go_at_call 5; refine (lawKnown5 _ HWd.out).mono ?_; rintro e w1 ⟨rfl, hb⟩; have u1 : Up W0 w1 := (Up.refl W0).call hb; have K1 := Hid.mk u1; obtain ⟨⟨g0, g1, g2, g3⟩, _⟩ := kept4 HB.out hb; clear hb u1)
      | (go_at_call 7; refine (large_bool T _ _ 400 _ (HV.out.below K1.out.out) (by omega) (by omega)).mono ?_; rintro e w2 ⟨⟨b, rfl, hA⟩, hb⟩; have K2 := Hid.mk (K1.out.call hb); clear hA hb))
    all_goals go_ret
    all_goals exact ⟨rfl, hret.out _ K2.out⟩
  · have q1 : decide (1000 < l.length) = false := by rw [decide_eq_false_iff_not]; exact hl
    have q2 : decide ((1000 : Int) < l.length) = false := by rw [decide_eq_false_iff_not]; omega
    have Hl := Hid.mk (show l.length ≤ 1000 by omega)
    clear hl
    by_cases hE : T.check = 0
    · have HE := Hid.mk hE
      have hwr := Hid.mk (fun (h : T.size ≤ 1000000) (w1 : World) h1 h2 => write_any T h (fun _ => True) (.agg #[.int .i64 k, .int .i64 m, .string z, .slice a' m' cap']) w1 h1 h2)
      have hbk := Hid.mk (fun (h : T.size ≤ 400) (w1 : World) h1 => back_any T h hE w1 h1)
      rw [hE] at hwr
      simp only [if_pos] at hwr
      generalize tx T.text = X at hwr hbk
      clear hE
      go_wp2_with (first
        | (go_at_call 5; refine (lawKnown5 _ HWd.out).mono ?_; rintro e w1 ⟨rfl, hb⟩; have u1 : Up W0 w1 := (Up.refl W0).call hb; have K1 := Hid.mk u1; obtain ⟨⟨g0, g1, g2, g3⟩, _⟩ := kept4 HB.out hb; clear hb u1)
        | (go_at_call 7; refine (large_bool T _ _ 400 _ (HV.out.below K1.out.out) (by omega) (by omega)).mono ?_; rintro e w2 ⟨⟨b, rfl, hA⟩, hb⟩
           have K2 := Hid.mk (K1.out.call hb)
           obtain ⟨⟨g0, g1, g2, g3⟩, _⟩ := kept4 HB.out K2.out.out
           cases b
           all_goals (first | (have hA2 := Hid.mk (hA rfl)) | skip)
           all_goals clear hA hb)
        | (go_at_call 9; have gg := L6; refine (write_any T2 (by have := P6.out.2.2; omega) _ _ _ (L6.out.below ((Below.refl _ _).alloc (Nat.le_refl _) _)) (HWd.out.next (K6.out.alloc).out)).mono ?_; rintro e w7 ⟨rfl, hb⟩
           have hX := P6.out
           rw [if_pos hX.1, hX.2.1, hX.1]
           have heq : ((tx l).toList == (tx l).toList) = true := by simp
           have K7 := Hid.mk (K6.out.alloc.call hb)
           clear hb hX)
        | (go_at_call 9; refine (hwr.out (by have := hA2.out.2; omega) _ (HV.out.below K2.out.out) (HWd.out.next K2.out.out)).mono ?_; rintro e w3 ⟨rfl, hb⟩
           have K3 := Hid.mk (K2.out.call hb)
           clear hb)
        | (go_at_call 15; have gg := K5; refine (readback_any l Hl.out _ (HWd.out.next K5.out.out)).mono ?_; rintro e w6 ⟨⟨T2, v2, rfl, hL, hc2, ht2, hs2⟩ | ⟨n2, rfl, hn2⟩, hb⟩
           all_goals (have K6 := Hid.mk (K5.out.call hb))
           all_goals (first | (obtain ⟨k2, m2, z2, a2, l2, p2, rfl⟩ := hL.agg; have L6 := Hid.mk hL; have P6 := Hid.mk (And.intro hc2 (And.intro ht2 hs2)); clear hL hc2 ht2 hs2) | skip)
           all_goals clear hb)
        | (go_at_call 15; refine (hbk.out (by have := hA2.out.2; omega) _ (HWd.out.next K3.out.out)).mono ?_; rintro e w4 ⟨⟨u, rfl, hL⟩, hb⟩
           obtain ⟨k4, m4, z4, a4, l4, p4, rfl⟩ := hL.agg
           have L4 := Hid.mk hL
           have K4 := Hid.mk (K3.out.call hb)
           obtain ⟨⟨g0, g1, g2, g3⟩, _⟩ := kept4 HB.out (K4.out.alloc (o := .cells #[.int .i64 k4, .int .i64 m4, .string z4, .slice a4 l4 p4] 24)).out
           clear hb hL)
        | (go_at_call 22; refine (sameSelf T (by have := hA2.out.2; omega) _ _ _ _ _ (L4.out.below ((Below.refl _ _).alloc (Nat.le_refl _) _)) (HV.out.below K4.out.alloc.out)).mono ?_; rintro e w5 ⟨rfl, hb⟩
           have K5 := Hid.mk (K4.out.alloc.call hb)
           clear hb))
      all_goals go_ret
      all_goals first | exact ⟨rfl, hret.out _ K7.out⟩ | exact ⟨rfl, hret.out _ K6.out.alloc⟩ | exact ⟨rfl, hret.out _ K2.out⟩
    · have q3 : (T.check == 0) = false := by rw [beq_eq_false_iff_ne]; exact hE
      have hwr := Hid.mk (fun (h : T.size ≤ 1000000) (w1 : World) h1 h2 => write_any T h (fun _ => True) (.agg #[.int .i64 k, .int .i64 m, .string z, .slice a' m' cap']) w1 h1 h2)
      rw [if_neg hE] at hwr
      generalize T.check = E at hwr q3 hE
      generalize tx [] = X at hwr
      clear hE
      go_wp2_with (first
        | (go_at_call 5; refine (lawKnown5 _ HWd.out).mono ?_; rintro e w1 ⟨rfl, hb⟩; have u1 : Up W0 w1 := (Up.refl W0).call hb; have K1 := Hid.mk u1; obtain ⟨⟨g0, g1, g2, g3⟩, _⟩ := kept4 HB.out hb; clear hb u1)
        | (go_at_call 7; refine (large_bool T _ _ 400 _ (HV.out.below K1.out.out) (by omega) (by omega)).mono ?_; rintro e w2 ⟨⟨b, rfl, hA⟩, hb⟩
           have K2 := Hid.mk (K1.out.call hb)
           obtain ⟨⟨g0, g1, g2, g3⟩, _⟩ := kept4 HB.out K2.out.out
           cases b
           all_goals (first | (have hA2 := Hid.mk (hA rfl)) | skip)
           all_goals clear hA hb)
        | (go_at_call 9; have gg := L6; refine (write_any T2 (by have := P6.out.2.2; omega) _ _ _ (L6.out.below ((Below.refl _ _).alloc (Nat.le_refl _) _)) (HWd.out.next (K6.out.alloc).out)).mono ?_; rintro e w7 ⟨rfl, hb⟩
           have hX := P6.out
           rw [if_pos hX.1, hX.2.1, hX.1]
           have heq : ((tx l).toList == (tx l).toList) = true := by simp
           have K7 := Hid.mk (K6.out.alloc.call hb)
           clear hb hX)
        | (go_at_call 9; refine (hwr.out (by have := hA2.out.2; omega) _ (HV.out.below K2.out.out) (HWd.out.next K2.out.out)).mono ?_; rintro e w3 ⟨rfl, hb⟩
           have K3 := Hid.mk (K2.out.call hb)
           clear hb)
        | (go_at_call 15; refine (readback_any l Hl.out _ (HWd.out.next K3.out.out)).mono ?_; rintro e w6 ⟨⟨T2, v2, rfl, hL, hc2, ht2, hs2⟩ | ⟨n2, rfl, hn2⟩, hb⟩
           all_goals (have K6 := Hid.mk (K3.out.call hb))
           all_goals (first | (obtain ⟨k2, m2, z2, a2, l2, p2, rfl⟩ := hL.agg; have L6 := Hid.mk hL; have P6 := Hid.mk (And.intro hc2 (And.intro ht2 hs2)); clear hL hc2 ht2 hs2) | skip)
           all_goals clear hb))
      all_goals go_ret
      all_goals first | exact ⟨rfl, hret.out _ K7.out⟩ | exact ⟨rfl, hret.out _ K6.out.alloc⟩ | exact ⟨rfl, hret.out _ K2.out⟩
end Go.Proofs.YtnnoclddemackaaGreatDoor
