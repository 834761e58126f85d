/-
  HeapKnown returns true: the walk.
-/
import Derived.Test.YtaiiicmldogjoaaDoorZHeapR
import Derived.Deep.DeepCutAuto
namespace Go.Proofs.YtaiiicmldogjoaaDoor
open Go.RowKit Go.Deep Go.Maps Go.WideShapes

theorem lst1h {w : World} {S : Nat → Prop} {t : Tm} {nb : Nat} {h0 h1 h2 h3 : Value} {ty : TypeId} (hc : w.heap[nb]? = some (.cells #[h0, h1, h2, h3] ty (0, 0))) (hnb : S nb) (ht : Lies w S t (.agg #[h0, h1, h2, h3])) :
    Lst w S [t] (some ⟨nb, 0, none⟩) 1 :=
  ⟨Nat.le_refl _, by decide, Or.inr ⟨_, rfl, fun _ => ⟨hnb, rfl⟩, Row.of fun i hi => by
    obtain rfl : i = 0 := by simpa using hi
    exact ⟨h0, h1, h2, h3, by simp [World.cell?, hc], by simp [World.cell?, hc], by simp [World.cell?, hc], by simp [World.cell?, hc], ht⟩⟩⟩
set_option maxHeartbeats 16000000 in
set_option maxRecDepth 100000 in
theorem known9_any (w : World) (hW : WordTab w) (hH : ShapeTab w) : Calls Tryd.prog 4 #[] w fun e w' => e = .returned (.bool true) ∧ Below w.heap.size w w' := by
  have HWH := Hid.mk (show WordTab w ∧ ShapeTab w from ⟨hW, hH⟩)
  clear hW hH
  go_enter Tryd.func4, Tryd.ntmps4
  go_upto_region 6 with (first
    | (go_at_call 9; refine K6.out.st.consE.mono ?_; rintro e w7 ⟨S7, rfl, h7, n7⟩
       have K7 := Hid.mk (K6.out.step h7 n7)
       obtain ⟨⟨q0, q1, q2, q3⟩, _⟩ := kept4 K7.out.box (Below.refl _ _)
       clear h7 n7; have k6 := True.intro)
    | (go_at_call 19; have g0 := k4; refine (tup_any _ _ _ _).mono ?_; rintro e w5 ⟨rfl, hb5⟩
       have hr := row_made hb5
       obtain ⟨W6, hW6⟩ : ∃ W6, w5.alloc (.cells #[.int .i64 7, .int .i64 0, .string ⟨#[]⟩, .slice (some ⟨w4.heap.size, 0, none⟩) 2 2] 42) = W6 := ⟨_, rfl⟩
       have K6 := Hid.mk (KQ.mk_ F4.out hr.1 hr.2 hW6)
       clear hb5 hr; have k5 := True.intro)
    | (go_at_call 20; have g0 := k3; refine (num_any _ _).mono ?_; rintro e w4 ⟨rfl, hb4⟩; have F4 := Hid.mk (F3.out.up hb4); clear hb4; have k4 := True.intro)
    | (go_at_call 20; have g0 := k2; refine (num_any _ _).mono ?_; rintro e w3 ⟨rfl, hb3⟩; have F3 := Hid.mk (F2.out.up hb3); clear hb3; have k3 := True.intro)
    | (go_at_call 17; refine (awake9_any _ (HWH.out.1.below F1.out.below) (HWH.out.2.below F1.out.below)).mono ?_; rintro e w2 ⟨rfl, hb2⟩; have F2 := Hid.mk (F1.out.up hb2); clear hb2; have k2 := True.intro)
    | (go_at_call 18; refine (eight_any _ HWH.out.1 HWH.out.2).mono ?_; rintro e w1 ⟨hb, S1, rfl, h1⟩; have F1 := Hid.mk h1; clear h1; have k1 := True.intro))
  go_cut [1, 6] (fun s1 s6 wx => s1 = .pointer (some ⟨hb, 0, none⟩) ∧ s6 = .bool true ∧ Hid (St w wx hb S7 [] 8 consX consK))
  case first =>
    go_region_with (first
      | (go_at_call 21; refine (got_any _ F9.out consR_den (by decide) L9.out).mono ?_; rintro e w10 ⟨rfl, hb10⟩; have F10 := Hid.mk (F9.out.up hb10); clear hb10; have k8 := True.intro)
      | (go_at_call 22
         first
           | (have hx8 := (B8.out.block w7.heap.size (show w7.heap.size < (w7.alloc _).heap.size by simp)).trans (new_block w7 _)
              have hu : Up w7 w8 := (by refine Up.call ?_ B8.out; repeat (first | exact Up.refl _ | apply Up.drew | apply Up.alloc))
              have K8 := K7.out.up hu.out
              refine (pairs_any [rowT] (by simp) .nil (Sf S7 w8) _ _ _ _ (lst1h hx8 (K7.out.st.new_safe (Nat.le_refl _) (Array.getElem?_eq_some_iff.1 hx8).1) K8.lies) (nil_is _ _)).mono ?_
              rintro e w9 ⟨⟨cv, rfl, hL⟩, hb9⟩
              obtain ⟨ck, cn, cs, ca, cm, cc, rfl⟩ := hL.agg
              have F9 := Hid.mk (K8.st.up hb9); have L9 := Hid.mk (show Lies w9 _ consR _ from hL)
              clear hx8 hu K8 hL hb9 B8; have k7b := True.intro)
           | (have hx8 := new_block w8 (.cells #[.int .i64 7, .int .i64 0, .string ⟨#[]⟩, .slice (some ⟨w4.heap.size, 0, none⟩) 2 2] 42)
              have hu : Up w7 (w8.alloc (.cells #[.int .i64 7, .int .i64 0, .string ⟨#[]⟩, .slice (some ⟨w4.heap.size, 0, none⟩) 2 2] 42)) := (by refine Up.alloc (Up.call ?_ B8.out); repeat (first | exact Up.refl _ | apply Up.drew | apply Up.alloc))
              have K8 := K7.out.up hu.out
              refine (pairs_any [rowT] (by simp) .nil (Sf S7 (w8.alloc (.cells #[.int .i64 7, .int .i64 0, .string ⟨#[]⟩, .slice (some ⟨w4.heap.size, 0, none⟩) 2 2] 42))) _ _ _ _ (lst1h hx8 (K7.out.st.new_safe (Up.out (w := w7) (w' := w8) (by refine Up.call ?_ B8.out; repeat (first | exact Up.refl _ | apply Up.drew | apply Up.alloc))).size (Array.getElem?_eq_some_iff.1 hx8).1) K8.lies) (nil_is _ _)).mono ?_
              rintro e w9 ⟨⟨cv, rfl, hL⟩, hb9⟩
              obtain ⟨ck, cn, cs, ca, cm, cc, rfl⟩ := hL.agg
              have F9 := Hid.mk (K8.st.up hb9); have L9 := Hid.mk (show Lies w9 _ consR _ from hL)
              clear hx8 hu K8 hL hb9 B8; have k7b := True.intro))
      | (go_at_call 23; refine (none_any _).mono ?_; rintro e w8 ⟨rfl, hb8⟩
         have hu8 : Up w7 w8 := (by refine Up.call ?_ hb8; repeat (first | exact Up.refl _ | apply Up.drew | apply Up.alloc))
         obtain ⟨⟨u0, u1, u2, u3⟩, _⟩ := kept4 K7.out.box hu8.out
         have B8 := Hid.mk hb8; clear hb8 hu8; have k7 := True.intro))
    all_goals go_wp2_with fail
    all_goals go_meet
    all_goals first
      | exact ⟨rfl, rfl, F10⟩
      | exact ⟨rfl, rfl, Hid.mk (F10.out.up (Up.refl _).drew.out)⟩
  case rest =>
    obtain ⟨rfl, rfl, F10⟩ := hcut
    go_wp2_with (first
      | (go_at_call 24; have g0 := k24; refine (sameWords_any [7, 7] [7, 7] _ _ _ _ _ (P26.out.up row_new2.2) row_new2.1 (by decide)).mono ?_; rintro e w30 ⟨rfl, hb30⟩; rw [decide_eq_true (rfl : [(7 : Int), 7] = [7, 7])]
         have F30 := Hid.mk (F27.out.up (row_new2.2.trans (hb30.mono row_new2.2.size))); clear hb30; have k25 := True.intro)
      | (go_at_call 24; have g0 := k23; refine (sameWords_any twoX twoX _ _ _ _ _ (X26.out.up row_new6.2) row_new6.1 (by decide)).mono ?_; rintro e w27 ⟨rfl, hb27⟩; rw [decide_eq_true (rfl : twoX = twoX)]
         have hu := row_new6.2.trans (hb27.mono row_new6.2.size)
         have F27 := Hid.mk (F26.out.up hu); have P26 := Hid.mk (P25.out.up hu); clear hb27 hu; have k24 := True.intro)
      | (go_at_call 15; refine F25.out.words.mono ?_; rintro e w26 ⟨v26, rfl, hw26, _, hb26⟩
         obtain ⟨xa, xc, rfl, _, _, hxc⟩ := hw26.cel
         have F26 := Hid.mk (F25.out.up hb26); have X26 := Hid.mk hxc; have P25 := Hid.mk (P24.out.up hb26); clear hw26 hb26 hxc; have k23 := True.intro)
      | (go_at_call 7; have g0 := k21; refine (F23.out.get_bad (by decide) (by decide) bad_23).mono ?_; rintro e w24 ⟨rfl, hb24⟩
         have hu := box_up (o := .cells #[.int .i64 0, .int .i64 0, .string ⟨#[]⟩, .slice none 0 0] 42) hb24
         have F25 := Hid.mk (F23.out.up hu); have P24 := Hid.mk (P23.out.up hu); clear hb24 hu; have k22 := True.intro)
      | (go_at_call 11; have g0 := k20; refine (F22.out.partsE.2).mono ?_; rintro e w23 ⟨qa, qc, rfl, hb23⟩
         have F23 := Hid.mk (F22.out.up hb23); have P23 := Hid.mk (P22.out.up hb23); clear hb23; have k21 := True.intro)
      | (go_at_call 11; have g0 := k19; refine (F21.out.partsE.1).mono ?_; rintro e w22 ⟨pa, pc, rfl, hp22, hb22⟩
         have F22 := Hid.mk (F21.out.up hb22); have P22 := Hid.mk hp22; clear hp22 hb22; have k20 := True.intro)
      | (go_at_call 8; refine (F20b.out.tupleE HROW.out).mono ?_; rintro e w21 ⟨S21, rfl, h21⟩
         have F21 := Hid.mk h21; clear h21; have k19 := True.intro)
      | (go_at_call 7; have g0 := k17; refine (F19.out.get_bad (by decide) (by decide) bad_57).mono ?_; rintro e w20 ⟨rfl, hb20⟩
         have F20 := Hid.mk (F19.out.up (box_up (o := .cells #[.int .i64 0, .int .i64 0, .string ⟨#[]⟩, .slice none 0 0] 42) hb20)); clear hb20;
         have hrow := row_new2 (w := w20.alloc (.cells #[.int .i64 0, .int .i64 0, .string ⟨#[]⟩, .slice none 0 0] 42)) (t := 22) (x := 7) (y := 7)
         rw [World.size_alloc] at hrow
         have HROW := Hid.mk hrow.1
         have F20b := Hid.mk (F20.out.up (by rw [World.size_alloc]; exact hrow.2))
         clear hrow; have k18 := True.intro)
      | (go_at_call 13; refine F18.out.used.mono ?_; rintro e w19 ⟨rfl, rfl⟩; rw [rowX_len]; have F19 := F18; have k17 := True.intro)
      | (go_at_call 24; have g0 := k15; refine (sameWords_any [7] [7] _ _ _ _ _ (C17.out.up row_new.2) row_new.1 (by decide)).mono ?_; rintro e w18 ⟨rfl, hb18⟩; rw [decide_eq_true (rfl : [(7 : Int)] = [7])]
         have F18 := Hid.mk (F17.out.up (row_new.2.trans (hb18.mono row_new.2.size))); clear hb18; have k16 := True.intro)
      | (go_at_call 12; refine ((F16.out.up row_new.2).collectE row_new.1).mono ?_; rintro e w17 ⟨ca, cc, S17, rfl, hc17, h17⟩
         have F17 := Hid.mk h17; have C17 := Hid.mk hc17; clear hc17 h17; have k15 := True.intro)
      | (go_at_call 6; refine (F15.out.put_limit L15.out fourT_check fourT_nums fourT_size (by rw [fourT_words]; decide) (by rw [fourT_words]; decide)).mono ?_; rintro e w16 ⟨rfl, hb16⟩
         have F16 := Hid.mk (F15.out.up hb16); clear hb16; have k14 := True.intro)
      | (go_at_call 19; have g0 := k12; refine (tup_any _ _ _ _).mono ?_; rintro e w15 ⟨rfl, hb15⟩
         have hr := row4_made hb15
         have L15 := Hid.mk (F14.out.lies_new hr.1)
         have F15 := Hid.mk (F14.out.up hr.2)
         clear hb15 hr; have k13 := True.intro)
      | (go_at_call 20; have g0 := k11; refine (num_any _ _).mono ?_; rintro e w14 ⟨rfl, hb14⟩; have F14 := Hid.mk (F13.out.up hb14); clear hb14; have k12 := True.intro)
      | (go_at_call 20; have g0 := k10; refine (num_any _ _).mono ?_; rintro e w13 ⟨rfl, hb13⟩; have F13 := Hid.mk (F12.out.up hb13); clear hb13; have k11 := True.intro)
      | (go_at_call 20; have g0 := k9; refine (num_any _ _).mono ?_; rintro e w12 ⟨rfl, hb12⟩; have F12 := Hid.mk (F11.out.up hb12); clear hb12; have k10 := True.intro)
      | (go_at_call 20; have g0 := F10; refine (num_any _ _).mono ?_; rintro e w11 ⟨rfl, hb11⟩; have F11 := Hid.mk (F10.out.up hb11); clear hb11; have k9 := True.intro))
    go_ret
    exact ⟨rfl, F30.out.below⟩
end Go.Proofs.YtaiiicmldogjoaaDoor
