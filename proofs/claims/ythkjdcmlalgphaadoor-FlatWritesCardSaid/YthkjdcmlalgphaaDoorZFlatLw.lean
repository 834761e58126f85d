/-
  FlatWrites returns true.
-/
import Derived.Test.YthkjdcmlalgphaaDoorZFlatKit
namespace Go.Proofs.YthkjdcmlalgphaaDoor
open Go.RowKit Go.Deep

theorem Str.up {w w' : World} {l : List ByteArray} {a : Option Addr} {cap : Nat} (h : Str w l a cap) (hb : Below w.heap.size w w') : Str w' l a cap :=
  ⟨h.size, h.len, fun h0 => by
    obtain ⟨b, o, e, hl, hc⟩ := h.cells h0
    exact ⟨b, o, e, Nat.lt_of_lt_of_le hl hb.size, fun j hj => cell_below hb _ _ _ (hc j hj)⟩⟩
theorem flatW_small (T : Tm) (L : List ByteArray) (_ : T.size ≤ 400000) : (flatW T L).length ≤ 1000000 := by
  rw [flatW]
  split
  · rename_i hc
    have hf := flat_length (T.nums L).2 (check_zero hc.1).1
    have := (check_zero hc.1).2
    omega
  · simp
set_option maxHeartbeats 8000000 in
set_option maxRecDepth 100000 in
theorem lawWrites7 (l : List ByteArray) (a : Option Addr) (cap : Nat) (T : Tm) (S : Nat → Prop) (tv : Value) (w : World) (hl : Str w l a cap) (hT : Lies w S T tv) (hW : WordTab w) (hH : ShapeTab w) :
    Calls Tryd.prog 3 #[.slice a l.length cap, tv] w fun e w' => e = .returned (.bool true) ∧ Below w.heap.size w w' := by
  have hTi := (Lies.inside T _ hT)
  obtain ⟨k, n, s, tl⟩ := T
  obtain ⟨ta', tcap, rfl, hsm, htl⟩ := hT.out
  generalize hTT : Tm.mk k n s tl = T at *
  obtain ⟨W0, hW0⟩ : ∃ W0, w.alloc (.cells #[.int .i64 k, .int .i64 n, .string s, .slice ta' tl.length tcap] 25) = W0 := ⟨_, rfl⟩
  have hu0 : Up w W0 := by rw [← hW0]; exact (Up.refl w).alloc
  have hz0 : W0.heap.size = w.heap.size + 1 := by rw [← hW0]; simp
  have hb0 : W0.heap[w.heap.size]? = some (.cells #[.int .i64 k, .int .i64 n, .string s, .slice ta' tl.length tcap] 25) := by rw [← hW0]; exact new_block _ _
  have HU0 := Hid.mk hu0
  have HZ0 := Hid.mk hz0
  have HB0 := Hid.mk hb0
  have HS := Hid.mk hl
  have HT0 := Hid.mk (hT.below hu0.out)
  have HT := Hid.mk ((hTi.move (S' := fun b => b < w.heap.size) (fun b hb => hb.2) (fun _ _ _ _ h => h) _ _).below hu0.out)
  have HWH := Hid.mk (show WordTab W0 ∧ ShapeTab W0 from ⟨hW.below hu0.out, hH.below hu0.out⟩)
  have HW0 := Hid.mk (show WordTab w ∧ ShapeTab w from ⟨hW, hH⟩)
  clear hu0 hz0 hb0 hl hT hTi hW hH hsm htl
  go_enter Tryd.func3, Tryd.ntmps3
  go_upto_region 1 with fail
  try rw [hW0]
  clear hW0
  go_wp2_with (first
    | (go_at_call 8; refine (longTexts_any l a cap 20 _ (HS.out.up HU0.out.out)).mono ?_; rintro e w1 ⟨⟨b1, rfl, h1⟩, rfl⟩; have H1 := Hid.mk h1; clear h1
       obtain ⟨⟨q0, q1, q2, q3⟩, _⟩ := kept4 HB0.out (Below.refl _ _))
    | (go_at_call 9; refine (largeTerm_any T _ _ 400 _ HT0.out (by omega) (by omega)).mono ?_; rintro e w2 ⟨⟨b2, rfl, h2⟩, hb2⟩; have H2 := Hid.mk h2; have U2 := Hid.mk (show Up W0 w2 from hb2)
       clear h2 hb2 q0 q1 q2 q3)
    | (go_at_call 10; refine (atoms_any l a cap _ ((HS.out.up HU0.out.out).up U2.out.out) (H1.out (by first | assumption | simpa using ‹¬ b1 = true›)).2).mono ?_; rintro e w3 ⟨q, L, rfl, h3, n3⟩
       have F3 := Hid.mk h3; have N3 := Hid.mk n3; clear h3 n3
       have BX3 := Hid.mk ((F3.out.below.block _ (Nat.lt_of_lt_of_le (Array.getElem?_eq_some_iff.1 HB0.out).1 U2.out.out.size)).trans ((U2.out.out.block _ (Array.getElem?_eq_some_iff.1 HB0.out).1).trans HB0.out))
       obtain ⟨⟨q0, q1, q2, q3⟩, _⟩ := kept4 BX3.out (Below.refl _ _))
    | (go_at_call 11; refine (copyTerm_any T (by have := (H2.out (by first | assumption | simpa using ‹¬ b2 = true›)).2; omega) _ _ _ ((HT0.out.below U2.out.out).below F3.out.below)).mono ?_; rintro e w4 ⟨⟨cv, rfl, ho⟩, hb4⟩
       obtain ⟨ck, cn, cs, ca, cm, cc, rfl⟩ := (Own.lies T _ _ _ ho).agg
       obtain ⟨W5, hW5⟩ : ∃ W5, w4.alloc (.cells #[.int .i64 ck, .int .i64 cn, .string cs, .slice ca cm cc] 25) = W5 := ⟨_, rfl⟩
       have hu5 : Up w4 W5 := (by rw [← hW5]; exact (Up.refl w4).alloc)
       have hx5 : W5.heap[w4.heap.size]? = some (.cells #[.int .i64 ck, .int .i64 cn, .string cs, .slice ca cm cc] 25) := (by rw [← hW5]; exact new_block _ _)
       have U5 := Hid.mk ((show Up w3 w4 from hb4).call hu5.out)
       have X5 := Hid.mk hx5
       have L5 := Hid.mk ((Own.lies T _ _ _ ho).below hu5.out)
       have Z4 := Hid.mk (show w3.heap.size ≤ w4.heap.size from hb4.size)
       obtain ⟨v, vr, hT3, hR3, hdis, hm1, hm2, hb3, hs3⟩ := F3.out
       have T5 := Hid.mk (hT3.up U5.out.out); have R5 := Hid.mk (hR3.up U5.out.out); have D5 := Hid.mk hdis; have M1 := Hid.mk hm1; have M2 := Hid.mk hm2
       have V1 := Hid.mk (fun k hk => hT3.lt (k := k) hk); have V2 := Hid.mk (fun k hk => hR3.lt (k := k) hk)
       have BX5 := Hid.mk ((U5.out.out.block _ (Array.getElem?_eq_some_iff.1 BX3.out).1).trans BX3.out)
       have LT5 := Hid.mk (((HT.out.below U2.out.out).below F3.out.below).below U5.out.out)
       have WS5 := Hid.mk (show WordTab W5 ∧ ShapeTab W5 from ⟨((HWH.out.1.below U2.out.out).below hb3).below U5.out.out, ((HWH.out.2.below U2.out.out).below hb3).below U5.out.out⟩)
       obtain ⟨⟨p0, p1, p2, p3⟩, _⟩ := kept4 hx5 (Below.refl _ _)
       clear hb4 ho hu5 hx5 hT3 hR3 hdis hm1 hm2 hb3 hs3 q0 q1 q2 q3)
    | (go_at_call 12; refine (flatten_any T _ _ _ _ _ v L T5.out L5.out (fun b hb hk => by have := V1.out b hk; omega) (by have := (H2.out (by first | assumption | simpa using ‹¬ b2 = true›)).2; omega) WS5.out.1 WS5.out.2 (fun hk => by have := M1.out _ hk; have := HWH.out.1.size; have := U2.out.out.size; omega)).mono ?_
       rintro e w6 ⟨rv, v6, rfl, h6⟩
       have Y6 := Hid.mk h6
       have BX6 := Hid.mk (h6.only.box BX5.out (fun hk => by have := M1.out _ hk; have := U2.out.out.size; have := HZ0.out; omega))
       have X6 := Hid.mk (h6.only.box X5.out (fun hk => by have := V1.out _ hk; have := Z4.out; omega))
       have L6 := Hid.mk (h6.only.lies (S := fun b => w3.heap.size ≤ b ∧ b < W5.heap.size) (fun b hb => ⟨hb.2, fun hk => by have := V1.out _ hk; omega⟩) (L5.out.inside.move (fun b hb => by omega) (fun _ _ _ _ h => h) _ _))
       have LT6 := Hid.mk (h6.only.lies (S := fun b => b < w.heap.size) (fun b hb => ⟨by have := HZ0.out; have := U2.out.out.size; have := F3.out.below.size; have := U5.out.out.size; have := (V1.out (w2.heap.size + 1) (Or.inl rfl)); omega, fun hk => by have := M1.out _ hk; have := U2.out.out.size; have := HZ0.out; omega⟩) LT5.out)
       have R6 := Hid.mk (R5.out.kept h6.only (fun k hk hk2 => D5.out k hk2 hk))
       obtain ⟨⟨q0, q1, q2, q3⟩, _⟩ := kept4 BX6.out (Below.refl _ _)
       obtain ⟨ra, rcap, rfl, _⟩ := h6.row.cel
       clear h6 p0 p1 p2 p3)
    | (go_at_call 13; refine (flattenR_any T _ _ _ q vr L R6.out LT6.out (fun b hb hk => by have := M2.out _ hk; have := U2.out.out.size; have := HZ0.out; omega) (by have := (H2.out (by first | assumption | simpa using ‹¬ b2 = true›)).2; omega)).mono ?_
       rintro e w7 ⟨rv7, v7, rfl, h7⟩
       have BX7 := Hid.mk (h7.only.box BX6.out (fun hk => by have := M2.out _ hk; have := U2.out.out.size; have := HZ0.out; omega))
       have X7 := Hid.mk (h7.only.box X6.out (fun hk => by have := V2.out _ hk; have := Z4.out; omega))
       have L7 := Hid.mk (h7.only.lies (S := fun b => w3.heap.size ≤ b ∧ b < W5.heap.size) (fun b hb => ⟨by have := Y6.out.only.size; omega, fun hk => by have := V2.out _ hk; omega⟩) L6.out)
       have LT7 := Hid.mk (h7.only.lies (S := fun b => b < w.heap.size) (fun b hb => ⟨by have := BX6.out; have := (Array.getElem?_eq_some_iff.1 BX6.out).1; omega, fun hk => by have := M2.out _ hk; have := U2.out.out.size; have := HZ0.out; omega⟩) LT6.out)
       have hsep : ∀ k, MineR q vr k → ¬ Mine (w2.heap.size + 1) w2.heap.size v k ∧ k < W5.heap.size := (fun k hk => ⟨fun h => D5.out k h hk, Nat.lt_of_lt_of_le (V2.out k hk) U5.out.out.size⟩)
       have T7 := Hid.mk (Y6.out.tab.kept h7.only (fun k hk hk2 => (Y6.out.mine k hk).elim (hsep k hk2).1 (fun h => by have := (hsep k hk2).2; omega)))
       have C7 := Hid.mk ((Y6.out.row.kept h7.only (fun g hg hk2 => (Y6.out.own g hg).1.elim (hsep g hk2).1 (fun h => by have := (hsep g hk2).2; omega))).celA)
       have R7 := Hid.mk h7.tab
       obtain ⟨sa, scap, rfl, _, _, hc7⟩ := h7.row.cel
       have D7 := Hid.mk hc7
       have B7 := Hid.mk (show Below w.heap.size w w7 from ((HU0.out.call U2.out.out).out.trans ((F3.out.below.trans (U5.out.out.mono F3.out.below.size)).mono (HU0.out.call U2.out.out).out.size)).trans (((Y6.out.only.below (B := w.heap.size) (fun k hk => by have := M1.out _ hk; have := (HU0.out.call U2.out.out).out.size; omega) (by have := (HU0.out.call U2.out.out).out.size; have := F3.out.below.size; have := U5.out.out.size; omega)).trans (h7.only.below (B := w.heap.size) (fun k hk => by have := M2.out _ hk; have := (HU0.out.call U2.out.out).out.size; omega) (by have := (HU0.out.call U2.out.out).out.size; have := F3.out.below.size; have := U5.out.out.size; have := Y6.out.only.size; omega)))))
       clear h7 hsep q0 q1 q2 q3 hc7)
    | (go_at_call 14; refine (sameWords_any (flatW T L) (flatW T L) _ _ _ _ _ C7.out D7.out (flatW_small T L (by have := (H2.out (by first | assumption | simpa using ‹¬ b2 = true›)).2; omega))).mono ?_; rintro e w8 ⟨rfl, hb8⟩; rw [decide_eq_true (rfl : flatW T L = flatW T L)]
       have B8 := Hid.mk hb8; clear hb8)
    | (go_at_call 15; refine (sameAtoms_any _ _ q _ _ _ _ (T7.out.up B8.out) (R7.out.up B8.out)).mono ?_; rintro e w9 ⟨rfl, hb9⟩
       have B9 := Hid.mk ((show Up w7 w8 from B8.out).call hb9)
       obtain ⟨⟨q0, q1, q2, q3⟩, _⟩ := kept4 BX7.out B9.out.out
       obtain ⟨⟨p0, p1, p2, p3⟩, _⟩ := kept4 X7.out B9.out.out
       clear hb9)
    | (go_at_call 16; refine (sameTerm_any T T _ _ _ _ _ (L7.out.below B9.out.out) (LT7.out.below B9.out.out)).mono ?_; rintro e w10 ⟨rfl, hb10⟩; rw [eqB_refl]
       have B10 := Hid.mk (B9.out.call hb10); clear hb10)
    | (go_at_call 17; refine (awake7_any _ ((HW0.out.1.below B7.out).below B10.out.out) ((HW0.out.2.below B7.out).below B10.out.out)).mono ?_; rintro e w11 ⟨rfl, hb11⟩
       have B11 := Hid.mk (B10.out.call hb11); clear hb11))
  all_goals go_ret
  all_goals first | exact ⟨rfl, B7.out.trans (B11.out.out.mono B7.out.size)⟩ | exact ⟨rfl, (HU0.out.call U2.out.out).out⟩ | exact ⟨rfl, HU0.out.out⟩
end Go.Proofs.YthkjdcmlalgphaaDoor
