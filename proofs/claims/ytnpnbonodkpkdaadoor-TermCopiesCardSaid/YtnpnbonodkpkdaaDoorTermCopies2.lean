/-
  TermCopies: what the statement says, of every input.
-/
import Derived.Test.YtnpnbonodkpkdaaDoorTermTurn
namespace Go.Proofs.YtnpnbonodkpkdaaDoor
open Go.RowKit Go.Deep

theorem Up.call0 {w W W' : World} {lo hi : Nat} (h : Up w W) (ho : Over lo hi W W') (hlo : w.heap.size ≤ lo) : Up w W' := h.out.trans (ho.below hlo h.out.size)

set_option maxRecDepth 100000 in
set_option maxHeartbeats 4000000 in
theorem lawCopies (T : Tm) (v : Value) (which : Int) (_n0 : -9223372036854775808 ≤ which) (_n1 : which ≤ 9223372036854775807) (w : World) (ht : ShapeTab w) (hv0 : Is w T v) :
    Calls Tryd.prog 8 #[v, .int .i64 which] w fun e w' => e = .returned (.bool true) ∧ Below w.heap.size w w' := by
  obtain ⟨k, m, z, a', m', cap', rfl⟩ := hv0.agg
  have hv := hv0.inside
  clear hv0
  obtain ⟨W0, hW0⟩ : ∃ W0, w.alloc (.cells #[.int .i64 k, .int .i64 m, .string z, .slice a' m' cap'] 24) = W0 := ⟨_, rfl⟩
  have hu0 : Up w W0 := by rw [← hW0]; exact (Up.refl w).alloc
  have hz0 : W0.heap.size = w.heap.size + 1 := by rw [← hW0]; simp
  have hbx : W0.heap[w.heap.size]? = some (.cells #[.int .i64 k, .int .i64 m, .string z, .slice a' m' cap'] 24) := by rw [← hW0]; exact new_block _ _
  have hv := Hid.mk (hv.below hu0.out)
  have ht0 := ht.below hu0.out
  have hk := Up.refl W0
  have hret : Hid (∀ W, Up W0 W → Below w.heap.size w W) := Hid.mk (fun W h => (hu0.call h.out).out)
  have hz0h := Hid.mk hz0
  have hW0' := Hid.mk hW0
  clear hW0 hz0
  go_enter Tryd.func8, Tryd.ntmps8
  go_upto_region 1 with fail
  rw [hW0'.out]
  go_upto_region 11 with (first
    | (go_at_call 6; refine (lawKnown _ (ht0.below hk.out)).mono ?_; rintro e w1 ⟨rfl, hb⟩; have hk := hk.call hb; obtain ⟨g0, g1, g2, g3⟩ := hk.four hbx)
    | (go_at_call 9; refine (largeTerm_any T _ _ 400 _ (hv.out.below hk.out) (by omega) (by omega)).mono ?_; rintro e w2 ⟨⟨b1, rfl, hA⟩, hb⟩; have hk := hk.call hb; obtain ⟨g0, g1, g2, g3⟩ := hk.four hbx; have hA := Hid.mk hA)
    | (go_at_call 10; have hb1 : b1 = false := (by first | assumption | simpa using ‹¬ b1 = true›); have hA2 := Hid.mk (hA.out hb1); have hz1 := hA2.out.2; refine (copyTerm_any T (by omega) _ _ _ (hv.out.below hk.out)).mono ?_; rintro e w3 ⟨⟨v3, rfl, own3⟩, hb⟩; obtain ⟨k3, n3, s3, a3, m3, c3, rfl⟩ := own3.is.agg; have own3 := Hid.mk own3; have hu2 := Hid.mk hk; have hk := hk.call hb)
    | (go_at_call 36; refine (copyC_any T (by omega) hA2.out.1 _ _ _ ((own3.out.lies).below ((Below.refl _ _).alloc (Nat.le_refl _) _))).mono ?_; rintro e w4 ⟨⟨v4, rfl, hL4⟩, hb⟩; obtain ⟨k4, n4, s4, a4, m4, c4, rfl⟩ := hL4.agg; have hb6 := (hb.block _ (by simp)).trans (new_block w3 _); have own4 := Hid.mk (Own.move T _ _ _ _ _ (Nat.le_refl _) (Nat.le_refl _) (fun k h1 h2 => (hb.block k (by simp; omega)).trans (Below.heap_alloc _ _ _ h2)) own3.out); have hk : Up W0 w4 := hk.alloc.call hb; have hL4 := Hid.mk hL4; have hz34 := hb.size; obtain ⟨g0, g1, g2, g3⟩ := (hk.alloc (o := .cells #[.int .i64 k4, .int .i64 n4, .string s4, .slice a4 m4 c4] 24)).four hbx)
    | (go_at_call 15; have hq := (Up.refl (w4.alloc (.cells #[.int .i64 k4, .int .i64 n4, .string s4, .slice a4 m4 c4] 24))); refine (sameSelf T (by omega) _ _ _ _ _ (hL4.out.below ((Below.refl _ _).alloc (Nat.le_refl _) _)) (hv.out.below hk.alloc.out)).mono ?_; rintro e w6 ⟨rfl, hb⟩; have hk := Hid.mk (hk.alloc.call hb); have hq := hq.call hb; have hb7 := (hb.block _ (by simp)).trans (new_block w4 _); have hb6 := (hb.block _ (by simp; have := (Array.getElem?_eq_some_iff.1 hb6).1; omega)).trans ((Below.heap_alloc _ _ _ (Array.getElem?_eq_some_iff.1 hb6).1).trans hb6); have hL4 := Hid.mk ((hL4.out.below ((Below.refl _ _).alloc (Nat.le_refl _) (.cells #[.int .i64 k4, .int .i64 n4, .string s4, .slice a4 m4 c4] 24))).below hb); have own4 := Hid.mk (Own.move T _ _ _ _ _ (Nat.le_refl _) (Nat.le_refl _) (fun k h1 h2 => (hb.block k (by simp at hz34 ⊢; omega)).trans (Below.heap_alloc _ _ _ (by simp at hz34; omega))) own4.out); obtain ⟨g0, g1, g2, g3⟩ := hk.out.four hbx; obtain ⟨q0, q1, q2, q3⟩ := (Up.refl w6).four hb7)
    | (go_at_call 17; have gg := mo; refine (sameTermSelf T _ _ _ _ _ hL4.out (hv.out.below hk.out.out)).mono ?_; rintro e w9 ⟨rfl, hb⟩; have hk := Hid.mk (hk.out.call hb); have hb7 := (hb.block _ (Array.getElem?_eq_some_iff.1 hb7).1).trans hb7; have hL4 := Hid.mk (hL4.out.below hb); have m9 := True.intro)
    | (go_at_call 17; refine (sameTermSelf T _ _ _ _ _ hL4.out (hv.out.below hk.out.out)).mono ?_; rintro e w7 ⟨rfl, hb⟩; have hk := Hid.mk (hk.out.call hb); have hb7 := (hb.block _ (Array.getElem?_eq_some_iff.1 hb7).1).trans hb7; have own4 := Hid.mk (Own.move T _ _ _ _ _ (Nat.le_refl _) (Nat.le_refl _) (fun k h1 h2 => hb.block k (by have := (Array.getElem?_eq_some_iff.1 hb6).1; omega)) own4.out); have hb6 := (hb.block _ (Array.getElem?_eq_some_iff.1 hb6).1).trans hb6; have hL4 := Hid.mk (hL4.out.below hb); obtain ⟨g0, g1, g2, g3⟩ := hk.out.four hbx; obtain ⟨q0, q1, q2, q3⟩ := (Up.refl w7).four hb7; obtain ⟨r0, r1, r2, r3⟩ := (Up.refl w7).four hb6)
    | (go_at_call 37; have hs6 := (Array.getElem?_eq_some_iff.1 hb6).1; have hs7 := (Array.getElem?_eq_some_iff.1 hb7).1; refine (overTerm_any T w2.heap.size w3.heap.size _ w7 (by omega) own4.out).mono ?_; rintro e w8 ⟨⟨u8, rfl⟩, ho⟩; have hs8 := ho.size; have hk := Hid.mk (hk.out.call0 ho (by have := hu2.out.out.size; omega)); have hb7 := (ho.block _ hs7 (by simp at hz34; omega)).trans hb7; have hL4 := Hid.mk (is_after hL4.out (fun k h1 h2 => ho.block k h2 (by have h1' : (w3.alloc (.cells #[.int .i64 k3, .int .i64 n3, .string s3, .slice a3 m3 c3] 24)).heap.size ≤ k := h1; simp at h1'; omega))); have mo := True.intro; obtain ⟨g0, g1, g2, g3⟩ := hk.out.four hbx; obtain ⟨q0, q1, q2, q3⟩ := (Up.refl w8).four hb7))
  · go_wp2
    go_ret
    exact ⟨rfl, hret.out _ hk⟩
  have hk := hk.out
  have hz1 := hA2.out.2
  have hTp := T.size_pos
  have hpt := Hid.mk (fun W hW => parts_any T _ _ 400 W (hv.out.below (hk.call hW).out) (by omega) (by omega))
  have hcnt : cnt T.size 400 = T.size := by unfold cnt; omega
  rw [hcnt] at hpt
  clear hcnt
  have e7 := hb7
  have e2 := (hk.out.block _ (Array.getElem?_eq_some_iff.1 hbx).1).trans hbx
  have hL4 := Hid.mk hL4.out
  clear hb6 own4 own3 hz34 hs6 hs7 hs8 hb hu2 ho hA g0 g1 g2 g3 q0 q1 q2 q3
  go_cut [8] (fun s8 wx => (∃ T', T' ≠ T ∧ T'.size = T.size ∧ Var wx T' w9.heap.size s8) ∧ Up w9 wx)
  case first =>
    refine wp_region_held (S := Up w9) (by kernel_rfl) ?_
    refine wpAnyH_take (i := 0) (v := .agg #[.int .i64 k4, .int .i64 n4, .string s4, .slice a4 m4 c4]) rfl (by kernel_rfl) (by kernel_rfl) (by kernel_rfl) (fun _ _ _ h => h) (Or.inl ⟨by rfl, fun W h => (by obtain ⟨q0, q1, q2, q3⟩ := h.four e7; go_simp)⟩) (Up.refl w9).drew ?_
    refine wpAnyH_take (i := 1) (v := .int .i64 which) rfl (by kernel_rfl) (by kernel_rfl) (by kernel_rfl) (fun _ _ _ h => h) (Or.inl ⟨by rfl, fun _ _ => rfl⟩) (Up.refl w9).drew ?_
    refine wpAnyH_take (i := 2) (v := .agg #[.int .i64 k, .int .i64 m, .string z, .slice a' m' cap']) rfl (by kernel_rfl) (by kernel_rfl) (by kernel_rfl) (fun _ _ _ h => h) (Or.inl ⟨by rfl, fun W h => (by obtain ⟨q0, q1, q2, q3⟩ := h.four e2; go_simp)⟩) (Up.refl w9).drew ?_
    refine wpAnyH_floats [3, 4, 5] [7] [⟨6, 8, zeroTerm⟩] (by kernel_rfl) ?_ (Up.refl w9).drew ?_
    · intro f hf
      obtain rfl := List.mem_singleton.1 hf
      exact flo_term rfl
    refine ⟨_, _, _, rfl, rfl, fun W => (by go_simp; exact ⟨rfl, rfl⟩), fun W1 hW1 => ?_⟩
    have hu1 : Up w9 W1 := (Up.refl w9).drew.out.trans hW1
    refine (hpt.out W1 hu1).mono ?_
    rintro e x1 ⟨rfl, hb1⟩
    refine ⟨_, rfl, hb1, ?_⟩
    refine ⟨_, _, _, rfl, rfl, fun W => (by go_simp; exact ⟨rfl, rfl⟩), fun W2 hW2 => ?_⟩
    refine (pick_any which T.size W2 (by omega) (by omega)).mono ?_
    rintro e x2 ⟨y, rfl, hy0, hy1, rfl⟩
    have hu2 : Up w9 W2 := (hu1.call hb1).call hW2
    refine ⟨_, rfl, Below.refl _ _, ?_⟩
    refine ⟨_, _, _, rfl, rfl, fun W => (by go_simp; exact ⟨rfl, rfl⟩), fun W3 hW3 => ?_⟩
    have hu3 : Up w9 W3 := hu2.call hW3
    refine (turned_any T y (fun b => b < w9.heap.size) _ W3 (by omega) hy0 hy1 ((hL4.out.inside.wider (fun b hb => hb.2)).below hu3.out)).mono ?_
    rintro e x3 ⟨⟨T', ⟨v3', rfl, hL5⟩, hne, hsz⟩, hb3⟩
    obtain ⟨k5, n5, s5, a5, m5, c5, rfl⟩ := hL5.agg
    refine ⟨_, rfl, hb3, ?_⟩
    intro bs w10 hw10 hbs _
    obtain ⟨l0, b0, h0⟩ := hbs _ List.mem_cons_self
    clear hbs
    obtain ⟨⟨q0, q1, q2, q3⟩, f0, f1, f2, f3⟩ := kept4 h0 (Below.refl _ _)
    simp only [putsF, List.foldl, putF]
    dsimp only at l0 b0 h0 q0 q1 q2 q3 f0 f1 f2 f3
    generalize bs 6 = B0 at *
    have hu10 : Up w9 w10 := (hu3.call hb3).call hw10
    refine zrun_step rfl rfl (by go_simp; rfl) (Below.set4 hu10.out l0) ?_
    unfold zrun
    go_wp2_with fail
    go_meet
    have z3 := hb3.size
    have z10 := hw10.size
    refine ⟨⟨T', hne, hsz, B0, _, _, _, _, rfl, l0, set4_block h0, is_after hL5 (fun k g1 g2 => ?_)⟩, Below.set4 hu10.out l0⟩
    have hkb : k ≠ B0 := fun e => by
      subst e
      rcases g1 with g1 | g1
      · omega
      · exact b0 (Or.inr ⟨g1, g2⟩)
    rw [set4_heap _ _ _ _ _ _ _ hkb, hw10.block k g2]
  case rest =>
    obtain ⟨⟨T', hne, hsz, B0, k5, n5, s5, sl5, rfl, l0, h0, i0⟩, hup⟩ := hcut
    obtain ⟨_, _, _, a5, m5, c5, e3⟩ := i0.agg
    obtain rfl : sl5 = .slice a5 m5 c5 := by simp only [Value.agg.injEq, Array.mk.injEq, List.cons.injEq, and_true] at e3; exact e3.2.2.2
    clear e3
    have hkc := hk.call hup.out
    obtain ⟨q0, q1, q2, q3⟩ := (Up.refl wc).four h0
    obtain ⟨g0, g1, g2, g3⟩ := hkc.four hbx
    have hsm := Hid.mk (sameP_any T' T (by omega) _ _ _ _ wc i0 (hv.out.below hkc.out))
    rw [eqB_no hne] at hsm
    go_wp2_with (go_at_call 15; refine hsm.out.mono ?_; rintro e w12 ⟨rfl, hb⟩; have hkc := hkc.call hb)
    go_ret
    exact ⟨rfl, hret.out _ hkc⟩

end Go.Proofs.YtnpnbonodkpkdaaDoor
