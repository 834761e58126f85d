/-
  OrderTotal: what the statement says, of every input.
-/
import Derived.Test.YtabcekeeekbdiaaDoorOrdKnownD
import Derived.Test.YtabcekeeekbdiaaDoorRegionUp
import Derived.Test.YtabcekeeekbdiaaDoorTermSameP
namespace Go.Proofs.YtabcekeeekbdiaaDoor
open Go.RowKit Go.Deep

theorem check_fit {T : Tm} (h : T.fits = false) : (T.check == 2) = true := by
  rw [Tm.check, fits_pre, h]
  rfl
theorem check_fits {T : Tm} (h : T.check = 0) : T.fits = true := by
  cases hf : T.fits with
  | true => rfl
  | false => have := check_fit hf; rw [h] at this; cases this
theorem same_cmp {T U : Tm} (hT : T.check = 0) (hU : U.check = 0) : ((T.cmp U == 0) != eqB T U) = false := by
  by_cases h : T = U
  · subst h
    rw [cmp_refl, eqB_refl]; rfl
  · have h1 : T.cmp U ≠ 0 := fun h0 => h (cmp_zero T U (check_fits hT) (check_fits hU) h0)
    have e1 : (T.cmp U == 0) = false := by simpa using h1
    have e2 : eqB T U = false := by
      cases hb : eqB T U with
      | false => rfl
      | true => exact absurd (eqB_iff.1 hb) h
    rw [e1, e2]; rfl

set_option maxRecDepth 100000 in
set_option maxHeartbeats 8000000 in
theorem lawTotal (T U V : Tm) (w : World) (ht0 : ShapeTab w) (v0 v1 v2 : Value) (hv0 : Is w T v0) (hu0 : Is w U v1) (hx0 : Is w V v2) :
    Calls Tryd.prog 3 #[v0, v1, v2] w fun e w' => e = .returned (.bool true) ∧ Below w.heap.size w w' := by
  obtain ⟨k0, n0, s0, a0, m0, c0, rfl⟩ := hv0.agg
  obtain ⟨k1, n1, s1, a1, m1, c1, rfl⟩ := hu0.agg
  obtain ⟨k2, n2, s2, a2, m2, c2, rfl⟩ := hx0.agg
  obtain ⟨W0, hW0⟩ : ∃ W0, ((w.alloc (.cells #[.int .i64 k0, .int .i64 n0, .string s0, .slice a0 m0 c0] 24)).alloc (.cells #[.int .i64 k1, .int .i64 n1, .string s1, .slice a1 m1 c1] 24)).alloc (.cells #[.int .i64 k2, .int .i64 n2, .string s2, .slice a2 m2 c2] 24) = W0 := ⟨_, rfl⟩
  have h0 : Up w W0 := by rw [← hW0]; exact (Up.refl w).alloc.alloc.alloc
  have b0 : W0.heap[w.heap.size]? = some (.cells #[.int .i64 k0, .int .i64 n0, .string s0, .slice a0 m0 c0] 24) := by rw [← hW0]; exact ((Up.refl _).alloc.out.block _ (by simp; omega)).trans (new_block1 w _ _)
  have b1 : W0.heap[w.heap.size + 1]? = some (.cells #[.int .i64 k1, .int .i64 n1, .string s1, .slice a1 m1 c1] 24) := by rw [← hW0]; exact ((Up.refl _).alloc.out.block _ (by simp)).trans (new_block2 w _ _)
  have b2 : W0.heap[w.heap.size + 1 + 1]? = some (.cells #[.int .i64 k2, .int .i64 n2, .string s2, .slice a2 m2 c2] 24) := by rw [← hW0]; have := new_block ((w.alloc (.cells #[.int .i64 k0, .int .i64 n0, .string s0, .slice a0 m0 c0] 24)).alloc (.cells #[.int .i64 k1, .int .i64 n1, .string s1, .slice a1 m1 c1] 24)) (.cells #[.int .i64 k2, .int .i64 n2, .string s2, .slice a2 m2 c2] 24); simpa using this
  have hv := Hid.mk (fun (W : World) (hW : Up W0 W) => (hv0.below h0.out).below hW.out)
  have hu := Hid.mk (fun (W : World) (hW : Up W0 W) => (hu0.below h0.out).below hW.out)
  have hx := Hid.mk (fun (W : World) (hW : Up W0 W) => (hx0.below h0.out).below hW.out)
  have ht := Hid.mk (fun (W : World) (hW : Up W0 W) => (ht0.below h0.out).below hW.out)
  clear hv0 hu0 hx0 ht0
  go_enter Tryd.func3, Tryd.ntmps3
  go_upto_region 4 with (first
    | (go_at_call 4; refine (lawKnown3 _).mono ?_; rintro e w1 ⟨rfl, hb1⟩; have u1 : Up W0 w1 := hb1; obtain ⟨⟨qa0, qa1, qa2, qa3⟩, _⟩ := kept4 b0 u1.out; obtain ⟨⟨qb0, qb1, qb2, qb3⟩, _⟩ := kept4 b1 u1.out; obtain ⟨⟨qc0, qc1, qc2, qc3⟩, _⟩ := kept4 b2 u1.out)
    | (go_at_call 5; have g := t3; refine (largeTerm_any V _ _ 300 _ (hx.out _ u3) (by omega) (by omega)).mono ?_; rintro e w4 ⟨⟨d3, rfl, hD3⟩, hb⟩; have u4 : Up W0 w4 := u3.call hb; have hD3 := Hid.mk hD3; clear qa0 qa1 qa2 qa3 qb0 qb1 qb2 qb3 qc0 qc1 qc2 qc3; obtain ⟨⟨qa0, qa1, qa2, qa3⟩, _⟩ := kept4 b0 u4.out; obtain ⟨⟨qb0, qb1, qb2, qb3⟩, _⟩ := kept4 b1 u4.out; obtain ⟨⟨qc0, qc1, qc2, qc3⟩, _⟩ := kept4 b2 u4.out)
    | (go_at_call 5; have g := t2; refine (largeTerm_any U _ _ 300 _ (hu.out _ u2) (by omega) (by omega)).mono ?_; rintro e w3 ⟨⟨d2, rfl, hD2⟩, hb⟩; have u3 : Up W0 w3 := u2.call hb; have hD2 := Hid.mk hD2; clear qa0 qa1 qa2 qa3 qb0 qb1 qb2 qb3 qc0 qc1 qc2 qc3; obtain ⟨⟨qa0, qa1, qa2, qa3⟩, _⟩ := kept4 b0 u3.out; obtain ⟨⟨qb0, qb1, qb2, qb3⟩, _⟩ := kept4 b1 u3.out; obtain ⟨⟨qc0, qc1, qc2, qc3⟩, _⟩ := kept4 b2 u3.out; clear t2; have t3 := True.intro)
    | (go_at_call 5; refine (largeTerm_any T _ _ 300 _ (hv.out _ u1) (by omega) (by omega)).mono ?_; rintro e w2 ⟨⟨d1, rfl, hD1⟩, hb⟩; have u2 : Up W0 w2 := u1.call hb; have hD1 := Hid.mk hD1; clear qa0 qa1 qa2 qa3 qb0 qb1 qb2 qb3 qc0 qc1 qc2 qc3; obtain ⟨⟨qa0, qa1, qa2, qa3⟩, _⟩ := kept4 b0 u2.out; obtain ⟨⟨qb0, qb1, qb2, qb3⟩, _⟩ := kept4 b1 u2.out; obtain ⟨⟨qc0, qc1, qc2, qc3⟩, _⟩ := kept4 b2 u2.out; have t2 := True.intro))
  · go_ret
    exact ⟨rfl, (h0.call u2.out).out⟩
  · go_ret
    exact ⟨rfl, (h0.call u3.out).out⟩
  · go_ret
    exact ⟨rfl, (h0.call u4.out).out⟩
  have hd1 : d1 = false := by first | assumption | simpa using ‹¬ d1 = true›
  have hd2 : d2 = false := by first | assumption | simpa using ‹¬ d2 = true›
  have hs1 := (hD1.out hd1).2
  have hs2 := (hD2.out hd2).2
  have hsT : Hid (T.size ≤ 1000000) := Hid.mk (by omega)
  have hsU : Hid (U.size ≤ 1000000) := Hid.mk (by omega)
  have hend := Hid.mk (fun (W : World) (hW : Up W0 W) => h0.call hW.out)
  have h03 : ∀ d3 : Bool, d3 = d3 := fun _ => rfl
  clear hD1 hD2 hD3 hs1 hs2 h03 qa0 qa1 qa2 qa3 qb0 qb1 qb2 qb3 qc0 qc1 qc2 qc3
  have e0 := (u4.out.block _ (Array.getElem?_eq_some_iff.1 b0).1).trans b0
  have e1 := (u4.out.block _ (Array.getElem?_eq_some_iff.1 b1).1).trans b1
  have e2 := (u4.out.block _ (Array.getElem?_eq_some_iff.1 b2).1).trans b2
  have hx1 := cmp_one T U
  have htri := cmp_tri T U V
  have hneg := Hid.mk (cmp_neg T U)
  have hsc := Hid.mk (fun (h1 : T.check = 0) (h2 : U.check = 0) => same_cmp h1 h2)
  have hcx := Hid.mk (fun (W : World) (hW : Up W0 W) => compare_any T U _ _ _ _ W (hv.out W hW) (hu.out W hW))
  have hcy := Hid.mk (fun (W : World) (hW : Up W0 W) => compare_any U V _ _ _ _ W (hu.out W hW) (hx.out W hW))
  have hcz := Hid.mk (fun (W : World) (hW : Up W0 W) => compare_any T V _ _ _ _ W (hv.out W hW) (hx.out W hW))
  have hcn := Hid.mk (fun (W : World) (hW : Up W0 W) => compare_any U T _ _ _ _ W (hu.out W hW) (hv.out W hW))
  have hcs := Hid.mk (fun (W : World) (hW : Up W0 W) => cmpLit_any T T 0 (cmp_refl T) _ _ _ _ W (hv.out W hW) (hv.out W hW))
  rw [hneg.out] at hcn
  generalize T.cmp U = x at hx1 htri hneg hsc hcx hcn
  generalize U.cmp V = y at htri hcy
  generalize T.cmp V = z at htri hcz
  unfold One at hx1
  unfold Tri at htri
  refine region_up (W := w4) (by kernel_rfl) (by kernel_rfl) (Up.refl _) ?_
  refine quiet_value (v := .agg #[.int .i64 k0, .int .i64 n0, .string s0, .slice a0 m0 c0]) rfl (fun W h => (by obtain ⟨q0, q1, q2, q3⟩ := h.four e0; go_simp)) ?_
  simp only [Act.put, List.setIfInBounds_toArray, List.set_cons_zero, List.set_cons_succ]
  refine quiet_value (v := .agg #[.int .i64 k1, .int .i64 n1, .string s1, .slice a1 m1 c1]) rfl (fun W h => (by obtain ⟨q0, q1, q2, q3⟩ := h.four e1; go_simp)) ?_
  simp only [Act.put, List.setIfInBounds_toArray, List.set_cons_zero, List.set_cons_succ]
  refine quiet_call (v := .int .i64 x) rfl (fun W => (by go_simp)) (fun W h => (hcx.out W (u4.call h.out)).mono fun e w' ⟨he, hb⟩ => ⟨he, h.call hb⟩) ?_
  simp only [Act.put, List.setIfInBounds_toArray, List.set_cons_zero, List.set_cons_succ]
  refine quiet_value (v := .agg #[.int .i64 k1, .int .i64 n1, .string s1, .slice a1 m1 c1]) rfl (fun W h => (by obtain ⟨q0, q1, q2, q3⟩ := h.four e1; go_simp)) ?_
  simp only [Act.put, List.setIfInBounds_toArray, List.set_cons_zero, List.set_cons_succ]
  refine quiet_value (v := .agg #[.int .i64 k2, .int .i64 n2, .string s2, .slice a2 m2 c2]) rfl (fun W h => (by obtain ⟨q0, q1, q2, q3⟩ := h.four e2; go_simp)) ?_
  simp only [Act.put, List.setIfInBounds_toArray, List.set_cons_zero, List.set_cons_succ]
  refine quiet_call (v := .int .i64 y) rfl (fun W => (by go_simp)) (fun W h => (hcy.out W (u4.call h.out)).mono fun e w' ⟨he, hb⟩ => ⟨he, h.call hb⟩) ?_
  simp only [Act.put, List.setIfInBounds_toArray, List.set_cons_zero, List.set_cons_succ]
  refine quiet_value (v := .agg #[.int .i64 k0, .int .i64 n0, .string s0, .slice a0 m0 c0]) rfl (fun W h => (by obtain ⟨q0, q1, q2, q3⟩ := h.four e0; go_simp)) ?_
  simp only [Act.put, List.setIfInBounds_toArray, List.set_cons_zero, List.set_cons_succ]
  refine quiet_value (v := .agg #[.int .i64 k2, .int .i64 n2, .string s2, .slice a2 m2 c2]) rfl (fun W h => (by obtain ⟨q0, q1, q2, q3⟩ := h.four e2; go_simp)) ?_
  simp only [Act.put, List.setIfInBounds_toArray, List.set_cons_zero, List.set_cons_succ]
  refine quiet_call (v := .int .i64 z) rfl (fun W => (by go_simp)) (fun W h => (hcz.out W (u4.call h.out)).mono fun e w' ⟨he, hb⟩ => ⟨he, h.call hb⟩) ?_
  simp only [Act.put, List.setIfInBounds_toArray, List.set_cons_zero, List.set_cons_succ]
  refine quiet_value (v := .int .i64 x) rfl (fun _ _ => rfl) ?_
  simp only [Act.put, List.setIfInBounds_toArray, List.set_cons_zero, List.set_cons_succ]
  refine quiet_value (v := .int .i64 y) rfl (fun _ _ => rfl) ?_
  simp only [Act.put, List.setIfInBounds_toArray, List.set_cons_zero, List.set_cons_succ]
  refine quiet_value (v := .int .i64 z) rfl (fun _ _ => rfl) ?_
  simp only [Act.put, List.setIfInBounds_toArray, List.set_cons_zero, List.set_cons_succ]
  refine quiet_nil ?_
  intro w5 hw5
  have u5 : Up W0 w5 := u4.call hw5.out
  obtain ⟨⟨qa0, qa1, qa2, qa3⟩, _⟩ := kept4 b0 u5.out; obtain ⟨⟨qb0, qb1, qb2, qb3⟩, _⟩ := kept4 b1 u5.out; obtain ⟨⟨qc0, qc1, qc2, qc3⟩, _⟩ := kept4 b2 u5.out
  have hpq : (¬ x ≤ 0) ∨ (x ≤ 0 ∧ ¬ y ≤ 0) ∨ (x ≤ 0 ∧ y ≤ 0 ∧ z < 0) ∨ (x = 0 ∧ y = 0 ∧ z = 0) := by omega
  have hxr : -1 ≤ x ∧ x ≤ 1 := by omega
  have hrest : Hid ((x = 0) ∨ (x ≠ 0)) := Hid.mk (by omega)
  clear htri hx1
  have g1 : decide (x ≥ -1) = true := by simp; omega
  have g2 : decide (x ≤ 1) = true := by simp; omega
  rcases hpq with p1 | ⟨p1, p2⟩ | ⟨p1, p2, p3⟩ | ⟨rfl, rfl, rfl⟩
  · have f1 : decide (x ≤ 0) = false := by simp; omega
    have tk := True.intro
    obtain ⟨y1, hy1⟩ : ∃ b : Bool, (T.check == 0) = b := ⟨_, rfl⟩
    obtain ⟨y2, hy2⟩ : ∃ b : Bool, (U.check == 0) = b := ⟨_, rfl⟩
    have hk1 := Hid.mk (fun (W : World) (hW : Up W0 W) => checkI_any T hsT.out _ _ W (hv.out W hW) (ht.out W hW))
    have hk2 := Hid.mk (fun (W : World) (hW : Up W0 W) => checkI_any U hsU.out _ _ W (hu.out W hW) (ht.out W hW))
    have hsm := Hid.mk (fun (W : World) (hW : Up W0 W) => sameP_any T U hsT.out _ _ _ _ W (hv.out W hW) (hu.out W hW))
    have hsc2 := Hid.mk (fun (h1 : y1 = true) (h2 : y2 = true) => hsc.out (by simpa using hy1.trans h1) (by simpa using hy2.trans h2))
    generalize T.check = r1 at hk1 hy1 hsc
    generalize U.check = r2 at hk2 hy2 hsc
    generalize eqB T U = eb at hsm hsc2 hsc
    clear hsc
    go_upto_region 7 with (first
      | (go_at_call 6; have g := tc; refine (hcs.out _ u6).mono ?_; rintro e w7 ⟨rfl, hb7⟩; have u7 : Up W0 w7 := u6.call hb7; obtain ⟨⟨qa0, qa1, qa2, qa3⟩, _⟩ := kept4 b0 u7.out; obtain ⟨⟨qb0, qb1, qb2, qb3⟩, _⟩ := kept4 b1 u7.out; obtain ⟨⟨qc0, qc1, qc2, qc3⟩, _⟩ := kept4 b2 u7.out)
      | (go_at_call 6; refine (hcn.out _ u5).mono ?_; rintro e w6 ⟨rfl, hb6⟩; have u6 : Up W0 w6 := u5.call hb6; obtain ⟨⟨qa0, qa1, qa2, qa3⟩, _⟩ := kept4 b0 u6.out; obtain ⟨⟨qb0, qb1, qb2, qb3⟩, _⟩ := kept4 b1 u6.out; obtain ⟨⟨qc0, qc1, qc2, qc3⟩, _⟩ := kept4 b2 u6.out; have tc := True.intro))
    have hsc3 := hsc2.out
    clear hsc2
    obtain ⟨⟨qa0, qa1, qa2, qa3⟩, _⟩ := kept4 b0 u7.out; obtain ⟨⟨qb0, qb1, qb2, qb3⟩, _⟩ := kept4 b1 u7.out; obtain ⟨⟨qc0, qc1, qc2, qc3⟩, _⟩ := kept4 b2 u7.out
    cases y1 with
    | false =>
      go_wp2_with (go_at_call 7; refine (hk1.out _ u7).mono ?_; rintro e w8 ⟨rfl, hb8⟩; have u8 : Up W0 w8 := u7.call hb8)
      go_ret
      exact ⟨rfl, (hend.out _ u8).out⟩
    | true =>
      cases y2 with
      | false =>
        go_wp2_with (first
          | (go_at_call 7; have g := tk1; refine (hk2.out _ u8).mono ?_; rintro e w9 ⟨rfl, hb9⟩; have u9 : Up W0 w9 := u8.call hb9)
          | (go_at_call 7; refine (hk1.out _ u7).mono ?_; rintro e w8 ⟨rfl, hb8⟩; have u8 : Up W0 w8 := u7.call hb8; obtain ⟨⟨qa0, qa1, qa2, qa3⟩, _⟩ := kept4 b0 u8.out; obtain ⟨⟨qb0, qb1, qb2, qb3⟩, _⟩ := kept4 b1 u8.out; obtain ⟨⟨qc0, qc1, qc2, qc3⟩, _⟩ := kept4 b2 u8.out; have tk1 := True.intro))
        go_ret
        exact ⟨rfl, (hend.out _ u9).out⟩
      | true =>
        obtain ⟨bx, hbx⟩ : ∃ b : Bool, ((x : Int) == 0) = b := ⟨_, rfl⟩
        have hne := hsc3 rfl rfl
        clear hsc3
        rw [hbx] at hne
        obtain rfl : eb = bx := by cases eb <;> cases bx <;> first | rfl | cases hne
        clear hne
        go_wp2_with (first
          | (go_at_call 7; have g := tk1; refine (hk2.out _ u8).mono ?_; rintro e w9 ⟨rfl, hb9⟩; have u9 : Up W0 w9 := u8.call hb9; obtain ⟨⟨qa0, qa1, qa2, qa3⟩, _⟩ := kept4 b0 u9.out; obtain ⟨⟨qb0, qb1, qb2, qb3⟩, _⟩ := kept4 b1 u9.out; obtain ⟨⟨qc0, qc1, qc2, qc3⟩, _⟩ := kept4 b2 u9.out)
          | (go_at_call 7; refine (hk1.out _ u7).mono ?_; rintro e w8 ⟨rfl, hb8⟩; have u8 : Up W0 w8 := u7.call hb8; obtain ⟨⟨qa0, qa1, qa2, qa3⟩, _⟩ := kept4 b0 u8.out; obtain ⟨⟨qb0, qb1, qb2, qb3⟩, _⟩ := kept4 b1 u8.out; obtain ⟨⟨qc0, qc1, qc2, qc3⟩, _⟩ := kept4 b2 u8.out; have tk1 := True.intro)
          | (go_at_call 8; refine (hsm.out _ u9).mono ?_; rintro e w10 ⟨rfl, hb10⟩; have u10 : Up W0 w10 := u9.call hb10))
        go_ret
        exact ⟨rfl, (hend.out _ u10).out⟩
  · have f1 : decide (x ≤ 0) = true := by simp; omega
    have f2 : decide (y ≤ 0) = false := by simp; omega
    have tk := True.intro
    obtain ⟨y1, hy1⟩ : ∃ b : Bool, (T.check == 0) = b := ⟨_, rfl⟩
    obtain ⟨y2, hy2⟩ : ∃ b : Bool, (U.check == 0) = b := ⟨_, rfl⟩
    have hk1 := Hid.mk (fun (W : World) (hW : Up W0 W) => checkI_any T hsT.out _ _ W (hv.out W hW) (ht.out W hW))
    have hk2 := Hid.mk (fun (W : World) (hW : Up W0 W) => checkI_any U hsU.out _ _ W (hu.out W hW) (ht.out W hW))
    have hsm := Hid.mk (fun (W : World) (hW : Up W0 W) => sameP_any T U hsT.out _ _ _ _ W (hv.out W hW) (hu.out W hW))
    have hsc2 := Hid.mk (fun (h1 : y1 = true) (h2 : y2 = true) => hsc.out (by simpa using hy1.trans h1) (by simpa using hy2.trans h2))
    generalize T.check = r1 at hk1 hy1 hsc
    generalize U.check = r2 at hk2 hy2 hsc
    generalize eqB T U = eb at hsm hsc2 hsc
    clear hsc
    go_upto_region 7 with (first
      | (go_at_call 6; have g := tc; refine (hcs.out _ u6).mono ?_; rintro e w7 ⟨rfl, hb7⟩; have u7 : Up W0 w7 := u6.call hb7; obtain ⟨⟨qa0, qa1, qa2, qa3⟩, _⟩ := kept4 b0 u7.out; obtain ⟨⟨qb0, qb1, qb2, qb3⟩, _⟩ := kept4 b1 u7.out; obtain ⟨⟨qc0, qc1, qc2, qc3⟩, _⟩ := kept4 b2 u7.out)
      | (go_at_call 6; refine (hcn.out _ u5).mono ?_; rintro e w6 ⟨rfl, hb6⟩; have u6 : Up W0 w6 := u5.call hb6; obtain ⟨⟨qa0, qa1, qa2, qa3⟩, _⟩ := kept4 b0 u6.out; obtain ⟨⟨qb0, qb1, qb2, qb3⟩, _⟩ := kept4 b1 u6.out; obtain ⟨⟨qc0, qc1, qc2, qc3⟩, _⟩ := kept4 b2 u6.out; have tc := True.intro))
    have hsc3 := hsc2.out
    clear hsc2
    obtain ⟨⟨qa0, qa1, qa2, qa3⟩, _⟩ := kept4 b0 u7.out; obtain ⟨⟨qb0, qb1, qb2, qb3⟩, _⟩ := kept4 b1 u7.out; obtain ⟨⟨qc0, qc1, qc2, qc3⟩, _⟩ := kept4 b2 u7.out
    cases y1 with
    | false =>
      go_wp2_with (go_at_call 7; refine (hk1.out _ u7).mono ?_; rintro e w8 ⟨rfl, hb8⟩; have u8 : Up W0 w8 := u7.call hb8)
      go_ret
      exact ⟨rfl, (hend.out _ u8).out⟩
    | true =>
      cases y2 with
      | false =>
        go_wp2_with (first
          | (go_at_call 7; have g := tk1; refine (hk2.out _ u8).mono ?_; rintro e w9 ⟨rfl, hb9⟩; have u9 : Up W0 w9 := u8.call hb9)
          | (go_at_call 7; refine (hk1.out _ u7).mono ?_; rintro e w8 ⟨rfl, hb8⟩; have u8 : Up W0 w8 := u7.call hb8; obtain ⟨⟨qa0, qa1, qa2, qa3⟩, _⟩ := kept4 b0 u8.out; obtain ⟨⟨qb0, qb1, qb2, qb3⟩, _⟩ := kept4 b1 u8.out; obtain ⟨⟨qc0, qc1, qc2, qc3⟩, _⟩ := kept4 b2 u8.out; have tk1 := True.intro))
        go_ret
        exact ⟨rfl, (hend.out _ u9).out⟩
      | true =>
        obtain ⟨bx, hbx⟩ : ∃ b : Bool, ((x : Int) == 0) = b := ⟨_, rfl⟩
        have hne := hsc3 rfl rfl
        clear hsc3
        rw [hbx] at hne
        obtain rfl : eb = bx := by cases eb <;> cases bx <;> first | rfl | cases hne
        clear hne
        go_wp2_with (first
          | (go_at_call 7; have g := tk1; refine (hk2.out _ u8).mono ?_; rintro e w9 ⟨rfl, hb9⟩; have u9 : Up W0 w9 := u8.call hb9; obtain ⟨⟨qa0, qa1, qa2, qa3⟩, _⟩ := kept4 b0 u9.out; obtain ⟨⟨qb0, qb1, qb2, qb3⟩, _⟩ := kept4 b1 u9.out; obtain ⟨⟨qc0, qc1, qc2, qc3⟩, _⟩ := kept4 b2 u9.out)
          | (go_at_call 7; refine (hk1.out _ u7).mono ?_; rintro e w8 ⟨rfl, hb8⟩; have u8 : Up W0 w8 := u7.call hb8; obtain ⟨⟨qa0, qa1, qa2, qa3⟩, _⟩ := kept4 b0 u8.out; obtain ⟨⟨qb0, qb1, qb2, qb3⟩, _⟩ := kept4 b1 u8.out; obtain ⟨⟨qc0, qc1, qc2, qc3⟩, _⟩ := kept4 b2 u8.out; have tk1 := True.intro)
          | (go_at_call 8; refine (hsm.out _ u9).mono ?_; rintro e w10 ⟨rfl, hb10⟩; have u10 : Up W0 w10 := u9.call hb10))
        go_ret
        exact ⟨rfl, (hend.out _ u10).out⟩
  · have f1 : decide (x ≤ 0) = true := by simp; omega
    have f2 : decide (y ≤ 0) = true := by simp; omega
    have f3 : decide (z > 0) = false := by simp; omega
    have f4 : (z == 0) = false := by simp; omega
    have tk := True.intro
    obtain ⟨y1, hy1⟩ : ∃ b : Bool, (T.check == 0) = b := ⟨_, rfl⟩
    obtain ⟨y2, hy2⟩ : ∃ b : Bool, (U.check == 0) = b := ⟨_, rfl⟩
    have hk1 := Hid.mk (fun (W : World) (hW : Up W0 W) => checkI_any T hsT.out _ _ W (hv.out W hW) (ht.out W hW))
    have hk2 := Hid.mk (fun (W : World) (hW : Up W0 W) => checkI_any U hsU.out _ _ W (hu.out W hW) (ht.out W hW))
    have hsm := Hid.mk (fun (W : World) (hW : Up W0 W) => sameP_any T U hsT.out _ _ _ _ W (hv.out W hW) (hu.out W hW))
    have hsc2 := Hid.mk (fun (h1 : y1 = true) (h2 : y2 = true) => hsc.out (by simpa using hy1.trans h1) (by simpa using hy2.trans h2))
    generalize T.check = r1 at hk1 hy1 hsc
    generalize U.check = r2 at hk2 hy2 hsc
    generalize eqB T U = eb at hsm hsc2 hsc
    clear hsc
    go_upto_region 7 with (first
      | (go_at_call 6; have g := tc; refine (hcs.out _ u6).mono ?_; rintro e w7 ⟨rfl, hb7⟩; have u7 : Up W0 w7 := u6.call hb7; obtain ⟨⟨qa0, qa1, qa2, qa3⟩, _⟩ := kept4 b0 u7.out; obtain ⟨⟨qb0, qb1, qb2, qb3⟩, _⟩ := kept4 b1 u7.out; obtain ⟨⟨qc0, qc1, qc2, qc3⟩, _⟩ := kept4 b2 u7.out)
      | (go_at_call 6; refine (hcn.out _ u5).mono ?_; rintro e w6 ⟨rfl, hb6⟩; have u6 : Up W0 w6 := u5.call hb6; obtain ⟨⟨qa0, qa1, qa2, qa3⟩, _⟩ := kept4 b0 u6.out; obtain ⟨⟨qb0, qb1, qb2, qb3⟩, _⟩ := kept4 b1 u6.out; obtain ⟨⟨qc0, qc1, qc2, qc3⟩, _⟩ := kept4 b2 u6.out; have tc := True.intro))
    have hsc3 := hsc2.out
    clear hsc2
    obtain ⟨⟨qa0, qa1, qa2, qa3⟩, _⟩ := kept4 b0 u7.out; obtain ⟨⟨qb0, qb1, qb2, qb3⟩, _⟩ := kept4 b1 u7.out; obtain ⟨⟨qc0, qc1, qc2, qc3⟩, _⟩ := kept4 b2 u7.out
    cases y1 with
    | false =>
      go_wp2_with (go_at_call 7; refine (hk1.out _ u7).mono ?_; rintro e w8 ⟨rfl, hb8⟩; have u8 : Up W0 w8 := u7.call hb8)
      go_ret
      exact ⟨rfl, (hend.out _ u8).out⟩
    | true =>
      cases y2 with
      | false =>
        go_wp2_with (first
          | (go_at_call 7; have g := tk1; refine (hk2.out _ u8).mono ?_; rintro e w9 ⟨rfl, hb9⟩; have u9 : Up W0 w9 := u8.call hb9)
          | (go_at_call 7; refine (hk1.out _ u7).mono ?_; rintro e w8 ⟨rfl, hb8⟩; have u8 : Up W0 w8 := u7.call hb8; obtain ⟨⟨qa0, qa1, qa2, qa3⟩, _⟩ := kept4 b0 u8.out; obtain ⟨⟨qb0, qb1, qb2, qb3⟩, _⟩ := kept4 b1 u8.out; obtain ⟨⟨qc0, qc1, qc2, qc3⟩, _⟩ := kept4 b2 u8.out; have tk1 := True.intro))
        go_ret
        exact ⟨rfl, (hend.out _ u9).out⟩
      | true =>
        obtain ⟨bx, hbx⟩ : ∃ b : Bool, ((x : Int) == 0) = b := ⟨_, rfl⟩
        have hne := hsc3 rfl rfl
        clear hsc3
        rw [hbx] at hne
        obtain rfl : eb = bx := by cases eb <;> cases bx <;> first | rfl | cases hne
        clear hne
        go_wp2_with (first
          | (go_at_call 7; have g := tk1; refine (hk2.out _ u8).mono ?_; rintro e w9 ⟨rfl, hb9⟩; have u9 : Up W0 w9 := u8.call hb9; obtain ⟨⟨qa0, qa1, qa2, qa3⟩, _⟩ := kept4 b0 u9.out; obtain ⟨⟨qb0, qb1, qb2, qb3⟩, _⟩ := kept4 b1 u9.out; obtain ⟨⟨qc0, qc1, qc2, qc3⟩, _⟩ := kept4 b2 u9.out)
          | (go_at_call 7; refine (hk1.out _ u7).mono ?_; rintro e w8 ⟨rfl, hb8⟩; have u8 : Up W0 w8 := u7.call hb8; obtain ⟨⟨qa0, qa1, qa2, qa3⟩, _⟩ := kept4 b0 u8.out; obtain ⟨⟨qb0, qb1, qb2, qb3⟩, _⟩ := kept4 b1 u8.out; obtain ⟨⟨qc0, qc1, qc2, qc3⟩, _⟩ := kept4 b2 u8.out; have tk1 := True.intro)
          | (go_at_call 8; refine (hsm.out _ u9).mono ?_; rintro e w10 ⟨rfl, hb10⟩; have u10 : Up W0 w10 := u9.call hb10))
        go_ret
        exact ⟨rfl, (hend.out _ u10).out⟩
  · have tk := True.intro
    obtain ⟨y1, hy1⟩ : ∃ b : Bool, (T.check == 0) = b := ⟨_, rfl⟩
    obtain ⟨y2, hy2⟩ : ∃ b : Bool, (U.check == 0) = b := ⟨_, rfl⟩
    have hk1 := Hid.mk (fun (W : World) (hW : Up W0 W) => checkI_any T hsT.out _ _ W (hv.out W hW) (ht.out W hW))
    have hk2 := Hid.mk (fun (W : World) (hW : Up W0 W) => checkI_any U hsU.out _ _ W (hu.out W hW) (ht.out W hW))
    have hsm := Hid.mk (fun (W : World) (hW : Up W0 W) => sameP_any T U hsT.out _ _ _ _ W (hv.out W hW) (hu.out W hW))
    have hsc2 := Hid.mk (fun (h1 : y1 = true) (h2 : y2 = true) => hsc.out (by simpa using hy1.trans h1) (by simpa using hy2.trans h2))
    generalize T.check = r1 at hk1 hy1 hsc
    generalize U.check = r2 at hk2 hy2 hsc
    generalize eqB T U = eb at hsm hsc2 hsc
    clear hsc
    go_upto_region 7 with (first
      | (go_at_call 6; have g := tc; refine (hcs.out _ u6).mono ?_; rintro e w7 ⟨rfl, hb7⟩; have u7 : Up W0 w7 := u6.call hb7; obtain ⟨⟨qa0, qa1, qa2, qa3⟩, _⟩ := kept4 b0 u7.out; obtain ⟨⟨qb0, qb1, qb2, qb3⟩, _⟩ := kept4 b1 u7.out; obtain ⟨⟨qc0, qc1, qc2, qc3⟩, _⟩ := kept4 b2 u7.out)
      | (go_at_call 6; refine (hcn.out _ u5).mono ?_; rintro e w6 ⟨rfl, hb6⟩; have u6 : Up W0 w6 := u5.call hb6; obtain ⟨⟨qa0, qa1, qa2, qa3⟩, _⟩ := kept4 b0 u6.out; obtain ⟨⟨qb0, qb1, qb2, qb3⟩, _⟩ := kept4 b1 u6.out; obtain ⟨⟨qc0, qc1, qc2, qc3⟩, _⟩ := kept4 b2 u6.out; have tc := True.intro))
    have hsc3 := hsc2.out
    clear hsc2
    obtain ⟨⟨qa0, qa1, qa2, qa3⟩, _⟩ := kept4 b0 u7.out; obtain ⟨⟨qb0, qb1, qb2, qb3⟩, _⟩ := kept4 b1 u7.out; obtain ⟨⟨qc0, qc1, qc2, qc3⟩, _⟩ := kept4 b2 u7.out
    cases y1 with
    | false =>
      go_wp2_with (go_at_call 7; refine (hk1.out _ u7).mono ?_; rintro e w8 ⟨rfl, hb8⟩; have u8 : Up W0 w8 := u7.call hb8)
      go_ret
      exact ⟨rfl, (hend.out _ u8).out⟩
    | true =>
      cases y2 with
      | false =>
        go_wp2_with (first
          | (go_at_call 7; have g := tk1; refine (hk2.out _ u8).mono ?_; rintro e w9 ⟨rfl, hb9⟩; have u9 : Up W0 w9 := u8.call hb9)
          | (go_at_call 7; refine (hk1.out _ u7).mono ?_; rintro e w8 ⟨rfl, hb8⟩; have u8 : Up W0 w8 := u7.call hb8; obtain ⟨⟨qa0, qa1, qa2, qa3⟩, _⟩ := kept4 b0 u8.out; obtain ⟨⟨qb0, qb1, qb2, qb3⟩, _⟩ := kept4 b1 u8.out; obtain ⟨⟨qc0, qc1, qc2, qc3⟩, _⟩ := kept4 b2 u8.out; have tk1 := True.intro))
        go_ret
        exact ⟨rfl, (hend.out _ u9).out⟩
      | true =>
        obtain ⟨bx, hbx⟩ : ∃ b : Bool, ((0 : Int) == 0) = b := ⟨_, rfl⟩
        have hne := hsc3 rfl rfl
        clear hsc3
        rw [hbx] at hne
        obtain rfl : eb = bx := by cases eb <;> cases bx <;> first | rfl | cases hne
        clear hne
        obtain rfl : eb = true := hbx.symm
        go_wp2_with (first
          | (go_at_call 7; have g := tk1; refine (hk2.out _ u8).mono ?_; rintro e w9 ⟨rfl, hb9⟩; have u9 : Up W0 w9 := u8.call hb9; obtain ⟨⟨qa0, qa1, qa2, qa3⟩, _⟩ := kept4 b0 u9.out; obtain ⟨⟨qb0, qb1, qb2, qb3⟩, _⟩ := kept4 b1 u9.out; obtain ⟨⟨qc0, qc1, qc2, qc3⟩, _⟩ := kept4 b2 u9.out)
          | (go_at_call 7; refine (hk1.out _ u7).mono ?_; rintro e w8 ⟨rfl, hb8⟩; have u8 : Up W0 w8 := u7.call hb8; obtain ⟨⟨qa0, qa1, qa2, qa3⟩, _⟩ := kept4 b0 u8.out; obtain ⟨⟨qb0, qb1, qb2, qb3⟩, _⟩ := kept4 b1 u8.out; obtain ⟨⟨qc0, qc1, qc2, qc3⟩, _⟩ := kept4 b2 u8.out; have tk1 := True.intro)
          | (go_at_call 8; refine (hsm.out _ u9).mono ?_; rintro e w10 ⟨rfl, hb10⟩; have u10 : Up W0 w10 := u9.call hb10))
        go_ret
        exact ⟨rfl, (hend.out _ u10).out⟩

end Go.Proofs.YtabcekeeekbdiaaDoor
