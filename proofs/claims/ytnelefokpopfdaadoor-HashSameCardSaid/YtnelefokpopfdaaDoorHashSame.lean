/-
  HashSame: what the statement says, of every input.
-/
import Derived.Test.YtnelefokpopfdaaDoorHashKnown
import Derived.Test.YtnelefokpopfdaaDoorHashHash
import Derived.Test.YtnelefokpopfdaaDoorRegionUp
import Derived.Test.YtnelefokpopfdaaDoorChain
import Derived.Test.YtnelefokpopfdaaDoorTermSameP
namespace Go.Proofs.YtnelefokpopfdaaDoor
open Go.RowKit Go.Deep

theorem fits_of_check {T : Tm} (h : T.check = 0) : T.fits = true := by
  cases hf : T.fits with
  | true => rfl
  | false =>
    rw [Tm.check, fits_pre, hf] at h
    simp at h
theorem own_le (k n : Int) (s : ByteArray) (len : Nat) (h : fitB k n s.size len = true) : (ownBy k n s len).length ≤ 66 := by
  unfold fitB at h
  simp only [decide_eq_true_eq] at h
  unfold ownBy
  rw [List.length_cons, List.length_append]
  by_cases h1 : k = 1 ∨ k = 3 ∨ k = 4 ∨ k = 6 ∨ k = 5
  · rw [if_pos h1, le8_length]
    split <;> simp
  · rw [if_neg h1]
    by_cases h2 : k = 2
    · rw [if_pos h2, if_neg (by omega), List.length_cons, toList_length]
      simp
      omega
    · rw [if_neg h2]
      split <;> simp
theorem bytes_le (T : Tm) : T.fits = true → T.bytes.length ≤ 66 * T.size := by
  induction T using Tm.induct with
  | h k n s l ih =>
    intro hf
    have hp := fits_parts hf
    rw [fits_mk, Bool.and_eq_true] at hf
    have ho := own_le k n s l.length hf.1
    have hl : (bytesL l).length ≤ 66 * sizes l := by
      clear hf ho
      induction l with
      | nil => simp [bytesL_nil]
      | cons t r ihr =>
        have h1 := ih t (by simp) (hp t (by simp))
        have h2 := ihr (fun t ht => ih t (List.mem_cons_of_mem _ ht)) (fun t ht => hp t (List.mem_cons_of_mem _ ht))
        rw [bytesL_cons, List.length_append, sizes]
        omega
    rw [bytes_own, Tm.size_mk, List.length_append]
    split
    · omega
    · simp only [List.length_nil]
      omega

theorem hashI_any (T : Tm) (hfit : T.fits = true) (S : Nat → Prop) (v : Value) (w : World) (hv : Lies w S T v) :
    Calls Tryd.prog 10 #[v] w fun e w' => e = .returned (.int .u32 (hashI T)) ∧ Below w.heap.size w w' :=
  hash_in T hfit _ v w hv.inside (fun _ h => h.2)

set_option maxRecDepth 100000 in
set_option maxHeartbeats 8000000 in
theorem lawSame4 (T U : Tm) (w : World) (ht0 : ShapeTab w) (v0 v1 : Value) (hv0 : Is w T v0) (hu0 : Is w U v1) :
    Calls Tryd.prog 3 #[v0, v1] w fun e w' => e = .returned (.bool true) ∧ Below w.heap.size w w' := by
  obtain ⟨k0, n0, s0, a0, m0, c0, rfl⟩ := hv0.agg
  obtain ⟨k1, n1, s1, a1, m1, c1, rfl⟩ := hu0.agg
  obtain ⟨W0, hW0⟩ : ∃ W0, (w.alloc (.cells #[.int .i64 k0, .int .i64 n0, .string s0, .slice a0 m0 c0] 24)).alloc (.cells #[.int .i64 k1, .int .i64 n1, .string s1, .slice a1 m1 c1] 24) = W0 := ⟨_, rfl⟩
  have h0 : Up w W0 := by rw [← hW0]; exact (Up.refl w).alloc.alloc
  have b0 : W0.heap[w.heap.size]? = some (.cells #[.int .i64 k0, .int .i64 n0, .string s0, .slice a0 m0 c0] 24) := by rw [← hW0]; exact new_block1 w _ _
  have b1 : W0.heap[w.heap.size + 1]? = some (.cells #[.int .i64 k1, .int .i64 n1, .string s1, .slice a1 m1 c1] 24) := by rw [← hW0]; exact new_block2 w _ _
  have hv := Hid.mk (fun (W : World) (hW : Up W0 W) => (hv0.below h0.out).below hW.out)
  have hu := Hid.mk (fun (W : World) (hW : Up W0 W) => (hu0.below h0.out).below hW.out)
  have ht := Hid.mk (fun (W : World) (hW : Up W0 W) => (ht0.below h0.out).below hW.out)
  clear hv0 hu0 ht0
  obtain ⟨y1, hy1⟩ : ∃ y, T.check = y := ⟨_, rfl⟩
  obtain ⟨y2, hy2⟩ : ∃ y, U.check = y := ⟨_, rfl⟩
  have hk1 := Hid.mk (fun (W : World) (hW : Up W0 W) (hs : T.size ≤ 1000000) => checkI_any T hs _ _ W (hv.out W hW) (ht.out W hW))
  have hk2 := Hid.mk (fun (W : World) (hW : Up W0 W) (hs : U.size ≤ 1000000) => checkI_any U hs _ _ W (hu.out W hW) (ht.out W hW))
  have hsm := Hid.mk (fun (W : World) (hW : Up W0 W) (hs : T.size ≤ 1000000) => sameP_any T U hs _ _ _ _ W (hv.out W hW) (hu.out W hW))
  have hsb := Hid.mk (eqB_iff (a := T) (b := U))
  generalize eqB T U = sb at hsm hsb
  rw [hy1] at hk1
  rw [hy2] at hk2
  have hy1 := Hid.mk hy1
  have hy2 := Hid.mk hy2
  go_enter Tryd.func3, Tryd.ntmps3
  go_wp2_with (first
    | (go_at_call 4; refine (lawKnown4 _).mono ?_; rintro e w1 ⟨rfl, hb1⟩; have u1 : Up W0 w1 := hb1; obtain ⟨⟨qa0, qa1, qa2, qa3⟩, _⟩ := kept4 b0 u1.out; obtain ⟨⟨qb0, qb1, qb2, qb3⟩, _⟩ := kept4 b1 u1.out)
    | (go_at_call 5; have g := t2; refine (largeTerm_any U _ _ 300 _ (hu.out _ u2) (by omega) (by omega)).mono ?_; rintro e w3 ⟨⟨d2, rfl, hD2⟩, hb⟩; have u3 : Up W0 w3 := u2.call hb; have hD2 := Hid.mk hD2; clear qa0 qa1 qa2 qa3 qb0 qb1 qb2 qb3; obtain ⟨⟨qa0, qa1, qa2, qa3⟩, _⟩ := kept4 b0 u3.out; obtain ⟨⟨qb0, qb1, qb2, qb3⟩, _⟩ := kept4 b1 u3.out; clear t2)
    | (go_at_call 5; refine (largeTerm_any T _ _ 300 _ (hv.out _ u1) (by omega) (by omega)).mono ?_; rintro e w2 ⟨⟨d1, rfl, hD1⟩, hb⟩; have u2 : Up W0 w2 := u1.call hb; have hD1 := Hid.mk hD1; clear qa0 qa1 qa2 qa3 qb0 qb1 qb2 qb3; obtain ⟨⟨qa0, qa1, qa2, qa3⟩, _⟩ := kept4 b0 u2.out; obtain ⟨⟨qb0, qb1, qb2, qb3⟩, _⟩ := kept4 b1 u2.out; have t2 := True.intro)
    | (go_at_call 6; have g := t4; refine (hk2.out _ u4 (by have := (hD2.out (by simpa using ‹¬ d2 = true›)).2; omega)).mono ?_; rintro e w5 ⟨rfl, hb⟩; have u5 : Up W0 w5 := u4.call hb; clear qa0 qa1 qa2 qa3 qb0 qb1 qb2 qb3; obtain ⟨⟨qa0, qa1, qa2, qa3⟩, _⟩ := kept4 b0 u5.out; obtain ⟨⟨qb0, qb1, qb2, qb3⟩, _⟩ := kept4 b1 u5.out; clear t4)
    | (go_at_call 6; refine (hk1.out _ u3 (by have := (hD1.out (by simpa using ‹¬ d1 = true›)).2; omega)).mono ?_; rintro e w4 ⟨rfl, hb⟩; have u4 : Up W0 w4 := u3.call hb; clear qa0 qa1 qa2 qa3 qb0 qb1 qb2 qb3; obtain ⟨⟨qa0, qa1, qa2, qa3⟩, _⟩ := kept4 b0 u4.out; obtain ⟨⟨qb0, qb1, qb2, qb3⟩, _⟩ := kept4 b1 u4.out; have t4 := True.intro)
    | (go_at_call 7; refine (hsm.out _ u5 (by have := (hD1.out (by simpa using ‹¬ d1 = true›)).2; omega)).mono ?_; rintro e w6 ⟨rfl, hb⟩; have u6 : Up W0 w6 := u5.call hb; clear qa0 qa1 qa2 qa3 qb0 qb1 qb2 qb3; obtain ⟨⟨qa0, qa1, qa2, qa3⟩, _⟩ := kept4 b0 u6.out; obtain ⟨⟨qb0, qb1, qb2, qb3⟩, _⟩ := kept4 b1 u6.out))
  · go_ret
    exact ⟨rfl, (h0.call u2.out).out⟩
  · go_ret
    exact ⟨rfl, (h0.call u3.out).out⟩
  · go_ret
    exact ⟨rfl, (h0.call u5.out).out⟩
  · have z1 : y1 = 0 := ‹_›
    have z2 : y2 = 0 := by simpa using ‹(y2 != 0) = false›
    have hs1 := (hD1.out (by simpa using ‹¬ d1 = true›)).2
    have hs2 := (hD2.out (by simpa using ‹¬ d2 = true›)).2
    have hf1 := fits_of_check (hy1.out.trans z1)
    have hf2 := fits_of_check (hy2.out.trans z2)
    have hl1 : T.bytes.length ≤ 1000000000 := by have := bytes_le T hf1; omega
    have hl2 : U.bytes.length ≤ 1000000000 := by have := bytes_le U hf2; omega
    have hbs := Hid.mk (bytes_same hf1 hf2)
    have hf1 := Hid.mk hf1
    have hf2 := Hid.mk hf2
    have hl1 := Hid.mk hl1
    have hl2 := Hid.mk hl2
    have e0 := (u6.out.block _ (Array.getElem?_eq_some_iff.1 b0).1).trans b0
    have e1 := (u6.out.block _ (Array.getElem?_eq_some_iff.1 b1).1).trans b1
    have hsa : Hid (∀ S S' a a' cap cap' w, Byt w S T.bytes a cap → Byt w S' U.bytes a' cap' → Calls Tryd.prog 8 #[.slice a T.bytes.length cap, .slice a' U.bytes.length cap'] w fun e w' => e = .returned (.bool sb) ∧ w = w') := Hid.mk (fun S S' a a' cap cap' w h1 h2 => by
      have h := sameBytes_any T.bytes U.bytes S S' a a' cap cap' w h1 h2
      have e : (T.bytes == U.bytes) = sb := by
        cases hb : sb with
        | true => rw [hb] at hsb; rw [hbs.out.2 (hsb.out.1 rfl)]; simp
        | false =>
          rw [hb] at hsb
          have hne : ¬ T.bytes = U.bytes := fun h => by have := hsb.out.2 (hbs.out.1 h); cases this
          simpa using hne
      rwa [e] at h)
    clear hs1 hs2 z1 z2 hD1 hD2 hsm hk1 hk2 qa0 qa1 qa2 qa3 qb0 qb1 qb2 qb3
    cases sb with
    | false =>
        refine wp_region_held (S := Up w6) (by kernel_rfl) ?_
        refine chain_take (i := 0) (d := 28) (v := .agg #[.int .i64 k0, .int .i64 n0, .string s0, .slice a0 m0 c0]) rfl rfl (by kernel_rfl) (by kernel_rfl) (by kernel_rfl) rfl (fun W h => (by obtain ⟨q0, q1, q2, q3⟩ := h.four e0; go_simp)) (fun _ _ _ h => h) (Up.refl w6).drew ?_
        simp only [Act.put, List.setIfInBounds_toArray, List.set_cons_zero, List.set_cons_succ]
        refine chain_take (i := 2) (d := 30) (v := .agg #[.int .i64 k1, .int .i64 n1, .string s1, .slice a1 m1 c1]) rfl rfl (by kernel_rfl) (by kernel_rfl) (by kernel_rfl) rfl (fun W h => (by obtain ⟨q0, q1, q2, q3⟩ := h.four e1; go_simp)) (fun _ _ _ h => h) (Up.refl w6).drew ?_
        simp only [Act.put, List.setIfInBounds_toArray, List.set_cons_zero, List.set_cons_succ]
        refine chain_take (i := 5) (d := 33) (v := .bool false) rfl rfl (by kernel_rfl) (by kernel_rfl) (by kernel_rfl) rfl (fun _ _ => rfl) (fun _ _ _ h => h) (Up.refl w6).drew ?_
        simp only [Act.put, List.setIfInBounds_toArray, List.set_cons_zero, List.set_cons_succ]
        refine chain_call (i := 1) (d := 29) (f := 9) (args := #[.agg #[.int .i64 k0, .int .i64 n0, .string s0, .slice a0 m0 c0]]) (by kernel_rfl) rfl rfl rfl (by go_simp) ?_
        refine (bytesI_any T hf1.out hl1.out _ _ w6.drew (hv.out _ u6.drew)).mono ?_
        rintro e w7 ⟨⟨ba, bc, rfl, hB7⟩, hb7⟩
        refine ⟨.slice ba T.bytes.length bc, rfl, (Up.refl w6).drew.call hb7, ?_⟩
        simp only [Act.put, List.setIfInBounds_toArray, List.set_cons_zero, List.set_cons_succ]
        refine chain_call (i := 3) (d := 31) (f := 9) (args := #[.agg #[.int .i64 k1, .int .i64 n1, .string s1, .slice a1 m1 c1]]) (by kernel_rfl) rfl rfl rfl (by go_simp) ?_
        refine (bytesI_any U hf2.out hl2.out _ _ w7 (hu.out _ (u6.drew.call hb7))).mono ?_
        rintro e w8 ⟨⟨bb, bd, rfl, hB8⟩, hb8⟩
        refine ⟨.slice bb U.bytes.length bd, rfl, ((Up.refl w6).drew.call hb7).call hb8, ?_⟩
        simp only [Act.put, List.setIfInBounds_toArray, List.set_cons_zero, List.set_cons_succ]
        refine chain_call (i := 4) (d := 32) (f := 8) (args := #[.slice ba T.bytes.length bc, .slice bb U.bytes.length bd]) (by kernel_rfl) rfl rfl rfl (by go_simp) ?_
        refine (hsa.out _ _ _ _ _ _ w8 (hB7.below hb8) hB8).mono ?_
        rintro e w9 ⟨rfl, rfl⟩
        refine ⟨.bool false, rfl, ((Up.refl w6).drew.call hb7).call hb8, ?_⟩
        simp only [Act.put, List.setIfInBounds_toArray, List.set_cons_zero, List.set_cons_succ]
        refine chain_value (i := 6) (d := 34) (v := .bool false) (w' := w8) (by kernel_rfl) rfl rfl rfl (by go_simp) (((Up.refl w6).drew.call hb7).call hb8) ?_
        simp only [Act.put, List.setIfInBounds_toArray, List.set_cons_zero, List.set_cons_succ]
        refine wpAnyH_done (by kernel_rfl) ?_ _
        have u8 : Up W0 w8 := (u6.drew.call hb7).call hb8
        obtain ⟨⟨qa0, qa1, qa2, qa3⟩, _⟩ := kept4 b0 u8.out; obtain ⟨⟨qb0, qb1, qb2, qb3⟩, _⟩ := kept4 b1 u8.out
        go_wp2
        refine region_up (W := w8) (by kernel_rfl) (by kernel_rfl) (Up.refl _) ?_
        refine quiet_value (v := .bool true) rfl (fun _ _ => rfl) ?_
        simp only [Act.put, List.setIfInBounds_toArray, List.set_cons_zero, List.set_cons_succ]
        refine quiet_value (v := .bool true) rfl (fun _ _ => rfl) ?_
        simp only [Act.put, List.setIfInBounds_toArray, List.set_cons_zero, List.set_cons_succ]
        refine quiet_value (v := .bool false) rfl (fun _ _ => rfl) ?_
        simp only [Act.put, List.setIfInBounds_toArray, List.set_cons_zero, List.set_cons_succ]
        refine quiet_value (v := .bool true) rfl (fun _ _ => (by go_simp)) ?_
        simp only [Act.put, List.setIfInBounds_toArray, List.set_cons_zero, List.set_cons_succ]
        refine quiet_value (v := .bool true) rfl (fun _ _ => rfl) ?_
        simp only [Act.put, List.setIfInBounds_toArray, List.set_cons_zero, List.set_cons_succ]
        refine quiet_not rfl ?_
        simp only [Act.put, List.setIfInBounds_toArray, List.set_cons_zero, List.set_cons_succ]
        refine quiet_not rfl ?_
        simp only [Act.put, List.setIfInBounds_toArray, List.set_cons_zero, List.set_cons_succ]
        refine quiet_not rfl ?_
        simp only [Act.put, List.setIfInBounds_toArray, List.set_cons_zero, List.set_cons_succ]
        refine quiet_not rfl ?_
        simp only [Act.put, List.setIfInBounds_toArray, List.set_cons_zero, List.set_cons_succ]
        refine quiet_not rfl ?_
        simp only [Act.put, List.setIfInBounds_toArray, List.set_cons_zero, List.set_cons_succ]
        refine quiet_value (v := .bool true) rfl (fun _ _ => rfl) ?_
        simp only [Act.put, List.setIfInBounds_toArray, List.set_cons_zero, List.set_cons_succ]
        refine quiet_value (v := .bool true) rfl (fun _ _ => rfl) ?_
        simp only [Act.put, List.setIfInBounds_toArray, List.set_cons_zero, List.set_cons_succ]
        refine quiet_value (v := .bool true) rfl (fun _ _ => rfl) ?_
        simp only [Act.put, List.setIfInBounds_toArray, List.set_cons_zero, List.set_cons_succ]
        refine quiet_nil ?_
        intro w9 hw9
        go_wp2
        go_ret
        exact ⟨rfl, (h0.call (u8.call hw9.out).out).out⟩
    | true =>
        refine wp_region_held (S := Up w6) (by kernel_rfl) ?_
        refine chain_take (i := 0) (d := 28) (v := .agg #[.int .i64 k0, .int .i64 n0, .string s0, .slice a0 m0 c0]) rfl rfl (by kernel_rfl) (by kernel_rfl) (by kernel_rfl) rfl (fun W h => (by obtain ⟨q0, q1, q2, q3⟩ := h.four e0; go_simp)) (fun _ _ _ h => h) (Up.refl w6).drew ?_
        simp only [Act.put, List.setIfInBounds_toArray, List.set_cons_zero, List.set_cons_succ]
        refine chain_take (i := 2) (d := 30) (v := .agg #[.int .i64 k1, .int .i64 n1, .string s1, .slice a1 m1 c1]) rfl rfl (by kernel_rfl) (by kernel_rfl) (by kernel_rfl) rfl (fun W h => (by obtain ⟨q0, q1, q2, q3⟩ := h.four e1; go_simp)) (fun _ _ _ h => h) (Up.refl w6).drew ?_
        simp only [Act.put, List.setIfInBounds_toArray, List.set_cons_zero, List.set_cons_succ]
        refine chain_take (i := 5) (d := 33) (v := .bool true) rfl rfl (by kernel_rfl) (by kernel_rfl) (by kernel_rfl) rfl (fun _ _ => rfl) (fun _ _ _ h => h) (Up.refl w6).drew ?_
        simp only [Act.put, List.setIfInBounds_toArray, List.set_cons_zero, List.set_cons_succ]
        refine chain_call (i := 1) (d := 29) (f := 9) (args := #[.agg #[.int .i64 k0, .int .i64 n0, .string s0, .slice a0 m0 c0]]) (by kernel_rfl) rfl rfl rfl (by go_simp) ?_
        refine (bytesI_any T hf1.out hl1.out _ _ w6.drew (hv.out _ u6.drew)).mono ?_
        rintro e w7 ⟨⟨ba, bc, rfl, hB7⟩, hb7⟩
        refine ⟨.slice ba T.bytes.length bc, rfl, (Up.refl w6).drew.call hb7, ?_⟩
        simp only [Act.put, List.setIfInBounds_toArray, List.set_cons_zero, List.set_cons_succ]
        refine chain_call (i := 3) (d := 31) (f := 9) (args := #[.agg #[.int .i64 k1, .int .i64 n1, .string s1, .slice a1 m1 c1]]) (by kernel_rfl) rfl rfl rfl (by go_simp) ?_
        refine (bytesI_any U hf2.out hl2.out _ _ w7 (hu.out _ (u6.drew.call hb7))).mono ?_
        rintro e w8 ⟨⟨bb, bd, rfl, hB8⟩, hb8⟩
        refine ⟨.slice bb U.bytes.length bd, rfl, ((Up.refl w6).drew.call hb7).call hb8, ?_⟩
        simp only [Act.put, List.setIfInBounds_toArray, List.set_cons_zero, List.set_cons_succ]
        refine chain_call (i := 4) (d := 32) (f := 8) (args := #[.slice ba T.bytes.length bc, .slice bb U.bytes.length bd]) (by kernel_rfl) rfl rfl rfl (by go_simp) ?_
        refine (hsa.out _ _ _ _ _ _ w8 (hB7.below hb8) hB8).mono ?_
        rintro e w9 ⟨rfl, rfl⟩
        refine ⟨.bool true, rfl, ((Up.refl w6).drew.call hb7).call hb8, ?_⟩
        simp only [Act.put, List.setIfInBounds_toArray, List.set_cons_zero, List.set_cons_succ]
        refine chain_value (i := 6) (d := 34) (v := .bool false) (w' := w8) (by kernel_rfl) rfl rfl rfl (by go_simp) (((Up.refl w6).drew.call hb7).call hb8) ?_
        simp only [Act.put, List.setIfInBounds_toArray, List.set_cons_zero, List.set_cons_succ]
        refine wpAnyH_done (by kernel_rfl) ?_ _
        have u8 : Up W0 w8 := (u6.drew.call hb7).call hb8
        obtain ⟨⟨qa0, qa1, qa2, qa3⟩, _⟩ := kept4 b0 u8.out; obtain ⟨⟨qb0, qb1, qb2, qb3⟩, _⟩ := kept4 b1 u8.out
        go_wp2
        have heq : T = U := hsb.out.1 (by simp)
        have hha := Hid.mk (fun (W : World) (hW : Up W0 W) => hashI_any T hf1.out _ _ W (hv.out W hW))
        have hhb := Hid.mk (fun (W : World) (hW : Up W0 W) => hashI_any U hf2.out _ _ W (hu.out W hW))
        rw [← heq] at hhb
        generalize hashI T = q at hha hhb
        have f0 := (u8.out.block _ (Array.getElem?_eq_some_iff.1 b0).1).trans b0
        have f1 := (u8.out.block _ (Array.getElem?_eq_some_iff.1 b1).1).trans b1
        clear qa0 qa1 qa2 qa3 qb0 qb1 qb2 qb3 heq
        refine region_up (W := w8) (by kernel_rfl) (by kernel_rfl) (Up.refl _) ?_
        refine quiet_value (v := .bool true) rfl (fun _ _ => rfl) ?_
        simp only [Act.put, List.setIfInBounds_toArray, List.set_cons_zero, List.set_cons_succ]
        refine quiet_value (v := .bool true) rfl (fun _ _ => rfl) ?_
        simp only [Act.put, List.setIfInBounds_toArray, List.set_cons_zero, List.set_cons_succ]
        refine quiet_value (v := .bool true) rfl (fun _ _ => rfl) ?_
        simp only [Act.put, List.setIfInBounds_toArray, List.set_cons_zero, List.set_cons_succ]
        refine quiet_value (v := .bool false) rfl (fun _ _ => (by go_simp)) ?_
        simp only [Act.put, List.setIfInBounds_toArray, List.set_cons_zero, List.set_cons_succ]
        refine quiet_value (v := .bool false) rfl (fun _ _ => rfl) ?_
        simp only [Act.put, List.setIfInBounds_toArray, List.set_cons_zero, List.set_cons_succ]
        refine quiet_value (v := .agg #[.int .i64 k0, .int .i64 n0, .string s0, .slice a0 m0 c0]) rfl (fun W h => (by obtain ⟨q0, q1, q2, q3⟩ := h.four f0; go_simp)) ?_
        simp only [Act.put, List.setIfInBounds_toArray, List.set_cons_zero, List.set_cons_succ]
        refine quiet_call (v := .int .u32 q) rfl (fun W => (by go_simp)) (fun W h => (hha.out W (u8.call h.out)).mono fun e w' ⟨he, hb⟩ => ⟨he, h.call hb⟩) ?_
        simp only [Act.put, List.setIfInBounds_toArray, List.set_cons_zero, List.set_cons_succ]
        refine quiet_value (v := .agg #[.int .i64 k1, .int .i64 n1, .string s1, .slice a1 m1 c1]) rfl (fun W h => (by obtain ⟨q0, q1, q2, q3⟩ := h.four f1; go_simp)) ?_
        simp only [Act.put, List.setIfInBounds_toArray, List.set_cons_zero, List.set_cons_succ]
        refine quiet_call (v := .int .u32 q) rfl (fun W => (by go_simp)) (fun W h => (hhb.out W (u8.call h.out)).mono fun e w' ⟨he, hb⟩ => ⟨he, h.call hb⟩) ?_
        simp only [Act.put, List.setIfInBounds_toArray, List.set_cons_zero, List.set_cons_succ]
        refine quiet_value (v := .bool true) rfl (fun _ _ => (by go_simp)) ?_
        simp only [Act.put, List.setIfInBounds_toArray, List.set_cons_zero, List.set_cons_succ]
        refine quiet_value (v := .bool true) rfl (fun _ _ => rfl) ?_
        simp only [Act.put, List.setIfInBounds_toArray, List.set_cons_zero, List.set_cons_succ]
        refine quiet_value (v := .bool true) rfl (fun _ _ => rfl) ?_
        simp only [Act.put, List.setIfInBounds_toArray, List.set_cons_zero, List.set_cons_succ]
        refine quiet_value (v := .bool true) rfl (fun _ _ => rfl) ?_
        simp only [Act.put, List.setIfInBounds_toArray, List.set_cons_zero, List.set_cons_succ]
        refine quiet_nil ?_
        intro w9 hw9
        go_wp2
        go_ret
        exact ⟨rfl, (h0.call (u8.call hw9.out).out).out⟩
  · go_ret
    exact ⟨rfl, (h0.call u4.out).out⟩

end Go.Proofs.YtnelefokpopfdaaDoor
