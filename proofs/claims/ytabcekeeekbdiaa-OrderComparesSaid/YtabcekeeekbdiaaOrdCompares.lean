/-
  OrderCompares: what the statement says, of every input.
-/
import Derived.Test.YtabcekeeekbdiaaOrdKnown
import Derived.Test.YtabcekeeekbdiaaOrdBase
namespace Go.Proofs.Ytabcekeeekbdiaa
open Go.RowKit Go.Deep

theorem stSelf (T : Tm) (S S' : Nat → Prop) (v u : Value) (w : World) (hv : Lies w S T v) (hu : Lies w S' T u) :
    Calls Try.prog 11 #[v, u] w fun e w' => e = .returned (.bool true) ∧ Below w.heap.size w w' := by
  have h := sameTerm_any T T S S' v u w hv hu
  rwa [eqB_refl] at h

set_option maxHeartbeats 4000000 in
theorem lawCompares (T U : Tm) (w : World) (v u : Value) (hv : Is w T v) (hu : Is w U u) :
    Calls Try.prog 3 #[v, u] w fun e w' => e = .returned (.bool true) ∧ Below w.heap.size w w' := by
  obtain ⟨k, n, s, a, m, cap, rfl⟩ := hv.agg
  obtain ⟨k', n', s', a', m', cap', rfl⟩ := hu.agg
  have hq := Up.refl ((w.alloc (.cells #[.int .i64 k, .int .i64 n, .string s, .slice a m cap] 24)).alloc (.cells #[.int .i64 k', .int .i64 n', .string s', .slice a' m' cap'] 24))
  have hvq := Hid.mk (hv.below ((Up.refl w).alloc (o := .cells #[.int .i64 k, .int .i64 n, .string s, .slice a m cap] 24)).out)
  have huq := Hid.mk (hu.below ((Up.refl w).alloc (o := .cells #[.int .i64 k, .int .i64 n, .string s, .slice a m cap] 24)).out)
  have hvq := Hid.mk (hvq.out.below ((Up.refl _).alloc (o := .cells #[.int .i64 k', .int .i64 n', .string s', .slice a' m' cap'] 24)).out)
  have huq := Hid.mk (huq.out.below ((Up.refl _).alloc (o := .cells #[.int .i64 k', .int .i64 n', .string s', .slice a' m' cap'] 24)).out)
  have hbk : Hid (∀ W, Up ((w.alloc (.cells #[.int .i64 k, .int .i64 n, .string s, .slice a m cap] 24)).alloc (.cells #[.int .i64 k', .int .i64 n', .string s', .slice a' m' cap'] 24)) W → Up w W) := Hid.mk (fun W h => (Up.refl w).alloc.alloc.call h.out)
  clear hv hu
  go_enter Try.func3, Try.ntmps3
  go_upto_region 3 with (first
    | (go_at_call 7; have hg := first1; refine (largeTerm_any U _ _ 400 _ (huq.out.below hq.out) (by omega) (by omega)).mono ?_; rintro e w2 ⟨⟨b2, rfl, hB⟩, hb⟩; have hq := hq.call hb; obtain ⟨⟨g0, g1, g2, g3⟩, _⟩ := kept4 (new_block1 w _ _) hq.out; obtain ⟨⟨g4, g5, g6, g7⟩, _⟩ := kept4 (new_block2 w _ _) hq.out; have hB := Hid.mk hB)
    | (go_at_call 7; refine (largeTerm_any T _ _ 400 _ (hvq.out.below hq.out) (by omega) (by omega)).mono ?_; rintro e w1 ⟨⟨b1, rfl, hA⟩, hb⟩; have hq := hq.call hb; obtain ⟨⟨g0, g1, g2, g3⟩, _⟩ := kept4 (new_block1 w _ _) hq.out; obtain ⟨⟨g4, g5, g6, g7⟩, _⟩ := kept4 (new_block2 w _ _) hq.out; have first1 := True.intro; have hA := Hid.mk hA))
  · go_wp2
    go_ret
    exact ⟨rfl, (hbk.out _ hq).out⟩
  · go_wp2
    go_ret
    exact ⟨rfl, (hbk.out _ hq).out⟩
  have hb1 : b1 = false := by simpa using ‹¬ b1 = true›
  have hb2 : b2 = false := by assumption
  have hA2 := hA.out hb1
  have hB2 := hB.out hb2
  subst hb1 hb2
  have hvq := Hid.mk (hvq.out.below hq.out)
  have huq := Hid.mk (huq.out.below hq.out)
  have hsz := hA2.2
  have hsz2 := hB2.2
  clear hA hB hb
  have w2b0 : w2.heap[w.heap.size]? = some (.cells #[.int .i64 k, .int .i64 n, .string s, .slice a m cap] 24) := (hq.out.block _ (by simp; omega)).trans (new_block1 w _ _)
  have w2b1 : w2.heap[w.heap.size + 1]? = some (.cells #[.int .i64 k', .int .i64 n', .string s', .slice a' m' cap'] 24) := (hq.out.block _ (by simp)).trans (new_block2 w _ _)
  go_cut [5, 6] (fun s5 s6 wx => Var wx T w2.heap.size s5 ∧ Var wx U w2.heap.size s6 ∧ Up w2 wx)
  case first =>
    refine wp_region_held (S := Up w2) (by kernel_rfl) ?_
    refine wpAnyH_take (i := 0) (v := .agg #[.int .i64 k, .int .i64 n, .string s, .slice a m cap]) rfl (by kernel_rfl) (by kernel_rfl) (by kernel_rfl) (fun _ _ _ h => h) (Or.inl ⟨by rfl, fun W h => ?_⟩) (Up.refl w2).drew ?_
    · obtain ⟨q0, q1, q2, q3⟩ := h.four w2b0
      go_simp
    refine wpAnyH_take (i := 2) (v := .agg #[.int .i64 k', .int .i64 n', .string s', .slice a' m' cap']) rfl (by kernel_rfl) (by kernel_rfl) (by kernel_rfl) (fun _ _ _ h => h) (Or.inl ⟨by rfl, fun W h => ?_⟩) (Up.refl w2).drew ?_
    · obtain ⟨q0, q1, q2, q3⟩ := h.four w2b1
      go_simp
    refine wpAnyH_floats [1, 3] [6, 7] [⟨4, 5, zeroTerm⟩, ⟨5, 6, zeroTerm⟩] (by kernel_rfl) ?_ (Up.refl w2).drew ?_
    · intro f hf
      rcases List.mem_cons.1 hf with rfl | hf
      · exact flo_term rfl
      obtain rfl := List.mem_singleton.1 hf
      exact flo_term rfl
    refine ⟨_, _, _, rfl, rfl, fun W => (by go_simp; exact ⟨rfl, rfl⟩), fun W hW => ?_⟩
    refine (copyTerm_any T (by omega) (fun _ => True) _ _ ?_).mono ?_
    · exact hvq.out.below ((Up.refl w2).drew.out.trans hW)
    rintro e w3 ⟨⟨v3, rfl, hown3⟩, hb3⟩
    have hup3 : Up w2 w3 := ((Up.refl w2).drew.out.trans hW).trans (hb3.mono (by have := hW.size; simpa using this))
    refine ⟨v3, rfl, hb3, ?_⟩
    refine ⟨_, _, _, rfl, rfl, fun W' => (by go_simp; exact ⟨rfl, rfl⟩), fun W' hW' => ?_⟩
    refine (copyTerm_any U (by omega) (fun _ => True) _ _ ?_).mono ?_
    · exact huq.out.below (hup3.call hW').out
    rintro e w4 ⟨⟨v4, rfl, hown4⟩, hb4⟩
    refine ⟨v4, rfl, hb4, ?_⟩
    intro bs w5 hw5 hbs hnd
    obtain ⟨k3, n3, s3, a3, m3, c3, rfl⟩ := hown3.is.agg
    obtain ⟨k4, n4, s4, a4, m4, c4, rfl⟩ := hown4.is.agg
    obtain ⟨l0, b0, h0⟩ := hbs _ List.mem_cons_self
    obtain ⟨l1, b1, h1⟩ := hbs _ (List.mem_cons_of_mem _ List.mem_cons_self)
    have hne : bs 4 ≠ bs 5 := by simpa using hnd
    clear hbs hnd
    obtain ⟨⟨q0, q1, q2, q3⟩, f0, f1, f2, f3⟩ := kept4 h0 (Below.refl _ _)
    obtain ⟨⟨q4, q5, q6, q7⟩, f4, f5, f6, f7⟩ := kept4 h1 (Below.refl _ _)
    simp only [putsF, List.foldl, putF]
    dsimp only at l0 b0 h0 l1 b1 h1 q0 q1 q2 q3 f0 f1 f2 f3 q4 q5 q6 q7 f4 f5 f6 f7
    generalize bs 4 = B0 at *
    generalize bs 5 = B1 at *
    have hz3 := hb3.size
    have hz4 := hb4.size
    have hz5 := hw5.size
    have hzW := hW'.size
    have hup5 : Up w2 w5 := ((hup3.call hW').call hb4).call hw5
    have hk : ∀ k, ¬ k = B0 → ¬ k = B1 → (((((((((w5.setCell ⟨B0, 0, none⟩ (.int .i64 k3)).setCell ⟨B0, 1, none⟩ (.int .i64 n3)).setCell ⟨B0, 2, none⟩ (.string s3)).setCell ⟨B0, 3, none⟩ (.slice a3 m3 c3)).setCell ⟨B1, 0, none⟩ (.int .i64 k4)).setCell ⟨B1, 1, none⟩ (.int .i64 n4)).setCell ⟨B1, 2, none⟩ (.string s4)).setCell ⟨B1, 3, none⟩ (.slice a4 m4 c4))).heap[k]? = w5.heap[k]? := fun k h0 h1 => (set4_heap _ _ _ _ _ _ _ h1).trans (set4_heap _ _ _ _ _ _ _ h0)
    refine zrun_step rfl rfl (by go_simp; rfl) (Below.set4 hup5.out l0) ?_
    refine zrun_step rfl rfl (by go_simp; rfl) (Below.set4 (Below.set4 hup5.out l0) l1) ?_
    unfold zrun
    go_wp2_with fail
    go_meet
    refine ⟨⟨B0, _, _, _, _, rfl, l0, (set4_heap _ _ _ _ _ _ _ hne).trans (set4_block h0), (Own.move T _ _ _ _ _ (Nat.le_refl _) (Nat.le_refl _) (fun k g1 g2 => ?_) hown3).is⟩,
      ⟨B1, _, _, _, _, rfl, l1, set4_block ((set4_heap _ _ _ _ _ _ _ (Ne.symm hne)).trans h1), (Own.move U _ _ _ _ _ (Nat.le_refl _) (Nat.le_refl _) (fun k g1 g2 => ?_) hown4).is⟩, Below.set4 (Below.set4 hup5.out l0) l1⟩
    · rw [hk k (fun e => b0 (by subst e; exact Or.inl (Or.inr ⟨g1, g2⟩))) (fun e => b1 (by subst e; exact Or.inl (Or.inr ⟨g1, g2⟩))), hw5.block k (by omega), hb4.block k (by omega), hW'.block k (by omega)]
    · rw [hk k (fun e => b0 (by subst e; exact Or.inr ⟨g1, g2⟩)) (fun e => b1 (by subst e; exact Or.inr ⟨g1, g2⟩)), hw5.block k (by omega)]
  case rest =>
    obtain ⟨⟨B0, k3, n3, s3, sl3, rfl, l0, h0, i0⟩, ⟨B1, k4, n4, s4, sl4, rfl, l1, h1, i1⟩, hup⟩ := hcut
    obtain ⟨_, _, _, a3, m3, c3, e3⟩ := i0.agg
    obtain ⟨_, _, _, a4, m4, c4, e4⟩ := i1.agg
    obtain rfl : sl3 = .slice a3 m3 c3 := by simp only [Value.agg.injEq, Array.mk.injEq, List.cons.injEq, and_true] at e3; exact e3.2.2.2
    obtain rfl : sl4 = .slice a4 m4 c4 := by simp only [Value.agg.injEq, Array.mk.injEq, List.cons.injEq, and_true] at e4; exact e4.2.2.2
    clear e3 e4
    have e0 := (hup.out.block _ (Array.getElem?_eq_some_iff.1 w2b0).1).trans w2b0
    have e1 := (hup.out.block _ (Array.getElem?_eq_some_iff.1 w2b1).1).trans w2b1
    have hc1 := Hid.mk (fun (v u : Value) (W : World) (h1 : Is W T v) (h2 : Is W U u) => compare_any T U (fun _ => True) (fun _ => True) v u W h1 h2)
    have hc2 := Hid.mk (fun (v u : Value) (W : World) (h1 : Is W T v) (h2 : Is W U u) => refcompare_any T U (fun _ => True) (fun _ => True) v u W h1 h2)
    generalize T.cmp U = c at hc1 hc2
    go_upto_region 4 with fail
    refine region_up (W := wc) (by kernel_rfl) (by kernel_rfl) (Up.refl _) ?_
    refine quiet_value (v := .agg #[.int .i64 k3, .int .i64 n3, .string s3, .slice a3 m3 c3]) rfl (fun W h => (by obtain ⟨q0, q1, q2, q3⟩ := h.four h0; go_simp)) ?_
    simp only [Act.put, List.setIfInBounds_toArray, List.set_cons_zero, List.set_cons_succ]
    refine quiet_value (v := .agg #[.int .i64 k4, .int .i64 n4, .string s4, .slice a4 m4 c4]) rfl (fun W h => (by obtain ⟨q0, q1, q2, q3⟩ := h.four h1; go_simp)) ?_
    simp only [Act.put, List.setIfInBounds_toArray, List.set_cons_zero, List.set_cons_succ]
    refine quiet_call (v := .int .i64 c) rfl (fun W => (by go_simp)) (fun W h => (hc1.out _ _ W (i0.below h.out) (i1.below h.out)).mono fun e w' ⟨he, hb⟩ => ⟨he, h.call hb⟩) ?_
    simp only [Act.put, List.setIfInBounds_toArray, List.set_cons_zero, List.set_cons_succ]
    refine quiet_value (v := .agg #[.int .i64 k, .int .i64 n, .string s, .slice a m cap]) rfl (fun W h => (by obtain ⟨q0, q1, q2, q3⟩ := h.four e0; go_simp)) ?_
    simp only [Act.put, List.setIfInBounds_toArray, List.set_cons_zero, List.set_cons_succ]
    refine quiet_value (v := .agg #[.int .i64 k', .int .i64 n', .string s', .slice a' m' cap']) rfl (fun W h => (by obtain ⟨q0, q1, q2, q3⟩ := h.four e1; go_simp)) ?_
    simp only [Act.put, List.setIfInBounds_toArray, List.set_cons_zero, List.set_cons_succ]
    refine quiet_call (v := .int .i64 c) rfl (fun W => (by go_simp)) (fun W h => (hc2.out _ _ W (hvq.out.below (hup.call h.out).out) (huq.out.below (hup.call h.out).out)).mono fun e w' ⟨he, hb⟩ => ⟨he, h.call hb⟩) ?_
    simp only [Act.put, List.setIfInBounds_toArray, List.set_cons_zero, List.set_cons_succ]
    refine quiet_value (v := .bool true) rfl (fun _ _ => (by go_simp)) ?_
    simp only [Act.put, List.setIfInBounds_toArray, List.set_cons_zero, List.set_cons_succ]
    refine quiet_value (v := .bool true) rfl (fun _ _ => rfl) ?_
    simp only [Act.put, List.setIfInBounds_toArray, List.set_cons_zero, List.set_cons_succ]
    refine quiet_value (v := .agg #[.int .i64 k3, .int .i64 n3, .string s3, .slice a3 m3 c3]) rfl (fun W h => (by obtain ⟨q0, q1, q2, q3⟩ := h.four h0; go_simp)) ?_
    simp only [Act.put, List.setIfInBounds_toArray, List.set_cons_zero, List.set_cons_succ]
    refine quiet_value (v := .agg #[.int .i64 k, .int .i64 n, .string s, .slice a m cap]) rfl (fun W h => (by obtain ⟨q0, q1, q2, q3⟩ := h.four e0; go_simp)) ?_
    simp only [Act.put, List.setIfInBounds_toArray, List.set_cons_zero, List.set_cons_succ]
    refine quiet_call (v := .bool true) rfl (fun W => (by go_simp)) (fun W h => (stSelf T _ _ _ _ W (i0.below h.out) (hvq.out.below (hup.call h.out).out)).mono fun e w' ⟨he, hb⟩ => ⟨he, h.call hb⟩) ?_
    simp only [Act.put, List.setIfInBounds_toArray, List.set_cons_zero, List.set_cons_succ]
    refine quiet_value (v := .bool true) rfl (fun _ _ => rfl) ?_
    simp only [Act.put, List.setIfInBounds_toArray, List.set_cons_zero, List.set_cons_succ]
    refine quiet_value (v := .bool true) rfl (fun _ _ => rfl) ?_
    simp only [Act.put, List.setIfInBounds_toArray, List.set_cons_zero, List.set_cons_succ]
    refine quiet_value (v := .agg #[.int .i64 k4, .int .i64 n4, .string s4, .slice a4 m4 c4]) rfl (fun W h => (by obtain ⟨q0, q1, q2, q3⟩ := h.four h1; go_simp)) ?_
    simp only [Act.put, List.setIfInBounds_toArray, List.set_cons_zero, List.set_cons_succ]
    refine quiet_value (v := .agg #[.int .i64 k', .int .i64 n', .string s', .slice a' m' cap']) rfl (fun W h => (by obtain ⟨q0, q1, q2, q3⟩ := h.four e1; go_simp)) ?_
    simp only [Act.put, List.setIfInBounds_toArray, List.set_cons_zero, List.set_cons_succ]
    refine quiet_call (v := .bool true) rfl (fun W => (by go_simp)) (fun W h => (stSelf U _ _ _ _ W (i1.below h.out) (huq.out.below (hup.call h.out).out)).mono fun e w' ⟨he, hb⟩ => ⟨he, h.call hb⟩) ?_
    simp only [Act.put, List.setIfInBounds_toArray, List.set_cons_zero, List.set_cons_succ]
    refine quiet_value (v := .bool true) rfl (fun _ _ => rfl) ?_
    simp only [Act.put, List.setIfInBounds_toArray, List.set_cons_zero, List.set_cons_succ]
    refine quiet_value (v := .bool true) rfl (fun _ _ => rfl) ?_
    simp only [Act.put, List.setIfInBounds_toArray, List.set_cons_zero, List.set_cons_succ]
    refine quiet_call (v := .bool true) rfl (fun W => (by go_simp)) (fun W h => (awake_any W).mono fun e w' ⟨he, hb⟩ => ⟨he, h.call hb⟩) ?_
    simp only [Act.put, List.setIfInBounds_toArray, List.set_cons_zero, List.set_cons_succ]
    refine quiet_value (v := .bool true) rfl (fun _ _ => rfl) ?_
    simp only [Act.put, List.setIfInBounds_toArray, List.set_cons_zero, List.set_cons_succ]
    refine quiet_value (v := .bool true) rfl (fun _ _ => rfl) ?_
    simp only [Act.put, List.setIfInBounds_toArray, List.set_cons_zero, List.set_cons_succ]
    refine quiet_nil ?_
    intro w6 hw6
    go_wp2
    go_ret
    exact ⟨rfl, (hbk.out _ (hq.call (hup.call hw6.out).out)).out⟩

end Go.Proofs.Ytabcekeeekbdiaa
