/-
  The document's arenas: words set, a block taken.
-/
import Derived.Test.YtpfcbokckjfhbaaArenaRC
namespace Go.Proofs.Ytpfcbokckjfhbaa
open Go.RowKit Go.Deep Go.Maps Go.WideShapes

theorem exec_append {P : Program} {ev : Operand → Value} {w w' : World} {s x : Operand} {t tn ty : TypeId} {vs vx v' : Value} {ps : String} {af : Array Edge} {dst : Option Tmp} (hs : ev s = vs) (hx : ev x = vx) (hr : (Builtin.append_ #[t, tn] ty #[vs, vx]).run P w = .ok v' w') :
    (execOp ev ⟨dst, .call { callee := .builtin .append, args := #[s, x], argTypes := #[t, tn] }, ty, ps, af, none⟩).run P w = .ok (.value v') w' := by
  unfold execOp
  simp only [resolve, invoke, builtin, Sem.run_bind, Sem.run_pure, Result.andThen_ok, List.map_toArray, List.map_cons, List.map_nil, hs, hx, hr]
theorem StepR.from {w w1 w' : World} {q W : Nat} {v : Value} {S : Nat → Prop} {B : Blks} (hb : Below w.heap.size w w1) (h : StepR w1 q v S W B w') : StepR w q v S W B w' := by
  obtain ⟨v', S', h1, h2, h3⟩ := h
  exact ⟨v', S', h1, (Only.up hb).trans h2 (fun i hi => Or.inl hi), fun k hk => (h3 k hk).imp id (fun e => Nat.le_trans hb.size e)⟩
/-- Words copied into a new row: []uint64{} and what is appended to it. -/
theorem copy_run (xs : List Int) (a : Option Addr) (cap : Nat) (W : World) (h : Cel W xs a) (h1 : 1 ≤ xs.length) (hl : xs.length ≤ 1000) : ∃ v' w', (Builtin.append_ #[31, 31] 31 #[.slice (some ⟨W.heap.size, 0, none⟩) 0 0, .slice a xs.length cap]).run Try.prog (W.alloc (.cells #[] 72)) = .ok v' w' ∧
    Wds w' v' xs ∧ (∀ g, v'.ownBlock = some g → W.heap.size ≤ g) ∧ Below W.heap.size W w' := by
  have hb1 : Below W.heap.size W (W.alloc (.cells #[] 72)) := (Up.refl W).alloc.out
  have hw1 : Wds (W.alloc (.cells #[] 72)) (.slice (some ⟨W.heap.size, 0, none⟩) 0 0) [] := ⟨rfl, Or.inr ⟨W.heap.size, 0, #[], rfl, Nat.zero_le _, new_block _ _, Nat.le_refl _, by rw [maxLen]; omega, rfl, rfl⟩⟩
  obtain ⟨b, o, rfl, hc⟩ := h h1
  obtain ⟨v2, w2, hr, h2, hg2, ha2⟩ := append_words (W.alloc (.cells #[] 72)) 31 _ [] xs hw1 (some ⟨b, o, none⟩) cap (fun h0 => ⟨b, o, rfl, fun j hj => cell_below hb1 _ _ _ (hc j hj)⟩) (fun e => by cases e) (by simp; omega)
  rw [List.nil_append] at h2
  refine ⟨v2, w2, hr, h2, fun g hg => ?_, hb1.grown hg2 hb1.size (fun k hk => by cases hk; exact Nat.le_refl _)⟩
  rcases ha2 with e | e
  · rw [e] at hg; cases hg; exact Nat.le_refl _
  · rw [e] at hg; cases hg; simp
theorem roundR_at {n : Int} {r : Int} (h : rnd n = r) (w : World) : Calls Try.prog 14 #[.int .i64 n] w fun e w' => e = .returned (.int .i64 r) ∧ Below w.heap.size w w' := by
  refine (roundR_any n w).mono fun e w' hh => ?_
  obtain ⟨rfl, rfl⟩ := hh
  rw [h]
  exact ⟨rfl, Below.refl _ _⟩

set_option maxRecDepth 100000 in
set_option maxHeartbeats 4000000 in
theorem setR_any (q W : Nat) (v : Value) (S : Nat → Prop) (B : Blks) (n : Int) (l : List Int) (a : Option Addr) (cap : Nat) (w : World) (h : Ra w q v S W B) (hc : Cel w l a) (hl : l.length ≤ 1000) (hB : B.length ≤ 1000) :
    Calls Try.prog 30 #[.pointer (some ⟨q, 0, none⟩), .int .i64 n, .slice a l.length cap] w fun e w' => e = .returned (.int .i64 (setR B n l).1) ∧ StepR w q v S W (setR B n l).2 w' := by
  obtain ⟨c0, c1, f1⟩ := h.cells
  have ha := at_any q W v S B n w h hB
  have HR := Hid.mk h
  unfold setR
  unfold atR at ha
  cases hb : blk B n with
  | none =>
    rw [hb, if_neg (by decide)] at ha
    have HA := Hid.mk ha
    clear h ha hb hc hl
    go_enter Try.func30, Try.ntmps30
    go_wp2_with (go_at_call 43; refine HA.out.mono ?_; rintro e w1 ⟨rfl, rfl⟩)
    go_ret
    exact ⟨rfl, HR.out.step (Below.refl _ _)⟩
  | some o =>
    have hlt := blk_lt hb
    obtain ⟨I, hI⟩ : ∃ I, (n - 1).toNat = I := ⟨_, rfl⟩
    have e1 := (blk_some.1 hb).2
    rw [hI] at e1
    obtain ⟨g, cap', a', l0, lc, rfl, hcap, d0, d1, dw, dl, z0, z1⟩ := h.at_ (i := I) (by omega)
    obtain rfl := dl o e1
    have ho := h.good l0 (List.mem_of_getElem? e1)
    rw [hb, if_pos (show (some _ : Option (List Int)).isSome = true from rfl), show n - 1 = (I : Int) by omega] at ha
    obtain ⟨R, hR⟩ : ∃ R, rnd l.length = R := ⟨_, rfl⟩
    obtain ⟨C, hC⟩ : ∃ C, cls l0.length = C := ⟨_, rfl⟩
    have hcp := cls_pos l0.length
    rw [hC] at hcp
    have HA := Hid.mk ha
    have hli : (I : Int) < B.length := by omega
    have hrl := Hid.mk (roundR_at hR)
    have hro := Hid.mk (roundR_at (n := (l0.length : Int)) (r := C) (by rw [rnd_in (by omega) (by omega), hC]))
    have HI := Hid.mk (And.intro hI (show I < B.length by omega))
    have HC := Hid.mk hc
    simp only
    rw [hR, hC, hI]
    by_cases hRC : R = C
    · have h1l : 1 ≤ l.length := by
        rcases Nat.eq_zero_or_pos l.length with e | e
        · rw [rnd_out (by omega)] at hR; omega
        · omega
      have hbne : (R != (C : Int)) = false := by simp [hRC]
      rw [if_pos hRC]
      have HH := Hid.mk (show 1 ≤ l.length ∧ l.length ≤ 1000 ∧ B[I]? = some (some l0) from ⟨h1l, hl, e1⟩)
      have hRC' := Hid.mk hRC
      clear hRC' h ha hb hI e1 dw dl hlt ho hR hC hcp hc hl hRC h1l
      go_enter Try.func30, Try.ntmps30
      go_upto_region 4 with (go_at_call 43; refine HA.out.mono ?_; rintro e w1 ⟨rfl, rfl⟩)
      refine region_up (W := w) (by kernel_rfl) (by kernel_rfl) (Up.refl _) ?_
      refine quiet_value (v := .slice a l.length cap) rfl (fun _ _ => rfl) ?_
      simp only [Act.put, List.setIfInBounds_toArray, List.set_cons_zero, List.set_cons_succ]
      refine quiet_value (v := .int .i64 l.length) rfl (fun _ _ => (by go_simp)) ?_
      simp only [Act.put, List.setIfInBounds_toArray, List.set_cons_zero, List.set_cons_succ]
      refine quiet_call (v := .int .i64 R) rfl (fun W => (by go_simp)) (fun W h => (hrl.out W).mono fun e w' ⟨he, hb⟩ => ⟨he, h.call hb⟩) ?_
      simp only [Act.put, List.setIfInBounds_toArray, List.set_cons_zero, List.set_cons_succ]
      refine quiet_value (v := .pointer (some ⟨q, 0, none⟩)) rfl (fun _ _ => rfl) ?_
      simp only [Act.put, List.setIfInBounds_toArray, List.set_cons_zero, List.set_cons_succ]
      refine quiet_value (v := .pointer (some ⟨q, 0, none⟩)) rfl (fun _ _ => (by go_simp)) ?_
      simp only [Act.put, List.setIfInBounds_toArray, List.set_cons_zero, List.set_cons_succ]
      refine quiet_value (v := .pointer (some ⟨q, 1, none⟩)) rfl (fun _ _ => (by go_simp)) ?_
      simp only [Act.put, List.setIfInBounds_toArray, List.set_cons_zero, List.set_cons_succ]
      refine quiet_value (v := .slice (some ⟨g, 0, none⟩) B.length cap') rfl (fun W h => (by have u0 := cell_below h.out _ _ _ c1; go_simp)) ?_
      simp only [Act.put, List.setIfInBounds_toArray, List.set_cons_zero, List.set_cons_succ]
      refine quiet_value (v := .int .i64 I) rfl (fun _ _ => rfl) ?_
      simp only [Act.put, List.setIfInBounds_toArray, List.set_cons_zero, List.set_cons_succ]
      refine quiet_value (v := .pointer (some ⟨g, I * 2, none⟩)) rfl (fun _ _ => (by go_simp)) ?_
      simp only [Act.put, List.setIfInBounds_toArray, List.set_cons_zero, List.set_cons_succ]
      refine quiet_value (v := .pointer (some ⟨g, I * 2 + 1, none⟩)) rfl (fun _ _ => (by go_simp)) ?_
      simp only [Act.put, List.setIfInBounds_toArray, List.set_cons_zero, List.set_cons_succ]
      refine quiet_value (v := .slice a' l0.length lc) rfl (fun W h => (by have u0 := cell_below h.out _ _ _ d1; go_simp)) ?_
      simp only [Act.put, List.setIfInBounds_toArray, List.set_cons_zero, List.set_cons_succ]
      refine quiet_value (v := .int .i64 l0.length) rfl (fun _ _ => (by go_simp)) ?_
      simp only [Act.put, List.setIfInBounds_toArray, List.set_cons_zero, List.set_cons_succ]
      refine quiet_call (v := .int .i64 C) rfl (fun W => (by go_simp)) (fun W h => (hro.out W).mono fun e w' ⟨he, hb⟩ => ⟨he, h.call hb⟩) ?_
      simp only [Act.put, List.setIfInBounds_toArray, List.set_cons_zero, List.set_cons_succ]
      refine quiet_value (v := .bool false) rfl (fun _ _ => (by go_simp)) ?_
      simp only [Act.put, List.setIfInBounds_toArray, List.set_cons_zero, List.set_cons_succ]
      refine quiet_nil ?_
      intro w1 hw1
      have HR1 := Hid.mk (HR.out.up hw1.out)
      obtain ⟨k0, k1, kf⟩ := HR1.out.cells
      have y0 := cell_below hw1.out _ _ _ d0
      have y1 := cell_below hw1.out _ _ _ d1
      have HC1 := Hid.mk (HC.out.up hw1.out)
      have HW1 := Hid.mk hw1
      clear hw1 c0 c1 f1 d0 d1 z0 z1
      go_upto_region 6 with fail
      obtain ⟨lv, w2, hr, h2, hn2, hb2⟩ := copy_run l a cap w1.drew (HC1.out.up (Below.drew (Below.refl w1.heap.size w1))) HH.out.1 HH.out.2.1
      obtain ⟨la, lc2, rfl⟩ := owns_slice h2
      have hu2 : Up w1 w2 := (Up.refl w1).drew.call hb2
      have hqg : g ≠ q := fun e => HR1.out.nv (by rw [← e]; rfl)
      have hgf : w2.frozen? ⟨g, I * 2 + 1, none⟩ = false := by
        obtain ⟨_, _, _, _, _, hv, _, _, _, _, _, _, z⟩ := (HR1.out.up hu2.out).at_ HI.out.2
        simp only [Value.slice.injEq, Option.some.injEq, Addr.mk.injEq, and_true, true_and] at hv
        rw [hv.1]; exact z
      have hgc : w2.cell? ⟨g, I * 2 + 1, none⟩ = some (.slice a' l0.length lc) := cell_below hu2.out _ _ _ y1
      refine wp_region_last (last := 10) (S := Up w1) (by kernel_rfl) ?_
      refine last_take (i := 0) (d := 27) (v := .pointer (some ⟨q, 0, none⟩)) rfl rfl (by kernel_rfl) (by kernel_rfl) (by kernel_rfl) (by kernel_rfl) rfl (fun _ _ => rfl) (fun _ _ _ h => h) (Up.refl w1).drew ?_
      simp only [Act.put, List.setIfInBounds_toArray, List.set_cons_zero, List.set_cons_succ]
      refine last_take (i := 1) (d := 28) (v := .pointer (some ⟨q, 0, none⟩)) rfl rfl (by kernel_rfl) (by kernel_rfl) (by kernel_rfl) (by kernel_rfl) rfl (fun _ _ => (by go_simp)) (fun _ _ _ h => h) (Up.refl w1).drew ?_
      simp only [Act.put, List.setIfInBounds_toArray, List.set_cons_zero, List.set_cons_succ]
      refine last_take (i := 2) (d := 29) (v := .pointer (some ⟨q, 1, none⟩)) rfl rfl (by kernel_rfl) (by kernel_rfl) (by kernel_rfl) (by kernel_rfl) rfl (fun _ _ => (by go_simp)) (fun _ _ _ h => h) (Up.refl w1).drew ?_
      simp only [Act.put, List.setIfInBounds_toArray, List.set_cons_zero, List.set_cons_succ]
      refine last_take (i := 3) (d := 30) (v := .slice (some ⟨g, 0, none⟩) B.length cap') rfl rfl (by kernel_rfl) (by kernel_rfl) (by kernel_rfl) (by kernel_rfl) rfl (fun W h => (by have u0 := cell_below h.out _ _ _ k1; go_simp)) (fun _ _ _ h => h) (Up.refl w1).drew ?_
      simp only [Act.put, List.setIfInBounds_toArray, List.set_cons_zero, List.set_cons_succ]
      refine last_take (i := 4) (d := 31) (v := .int .i64 I) rfl rfl (by kernel_rfl) (by kernel_rfl) (by kernel_rfl) (by kernel_rfl) rfl (fun _ _ => rfl) (fun _ _ _ h => h) (Up.refl w1).drew ?_
      simp only [Act.put, List.setIfInBounds_toArray, List.set_cons_zero, List.set_cons_succ]
      refine last_take (i := 6) (d := 33) (v := .slice a l.length cap) rfl rfl (by kernel_rfl) (by kernel_rfl) (by kernel_rfl) (by kernel_rfl) rfl (fun _ _ => rfl) (fun _ _ _ h => h) (Up.refl w1).drew ?_
      simp only [Act.put, List.setIfInBounds_toArray, List.set_cons_zero, List.set_cons_succ]
      refine last_value (i := 5) (d := 32) (v := .slice (some ⟨w1.drew.heap.size, 0, none⟩) 0 0) (w' := w1.drew.alloc (.cells #[] 72)) (by kernel_rfl) rfl rfl rfl (by go_simp) ((Up.refl w1).drew.alloc) ?_
      simp only [Act.put, List.setIfInBounds_toArray, List.set_cons_zero, List.set_cons_succ]
      refine last_value (i := 7) (d := 34) (v := .slice la l.length lc2) (w' := w2) (by kernel_rfl) rfl rfl rfl (exec_append rfl rfl hr) (hu2) ?_
      simp only [Act.put, List.setIfInBounds_toArray, List.set_cons_zero, List.set_cons_succ]
      refine last_value (i := 8) (d := 35) (v := .pointer (some ⟨g, I * 2, none⟩)) (w' := w2) (by kernel_rfl) rfl rfl rfl (by go_simp) (hu2) ?_
      simp only [Act.put, List.setIfInBounds_toArray, List.set_cons_zero, List.set_cons_succ]
      refine last_value (i := 9) (d := 36) (v := .pointer (some ⟨g, I * 2 + 1, none⟩)) (w' := w2) (by kernel_rfl) rfl rfl rfl (by go_simp) (hu2) ?_
      simp only [Act.put, List.setIfInBounds_toArray, List.set_cons_zero, List.set_cons_succ]
      refine last_store (w' := w2.setCell ⟨g, I * 2 + 1, none⟩ (.slice la l.length lc2)) (by kernel_rfl) rfl rfl rfl (by go_simp) (by kernel_rfl) ?_
      have HV := Hid.mk (And.intro h2 (And.intro hn2 hu2))
      have HG := Hid.mk hqg
      clear h2 hn2 hu2 hr hb2 hgf hgc hqg
      go_wp2
      go_ret
      refine ⟨rfl, StepR.from HW1.out.out ?_⟩
      obtain ⟨_, hIl⟩ := HI.out
      obtain ⟨v1, v2, v3⟩ := HV.out
      have hqg := HG.out
      have o5 : Only (fun k => k = q ∨ (Value.slice (some ⟨g, 0, none⟩) B.length cap').ownBlock = some k) w1 (w2.setCell ⟨g, I * 2 + 1, none⟩ (.slice la l.length lc2)) := (Only.up v3.out).put (Or.inr rfl) _ _
      have hgl : g < w1.heap.size := HR1.out.lt g (HR1.out.sv g rfl)
      refine ra_put (lv' := .slice la l.length lc2) (l' := l) HR1.out hIl o5 ?_ (fun xs hx hx0 => ⟨_, ownsRow_set (ownsRow_up hx v3.out) (I * 2 + 1) (.slice la l.length lc2), fun j => ?_⟩) (v1.kept (Only.set (S := fun k => k = g) w2 (p := g) _ rfl) (fun g' hg' e => (by have : w1.heap.size ≤ g' := v2 g' hg'; omega))) (fun o ho => (by cases ho; rfl)) v2 (good_set HR1.out.good HH.out.1 HH.out.2.1)
      · exact (Only.set (S := fun k => k = g) w2 (p := g) _ rfl).box ((Only.up (S := fun _ => False) v3.out).box HR1.out.box (fun f => f)) (fun e => hqg e.symm)
      · have hl := hx.1
        rw [List.getElem?_set, numAt_set HH.out.2.2]
        by_cases e1 : j = I * 2
        · subst e1
          rw [if_neg (by omega), if_pos rfl, hx0]
        · by_cases e2 : j = I * 2 + 1
          · subst e2
            rw [if_pos rfl, if_pos (by omega), if_neg e1, if_pos rfl]
          · rw [if_neg (fun e => e2 e.symm), if_neg e1, if_neg e2]
    · rw [if_neg hRC]
      have hbne : (R != (C : Int)) = true := by simp [hRC]
      clear h ha hb hI e1 dw dl hlt ho hR hC hcp hc hl hRC
      go_enter Try.func30, Try.ntmps30
      go_upto_region 4 with (go_at_call 43; refine HA.out.mono ?_; rintro e w1 ⟨rfl, rfl⟩)
      refine region_up (W := w) (by kernel_rfl) (by kernel_rfl) (Up.refl _) ?_
      refine quiet_value (v := .slice a l.length cap) rfl (fun _ _ => rfl) ?_
      simp only [Act.put, List.setIfInBounds_toArray, List.set_cons_zero, List.set_cons_succ]
      refine quiet_value (v := .int .i64 l.length) rfl (fun _ _ => (by go_simp)) ?_
      simp only [Act.put, List.setIfInBounds_toArray, List.set_cons_zero, List.set_cons_succ]
      refine quiet_call (v := .int .i64 R) rfl (fun W => (by go_simp)) (fun W h => (hrl.out W).mono fun e w' ⟨he, hb⟩ => ⟨he, h.call hb⟩) ?_
      simp only [Act.put, List.setIfInBounds_toArray, List.set_cons_zero, List.set_cons_succ]
      refine quiet_value (v := .pointer (some ⟨q, 0, none⟩)) rfl (fun _ _ => rfl) ?_
      simp only [Act.put, List.setIfInBounds_toArray, List.set_cons_zero, List.set_cons_succ]
      refine quiet_value (v := .pointer (some ⟨q, 0, none⟩)) rfl (fun _ _ => (by go_simp)) ?_
      simp only [Act.put, List.setIfInBounds_toArray, List.set_cons_zero, List.set_cons_succ]
      refine quiet_value (v := .pointer (some ⟨q, 1, none⟩)) rfl (fun _ _ => (by go_simp)) ?_
      simp only [Act.put, List.setIfInBounds_toArray, List.set_cons_zero, List.set_cons_succ]
      refine quiet_value (v := .slice (some ⟨g, 0, none⟩) B.length cap') rfl (fun W h => (by have u0 := cell_below h.out _ _ _ c1; go_simp)) ?_
      simp only [Act.put, List.setIfInBounds_toArray, List.set_cons_zero, List.set_cons_succ]
      refine quiet_value (v := .int .i64 I) rfl (fun _ _ => rfl) ?_
      simp only [Act.put, List.setIfInBounds_toArray, List.set_cons_zero, List.set_cons_succ]
      refine quiet_value (v := .pointer (some ⟨g, I * 2, none⟩)) rfl (fun _ _ => (by go_simp)) ?_
      simp only [Act.put, List.setIfInBounds_toArray, List.set_cons_zero, List.set_cons_succ]
      refine quiet_value (v := .pointer (some ⟨g, I * 2 + 1, none⟩)) rfl (fun _ _ => (by go_simp)) ?_
      simp only [Act.put, List.setIfInBounds_toArray, List.set_cons_zero, List.set_cons_succ]
      refine quiet_value (v := .slice a' l0.length lc) rfl (fun W h => (by have u0 := cell_below h.out _ _ _ d1; go_simp)) ?_
      simp only [Act.put, List.setIfInBounds_toArray, List.set_cons_zero, List.set_cons_succ]
      refine quiet_value (v := .int .i64 l0.length) rfl (fun _ _ => (by go_simp)) ?_
      simp only [Act.put, List.setIfInBounds_toArray, List.set_cons_zero, List.set_cons_succ]
      refine quiet_call (v := .int .i64 C) rfl (fun W => (by go_simp)) (fun W h => (hro.out W).mono fun e w' ⟨he, hb⟩ => ⟨he, h.call hb⟩) ?_
      simp only [Act.put, List.setIfInBounds_toArray, List.set_cons_zero, List.set_cons_succ]
      refine quiet_value (v := .bool true) rfl (fun _ _ => (by go_simp)) ?_
      simp only [Act.put, List.setIfInBounds_toArray, List.set_cons_zero, List.set_cons_succ]
      refine quiet_nil ?_
      intro w1 hw1
      have HW1 := Hid.mk hw1
      clear hw1
      go_wp2
      go_ret
      exact ⟨rfl, HR.out.step HW1.out.out⟩
end Go.Proofs.Ytpfcbokckjfhbaa
