/-
  The document's buckets: an item taken out.
-/
import Derived.Test.YtkijbphbibcnoaaLinRC
namespace Go.Proofs.Ytkijbphbibcnoaa
open Go.RowKit Go.Deep Go.Maps Go.WideShapes

theorem erase_at {l : List It} {i : Nat} {x : It} (hi : i < l.length) (hx : l[i] = x) (hn : ∀ j (_ : j < i) (h : j < l.length), l[j] ≠ x) : l.erase x = l.take i ++ l.drop (i + 1) := by
  induction l generalizing i with
  | nil => simp at hi
  | cons a r ih =>
    cases i with
    | zero =>
      simp only [List.getElem_cons_zero] at hx
      subst hx
      simp
    | succ i =>
      have h0 := hn 0 (by omega) (by simp)
      simp only [List.getElem_cons_zero] at h0
      rw [List.erase_cons_tail (by simpa using h0), List.take_succ_cons, List.drop_succ_cons, List.cons_append]
      congr 1
      refine ih (by simpa using hi) (by simpa using hx) fun j h1 h2 => ?_
      have := hn (j + 1) (by omega) (by simpa using h2)
      simpa using this
/-- What is left of a row from a place on. -/
theorem drop_cs {w : World} {b c k : Nat} {R : List It} (h : CelT w R (some ⟨b, 0, none⟩)) (hc : R.length ≤ c) : CelT w (R.drop k) (if c = k then some ⟨b, 0, none⟩ else some ⟨b, k * 2, none⟩) := by
  split
  · intro h0
    rw [List.length_drop] at h0
    omega
  · have := Cs.drop (n := k) h
    rwa [show 0 + k * itS.k = k * 2 by show 0 + k * 2 = k * 2; omega] at this
theorem slice_from (b n c k : Nat) (hk : k ≤ n) (w : World) : (Instr.sliceAt 43 (.slice (some ⟨b, 0, none⟩) n c) (some (.int .i64 (k : Int))) none none).run Try.prog w = .ok (.slice (if c = k then some ⟨b, 0, none⟩ else some ⟨b, k * 2, none⟩) (n - k) (c - k)) w := by
  have he : Try.prog.elem 43 = 54 := by kernel_rfl
  have hu : Try.prog.underlying 43 = some (.slice (Try.prog.elem 43)) := by rw [he]; exact Try.underlying43
  obtain ⟨i, hi, _, hs, _⟩ := itS.parts
  rw [run_sliceAt_slice _ _ _ _ _ _ hu, run_slice_l _ _ _ _ _ hu .i64 (k : Int) (by omega) (by omega), he]
  have hi' : Try.prog.info? 54 = some i := hi
  simp only [sizeOf, typeInfo, Sem.run_bind, hi', run_program, Result.andThen_ok, Sem.run_pure, hs, sliced, Int.toNat_natCast, Option.map_some]
  congr 2
  split
  · rfl
  · show some (Addr.add ⟨b, 0, none⟩ (k * 2)) = _
    rw [WideShapes.add_plain, Nat.zero_add]
theorem exec_slice_low {P : Program} {ev : Operand → Value} {w : World} {s x : Operand} {t ty : TypeId} {vs vx v' : Value} {ps : String} {af : Array Edge} {dst : Option Tmp} (hs : ev s = vs) (hx : ev x = vx) (hr : (Instr.sliceAt t vs (some vx) none none).run P w = .ok v' w) :
    (execOp ev ⟨dst, .slice t s (some x) none none, ty, ps, af, none⟩).run P w = .ok (.value v') w := by
  unfold execOp
  simp only [Sem.run_bind, Sem.run_pure, Result.andThen_ok, hs, hx, Option.map_some, Option.map_none, hr]

theorem cels_append (w : World) (v : Value) (l m : List It) (a : Option Addr) (n c : Nat) (h : Its w v l) (hc : CelT w m a) (hn : a = none → c = 0) (he : n = m.length) (hl : l.length + m.length ≤ 100000000) : ∃ v' w', (Builtin.append_ #[43, 43] 43 #[v, .slice a n c]).run Try.prog w = .ok v' w' ∧
    Its w' v' (l ++ m) ∧ w.grownBy w' v.ownBlock ∧ (v'.ownBlock = v.ownBlock ∨ v'.ownBlock = some w.heap.size) := by
  subst he
  exact append_row itS w _ v l m h _ _ hc hn hl
set_option maxHeartbeats 8000000 in
set_option maxRecDepth 100000 in
theorem removeR_any (q least : Nat) (S : Nat → Prop) (B : Bks) (h : Nat) (id : Int) (w : World) (hb : Rb w q least S B) (hh : h < 4294967296) (h1 : 1 ≤ B.length) (h2 : B.length ≤ 1000000) (hu : szB B ≤ 100000) :
    Calls Try.prog 29 #[.pointer (some ⟨q, 0, none⟩), .int .u32 h, .int .i64 id] w fun e w' => e = .returned (.bool (hasB B h id)) ∧ StR w q least S (removeB B h id) w' := by
  obtain ⟨v, hb⟩ := hb
  obtain ⟨c0, c1, f1⟩ := hb.cells
  have hlt := ofB_lt h1 h
  obtain ⟨g, cap, a', c, rfl, _, d0, z0, hrow⟩ := hb.at_ hlt
  have hln := rowB_len_le B (ofB B h)
  have ho := Hid.mk (ofR_any q least S B h w ⟨_, hb⟩ hh h1 (by omega))
  have HNO := Hid.mk (fun (e : hasB B h id = false) => show StR w q least S (removeB B h id) w by rw [removeB_not e]; exact Rb.step ⟨_, hb⟩ (Below.refl _ _))
  have hhas : hasB B h id = decide ((h, id) ∈ rowB B (ofB B h)) := rfl
  have hrem : removeB B h id = B.set (ofB B h) ((rowB B (ofB B h)).erase (h, id)) := rfl
  rw [hhas] at HNO
  rw [hhas, hrem]
  rw [hrem] at HNO
  clear hhas hrem
  rw [← rowB_lt hlt] at d0 hrow
  generalize ofB B h = I at *
  obtain ⟨R, hR⟩ : ∃ R, rowB B I = R := ⟨_, rfl⟩
  rw [hR] at d0 hrow hln HNO ⊢
  have HPUT := Hid.mk (fun (l : List It) (y : Value) (w4 : World) (hy : Its w4 y l) hn hbl => rb_put (l := l) (y := y) (w4 := w4) hb hlt hbl hy hn)
  have HROW := Hid.mk (fun (w' : World) (hbl : Below w.heap.size w w') => hrow.up hbl)
  have HFR := Hid.mk (fun (w' : World) (hbl : Below w.heap.size w w') => (show w'.frozen? ⟨g, I, none⟩ = false ∧ ∃ u, w'.cell? ⟨g, I, none⟩ = some u from ⟨by rw [(bcell hbl).2 _ _ (World.block_lt_of_cell? w _ d0)]; exact z0, _, cell_below hbl _ _ _ d0⟩))
  have HLN := Hid.mk (show R.length ≤ 100000 by omega)
  have hli : (I : Int) < B.length := by omega
  clear hb hlt hln hrow z0 hR h1 h2 hu hh
  go_enter Try.func29, Try.ntmps29
  go_wp2_with (go_at_call 48; refine ho.out.mono ?_; rintro e x ⟨rfl, rfl⟩)
  go_loopw [8] (fun ii wr => ∃ (i : Nat), i ≤ R.length ∧ ii = .int .i64 i ∧ wr = w ∧ Hid (∀ j (_ : j < i) (hj : j < R.length), R[j] ≠ (h, id))) (fun ii _ => R.length - (intOf ii).toNat)
  case atStart => exact ⟨0, Nat.zero_le _, rfl, rfl, Hid.mk fun j hj => by omega⟩
  case round =>
    obtain ⟨i, hi, rfl, rfl, hN⟩ := hrel
    by_cases hlt : i < R.length
    · obtain ⟨b, c', e, hRc, hcm⟩ := (HROW.out wr (Below.refl _ _)).some_ (by omega)
      simp only [Value.slice.injEq, true_and] at e
      obtain ⟨rfl, rfl⟩ := e
      have hcel : CelT wr R (some ⟨b, 0, none⟩) := by
        obtain ⟨a2, c2, e, h⟩ := Its.slice (HROW.out wr (Below.refl _ _))
        simp only [Value.slice.injEq] at e
        obtain ⟨rfl, _, _⟩ := e
        exact h
      obtain ⟨b2, o2, e, x0, x1⟩ := CelT.item hcel hlt
      simp only [Option.some.injEq, Addr.mk.injEq, and_true] at e
      obtain ⟨rfl, rfl⟩ := e
      rw [Nat.zero_add] at x0 x1
      have HCEL := Hid.mk hcel
      have hwi : IntKind.i64.wrap ((i : Int) + 1) = ((i + 1 : Nat) : Int) := by have := HLN.out; rw [wrap_id (by omega) (by omega)]; omega
      have HL := Hid.mk hlt
      have HRC := Hid.mk hRc
      have hil : (i : Int) < R.length := by omega
      have hN2 : Hid (R[i]'hlt ≠ (h, id) → ∀ j (_ : j < i + 1) (hj : j < R.length), R[j] ≠ (h, id)) := Hid.mk fun e j h1 h2 => by
        by_cases hj : j = i
        · subst hj; exact e
        · exact hN.out j (by omega) h2
      have hE : Hid (R[i]'hlt = (h, id) → (h, id) ∈ R ∧ R.erase (h, id) = R.take i ++ R.drop (i + 1)) := Hid.mk fun e => ⟨e ▸ List.getElem_mem hlt, erase_at hlt e hN.out⟩
      generalize R[i]'hlt = X at *
      obtain ⟨X0, X1⟩ := X
      simp only at x0 x1
      by_cases he : X0 = h
      · by_cases he1 : X1 = id
        · subst he he1
          obtain ⟨hmem, her⟩ := hE.out rfl
          have HM := Hid.mk hmem
          have HER := Hid.mk her
          have hic : (i : Int) ≤ c := by omega
          have hcl : (c : Int) ≤ 9223372036854775807 := by unfold maxLen at hcm; omega
          clear hlt hN2 hE hmem her hcel hRc hcm HNO
          obtain ⟨dA, hdA⟩ : ∃ dA : Option Addr, (if c = i + 1 then some ⟨b, 0, none⟩ else some ⟨b, (i + 1) * 2, none⟩) = dA := ⟨_, rfl⟩
          have HSL := Hid.mk (fun W => slice_from b R.length c (i + 1) HL.out W)
          have HDC := Hid.mk (fun (W : World) (hW : Below wr.heap.size wr W) => drop_cs (k := i + 1) (HCEL.out.up hW) HRC.out)
          have HDN := Hid.mk (show dA = none → c - (i + 1) = 0 from fun e => (by rw [e] at hdA; split at hdA <;> cases hdA))
          rw [hdA] at HSL HDC
          clear hdA
          go_upto_region 6 with fail
          refine wp_region_last (last := 28) (S := Up wr) (by kernel_rfl) ?_
          refine last_take (i := 0) (d := 52) (v := .pointer (some ⟨q, 0, none⟩)) rfl rfl (by kernel_rfl) (by kernel_rfl) (by kernel_rfl) (by kernel_rfl) rfl (fun _ _ => rfl) (fun _ _ _ h => h) (Up.refl wr).drew ?_
          simp only [Act.put, List.setIfInBounds_toArray, List.set_cons_zero, List.set_cons_succ]
          refine last_take (i := 1) (d := 53) (v := .pointer (some ⟨q, 0, none⟩)) rfl rfl (by kernel_rfl) (by kernel_rfl) (by kernel_rfl) (by kernel_rfl) rfl (fun _ _ => (by go_simp)) (fun _ _ _ h => h) (Up.refl wr).drew ?_
          simp only [Act.put, List.setIfInBounds_toArray, List.set_cons_zero, List.set_cons_succ]
          refine last_take (i := 2) (d := 54) (v := .pointer (some ⟨q, 1, none⟩)) rfl rfl (by kernel_rfl) (by kernel_rfl) (by kernel_rfl) (by kernel_rfl) rfl (fun _ _ => (by go_simp)) (fun _ _ _ h => h) (Up.refl wr).drew ?_
          simp only [Act.put, List.setIfInBounds_toArray, List.set_cons_zero, List.set_cons_succ]
          refine last_take (i := 3) (d := 55) (v := .slice (some ⟨g, 0, none⟩) B.length cap) rfl rfl (by kernel_rfl) (by kernel_rfl) (by kernel_rfl) (by kernel_rfl) rfl (fun W h => (by have u0 := cell_below h.out _ _ _ c1; go_simp)) (fun _ _ _ h => h) (Up.refl wr).drew ?_
          simp only [Act.put, List.setIfInBounds_toArray, List.set_cons_zero, List.set_cons_succ]
          refine last_take (i := 4) (d := 56) (v := .int .i64 I) rfl rfl (by kernel_rfl) (by kernel_rfl) (by kernel_rfl) (by kernel_rfl) rfl (fun _ _ => rfl) (fun _ _ _ h => h) (Up.refl wr).drew ?_
          simp only [Act.put, List.setIfInBounds_toArray, List.set_cons_zero, List.set_cons_succ]
          refine last_take (i := 6) (d := 58) (v := .pointer (some ⟨q, 0, none⟩)) rfl rfl (by kernel_rfl) (by kernel_rfl) (by kernel_rfl) (by kernel_rfl) rfl (fun _ _ => rfl) (fun _ _ _ h => h) (Up.refl wr).drew ?_
          simp only [Act.put, List.setIfInBounds_toArray, List.set_cons_zero, List.set_cons_succ]
          refine last_take (i := 7) (d := 59) (v := .pointer (some ⟨q, 0, none⟩)) rfl rfl (by kernel_rfl) (by kernel_rfl) (by kernel_rfl) (by kernel_rfl) rfl (fun _ _ => (by go_simp)) (fun _ _ _ h => h) (Up.refl wr).drew ?_
          simp only [Act.put, List.setIfInBounds_toArray, List.set_cons_zero, List.set_cons_succ]
          refine last_take (i := 8) (d := 60) (v := .pointer (some ⟨q, 1, none⟩)) rfl rfl (by kernel_rfl) (by kernel_rfl) (by kernel_rfl) (by kernel_rfl) rfl (fun _ _ => (by go_simp)) (fun _ _ _ h => h) (Up.refl wr).drew ?_
          simp only [Act.put, List.setIfInBounds_toArray, List.set_cons_zero, List.set_cons_succ]
          refine last_take (i := 9) (d := 61) (v := .slice (some ⟨g, 0, none⟩) B.length cap) rfl rfl (by kernel_rfl) (by kernel_rfl) (by kernel_rfl) (by kernel_rfl) rfl (fun W h => (by have u0 := cell_below h.out _ _ _ c1; go_simp)) (fun _ _ _ h => h) (Up.refl wr).drew ?_
          simp only [Act.put, List.setIfInBounds_toArray, List.set_cons_zero, List.set_cons_succ]
          refine last_take (i := 10) (d := 62) (v := .int .i64 I) rfl rfl (by kernel_rfl) (by kernel_rfl) (by kernel_rfl) (by kernel_rfl) rfl (fun _ _ => rfl) (fun _ _ _ h => h) (Up.refl wr).drew ?_
          simp only [Act.put, List.setIfInBounds_toArray, List.set_cons_zero, List.set_cons_succ]
          refine last_take (i := 11) (d := 63) (v := .pointer (some ⟨g, I, none⟩)) rfl rfl (by kernel_rfl) (by kernel_rfl) (by kernel_rfl) (by kernel_rfl) rfl (fun _ _ => (by go_simp)) (fun _ _ _ h => h) (Up.refl wr).drew ?_
          simp only [Act.put, List.setIfInBounds_toArray, List.set_cons_zero, List.set_cons_succ]
          refine last_take (i := 12) (d := 64) (v := .slice (some ⟨b, 0, none⟩) R.length c) rfl rfl (by kernel_rfl) (by kernel_rfl) (by kernel_rfl) (by kernel_rfl) rfl (fun W h => (by have u0 := cell_below h.out _ _ _ d0; go_simp)) (fun _ _ _ h => h) (Up.refl wr).drew ?_
          simp only [Act.put, List.setIfInBounds_toArray, List.set_cons_zero, List.set_cons_succ]
          refine last_take (i := 13) (d := 65) (v := .int .i64 i) rfl rfl (by kernel_rfl) (by kernel_rfl) (by kernel_rfl) (by kernel_rfl) rfl (fun _ _ => rfl) (fun _ _ _ h => h) (Up.refl wr).drew ?_
          simp only [Act.put, List.setIfInBounds_toArray, List.set_cons_zero, List.set_cons_succ]
          refine last_take (i := 14) (d := 66) (v := .slice (some ⟨b, 0, none⟩) i c) rfl rfl (by kernel_rfl) (by kernel_rfl) (by kernel_rfl) (by kernel_rfl) rfl (fun _ _ => (by go_simp)) (fun _ _ _ h => h) (Up.refl wr).drew ?_
          simp only [Act.put, List.setIfInBounds_toArray, List.set_cons_zero, List.set_cons_succ]
          refine last_take (i := 16) (d := 68) (v := .pointer (some ⟨q, 0, none⟩)) rfl rfl (by kernel_rfl) (by kernel_rfl) (by kernel_rfl) (by kernel_rfl) rfl (fun _ _ => rfl) (fun _ _ _ h => h) (Up.refl wr).drew ?_
          simp only [Act.put, List.setIfInBounds_toArray, List.set_cons_zero, List.set_cons_succ]
          refine last_take (i := 17) (d := 69) (v := .pointer (some ⟨q, 0, none⟩)) rfl rfl (by kernel_rfl) (by kernel_rfl) (by kernel_rfl) (by kernel_rfl) rfl (fun _ _ => (by go_simp)) (fun _ _ _ h => h) (Up.refl wr).drew ?_
          simp only [Act.put, List.setIfInBounds_toArray, List.set_cons_zero, List.set_cons_succ]
          refine last_take (i := 18) (d := 70) (v := .pointer (some ⟨q, 1, none⟩)) rfl rfl (by kernel_rfl) (by kernel_rfl) (by kernel_rfl) (by kernel_rfl) rfl (fun _ _ => (by go_simp)) (fun _ _ _ h => h) (Up.refl wr).drew ?_
          simp only [Act.put, List.setIfInBounds_toArray, List.set_cons_zero, List.set_cons_succ]
          refine last_take (i := 19) (d := 71) (v := .slice (some ⟨g, 0, none⟩) B.length cap) rfl rfl (by kernel_rfl) (by kernel_rfl) (by kernel_rfl) (by kernel_rfl) rfl (fun W h => (by have u0 := cell_below h.out _ _ _ c1; go_simp)) (fun _ _ _ h => h) (Up.refl wr).drew ?_
          simp only [Act.put, List.setIfInBounds_toArray, List.set_cons_zero, List.set_cons_succ]
          refine last_take (i := 20) (d := 72) (v := .int .i64 I) rfl rfl (by kernel_rfl) (by kernel_rfl) (by kernel_rfl) (by kernel_rfl) rfl (fun _ _ => rfl) (fun _ _ _ h => h) (Up.refl wr).drew ?_
          simp only [Act.put, List.setIfInBounds_toArray, List.set_cons_zero, List.set_cons_succ]
          refine last_take (i := 21) (d := 73) (v := .pointer (some ⟨g, I, none⟩)) rfl rfl (by kernel_rfl) (by kernel_rfl) (by kernel_rfl) (by kernel_rfl) rfl (fun _ _ => (by go_simp)) (fun _ _ _ h => h) (Up.refl wr).drew ?_
          simp only [Act.put, List.setIfInBounds_toArray, List.set_cons_zero, List.set_cons_succ]
          refine last_take (i := 22) (d := 74) (v := .slice (some ⟨b, 0, none⟩) R.length c) rfl rfl (by kernel_rfl) (by kernel_rfl) (by kernel_rfl) (by kernel_rfl) rfl (fun W h => (by have u0 := cell_below h.out _ _ _ d0; go_simp)) (fun _ _ _ h => h) (Up.refl wr).drew ?_
          simp only [Act.put, List.setIfInBounds_toArray, List.set_cons_zero, List.set_cons_succ]
          refine last_take (i := 23) (d := 75) (v := .int .i64 i) rfl rfl (by kernel_rfl) (by kernel_rfl) (by kernel_rfl) (by kernel_rfl) rfl (fun _ _ => rfl) (fun _ _ _ h => h) (Up.refl wr).drew ?_
          simp only [Act.put, List.setIfInBounds_toArray, List.set_cons_zero, List.set_cons_succ]
          refine last_take (i := 24) (d := 76) (v := .int .i64 ((i + 1 : Nat) : Int)) rfl rfl (by kernel_rfl) (by kernel_rfl) (by kernel_rfl) (by kernel_rfl) rfl (fun _ _ => (by go_simp)) (fun _ _ _ h => h) (Up.refl wr).drew ?_
          simp only [Act.put, List.setIfInBounds_toArray, List.set_cons_zero, List.set_cons_succ]
          refine last_take (i := 25) (d := 77) (v := .slice dA (R.length - (i + 1)) (c - (i + 1))) rfl rfl (by kernel_rfl) (by kernel_rfl) (by kernel_rfl) (by kernel_rfl) rfl (fun W _ => exec_slice_low rfl rfl (HSL.out W)) (fun _ _ _ h => h) (Up.refl wr).drew ?_
          simp only [Act.put, List.setIfInBounds_toArray, List.set_cons_zero, List.set_cons_succ]
          obtain ⟨WD, hWD⟩ : ∃ WD, ({ wr with drawn := wr.drawn + 1 } : World) = WD := ⟨_, rfl⟩
          have HD : Up wr WD := by rw [← hWD]; exact (Up.refl wr).drew
          rw [hWD]
          clear hWD
          have hE := App.empty HD
          obtain ⟨u1, w1, hr1, hi1, hg1, ho1⟩ := cels_append (WD.alloc (.cells #[] 54)) _ [] (R.take i) (some ⟨b, 0, none⟩) i c hE.its (Cs.take (HCEL.out.up hE.below) i) (fun e => (by cases e)) (by have := HL.out; rw [List.length_take]; omega) (by have := HLN.out; simp; omega)
          have hA1 := hE.more hi1 hg1 ho1
          obtain ⟨u2, w2, hr2, hi2, hg2, ho2⟩ := cels_append w1 u1 _ (R.drop (i + 1)) dA (R.length - (i + 1)) (c - (i + 1)) hA1.its (HDC.out _ hA1.below) HDN.out (by rw [List.length_drop]) (by have := HLN.out; simp; omega)
          have hA2 := hA1.more hi2 hg2 ho2
          refine last_value (i := 5) (d := 57) (v := .slice (some ⟨WD.heap.size, 0, none⟩) 0 0) (w' := WD.alloc (.cells #[] 54)) (by kernel_rfl) rfl rfl rfl (by go_simp) (hE.below) ?_
          simp only [Act.put, List.setIfInBounds_toArray, List.set_cons_zero, List.set_cons_succ]
          refine last_value (i := 15) (d := 67) (v := u1) (w' := w1) (by kernel_rfl) rfl rfl rfl (exec_append rfl rfl hr1) (hA1.below) ?_
          simp only [Act.put, List.setIfInBounds_toArray, List.set_cons_zero, List.set_cons_succ]
          obtain ⟨ya, yc, e2, _⟩ := Its.slice hi2
          obtain ⟨M, hM⟩ : ∃ M, (([] ++ R.take i) ++ R.drop (i + 1)).length = M := ⟨_, rfl⟩
          rw [hM] at e2
          subst e2
          clear hM
          refine last_value (i := 26) (d := 78) (v := _) (w' := w2) (by kernel_rfl) rfl rfl rfl (exec_append rfl rfl hr2) (hA2.below) ?_
          simp only [Act.put, List.setIfInBounds_toArray, List.set_cons_zero, List.set_cons_succ]
          obtain ⟨hz9, z9, hc9⟩ := HFR.out _ hA2.below
          refine last_take (i := 27) (d := 79) (v := .pointer (some ⟨g, I, none⟩)) rfl rfl (by kernel_rfl) (by kernel_rfl) (by kernel_rfl) (by kernel_rfl) rfl (fun _ _ => (by go_simp)) (fun _ _ _ h => h) hA2.below ?_
          simp only [Act.put, List.setIfInBounds_toArray, List.set_cons_zero, List.set_cons_succ]
          refine last_store (w' := w2.setCell ⟨g, I, none⟩ (.slice ya M yc)) (by kernel_rfl) rfl rfl rfl (by go_simp) (by kernel_rfl) ?_
          have HP := Hid.mk (HPUT.out _ _ _ hA2.its hA2.new hA2.below)
          rw [List.nil_append] at HP
          rw [← HER.out] at HP
          go_wp2
          go_ret
          exact ⟨ret_bool (decide_eq_true HM.out).symm, HP.out⟩
        · have HX := Hid.mk (hN2.out (fun e => he1 (by cases e; rfl)))
          subst he
          have e1 : ((X0 : Int) == (X0 : Int)) = true := by simp
          clear hlt hN2 hE hcel hRc hcm HNO
          go_wp2
          go_roundw
          case rel => exact ⟨i + 1, HL.out, by first | rfl | go_num, by first | rfl | trivial, HX⟩
          case measure => have h1 : i < R.length := HL.out; simp [intOf]; omega
      · have HX := Hid.mk (hN2.out (fun e => he (by cases e; rfl)))
        have hXh : ¬ (X0 : Int) = h := by omega
        clear hlt hN2 hE hcel hRc hcm HNO he
        go_wp2
        go_roundw
        case rel => exact ⟨i + 1, HL.out, by first | rfl | go_num, by first | rfl | trivial, HX⟩
        case measure => have h1 : i < R.length := HL.out; simp [intOf]; omega
    · obtain rfl : i = R.length := by omega
      have hnm : (h, id) ∉ R := fun hm => by
        obtain ⟨j, hj, e⟩ := List.mem_iff_getElem.1 hm
        exact hN.out j hj hj e
      have hf : decide ((h, id) ∈ R) = false := decide_eq_false hnm
      have HF := Hid.mk hf
      have HN := Hid.mk (HNO.out hf)
      clear hlt hf hnm
      go_wp2
      go_ret
      exact ⟨ret_bool HF.out.symm, HN.out⟩
end Go.Proofs.Ytkijbphbibcnoaa
