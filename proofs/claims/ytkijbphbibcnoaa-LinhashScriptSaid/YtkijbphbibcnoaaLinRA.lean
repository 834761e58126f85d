/-
  The document's buckets: an item put.
-/
import Derived.Test.YtkijbphbibcnoaaLinR
import Derived.Deep.DeepCutAuto
namespace Go.Proofs.Ytkijbphbibcnoaa
open Go.RowKit Go.Deep Go.Maps Go.WideShapes

section
variable {P : Program} {md : Region.Mode} {ops : Array Oper} {Q : Exit → Act → World → Prop} {S : World → Prop} {last fuel : Nat} {listed : Array Bool} {a : Act} {w : World}
/-- Two that make memory, in either order. -/
theorem last_fork {i j : Nat} {oi oj : Oper} {di dj : Tmp} {vi vj : Value} {wi wj : World} (hr : Region.ready md ops listed = [i, j])
    (hi : ops[i]? = some oi) (hdi : oi.dst = some di) (hwi : Region.wanted oi (yielded ops a.tmps) = true) (hxi : (execOp a.eval oi).run P w = .ok (.value vi) wi) (hSi : S wi)
    (hj : ops[j]? = some oj) (hdj : oj.dst = some dj) (hwj : Region.wanted oj (yielded ops a.tmps) = true) (hxj : (execOp a.eval oj).run P w = .ok (.value vj) wj) (hSj : S wj)
    (h1 : wpAnyM P md ops Q last S fuel (listed.setIfInBounds i true) (a.put (some di) vi) wi) (h2 : wpAnyM P md ops Q last S fuel (listed.setIfInBounds j true) (a.put (some dj) vj) wj) : wpAnyM P md ops Q last S (fuel + 1) listed a w := by
  refine ⟨fun h0 => absurd (hr ▸ h0) (by simp), hr ▸ fun k hk => ?_⟩
  rcases List.mem_cons.1 hk with rfl | hk
  · unfold wpOp
    simp only [hi]
    rw [if_pos hwi]
    refine .inl ?_
    unfold Oper.wp
    rw [hxi]
    exact ⟨fun _ => hSi, by rw [hdi]; exact h1⟩
  · obtain rfl := List.mem_singleton.1 hk
    unfold wpOp
    simp only [hj]
    rw [if_pos hwj]
    refine .inl ?_
    unfold Oper.wp
    rw [hxj]
    exact ⟨fun _ => hSj, by rw [hdj]; exact h2⟩
end
theorem exec_append {P : Program} {ev : Operand → Value} {w w' : World} {s x : Operand} {t tn ty : TypeId} {vs vx v' : Value} {ps : String} {af : Array Edge} {dst : Option Tmp} (hs : ev s = vs) (hx : ev x = vx) (hr : (Builtin.append_ #[t, tn] ty #[vs, vx]).run P w = .ok v' w') :
    (execOp ev ⟨dst, .call { callee := .builtin .append, args := #[s, x], argTypes := #[t, tn] }, ty, ps, af, none⟩).run P w = .ok (.value v') w' := by
  unfold execOp
  simp only [resolve, invoke, builtin, Sem.run_bind, Sem.run_pure, Result.andThen_ok, List.map_toArray, List.map_cons, List.map_nil, hs, hx, hr]
section
variable {w w4 : World} {q least g cap : Nat} {S : Nat → Prop} {B : Bks} {i : Nat} {l : List It} {y : Value}
/-- One row turned into a new one. -/
theorem rb_put (h : RbS w q least (.slice (some ⟨g, 0, none⟩) B.length cap) S B) (hi : i < B.length) (hb : Below w.heap.size w w4) (hy : Its w4 y l) (hn : ∀ b, y.ownBlock = some b → w.heap.size ≤ b) :
    StR w q least S (B.set i l) (w4.setCell ⟨g, i, none⟩ y) := by
  obtain ⟨ls, hg⟩ := h.gd
  obtain ⟨g', cap', x, hv, _, hgS, hx, _, _, _, _, hxg⟩ := hg.at_ outR hi
  simp only [Value.slice.injEq, Option.some.injEq, Addr.mk.injEq, and_true, true_and] at hv
  obtain ⟨rfl, rfl⟩ := hv
  obtain ⟨a, c, rfl, _⟩ := hy.slice
  have hgs := hg.set (y := ⟨a, l.length, c⟩) (w' := w4) outR (fun k hk => h.lt k hk.1) hx (Only.up hb) hy (fun b hb' => Or.inr (hn b hb'))
  have ho : Only S w (w4.setCell ⟨g, i, none⟩ (.slice a l.length c)) := (Only.up hb).put hgS.1 _ _
  refine ⟨fun k => S k ∨ (Value.slice a l.length c).ownBlock = some k, ⟨.slice (some ⟨g, 0, none⟩) B.length cap, ?_, ?_, Or.inl h.sq, fun k hk => ?_⟩, ho, fun k hk => ?_⟩
  · exact (Only.set (S := fun k => k = g) w4 (p := g) _ rfl).box ((Only.up (S := fun _ => False) hb).box h.box (fun f => f)) (fun e => hgS.2 e.symm)
  · refine Gd.wider ⟨_, hgs⟩ fun k hk => ?_
    rcases hk with hk | hk
    · exact ⟨Or.inl hk.1, hk.2⟩
    · exact ⟨Or.inr hk, fun e => (by have := hn k hk; have := h.lt q h.sq; omega)⟩
  · rcases hk with hk | hk
    · exact Nat.lt_of_lt_of_le (h.lt k hk) ho.size
    · have := hy.lt hk
      rw [size_setCell']
      exact this
  · rcases hk with hk | hk
    · exact Or.inl hk
    · exact Or.inr (hn k hk)
end
/-- An empty row, just made. -/
theorem its_empty (w : World) : Its (w.alloc (.cells #[] 54)) (.slice (some ⟨w.heap.size, 0, none⟩) 0 0) [] := Ow.fresh (s := itS) w [] (by decide)
/-- A row copied: []api.Item{} and what is appended to it. -/
theorem items_append (w : World) (v : Value) (l m : List It) (a : Option Addr) (n c : Nat) (h : Its w v l) (hm : Its w (.slice a n c) m) (hl : l.length + m.length ≤ 100000000) : ∃ v' w', (Builtin.append_ #[43, 43] 43 #[v, .slice a n c]).run Try.prog w = .ok v' w' ∧
    Its w' v' (l ++ m) ∧ w.grownBy w' v.ownBlock ∧ (v'.ownBlock = v.ownBlock ∨ v'.ownBlock = some w.heap.size) := by
  obtain ⟨a', c', e, _, _, hn, hc⟩ := hm.cells
  simp only [Value.slice.injEq] at e
  obtain ⟨rfl, rfl, rfl⟩ := e
  exact append_row itS w _ v l m h _ _ hc hn hl
theorem item_append (w : World) (v : Value) (l : List It) (x : It) (h : Its w v l) (b : Nat) (hb : w.heap[b]? = some (.cells #[.int .u32 x.1, .int .i64 x.2] 54)) (hl : l.length ≤ 1000000) : ∃ v' w', (Builtin.append_ #[43, 43] 43 #[v, .slice (some ⟨b, 0, none⟩) 1 1]).run Try.prog w = .ok v' w' ∧
    Its w' v' (l ++ [x]) ∧ w.grownBy w' v.ownBlock ∧ (v'.ownBlock = v.ownBlock ∨ v'.ownBlock = some w.heap.size) := append_elem itS w _ v l x h b hb rfl hl
/-- A row appended to, that was made since w. -/
structure App (w w' : World) (v : Value) (l : List It) : Prop where
  its : Its w' v l
  new : ∀ g, v.ownBlock = some g → w.heap.size ≤ g
  below : Below w.heap.size w w'
theorem App.more {w w' w2 : World} {v v' : Value} {l l' : List It} (h : App w w' v l) (h2 : Its w2 v' l') (hg : w'.grownBy w2 v.ownBlock) (ho : v'.ownBlock = v.ownBlock ∨ v'.ownBlock = some w'.heap.size) : App w w2 v' l' :=
  ⟨h2, fun g e => by
    rcases ho with ho | ho
    · exact h.new g (ho ▸ e)
    · rw [ho] at e; cases e; exact h.below.size, h.below.grown hg h.below.size (fun k hk => h.new k hk)⟩
theorem App.up {w w' w2 : World} {v : Value} {l : List It} (h : App w w' v l) (hb : Below w'.heap.size w' w2) : App w w2 v l := ⟨h.its.up hb, h.new, h.below.trans (hb.mono h.below.size)⟩
theorem App.empty {w w' : World} (h : Up w w') : App w (w'.alloc (.cells #[] 54)) (.slice (some ⟨w'.heap.size, 0, none⟩) 0 0) [] := ⟨its_empty w', fun g e => (by cases e; exact h.out.size), h.alloc.out⟩
theorem rowB_len_le (B : Bks) (n : Nat) : (rowB B n).length ≤ szB B := by
  by_cases h : n < B.length
  · have := szB_take h
    have := szB_take_le B (n + 1)
    rw [rowB_lt h]
    omega
  · rw [rowB_ge (by omega)]
    exact Nat.zero_le _
theorem grown_box' {w w2 : World} {r : Option Nat} {o : Obj} {k : Nat} (hg : w.grownBy w2 r) (hk : w.heap[k]? = some o) (hr : r ≠ some k) : w2.heap[k]? = some o := (Only.grown (S := fun k => r = some k) hg fun _ h => h).box hk hr
set_option maxHeartbeats 8000000 in
set_option maxRecDepth 100000 in
theorem addR_any (q least : Nat) (S : Nat → Prop) (B : Bks) (h : Nat) (id : Int) (w : World) (hb : Rb w q least S B) (hh : h < 4294967296) (h1 : 1 ≤ B.length) (h2 : B.length ≤ 1000000) (hu : szB B ≤ 100000) :
    Calls Try.prog 28 #[.pointer (some ⟨q, 0, none⟩), .int .u32 h, .int .i64 id] w fun e w' => e = .returned (.tuple #[.int .i64 (ofB B h), .int .i64 0]) ∧ StR w q least S (addB B h id) w' := by
  obtain ⟨v, hb⟩ := hb
  obtain ⟨c0, c1, f1⟩ := hb.cells
  have hlt := ofB_lt h1 h
  obtain ⟨g, cap, a', c, rfl, _, d0, z0, hrow⟩ := hb.at_ hlt
  have hln := rowB_len_le B (ofB B h)
  have ha := Hid.mk (lenR_any q least _ S B w hb (by omega) (by omega))
  have ho := Hid.mk (ofR_any q least S B h w ⟨_, hb⟩ hh h1 (by omega))
  rw [← rowB_lt hlt] at d0 hrow
  unfold addB
  generalize ofB B h = I at *
  obtain ⟨R, hR⟩ : ∃ R, rowB B I = R := ⟨_, rfl⟩
  rw [hR] at d0 hrow hln ⊢
  obtain ⟨N, hN⟩ : ∃ N, R.length = N := ⟨_, rfl⟩
  rw [hN] at d0 hrow hln
  have hlt' := hlt
  have HPUT := Hid.mk (fun (y : Value) (w4 : World) (hy : Its w4 y (R ++ [(h, id)])) hn hbl => rb_put (y := y) (w4 := w4) hb hlt' hbl hy hn)
  have HROW := Hid.mk (fun (w' : World) (hbl : Below w.heap.size w w') => hrow.up hbl)
  have HFR := Hid.mk (fun (w' : World) (hbl : Below w.heap.size w w') => (show w'.frozen? ⟨g, I, none⟩ = false ∧ ∃ u, w'.cell? ⟨g, I, none⟩ = some u from ⟨by rw [(bcell hbl).2 _ _ (World.block_lt_of_cell? w _ d0)]; exact z0, _, cell_below hbl _ _ _ d0⟩))
  have HLN := Hid.mk (show R.length ≤ 100000 by omega)
  obtain ⟨U, hU⟩ : ∃ U, szB B = U := ⟨_, rfl⟩
  rw [hU] at ha hu
  have hli : (I : Int) < B.length := by omega
  have hd : decide ((16777216 : Int) ≤ (U : Nat)) = false := by rw [decide_eq_false_iff_not]; omega
  clear hb hlt hln hrow z0 hR hN hU h1 h2 hlt' hh
  go_enter Try.func28, Try.ntmps28
  go_upto_region 4 with (first
    | (go_at_call 35; refine ha.out.mono ?_; rintro e x ⟨rfl, rfl⟩)
    | (go_at_call 48; refine ho.out.mono ?_; rintro e x ⟨rfl, rfl⟩))
  refine wp_region_last (last := 20) (S := Up w) (by kernel_rfl) ?_
  refine last_take (i := 0) (d := 15) (v := .pointer (some ⟨q, 0, none⟩)) rfl rfl (by kernel_rfl) (by kernel_rfl) (by kernel_rfl) (by kernel_rfl) rfl (fun _ _ => rfl) (fun _ _ _ h => h) (Up.refl w).drew ?_
  simp only [Act.put, List.setIfInBounds_toArray, List.set_cons_zero, List.set_cons_succ]
  refine last_take (i := 1) (d := 16) (v := .pointer (some ⟨q, 0, none⟩)) rfl rfl (by kernel_rfl) (by kernel_rfl) (by kernel_rfl) (by kernel_rfl) rfl (fun _ _ => (by go_simp)) (fun _ _ _ h => h) (Up.refl w).drew ?_
  simp only [Act.put, List.setIfInBounds_toArray, List.set_cons_zero, List.set_cons_succ]
  refine last_take (i := 2) (d := 17) (v := .pointer (some ⟨q, 1, none⟩)) rfl rfl (by kernel_rfl) (by kernel_rfl) (by kernel_rfl) (by kernel_rfl) rfl (fun _ _ => (by go_simp)) (fun _ _ _ h => h) (Up.refl w).drew ?_
  simp only [Act.put, List.setIfInBounds_toArray, List.set_cons_zero, List.set_cons_succ]
  refine last_take (i := 3) (d := 18) (v := .slice (some ⟨g, 0, none⟩) B.length cap) rfl rfl (by kernel_rfl) (by kernel_rfl) (by kernel_rfl) (by kernel_rfl) rfl (fun W h => (by have u0 := cell_below h.out _ _ _ c1; go_simp)) (fun _ _ _ h => h) (Up.refl w).drew ?_
  simp only [Act.put, List.setIfInBounds_toArray, List.set_cons_zero, List.set_cons_succ]
  refine last_take (i := 4) (d := 19) (v := .int .i64 I) rfl rfl (by kernel_rfl) (by kernel_rfl) (by kernel_rfl) (by kernel_rfl) rfl (fun _ _ => rfl) (fun _ _ _ h => h) (Up.refl w).drew ?_
  simp only [Act.put, List.setIfInBounds_toArray, List.set_cons_zero, List.set_cons_succ]
  refine last_take (i := 6) (d := 21) (v := .pointer (some ⟨q, 0, none⟩)) rfl rfl (by kernel_rfl) (by kernel_rfl) (by kernel_rfl) (by kernel_rfl) rfl (fun _ _ => rfl) (fun _ _ _ h => h) (Up.refl w).drew ?_
  simp only [Act.put, List.setIfInBounds_toArray, List.set_cons_zero, List.set_cons_succ]
  refine last_take (i := 7) (d := 22) (v := .pointer (some ⟨q, 0, none⟩)) rfl rfl (by kernel_rfl) (by kernel_rfl) (by kernel_rfl) (by kernel_rfl) rfl (fun _ _ => (by go_simp)) (fun _ _ _ h => h) (Up.refl w).drew ?_
  simp only [Act.put, List.setIfInBounds_toArray, List.set_cons_zero, List.set_cons_succ]
  refine last_take (i := 8) (d := 23) (v := .pointer (some ⟨q, 1, none⟩)) rfl rfl (by kernel_rfl) (by kernel_rfl) (by kernel_rfl) (by kernel_rfl) rfl (fun _ _ => (by go_simp)) (fun _ _ _ h => h) (Up.refl w).drew ?_
  simp only [Act.put, List.setIfInBounds_toArray, List.set_cons_zero, List.set_cons_succ]
  refine last_take (i := 9) (d := 24) (v := .slice (some ⟨g, 0, none⟩) B.length cap) rfl rfl (by kernel_rfl) (by kernel_rfl) (by kernel_rfl) (by kernel_rfl) rfl (fun W h => (by have u0 := cell_below h.out _ _ _ c1; go_simp)) (fun _ _ _ h => h) (Up.refl w).drew ?_
  simp only [Act.put, List.setIfInBounds_toArray, List.set_cons_zero, List.set_cons_succ]
  refine last_take (i := 10) (d := 25) (v := .int .i64 I) rfl rfl (by kernel_rfl) (by kernel_rfl) (by kernel_rfl) (by kernel_rfl) rfl (fun _ _ => rfl) (fun _ _ _ h => h) (Up.refl w).drew ?_
  simp only [Act.put, List.setIfInBounds_toArray, List.set_cons_zero, List.set_cons_succ]
  refine last_take (i := 11) (d := 26) (v := .pointer (some ⟨g, I, none⟩)) rfl rfl (by kernel_rfl) (by kernel_rfl) (by kernel_rfl) (by kernel_rfl) rfl (fun _ _ => (by go_simp)) (fun _ _ _ h => h) (Up.refl w).drew ?_
  simp only [Act.put, List.setIfInBounds_toArray, List.set_cons_zero, List.set_cons_succ]
  refine last_take (i := 12) (d := 27) (v := .slice a' N c) rfl rfl (by kernel_rfl) (by kernel_rfl) (by kernel_rfl) (by kernel_rfl) rfl (fun W h => (by have u0 := cell_below h.out _ _ _ d0; go_simp)) (fun _ _ _ h => h) (Up.refl w).drew ?_
  simp only [Act.put, List.setIfInBounds_toArray, List.set_cons_zero, List.set_cons_succ]
  refine last_take (i := 14) (d := 29) (v := .int .u32 h) rfl rfl (by kernel_rfl) (by kernel_rfl) (by kernel_rfl) (by kernel_rfl) rfl (fun _ _ => rfl) (fun _ _ _ h => h) (Up.refl w).drew ?_
  simp only [Act.put, List.setIfInBounds_toArray, List.set_cons_zero, List.set_cons_succ]
  refine last_take (i := 15) (d := 30) (v := .int .i64 id) rfl rfl (by kernel_rfl) (by kernel_rfl) (by kernel_rfl) (by kernel_rfl) rfl (fun _ _ => rfl) (fun _ _ _ h => h) (Up.refl w).drew ?_
  simp only [Act.put, List.setIfInBounds_toArray, List.set_cons_zero, List.set_cons_succ]
  refine last_take (i := 16) (d := 31) (v := .agg #[.int .u32 h, .int .i64 id]) rfl rfl (by kernel_rfl) (by kernel_rfl) (by kernel_rfl) (by kernel_rfl) rfl (fun _ _ => (by go_simp)) (fun _ _ _ h => h) (Up.refl w).drew ?_
  simp only [Act.put, List.setIfInBounds_toArray, List.set_cons_zero, List.set_cons_succ]
  obtain ⟨WD, hWD⟩ : ∃ WD, ({ w with drawn := w.drawn + 1 } : World) = WD := ⟨_, rfl⟩
  have HD : Up w WD := by rw [← hWD]; exact (Up.refl w).drew
  rw [hWD]
  clear hWD
  refine last_fork (i := 5) (j := 17) (di := 20) (dj := 32) (vi := .slice (some ⟨WD.heap.size, 0, none⟩) 0 0) (vj := .slice (some ⟨WD.heap.size, 0, none⟩) 1 1) (wi := WD.alloc (.cells #[] 54)) (wj := WD.alloc (.cells #[.int .u32 h, .int .i64 id] 54)) (by kernel_rfl) rfl rfl rfl (by go_simp) HD.alloc rfl rfl rfl (by go_simp) HD.alloc ?_ ?_
  · simp only [Act.put, List.setIfInBounds_toArray, List.set_cons_zero, List.set_cons_succ]
    have hE := App.empty HD
    obtain ⟨u3, w3, hr3, hi3, hg3, ho3⟩ := items_append (WD.alloc (.cells #[] 54)) _ [] _ _ _ _ hE.its (HROW.out _ (hE.below)) (by have := HLN.out; simp at *; omega)
    have hA3 := hE.more hi3 hg3 ho3
    refine last_fork (i := 13) (j := 17) (di := 28) (dj := 32) (vi := u3) (vj := .slice (some ⟨(WD.alloc (.cells #[] 54)).heap.size, 0, none⟩) 1 1) (wi := w3) (wj := (WD.alloc (.cells #[] 54)).alloc (.cells #[.int .u32 h, .int .i64 id] 54)) (by kernel_rfl) rfl rfl rfl (exec_append rfl rfl hr3) hA3.below rfl rfl rfl (by go_simp) (Up.alloc (Up.alloc HD)) ?_ ?_
    · simp only [Act.put, List.setIfInBounds_toArray, List.set_cons_zero, List.set_cons_succ]
      have hA4 := hA3.up (Up.alloc (Up.refl w3) (o := .cells #[.int .u32 h, .int .i64 id] 54)).out
      refine last_value (i := 17) (d := 32) (v := .slice (some ⟨w3.heap.size, 0, none⟩) 1 1) (w' := w3.alloc (.cells #[.int .u32 h, .int .i64 id] 54)) (by kernel_rfl) rfl rfl rfl (by go_simp) (hA4.below) ?_
      simp only [Act.put, List.setIfInBounds_toArray, List.set_cons_zero, List.set_cons_succ]
      obtain ⟨y, w9, hr9, hi9, hg9, ho9⟩ := item_append (w3.alloc (.cells #[.int .u32 h, .int .i64 id] 54)) _ _ (h, id) hA4.its (w3.heap.size) (new_block _ _) (by have := HLN.out; simp at *; omega)
      have hA9 := hA4.more hi9 hg9 ho9
      obtain ⟨ya, yc, rfl, _⟩ := hi9.slice
      refine last_value (i := 18) (d := 33) (v := _) (w' := w9) (by kernel_rfl) rfl rfl rfl (exec_append rfl rfl hr9) (hA9.below) ?_
      simp only [Act.put, List.setIfInBounds_toArray, List.set_cons_zero, List.set_cons_succ]
      obtain ⟨hz9, z9, hc9⟩ := HFR.out _ hA9.below
      refine last_take (i := 19) (d := 34) (v := .pointer (some ⟨g, I, none⟩)) rfl rfl (by kernel_rfl) (by kernel_rfl) (by kernel_rfl) (by kernel_rfl) rfl (fun _ _ => (by go_simp)) (fun _ _ _ h => h) hA9.below ?_
      simp only [Act.put, List.setIfInBounds_toArray, List.set_cons_zero, List.set_cons_succ]
      refine last_store (w' := w9.setCell ⟨g, I, none⟩ (.slice ya (R ++ [(h, id)]).length yc)) (by kernel_rfl) rfl rfl rfl (by go_simp) (by kernel_rfl) ?_
      have HP := Hid.mk (HPUT.out _ _ hA9.its hA9.new hA9.below)
      go_wp2
      go_ret2
      exact ⟨rfl, HP.out⟩
    · simp only [Act.put, List.setIfInBounds_toArray, List.set_cons_zero, List.set_cons_succ]
      have hE2 := hE.up (Up.alloc (Up.refl _) (o := .cells #[.int .u32 h, .int .i64 id] 54)).out
      obtain ⟨u5, w5, hr5, hi5, hg5, ho5⟩ := items_append ((WD.alloc (.cells #[] 54)).alloc (.cells #[.int .u32 h, .int .i64 id] 54)) _ [] _ _ _ _ hE2.its (HROW.out _ (hE2.below)) (by have := HLN.out; simp at *; omega)
      have hA5 := hE2.more hi5 hg5 ho5
      refine last_value (i := 13) (d := 28) (v := u5) (w' := w5) (by kernel_rfl) rfl rfl rfl (exec_append rfl rfl hr5) (hA5.below) ?_
      simp only [Act.put, List.setIfInBounds_toArray, List.set_cons_zero, List.set_cons_succ]
      obtain ⟨y, w9, hr9, hi9, hg9, ho9⟩ := item_append (w5) _ _ (h, id) hA5.its ((WD.alloc (.cells #[] 54)).heap.size) (grown_box' hg5 (new_block _ _) (fun e => (by simp [Value.ownBlock] at e))) (by have := HLN.out; simp at *; omega)
      have hA9 := hA5.more hi9 hg9 ho9
      obtain ⟨ya, yc, rfl, _⟩ := hi9.slice
      refine last_value (i := 18) (d := 33) (v := _) (w' := w9) (by kernel_rfl) rfl rfl rfl (exec_append rfl rfl hr9) (hA9.below) ?_
      simp only [Act.put, List.setIfInBounds_toArray, List.set_cons_zero, List.set_cons_succ]
      obtain ⟨hz9, z9, hc9⟩ := HFR.out _ hA9.below
      refine last_take (i := 19) (d := 34) (v := .pointer (some ⟨g, I, none⟩)) rfl rfl (by kernel_rfl) (by kernel_rfl) (by kernel_rfl) (by kernel_rfl) rfl (fun _ _ => (by go_simp)) (fun _ _ _ h => h) hA9.below ?_
      simp only [Act.put, List.setIfInBounds_toArray, List.set_cons_zero, List.set_cons_succ]
      refine last_store (w' := w9.setCell ⟨g, I, none⟩ (.slice ya (R ++ [(h, id)]).length yc)) (by kernel_rfl) rfl rfl rfl (by go_simp) (by kernel_rfl) ?_
      have HP := Hid.mk (HPUT.out _ _ hA9.its hA9.new hA9.below)
      go_wp2
      go_ret2
      exact ⟨rfl, HP.out⟩
  · simp only [Act.put, List.setIfInBounds_toArray, List.set_cons_zero, List.set_cons_succ]
    have hX := Up.alloc HD (o := .cells #[.int .u32 h, .int .i64 id] 54)
    have hE3 := App.empty hX
    refine last_value (i := 5) (d := 20) (v := .slice (some ⟨(WD.alloc (.cells #[.int .u32 h, .int .i64 id] 54)).heap.size, 0, none⟩) 0 0) (w' := (WD.alloc (.cells #[.int .u32 h, .int .i64 id] 54)).alloc (.cells #[] 54)) (by kernel_rfl) rfl rfl rfl (by go_simp) (hE3.below) ?_
    simp only [Act.put, List.setIfInBounds_toArray, List.set_cons_zero, List.set_cons_succ]
    obtain ⟨u6, w6, hr6, hi6, hg6, ho6⟩ := items_append ((WD.alloc (.cells #[.int .u32 h, .int .i64 id] 54)).alloc (.cells #[] 54)) _ [] _ _ _ _ hE3.its (HROW.out _ (hE3.below)) (by have := HLN.out; simp at *; omega)
    have hA6 := hE3.more hi6 hg6 ho6
    refine last_value (i := 13) (d := 28) (v := u6) (w' := w6) (by kernel_rfl) rfl rfl rfl (exec_append rfl rfl hr6) (hA6.below) ?_
    simp only [Act.put, List.setIfInBounds_toArray, List.set_cons_zero, List.set_cons_succ]
    obtain ⟨y, w9, hr9, hi9, hg9, ho9⟩ := item_append (w6) _ _ (h, id) hA6.its (WD.heap.size) (grown_box' hg6 (new_block1 _ _ _) (fun e => (by simp [Value.ownBlock] at e))) (by have := HLN.out; simp at *; omega)
    have hA9 := hA6.more hi9 hg9 ho9
    obtain ⟨ya, yc, rfl, _⟩ := hi9.slice
    refine last_value (i := 18) (d := 33) (v := _) (w' := w9) (by kernel_rfl) rfl rfl rfl (exec_append rfl rfl hr9) (hA9.below) ?_
    simp only [Act.put, List.setIfInBounds_toArray, List.set_cons_zero, List.set_cons_succ]
    obtain ⟨hz9, z9, hc9⟩ := HFR.out _ hA9.below
    refine last_take (i := 19) (d := 34) (v := .pointer (some ⟨g, I, none⟩)) rfl rfl (by kernel_rfl) (by kernel_rfl) (by kernel_rfl) (by kernel_rfl) rfl (fun _ _ => (by go_simp)) (fun _ _ _ h => h) hA9.below ?_
    simp only [Act.put, List.setIfInBounds_toArray, List.set_cons_zero, List.set_cons_succ]
    refine last_store (w' := w9.setCell ⟨g, I, none⟩ (.slice ya (R ++ [(h, id)]).length yc)) (by kernel_rfl) rfl rfl rfl (by go_simp) (by kernel_rfl) ?_
    have HP := Hid.mk (HPUT.out _ _ hA9.its hA9.new hA9.below)
    go_wp2
    go_ret2
    exact ⟨rfl, HP.out⟩
end Go.Proofs.Ytkijbphbibcnoaa
