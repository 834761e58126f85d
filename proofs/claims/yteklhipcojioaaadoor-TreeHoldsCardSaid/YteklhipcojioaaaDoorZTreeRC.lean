/-
  The document's tree: a key taken out.
-/
import Derived.Test.YteklhipcojioaaaDoorZTreeRA
import Derived.Test.YteklhipcojioaaaDoorZKitLast
namespace Go.Proofs.YteklhipcojioaaaDoor
open Go.RowKit Go.Deep Go.Maps Go.WideShapes

/-- A row of the call's own, made since w. -/
structure Apn {α : Type} (s : Srt α) (w w' : World) (v : Value) (l : List α) : Prop where
  row : Ow s w' v l
  new : ∀ g, v.ownBlock = some g → w.heap.size ≤ g
  below : Below w.heap.size w w'
theorem Apn.more {α : Type} {s : Srt α} {w w' w2 : World} {v v' : Value} {l l' : List α} (h : Apn s w w' v l) (h2 : Ow s w2 v' l') (hg : w'.grownBy w2 v.ownBlock) (ho : v'.ownBlock = v.ownBlock ∨ v'.ownBlock = some w'.heap.size) : Apn s w w2 v' l' :=
  ⟨h2, fun g e => by
    rcases ho with ho | ho
    · exact h.new g (ho ▸ e)
    · rw [ho] at e; cases e; exact h.below.size, h.below.grown hg h.below.size (fun k hk => h.new k hk)⟩
theorem Apn.up {α : Type} {s : Srt α} {w w' w2 : World} {v : Value} {l : List α} (h : Apn s w w' v l) (hb : Below w'.heap.size w' w2) : Apn s w w2 v l := ⟨h.row.up hb, h.new, h.below.trans (hb.mono h.below.size)⟩
theorem Apn.empty {α : Type} (s : Srt α) {w w' : World} (h : Up w w') : Apn s w (w'.alloc (.cells #[] s.t)) (.slice (some ⟨w'.heap.size, 0, none⟩) 0 0) [] := ⟨Ow.fresh (s := s) w' [] (by simp), fun g e => (by cases e; exact h.out.size), h.alloc.out⟩
/-- Elements behind an address appended, however their number is written. -/
theorem cs_append {α : Type} (s : Srt α) (w : World) (ty : TypeId) (v : Value) (l m : List α) (a : Option Addr) (n c : Nat) (h : Ow s w v l) (hc : Cs s w m a) (hn : a = none → c = 0) (he : n = m.length) (hl : l.length + m.length ≤ 100000000) : ∃ v' w', (Builtin.append_ #[s.st, s.st] ty #[v, .slice a n c]).run Tryd.prog w = .ok v' w' ∧
    Ow s w' v' (l ++ m) ∧ w.grownBy w' v.ownBlock ∧ (v'.ownBlock = v.ownBlock ∨ v'.ownBlock = some w.heap.size) := by
  subst he
  exact append_row s w ty v l m h _ _ hc hn hl
theorem exec_append {P : Program} {ev : Operand → Value} {w w' : World} {s x : Operand} {t tn ty : TypeId} {vs vx v' : Value} {ps : String} {af : Array Edge} {dst : Option Tmp} (hs : ev s = vs) (hx : ev x = vx) (hr : (Builtin.append_ #[t, tn] ty #[vs, vx]).run P w = .ok v' w') :
    (execOp ev ⟨dst, .call { callee := .builtin .append, args := #[s, x], argTypes := #[t, tn] }, ty, ps, af, none⟩).run P w = .ok (.value v') w' := by
  unfold execOp
  simp only [resolve, invoke, builtin, Sem.run_bind, Sem.run_pure, Result.andThen_ok, List.map_toArray, List.map_cons, List.map_nil, hs, hx, hr]
theorem exec_slice_low {P : Program} {ev : Operand → Value} {w : World} {s x : Operand} {t ty : TypeId} {vs vx v' : Value} {ps : String} {af : Array Edge} {dst : Option Tmp} (hs : ev s = vs) (hx : ev x = vx) (hr : (Instr.sliceAt t vs (some vx) none none).run P w = .ok v' w) :
    (execOp ev ⟨dst, .slice t s (some x) none none, ty, ps, af, none⟩).run P w = .ok (.value v') w := by
  unfold execOp
  simp only [Sem.run_bind, Sem.run_pure, Result.andThen_ok, hs, hx, Option.map_some, Option.map_none, hr]
set_option maxRecDepth 100000 in
/-- What is left of a row from a place on: the slice, and that it lies there. -/
theorem slice_low {α : Type} (s : Srt α) (hel : Tryd.prog.elem s.st = s.t) (b n c k : Nat) (hk : k ≤ n) (w : World) : (Instr.sliceAt s.st (.slice (some ⟨b, 0, none⟩) n c) (some (.int .i64 (k : Int))) none none).run Tryd.prog w = .ok (.slice (if c = k then some ⟨b, 0, none⟩ else some ⟨b, k * s.k, none⟩) (n - k) (c - k)) w := by
  have hu : Tryd.prog.underlying s.st = some (.slice (Tryd.prog.elem s.st)) := by rw [hel]; exact s.und
  obtain ⟨i, hi, _, hs, _⟩ := s.parts
  rw [run_sliceAt_slice _ _ _ _ _ _ hu, run_slice_l _ _ _ _ _ hu .i64 (k : Int) (by omega) (by omega), hel]
  simp only [sizeOf, typeInfo, Sem.run_bind, hi, run_program, Result.andThen_ok, Sem.run_pure, hs, sliced, Int.toNat_natCast, Option.map_some]
  congr 2
  split
  · rfl
  · show some (Addr.add ⟨b, 0, none⟩ (k * s.k)) = _
    rw [WideShapes.add_plain, Nat.zero_add]
theorem drop_low {α : Type} {s : Srt α} {w : World} {b c k : Nat} {R : List α} (h : Cs s w R (some ⟨b, 0, none⟩)) (hc : R.length ≤ c) : Cs s w (R.drop k) (if c = k then some ⟨b, 0, none⟩ else some ⟨b, k * s.k, none⟩) := by
  split
  · intro h0
    rw [List.length_drop] at h0
    omega
  · have := Cs.drop (n := k) h
    rwa [Nat.zero_add] at this

/-- What a call of the document's tree leaves. -/
def StRt (w : World) (q : Nat) (L' : List Nd) (F S : Nat → Prop) (w' : World) : Prop := ∃ S', Rt w' q L' F S' ∧ Only S w w' ∧ ∀ k, S' k → S k ∨ w.heap.size ≤ k
theorem Rt.step {w w' : World} {q : Nat} {L : List Nd} {F S : Nat → Prop} (h : Rt w q L F S) (hb : Below w.heap.size w w') : StRt w q L F S w' := ⟨S, h.up hb, Only.up hb, fun _ hk => Or.inl hk⟩
/-- A new row for the tree. -/
theorem rt_row {w w5 : World} {q : Nat} {v u : Value} {hs hs' : List Hdr} {L L' : List Nd} {F S : Nat → Prop} (h : RtS w q v hs L F S) (hF : ∀ b, F b → b < w.heap.size) (ha : Apn hdS w w5 u hs') (hl : hs'.length = L'.length)
    (hk : ∀ (i : Nat) (h : i < hs'.length) (h' : i < L'.length), Lies w F L'[i].1 hs'[i].tv ∧ hs'[i].num = L'[i].2) : StRt w q L' F S (w5.setCell ⟨q, 0, none⟩ u) := by
  have hql := h.lt q h.sq
  have hset : Only (fun k => k = q) w5 (w5.setCell ⟨q, 0, none⟩ u) := Only.set w5 _ rfl
  have hbox := (Only.up (S := fun _ => False) ha.below).box h.box (fun f => f)
  have hall : Only S w (w5.setCell ⟨q, 0, none⟩ u) := (Only.up ha.below).put h.sq _ _
  have huq : ∀ g, u.ownBlock = some g → g ≠ q := fun g hg e => by have := ha.new g hg; omega
  refine ⟨fun k => S k ∨ u.ownBlock = some k, ⟨u, hs', put_box hbox 0 u, ha.row.kept hset (fun g hg e => huq g hg e), hl, fun i h1 h2 => ⟨?_, (hk i h1 h2).2⟩, Or.inl h.sq, fun g hg => ⟨Or.inr hg, huq g hg⟩, fun k hk' => ?_, fun b hb hS => ?_⟩, hall, fun k hk' => ?_⟩
  · exact ((hk i h1 h2).1.below ha.below).move (fun _ h => h) (fun b o u hb hc => hset.cellS (fun e => h.apart b hb (e ▸ h.sq)) hc) _ _
  · rcases hk' with e | e
    · exact Nat.lt_of_lt_of_le (h.lt k e) hall.size
    · rw [size_setCell']; exact ha.row.lt e
  · rcases hS with e | e
    · exact h.apart b hb e
    · have := ha.new b e; have := hF b hb; omega
  · rcases hk' with e | e
    · exact Or.inl e
    · exact Or.inr (ha.new k e)

set_option maxHeartbeats 8000000 in
set_option maxRecDepth 100000 in
theorem removeR11_any (q : Nat) (L : List Nd) (F S F' : Nat → Prop) (T : Tm) (kv : Value) (w : World) (h : Rt w q L F S) (hk : Lies w F' T kv) (hF : ∀ b, F b → b < w.heap.size) (hL : L.length ≤ 1000000) :
    Calls Tryd.prog 41 #[.pointer (some ⟨q, 0, none⟩), kv] w fun e w' => e = .returned (.tuple #[.int .i64 (getN L T), .bool (isN L T)]) ∧ StRt w q (removeN L T) F S w' := by
  obtain ⟨kk, kn, ks, ka, km, kc, rfl⟩ := hk.agg
  obtain ⟨nb, W1, hnb, hW1, hu, b0, b1, b2, b3⟩ := boxed_key w kk kn ks ka km kc
  have HA := Hid.mk (atR11_any q L F S F' T _ W1 (h.up hu) (hk.below hu) hL)
  have HU := Hid.mk hu
  have HW := Hid.mk (And.intro hW1 hnb)
  unfold getN removeN
  cases hi : isN L T with
  | false =>
    rw [if_neg (by decide), if_neg (by decide)]
    rw [hi] at HA
    have HS := Hid.mk (fun (W : World) (hW : Below w.heap.size w W) => h.step hW)
    clear h hk hL hu hi hnb hW1 hF
    go_enter Tryd.func41, Tryd.ntmps41
    go_upto_region 1 with fail
    rw [HW.out.1, HW.out.2]
    go_wp2_with (go_at_call 65; refine HA.out.mono ?_; rintro e w2 ⟨rfl, hb⟩; have H2 := Hid.mk (HU.out.trans (hb.mono HU.out.size)); clear hb)
    go_ret2
    exact ⟨rfl, HS.out _ H2.out⟩
  | true =>
    rw [if_pos rfl, if_pos rfl]
    obtain ⟨hl, hz⟩ := isN_some hi
    have hn : numN L (atN L T) = (L[atN L T]'hl).2 := by unfold numN; rw [List.getElem?_eq_getElem hl]
    rw [hn]
    rw [hi] at HA
    generalize atN L T = I at *
    obtain ⟨v, hs, h⟩ := h
    obtain ⟨g, vc, x, rfl, hvc, _, _, _, _, y4, hly⟩ := h.at_ hl
    obtain ⟨c0, f0⟩ := h.cells
    have hgl : g < w.heap.size := World.block_lt_of_cell? w _ y4
    obtain ⟨_, _, e, _, hmx, _, hcs⟩ := h.row.cells
    simp only [Value.slice.injEq] at e
    obtain ⟨rfl, _, rfl⟩ := e
    have HCS := Hid.mk (fun (W : World) (hW : Below w.heap.size w W) => hcs.up hW)
    have HAT := Hid.mk (fun (W : World) (hW : Below w.heap.size w W) => And.intro (cell_below hW _ _ _ c0) (And.intro (cell_below hW _ _ _ y4) (show W.frozen? ⟨q, 0, none⟩ = false by rw [(bcell hW).2 _ _ (h.lt q h.sq)]; exact f0)))
    have hlen := h.len
    have HROW := Hid.mk (fun (w5 : World) (u : Value) (ha : Apn hdS w w5 u (hs.take I ++ hs.drop (I + 1))) => rt_row (L' := L.take I ++ L.drop (I + 1)) h hF ha (by simp [hlen]) (fun i h1 h2 => by
      have hx1 : (hs.take I ++ hs.drop (I + 1)).length = hs.length - 1 := by simp; omega
      rw [hx1] at h1
      by_cases e : i < I
      · rw [List.getElem_append_left (by rw [List.length_take]; omega), List.getElem_append_left (by rw [List.length_take]; omega), List.getElem_take, List.getElem_take]
        exact h.keys i (by omega) (by omega)
      · rw [List.getElem_append_right (by rw [List.length_take]; omega), List.getElem_append_right (by rw [List.length_take]; omega), List.getElem_drop, List.getElem_drop]
        have e1 : I + 1 + (i - (hs.take I).length) = i + 1 := by rw [List.length_take]; omega
        have e2 : I + 1 + (i - (L.take I).length) = i + 1 := by rw [List.length_take]; omega
        simp only [e1, e2]
        exact h.keys (i + 1) (by omega) (by omega)))
    generalize (L[I]'hl).2 = N at *
    have hIi : (I : Int) < L.length := by omega
    have hIv : (I : Int) ≤ vc := by omega
    have hvm : vc ≤ 9223372036854775807 := by unfold maxLen at hmx; omega
    have hwi : IntKind.i64.wrap ((I : Int) + 1) = ((I + 1 : Nat) : Int) := by rw [wrap_id (by omega) (by omega)]; omega
    have HN := Hid.mk (And.intro hlen (And.intro hvc (And.intro hL hl)))
    clear hly h hk hL hu hi hn hz hnb hW1 hF c0 f0 y4 hgl hcs hmx hlen hvc hl
    go_enter Tryd.func41, Tryd.ntmps41
    go_upto_region 1 with fail
    rw [HW.out.1, HW.out.2]
    go_upto_region 5 with (go_at_call 65; refine HA.out.mono ?_; rintro e w2 ⟨rfl, hb⟩; have H2 := Hid.mk (HU.out.trans (hb.mono HU.out.size)); obtain ⟨e0, y4, z0⟩ := HAT.out w2 (HU.out.trans (hb.mono HU.out.size)); clear hb)
    have f0 := z0
    refine wp_region_last (last := 19) (S := Up w2) (by kernel_rfl) ?_
    refine last_take (i := 0) (d := 25) (v := .pointer (some ⟨q, 0, none⟩)) rfl rfl (by kernel_rfl) (by kernel_rfl) (by kernel_rfl) (by kernel_rfl) rfl (fun _ _ => rfl) (fun _ _ _ h => h) (Up.refl w2).drew ?_
    simp only [Act.put, List.setIfInBounds_toArray, List.set_cons_zero, List.set_cons_succ]
    refine last_take (i := 2) (d := 27) (v := .pointer (some ⟨q, 0, none⟩)) rfl rfl (by kernel_rfl) (by kernel_rfl) (by kernel_rfl) (by kernel_rfl) rfl (fun _ _ => rfl) (fun _ _ _ h => h) (Up.refl w2).drew ?_
    simp only [Act.put, List.setIfInBounds_toArray, List.set_cons_zero, List.set_cons_succ]
    refine last_take (i := 3) (d := 28) (v := .pointer (some ⟨q, 0, none⟩)) rfl rfl (by kernel_rfl) (by kernel_rfl) (by kernel_rfl) (by kernel_rfl) rfl (fun _ _ => (by go_simp)) (fun _ _ _ h => h) (Up.refl w2).drew ?_
    simp only [Act.put, List.setIfInBounds_toArray, List.set_cons_zero, List.set_cons_succ]
    refine last_take (i := 4) (d := 29) (v := .pointer (some ⟨q, 0, none⟩)) rfl rfl (by kernel_rfl) (by kernel_rfl) (by kernel_rfl) (by kernel_rfl) rfl (fun _ _ => (by go_simp)) (fun _ _ _ h => h) (Up.refl w2).drew ?_
    simp only [Act.put, List.setIfInBounds_toArray, List.set_cons_zero, List.set_cons_succ]
    refine last_take (i := 5) (d := 30) (v := .slice (some ⟨g, 0, none⟩) L.length vc) rfl rfl (by kernel_rfl) (by kernel_rfl) (by kernel_rfl) (by kernel_rfl) rfl (fun W h => (by have u0 := cell_below h.out _ _ _ e0; go_simp)) (fun _ _ _ h => h) (Up.refl w2).drew ?_
    simp only [Act.put, List.setIfInBounds_toArray, List.set_cons_zero, List.set_cons_succ]
    refine last_take (i := 6) (d := 31) (v := .int .i64 I) rfl rfl (by kernel_rfl) (by kernel_rfl) (by kernel_rfl) (by kernel_rfl) rfl (fun _ _ => rfl) (fun _ _ _ h => h) (Up.refl w2).drew ?_
    simp only [Act.put, List.setIfInBounds_toArray, List.set_cons_zero, List.set_cons_succ]
    refine last_take (i := 7) (d := 32) (v := .slice (some ⟨g, 0, none⟩) I vc) rfl rfl (by kernel_rfl) (by kernel_rfl) (by kernel_rfl) (by kernel_rfl) rfl (fun _ _ => (by go_simp)) (fun _ _ _ h => h) (Up.refl w2).drew ?_
    simp only [Act.put, List.setIfInBounds_toArray, List.set_cons_zero, List.set_cons_succ]
    refine last_take (i := 9) (d := 34) (v := .pointer (some ⟨q, 0, none⟩)) rfl rfl (by kernel_rfl) (by kernel_rfl) (by kernel_rfl) (by kernel_rfl) rfl (fun _ _ => rfl) (fun _ _ _ h => h) (Up.refl w2).drew ?_
    simp only [Act.put, List.setIfInBounds_toArray, List.set_cons_zero, List.set_cons_succ]
    refine last_take (i := 10) (d := 35) (v := .pointer (some ⟨q, 0, none⟩)) rfl rfl (by kernel_rfl) (by kernel_rfl) (by kernel_rfl) (by kernel_rfl) rfl (fun _ _ => (by go_simp)) (fun _ _ _ h => h) (Up.refl w2).drew ?_
    simp only [Act.put, List.setIfInBounds_toArray, List.set_cons_zero, List.set_cons_succ]
    refine last_take (i := 11) (d := 36) (v := .pointer (some ⟨q, 0, none⟩)) rfl rfl (by kernel_rfl) (by kernel_rfl) (by kernel_rfl) (by kernel_rfl) rfl (fun _ _ => (by go_simp)) (fun _ _ _ h => h) (Up.refl w2).drew ?_
    simp only [Act.put, List.setIfInBounds_toArray, List.set_cons_zero, List.set_cons_succ]
    refine last_take (i := 12) (d := 37) (v := .slice (some ⟨g, 0, none⟩) L.length vc) rfl rfl (by kernel_rfl) (by kernel_rfl) (by kernel_rfl) (by kernel_rfl) rfl (fun W h => (by have u0 := cell_below h.out _ _ _ e0; go_simp)) (fun _ _ _ h => h) (Up.refl w2).drew ?_
    simp only [Act.put, List.setIfInBounds_toArray, List.set_cons_zero, List.set_cons_succ]
    refine last_take (i := 13) (d := 38) (v := .int .i64 I) rfl rfl (by kernel_rfl) (by kernel_rfl) (by kernel_rfl) (by kernel_rfl) rfl (fun _ _ => rfl) (fun _ _ _ h => h) (Up.refl w2).drew ?_
    simp only [Act.put, List.setIfInBounds_toArray, List.set_cons_zero, List.set_cons_succ]
    refine last_take (i := 14) (d := 39) (v := .int .i64 ((I + 1 : Nat) : Int)) rfl rfl (by kernel_rfl) (by kernel_rfl) (by kernel_rfl) (by kernel_rfl) rfl (fun _ _ => (by go_simp)) (fun _ _ _ h => h) (Up.refl w2).drew ?_
    simp only [Act.put, List.setIfInBounds_toArray, List.set_cons_zero, List.set_cons_succ]
    obtain ⟨dA, hdA⟩ : ∃ dA : Option Addr, (if vc = I + 1 then some ⟨g, 0, none⟩ else some ⟨g, (I + 1) * hdS.k, none⟩) = dA := ⟨_, rfl⟩
    have HSL := Hid.mk (fun W => slice_low hdS (by kernel_rfl) g L.length vc (I + 1) HN.out.2.2.2 W)
    have HDC := Hid.mk (fun (W : World) (hW : Below w.heap.size w W) => drop_low (k := I + 1) (HCS.out W hW) (by have := HN.out.1; have := HN.out.2.1; omega))
    have HDN := Hid.mk (show dA = none → vc - (I + 1) = 0 from fun e => (by rw [e] at hdA; split at hdA <;> cases hdA))
    rw [hdA] at HSL HDC
    clear hdA
    refine last_take (i := 15) (d := 40) (v := .slice dA (L.length - (I + 1)) (vc - (I + 1))) rfl rfl (by kernel_rfl) (by kernel_rfl) (by kernel_rfl) (by kernel_rfl) rfl (fun W _ => exec_slice_low rfl rfl (HSL.out W)) (fun _ _ _ h => h) (Up.refl w2).drew ?_
    simp only [Act.put, List.setIfInBounds_toArray, List.set_cons_zero, List.set_cons_succ]
    obtain ⟨WD, hWD⟩ : ∃ WD, ({ w2 with drawn := w2.drawn + 1 } : World) = WD := ⟨_, rfl⟩
    have HD : Up w2 WD := by rw [← hWD]; exact (Up.refl w2).drew
    rw [hWD]
    clear hWD
    have HD0 : Up w WD := H2.out.trans (HD.out.mono H2.out.size)
    have hE := Apn.empty hdS HD0
    have hup : ∀ W, Below w.heap.size w W → Below WD.heap.size WD W → Up w2 W := fun W _ h2 => HD.call h2
    obtain ⟨u1, w3, hr1, hi1, hg1, ho1⟩ := cs_append hdS (WD.alloc (.cells #[] hdS.t)) 26 _ [] (hs.take I) (some ⟨g, 0, none⟩) I vc hE.row (Cs.take (HCS.out _ hE.below) I) (fun e => (by cases e)) (by have := HN.out.1; have := HN.out.2.2.2; rw [List.length_take]; omega) (by have := HN.out.1; have := HN.out.2.2.1; simp; omega)
    have hA1 := hE.more hi1 hg1 ho1
    obtain ⟨u2, w4, hr2, hi2, hg2, ho2⟩ := cs_append hdS w3 26 u1 _ (hs.drop (I + 1)) dA (L.length - (I + 1)) (vc - (I + 1)) hA1.row (HDC.out _ hA1.below) HDN.out (by have := HN.out.1; rw [List.length_drop]; omega) (by have := HN.out.1; have := HN.out.2.2.1; simp; omega)
    have hA2 := hA1.more hi2 hg2 ho2
    -- the same, since w2
    have hE' := Apn.empty hdS HD
    have hA1' := hE'.more hi1 hg1 ho1
    have hA2' := hA1'.more hi2 hg2 ho2
    refine last_value (i := 1) (d := 26) (v := .slice (some ⟨WD.heap.size, 0, none⟩) 0 0) (w' := WD.alloc (.cells #[] hdS.t)) (by kernel_rfl) rfl rfl rfl (by show (_ : Result _) = _; unfold hdS; go_simp) hE'.below ?_
    simp only [Act.put, List.setIfInBounds_toArray, List.set_cons_zero, List.set_cons_succ]
    refine last_value (i := 8) (d := 33) (v := u1) (w' := w3) (by kernel_rfl) rfl rfl rfl (exec_append rfl rfl hr1) hA1'.below ?_
    simp only [Act.put, List.setIfInBounds_toArray, List.set_cons_zero, List.set_cons_succ]
    obtain ⟨ya, yc, e2, _⟩ := hi2.cells
    obtain ⟨M, hM⟩ : ∃ M, ([] ++ hs.take I ++ hs.drop (I + 1)).length = M := ⟨_, rfl⟩
    rw [hM] at e2
    subst e2
    clear hM
    refine last_value (i := 16) (d := 41) (v := _) (w' := w4) (by kernel_rfl) rfl rfl rfl (exec_append rfl rfl hr2) hA2'.below ?_
    simp only [Act.put, List.setIfInBounds_toArray, List.set_cons_zero, List.set_cons_succ]
    have k0 := cell_below hA2'.below _ _ _ e0
    have k1 : w4.frozen? ⟨q, 0, none⟩ = false := by
      have hh := HAT.out w4 hA2.below
      exact hh.2.2
    refine last_value (i := 17) (d := 42) (v := .pointer (some ⟨q, 0, none⟩)) (w' := w4) (by kernel_rfl) rfl rfl rfl (by go_simp) hA2'.below ?_
    simp only [Act.put, List.setIfInBounds_toArray, List.set_cons_zero, List.set_cons_succ]
    refine last_value (i := 18) (d := 43) (v := .pointer (some ⟨q, 0, none⟩)) (w' := w4) (by kernel_rfl) rfl rfl rfl (by go_simp) hA2'.below ?_
    simp only [Act.put, List.setIfInBounds_toArray, List.set_cons_zero, List.set_cons_succ]
    refine last_store (w' := w4.setCell ⟨q, 0, none⟩ (.slice ya M yc)) (by kernel_rfl) rfl rfl rfl (by go_simp) (by kernel_rfl) ?_
    have HP := Hid.mk (HROW.out _ _ (by have := hA2; rw [List.nil_append] at this; exact this))
    clear hr1 hi1 hg1 ho1 hr2 hi2 hg2 ho2 hA1 hA2 hA1' hA2' hE hE' HD HD0 hup k0 k1 e0 z0 f0 y4
    go_wp2
    go_ret2
    exact ⟨rfl, HP.out⟩
end Go.Proofs.YteklhipcojioaaaDoor

/-
  The document's tree: a key put.
-/
namespace Go.Proofs.YteklhipcojioaaaDoor
open Go.RowKit Go.Deep Go.Maps Go.WideShapes

set_option maxRecDepth 100000 in
/-- A slice cut at both ends, whatever it is of. -/
theorem slice_lo {α : Type} (s : Srt α) (hel : Tryd.prog.elem s.st = s.t) (a : Option Addr) (n c k : Nat) (hk : k ≤ n) (w : World) : (Instr.sliceAt s.st (.slice a n c) (some (.int .i64 (k : Int))) none none).run Tryd.prog w = .ok (.slice (if c = k then a else a.map (·.add (k * s.k))) (n - k) (c - k)) w := by
  have hu : Tryd.prog.underlying s.st = some (.slice (Tryd.prog.elem s.st)) := by rw [hel]; exact s.und
  obtain ⟨i, hi, _, hs, _⟩ := s.parts
  rw [run_sliceAt_slice _ _ _ _ _ _ hu, run_slice_l _ _ _ _ _ hu .i64 (k : Int) (by omega) (by omega), hel]
  simp only [sizeOf, typeInfo, Sem.run_bind, hi, run_program, Result.andThen_ok, Sem.run_pure, hs, sliced, Int.toNat_natCast]
set_option maxRecDepth 100000 in
theorem slice_hi {α : Type} (s : Srt α) (hel : Tryd.prog.elem s.st = s.t) (a : Option Addr) (ha : ∀ ad, a = some ad → ad.spot = none) (n c k : Nat) (hk : k ≤ c) (w : World) : (Instr.sliceAt s.st (.slice a n c) none (some (.int .i64 (k : Int))) none).run Tryd.prog w = .ok (.slice a k c) w := by
  have hu : Tryd.prog.underlying s.st = some (.slice (Tryd.prog.elem s.st)) := by rw [hel]; exact s.und
  obtain ⟨i, hi, _, hs, _⟩ := s.parts
  rw [run_sliceAt_slice _ _ _ _ _ _ hu, run_slice_h _ _ _ _ _ hu .i64 (k : Int) (by omega) (by omega), hel]
  simp only [sizeOf, typeInfo, Sem.run_bind, hi, run_program, Result.andThen_ok, Sem.run_pure, hs, sliced, Int.toNat_natCast, Nat.sub_zero]
  congr 2
  split
  · rfl
  · cases a with
    | none => rfl
    | some ad =>
      obtain ⟨b, o, sp⟩ := ad
      have := ha _ rfl
      simp only at this
      subst this
      show some (Addr.add ⟨b, o, none⟩ (0 * s.k)) = _
      rw [WideShapes.add_plain, Nat.zero_mul, Nat.add_zero]
theorem drop_lo {α : Type} {s : Srt α} {w : World} {a : Option Addr} {c k : Nat} {R : List α} (h : Cs s w R a) (hc : R.length ≤ c) : Cs s w (R.drop k) (if c = k then a else a.map (·.add (k * s.k))) := by
  by_cases hR : 0 < (R.drop k).length
  · rw [List.length_drop] at hR
    rw [if_neg (by omega)]
    obtain ⟨b, o, e, hx⟩ := h (by omega)
    subst e
    have := Cs.drop (n := k) h
    have e2 : Option.map (fun x => Addr.add x (k * s.k)) (some ⟨b, o, none⟩) = some ⟨b, o + k * s.k, none⟩ := congrArg some (WideShapes.add_plain ..)
    rw [e2]
    exact this
  · exact fun h0 => absurd h0 hR
theorem exec_slice_hi {P : Program} {ev : Operand → Value} {w : World} {s x : Operand} {t ty : TypeId} {vs vx v' : Value} {ps : String} {af : Array Edge} {dst : Option Tmp} (hs : ev s = vs) (hx : ev x = vx) (hr : (Instr.sliceAt t vs none (some vx) none).run P w = .ok v' w) :
    (execOp ev ⟨dst, .slice t s none (some x) none, ty, ps, af, none⟩).run P w = .ok (.value v') w := by
  unfold execOp
  simp only [Sem.run_bind, Sem.run_pure, Result.andThen_ok, hs, hx, Option.map_some, Option.map_none, hr]
/-- What a key's header says, with another number. -/
def Hdr.put (h : Hdr) (n : Int) : Hdr := { h with num := n }
theorem hd_put {x : Hdr} {r : List Hdr} (n : Int) : hdS.cs (x.put n :: r) = (hdS.cs (x :: r)).set 4 (.int .i64 n) := rfl
set_option maxHeartbeats 8000000 in
set_option maxRecDepth 100000 in
theorem putR11_is (q : Nat) (L : List Nd) (F S F' : Nat → Prop) (T : Tm) (n : Int) (kv : Value) (w : World) (h : Rt w q L F S) (hk : Lies w F' T kv) (hF : ∀ b, F b → b < w.heap.size) (hL : L.length ≤ 1000000) (hsz : T.size ≤ 1000000) (hck : T.check = 0) (hi : isN L T = true) :
    Calls Tryd.prog 39 #[.pointer (some ⟨q, 0, none⟩), kv, .int .i64 n] w fun e w' => e = .returned (.tuple #[.int .i64 (getN L T), .bool true, .int .i64 0]) ∧ StRt w q (putN L T n) F S w' := by
  obtain ⟨kk, kn, ks, ka, km, kc, rfl⟩ := hk.agg
  obtain ⟨nb, W1, hnb, hW1, hu, b0, b1, b2, b3⟩ := boxed_key w kk kn ks ka km kc
  have HC := Hid.mk (refcheck_any T hsz _ _ W1 (hk.below hu))
  rw [hck] at HC
  have HA := Hid.mk (fun (W : World) (hW : Below w.heap.size w W) => atR11_any q L F S F' T _ W (h.up hW) (hk.below hW) hL)
  rw [hi] at HA
  have HU := Hid.mk hu
  have HB := Hid.mk (And.intro b0 (And.intro b1 (And.intro b2 b3)))
  have HW := Hid.mk (And.intro hW1 hnb)
  obtain ⟨hl, hz⟩ := isN_some hi
  unfold getN putN
  rw [if_pos hi, if_pos hi]
  have hn : numN L (atN L T) = (L[atN L T]'hl).2 := by unfold numN; rw [List.getElem?_eq_getElem hl]
  have hkey : keyN L (atN L T) = (L[atN L T]'hl).1 := by unfold keyN; rw [List.getElem?_eq_getElem hl]
  rw [hn, hkey]
  generalize atN L T = I at *
  obtain ⟨v, hs, h⟩ := h
  obtain ⟨g, vc, x, rfl, hvc, _, _, _, _, y4, hly⟩ := h.at_ hl
  obtain ⟨c0, f0⟩ := h.cells
  obtain ⟨_, _, e, _, hmx, _, hcs⟩ := h.row.cells
  simp only [Value.slice.injEq] at e
  obtain ⟨rfl, hll, rfl⟩ := e
  have hlen := h.len
  have hIh : I < hs.length := by omega
  have hdr : hs.drop I = hs[I] :: hs.drop (I + 1) := List.drop_eq_getElem_cons hIh
  have HROW := Hid.mk (fun (w5 : World) (u : Value) (ha : Apn hdS w w5 u (hs.take I ++ (hs[I].put n :: hs.drop (I + 1)))) => rt_row (L' := L.set I ((L[I]'hl).1, n)) h hF ha (by simp [hlen]; omega) (fun i h1 h2 => by
    have h3 : i < L.length := by simpa using h2
    have hk := h.keys i (by omega) h3
    rw [List.getElem_set]
    by_cases e : i < I
    · rw [List.getElem_append_left (by rw [List.length_take]; omega), List.getElem_take, if_neg (by omega)]
      exact hk
    · have hlt : (hs.take I).length = I := by rw [List.length_take]; omega
      rw [List.getElem_append_right (by omega)]
      by_cases e2 : I = i
      · subst e2
        rw [if_pos rfl]
        have e3 : ((hs[I].put n :: hs.drop (I + 1))[I - (hs.take I).length]'(by simp; omega)) = hs[I].put n := by simp [hlt]
        rw [e3]
        exact ⟨hk.1, rfl⟩
      · rw [if_neg e2]
        have e3 : ((hs[I].put n :: hs.drop (I + 1))[i - (hs.take I).length]'(by simp; omega)) = hs[i]'(by omega) := by
          obtain ⟨j, hj⟩ : ∃ j, i = I + 1 + j := ⟨i - (I + 1), by omega⟩
          subst hj
          have e4 : I + 1 + j - (hs.take I).length = j + 1 := by omega
          simp only [e4, List.getElem_cons_succ, List.getElem_drop]
        rw [e3]
        exact hk))
  have HCS := Hid.mk (fun (W : World) (hW : Below w.heap.size w W) => hcs.up hW)
  have HAT := Hid.mk (fun (W : World) (hW : Below w.heap.size w W) => And.intro (cell_below hW _ _ _ c0) (show W.frozen? ⟨q, 0, none⟩ = false by rw [(bcell hW).2 _ _ (h.lt q h.sq)]; exact f0))
  have hnum : hs[I].num = (L[I]'hl).2 := (h.keys I hIh hl).2
  have hIi : (I : Int) < L.length := by omega
  have hIv : (I : Int) ≤ vc := by omega
  have hne : ¬ vc = I := by omega
  have hvm : vc ≤ 9223372036854775807 := by unfold maxLen at hmx; omega
  have HN := Hid.mk (And.intro hlen (And.intro hvc (And.intro hL (And.intro hl (And.intro hIh hdr)))))
  have HNU := Hid.mk hnum
  generalize (L[I]'hl).2 = N at *
  clear hll hly h hk hL hu hi hn hz hnb hW1 hF c0 f0 y4 hcs hmx hlen hvc hkey hnum hdr hck b0 b1 b2 b3
  obtain ⟨b0, b1, b2, b3⟩ := HB.out
  go_enter Tryd.func39, Tryd.ntmps39
  go_upto_region 1 with fail
  rw [HW.out.1, HW.out.2]
  go_upto_region 5 with (first
    | (go_at_call 65; refine (HA.out w2 H2.out).mono ?_; rintro e w3 ⟨rfl, hb⟩; have H3 := Hid.mk (H2.out.trans (hb.mono H2.out.size)); clear hb)
    | (go_at_call 64; refine HC.out.mono ?_; rintro e w2 ⟨rfl, hb⟩; have H2 := Hid.mk (HU.out.trans (hb.mono HU.out.size)); replace b0 := cell_below hb _ _ _ b0; replace b1 := cell_below hb _ _ _ b1; replace b2 := cell_below hb _ _ _ b2; replace b3 := cell_below hb _ _ _ b3; clear hb))
  obtain ⟨e0, f0⟩ := HAT.out w3 H3.out
  have hE := Apn.empty hdS H3.out
  have hcd : Cs hdS (w3.alloc (.cells #[] hdS.t)) (hs.drop I) (some ⟨g, I * 5, none⟩) := by
    have := Cs.drop (n := I) (HCS.out _ hE.below)
    rwa [Nat.zero_add] at this
  obtain ⟨u1, w4, hr1, hi1, hg1, ho1⟩ := cs_append hdS (w3.alloc (.cells #[] hdS.t)) 26 _ [] (hs.drop I) (some ⟨g, I * 5, none⟩) (L.length - I) (vc - I) hE.row hcd (fun e => (by cases e)) (by have := HN.out.1; rw [List.length_drop]; omega) (by have := HN.out.1; have := HN.out.2.2.1; simp; omega)
  have hA1 := hE.more hi1 hg1 ho1
  rw [List.nil_append, HN.out.2.2.2.2.2] at hA1
  obtain ⟨g1, c1, hu1, hc1, hm1⟩ := hA1.row.some_ (by rw [List.length_cons]; omega)
  obtain ⟨M1, hM1⟩ : ∃ M1, (hs[I]'HN.out.2.2.2.2.1 :: hs.drop (I + 1)).length = M1 := ⟨_, rfl⟩
  rw [hM1] at hu1 hc1
  subst hu1
  have y4 : w4.cell? ⟨g1, 4, none⟩ = some (.int .i64 N) := by
    have := hA1.row.cel (i := 0) (j := 4) (x := hs[I]'HN.out.2.2.2.2.1) rfl rfl
    rw [HNU.out] at this
    exact this
  have z4 := hA1.row.frozen 4
  have hp5 := hA1.row.put (m := (hs[I]'HN.out.2.2.2.2.1).put n :: hs.drop (I + 1)) 4 (.int .i64 n) (hd_put n) rfl
  obtain ⟨w5, hw5⟩ : ∃ w5, w4.setCell ⟨g1, 4, none⟩ (.int .i64 n) = w5 := ⟨_, rfl⟩
  have hb5 : Below w.heap.size w w5 := by rw [← hw5]; exact hA1.below.setCell (hA1.new g1 rfl) _
  rw [hw5] at hp5
  have hE2 := Apn.empty hdS hb5
  obtain ⟨u2, w6, hr2, hi2, hg2, ho2⟩ := cs_append hdS (w5.alloc (.cells #[] hdS.t)) 26 _ [] (hs.take I) (some ⟨g, 0, none⟩) I vc hE2.row (Cs.take (HCS.out _ hE2.below) I) (fun e => (by cases e)) (by have := HN.out.2.2.2.2.1; rw [List.length_take]; omega) (by have := HN.out.1; have := HN.out.2.2.1; simp; omega)
  have hA2 := hE2.more hi2 hg2 ho2
  have hb56 : Below w5.heap.size w5 w6 := ((Apn.empty hdS (Up.refl w5)).more hi2 hg2 ho2).below
  obtain ⟨pa, pc, pe, _, _, pn, pcs⟩ := (hp5.up hb56).cells
  have hM1' : ((hs[I]'HN.out.2.2.2.2.1).put n :: hs.drop (I + 1)).length = M1 := hM1
  rw [hM1'] at pe
  simp only [Value.slice.injEq, true_and] at pe
  obtain ⟨rfl, rfl⟩ := pe
  obtain ⟨u3, w7, hr3, hi3, hg3, ho3⟩ := cs_append hdS w6 26 u2 _ ((hs[I]'HN.out.2.2.2.2.1).put n :: hs.drop (I + 1)) (some ⟨g1, 0, none⟩) M1 c1 hA2.row pcs (fun e => (by cases e)) hM1'.symm (by have := HN.out.1; have := HN.out.2.2.1; simp; omega)
  have hA3 := hA2.more hi3 hg3 ho3
  rw [List.nil_append] at hA3
  obtain ⟨k0, k1⟩ := HAT.out w7 hA3.below
  obtain ⟨m0, _⟩ := HAT.out w5 hb5
  have HP := Hid.mk (HROW.out _ _ hA3)
  obtain ⟨ya, yc, eu, _⟩ := hA3.row.cells
  obtain ⟨M3, hM3⟩ : ∃ M3, (hs.take I ++ ((hs[I]'HN.out.2.2.2.2.1).put n :: hs.drop (I + 1))).length = M3 := ⟨_, rfl⟩
  rw [hM3] at eu
  subst eu
  have hM1p : (0 : Int) < M1 := by rw [← hM1, List.length_cons]; omega
  have e1 := cell_below (Up.alloc (Up.refl w3) (o := .cells #[] 73)).out _ _ _ e0
  have m1 := cell_below (Up.alloc (Up.refl w5) (o := .cells #[] 73)).out _ _ _ m0
  clear hi1 hg1 ho1 hA1 hi2 hg2 ho2 hA2 hi3 hg3 ho3 hA3 hE hE2 hcd hp5 hb5 hb56 hM1 hM1' hM3 pn pcs hc1 hm1 b0 b1 b2 b3
  go_upto_region 9 with (at_builtin; refine Lib.wpList_append_run _ rfl _ _ _ _ rfl _ _ rfl rfl _ _ hr1 ?_)
  skip
  clear hw5 y4 z4 hr1
  go_wp2_with (first
    | (at_builtin; refine Lib.wpList_append_run _ rfl _ _ _ _ rfl _ _ rfl rfl _ _ hr2 ?_)
    | (at_builtin; refine Lib.wpList_append_run _ rfl _ _ _ _ rfl _ _ rfl rfl _ _ hr3 ?_))
  refine bodyPost_ret (by simp [results]) rfl ⟨rfl, HP.out⟩
set_option maxHeartbeats 4000000 in
set_option maxRecDepth 100000 in
theorem putR11_bad (q : Nat) (L : List Nd) (F S F' : Nat → Prop) (T : Tm) (n : Int) (kv : Value) (w : World) (h : Rt w q L F S) (hk : Lies w F' T kv) (hsz : T.size ≤ 1000000) (hck : T.check ≠ 0) :
    Calls Tryd.prog 39 #[.pointer (some ⟨q, 0, none⟩), kv, .int .i64 n] w fun e w' => e = .returned (.tuple #[.int .i64 0, .bool false, .int .i64 T.check]) ∧ StRt w q L F S w' := by
  obtain ⟨kk, kn, ks, ka, km, kc, rfl⟩ := hk.agg
  obtain ⟨nb, W1, hnb, hW1, hu, b0, b1, b2, b3⟩ := boxed_key w kk kn ks ka km kc
  have HC := Hid.mk (refcheck_any T hsz _ _ W1 (hk.below hu))
  have HS := Hid.mk (fun (W : World) (hW : Below w.heap.size w W) => h.step hW)
  have HU := Hid.mk hu
  have HW := Hid.mk (And.intro hW1 hnb)
  generalize T.check = E at *
  have hE : ¬ E = 0 := hck
  clear h hk hsz hu hnb hW1 hck
  go_enter Tryd.func39, Tryd.ntmps39
  go_upto_region 1 with fail
  rw [HW.out.1, HW.out.2]
  go_wp2_with (go_at_call 64; refine HC.out.mono ?_; rintro e w2 ⟨rfl, hb⟩; have H2 := Hid.mk (HU.out.trans (hb.mono HU.out.size)); clear hb)
  refine bodyPost_ret (by simp [results]) rfl ⟨rfl, HS.out _ H2.out⟩
end Go.Proofs.YteklhipcojioaaaDoor

/-
  The document's tree: all keys.
-/
namespace Go.Proofs.YteklhipcojioaaaDoor
open Go.RowKit Go.Deep Go.Maps Go.WideShapes

/-- A term's four cells. -/
structure Th where
  k : Int
  n : Int
  s : ByteArray
  a : Option Addr
  m : Nat
  c : Nat
def Th.tv (h : Th) : Value := .agg #[.int .i64 h.k, .int .i64 h.n, .string h.s, .slice h.a h.m h.c]
theorem th_one : ∀ (h : Th) (u : Value), u ∈ [Value.int .i64 h.k, .int .i64 h.n, .string h.s, .slice h.a h.m h.c] → u.oneCell' = true := fun h u hu => by
  simp only [List.mem_cons, List.not_mem_nil, or_false] at hu
  rcases hu with rfl | rfl | rfl | rfl <;> rfl
def thS : Srt Th := { t := 32, st := 30, k := 4, enc := fun h => [.int .i64 h.k, .int .i64 h.n, .string h.s, .slice h.a h.m h.c], z := .agg #[.int .i64 0, .int .i64 0, .string ByteArray.empty, .slice none 0 0], bytes := 56, und := Tryd.underlying30, info := by kernel_rfl, zc := rfl, pos := by decide, few := by decide, len := fun _ => rfl, one := th_one }
/-- A row of terms, whose parts lie in blocks of F. -/
structure Tr (w : World) (F : Nat → Prop) (hs : List Th) (l : List Tm) : Prop where
  len : hs.length = l.length
  lies : ∀ (i : Nat) (h : i < hs.length) (h' : i < l.length), Lies w F l[i] hs[i].tv
theorem Tr.up {w w' : World} {F : Nat → Prop} {hs : List Th} {l : List Tm} (h : Tr w F hs l) (hb : Below w.heap.size w w') : Tr w' F hs l := ⟨h.len, fun i h1 h2 => (h.lies i h1 h2).below hb⟩
theorem Tr.kept {w w' : World} {F X : Nat → Prop} {hs : List Th} {l : List Tm} (h : Tr w F hs l) (ho : Only X w w') (hX : ∀ b, F b → ¬ X b) : Tr w' F hs l := ⟨h.len, fun i h1 h2 => (h.lies i h1 h2).move (fun _ h => h) (fun b _ _ hb hc => ho.cellS (hX b hb) hc) _ _⟩
theorem Tr.snoc {w : World} {F : Nat → Prop} {hs : List Th} {l : List Tm} (h : Tr w F hs l) (x : Th) (T : Tm) (hx : Lies w F T x.tv) : Tr w F (hs ++ [x]) (l ++ [T]) := by
  have hl := h.len
  refine ⟨by simp [hl], fun i h1 h2 => ?_⟩
  by_cases e : i < hs.length
  · rw [List.getElem_append_left e, List.getElem_append_left (by omega)]
    exact h.lies i e (by omega)
  · have hi : i = hs.length := by simp at h1; omega
    subst hi
    rw [List.getElem_append_right (Nat.le_refl _), List.getElem_append_right (by omega)]
    have e1 : hs.length - l.length = 0 := by omega
    simp only [Nat.sub_self, e1, List.getElem_cons_zero]
    exact hx
/-- .. is a list as calls are handed. -/
theorem tr_lst {w : World} {F : Nat → Prop} {v : Value} {hs : List Th} {l : List Tm} (h : Ow thS w v hs) (ht : Tr w F hs l) : ∃ a cap, v = .slice a l.length cap ∧ Lst w (fun b => F b ∨ v.ownBlock = some b) l a cap := by
  have hl := ht.len
  rcases h.2 with ⟨rfl, hn⟩ | ⟨g, cap, cur, rfl, hbg, hg, hc, hm, hcs, htk⟩
  · have : l = [] := List.eq_nil_of_length_eq_zero (by omega)
    subst this
    exact ⟨none, 0, rfl, lst_nil _ _⟩
  · refine ⟨_, cap, by rw [hl], by omega, hm, Or.inr ⟨_, rfl, fun _ => ⟨Or.inr rfl, rfl⟩, Row.of fun i hi => ?_⟩⟩
    have hih : i < hs.length := by omega
    have hx := List.getElem?_eq_getElem hih
    have c0 := h.cel hx (j := 0) rfl
    have c1 := h.cel hx (j := 1) rfl
    have c2 := h.cel hx (j := 2) rfl
    have c3 := h.cel hx (j := 3) rfl
    refine ⟨_, _, _, _, by rw [Nat.zero_add]; exact c0, by rw [Nat.zero_add]; exact c1, by rw [Nat.zero_add]; exact c2, by rw [Nat.zero_add]; exact c3, (ht.lies i hih hi).wider fun b hb => Or.inl hb⟩

set_option maxHeartbeats 4000000 in
set_option maxRecDepth 100000 in
theorem keysR_any (q : Nat) (L : List Nd) (F S : Nat → Prop) (w : World) (h : Rt w q L F S) (hF : ∀ b, F b → b < w.heap.size) (hL : L.length ≤ 100000) :
    Calls Tryd.prog 17 #[.pointer (some ⟨q, 0, none⟩)] w fun e w' => ∃ u hs, e = .returned u ∧ Apn thS w w' u hs ∧ Tr w' F hs (L.map (·.1)) := by
  have HR := Hid.mk (fun (W : World) (hW : Below w.heap.size w W) => h.up hW)
  obtain ⟨v, hs0, h⟩ := h
  obtain ⟨c0, _⟩ := h.cells
  obtain ⟨va, vc, rfl, _, _⟩ := h.slice
  have HL := Hid.mk hL
  have HS := Hid.mk (fun (W : World) (hW : Below w.heap.size w W) => h.up hW)
  clear h hL
  go_enter Tryd.func17, Tryd.ntmps17
  go_wp2
  go_loopw [3, 4] (fun u0 ii wr => ∃ (i : Nat) (uu : Value) (hs : List Th), i ≤ L.length ∧ uu = u0 ∧ ii = .int .i64 i ∧ Hid (Apn thS w wr uu hs ∧ Tr wr F hs ((L.take i).map (·.1)))) (fun _ ii _ => L.length - (intOf ii).toNat)
  case atStart => exact ⟨0, _, [], Nat.zero_le _, rfl, rfl, Hid.mk ⟨⟨Ow.nil _, fun g hg => (by cases hg), Below.refl _ _⟩, rfl, fun i h => by cases h⟩⟩
  case round =>
    obtain ⟨i, uu, hs, hi, rfl, rfl, hA⟩ := hrel
    have e0 := cell_below hA.out.1.below _ _ _ c0
    have hLL := HL.out
    by_cases hlt : i < L.length
    · obtain ⟨g, cap', x, hv, _, y0, y1, y2, y3, y4, hly⟩ := (HS.out _ hA.out.1.below).at_ hlt
      simp only [Value.slice.injEq, true_and] at hv
      obtain ⟨rfl, rfl⟩ := hv
      obtain ⟨xk, xn, xs, xa, xm, xc, xnum⟩ := x
      simp only at y0 y1 y2 y3
      have htk : (L.take (i + 1)).map (·.1) = (L.take i).map (·.1) ++ [(L[i]'hlt).1] := by rw [List.take_add_one, List.getElem?_eq_getElem hlt, List.map_append]; rfl
      have hli : (i : Int) < L.length := by omega
      have hwi : IntKind.i64.wrap ((i : Int) + 1) = ((i + 1 : Nat) : Int) := by rw [wrap_id (by omega) (by omega)]; omega
      have hlen : hs.length ≤ 100000 := by have := hA.out.2.len; rw [List.length_map, List.length_take] at this; omega
      obtain ⟨u2, w2, hr2, hi2, hg2, ho2⟩ := append_elem thS (wr.alloc (.cells #[.int .i64 xk, .int .i64 xn, .string xs, .slice xa xm xc] 32)) 30 uu hs ⟨xk, xn, xs, xa, xm, xc⟩ (hA.out.1.row.up (Up.alloc (Up.refl wr)).out) wr.heap.size (new_block _ _) rfl (by omega)
      have hA2 := (hA.out.1.up (Up.alloc (Up.refl wr)).out).more hi2 hg2 ho2
      have hon : Only (fun k => uu.ownBlock = some k) wr w2 := (Only.up (Up.alloc (Up.refl wr)).out).grow hg2 (fun k hk => hk)
      have hFX : ∀ b, F b → ¬ uu.ownBlock = some b := fun b hb e => by have := hA.out.1.new b e; have := hF b hb; omega
      have hlx : Lies w2 F (L[i]'hlt).1 (Th.tv ⟨xk, xn, xs, xa, xm, xc⟩) := hly.move (fun _ h => h) (fun b o u hb hc => hon.cellS (hFX b hb) hc) _ _
      have HA2 := Hid.mk (And.intro hA2 (show Tr w2 F (hs ++ [⟨xk, xn, xs, xa, xm, xc⟩]) ((L.take (i + 1)).map (·.1)) by rw [htk]; exact (hA.out.2.kept hon hFX).snoc _ _ hlx))
      have HI := Hid.mk hlt
      clear y4 hlt hLL htk hlen hi2 hg2 ho2 hA2 hon hFX hlx hly hA
      go_wp2_with (at_builtin; refine Lib.wpList_append_run _ rfl _ _ _ _ rfl _ _ rfl rfl _ _ hr2 ?_)
      go_roundw
      case rel => exact ⟨i + 1, _, _, HI.out, rfl, by first | rfl | go_num, HA2⟩
      case measure => have h1 : i < L.length := HI.out; simp [intOf]; omega
    · obtain rfl : i = L.length := by omega
      have hA' := hA.out
      rw [List.take_length] at hA'
      have HE := Hid.mk hA'
      clear hlt hLL hA' hA
      go_wp2
      go_ret
      exact ⟨_, _, rfl, HE.out⟩
end Go.Proofs.YteklhipcojioaaaDoor
