/-
  The program's tree: Remove.
-/
import Derived.Test.YteklhipcojioaaaDoorZTreePl
namespace Go.Proofs.YteklhipcojioaaaDoor
open Go.RowKit Go.Deep Go.Maps Go.WideShapes

set_option maxHeartbeats 16000000 in
set_option maxRecDepth 100000 in
theorem removeT_any (p : Nat) (t : Bt) (cm : Int) (K F' : Nat → Prop) (T : Tm) (kv : Value) (w : World) (h : TpB w p t cm K) (hk : Lies w F' T kv) (hkp : ¬ F' p) (hz : t.list.length ≤ 700000) (hcm : 0 ≤ cm ∧ cm ≤ 1000000000000) :
    Calls Tryd.prog 22 #[.pointer (some ⟨p, 0, none⟩), kv] w fun e w' => e = .returned (.tuple #[.int .i64 (getN (ndsB t.list) T), .bool (isN (ndsB t.list) T)]) ∧ TurnT w p t cm K (removeN (ndsB t.list) T) w' := by
  obtain ⟨kk, kn, ks, ka, km, kc, rfl⟩ := hk.agg
  obtain ⟨nb, W1, hnb, hW1, hu, b0, b1, b2, b3⟩ := boxed_key w kk kn ks ka km kc
  have h1 := h.up hu
  obtain ⟨c0, _, _, _⟩ := h1.cells
  have HD := Hid.mk (downB_any p t.list.length cm T t K F' _ W1 h1.lay h1.top (List.nodup_cons.1 h.nd).1 (hk.below hu) hkp h.bal h.rise (by omega) hcm (fun e he => (h1.keys e he).1) (fun hK => (h.kk p hK).2.1 rfl))
  have HT := Hid.mk h1
  have HU := Hid.mk hu
  have HW := Hid.mk (And.intro hW1 hnb)
  have HZ := Hid.mk hz
  have HLT := Hid.mk (show ∀ k, k = p ∨ k ∈ t.blocks ∨ K k → k < nb from fun k hk => hnb ▸ h.lt k hk)
  have HKK := Hid.mk (show ∀ b, K b → b ≠ p ∧ b ∉ t.blocks from fun b hb => (h.kk b hb).2)
  have HPT := Hid.mk (List.nodup_cons.1 h.nd).1
  clear h h1 hk hkp hz hcm hu hnb hW1
  go_enter Tryd.func22, Tryd.ntmps22
  go_upto_region 1 with fail
  rw [HW.out.1, HW.out.2]
  go_upto_region 4 with (first
    | (go_at_call 52; refine HD.out.mono ?_; rintro e w2 ⟨v, d, rfl, hd⟩; have HDD := Hid.mk hd; clear hd)
    | (go_at_call 37; refine (madeT_any _ _ c0).mono ?_; rintro e w2 ⟨rfl, rfl⟩))
  clear b0 b1 b2 b3 c0
  obtain ⟨cm', hT3, ho3, hle3, hlow3, hlt3⟩ := DownB.tp HT.out HDD.out
  obtain ⟨c, t2, d1, d2, d3, d4, d5, d6, d7, d8, d9⟩ := HDD.out
  have hcnt := fill_cnt t2 c
  rw [d1] at hcnt
  have hperm := fill_blocks t2 c
  rw [d1] at hperm
  have hOB : Only (fun k => k = p) w w2 := (Only.up (S := fun k => k = p) HU.out).trans ho3 (fun k hk => Or.inl hk)
  cases d with
  | false =>
    obtain rfl := d4 rfl
    have HV := Hid.mk (show isN (ndsB t.list) T = false from d1 ▸ d2.none.2.2)
    have HP := Hid.mk (show TurnT w p t cm K (removeN (ndsB t.list) T) w2 from by
      rw [removeN_none HV.out]
      exact LookT.turn ⟨cm', hT3, hOB, hle3, hlow3, hlt3⟩)
    clear d1 d2 d3 d4 d5 d6 d7 d8 d9 hT3 ho3 hle3 hlow3 hlt3 hcnt hperm hOB
    go_wp2
    have h0 : getN (ndsB t.list) T = 0 := by unfold getN; rw [HV.out]; rfl
    refine bodyPost_ret (v := .tuple #[.int .i64 0, .bool false]) (by simp [results]) rfl ⟨by rw [h0, HV.out], HP.out⟩
  | true =>
    obtain ⟨g, e, x, l, r, rfl, hcz⟩ := d3 rfl
    have hrise : RisingN (ndsB (Bt.node g e x l r).list) := fill_rising (c := c) (by rw [d1]; exact HT.out.rise)
    obtain ⟨k1, k2, k3⟩ := d2.here hrise hcz
    rw [d1] at k1
    have HV := Hid.mk (show isN (ndsB t.list) T = true ∧ getN (ndsB t.list) T = e.h.num ∧ removeN (ndsB t.list) T = ndsB (preC c ++ l.list) ++ ndsB (r.list ++ postC c) from by
      rw [k1]
      exact ⟨(isN_here k2 k3).2, getN_here k2 k3, removeN_here k2 k3⟩)
    obtain ⟨x2, x3⟩ := CtxB.split (c := c) (t := .node g e x l r) (by rw [d1]; exact hT3.lay) (by rw [d1]; exact hT3.top)
    have HL := Hid.mk (lastB_any p v c w2 d5 (by have := HZ.out; omega))
    obtain ⟨cs, ty, q1, q2, _⟩ := x3.link
    have lk : w2.cell? ⟨(linkC p c).1, (linkC p c).2, none⟩ = some (.pointer (some ⟨g, 0, none⟩)) := by simp only [World.cell?, q1]; exact q2
    obtain ⟨lp, hlp⟩ := ptrB_is l
    obtain ⟨rp, hrp⟩ := ptrB_is r
    have y4 : w2.cell? ⟨g, 4, none⟩ = some (.int .i64 e.h.num) := by simp [World.cell?, x2.1, cellsB]
    have y6 : w2.cell? ⟨g, 6, none⟩ = some (.pointer lp) := by rw [← hlp]; simp [World.cell?, x2.1, cellsB]
    have y7 : w2.cell? ⟨g, 7, none⟩ = some (.pointer rp) := by rw [← hrp]; simp [World.cell?, x2.1, cellsB]
    obtain ⟨Lb, hLb⟩ : ∃ Lb, (linkC p c).1 = Lb := ⟨_, rfl⟩
    obtain ⟨Lo', hLo⟩ : ∃ Lo', (linkC p c).2 = Lo' := ⟨_, rfl⟩
    rw [hLb, hLo] at lk HL
    have HX := Hid.mk (show fillB (.node g e x l r) c = t ∧ LayB w2 (.node g e x l r) ∧ CtxB w2 p t.list.length cm' c (ptrB (.node g e x l r)) ∧ t.blocks.Perm ((Bt.node g e x l r).blocks ++ blocksC c) ∧ Ow wayS w2 v (waysC p c) ∧ (∀ k, v.ownBlock = some k → W1.heap.size ≤ k) from ⟨d1, x2, x3, hperm, d5, d6⟩)
    have HLK := Hid.mk (show TpB w2 p t cm' K ∧ Only (fun k => k = p) w w2 ∧ cm ≤ cm' ∧ LowI (cm' - cm) t.list.length ∧ c.length + (Bt.node g e x l r).list.length ≤ t.list.length from ⟨hT3, hOB, hle3, hlow3, hcnt⟩)
    have HRP := Hid.mk (And.intro hlp hrp)
    clear hrise k1 k2 k3 d1 d2 d3 d4 d5 d6 d7 d8 d9 q1 q2 hLb hLo hcz hcnt hperm hT3 ho3 hle3 hlow3 hlt3 hOB x2 x3 hlp hrp
    go_upto_region 7 with (go_at_call 53; refine HL.out.mono ?_; rintro en w4 ⟨rfl, rfl⟩)
    refine region_up (W := w2) (by kernel_rfl) (by kernel_rfl) (Up.refl _) ?_
    refine quiet_value (v := .pointer (some ⟨g, 0, none⟩)) rfl (fun _ _ => rfl) ?_
    simp only [Act.put, List.setIfInBounds_toArray, List.set_cons_zero, List.set_cons_succ]
    refine quiet_value (v := .pointer (some ⟨g, 0, none⟩)) rfl (fun _ _ => (by go_simp)) ?_
    simp only [Act.put, List.setIfInBounds_toArray, List.set_cons_zero, List.set_cons_succ]
    refine quiet_value (v := .pointer (some ⟨g, 4, none⟩)) rfl (fun _ _ => (by go_simp)) ?_
    simp only [Act.put, List.setIfInBounds_toArray, List.set_cons_zero, List.set_cons_succ]
    refine quiet_value (v := .int .i64 e.h.num) rfl (fun W h => (by have u0 := cell_below h.out _ _ _ y4; go_simp)) ?_
    simp only [Act.put, List.setIfInBounds_toArray, List.set_cons_zero, List.set_cons_succ]
    refine quiet_value (v := .pointer (some ⟨g, 0, none⟩)) rfl (fun _ _ => rfl) ?_
    simp only [Act.put, List.setIfInBounds_toArray, List.set_cons_zero, List.set_cons_succ]
    refine quiet_value (v := .pointer (some ⟨g, 0, none⟩)) rfl (fun _ _ => (by go_simp)) ?_
    simp only [Act.put, List.setIfInBounds_toArray, List.set_cons_zero, List.set_cons_succ]
    refine quiet_value (v := .pointer (some ⟨g, 6, none⟩)) rfl (fun _ _ => (by go_simp)) ?_
    simp only [Act.put, List.setIfInBounds_toArray, List.set_cons_zero, List.set_cons_succ]
    refine quiet_value (v := .pointer (some ⟨g, 7, none⟩)) rfl (fun _ _ => (by go_simp)) ?_
    simp only [Act.put, List.setIfInBounds_toArray, List.set_cons_zero, List.set_cons_succ]
    refine quiet_value (v := .pointer rp) rfl (fun W h => (by have u0 := cell_below h.out _ _ _ y7; go_simp)) ?_
    simp only [Act.put, List.setIfInBounds_toArray, List.set_cons_zero, List.set_cons_succ]
    refine quiet_value (v := .int .i64 e.h.num) rfl (fun _ _ => rfl) ?_
    simp only [Act.put, List.setIfInBounds_toArray, List.set_cons_zero, List.set_cons_succ]
    refine quiet_value (v := .pointer rp) rfl (fun _ _ => rfl) ?_
    simp only [Act.put, List.setIfInBounds_toArray, List.set_cons_zero, List.set_cons_succ]
    refine quiet_nil ?_
    intro w3 hw3
    have HB3 := Hid.mk hw3.out
    replace y6 := cell_below hw3.out _ _ _ y6
    clear hw3 y4 y7 lk
    cases l with
    | nil =>
      obtain rfl : none = lp := by have := HRP.out.1; simpa [ptrB] using this
      go_upto_region 13 with fail
      obtain ⟨d1, x2, x3, hperm, d5, d6⟩ := HX.out
      obtain ⟨tp3, to3, tl3, tlow3, hcnt⟩ := HLK.out
      have hbal0 := fill_bal (t := .node g e x .nil r) (c := c) (by rw [d1]; exact tp3.bal)
      obtain ⟨bh, _, bhh, _, br⟩ := hbal0
      have hr0 := br.pos
      have hbk := bk_ok (t0 := .node g e x .nil r) (t := r) (c := c) (by rw [d1]; exact tp3.bal) br.ready (by rw [br.lvl, ht_node, bh, ht_nil]; omega) (by rw [br.lvl, ht_node, bh, ht_nil]; rw [ht_nil] at bhh; omega)
      have hlist0 : t.list = preC c ++ e :: (r.list ++ postC c) := by rw [← d1, fill_list]; simp [Bt.list]
      have hnd := (List.Perm.nodup_iff (hperm.cons p)).1 tp3.nd
      simp only [Bt.blocks, List.nil_append, List.cons_append, List.nodup_cons, List.mem_cons, List.mem_append, not_or] at hnd
      have hsub : ∀ k, k ∈ r.blocks ++ blocksC c → k ∈ t.blocks := fun k hk => (List.Perm.mem_iff hperm).2 (by simp only [Bt.blocks, List.nil_append, List.cons_append]; exact List.mem_cons_of_mem _ hk)
      have hcut : CutB p t cm' K (removeN (ndsB t.list) T) w w3 v c r := by
        refine ⟨d5.up HB3.out, fun k hk => Nat.le_trans HU.out.size (d6 k hk), x2.2.2.up HB3.out, ⟨_, x3.up HB3.out⟩, List.nodup_cons.2 ⟨fun hm => by rcases List.mem_append.1 hm with e1 | e1; exact hnd.1.2.1 e1; exact hnd.1.2.2 e1, hnd.2.2⟩, hbk.1, hbk.2, ?_, tp3.rise.remove T, hsub, fun e' he' => ?_, ?_, ?_⟩
        · rw [HV.out.2.2]; simp [Bt.list, nds_app]
        · have hm : e' ∈ t.list := by
            rw [hlist0]
            simp only [List.mem_append, List.mem_cons] at he' ⊢
            rcases he' with (e1 | e1) | e1 <;> simp [e1]
          exact ⟨(tp3.keys e' hm).1.below HB3.out, (tp3.keys e' hm).2⟩
        · exact (to3.mono (fun k hk => Or.inl hk)).call HB3.out
        · rw [hlist0]; simp; omega
      have HCUT := Hid.mk hcut
      have HRP4 : Hid (ptrB r = .pointer rp) := Hid.mk HRP.out.2
      clear d1 x2 x3 hperm d5 d6 tp3 to3 tl3 tlow3 hcnt bh bhh br hr0 hbk hlist0 hnd hsub hcut
      have HL5 := Hid.mk (lastB_any p v c w3 HCUT.out.row (by have := HCUT.out.clen; have := HZ.out; omega))
      obtain ⟨ua, hua⟩ := HCUT.out.ctx
      obtain ⟨cs5, ty5, r1, r2, _⟩ := hua.link
      have s5 : w3.cell? ⟨(linkC p c).1, (linkC p c).2, none⟩ = some (.pointer ua) := by simp only [World.cell?, r1]; exact r2
      have z5 : w3.frozen? ⟨(linkC p c).1, (linkC p c).2, none⟩ = false := by simp [World.frozen?, r1]
      obtain ⟨w6, hw6⟩ : ∃ w6, w3.setCell ⟨(linkC p c).1, (linkC p c).2, none⟩ (.pointer rp) = w6 := ⟨_, rfl⟩
      have hw6' : w6 = w3.setCell ⟨(linkC p c).1, (linkC p c).2, none⟩ (ptrB r) := by rw [← hw6, HRP4.out]
      obtain ⟨tu, htu⟩ := HCUT.out.mid hw6'
      obtain ⟨N0, hN0⟩ : ∃ N0, t.list.length = N0 := ⟨_, rfl⟩
      have hNN := HCUT.out.len
      rw [hN0] at htu
      have s6 : w6.cell? ⟨p, 2, none⟩ = some (.int .i64 N0) := by simp [World.cell?, htu, topB]
      have z6 : w6.frozen? ⟨p, 2, none⟩ = false := by simp [World.frozen?, htu, topB]
      have hwN : IntKind.i64.wrap ((N0 : Int) - 1) = (N0 : Int) - 1 := by have := HZ.out; exact wrap_id (by omega) (by omega)
      obtain ⟨w7, hw7⟩ : ∃ w7, w6.setCell ⟨p, 2, none⟩ (.int .i64 ((N0 : Int) - 1)) = w7 := ⟨_, rfl⟩
      have HBK := Hid.mk (HCUT.out.back (cm := cm) (w7 := w7) (fun k hk => by have := HLT.out k hk; have := HW.out.2; omega) HPT.out HKK.out HZ.out HLK.out.2.2.1 HLK.out.2.2.2.1 hw6' (by rw [hN0, ← hw7]))
      obtain ⟨L5, hL5⟩ : ∃ L5, (linkC p c).1 = L5 := ⟨_, rfl⟩
      obtain ⟨O5, hO5⟩ : ∃ O5, (linkC p c).2 = O5 := ⟨_, rfl⟩
      rw [hL5, hO5] at s5 z5 hw6 HL5
      clear hua r1 r2 hw6' htu hN0 hNN hL5 hO5
      go_wp2_with (first
        | (go_at_call 55; refine HBK.out.mono ?_; rintro en w8 ⟨⟨un, rfl⟩, m1⟩; have H8 := Hid.mk m1; clear m1)
        | (go_at_call 53; refine HL5.out.mono ?_; rintro en wx ⟨rfl, rfl⟩))
      refine bodyPost_ret (v := .tuple #[.int .i64 e.h.num, .bool true]) (by simp [results]) rfl ⟨by rw [HV.out.1, HV.out.2.1], H8.out⟩
    | node gl el xl ll lr =>
      obtain rfl : some ⟨gl, 0, none⟩ = lp := by have := HRP.out.1; simpa [ptrB] using this
      obtain ⟨gg, eg, xg, lg, cc, A, hdn, hli, hcc⟩ := down_last (.node gl el xl ll lr) (by intro e0; cases e0)
      have HDN := Hid.mk (And.intro hdn (And.intro hli hcc))
      have HOB := Hid.mk (show ∀ b, v.ownBlock = some b → ¬ (b = p ∨ b ∈ t.blocks ∨ K b) from fun b hb hh => by
        have h1 := HLT.out b hh
        have h2 := HX.out.2.2.2.2.2 b hb
        have h3 := HU.out.size
        have h4 := HW.out.2
        omega)
      have HBS := Hid.mk (besideB_0 p t.list.length cm' v c g e x (.node gl el xl ll lr) r w3 (HX.out.2.2.2.2.1.up HB3.out) (HX.out.2.1.up HB3.out) (HX.out.2.2.1.up HB3.out) (by have := HLK.out.2.2.2.2; have := HZ.out; omega) (fun b hb hh => HOB.out b hb (by
        rcases hh with e0 | e0
        · exact Or.inl e0
        · exact Or.inr (Or.inl ((List.Perm.mem_iff HX.out.2.2.2.1).2 (List.mem_append.2 e0))))))
      clear hdn hli hcc
      go_upto_region 10 with (go_at_call 56; refine HBS.out.mono ?_; rintro en w4 ⟨v4, rfl, hbs⟩; have HB4 := Hid.mk hbs; clear hbs)
      obtain ⟨F, hF⟩ : ∃ F : Fr, F = ⟨g, false, e, x, r⟩ := ⟨_, rfl⟩
      obtain ⟨c5, hc5⟩ : ∃ c5, cc ++ F :: c = c5 := ⟨_, rfl⟩
      have hbe : besideB false g e x (.node gl el xl ll lr) r c = ⟨gg, true, eg, xg, lg⟩ :: c5 := by
        rw [← hc5, hF]
        show downB true (.node gl el xl ll lr) (⟨g, false, e, x, r⟩ :: c) = _
        exact HDN.out.1 _
      have hfl := beside_fill false g e x (.node gl el xl ll lr) r c
      rw [hbe, HX.out.1] at hfl
      have hrow4 := HB4.out.row
      rw [hbe] at hrow4
      have h4only : Only (fun k => v.ownBlock = some k) w2 w4 := (Only.up HB3.out).trans HB4.out.only (fun _ hk => Or.inl hk)
      have tp4 : TpB w4 p t cm' K := HLK.out.1.kept h4only (fun k hk e0 => HOB.out k e0 hk)
      obtain ⟨_, m2, m3, m4⟩ := CtxB.split (c := ⟨gg, true, eg, xg, lg⟩ :: c5) (t := .nil) (by rw [hfl]; exact tp4.lay) (by rw [hfl]; exact tp4.top)
      obtain ⟨gw, cap, hvs, hcap, hmx, _⟩ := way_row hrow4
      rw [List.length_cons] at hvs hcap
      have hc5l := fill_cnt .nil (⟨gg, true, eg, xg, lg⟩ :: c5)
      rw [hfl, List.length_cons] at hc5l
      obtain ⟨M, hM⟩ : ∃ M, c5.length + 1 = M := ⟨_, rfl⟩
      obtain ⟨M1, hM1⟩ : ∃ M1, M + 1 = M1 := ⟨_, rfl⟩
      rw [hM, hM1] at hvs hcap
      have hrow5 : Ow wayS w4 (.slice (some ⟨gw, 0, none⟩) M cap) (waysC p c5) := by
        have h8 := hrow4
        rw [hvs] at h8
        have h9 := Ow.take h8 M (by rw [ways_len, List.length_cons]; omega)
        rwa [waysC, List.take_left' (by rw [ways_len]; omega)] at h9
      have hcut : ∀ W : World, (Instr.sliceAt 75 (.slice (some ⟨gw, 0, none⟩) M1 cap) none (some (.int .i64 (M : Int))) none).run Tryd.prog W = .ok (.slice (some ⟨gw, 0, none⟩) M cap) W := fun W => slice_hi wayS (by kernel_rfl) (some ⟨gw, 0, none⟩) (fun ad e0 => by cases e0; rfl) M1 cap M (by omega) W
      have hwM : IntKind.i64.wrap ((M1 : Int) - 1) = (M : Int) := by have := HZ.out; rw [wrap_id (by omega) (by omega)]; omega
      obtain ⟨gp, hgp⟩ := ptrB_is lg
      have hlast := lastB_any p _ c5 w4 hrow5 (by have := HZ.out; omega)
      obtain ⟨cs5, ty5, r1, r2, _⟩ := m4.link
      have lk5 : w4.cell? ⟨(linkC p c5).1, (linkC p c5).2, none⟩ = some (.pointer (some ⟨gg, 0, none⟩)) := by simp only [World.cell?, r1]; exact r2
      have hgg : w4.heap[gg]? = some (.cells (cellsB eg xg (ptrB lg) (.pointer none)) 82) := m2
      have u0 : w4.cell? ⟨gg, 0, none⟩ = some (.int .i64 eg.h.k) := by simp [World.cell?, hgg, cellsB]
      have u1 : w4.cell? ⟨gg, 1, none⟩ = some (.int .i64 eg.h.n) := by simp [World.cell?, hgg, cellsB]
      have u2 : w4.cell? ⟨gg, 2, none⟩ = some (.string eg.h.s) := by simp [World.cell?, hgg, cellsB]
      have u3 : w4.cell? ⟨gg, 3, none⟩ = some (.slice eg.h.a eg.h.m eg.h.c) := by simp [World.cell?, hgg, cellsB]
      have u4 : w4.cell? ⟨gg, 4, none⟩ = some (.int .i64 eg.h.num) := by simp [World.cell?, hgg, cellsB]
      have u6 : w4.cell? ⟨gg, 6, none⟩ = some (.pointer gp) := by rw [← hgp]; simp [World.cell?, hgg, cellsB]
      have HM := Hid.mk (show fillB .nil (⟨gg, true, eg, xg, lg⟩ :: c5) = t ∧ TpB w4 p t cm' K ∧ LayB w4 lg ∧ CtxB w4 p t.list.length cm' c5 (.pointer (some ⟨gg, 0, none⟩)) ∧ Ow wayS w4 (.slice (some ⟨gw, 0, none⟩) M cap) (waysC p c5) ∧ Only (fun k => v.ownBlock = some k) w2 w4 ∧ c5.length + 1 ≤ t.list.length ∧ w.heap.size ≤ gw from
        ⟨hfl, tp4, m3, m4, hrow5, h4only, by omega, by
          have h2 := HX.out.2.2.2.2.2
          have h3 := HU.out.size
          have h6 := HLK.out.2.1.size
          have h7 := HB3.out.size
          rcases HB4.out.own with e0 | ⟨k, e0, e1⟩
          · rw [hvs] at e0
            have := h2 gw e0.symm
            omega
          · rw [hvs] at e0
            have e2 : gw = k := by simpa [Value.ownBlock] using e0
            omega⟩)
      have HFC := Hid.mk (And.intro hF (And.intro hc5 hgp))
      have HGG := Hid.mk hgg
      obtain ⟨L5, hL5⟩ : ∃ L5, (linkC p c5).1 = L5 := ⟨_, rfl⟩
      obtain ⟨O5, hO5⟩ : ∃ O5, (linkC p c5).2 = O5 := ⟨_, rfl⟩
      rw [hL5, hO5] at lk5 hlast
      have HL5 := Hid.mk hlast
      subst hvs
      clear y6 hF hc5 hbe hfl hrow4 h4only tp4 m2 m3 m4 hcap hmx hM hM1 hrow5 hgp hlast r1 r2 hgg hL5 hO5 hc5l
      go_upto_region 12 with (go_at_call 53; refine HL5.out.mono ?_; rintro en wx ⟨rfl, rfl⟩)
      obtain ⟨hF, hc5, hgp⟩ := HFC.out
      obtain ⟨hfl, tp4, m3, m4, hrow5, h4only, hcl5, hgw⟩ := HM.out
      have m4' := m4
      rw [← hc5] at m4'
      obtain ⟨uF, hbF⟩ := m4'.at_
      have hFg : F.g = g := by rw [hF]
      have hgne : ¬ gg = g := fun e0 => by
        have h1 := (List.Perm.nodup_iff ((fill_blocks .nil (⟨gg, true, eg, xg, lg⟩ :: c5)).cons p)).1 (by rw [hfl]; exact tp4.nd)
        simp only [Bt.blocks, List.nil_append, blocksC, List.nodup_cons, List.mem_cons, List.mem_append, not_or] at h1
        refine h1.2.1.2 ?_
        rw [e0, ← hFg, ← hc5, blocks_app]
        simp [blocksC]
      obtain ⟨WD, hWD⟩ : ∃ WD, ({ w4 with drawn := w4.drawn + 1 } : World) = WD := ⟨_, rfl⟩
      have hbD : WD.heap[g]? = some (.cells (F.cs uF) 82) := by rw [← hWD, ← hFg]; exact hbF
      obtain ⟨S0, hS0⟩ : ∃ S0, (fun k : Nat => k = g) = S0 := ⟨_, rfl⟩
      have NG : ¬ S0 gg := by rw [← hS0]; exact hgne
      have NS : S0 g := by rw [← hS0]
      have HS0 := Hid.mk hS0
      have HSD : Only S0 w4 WD := by rw [← hWD]; exact (Only.refl S0 w4).drew
      obtain ⟨WF, hWF⟩ : ∃ WF, put4 WD g 0 (.int .i64 eg.h.k) (.int .i64 eg.h.n) (.string eg.h.s) (.slice eg.h.a eg.h.m eg.h.c) = WF := ⟨_, rfl⟩
      have HSF : Only S0 w4 WF := by
        rw [← hWF]
        unfold put4
        exact (((HSD.put NS _ _).put NS _ _).put NS _ _).put NS _ _
      obtain ⟨WG, hWG⟩ : ∃ WG, WF.setCell ⟨g, 4, none⟩ (.int .i64 eg.h.num) = WG := ⟨_, rfl⟩
      have HSG : Only S0 w4 WG := by rw [← hWG]; exact HSF.put NS _ _
      have hcsz : (F.cs uF).size = 8 := by unfold Fr.cs; split <;> rfl
      have hbF2 : ∃ cF, WF.heap[g]? = some (.cells cF 82) ∧ cF.size = 8 := by
        rw [← hWF]
        unfold put4
        exact ⟨_, put_box (put_box (put_box (put_box hbD _ _) _ _) _ _) _ _, by simp [hcsz]⟩
      obtain ⟨cF, hcF, hcFs⟩ := hbF2
      have s4 : ∃ v9, WF.cell? ⟨g, 4, none⟩ = some v9 := ⟨cF[4]'(by omega), by simp [World.cell?, hcF, hcFs]⟩
      obtain ⟨v9, s4⟩ := s4
      have z4 : WF.frozen? ⟨g, 4, none⟩ = false := by simp [World.frozen?, hcF]
      refine wp_region_held (S := Only S0 w4) (by kernel_rfl) ?_
      refine chain_take (i := 0) (d := 53) (v := .pointer (some ⟨g, 0, none⟩)) rfl rfl (by kernel_rfl) (by kernel_rfl) (by kernel_rfl) rfl (fun _ _ => rfl) (fun _ _ _ h => h) (Only.refl _ w4).drew ?_
      simp only [Act.put, List.setIfInBounds_toArray, List.set_cons_zero, List.set_cons_succ]
      refine chain_take (i := 1) (d := 54) (v := .pointer (some ⟨g, 0, none⟩)) rfl rfl (by kernel_rfl) (by kernel_rfl) (by kernel_rfl) rfl (fun _ _ => rfl) (fun _ _ _ h => h) (Only.refl _ w4).drew ?_
      simp only [Act.put, List.setIfInBounds_toArray, List.set_cons_zero, List.set_cons_succ]
      refine chain_take (i := 2) (d := 55) (v := .pointer (some ⟨gg, 0, none⟩)) rfl rfl (by kernel_rfl) (by kernel_rfl) (by kernel_rfl) rfl (fun _ _ => rfl) (fun _ _ _ h => h) (Only.refl _ w4).drew ?_
      simp only [Act.put, List.setIfInBounds_toArray, List.set_cons_zero, List.set_cons_succ]
      refine chain_take (i := 3) (d := 56) (v := .pointer (some ⟨gg, 0, none⟩)) rfl rfl (by kernel_rfl) (by kernel_rfl) (by kernel_rfl) rfl (fun _ _ => (by go_simp)) (fun _ _ _ h => h) (Only.refl _ w4).drew ?_
      simp only [Act.put, List.setIfInBounds_toArray, List.set_cons_zero, List.set_cons_succ]
      refine chain_take (i := 4) (d := 57) (v := .pointer (some ⟨gg, 0, none⟩)) rfl rfl (by kernel_rfl) (by kernel_rfl) (by kernel_rfl) rfl (fun _ _ => (by go_simp)) (fun _ _ _ h => h) (Only.refl _ w4).drew ?_
      simp only [Act.put, List.setIfInBounds_toArray, List.set_cons_zero, List.set_cons_succ]
      refine chain_take (i := 5) (d := 58) (v := .agg #[.int .i64 eg.h.k, .int .i64 eg.h.n, .string eg.h.s, .slice eg.h.a eg.h.m eg.h.c]) rfl rfl (by kernel_rfl) (by kernel_rfl) (by kernel_rfl) rfl (fun W h => (by have u0 := Only.cellS h NG u0; have u1 := Only.cellS h NG u1; have u2 := Only.cellS h NG u2; have u3 := Only.cellS h NG u3; go_simp)) (fun _ _ _ h => h) (Only.refl _ w4).drew ?_
      simp only [Act.put, List.setIfInBounds_toArray, List.set_cons_zero, List.set_cons_succ]
      refine chain_take (i := 6) (d := 59) (v := .pointer (some ⟨gg, 0, none⟩)) rfl rfl (by kernel_rfl) (by kernel_rfl) (by kernel_rfl) rfl (fun _ _ => rfl) (fun _ _ _ h => h) (Only.refl _ w4).drew ?_
      simp only [Act.put, List.setIfInBounds_toArray, List.set_cons_zero, List.set_cons_succ]
      refine chain_take (i := 7) (d := 60) (v := .pointer (some ⟨gg, 0, none⟩)) rfl rfl (by kernel_rfl) (by kernel_rfl) (by kernel_rfl) rfl (fun _ _ => (by go_simp)) (fun _ _ _ h => h) (Only.refl _ w4).drew ?_
      simp only [Act.put, List.setIfInBounds_toArray, List.set_cons_zero, List.set_cons_succ]
      refine chain_take (i := 8) (d := 61) (v := .pointer (some ⟨gg, 4, none⟩)) rfl rfl (by kernel_rfl) (by kernel_rfl) (by kernel_rfl) rfl (fun _ _ => (by go_simp)) (fun _ _ _ h => h) (Only.refl _ w4).drew ?_
      simp only [Act.put, List.setIfInBounds_toArray, List.set_cons_zero, List.set_cons_succ]
      refine chain_take (i := 9) (d := 62) (v := .int .i64 eg.h.num) rfl rfl (by kernel_rfl) (by kernel_rfl) (by kernel_rfl) rfl (fun W h => (by have u0 := Only.cellS h NG u4; go_simp)) (fun _ _ _ h => h) (Only.refl _ w4).drew ?_
      simp only [Act.put, List.setIfInBounds_toArray, List.set_cons_zero, List.set_cons_succ]
      refine chain_take (i := 10) (d := 63) (v := .pointer (some ⟨gg, 0, none⟩)) rfl rfl (by kernel_rfl) (by kernel_rfl) (by kernel_rfl) rfl (fun _ _ => rfl) (fun _ _ _ h => h) (Only.refl _ w4).drew ?_
      simp only [Act.put, List.setIfInBounds_toArray, List.set_cons_zero, List.set_cons_succ]
      refine chain_take (i := 11) (d := 64) (v := .pointer (some ⟨gg, 0, none⟩)) rfl rfl (by kernel_rfl) (by kernel_rfl) (by kernel_rfl) rfl (fun _ _ => (by go_simp)) (fun _ _ _ h => h) (Only.refl _ w4).drew ?_
      simp only [Act.put, List.setIfInBounds_toArray, List.set_cons_zero, List.set_cons_succ]
      refine chain_take (i := 12) (d := 65) (v := .pointer (some ⟨gg, 6, none⟩)) rfl rfl (by kernel_rfl) (by kernel_rfl) (by kernel_rfl) rfl (fun _ _ => (by go_simp)) (fun _ _ _ h => h) (Only.refl _ w4).drew ?_
      simp only [Act.put, List.setIfInBounds_toArray, List.set_cons_zero, List.set_cons_succ]
      refine chain_take (i := 13) (d := 66) (v := .pointer (some ⟨gg, 6, none⟩)) rfl rfl (by kernel_rfl) (by kernel_rfl) (by kernel_rfl) rfl (fun _ _ => (by go_simp)) (fun _ _ _ h => h) (Only.refl _ w4).drew ?_
      simp only [Act.put, List.setIfInBounds_toArray, List.set_cons_zero, List.set_cons_succ]
      refine chain_take (i := 14) (d := 67) (v := .pointer gp) rfl rfl (by kernel_rfl) (by kernel_rfl) (by kernel_rfl) rfl (fun W h => (by have u0 := Only.cellS h NG u6; go_simp)) (fun _ _ _ h => h) (Only.refl _ w4).drew ?_
      simp only [Act.put, List.setIfInBounds_toArray, List.set_cons_zero, List.set_cons_succ]
      refine chain_take (i := 15) (d := 68) (v := .pointer (some ⟨g, 0, none⟩)) rfl rfl (by kernel_rfl) (by kernel_rfl) (by kernel_rfl) rfl (fun _ _ => (by go_simp)) (fun _ _ _ h => h) (Only.refl _ w4).drew ?_
      simp only [Act.put, List.setIfInBounds_toArray, List.set_cons_zero, List.set_cons_succ]
      refine chain_take (i := 16) (d := 69) (v := .pointer (some ⟨g, 0, none⟩)) rfl rfl (by kernel_rfl) (by kernel_rfl) (by kernel_rfl) rfl (fun _ _ => (by go_simp)) (fun _ _ _ h => h) (Only.refl _ w4).drew ?_
      simp only [Act.put, List.setIfInBounds_toArray, List.set_cons_zero, List.set_cons_succ]
      rw [hWD]
      refine chain_skip (i := 17) (w' := WF) (by kernel_rfl) rfl rfl rfl (by rw [← hWF]; exact exec_store4 (w := WD) hbD (by rw [hcsz]; decide) rfl rfl _ _ _ _) HSF ?_
      refine chain_take (i := 18) (d := 70) (v := .pointer (some ⟨g, 0, none⟩)) rfl rfl (by kernel_rfl) (by kernel_rfl) (by kernel_rfl) rfl (fun _ _ => (by go_simp)) (fun _ _ _ h => h) (HSF) ?_
      simp only [Act.put, List.setIfInBounds_toArray, List.set_cons_zero, List.set_cons_succ]
      refine chain_take (i := 19) (d := 71) (v := .pointer (some ⟨g, 4, none⟩)) rfl rfl (by kernel_rfl) (by kernel_rfl) (by kernel_rfl) rfl (fun _ _ => (by go_simp)) (fun _ _ _ h => h) (HSF) ?_
      simp only [Act.put, List.setIfInBounds_toArray, List.set_cons_zero, List.set_cons_succ]
      refine chain_skip (i := 20) (w' := WG) (by kernel_rfl) rfl rfl rfl (by rw [← hWG]; go_simp) HSG ?_
      refine chain_value (i := 21) (d := 10) (v := .pointer gp) (w' := WG) (by kernel_rfl) rfl rfl rfl (by go_simp) HSG ?_
      simp only [Act.put, List.setIfInBounds_toArray, List.set_cons_zero, List.set_cons_succ]
      refine wpAnyH_done (by kernel_rfl) ?_ _
      have hSG : Only (fun k => k = F.g) w4 WG := HSG.mono (fun k hk => by rw [← hS0] at hk; exact hk.trans hFg.symm)
      have hgl : ∀ u, w4.heap[F.g]? = some (.cells (F.cs u) 82) → WG.heap[F.g]? = some (.cells (({ F with e := eg } : Fr).cs u) 82) := fun u hu => by
        have h1 : WD.heap[F.g]? = some (.cells (F.cs u) 82) := by rw [← hWD]; exact hu
        rw [← hWG, ← hWF, ← hFg]
        unfold put4
        exact rekey_cells h1 eg
      have hperm := HX.out.2.2.2.1
      obtain ⟨tp3, to3, tl3, tlow3, hcnt⟩ := HLK.out
      have hnd0 := (List.Perm.nodup_iff ((fill_blocks .nil (⟨gg, true, eg, xg, lg⟩ :: c5)).cons p)).1 (by rw [hfl]; exact tp4.nd)
      have hper0 := fill_blocks .nil (⟨gg, true, eg, xg, lg⟩ :: c5)
      rw [hfl] at hper0
      simp only [Bt.blocks, List.nil_append, blocksC, List.nodup_cons, List.mem_cons, List.mem_append, not_or] at hnd0
      obtain ⟨⟨np1, np2, np3⟩, ⟨ng1, ng2⟩, hnd1⟩ := hnd0
      have hgc : g ∈ blocksC c5 := by rw [← hc5, blocks_app, ← hFg]; simp [blocksC]
      have hsub : ∀ k, k ∈ lg.blocks ++ blocksC c5 → k ∈ t.blocks := fun k hk => (List.Perm.mem_iff hper0).2 (by simp only [Bt.blocks, List.nil_append, blocksC]; exact List.mem_cons_of_mem _ hk)
      have hgt : g ∈ t.blocks := hsub g (List.mem_append_right _ hgc)
      have hgw' : ∀ k, k = p ∨ k ∈ t.blocks ∨ K k → ¬ gw = k := fun k hk e0 => by have h1 := HLT.out k hk; have h2 := HW.out.2; omega
      obtain ⟨c6, hc6⟩ : ∃ c6, cc ++ { F with e := eg } :: c = c6 := ⟨_, rfl⟩
      have hways : waysC p c6 = waysC p c5 := by rw [← hc6, ← hc5]; exact ways_rekey p cc c F eg
      have hbls : blocksC c6 = blocksC c5 := by rw [← hc6, ← hc5]; exact blocks_rekey cc c F eg
      obtain ⟨_, hli, hcc⟩ := HDN.out
      obtain ⟨g1, g2, g3⟩ := hcc ({ F with e := eg } :: c)
      obtain ⟨g4, g5, g6⟩ := hcc (F :: c)
      rw [hc6] at g1 g2 g3
      rw [hc5] at g6
      have hFs : F.side = false ∧ F.e = e ∧ F.h = x ∧ F.o = r := by rw [hF]; exact ⟨rfl, rfl, rfl, rfl⟩
      have p1 : preC c6 = preC c ++ A := by rw [g1, preC]; simp [hFs.1]
      have p2 : postC c6 = eg :: (r.list ++ postC c) := by rw [g2, postC]; simp [hFs.1, hFs.2.2.2]
      have hlist0 : t.list = preC c ++ (Bt.node gl el xl ll lr).list ++ e :: (r.list ++ postC c) := by rw [← HX.out.1, fill_list]; simp [Bt.list]
      have hplug : F.plug (.node gl el xl ll lr) = .node g e x (.node gl el xl ll lr) r := by rw [hF]; rfl
      have hplug' : ({ F with e := eg } : Fr).plug (.node gl el xl ll lr) = .node g eg x (.node gl el xl ll lr) r := by rw [hF]; rfl
      have g6' : fillB (.node gg eg xg lg .nil) c5 = t := by rw [g6, fillB, hplug]; exact HX.out.1
      have hbal0 : (Bt.node g e x (.node gl el xl ll lr) r).Bal := fill_bal (c := c) (by rw [HX.out.1]; exact tp3.bal)
      have hbal6 : (fillB (.node gg eg xg lg .nil) c6).Bal := by
        rw [g3, fillB, hplug']
        exact fill_swap (t := .node g e x (.node gl el xl ll lr) r) (by rw [HX.out.1]; exact tp3.bal) hbal0 rfl
      obtain ⟨bh, bhh, _, blg, _⟩ := fill_bal (c := c6) hbal6
      have hr0 := blg.pos
      have hbk := bk_ok (t0 := .node gg eg xg lg .nil) (t := lg) (c := c6) hbal6 blg.ready (by rw [blg.lvl, ht_node, bh, ht_nil]; omega) (by rw [blg.lvl, ht_node, bh, ht_nil]; rw [ht_nil] at bhh; omega)
      have hcut : CutB p t cm' K (removeN (ndsB t.list) T) w WG (.slice (some ⟨gw, 0, none⟩) M cap) c6 lg := by
        refine ⟨by rw [hways]; exact hrow5.kept hSG (fun k hk e0 => by cases hk; exact hgw' g (Or.inr (Or.inl hgt)) (e0.trans hFg)), fun k hk => (by cases hk; exact hgw), m3.kept hSG (fun k hk e0 => (List.nodup_append.1 hnd1).2.2 k hk g hgc (e0.trans hFg)), ⟨_, by rw [← hc6]; exact m4'.rekey hSG hgl (by rw [hc5]; exact List.nodup_cons.2 ⟨np3, (List.nodup_append.1 hnd1).2.1⟩)⟩, ?_, hbk.1, hbk.2, ?_, tp3.rise.remove T, ?_, fun e' he' => ?_, ?_, ?_⟩
        · rw [hbls]
          exact List.nodup_cons.2 ⟨fun hm => by rcases List.mem_append.1 hm with e1 | e1; exact np2 e1; exact np3 e1, hnd1⟩
        · rw [HV.out.2.2, p1, p2, hli]
          simp [ndsB]
        · rw [hbls]; exact hsub
        · have hm : e' ∈ t.list := by
            rw [hlist0, hli]
            rw [p1, p2] at he'
            simp only [List.mem_append, List.mem_cons] at he' ⊢
            rcases he' with ((e1 | e1) | e1) | e1 | e1 | e1 <;> simp [e1]
          exact ⟨(tp4.keys e' hm).1.move (fun _ h => h) (fun b o u hb hc => hSG.cellS (fun e0 => (HKK.out b hb).2 (by rw [e0, hFg]; exact hgt)) hc) _ _, (tp4.keys e' hm).2⟩
        · refine ((to3.mono (fun k hk => Or.inl hk)).trans h4only (fun k hk => Or.inr ?_)).trans hSG (fun k hk => Or.inl (Or.inr (by rw [hk, hFg]; exact hgt)))
          have := HX.out.2.2.2.2.2 k hk
          have := HU.out.size
          omega
        · rw [hlist0, p1, p2, hli]; simp; omega
      have HCUT := Hid.mk hcut
      have HRP4 : Hid (ptrB lg = .pointer gp) := Hid.mk hgp
      clear hF hc5 hgp hfl tp4 m3 m4 hrow5 h4only hcl5 hgw m4' hbF hFg hgne hWD hbD hS0 NG NS HSD hWF HSF hWG HSG hcsz hcF hcFs s4 z4 hSG hgl hperm tp3 to3 tl3 tlow3 hcnt hper0 np1 np2 np3 ng1 ng2 hnd1 hgc hsub hgt hgw' hc6 hways hbls hli hcc g1 g2 g3 g4 g5 g6 hFs p1 p2 hlist0 hplug hplug' g6' hbal0 hbal6 bh bhh blg hr0 hbk hcut u0 u1 u2 u3 u4 u6 lk5
      have HL5 := Hid.mk (lastB_any p (.slice (some ⟨gw, 0, none⟩) M cap) c6 WG HCUT.out.row (by have := HCUT.out.clen; have := HZ.out; omega))
      obtain ⟨ua, hua⟩ := HCUT.out.ctx
      obtain ⟨cs5, ty5, r1, r2, _⟩ := hua.link
      have s5 : WG.cell? ⟨(linkC p c6).1, (linkC p c6).2, none⟩ = some (.pointer ua) := by simp only [World.cell?, r1]; exact r2
      have z5 : WG.frozen? ⟨(linkC p c6).1, (linkC p c6).2, none⟩ = false := by simp [World.frozen?, r1]
      obtain ⟨w6, hw6⟩ : ∃ w6, WG.setCell ⟨(linkC p c6).1, (linkC p c6).2, none⟩ (.pointer gp) = w6 := ⟨_, rfl⟩
      have hw6' : w6 = WG.setCell ⟨(linkC p c6).1, (linkC p c6).2, none⟩ (ptrB lg) := by rw [← hw6, HRP4.out]
      obtain ⟨tu, htu⟩ := HCUT.out.mid hw6'
      obtain ⟨N0, hN0⟩ : ∃ N0, t.list.length = N0 := ⟨_, rfl⟩
      have hNN := HCUT.out.len
      rw [hN0] at htu
      have s6 : w6.cell? ⟨p, 2, none⟩ = some (.int .i64 N0) := by simp [World.cell?, htu, topB]
      have z6 : w6.frozen? ⟨p, 2, none⟩ = false := by simp [World.frozen?, htu, topB]
      have hwN : IntKind.i64.wrap ((N0 : Int) - 1) = (N0 : Int) - 1 := by have := HZ.out; exact wrap_id (by omega) (by omega)
      obtain ⟨w7, hw7⟩ : ∃ w7, w6.setCell ⟨p, 2, none⟩ (.int .i64 ((N0 : Int) - 1)) = w7 := ⟨_, rfl⟩
      have HBK := Hid.mk (HCUT.out.back (cm := cm) (w7 := w7) (fun k hk => by have := HLT.out k hk; have := HW.out.2; omega) HPT.out HKK.out HZ.out HLK.out.2.2.1 HLK.out.2.2.2.1 hw6' (by rw [hN0, ← hw7]))
      obtain ⟨L5, hL5⟩ : ∃ L5, (linkC p c6).1 = L5 := ⟨_, rfl⟩
      obtain ⟨O5, hO5⟩ : ∃ O5, (linkC p c6).2 = O5 := ⟨_, rfl⟩
      rw [hL5, hO5] at s5 z5 hw6 HL5
      clear hua r1 r2 hw6' htu hN0 hNN hL5 hO5
      go_wp2_with (first
        | (go_at_call 55; refine HBK.out.mono ?_; rintro en w8 ⟨⟨un, rfl⟩, m1⟩; have H8 := Hid.mk m1; clear m1)
        | (go_at_call 53; refine HL5.out.mono ?_; rintro en wx ⟨rfl, rfl⟩))
      refine bodyPost_ret (v := .tuple #[.int .i64 e.h.num, .bool true]) (by simp [results]) rfl ⟨by rw [HV.out.1, HV.out.2.1], H8.out⟩
end Go.Proofs.YteklhipcojioaaaDoor
