/-
  The way down to a key.
-/
import Derived.Test.YteklhipcojioaaaDoorZTreePe
import Derived.Test.YteklhipcojioaaaDoorZOrdKeys
namespace Go.Proofs.YteklhipcojioaaaDoor
open Go.RowKit Go.Deep Go.Maps Go.WideShapes

/-- A row made with room, with nothing in it. -/
theorem made_row {α : Type} (s : Srt α) (c : Nat) (hc : c ≤ 1000000) (W : World) : (Instr.makeSlice s.st (.int .i64 0) (.int .i64 (c : Int))).run Tryd.prog W = .ok (.slice (some ⟨W.heap.size, 0, none⟩) 0 c) (W.alloc (.cells (madeCells s.z.cells (c * s.k)) s.t)) ∧
    Ow s (W.alloc (.cells (madeCells s.z.cells (c * s.k)) s.t)) (.slice (some ⟨W.heap.size, 0, none⟩) 0 c) [] := by
  obtain ⟨i, hi, hz, hs, hb⟩ := s.parts
  have hf := s.few
  refine ⟨?_, by simp [Srt.cs], Or.inr ⟨W.heap.size, c, _, rfl, Nat.zero_le _, heap_alloc_new W _, Nat.zero_le _, by unfold maxLen; omega, size_madeCells _ _, by simp [Srt.cs]⟩⟩
  have hbb : (s.bytes : Int) * c ≤ 281474976710656 := by
    have h1 : s.bytes * c ≤ 1000 * 1000000 := Nat.mul_le_mul hf hc
    have h2 : (s.bytes : Int) * c = ((s.bytes * c : Nat) : Int) := by simp
    omega
  have := run_make (P := Tryd.prog) W s.st s.t i _ s.und hi hz .i64 .i64 0 (c : Int) (by omega) (by omega) (by rw [hb]; exact hbb) (by omega)
  rw [hs] at this
  exact this
/-- The count of comparisons turned. -/
theorem CtxB.count {w : World} {p : Nat} {n cm cm' : Int} {c : List Fr} {v : Value} (h : CtxB w p n cm c v) (hn : p ∉ blocksC c) : CtxB (w.setCell ⟨p, 3, none⟩ (.int .i64 cm')) p n cm' c v := by
  induction c generalizing v with
  | nil => exact put_box h 3 _
  | cons f c ih =>
    obtain ⟨h1, h2, h3⟩ := h
    simp only [blocksC, List.mem_cons, List.mem_append, not_or] at hn
    have ho : Only (fun k => k = p) w (w.setCell ⟨p, 3, none⟩ (.int .i64 cm')) := Only.set _ _ rfl
    exact ⟨ho.box h1 (fun e => hn.1 e.symm), h2.kept ho (fun k hk e => hn.2.1 (e ▸ hk)), ih h3 hn.2.2⟩
theorem CtxB.top {w : World} {p : Nat} {n cm : Int} {c : List Fr} {v : Value} (h : CtxB w p n cm c v) : ∃ u, w.heap[p]? = some (topB p n cm u) := by
  induction c generalizing v with
  | nil => exact ⟨v, h⟩
  | cons f c ih => exact ih h.2.2
theorem prepost_len (c : List Fr) : c.length ≤ (preC c).length + (postC c).length := by
  induction c with
  | nil => exact Nat.zero_le _
  | cons f c ih =>
    rw [preC, postC, List.length_append, List.length_append, List.length_cons]
    split <;> simp <;> omega
theorem fill_cnt (t : Bt) (c : List Fr) : c.length + t.list.length ≤ (fillB t c).list.length := by
  have := prepost_len c
  rw [fill_list, List.length_append, List.length_append]
  omega
def Ky.tv (e : Ky) : Value := e.h.tv
/-- What a way down tells: the place, whether the key is there, and the way as a row of the call's own; one comparison for each node. -/
def DownB (p : Nat) (n cm : Int) (T : Tm) (t0 : Bt) (w : World) (v : Value) (d : Bool) (w' : World) : Prop := ∃ c t, fillB t c = t0 ∧ WayTo c T ∧ (d = true → ∃ g e h l r, t = .node g e h l r ∧ T.cmp e.T = 0) ∧ (d = false → t = .nil) ∧
  Ow wayS w' v (waysC p c) ∧ (∀ k, v.ownBlock = some k → w.heap.size ≤ k) ∧ LayB w' t ∧ CtxB w' p n (cm + c.length + (if d = true then 1 else 0)) c (ptrB t) ∧ Only (fun k => k = p) w w'

set_option maxHeartbeats 8000000 in
set_option maxRecDepth 100000 in
theorem downB_any (p : Nat) (n cm : Int) (T : Tm) (t0 : Bt) (K F' : Nat → Prop) (kv : Value) (w : World) (hl : LayB w t0) (hc : CtxB w p n cm [] (ptrB t0)) (hp : p ∉ t0.blocks) (hk : Lies w F' T kv) (hkp : ¬ F' p) (hb : t0.Bal) (hr : RisingN (ndsB t0.list)) (hz : t0.list.length ≤ 800000) (hcm : 0 ≤ cm ∧ cm ≤ 1000000000000)
    (hks : ∀ e ∈ t0.list, Lies w K e.T e.tv) (hK : ¬ K p) :
    Calls Tryd.prog 52 #[.pointer (some ⟨p, 0, none⟩), kv] w fun e w' => ∃ v d, e = .returned (.tuple #[v, .bool d]) ∧ DownB p n cm T t0 w v d w' := by
  obtain ⟨kk, kn, ks, ka, km, kc, rfl⟩ := hk.agg
  obtain ⟨nb, W1, hnb, hW1, hu, b0, b1, b2, b3⟩ := boxed_key w kk kn ks ka km kc
  obtain ⟨tp, htp⟩ := ptrB_is t0
  have hpos := hb.pos
  have hlow := hb.low.2
  obtain ⟨H, hH⟩ : ∃ H : Nat, t0.ht = H := Int.eq_ofNat_of_zero_le hpos
  have hpl : p < w.heap.size := hc.lt.1
  have hne : p ≠ nb := by omega
  have c1 : W1.cell? ⟨p, 1, none⟩ = some (.pointer tp) := cell_below hu _ _ _ (by have h0 : w.heap[p]? = some (topB p n cm (ptrB t0)) := hc; simp [World.cell?, h0, topB, htp])
  have HT0 := Hid.mk (fun (W : World) (hW : Below w.heap.size w W) => hH ▸ tallV_any t0 (.pointer tp) W (hl.up hW) htp)
  obtain ⟨M, hM⟩ : ∃ M, H + 1 = M := ⟨_, rfl⟩
  have hwH : IntKind.i64.wrap ((H : Int) + 1) = (M : Int) := by rw [wrap_id (by omega) (by omega)]; omega
  have hmk0 := fun W : World => made_row wayS M (by omega) W
  obtain ⟨MC, hMC⟩ : ∃ MC, madeCells wayS.z.cells (M * wayS.k) = MC := ⟨_, rfl⟩
  rw [hMC] at hmk0
  have hmk : ∀ W : World, (Instr.makeSlice 75 (.int .i64 0) (.int .i64 (M : Int))).run Tryd.prog W = .ok (.slice (some ⟨W.heap.size, 0, none⟩) 0 M) (W.alloc (.cells MC 78)) := fun W => (hmk0 W).1
  have HMK := Hid.mk (fun (W : World) => show Ow wayS (W.alloc (.cells MC 78)) (.slice (some ⟨W.heap.size, 0, none⟩) 0 M) [] from (hmk0 W).2)
  clear hmk0 hMC
  have HST := Hid.mk (show LayB w t0 ∧ CtxB w p n cm [] (ptrB t0) ∧ p ∉ t0.blocks ∧ t0.Bal ∧ RisingN (ndsB t0.list) ∧ t0.list.length ≤ 800000 ∧ (0 ≤ cm ∧ cm ≤ 1000000000000) from ⟨hl, hc, hp, hb, hr, hz, hcm⟩)
  have HKS := Hid.mk (And.intro hks hK)
  have HKK := Hid.mk (And.intro hk hkp)
  have HU := Hid.mk hu
  have HW := Hid.mk (And.intro hW1 hnb)
  have HBX := Hid.mk (show W1.cell? ⟨nb, 0, none⟩ = some (.int .i64 kk) ∧ W1.cell? ⟨nb, 1, none⟩ = some (.int .i64 kn) ∧ W1.cell? ⟨nb, 2, none⟩ = some (.string ks) ∧ W1.cell? ⟨nb, 3, none⟩ = some (.slice ka km kc) from ⟨b0, b1, b2, b3⟩)
  have HNE := Hid.mk hne
  clear hl hc hp hb hr hz hcm hks hK hk hkp hu hW1 hnb b0 b1 b2 b3 hpos hlow hH hpl hM hne htp
  go_enter Tryd.func52, Tryd.ntmps52
  go_upto_region 1 with fail
  rw [HW.out.1, HW.out.2]
  go_upto_region 3 with (first
    | (go_at_call 48; refine (HT0.out _ HU.out).mono ?_; rintro e w2 ⟨rfl, hb2⟩; have H2 := Hid.mk hb2; obtain ⟨u2, w3, hr2, hi2, hg2, ho2⟩ := append_elem wayS ((w2.alloc (.cells MC 78)).alloc (.cells #[.pointer (some ⟨p, 1, none⟩)] 78)) 75 (.slice (some ⟨w2.heap.size, 0, none⟩) 0 M) [] (p, 1) ((HMK.out w2).up (Up.alloc (Up.refl _)).out) (w2.heap.size + 1) (new_block2 _ _ _) rfl (by simp); have hsz2 := H2.out.size; have hb3 : Below W1.heap.size W1 w3 := ((H2.out.alloc hsz2 _).alloc (by rw [World.size_alloc]; omega) _).grown hg2 (by rw [World.size_alloc, World.size_alloc]; omega) (fun k hk => by cases hk; exact hsz2); have HI3 := Hid.mk (show Ow wayS w3 u2 (waysC p []) ∧ (∀ k, u2.ownBlock = some k → W1.heap.size ≤ k) ∧ Below W1.heap.size W1 w3 from ⟨hi2, fun k hk => (by rcases ho2 with e1 | e1; rw [e1] at hk; cases hk; exact hsz2; rw [e1] at hk; cases hk; rw [World.size_alloc, World.size_alloc]; omega), hb3⟩); clear hb2 hi2 hg2 ho2 hsz2 hb3)
    | (at_builtin; refine Lib.wpList_append_run _ rfl _ _ _ _ rfl _ _ rfl rfl _ _ hr2 ?_))
  clear hr2 c1 hmk hwH
  have HOW := Hid.mk (fun (W : World) (hW : Only (fun k => k = p) W1 W) => show Only (fun k => k = p) w W from (Only.up (S := fun k => k = p) HU.out).trans hW (fun k hk => Or.inl hk))
  go_loopw [6, 7] (fun lk vv wr => ∃ (c : List Fr) (t : Bt) (uu : Value), fillB t c = t0 ∧ uu = vv ∧ lk = .pointer (some ⟨(linkC p c).1, (linkC p c).2, none⟩) ∧ Hid (WayTo c T ∧ Ow wayS wr uu (waysC p c) ∧ (∀ k, uu.ownBlock = some k → W1.heap.size ≤ k) ∧ LayB wr t ∧ CtxB wr p n (cm + c.length) c (ptrB t) ∧ Only (fun k => k = p) W1 wr)) (fun _ vv _ => 800001 - lenV vv)
  case atStart =>
    refine ⟨[], t0, u2, rfl, rfl, rfl, Hid.mk ⟨WayTo.top T, HI3.out.1, HI3.out.2.1, (HST.out.1.up HU.out).up HI3.out.2.2, ?_, Only.up HI3.out.2.2⟩⟩
    rw [List.length_nil, Int.natCast_zero, Int.add_zero]
    exact (HST.out.2.1.up HU.out).up HI3.out.2.2
  case round =>
    obtain ⟨c, t, uu, hfill, rfl, rfl, hR⟩ := hrel
    obtain ⟨r1, r2, r3, r4, r5, r6⟩ := hR.out
    obtain ⟨s0, s1, s2, s3, s4, s5, s6⟩ := HST.out
    obtain ⟨cs, ty, k1, k2, _⟩ := r5.link
    obtain ⟨_, _, hus, _⟩ := way_row r2
    have hclen : c.length + t.list.length ≤ t0.list.length := by
      have h1 : (fillB t c).list.length = t0.list.length := by rw [hfill]
      have h2 := fill_cnt t c
      omega
    have HLN := Hid.mk (show lenV uu = c.length + 1 ∧ c.length + t.list.length ≤ 800000 from ⟨by rw [hus]; rfl, by omega⟩)
    have hperm := fill_blocks t c
    rw [hfill] at hperm
    have HPL := Hid.mk s1.lt.1
    have hpc : p ∉ blocksC c := fun hm => s2 ((List.Perm.mem_iff hperm).2 (List.mem_append_right _ hm))
    cases t with
    | nil =>
      have lk3 : wr.cell? ⟨(linkC p c).1, (linkC p c).2, none⟩ = some (.pointer none) := by simp only [World.cell?, k1]; exact k2
      have HFI := Hid.mk hfill
      obtain ⟨Lb, hLb⟩ : ∃ Lb, (linkC p c).1 = Lb := ⟨_, rfl⟩
      obtain ⟨Lo', hLo⟩ : ∃ Lo', (linkC p c).2 = Lo' := ⟨_, rfl⟩
      rw [hLb, hLo] at lk3 ⊢
      clear hclen hus k1 k2 r1 r2 r3 r4 r5 r6 s0 s1 s2 s3 s4 s5 s6 hfill hperm hpc hLb hLo
      go_wp2
      refine bodyPost_ret (by simp [results]) rfl ⟨uu, false, rfl, ?_⟩
      obtain ⟨r1, r2, r3, r4, r5, r6⟩ := hR.out
      refine ⟨c, .nil, HFI.out, r1, fun e0 => (by cases e0), fun _ => rfl, r2, fun k hk => Nat.le_trans HU.out.size (r3 k hk), r4, ?_, HOW.out _ r6⟩
      rw [if_neg (by decide), Int.add_zero]
      exact r5
    | node g e x l r =>
      have lk3 : wr.cell? ⟨(linkC p c).1, (linkC p c).2, none⟩ = some (.pointer (some ⟨g, 0, none⟩)) := by simp only [World.cell?, k1]; exact k2
      obtain ⟨tu, htu⟩ := r5.top
      have q3 : wr.cell? ⟨p, 3, none⟩ = some (.int .i64 (cm + c.length)) := by simp [World.cell?, htu, topB]
      have z3 : wr.frozen? ⟨p, 3, none⟩ = false := by simp [World.frozen?, htu, topB]
      have hgp : ¬ g = p := fun e0 => s2 ((List.Perm.mem_iff hperm).2 (List.mem_append_left _ (by simp [Bt.blocks, e0])))
      have hbn : ∀ k, k ∈ blocksC c ∨ k ∈ (Bt.node g e x l r).blocks → k < w.heap.size := fun k hk => s0.lt k ((List.Perm.mem_iff hperm).2 (by
        rcases hk with e0 | e0
        · exact List.mem_append_right _ e0
        · exact List.mem_append_left _ e0))
      have HBB := Hid.mk hbn
      obtain ⟨CN, hCN⟩ : ∃ CN, cm + (c.length : Int) = CN := ⟨_, rfl⟩
      have hwc : IntKind.i64.wrap (CN + 1) = CN + 1 := wrap_id (by omega) (by omega)
      rw [hCN] at q3
      obtain ⟨w3', hw3⟩ : ∃ w3', wr.setCell ⟨p, 3, none⟩ (.int .i64 (CN + 1)) = w3' := ⟨_, rfl⟩
      have hset : Only (fun k => k = p) wr w3' := by rw [← hw3]; exact Only.set _ _ rfl
      have hmem : e ∈ t0.list := by rw [← hfill, fill_list]; simp [Bt.list]
      have hup3 := r6.trans hset (fun k hk => Or.inl hk)
      have lk3' : w3'.cell? ⟨(linkC p c).1, (linkC p c).2, none⟩ = some (.pointer (some ⟨g, 0, none⟩)) := by
        rw [← hw3]
        have h9 : CtxB (wr.setCell ⟨p, 3, none⟩ (.int .i64 (CN + 1))) p n (CN + 1) c (ptrB (.node g e x l r)) := r5.count hpc
        obtain ⟨cs9, ty9, k19, k29, _⟩ := h9.link
        simp only [World.cell?, k19]; exact k29
      have l3 : LayB w3' (.node g e x l r) := r4.kept hset (fun k hk e0 => s2 ((List.Perm.mem_iff hperm).2 (List.mem_append_left _ (e0 ▸ hk))))
      have hboxg := l3.1
      have y0 : w3'.cell? ⟨g, 0, none⟩ = some (.int .i64 e.h.k) := by simp [World.cell?, hboxg, cellsB]
      have y1 : w3'.cell? ⟨g, 1, none⟩ = some (.int .i64 e.h.n) := by simp [World.cell?, hboxg, cellsB]
      have y2 : w3'.cell? ⟨g, 2, none⟩ = some (.string e.h.s) := by simp [World.cell?, hboxg, cellsB]
      have y3 : w3'.cell? ⟨g, 3, none⟩ = some (.slice e.h.a e.h.m e.h.c) := by simp [World.cell?, hboxg, cellsB]
      have d0 := hup3.cellS (fun e0 => HNE.out e0.symm) HBX.out.1
      have d1 := hup3.cellS (fun e0 => HNE.out e0.symm) HBX.out.2.1
      have d2 := hup3.cellS (fun e0 => HNE.out e0.symm) HBX.out.2.2.1
      have d3 := hup3.cellS (fun e0 => HNE.out e0.symm) HBX.out.2.2.2
      have hkT : Lies w3' F' T (.agg #[.int .i64 kk, .int .i64 kn, .string ks, .slice ka km kc]) := (HKK.out.1.below HU.out).move (fun _ h => h) (fun b o u hb hc => hup3.cellS (fun e0 => HKK.out.2 (e0 ▸ hb)) hc) _ _
      have hkE : Lies w3' K e.T (.agg #[.int .i64 e.h.k, .int .i64 e.h.n, .string e.h.s, .slice e.h.a e.h.m e.h.c]) := ((HKS.out.1 e hmem).below HU.out).move (fun _ h => h) (fun b o u hb hc => hup3.cellS (fun e0 => HKS.out.2 (e0 ▸ hb)) hc) _ _
      have HCMP0 := fun (W : World) (hW : Below w3'.heap.size w3' W) => compare_any T e.T F' K _ _ W (hkT.below hW) (hkE.below hW)
      have HPP := Hid.mk (show fillB (.node g e x l r) c = t0 ∧ WayTo c T ∧ Ow wayS w3' uu (waysC p c) ∧ (∀ k, uu.ownBlock = some k → W1.heap.size ≤ k) ∧ LayB w3' (.node g e x l r) ∧ CtxB w3' p n (cm + c.length + 1) c (ptrB (.node g e x l r)) ∧ Only (fun k => k = p) W1 w3' from
        ⟨hfill, r1, r2.kept hset (fun k hk e0 => by have := r3 k hk; have := HPL.out; have := HU.out.size; omega), r3, l3, (by rw [hCN, ← hw3]; exact r5.count hpc), hup3⟩)
      obtain ⟨Lb, hLb⟩ : ∃ Lb, (linkC p c).1 = Lb := ⟨_, rfl⟩
      obtain ⟨Lo', hLo⟩ : ∃ Lo', (linkC p c).2 = Lo' := ⟨_, rfl⟩
      rw [hLb, hLo] at lk3 lk3' ⊢
      have one := cmp_one T e.T
      obtain ⟨C, hC⟩ : ∃ C, T.cmp e.T = C := ⟨_, rfl⟩
      rw [hC] at HCMP0 one
      have HCMP1 := Hid.mk HCMP0
      have HC1 := Hid.mk hC
      clear HCMP0 hkT hkE hclen hus k1 k2 r1 r2 r3 r4 r5 r6 s0 s1 s2 s3 s4 s5 s6 hfill hperm hpc hLb hLo hC htu hgp hbn hCN hset hmem hup3 l3 hboxg
      rcases one with rfl | rfl | rfl
      · have HCC := Hid.mk (show T.cmp e.T < 0 from by have := HC1.out; omega)
        have HCMP := HCMP1
        go_upto_region 6 with fail
        replace lk3 := lk3'
        clear lk3' q3 z3 hwc hw3
        refine region_up (W := w3') (by kernel_rfl) (by kernel_rfl) (Up.refl _) ?_
        refine quiet_value (v := .agg #[.int .i64 kk, .int .i64 kn, .string ks, .slice ka km kc]) rfl (fun W h => (by have u0 := cell_below h.out _ _ _ d0; have u1 := cell_below h.out _ _ _ d1; have u2 := cell_below h.out _ _ _ d2; have u3 := cell_below h.out _ _ _ d3; go_simp)) ?_
        simp only [Act.put, List.setIfInBounds_toArray, List.set_cons_zero, List.set_cons_succ]
        refine quiet_value (v := .pointer (some ⟨Lb, Lo', none⟩)) rfl (fun _ _ => rfl) ?_
        simp only [Act.put, List.setIfInBounds_toArray, List.set_cons_zero, List.set_cons_succ]
        refine quiet_value (v := .pointer (some ⟨Lb, Lo', none⟩)) rfl (fun _ _ => (by go_simp)) ?_
        simp only [Act.put, List.setIfInBounds_toArray, List.set_cons_zero, List.set_cons_succ]
        refine quiet_value (v := .pointer (some ⟨g, 0, none⟩)) rfl (fun W h => (by have u0 := cell_below h.out _ _ _ lk3; go_simp)) ?_
        simp only [Act.put, List.setIfInBounds_toArray, List.set_cons_zero, List.set_cons_succ]
        refine quiet_value (v := .pointer (some ⟨g, 0, none⟩)) rfl (fun _ _ => (by go_simp)) ?_
        simp only [Act.put, List.setIfInBounds_toArray, List.set_cons_zero, List.set_cons_succ]
        refine quiet_value (v := .pointer (some ⟨g, 0, none⟩)) rfl (fun _ _ => (by go_simp)) ?_
        simp only [Act.put, List.setIfInBounds_toArray, List.set_cons_zero, List.set_cons_succ]
        refine quiet_value (v := .agg #[.int .i64 e.h.k, .int .i64 e.h.n, .string e.h.s, .slice e.h.a e.h.m e.h.c]) rfl (fun W h => (by have u0 := cell_below h.out _ _ _ y0; have u1 := cell_below h.out _ _ _ y1; have u2 := cell_below h.out _ _ _ y2; have u3 := cell_below h.out _ _ _ y3; go_simp)) ?_
        simp only [Act.put, List.setIfInBounds_toArray, List.set_cons_zero, List.set_cons_succ]
        refine quiet_call (v := .int .i64 (-1)) rfl (fun W => (by go_simp)) (fun W h => (HCMP.out W h.out).mono fun e w' ⟨he, hb⟩ => ⟨he, h.call hb⟩) ?_
        simp only [Act.put, List.setIfInBounds_toArray, List.set_cons_zero, List.set_cons_succ]
        refine quiet_nil ?_
        intro w4 hw4
        have HB4 := Hid.mk hw4.out
        replace lk3 := cell_below hw4.out _ _ _ lk3
        clear hw4 d0 d1 d2 d3 y0 y1 y2 y3
        obtain ⟨f1, f2, f3, f4, f5, f6, f7⟩ := HPP.out
        obtain ⟨u2, w5, hr2, hi2, hg2, ho2⟩ := append_elem wayS (w4.alloc (.cells #[.pointer (some ⟨g, 6, none⟩)] 78)) 75 uu (waysC p c) (g, 6) ((f3.up HB4.out).up (Up.alloc (Up.refl w4)).out) w4.heap.size (new_block _ _) rfl (by have := HLN.out; rw [ways_len]; omega)
        have hgr : Only (fun k => uu.ownBlock = some k) w4 w5 := (Only.up (Up.alloc (Up.refl w4)).out).grow hg2 (fun k hk => hk)
        have hou : ∀ k, uu.ownBlock = some k → W1.heap.size ≤ k := f4
        have hw5 : Only (fun k => k = p) W1 w5 := (f7.call HB4.out).trans hgr (fun k hk => Or.inr (hou k hk))
        have hnp : ∀ k, k = p ∨ k ∈ blocksC c ∨ k ∈ (Bt.node g e x l r).blocks → ¬ uu.ownBlock = some k := fun k hk e0 => by
          have h1 := hou k e0
          rcases hk with rfl | hk | hk
          · have := HPL.out; have := HU.out.size; omega
          · have := HBB.out k (Or.inl hk); have := HU.out.size; omega
          · have := HBB.out k (Or.inr hk); have := HU.out.size; omega
        have hob : ∀ k, u2.ownBlock = some k → W1.heap.size ≤ k := fun k hk => by
          rcases ho2 with e1 | e1
          · exact hou k (e1 ▸ hk)
          · rw [e1] at hk; cases hk; rw [World.size_alloc]; have := (f7.call HB4.out).size; omega
        obtain ⟨s1, sl, sr⟩ := (f5.up HB4.out).kept hgr (fun k hk => hnp k (Or.inr (Or.inr hk)))
        have sc := (f6.up HB4.out).kept hgr (fun k hk => hnp k (by rcases hk with e0 | e0; exact Or.inl e0; exact Or.inr (Or.inl e0)))
        have HNX := Hid.mk (show fillB l (⟨g, false, e, x, r⟩ :: c) = t0 ∧ WayTo (⟨g, false, e, x, r⟩ :: c) T ∧ Ow wayS w5 u2 (waysC p (⟨g, false, e, x, r⟩ :: c)) ∧ (∀ k, u2.ownBlock = some k → W1.heap.size ≤ k) ∧ LayB w5 l ∧ CtxB w5 p n (cm + c.length + 1) (⟨g, false, e, x, r⟩ :: c) (ptrB l) ∧ Only (fun k => k = p) W1 w5 from
          ⟨f1, f2.ahead (fill_rising (c := c) (by rw [f1]; exact HST.out.2.2.2.2.1)) HCC.out, hi2, hob, sl, ⟨s1, sr, sc⟩, hw5⟩)
        clear f1 f2 f3 f4 f5 f6 f7 hi2 hg2 ho2 hgr hou hw5 hnp hob s1 sl sr sc
        go_wp2_with (at_builtin; refine Lib.wpList_append_run _ rfl _ _ _ _ rfl _ _ rfl rfl _ _ hr2 ?_)
        go_roundw
        case rel =>
          obtain ⟨f1, f2, f3, f4, f5, f6, f7⟩ := HNX.out
          refine ⟨_, l, u2, f1, rfl, ?_, Hid.mk ⟨f2, f3, f4, f5, ?_, f7⟩⟩
          · rfl
          · have e9 : cm + (((⟨g, false, e, x, r⟩ :: c : List Fr).length : Nat) : Int) = cm + c.length + 1 := by rw [List.length_cons]; omega
            rw [e9]; exact f6
        case measure =>
          obtain ⟨f1, f2, f3, f4, f5, f6, f7⟩ := HNX.out
          obtain ⟨_, _, e5, _⟩ := way_row f3
          have h6 := HLN.out.1
          have h7 := HLN.out.2
          have h8 : 1 ≤ (Bt.node g e x l r).list.length := by simp [Bt.list]; omega
          rw [h6]
          rw [e5]
          show 800001 - ((⟨g, false, e, x, r⟩ :: c : List Fr).length + 1) < _
          rw [List.length_cons]
          omega
      · have HCC := Hid.mk (show T.cmp e.T = 0 from by have := HC1.out; omega)
        have HCMP := HCMP1
        go_upto_region 6 with fail
        replace lk3 := lk3'
        clear lk3' q3 z3 hwc hw3
        refine region_up (W := w3') (by kernel_rfl) (by kernel_rfl) (Up.refl _) ?_
        refine quiet_value (v := .agg #[.int .i64 kk, .int .i64 kn, .string ks, .slice ka km kc]) rfl (fun W h => (by have u0 := cell_below h.out _ _ _ d0; have u1 := cell_below h.out _ _ _ d1; have u2 := cell_below h.out _ _ _ d2; have u3 := cell_below h.out _ _ _ d3; go_simp)) ?_
        simp only [Act.put, List.setIfInBounds_toArray, List.set_cons_zero, List.set_cons_succ]
        refine quiet_value (v := .pointer (some ⟨Lb, Lo', none⟩)) rfl (fun _ _ => rfl) ?_
        simp only [Act.put, List.setIfInBounds_toArray, List.set_cons_zero, List.set_cons_succ]
        refine quiet_value (v := .pointer (some ⟨Lb, Lo', none⟩)) rfl (fun _ _ => (by go_simp)) ?_
        simp only [Act.put, List.setIfInBounds_toArray, List.set_cons_zero, List.set_cons_succ]
        refine quiet_value (v := .pointer (some ⟨g, 0, none⟩)) rfl (fun W h => (by have u0 := cell_below h.out _ _ _ lk3; go_simp)) ?_
        simp only [Act.put, List.setIfInBounds_toArray, List.set_cons_zero, List.set_cons_succ]
        refine quiet_value (v := .pointer (some ⟨g, 0, none⟩)) rfl (fun _ _ => (by go_simp)) ?_
        simp only [Act.put, List.setIfInBounds_toArray, List.set_cons_zero, List.set_cons_succ]
        refine quiet_value (v := .pointer (some ⟨g, 0, none⟩)) rfl (fun _ _ => (by go_simp)) ?_
        simp only [Act.put, List.setIfInBounds_toArray, List.set_cons_zero, List.set_cons_succ]
        refine quiet_value (v := .agg #[.int .i64 e.h.k, .int .i64 e.h.n, .string e.h.s, .slice e.h.a e.h.m e.h.c]) rfl (fun W h => (by have u0 := cell_below h.out _ _ _ y0; have u1 := cell_below h.out _ _ _ y1; have u2 := cell_below h.out _ _ _ y2; have u3 := cell_below h.out _ _ _ y3; go_simp)) ?_
        simp only [Act.put, List.setIfInBounds_toArray, List.set_cons_zero, List.set_cons_succ]
        refine quiet_call (v := .int .i64 0) rfl (fun W => (by go_simp)) (fun W h => (HCMP.out W h.out).mono fun e w' ⟨he, hb⟩ => ⟨he, h.call hb⟩) ?_
        simp only [Act.put, List.setIfInBounds_toArray, List.set_cons_zero, List.set_cons_succ]
        refine quiet_nil ?_
        intro w4 hw4
        have HB4 := Hid.mk hw4.out
        replace lk3 := cell_below hw4.out _ _ _ lk3
        clear hw4 d0 d1 d2 d3 y0 y1 y2 y3
        go_wp2
        refine bodyPost_ret (by simp [results]) rfl ⟨uu, true, rfl, ?_⟩
        obtain ⟨f1, f2, f3, f4, f5, f6, f7⟩ := HPP.out
        refine ⟨c, _, f1, f2, fun _ => ⟨_, _, _, _, _, rfl, HCC.out⟩, fun e0 => (by cases e0), f3.up HB4.out, fun k hk => Nat.le_trans HU.out.size (f4 k hk), f5.up HB4.out, ?_, HOW.out _ (f7.call HB4.out)⟩
        rw [if_pos rfl]
        exact f6.up HB4.out
      · have HCC := Hid.mk (show 0 < T.cmp e.T from by have := HC1.out; omega)
        have HCMP := HCMP1
        go_upto_region 6 with fail
        replace lk3 := lk3'
        clear lk3' q3 z3 hwc hw3
        refine region_up (W := w3') (by kernel_rfl) (by kernel_rfl) (Up.refl _) ?_
        refine quiet_value (v := .agg #[.int .i64 kk, .int .i64 kn, .string ks, .slice ka km kc]) rfl (fun W h => (by have u0 := cell_below h.out _ _ _ d0; have u1 := cell_below h.out _ _ _ d1; have u2 := cell_below h.out _ _ _ d2; have u3 := cell_below h.out _ _ _ d3; go_simp)) ?_
        simp only [Act.put, List.setIfInBounds_toArray, List.set_cons_zero, List.set_cons_succ]
        refine quiet_value (v := .pointer (some ⟨Lb, Lo', none⟩)) rfl (fun _ _ => rfl) ?_
        simp only [Act.put, List.setIfInBounds_toArray, List.set_cons_zero, List.set_cons_succ]
        refine quiet_value (v := .pointer (some ⟨Lb, Lo', none⟩)) rfl (fun _ _ => (by go_simp)) ?_
        simp only [Act.put, List.setIfInBounds_toArray, List.set_cons_zero, List.set_cons_succ]
        refine quiet_value (v := .pointer (some ⟨g, 0, none⟩)) rfl (fun W h => (by have u0 := cell_below h.out _ _ _ lk3; go_simp)) ?_
        simp only [Act.put, List.setIfInBounds_toArray, List.set_cons_zero, List.set_cons_succ]
        refine quiet_value (v := .pointer (some ⟨g, 0, none⟩)) rfl (fun _ _ => (by go_simp)) ?_
        simp only [Act.put, List.setIfInBounds_toArray, List.set_cons_zero, List.set_cons_succ]
        refine quiet_value (v := .pointer (some ⟨g, 0, none⟩)) rfl (fun _ _ => (by go_simp)) ?_
        simp only [Act.put, List.setIfInBounds_toArray, List.set_cons_zero, List.set_cons_succ]
        refine quiet_value (v := .agg #[.int .i64 e.h.k, .int .i64 e.h.n, .string e.h.s, .slice e.h.a e.h.m e.h.c]) rfl (fun W h => (by have u0 := cell_below h.out _ _ _ y0; have u1 := cell_below h.out _ _ _ y1; have u2 := cell_below h.out _ _ _ y2; have u3 := cell_below h.out _ _ _ y3; go_simp)) ?_
        simp only [Act.put, List.setIfInBounds_toArray, List.set_cons_zero, List.set_cons_succ]
        refine quiet_call (v := .int .i64 1) rfl (fun W => (by go_simp)) (fun W h => (HCMP.out W h.out).mono fun e w' ⟨he, hb⟩ => ⟨he, h.call hb⟩) ?_
        simp only [Act.put, List.setIfInBounds_toArray, List.set_cons_zero, List.set_cons_succ]
        refine quiet_nil ?_
        intro w4 hw4
        have HB4 := Hid.mk hw4.out
        replace lk3 := cell_below hw4.out _ _ _ lk3
        clear hw4 d0 d1 d2 d3 y0 y1 y2 y3
        obtain ⟨f1, f2, f3, f4, f5, f6, f7⟩ := HPP.out
        obtain ⟨u2, w5, hr2, hi2, hg2, ho2⟩ := append_elem wayS (w4.alloc (.cells #[.pointer (some ⟨g, 7, none⟩)] 78)) 75 uu (waysC p c) (g, 7) ((f3.up HB4.out).up (Up.alloc (Up.refl w4)).out) w4.heap.size (new_block _ _) rfl (by have := HLN.out; rw [ways_len]; omega)
        have hgr : Only (fun k => uu.ownBlock = some k) w4 w5 := (Only.up (Up.alloc (Up.refl w4)).out).grow hg2 (fun k hk => hk)
        have hou : ∀ k, uu.ownBlock = some k → W1.heap.size ≤ k := f4
        have hw5 : Only (fun k => k = p) W1 w5 := (f7.call HB4.out).trans hgr (fun k hk => Or.inr (hou k hk))
        have hnp : ∀ k, k = p ∨ k ∈ blocksC c ∨ k ∈ (Bt.node g e x l r).blocks → ¬ uu.ownBlock = some k := fun k hk e0 => by
          have h1 := hou k e0
          rcases hk with rfl | hk | hk
          · have := HPL.out; have := HU.out.size; omega
          · have := HBB.out k (Or.inl hk); have := HU.out.size; omega
          · have := HBB.out k (Or.inr hk); have := HU.out.size; omega
        have hob : ∀ k, u2.ownBlock = some k → W1.heap.size ≤ k := fun k hk => by
          rcases ho2 with e1 | e1
          · exact hou k (e1 ▸ hk)
          · rw [e1] at hk; cases hk; rw [World.size_alloc]; have := (f7.call HB4.out).size; omega
        obtain ⟨s1, sl, sr⟩ := (f5.up HB4.out).kept hgr (fun k hk => hnp k (Or.inr (Or.inr hk)))
        have sc := (f6.up HB4.out).kept hgr (fun k hk => hnp k (by rcases hk with e0 | e0; exact Or.inl e0; exact Or.inr (Or.inl e0)))
        have HNX := Hid.mk (show fillB r (⟨g, true, e, x, l⟩ :: c) = t0 ∧ WayTo (⟨g, true, e, x, l⟩ :: c) T ∧ Ow wayS w5 u2 (waysC p (⟨g, true, e, x, l⟩ :: c)) ∧ (∀ k, u2.ownBlock = some k → W1.heap.size ≤ k) ∧ LayB w5 r ∧ CtxB w5 p n (cm + c.length + 1) (⟨g, true, e, x, l⟩ :: c) (ptrB r) ∧ Only (fun k => k = p) W1 w5 from
          ⟨f1, f2.behind (fill_rising (c := c) (by rw [f1]; exact HST.out.2.2.2.2.1)) HCC.out, hi2, hob, sr, ⟨s1, sl, sc⟩, hw5⟩)
        clear f1 f2 f3 f4 f5 f6 f7 hi2 hg2 ho2 hgr hou hw5 hnp hob s1 sl sr sc
        go_wp2_with (at_builtin; refine Lib.wpList_append_run _ rfl _ _ _ _ rfl _ _ rfl rfl _ _ hr2 ?_)
        go_roundw
        case rel =>
          obtain ⟨f1, f2, f3, f4, f5, f6, f7⟩ := HNX.out
          refine ⟨_, r, u2, f1, rfl, ?_, Hid.mk ⟨f2, f3, f4, f5, ?_, f7⟩⟩
          · rfl
          · have e9 : cm + (((⟨g, true, e, x, l⟩ :: c : List Fr).length : Nat) : Int) = cm + c.length + 1 := by rw [List.length_cons]; omega
            rw [e9]; exact f6
        case measure =>
          obtain ⟨f1, f2, f3, f4, f5, f6, f7⟩ := HNX.out
          obtain ⟨_, _, e5, _⟩ := way_row f3
          have h6 := HLN.out.1
          have h7 := HLN.out.2
          have h8 : 1 ≤ (Bt.node g e x l r).list.length := by simp [Bt.list]; omega
          rw [h6]
          rw [e5]
          show 800001 - ((⟨g, true, e, x, l⟩ :: c : List Fr).length + 1) < _
          rw [List.length_cons]
          omega
end Go.Proofs.YteklhipcojioaaaDoor
