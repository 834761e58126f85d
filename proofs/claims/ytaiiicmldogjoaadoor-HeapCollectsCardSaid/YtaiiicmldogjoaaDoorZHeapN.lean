/-
  What a collection meets can be moved.
-/
import Derived.Test.YtaiiicmldogjoaaDoorZHeapM
namespace Go.Proofs.YtaiiicmldogjoaaDoor
open Go.RowKit Go.Deep Go.Maps Go.WideShapes

theorem Wds.cell_at {w : World} {g n cap : Nat} {xs : List Int} (h : Wds w (.slice (some ⟨g, 0, none⟩) n cap) xs) {i : Nat} (hi : i < xs.length) : ∃ u, w.cell? ⟨g, i, none⟩ = some u := by
  rcases h.shape with ⟨e, _⟩ | ⟨g', cp, e, _, _, _, hc⟩
  · cases e
  · simp only [Value.slice.injEq, Option.some.injEq, Addr.mk.injEq] at e
    obtain ⟨⟨rfl, _⟩, _⟩ := e
    exact ⟨_, hc i hi⟩
theorem Cs.wset {W w : World} {hb hx nx px pb : Nat} {xs ks : List Int} {M : List Nat} {g n cap : Nat} {kv : Value} {ys : List Int} (h : Cs W w hb hx nx px pb xs ks M (.slice (some ⟨g, 0, none⟩) n cap) kv ys) (i : Nat) (x : Int) :
    Cs W (w.setCell ⟨g, i, none⟩ (.int .u64 x)) hb hx nx px pb xs ks M (.slice (some ⟨g, 0, none⟩) n cap) kv (ys.set i x) := by
  have hg : PMine nx (.slice (some ⟨g, 0, none⟩) n cap) kv g := Or.inr (Or.inl rfl)
  have hn := h.new g (Or.inl hg)
  have ho : Only (fun k => k = g) w (w.setCell ⟨g, i, none⟩ (.int .u64 x)) := Only.set w _ rfl
  obtain ⟨D, hD, hM⟩ := h.map
  refine ⟨(h.pil.wset i x).1, ho.cellS (fun e => hn.2.2 e.symm) h.cp, ⟨D, ownsMap_same hD (ho.block pb (h.lt (Or.inr rfl)) (fun e => h.npb (e ▸ hg))), hM⟩, ho.cellS (fun e => hn.2.1 e.symm) h.ch, h.below.trans (ho.below (fun k hk => by subst hk; exact hn.1) h.below.size), h.new, h.npb, by rw [List.length_set]; exact h.len⟩
/-- The heap has what was moved. -/
theorem Hea.turned {W w : World} {hb p bm hx nx px pb : Nat} {v wv kv wv' kv' : Value} {L : List ByteArray} {Mx : Nat} {xs ks : List Int} {M : List Nat} {ys : List Int} (h : Hea W hb p bm v L Mx wv kv xs ks) (hc : Cs W w hb hx nx px pb xs ks M wv' kv' ys) (hl : (nk xs ks M).length = ys.length) (hm : ys.length ≤ Mx) :
    Hea ((w.setCell ⟨hb, 3, none⟩ wv').setCell ⟨hb, 4, none⟩ kv') hb p bm v L Mx wv' kv' ys (nk xs ks M) ∧ Stp hb p bm W v wv kv ((w.setCell ⟨hb, 3, none⟩ wv').setCell ⟨hb, 4, none⟩ kv') v wv' kv' := by
  have hr := h.up hc.below
  have hbl : hb < W.heap.size := h.pil.lt
  have ho : Only (fun k => k = hb) w ((w.setCell ⟨hb, 3, none⟩ wv').setCell ⟨hb, 4, none⟩ kv') := Only.put (S := fun k => k = hb) (Only.set (S := fun k => k = hb) w wv' rfl) rfl 4 kv'
  have own : ∀ g, wv'.ownBlock = some g ∨ kv'.ownBlock = some g → W.heap.size ≤ g := fun g hg => (hc.new g (Or.inl (Or.inr hg))).1
  have oth : ∀ j, j ≠ 3 → j ≠ 4 → ((w.setCell ⟨hb, 3, none⟩ wv').setCell ⟨hb, 4, none⟩ kv').cell? ⟨hb, j, none⟩ = w.cell? ⟨hb, j, none⟩ := fun j h3 h4 =>
    (World.cell?_setCell_other _ ⟨hb, 4, none⟩ ⟨hb, j, none⟩ kv' (by intro e; cases e; exact h4 rfl)).trans (World.cell?_setCell_other w ⟨hb, 3, none⟩ ⟨hb, j, none⟩ wv' (by intro e; cases e; exact h3 rfl))
  have e3 := World.cell?_setCell_same w ⟨hb, 3, none⟩ wv' hr.pil.c0
  have e4 := World.cell?_setCell_same (w.setCell ⟨hb, 3, none⟩ wv') ⟨hb, 4, none⟩ kv' ((World.cell?_setCell_other w ⟨hb, 3, none⟩ ⟨hb, 4, none⟩ wv' (by simp)).trans hr.pil.c1)
  have nw0 := h.wt.size
  have ns0 := h.st.size
  refine ⟨⟨hr.tab.kept ho fun k hk e => hr.nb (e ▸ hk), (oth 0 (by decide) (by decide)).trans hr.c0, (oth 1 (by decide) (by decide)).trans hr.c1, (oth 2 (by decide) (by decide)).trans hr.c2,
    ⟨(World.cell?_setCell_other _ ⟨hb, 4, none⟩ ⟨hb, 3, none⟩ kv' (by simp)).trans e3, e4, ?_, ?_, hc.pil.row.kept ho fun g hg e => ?_, hc.pil.kin.kept ho fun g hg e => ?_, fun e => ?_, fun e => ?_, hc.pil.n2⟩, hr.nb, fun g hg hk => ?_, hr.wt.kept ho fun e => hr.gw (Or.inr (Or.inl e)), hr.st.kept ho fun e => hr.gs (Or.inr (Or.inl e)), fun hk => ?_, fun hk => ?_, hl, hm, h.m1⟩, ?_, fun k hk => ?_⟩
  · rw [World.frozen?_setCell, World.frozen?_setCell]; exact hr.pil.f0
  · rw [World.frozen?_setCell, World.frozen?_setCell]; exact hr.pil.f1
  · have := own g (Or.inl hg); omega
  · have := own g (Or.inr hg); omega
  · have := own _ (Or.inl e); omega
  · have := own _ (Or.inr e); omega
  · have h1 := own g hg
    have h2 := h.tab.lt hk
    omega
  · rcases hk with hk | hk | hk
    · exact h.gw (Or.inl hk)
    · exact h.gw (Or.inr (Or.inl hk))
    · have := own _ hk; omega
  · rcases hk with hk | hk | hk
    · exact h.gs (Or.inl hk)
    · exact h.gs (Or.inr (Or.inl hk))
    · have := own _ hk; omega
  · exact (Only.up hc.below : Only (HOwn hb p bm v wv kv) W w).trans (ho.mono fun k e => (Or.inr (Or.inl e) : HOwn hb p bm v wv kv k)) fun _ h => Or.inl h
  · rcases hk with hk | rfl | hk
    · exact Or.inl (Or.inl hk)
    · exact Or.inl (Or.inr (Or.inl rfl))
    · exact Or.inr (own k hk)
theorem nk_length {xs ks : List Int} {M : List Nat} (hM : ∀ q ∈ M, 1 ≤ (bxw xs ks q).length) : (nk xs ks M).length = (M.flatMap (bxw xs ks)).length := by
  rw [nk]
  induction M with
  | nil => rfl
  | cons a r ih => rw [List.flatMap_cons, List.flatMap_cons, List.length_append, List.length_append, ih fun p hp => hM p (List.mem_cons_of_mem _ hp), nkp, kbox_length (hM a (List.mem_cons_self ..))]
/-- A place at which terms' words are boxed. -/
def Gq (L : List ByteArray) (xs ks : List Int) (q : Nat) : Prop := ∃ k n ps l, Bx xs ks k n q ps ∧ Dens L xs ks l ps
/-- A word that can be met. -/
def TokOk (L : List ByteArray) (xs ks : List Int) (y : Int) : Prop := (0 ≤ y ∧ y < 18446744073709551616) ∧ (Wd.boxedB y = true → (∃ k n ps, Pk y k (plc y) ∧ Bx xs ks k n (plc y) ps) ∧ Gq L xs ks (plc y))
section
variable {L : List ByteArray} {xs ks : List Int}
theorem den_tok {T : Tm} {y : Int} (h : Den L xs ks T y) : TokOk L xs ks y := by
  refine ⟨?_, fun hb => ?_⟩
  · cases T with
    | mk k n s l =>
      obtain ⟨m, hp, _⟩ := den_pk h
      exact ⟨hp.facts.2.2.2.2.2.2.1, hp.facts.2.2.2.2.2.2.2⟩
  · obtain ⟨k, n, s, l, ps, _, hw, _, hx, hd⟩ := den_box h hb
    exact ⟨⟨k, n, ps, hw, hx⟩, k, n, ps, l, hx, hd⟩
theorem gq_tok {q : Nat} (h : Gq L xs ks q) : ∀ y ∈ bxw xs ks q, TokOk L xs ks y := by
  obtain ⟨k, n, ps, l, hx, hd⟩ := h
  intro y hy
  rw [hx.words] at hy
  rcases List.mem_append.1 hy with hy | hy
  · by_cases h9 : k = 9
    · rw [leadW, if_neg (by omega), if_neg (by omega)] at hy; cases hy
    · obtain ⟨x, e, _, _, _, _, hb, b0, b1, _⟩ := head_num hx.has hx.fit h9
      rw [e] at hy
      rw [List.mem_singleton.1 hy]
      exact ⟨⟨b0, b1⟩, fun h => by rw [hb] at h; cases h⟩
  · obtain ⟨t, _, ht⟩ := hd.mem y hy
    exact den_tok ht
theorem gq_len {q : Nat} (h : Gq L xs ks q) : 1 ≤ (bxw xs ks q).length ∧ ∃ k, ks[q]? = some k ∧ k ≠ 0 := by
  obtain ⟨k, n, ps, l, hx, hd⟩ := h
  rw [hx.words, List.length_append]
  have := hx.has
  rw [hasL_iff] at this
  exact ⟨(fit_len hx.has hx.fit).1, k, hx.kind, by omega⟩
theorem flat_visit (M : List Nat) (x : Int) : (visit M x).flatMap (bxw xs ks) = M.flatMap (bxw xs ks) ++ addW xs ks M x := by
  rw [visit, addW]
  split
  · rw [List.flatMap_append, List.flatMap_cons, List.flatMap_nil, List.append_nil]
  · rw [List.append_nil]
theorem len_flat {f : Nat → List Int} : ∀ {M : List Nat}, (∀ p ∈ M, 1 ≤ (f p).length) → M.length ≤ (M.flatMap f).length
  | [], _ => Nat.le_refl _
  | a :: r, h => by
    have h1 := h a (List.mem_cons_self ..)
    have h2 := len_flat (f := f) (M := r) fun p hp => h p (List.mem_cons_of_mem _ hp)
    rw [List.flatMap_cons, List.length_append, List.length_cons]
    omega
/-- All places that are noted are such. -/
theorem visit_gq {M : List Nat} {x : Int} (hM : ∀ q ∈ M, Gq L xs ks q) (hx : TokOk L xs ks x) : ∀ q ∈ visit M x, Gq L xs ks q := by
  intro q hq
  rw [visit] at hq
  split at hq
  · rename_i hv
    rcases List.mem_append.1 hq with h | h
    · exact hM q h
    · rw [List.mem_singleton.1 h]; exact (hx.2 hv.1).2
  · exact hM q hq
theorem scan_step {rs : List Int} {M : List Nat} {j : Nat} {x : Int} (hM : M = scan (bxw xs ks) rs j) (hx : (toks (bxw xs ks) rs M)[j]? = some x) : visit M x = scan (bxw xs ks) rs (j + 1) := by
  rw [scan_succ, ← hM, hx]
/-- One more of what lies behind is turned. -/
theorem turn_one {f : Nat → List Int} {M : List Nat} {Y add : List Int} {i : Nat} {x : Int} (hi : i < Y.length) (hx : Y[i] = x) (hmet : ∀ y ∈ Y.take i, Wd.boxedB y = true → plc y ∈ M) :
    ((Y.take i).map (tr f M) ++ Y.drop i ++ add).set i (tr f (visit M x) x) = ((Y ++ add).take (i + 1)).map (tr f (visit M x)) ++ (Y ++ add).drop (i + 1) := by
  have h1 : (Y.take i).map (tr f M) = (Y.take i).map (tr f (visit M x)) := List.map_congr_left fun y hy => (tr_pre (visit_pre M x) (hmet y hy)).symm
  have h2 : ((Y.take i).map (tr f (visit M x))).length = i := by rw [List.length_map, List.length_take]; omega
  have h3 : (Y ++ add).take (i + 1) = Y.take i ++ [x] := by rw [List.take_append_of_le_length (by omega), List.take_succ_eq_append_getElem hi, hx]
  have h4 : (Y ++ add).drop (i + 1) = Y.drop (i + 1) ++ add := by rw [List.drop_append_of_le_length (by omega)]
  have h5 : Y.drop i = x :: Y.drop (i + 1) := by rw [List.drop_eq_getElem_cons hi, hx]
  rw [h1, h3, h4, List.map_append, List.append_assoc, List.set_append_right _ _ (by omega), h2, Nat.sub_self, h5]
  simp
end
end Go.Proofs.YtaiiicmldogjoaaDoor

/-
  A heap is collected.
-/
namespace Go.Proofs.YtaiiicmldogjoaaDoor
open Go.RowKit Go.Deep Go.Maps Go.WideShapes

/-- What a collection has answered. -/
structure ColR (hb p bm : Nat) (W : World) (v : Value) (L : List ByteArray) (Mx : Nat) (wv kv : Value) (xs ks rs : List Int) (lv : Value) (w' : World) : Prop where
  out : ∃ wv' kv' J M, Scd (bxw xs ks) rs J M ∧ Moved xs ks M ∧ Wds w' lv (rs.map (tr (bxw xs ks) M)) ∧ (∀ g, lv.ownBlock = some g → W.heap.size ≤ g ∧ ¬ HOwn hb p bm v wv' kv' g) ∧ Hea w' hb p bm v L Mx wv' kv' (nw xs ks M) (nk xs ks M) ∧ Stp hb p bm W v wv kv w' v wv' kv'
def moveV (px nx hx : Nat) : Value := .func (.func 42) #[] #[.pointer (some ⟨px, 0, none⟩), .pointer (some ⟨nx, 0, none⟩), .pointer (some ⟨hx, 0, none⟩)]

set_option maxHeartbeats 8000000 in
set_option maxRecDepth 100000 in
theorem collect_any (hb p bm : Nat) (v : Value) (L : List ByteArray) (Mx : Nat) (wv kv : Value) (xs ks rs : List Int) (a : Option Addr) (cap : Nat) (W : World) (h : Hea W hb p bm v L Mx wv kv xs ks) (hwf : Wf xs ks) (hMx : Mx ≤ 900000) (hrs : Cel W rs a) (hR : rs.length ≤ 1000) (hden : ∀ r ∈ rs, ∃ T, Den L xs ks T r) :
    Calls Tryd.prog 12 #[.pointer (some ⟨hb, 0, none⟩), .slice a rs.length cap] W fun e w' => ∃ lv, e = .returned (.tuple #[lv, .int .i64 0]) ∧ ColR hb p bm W v L Mx wv kv xs ks rs lv w' := by
  obtain ⟨W0, hW0⟩ : ∃ W0, W.alloc (.cells #[.pointer (some ⟨hb, 0, none⟩)] 23) = W0 := ⟨_, rfl⟩
  have hb0 : Below W.heap.size W W0 := by rw [← hW0]; exact (Below.refl _ _).alloc (Nat.le_refl _) _
  have hbx : W0.heap[W.heap.size]? = some (.cells #[.pointer (some ⟨hb, 0, none⟩)] 23) := by rw [← hW0]; exact new_block _ _
  have hall : rs.all (mayB L ks) = true := by rw [List.all_eq_true]; exact fun r hr => by obtain ⟨T, hT⟩ := hden r hr; exact den_may hT
  have HMA := Hid.mk (mayAll_any hb p bm v L Mx wv kv xs ks rs a cap W0 (h.up hb0) hwf (hrs.up hb0) (fun r hr => by obtain ⟨T, hT⟩ := hden r hr; exact (den_tok hT).1) (by omega))
  rw [hall] at HMA
  have HTK := Hid.mk (fun r (hr : r ∈ rs) => by obtain ⟨T, hT⟩ := hden r hr; exact den_tok hT : ∀ r ∈ rs, TokOk L xs ks r)
  have c0 := (h.up hb0).c0
  have ch : W0.cell? ⟨W.heap.size, 0, none⟩ = some (.pointer (some ⟨hb, 0, none⟩)) := by simp [World.cell?, hbx]
  have HH := Hid.mk h
  have HRS := Hid.mk hrs
  have HR := Hid.mk hR
  have HWF := Hid.mk hwf
  have HMX := Hid.mk hMx
  have HB0 := Hid.mk hb0
  have HSX : Hid (W.heap.size < W0.heap.size) := Hid.mk (Array.getElem?_eq_some_iff.1 hbx).1
  clear h hwf hMx hrs hR hden hb0 hbx hall
  go_enter Tryd.func12, Tryd.ntmps12
  go_upto_region 1 with fail
  try rw [hW0]
  clear hW0
  go_upto_region 5 with (first
    | (go_at_call 30; refine (madeH_yes _ _ c0).mono ?_; rintro e w1 ⟨rfl, rfl⟩)
    | (go_at_call 41; refine HMA.out.mono ?_; rintro e w1 ⟨rfl, hb1⟩; have ch := cell_below hb1 _ _ _ ch; have HB1 := Hid.mk hb1; clear hb1))
  have hmm := @run_makeMap Tryd.prog
  obtain ⟨i0, hi0, hz0, hz1, hby⟩ : ∃ i0, Tryd.prog.info? 22 = some i0 ∧ i0.zero = some (.int .u64 0) ∧ i0.size = 1 ∧ i0.bytes = 8 := by
    have hi := wordInfo
    cases hq : Tryd.prog.info? 22 with
    | none => rw [hq] at hi; cases hi
    | some i =>
      rw [hq] at hi
      simp only [Option.map_some, Option.some.injEq, Prod.mk.injEq] at hi
      exact ⟨i, rfl, hi.1, hi.2.1, hi.2.2⟩
  go_upto_region 8 with fail
  obtain ⟨nx, hnx⟩ : ∃ nx, w1.heap.size = nx := ⟨_, rfl⟩
  obtain ⟨hx, hhx⟩ : ∃ hx, W.heap.size = hx := ⟨_, rfl⟩
  have HHX := Hid.mk hhx
  have hbW1 := HB0.out.trans (HB1.out.mono HB0.out.size)
  have m0 := old_block (old_block (heap_alloc_new w1 (.cells #[.slice none 0 0, .slice none 0 0] 28)) (.map #[] 0)) (.cells #[.map (some (w1.heap.size + 1))] 85)
  have m1 := heap_alloc_new (w1.alloc (.cells #[.slice none 0 0, .slice none 0 0] 28)) (.map #[] 0)
  rw [World.size_alloc] at m1
  have m1' := old_block m1 (.cells #[.map (some (w1.heap.size + 1))] 85)
  have m2 := heap_alloc_new ((w1.alloc (.cells #[.slice none 0 0, .slice none 0 0] 28)).alloc (.map #[] 0)) (.cells #[.map (some (w1.heap.size + 1))] 85)
  rw [World.size_alloc, World.size_alloc] at m2
  have hom : (((w1.alloc (.cells #[.slice none 0 0, .slice none 0 0] 28)).alloc (.map #[] 0)).alloc (.cells #[.map (some (w1.heap.size + 1))] 85)).ownsMap Tryd.prog 3 (plainElem Tryd.prog 3) (w1.heap.size + 1) 0 (.map [] : DataW Unit) := by
    have := World.ownsMap_made (P := Tryd.prog) (H := Unit) (w1.alloc (.cells #[.slice none 0 0, .slice none 0 0] 28)) 3 (plainElem Tryd.prog 3)
    rw [World.size_alloc] at this
    exact this.alloc _
  have hbU2 : Below w1.heap.size w1 (((w1.alloc (.cells #[.slice none 0 0, .slice none 0 0] 28)).alloc (.map #[] 0)).alloc (.cells #[.map (some (w1.heap.size + 1))] 85)) := (Up.refl w1).alloc.alloc.alloc.out
  obtain ⟨W2, hW2⟩ : ∃ W2, ((w1.alloc (.cells #[.slice none 0 0, .slice none 0 0] 28)).alloc (.map #[] 0)).alloc (.cells #[.map (some (w1.heap.size + 1))] 85) = W2 := ⟨_, rfl⟩
  rw [hW2] at m0 m1' m2 hom hbU2 ⊢
  rw [hnx] at m0 m1' m2 hom ⊢
  rw [hhx] at ⊢
  have hC0 : Cs W W2 hb hx nx (nx + 1 + 1) (nx + 1) xs ks [] (.slice none 0 0) (.slice none 0 0) [] := by
    have hsz := HB1.out.size
    have hsx := HSX.out
    rw [hnx] at hsz
    refine ⟨⟨by simp [World.cell?, m0], by simp [World.cell?, m0], by simp [World.frozen?, m0], by simp [World.frozen?, m0], ⟨rfl, Or.inl ⟨rfl, rfl⟩⟩, ⟨rfl, Or.inl ⟨rfl, rfl⟩⟩, fun e => (by cases e), fun e => (by cases e), fun g e => (by cases e)⟩, by simp [World.cell?, m2], ⟨_, hom, MapP.nil _⟩, ?_, hbW1.trans (hbU2.mono hbW1.size), ?_, ?_, rfl⟩
    · have := cell_below hbU2 _ _ _ ch
      rw [hhx] at this
      exact this
    · intro k hk
      rcases hk with (hk | hk | hk) | hk
      · subst hk; exact ⟨by omega, by omega, by omega⟩
      · cases hk
      · cases hk
      · subst hk; exact ⟨by omega, by omega, by omega⟩
    · intro hk
      rcases hk with hk | hk | hk
      · omega
      · cases hk
      · cases hk
  obtain ⟨w3, hr3, hZ3, hB3⟩ := made_zeros rs.length (by have := HR.out; omega) W2
  have HC0 := Hid.mk (hC0.up hB3)
  have HZ3 := Hid.mk hZ3
  have HLB := Hid.mk (show hx < W2.heap.size ∧ nx + 1 + 1 < W2.heap.size ∧ nx < W2.heap.size from ⟨World.block_lt_of_cell? _ _ hC0.ch, World.block_lt_of_cell? _ _ hC0.cp, hC0.pil.lt⟩)
  obtain ⟨lb, hlb⟩ : ∃ lb, W2.heap.size = lb := ⟨_, rfl⟩
  have HC00 := Hid.mk hC0
  rw [hlb] at hr3 HZ3 HLB
  have HNX := Hid.mk hnx
  have HLB2 := Hid.mk hlb
  obtain ⟨px, hpx⟩ : ∃ px, nx + 1 + 1 = px := ⟨_, rfl⟩
  obtain ⟨pb, hpb⟩ : ∃ pb, nx + 1 = pb := ⟨_, rfl⟩
  have HLW : Hid (W.heap.size ≤ lb) := Hid.mk (by have := hC0.below.size; omega)
  rw [hpx] at HC0 HC00 HLB ⊢
  rw [hpb] at HC0 HC00
  have HPX := Hid.mk hpx
  have HPB := Hid.mk hpb
  clear m0 m1 m1' m2 hom hbU2 hW2 hnx hhx hbW1 ch c0 hlb hpx hpb hC0 hZ3 hB3 hmm
  go_wp2
  go_loopw [28] (fun ii wr => ∃ (i : Nat) (wvi kvi : Value) (ys ll : List Int) (M : List Nat), i ≤ rs.length ∧ ii = .int .i64 i ∧ Hid (Cs W wr hb hx nx px pb xs ks M wvi kvi ys) ∧ Hid (M = scan (bxw xs ks) rs i ∧ (∀ q ∈ M, Gq L xs ks q) ∧ ys = M.flatMap (bxw xs ks)) ∧
    Hid (Wds wr (.slice (some ⟨lb, 0, none⟩) rs.length rs.length) ll) ∧ Hid (ll = (rs.take i).map (tr (bxw xs ks) M) ++ List.replicate (rs.length - i) 0 ∧ ∀ y ∈ rs.take i, Wd.boxedB y = true → plc y ∈ M) ∧ Hid (¬ CMine nx pb wvi kvi lb)) (fun ii _ => rs.length - (intOf ii).toNat)
  case atStart =>
    refine ⟨0, _, _, _, _, _, Nat.zero_le _, rfl, HC0, Hid.mk ⟨by rw [scan], fun q hq => (by cases hq), rfl⟩, HZ3, Hid.mk ⟨by rw [List.take_zero]; simp, fun y hy => (by rw [List.take_zero] at hy; cases hy)⟩, Hid.mk fun hk => ?_⟩
    have := HC00.out.lt hk
    have := HLB2.out
    omega
  case round =>
    obtain ⟨i, wvi, kvi, ys, ll, M, hi, rfl, hCi, hMi, hLi, hli, hni⟩ := hrel
    have hlen : Hid (ys.length ≤ xs.length ∧ M.length ≤ xs.length ∧ xs.length ≤ 900000) := Hid.mk (by
      have h1 := HWF.out.sum M (by rw [hMi.out.1]; exact scan_nodup _ _ _) (fun q hq => (gq_len (hMi.out.2.1 q hq)).2)
      have h2 := len_flat (f := bxw xs ks) fun q hq => (gq_len (hMi.out.2.1 q hq)).1
      have h3 := HH.out.m0
      have h4 := HMX.out
      rw [hMi.out.2.2]
      exact ⟨h1, by omega, by omega⟩)
    by_cases hlt : i < rs.length
    · have hBr := Hid.mk hCi.out.below
      have hwi : IntKind.i64.wrap ((i : Int) + 1) = ((i + 1 : Nat) : Int) := by have := HR.out; rw [wrap_id (by omega) (by omega)]; omega
      obtain ⟨bb, oo, rfl, hcc⟩ := (HRS.out.up hBr.out) (by omega)
      have c1 := hcc i hlt
      have htk := HTK.out _ (List.getElem_mem hlt)
      have hmv := move_any W wr hb p bm v L Mx wv kv hx nx px pb xs ks M wvi kvi ys HH.out hCi.out rs[i] htk.1.1 htk.1.2 (fun q hq => (gq_len (hMi.out.2.1 q hq)).1) (fun hb' => (htk.2 hb').1) (by have := hlen.out; omega) (by have := hlen.out; omega)
      have hll : ll.length = rs.length := by
        rw [hli.out.1, List.length_append, List.length_map, List.length_take, List.length_replicate]; omega
      have hnew : Hid (∀ x, x = tr (bxw xs ks) (visit M rs[i]) rs[i] → ll.set i x = (rs.take (i + 1)).map (tr (bxw xs ks) (visit M rs[i])) ++ List.replicate (rs.length - (i + 1)) 0) := Hid.mk fun x hx' => by
        have h1 : (rs.take i).map (tr (bxw xs ks) M) = (rs.take i).map (tr (bxw xs ks) (visit M rs[i])) := List.map_congr_left fun y hy => (tr_pre (visit_pre M _) (hli.out.2 y hy)).symm
        rw [hli.out.1, h1, List.take_succ_eq_append_getElem hlt, List.map_append, hx']
        have h2 : ((rs.take i).map (tr (bxw xs ks) (visit M rs[i]))).length = i := by rw [List.length_map, List.length_take]; omega
        obtain ⟨d, hd⟩ : ∃ d, rs.length - i = d + 1 := ⟨rs.length - i - 1, by omega⟩
        rw [List.set_append_right _ _ (by omega), h2, Nat.sub_self, hd, List.replicate_succ, List.set_cons_zero, show rs.length - (i + 1) = d by omega]
        simp
      have hmet : Hid (∀ y ∈ rs.take (i + 1), Wd.boxedB y = true → plc y ∈ visit M rs[i]) := Hid.mk fun y hy hb' => by
        rw [List.take_succ_eq_append_getElem hlt] at hy
        rcases List.mem_append.1 hy with hy | hy
        · exact pre_mem (visit_pre M _) (hli.out.2 y hy hb')
        · rw [List.mem_singleton.1 hy] at hb' ⊢
          exact visit_mem hb'
      have hM2 : Hid (visit M rs[i] = scan (bxw xs ks) rs (i + 1) ∧ (∀ q ∈ visit M rs[i], Gq L xs ks q) ∧ ys ++ addW xs ks M rs[i] = (visit M rs[i]).flatMap (bxw xs ks)) := Hid.mk
        ⟨scan_step hMi.out.1 (by rw [toks, List.getElem?_append_left hlt, List.getElem?_eq_getElem hlt]), visit_gq hMi.out.2.1 htk, by rw [flat_visit, hMi.out.2.2]⟩
      have hil : (i : Int) < rs.length := by omega
      generalize rs[i] = x at *
      have HMV := Hid.mk hmv
      have HLT := Hid.mk hlt
      have HLL := Hid.mk hll
      clear hmv hcc htk hll
      go_upto_region 12 with fail
      go_wp2_with (go_at_call 42; refine HMV.out.mono ?_; rintro e w7 ⟨wv7, kv7, rfl, h7, s7⟩; have H7 := Hid.mk h7; have S7 := Hid.mk s7; have hl7 := hLi.out.kept s7.only (fun g hg => by cases hg; exact hni.out); have hf7 := hl7.frozen i; have hc7 := hl7.cell_at (i := i) (by rw [HLL.out]; exact hlt); obtain ⟨u7, hu7⟩ := hc7; have HL7 := Hid.mk hl7; clear h7 s7 hl7)
      have hlbr : lb < wr.heap.size := (hLi.out.block_lt rfl)
      have hni7 : ¬ CMine nx pb wv7 kv7 lb := fun hk => by
        rcases hk with hk | hk
        · rcases S7.out.own lb hk with hh | hh
          · exact hni.out (Or.inl hh)
          · omega
        · exact hni.out (Or.inr hk)
      have hlh : ¬ (hx = lb) ∧ ¬ (px = lb) := by
        have h1 := HLB.out
        omega
      have hC8 := Hid.mk (H7.out.kept (Only.set (S := fun k => k = lb) (j := i) w7 (.int .u64 (tr (bxw xs ks) (visit M x) x)) rfl) (fun k hk e => hni7 (e ▸ hk)) hlh.1 hlh.2 (fun k e => by subst e; exact HLW.out))
      have hL8 := Hid.mk (HL7.out.set i (tr (bxw xs ks) (visit M x) x))
      have HN7 := Hid.mk hni7
      clear hf7 hu7 hlh hni7
      go_roundw
      case rel => exact ⟨i + 1, wv7, kv7, _, _, _, HLT.out, by first | rfl | go_num, hC8, hM2, hL8, Hid.mk ⟨hnew.out _ rfl, hmet.out⟩, HN7⟩
      case measure =>
        have := HLT.out
        simp [intOf]
        omega
    · have he : i = rs.length := by omega
      subst he
      obtain ⟨M1, hM1⟩ : ∃ M1, M1 = M := ⟨_, rfl⟩
      subst hM1
      have hli1 := hli.out.1
      have hli2 := hli.out.2
      rw [List.take_length, Nat.sub_self, List.replicate_zero, List.append_nil] at hli1
      rw [List.take_length] at hli2
      subst hli1
      have HL2 := Hid.mk hli2
      clear hli2 hli
      have hlw := hlen
      obtain ⟨wa0, wc0, hwv0⟩ := owns_slice hCi.out.pil.row
      go_upto_region 15 with fail
      go_loopw [12] (fun ii wr => ∃ (i : Nat) (wvi kvi : Value) (ys : List Int) (M : List Nat), ii = .int .i64 i ∧ Hid (Cs W wr hb hx nx px pb xs ks M wvi kvi ys) ∧ Hid (M = scan (bxw xs ks) rs (rs.length + i) ∧ (∀ q ∈ M, Gq L xs ks q) ∧ i ≤ (M.flatMap (bxw xs ks)).length ∧ ys = ((M.flatMap (bxw xs ks)).take i).map (tr (bxw xs ks) M) ++ (M.flatMap (bxw xs ks)).drop i) ∧
        Hid (Wds wr (.slice (some ⟨lb, 0, none⟩) rs.length rs.length) (rs.map (tr (bxw xs ks) M1))) ∧ Hid (M1 <+: M ∧ ∀ y ∈ (M.flatMap (bxw xs ks)).take i, Wd.boxedB y = true → plc y ∈ M) ∧ Hid (¬ CMine nx pb wvi kvi lb)) (fun ii _ => xs.length - (intOf ii).toNat)
      case atStart => exact ⟨0, wvi, kvi, ys, M1, rfl, hCi, Hid.mk ⟨hMi.out.1, hMi.out.2.1, Nat.zero_le _, by rw [List.take_zero, List.drop_zero]; exact hMi.out.2.2⟩, hLi, Hid.mk ⟨List.prefix_refl _, fun y hy => by rw [List.take_zero] at hy; cases hy⟩, hni⟩
      case round =>
        clear hlen hlw hwv0 hCi hMi hLi hni
        obtain ⟨i, wvi, kvi, ys, M, rfl, hCi, hMi, hLi, hli, hni⟩ := hrel
        obtain ⟨Y, hY⟩ : ∃ Y, M.flatMap (bxw xs ks) = Y := ⟨_, rfl⟩
        have hlen : Hid (ys.length = Y.length ∧ Y.length ≤ xs.length ∧ M.length ≤ xs.length ∧ xs.length ≤ 900000) := Hid.mk (by
          have h1 := HWF.out.sum M (by rw [hMi.out.1]; exact scan_nodup _ _ _) (fun q hq => (gq_len (hMi.out.2.1 q hq)).2)
          have h2 := len_flat (f := bxw xs ks) fun q hq => (gq_len (hMi.out.2.1 q hq)).1
          have h3 := HH.out.m0
          have h4 := HMX.out
          have h5 := hCi.out.len
          rw [hY] at h1 h2 h5
          exact ⟨h5, h1, by omega, by omega⟩)
        have hmi := hMi.out
        have hli' := hli.out
        rw [hY] at hmi hli'
        have HMI := Hid.mk hmi
        have HLI := Hid.mk hli'
        clear hmi hli'
        by_cases hlt : i < Y.length
        · have hly := hlen.out.1
          have hw0 := hCi.out.pil.row
          obtain ⟨g, cp, hwv, _, hcc⟩ := hw0.slice (by omega)
          subst hwv
          have hyi : i < ys.length := by omega
          have c1 := hcc i hyi
          have hye : ys[i] = Y[i] := by
            have h1 : ys[i]? = Y[i]? := by
              have e := HMI.out.2.2.2
              rw [e, List.getElem?_append_right (by rw [List.length_map, List.length_take]; omega), List.length_map, List.length_take, Nat.min_eq_left (by omega), Nat.sub_self, List.getElem?_drop, Nat.add_zero]
            rw [List.getElem?_eq_getElem hyi, List.getElem?_eq_getElem hlt] at h1
            exact Option.some.inj h1
          rw [hye] at c1
          have htk : TokOk L xs ks Y[i] := by
            have hm := List.getElem_mem hlt
            have hm2 : Y[i] ∈ M.flatMap (bxw xs ks) := by rw [hY]; exact hm
            obtain ⟨q, hq, hq2⟩ := List.mem_flatMap.1 hm2
            exact gq_tok (HMI.out.2.1 q hq) _ hq2
          have hmv := move_any W wr hb p bm v L Mx wv kv hx nx px pb xs ks M _ kvi ys HH.out hCi.out Y[i] htk.1.1 htk.1.2 (fun q hq => (gq_len (HMI.out.2.1 q hq)).1) (fun hb' => (htk.2 hb').1) (by have := hlen.out; omega) (by have := hlen.out; omega)
          have hwi : IntKind.i64.wrap ((i : Int) + 1) = ((i + 1 : Nat) : Int) := by have := hlen.out; rw [wrap_id (by omega) (by omega)]; omega
          have hfv : (visit M Y[i]).flatMap (bxw xs ks) = Y ++ addW xs ks M Y[i] := by rw [flat_visit, hY]
          have hM2 : Hid (visit M Y[i] = scan (bxw xs ks) rs (rs.length + (i + 1)) ∧ (∀ q ∈ visit M Y[i], Gq L xs ks q) ∧ i + 1 ≤ ((visit M Y[i]).flatMap (bxw xs ks)).length ∧ ∀ x, x = tr (bxw xs ks) (visit M Y[i]) Y[i] → (ys ++ addW xs ks M Y[i]).set i x = (((visit M Y[i]).flatMap (bxw xs ks)).take (i + 1)).map (tr (bxw xs ks) (visit M Y[i])) ++ ((visit M Y[i]).flatMap (bxw xs ks)).drop (i + 1)) := Hid.mk
            ⟨scan_step (j := rs.length + i) HMI.out.1 (by rw [toks, hY, List.getElem?_append_right (by omega), Nat.add_sub_cancel_left, List.getElem?_eq_getElem hlt]), visit_gq HMI.out.2.1 htk, by rw [hfv, List.length_append]; omega, fun x hx' => by
              have := turn_one (f := bxw xs ks) (M := M) (add := addW xs ks M Y[i]) hlt rfl HLI.out.2
              rw [hfv, hx', ← this, HMI.out.2.2.2]⟩
          have hmet : Hid (M1 <+: visit M Y[i] ∧ ∀ y ∈ ((visit M Y[i]).flatMap (bxw xs ks)).take (i + 1), Wd.boxedB y = true → plc y ∈ visit M Y[i]) := Hid.mk ⟨HLI.out.1.trans (visit_pre M _), fun y hy hb' => by
            rw [hfv, List.take_append_of_le_length (by omega), List.take_succ_eq_append_getElem hlt] at hy
            rcases List.mem_append.1 hy with hy | hy
            · exact pre_mem (visit_pre M _) (HLI.out.2 y hy hb')
            · rw [List.mem_singleton.1 hy] at hb' ⊢
              exact visit_mem hb'⟩
          have hyl2 : Hid (i < (ys ++ addW xs ks M Y[i]).length) := Hid.mk (by rw [List.length_append]; omega)
          have hi1 : i < ys.length := by omega
          have hi2 : (i : Int) < ys.length := by omega
          generalize Y[i] = x at *
          have HMV := Hid.mk hmv
          have HLT := Hid.mk hlt
          have hc0 := hCi.out.pil.c0
          clear hmv hcc htk hfv hye hyi hly hw0
          go_upto_region 18 with (go_at_call 42; refine HMV.out.mono ?_; rintro e w7 ⟨wv7, kv7, rfl, h7, s7⟩; have H7 := Hid.mk h7; have S7 := Hid.mk s7; clear h7 s7)
          obtain ⟨N7, hN7⟩ : ∃ N7, (ys ++ addW xs ks M x).length = N7 := ⟨_, rfl⟩
          have hiN : i < N7 := by rw [← hN7]; exact hyl2.out
          obtain ⟨g7, p7, hw7, _, hcc7⟩ := H7.out.pil.row.slice (by omega)
          rw [hN7] at hw7
          subst hw7
          have hl7 := hLi.out.kept S7.out.only (fun g hg => by cases hg; exact hni.out)
          have hlbr : lb < wr.heap.size := (hLi.out.block_lt rfl)
          have hni7 : ¬ CMine nx pb (.slice (some ⟨g7, 0, none⟩) N7 p7) kv7 lb := fun hk => by
            rcases hk with hk | hk
            · rcases S7.out.own lb hk with hh | hh
              · exact hni.out (Or.inl hh)
              · omega
            · exact hni.out (Or.inr hk)
          have hlg : lb ≠ g7 := fun e => hni7 (Or.inl (Or.inr (Or.inl (by rw [e]; rfl))))
          have hC8 := Hid.mk (H7.out.wset i (tr (bxw xs ks) (visit M x) x))
          have hL8 := Hid.mk (hl7.kept (Only.set (S := fun k => k = g7) (j := i) w7 (.int .u64 (tr (bxw xs ks) (visit M x) x)) rfl) (fun g hg => by cases hg; exact hlg))
          have hw8 := H7.out.pil.c0
          have hf8 := H7.out.pil.row.frozen i
          have hu8 := hcc7 i (by rw [hN7]; exact hiN)
          obtain ⟨u8, he8⟩ : ∃ u8, (ys ++ addW xs ks M x)[i]'(by rw [hN7]; exact hiN) = u8 := ⟨_, rfl⟩
          rw [he8] at hu8
          have hiN2 : (i : Int) < N7 := by omega
          have HN7 := Hid.mk hni7
          clear hl7 hlbr hni7 hlg hcc7 he8 hN7
          go_wp2
          go_roundw
          case rel => exact ⟨i + 1, _, kv7, _, _, by first | rfl | go_num, hC8, Hid.mk ⟨hM2.out.1, hM2.out.2.1, hM2.out.2.2.1, hM2.out.2.2.2 _ rfl⟩, hL8, hmet, HN7⟩
          case measure =>
            have h1 := HLT.out
            have h2 := hlen.out.2.1
            simp [intOf]
            omega
        · have he : i = Y.length := by have := HMI.out.2.2.1; omega
          subst he
          have hys := HMI.out.2.2.2
          rw [List.take_length, List.drop_length, List.append_nil] at hys
          have hSc : Scd (bxw xs ks) rs (rs.length + Y.length) M := ⟨HMI.out.1, by rw [toks, List.length_append, hY]⟩
          have hnd := hSc.nodup
          have hMv : Moved xs ks M := ⟨hnd, fun q hq => by
              obtain ⟨k, n, ps, l, hx', _⟩ := HMI.out.2.1 q hq
              exact ⟨k, n, ps, hx'⟩, fun q hq y hy hb' => hSc.met y (List.mem_append_right _ (List.mem_flatMap.2 ⟨q, hq, hy⟩)) hb', fun q hq y hy hb' => by
              obtain ⟨k, n, ps, hp, _⟩ := ((gq_tok (HMI.out.2.1 q hq) y hy).2 hb').1
              exact ⟨k, hp⟩, by rw [hY]; have := hlen.out; omega⟩
          have hnw : ys = nw xs ks M := by rw [nw, hY]; exact hys
          have hrt : rs.map (tr (bxw xs ks) M1) = rs.map (tr (bxw xs ks) M) := List.map_congr_left fun y hy => (tr_pre HLI.out.1 (fun hb' => HL2.out y hy hb')).symm
          have hnk := nk_length (xs := xs) (ks := ks) (M := M) fun q hq => (gq_len (HMI.out.2.1 q hq)).1
          have hlly := hlen.out
          have hmm0 := HH.out.m0
          have hturn := HH.out.turned hCi.out (by rw [hnk, hY]; omega) (by omega)
          have hlbh : lb ≠ hb := by have h1 := HH.out.pil.lt; have h2 := HLW.out; omega
          have hho : Only (fun k => k = hb) wr ((wr.setCell ⟨hb, 3, none⟩ wvi).setCell ⟨hb, 4, none⟩ kvi) := Only.put (S := fun k => k = hb) (Only.set (S := fun k => k = hb) wr wvi rfl) rfl 4 kvi
          have hLf := hLi.out.kept hho (fun g hg => by cases hg; exact hlbh)
          rw [hrt] at hLf
          rw [hnw] at hturn
          have HFIN : Hid (ColR hb p bm W v L Mx wv kv xs ks rs (.slice (some ⟨lb, 0, none⟩) rs.length rs.length) ((wr.setCell ⟨hb, 3, none⟩ wvi).setCell ⟨hb, 4, none⟩ kvi)) := Hid.mk ⟨wvi, kvi, _, M, hSc, hMv, hLf, fun g hg => by
            cases hg
            refine ⟨HLW.out, fun hk => ?_⟩
            rcases hk with hk | hk
            · have h1 : lb < W.heap.size := HH.out.tab.lt hk
              have h2 := HLW.out
              omega
            · rcases hk with hk | hk
              · exact hlbh hk
              · exact hni.out (Or.inl (Or.inr hk)), hturn.1, hturn.2⟩
          have hc0 := hCi.out.pil.c0
          have hc1 := hCi.out.pil.c1
          have hch := hCi.out.ch
          have hHr := HH.out.up hCi.out.below
          have g3 := hHr.pil.c0
          have g4 := hHr.pil.c1
          have gf3 := hHr.pil.f0
          have gf4 := hHr.pil.f1
          obtain ⟨wa, wc, rfl⟩ := owns_slice hCi.out.pil.row
          obtain ⟨ka, kc, rfl⟩ := owns_slice hCi.out.pil.kin
          have hyy : ¬ (Y.length : Int) < ys.length := by omega
          have hyy2 : ¬ Y.length < ys.length := by omega
          clear hys hSc hnd hMv hnw hrt hnk hmm0 hturn hlbh hho hLf hHr hlly
          go_wp2
          go_ret2
          exact ⟨_, rfl, HFIN.out⟩
end Go.Proofs.YtaiiicmldogjoaaDoor

/-
  A heap in a law: what is its own is apart from all else; each call is a step.
-/
namespace Go.Proofs.YtaiiicmldogjoaaDoor
open Go.RowKit Go.Deep Go.Maps Go.WideShapes

/-- A heap of a law that began in W0: all its blocks are in S. -/
structure St (W0 w : World) (hb : Nat) (S : Nat → Prop) (L : List ByteArray) (M : Nat) (xs ks : List Int) : Prop where
  hea : ∃ p bm v wv kv, Hea w hb p bm v L M wv kv xs ks ∧ ∀ k, HOwn hb p bm v wv kv k → S k
  wf : Wf xs ks
  nub : Nub L
  below : Below W0.heap.size W0 w
  lo : ∀ k, S k → W0.heap.size ≤ k
  hi : ∀ k, S k → k < w.heap.size
/-- A step of it. -/
structure Sp (S : Nat → Prop) (w : World) (S' : Nat → Prop) (w' : World) : Prop where
  only : Only S w w'
  own : ∀ k, S' k → S k ∨ w.heap.size ≤ k
/-- A block that is none of its. -/
def Sf (S : Nat → Prop) (w : World) (b : Nat) : Prop := b < w.heap.size ∧ ¬ S b
section
variable {W0 w w' w1 : World} {hb : Nat} {S S' S1 : Nat → Prop} {L : List ByteArray} {M : Nat} {xs ks : List Int}
theorem Sp.refl (S : Nat → Prop) (w : World) : Sp S w S w := ⟨Only.refl _ _, fun _ h => Or.inl h⟩
theorem Sp.up (h : Below w.heap.size w w') : Sp S w S w' := ⟨Only.up h, fun _ h => Or.inl h⟩
theorem Sp.trans (h : Sp S w S1 w1) (k : Sp S1 w1 S' w') : Sp S w S' w' := ⟨h.only.trans k.only h.own, fun i hi => (k.own i hi).elim (h.own i) fun hh => Or.inr (Nat.le_trans h.only.size hh)⟩
theorem Sp.then_ (h : Sp S w S1 w1) (hb : Below w1.heap.size w1 w') : Sp S w S1 w' := h.trans (Sp.up hb)
theorem Sp.safe (h : Sp S w S' w') {b : Nat} (hb : Sf S w b) : Sf S' w' b := ⟨Nat.lt_of_lt_of_le hb.1 h.only.size, fun hk => (h.own b hk).elim hb.2 fun hh => by have := hb.1; omega⟩
theorem Sp.cell (h : Sp S w S' w') {b o : Nat} {u : Value} (hb : Sf S w b) (hc : w.cell? ⟨b, o, none⟩ = some u) : w'.cell? ⟨b, o, none⟩ = some u := h.only.cellS hb.2 hc
theorem Sp.block (h : Sp S w S' w') {b : Nat} {o : Obj} (hb : Sf S w b) (hc : w.heap[b]? = some o) : w'.heap[b]? = some o := (h.only.block b hb.1 hb.2).trans hc
theorem Sp.lies (h : Sp S w S' w') {T : Tm} {v : Value} (hT : Lies w (Sf S w) T v) : Lies w' (Sf S' w') T v := hT.move (fun _ hb => h.safe hb) (fun _ _ _ hb hc => h.cell hb hc) _ _
theorem Sp.lst (h : Sp S w S' w') {l : List Tm} {a : Option Addr} {c : Nat} (hT : Lst w (Sf S w) l a c) : Lst w' (Sf S' w') l a c := hT.move (fun _ hb => h.safe hb) (fun _ _ _ hb hc => h.cell hb hc)
theorem Sp.wds (h : Sp S w S' w') {v : Value} {l : List Int} (hs : ∀ g, v.ownBlock = some g → Sf S w g) (hw : Wds w v l) : Wds w' v l := hw.kept h.only fun g hg => (hs g hg).2
theorem Sp.below (h : Sp S w S' w') {B : Nat} (hl : ∀ k, S k → B ≤ k) (hB : B ≤ w.heap.size) : Below B w w' := h.only.below hl hB
/-- What is new is none of its. -/
theorem St.lies_new (h : St W0 w hb S L M xs ks) {w' : World} {T : Tm} {v : Value} (hT : Lies w' (fun b => w.heap.size ≤ b) T v) : Lies w' (Sf S w') T v :=
  (Lies.inside T v hT).wider fun b hb' => ⟨hb'.2, fun hk => by have h1 := h.hi b hk; have h2 : w.heap.size ≤ b := hb'.1; omega⟩
theorem St.new_safe (h : St W0 w hb S L M xs ks) {w' : World} {b : Nat} (h1 : w.heap.size ≤ b) (h2 : b < w'.heap.size) : Sf S w' b := ⟨h2, fun hk => by have := h.hi b hk; omega⟩
/-- What lay there ahead of the law is none of its. -/
theorem St.old_safe (h : St W0 w hb S L M xs ks) {b : Nat} (h1 : b < W0.heap.size) : Sf S w b := ⟨Nat.lt_of_lt_of_le h1 h.below.size, fun hk => by have := h.lo b hk; omega⟩
theorem St.up (h : St W0 w hb S L M xs ks) (hb' : Below w.heap.size w w') : St W0 w' hb S L M xs ks := by
  obtain ⟨p, bm, v, wv, kv, hh, ho⟩ := h.hea
  exact ⟨⟨p, bm, v, wv, kv, hh.up hb', ho⟩, h.wf, h.nub, h.below.trans (hb'.mono h.below.size), h.lo, fun k hk => Nat.lt_of_lt_of_le (h.hi k hk) hb'.size⟩
theorem St.turn {L' : List ByteArray} {xs' ks' : List Int} (h : St W0 w hb S L M xs ks) {p bm : Nat} {v wv kv v' wv' kv' : Value} (hown : ∀ k, HOwn hb p bm v wv kv k → S k) (hh : Hea w' hb p bm v' L' M wv' kv' xs' ks') (hs : Stp hb p bm w v wv kv w' v' wv' kv') (hwf : Wf xs' ks') (hn : Nub L') :
    ∃ S', St W0 w' hb S' L' M xs' ks' ∧ Sp S w S' w' := by
  have hsp : Sp S w (HOwn hb p bm v' wv' kv') w' := ⟨hs.only.mono hown, fun k hk => (hs.own k hk).imp (hown k) id⟩
  refine ⟨_, ⟨⟨p, bm, v', wv', kv', hh, fun _ h => h⟩, hwf, hn, h.below.trans (hsp.below h.lo h.below.size), fun k hk => ?_, fun k hk => hh.own_lt hk⟩, hsp⟩
  rcases hs.own k hk with h1 | h1
  · exact h.lo k (hown k h1)
  · exact Nat.le_trans h.below.size h1

theorem WordTab.from {w w' : World} (h : WordTab w) (hb : Below w.heap.size w w') : WordTab w' := h.below hb
theorem nums_nub (T : Tm) {L : List ByteArray} (h : Nub L) : Nub (T.nums L).2 := nums_keeps (P := Nub) (fun _ s h => h.put s) T L h
theorem St.good (h : St W0 w hb S L M xs ks) : Good L := by
  obtain ⟨p, bm, v, wv, kv, hh, ho⟩ := h.hea
  exact hh.tab.good
theorem St.fit (h : St W0 w hb S L M xs ks) : xs.length ≤ M ∧ M ≤ 1000000 := by
  obtain ⟨p, bm, v, wv, kv, hh, ho⟩ := h.hea
  exact ⟨hh.m0, hh.m1⟩
theorem St.put (h : St W0 w hb S L M xs ks) {T : Tm} {tv : Value} (hT : Lies w (Sf S w) T tv) (hc : T.check = 0) (hn : (T.nums L).1 = true) (hsz : T.size ≤ 1000000) (hM : (xs.length : Int) + (T.wordsR - 1) ≤ M) :
    Calls Tryd.prog 6 #[.pointer (some ⟨hb, 0, none⟩), tv] w fun e w' => ∃ S', e = .returned (.tuple #[.int .u64 (T.own (T.nums L).2 xs.length), .int .i64 0]) ∧ St W0 w' hb S' (T.nums L).2 M (xs ++ T.laid (T.nums L).2 xs.length) (ks ++ T.kds) ∧ Sp S w S' w' := by
  obtain ⟨p, bm, v, wv, kv, hh, ho⟩ := h.hea
  have hf : T.fits = true := by
    rw [Tm.check, fits_pre] at hc
    by_cases hf : T.fits = true
    · exact hf
    · rw [if_neg hf] at hc; cases hc
  refine (put_ok hb p bm v L M wv kv xs ks T _ tv w hh hT (fun b hb' => ⟨hb'.1, fun hk => hb'.2 (ho b hk)⟩) hc hn hsz hM).mono fun e w' ⟨v', wv', kv', he, h1, h2⟩ => ?_
  obtain ⟨S', h3, h4⟩ := h.turn ho h1 h2 (put_wf _ T hf _ h.wf) (nums_nub T h.nub)
  exact ⟨S', he, h3, h4⟩
theorem St.put_bad (h : St W0 w hb S L M xs ks) {T : Tm} {tv : Value} {S0 : Nat → Prop} (hT : Lies w S0 T tv) (hc : T.check ≠ 0) (hsz : T.size ≤ 1000000) :
    Calls Tryd.prog 6 #[.pointer (some ⟨hb, 0, none⟩), tv] w fun e w' => e = .returned (.tuple #[.int .u64 0, .int .i64 T.check]) ∧ Below w.heap.size w w' := by
  obtain ⟨p, bm, v, wv, kv, hh, ho⟩ := h.hea
  exact Go.Proofs.YtaiiicmldogjoaaDoor.put_bad hb p bm v L M wv kv xs ks T S0 tv w hh hT hc hsz
theorem St.put_limit (h : St W0 w hb S L M xs ks) {T : Tm} {tv : Value} (hT : Lies w (Sf S w) T tv) (hc : T.check = 0) (hn : (T.nums L).1 = true) (hsz : T.size ≤ 1000000) (hM : ¬ (xs.length : Int) + (T.wordsR - 1) ≤ M) (hw : T.wordsR ≤ 1000000) :
    Calls Tryd.prog 6 #[.pointer (some ⟨hb, 0, none⟩), tv] w fun e w' => e = .returned (.tuple #[.int .u64 0, .int .i64 11]) ∧ Below w.heap.size w w' := by
  obtain ⟨p, bm, v, wv, kv, hh, ho⟩ := h.hea
  have := wordsR_one T
  exact Go.Proofs.YtaiiicmldogjoaaDoor.put_limit hb p bm v L M wv kv xs ks T _ tv w hh hT (fun b hb' => ⟨hb'.1, fun hk => hb'.2 (ho b hk)⟩) hc hn h.nub hsz hM (by omega)
theorem St.get (h : St W0 w hb S L M xs ks) {T : Tm} {x : Int} (hd : Den L xs ks T x) (hw : T.wordsR ≤ 65536) :
    Calls Tryd.prog 7 #[.pointer (some ⟨hb, 0, none⟩), .int .u64 x] w fun e w' => ∃ k n s a m c, e = .returned (.tuple #[.agg #[.int .i64 k, .int .i64 n, .string s, .slice a m c], .int .i64 0]) ∧ Lies w' (fun k => w.heap.size ≤ k) T (.agg #[.int .i64 k, .int .i64 n, .string s, .slice a m c]) ∧ Below w.heap.size w w' := by
  obtain ⟨p, bm, v, wv, kv, hh, ho⟩ := h.hea
  exact get_ok hb p bm v L M wv kv xs ks T x w hh h.wf hd hw
theorem St.get_bad (h : St W0 w hb S L M xs ks) {x : Int} (h0 : 0 ≤ x) (h1 : x < 18446744073709551616) (hm : mayB L ks x = false) :
    Calls Tryd.prog 7 #[.pointer (some ⟨hb, 0, none⟩), .int .u64 x] w fun e w' => e = .returned (.tuple #[.agg #[.int .i64 0, .int .i64 0, .string ⟨#[]⟩, .slice none 0 0], .int .i64 4]) ∧ Below w.heap.size w w' := by
  obtain ⟨p, bm, v, wv, kv, hh, ho⟩ := h.hea
  exact Go.Proofs.YtaiiicmldogjoaaDoor.get_bad hb p bm v L M wv kv xs ks x w hh h.wf h0 h1 hm
theorem St.parts (h : St W0 w hb S L M xs ks) {T : Tm} {x : Int} (hd : Den L xs ks T x) :
    ∃ ys, (match T with | .mk _ _ _ l => Dens L xs ks l ys) ∧ Calls Tryd.prog 11 #[.pointer (some ⟨hb, 0, none⟩), .int .u64 x] w fun e w' => ∃ v', e = .returned (.tuple #[v', .int .i64 0]) ∧ Wds w' v' ys ∧ (∀ g, v'.ownBlock = some g → w.heap.size ≤ g) ∧ Below w.heap.size w w' := by
  obtain ⟨p, bm, v, wv, kv, hh, ho⟩ := h.hea
  exact partsP_any hb p bm v L M wv kv xs ks T x w hh h.wf hd
theorem St.used (h : St W0 w hb S L M xs ks) : Calls Tryd.prog 13 #[.pointer (some ⟨hb, 0, none⟩)] w fun e w' => e = .returned (.int .i64 xs.length) ∧ w = w' := by
  obtain ⟨p, bm, v, wv, kv, hh, ho⟩ := h.hea
  exact usedH_any hb p bm v L M wv kv xs ks w hh
theorem St.words (h : St W0 w hb S L M xs ks) : Calls Tryd.prog 15 #[.pointer (some ⟨hb, 0, none⟩)] w fun e w' => ∃ v', e = .returned v' ∧ Wds w' v' xs ∧ (∀ g, v'.ownBlock = some g → w.heap.size ≤ g) ∧ Below w.heap.size w w' := by
  obtain ⟨p, bm, v, wv, kv, hh, ho⟩ := h.hea
  exact wordsH_any hb p bm v L M wv kv xs ks w hh
theorem wf_tuple {xs ks ys : List Int} (h : Wf xs ks) (hl : ys.length ≤ 64) : Wf (xs ++ (leadW 7 0 ys.length ++ ys)) (ks ++ kbox 7 (1 + ys.length)) := by
  have := Wf.snoc 7 0 ys h (by simp [hasL]) (by simp [fitB]; omega)
  rw [show (leadW 7 0 ys.length).length = 1 from rfl] at this
  exact this
theorem St.tuple (h : St W0 w hb S L M xs ks) {ys : List Int} {a : Option Addr} {c : Nat} (hl : ys.length ≤ 64) (hy : Cel w ys a) (hn : a = none → c = 0) (hr : ∀ z ∈ ys, 0 ≤ z ∧ z < 18446744073709551616) (hm : ys.all (mayB L ks) = true) (hfit : xs.length + (1 + ys.length) ≤ M) :
    Calls Tryd.prog 8 #[.pointer (some ⟨hb, 0, none⟩), .slice a ys.length c] w fun e w' => ∃ S', e = .returned (.tuple #[.int .u64 (Wd.packW 7 xs.length), .int .i64 0]) ∧ St W0 w' hb S' L M (xs ++ (leadW 7 0 ys.length ++ ys)) (ks ++ kbox 7 (1 + ys.length)) ∧ Sp S w S' w' := by
  obtain ⟨p, bm, v, wv, kv, hh, ho⟩ := h.hea
  refine (tupleH_any hb p bm v L M wv kv xs ks ys a c w hh h.wf hl hy hn hr hm hfit).mono fun e w' ⟨wv', kv', he, h1, h2⟩ => ?_
  obtain ⟨S', h3, h4⟩ := h.turn ho h1 h2 (wf_tuple h.wf hl) h.nub
  exact ⟨S', he, h3, h4⟩
theorem St.cons (h : St W0 w hb S L M xs ks) {x y : Int} (hr : ∀ z ∈ [x, y], 0 ≤ z ∧ z < 18446744073709551616) (hm : [x, y].all (mayB L ks) = true) (hfit : xs.length + 2 ≤ M) :
    Calls Tryd.prog 9 #[.pointer (some ⟨hb, 0, none⟩), .int .u64 x, .int .u64 y] w fun e w' => ∃ S', e = .returned (.tuple #[.int .u64 (Wd.packW 9 xs.length), .int .i64 0]) ∧ St W0 w' hb S' L M (xs ++ [x, y]) (ks ++ kbox 9 2) ∧ Sp S w S' w' := by
  obtain ⟨p, bm, v, wv, kv, hh, ho⟩ := h.hea
  refine (consH_any hb p bm v L M wv kv xs ks x y w hh h.wf hr hm hfit).mono fun e w' ⟨wv', kv', he, h1, h2⟩ => ?_
  obtain ⟨S', h3, h4⟩ := h.turn ho h1 h2 (Wf.snoc 9 0 [x, y] h.wf (by simp [hasL]) (by simp [fitB])) h.nub
  exact ⟨S', he, h3, h4⟩
theorem St.collect (h : St W0 w hb S L M xs ks) {rs : List Int} {a : Option Addr} {cap : Nat} (hMx : M ≤ 900000) (hrs : Cel w rs a) (hR : rs.length ≤ 1000) (hden : ∀ r ∈ rs, ∃ T, Den L xs ks T r) :
    Calls Tryd.prog 12 #[.pointer (some ⟨hb, 0, none⟩), .slice a rs.length cap] w fun e w' => ∃ lv J N S', e = .returned (.tuple #[lv, .int .i64 0]) ∧ Scd (bxw xs ks) rs J N ∧ Moved xs ks N ∧ Wds w' lv (rs.map (tr (bxw xs ks) N)) ∧ (∀ g, lv.ownBlock = some g → W0.heap.size ≤ g ∧ Sf S' w' g) ∧ St W0 w' hb S' L M (nw xs ks N) (nk xs ks N) ∧ Sp S w S' w' := by
  obtain ⟨p, bm, v, wv, kv, hh, ho⟩ := h.hea
  refine (collect_any hb p bm v L M wv kv xs ks rs a cap w hh h.wf hMx hrs hR hden).mono fun e w' ⟨lv, he, hr⟩ => ?_
  obtain ⟨wv', kv', J, N, h1, h2, h3, h4, h5, h6⟩ := hr.out
  have hsp : Sp S w (HOwn hb p bm v wv' kv') w' := ⟨h6.only.mono ho, fun k hk => (h6.own k hk).imp (ho k) id⟩
  refine ⟨lv, J, N, HOwn hb p bm v wv' kv', he, h1, h2, h3, fun g hg => ⟨Nat.le_trans h.below.size (h4 g hg).1, h3.block_lt hg, (h4 g hg).2⟩, ⟨⟨p, bm, v, wv', kv', h5, fun _ h => h⟩, h2.wf, h.nub, h.below.trans (hsp.below h.lo h.below.size), fun k hk => ?_, fun k hk => h5.own_lt hk⟩, hsp⟩
  rcases h6.own k hk with h7 | h7
  · exact h.lo k (ho k h7)
  · exact Nat.le_trans h.below.size h7
end

set_option maxHeartbeats 2000000 in
set_option maxRecDepth 100000 in
theorem newH_any (p bm : Nat) (v : Value) (M : Nat) (W0 w : World) (h : Tab w p bm v []) (hM : M ≤ 1000000) (hb0 : Below W0.heap.size W0 w) (hm : ∀ k, Mine p bm v k → W0.heap.size ≤ k) (hW : WordTab W0) (hS : ShapeTab W0) :
    Calls Tryd.prog 16 #[.pointer (some ⟨p, 0, none⟩), .int .i64 M] w fun e w' => ∃ hb S, e = .returned (.tuple #[.pointer (some ⟨hb, 0, none⟩), .int .i64 0]) ∧ St W0 w' hb S [] M [] [] ∧ Below w.heap.size w w' := by
  have hnm0 : Calls Tryd.prog 48 #[.pointer (some ⟨p, 0, none⟩), .int .i64 (-1)] w (fun e w' => e = .returned (.tuple #[.string ⟨#[]⟩, .int .i64 5]) ∧ Below w.heap.size w w') := (name_any p bm v [] (-1) w h).mono fun e w' hh => by
    rcases hh with ⟨⟨i, hi, _⟩ | ⟨_, he⟩, hb'⟩
    · cases hi
    · exact ⟨he, hb'⟩
  have hnm := Hid.mk hnm0
  have HT := Hid.mk h
  have HB := Hid.mk hb0
  have HM := Hid.mk hm
  have HW := Hid.mk hW
  have HS := Hid.mk hS
  have HMx := Hid.mk hM
  have g1 : ¬ (M : Int) < 0 := by omega
  have g2 : ¬ (16777216 : Int) < M := by omega
  have g3 : decide ((M : Int) < 0) = false := decide_eq_false g1
  have g4 : decide ((16777216 : Int) < M) = false := decide_eq_false g2
  clear h hM hb0 hm hW hS hnm0
  go_enter Tryd.func16, Tryd.ntmps16
  go_wp2_with (go_at_call 48; refine hnm.out.mono ?_; rintro e w1 ⟨rfl, hb1⟩; have HB1 := Hid.mk hb1; clear hb1)
  go_ret2
  have hbx := new_block w1 (.cells #[.pointer (some ⟨w1.heap.size, 0, none⟩), .pointer (some ⟨p, 0, none⟩), .int .i64 M, .slice none 0 0, .slice none 0 0] 30)
  have hbU : Below w.heap.size w (w1.alloc (.cells #[.pointer (some ⟨w1.heap.size, 0, none⟩), .pointer (some ⟨p, 0, none⟩), .int .i64 M, .slice none 0 0, .slice none 0 0] 30)) := HB1.out.alloc HB1.out.size _
  have hT2 := HT.out.up hbU
  have hbW := HB.out.trans (hbU.mono HB.out.size)
  have hwz := HW.out.size
  have hsz := HS.out.size
  have hs1 := Nat.le_trans HB.out.size HB1.out.size
  obtain ⟨W2, hW2⟩ : ∃ W2, w1.alloc (.cells #[.pointer (some ⟨w1.heap.size, 0, none⟩), .pointer (some ⟨p, 0, none⟩), .int .i64 M, .slice none 0 0, .slice none 0 0] 30) = W2 := ⟨_, rfl⟩
  rw [hW2] at hbx hbU hT2 hbW ⊢
  have hlt : ∀ k, Mine p bm v k → k < w1.heap.size := fun k hk => Nat.lt_of_lt_of_le (HT.out.lt hk) HB1.out.size
  have hea : Hea W2 w1.heap.size p bm v [] M (.slice none 0 0) (.slice none 0 0) [] [] := by
    refine ⟨hT2, by simp [World.cell?, hbx], by simp [World.cell?, hbx], by simp [World.cell?, hbx], ⟨by simp [World.cell?, hbx], by simp [World.cell?, hbx], by simp [World.frozen?, hbx], by simp [World.frozen?, hbx], ⟨rfl, Or.inl ⟨rfl, rfl⟩⟩, ⟨rfl, Or.inl ⟨rfl, rfl⟩⟩, fun e => (by cases e), fun e => (by cases e), fun g e => (by cases e)⟩, fun hk => by have := hlt _ hk; omega, fun g hg => ?_, HW.out.from hbW, HS.out.from hbW hsz, ?_, ?_, rfl, Nat.zero_le _, HMx.out⟩
    · rcases hg with hg | hg <;> cases hg
    · rintro (hk | hk | hk | hk)
      · have := HM.out _ hk; omega
      · omega
      · cases hk
      · cases hk
    · rintro (hk | hk | hk | hk)
      · have := HM.out _ hk; omega
      · omega
      · cases hk
      · cases hk
  refine ⟨w1.heap.size, HOwn w1.heap.size p bm v (.slice none 0 0) (.slice none 0 0), rfl, ⟨⟨p, bm, v, _, _, hea, fun _ h => h⟩, Wf.nil, Nub.nil, hbW, fun k hk => ?_, fun k hk => hea.own_lt hk⟩, hbU⟩
  rcases hk with hk | hk | hk | hk
  · exact HM.out k hk
  · omega
  · cases hk
  · cases hk
end Go.Proofs.YtaiiicmldogjoaaDoor
