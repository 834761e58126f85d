/-
  One word moved.
-/
import Derived.Test.YtaiiicmldogjoaaDoorZHeapL
namespace Go.Proofs.YtaiiicmldogjoaaDoor
open Go.RowKit Go.Deep Go.Maps Go.WideShapes

/-- What a word that is met adds. -/
def addW (xs ks : List Int) (M : List Nat) (x : Int) : List Int := if Wd.boxedB x = true ∧ plc x ∉ M then bxw xs ks (plc x) else []
set_option maxHeartbeats 4000000 in
set_option maxRecDepth 100000 in
theorem move_any (W w : World) (hb p bm : Nat) (v : Value) (L : List ByteArray) (Mx : Nat) (wv0 kv0 : Value) (hx nx px pb : Nat) (xs ks : List Int) (M : List Nat) (wv kv : Value) (ys : List Int) (hH : Hea W hb p bm v L Mx wv0 kv0 xs ks) (h : Cs W w hb hx nx px pb xs ks M wv kv ys) (x : Int)
    (h0 : 0 ≤ x) (h1 : x < 18446744073709551616) (h1x : ∀ p ∈ M, 1 ≤ (bxw xs ks p).length) (hg : Wd.boxedB x = true → ∃ k n ps, Pk x k (plc x) ∧ Bx xs ks k n (plc x) ps) (hlen : ys.length + 65 ≤ 1000000) (hml : M.length ≤ 1000000) :
    Calls Tryd.prog 42 #[.int .u64 x, .pointer (some ⟨px, 0, none⟩), .pointer (some ⟨nx, 0, none⟩), .pointer (some ⟨hx, 0, none⟩)] w fun e w' => ∃ wv' kv', e = .returned (.int .u64 (tr (bxw xs ks) (visit M x) x)) ∧ Cs W w' hb hx nx px pb xs ks (visit M x) wv' kv' (ys ++ addW xs ks M x) ∧ CStp nx pb w wv kv w' wv' kv' := by
  have HH := Hid.mk hH
  have HC := Hid.mk h
  by_cases hbx : Wd.boxedB x = true
  case neg =>
    have e1 : visit M x = M := by rw [visit, if_neg (fun h => hbx h.1)]
    have e2 : addW xs ks M x = [] := by rw [addW, if_neg (fun h => hbx h.1)]
    have e3 : tr (bxw xs ks) M x = x := by rw [tr, if_neg hbx]
    rw [e1, e2, e3, List.append_nil]
    have hbo := Hid.mk (boxed_any x w h0 h1)
    rw [Bool.eq_false_iff.2 hbx] at hbo
    clear hH h hg hbx e1 e2 e3 h0 h1 hlen hml
    go_enter Tryd.func42, Tryd.ntmps42
    go_wp2_with (go_at_call 43; refine hbo.out.mono ?_; rintro e w1 ⟨rfl, rfl⟩)
    go_ret
    exact ⟨wv, kv, rfl, HC.out, CStp.up (Below.refl _ _)⟩
  case pos =>
    obtain ⟨k, n, ps, hpk, hB⟩ := hg hbx
    obtain ⟨f1, f2, f3, f4, f5, f6, f7, f8⟩ := hpk.facts
    obtain ⟨q, hq⟩ : ∃ q, plc x = q := ⟨_, rfl⟩
    rw [hq] at hpk hB f2 f5
    have hqb : q ≤ 1000000 := by have := hB.lt.1; have := hH.m0; have := hH.m1; omega
    have hbo := Hid.mk (boxed_any x w h0 h1)
    rw [hbx] at hbo
    have hun := Hid.mk (fun Wx (hw : Below W.heap.size W Wx) => unpack_any x Wx (hH.up hw).wt h0 h1)
    rw [f4, f5, f6] at hun
    have hkey := key_intJ (n := (q : Int)) (by omega)
    have hkb : 0 ≤ k ∧ k ≤ 9 := by have := hB.has; rw [hasL_iff] at this; omega
    obtain ⟨D, hD, hM⟩ := h.map
    have cp := h.cp
    by_cases hin : q ∈ M
    · have e1 : visit M x = M := by rw [visit, if_neg (fun h => h.2 (hq ▸ hin))]
      have e2 : addW xs ks M x = [] := by rw [addW, if_neg (fun h => h.2 (hq ▸ hin))]
      have e3 : tr (bxw xs ks) M x = Wd.packW k (off (bxw xs ks) M q) := by rw [tr, if_pos hbx, f1, hq]
      rw [e1, e2, e3, List.append_nil]
      have hof : off (bxw xs ks) M q ≤ 1000000 := by have := off_le (f := bxw xs ks) hin; have := h.len; omega
      have hpc := Hid.mk (fun Wx (hw : Below W.heap.size W Wx) => packH_any k (off (bxw xs ks) M q) Wx (hH.up hw).wt (by omega) (by omega) (by omega) (by omega))
      have hat0 := hM.at_ q hin
      have hhas : Maps.has D (kyI q) = true := by rw [hM.has, decide_eq_true hin]
      have HD := Hid.mk hD
      have HAT := Hid.mk hat0
      have HBL := Hid.mk h.below
      generalize off (bxw xs ks) M q = oq at *
      clear hH h hg hbx e1 e2 e3 h0 h1 hpk hB f1 f2 f3 f4 f5 f6 f7 f8 hM hD hat0 hin hof hlen hml
      go_enter Tryd.func42, Tryd.ntmps42
      go_wp2_with (first
        | (go_at_call 43; refine hbo.out.mono ?_; rintro e w1 ⟨rfl, rfl⟩)
        | (go_at_call 44; refine (hun.out _ HBL.out).mono ?_; rintro e w1 ⟨rfl, hb1⟩; have cp := cell_below hb1 _ _ _ cp; have hD1 := ownsMap_same HD.out (hb1.block pb (HC.out.lt (Or.inr rfl))); have HB1 := Hid.mk hb1; clear hb1)
        | (at_lookup; refine wpList_lookup_own_ok_int _ rfl _ _ 85 rfl 3 3 .i64 keyedJ Tryd.underlying85 Tryd.underlying3 (zeroIntJ _) pb _ D rfl hD1 _ _ rfl hkey ?_; intro c hat hwc; rw [HAT.out] at hat; simp only [DataW.lit.injEq, Lit.int.injEq, true_and] at hat; subst hat; clear hwc)
        | (go_at_call 45; refine (hpc.out _ (HBL.out.trans (HB1.out.mono HBL.out.size))).mono ?_; rintro e w2 ⟨rfl, hb2⟩))
      go_ret
      exact ⟨wv, kv, rfl, HC.out.up (HB1.out.trans (hb2.mono HB1.out.size)), CStp.up (HB1.out.trans (hb2.mono HB1.out.size))⟩
    · have e1 : visit M x = M ++ [q] := by rw [visit, if_pos ⟨hbx, hq ▸ hin⟩, hq]
      have e2 : addW xs ks M x = leadW k n ps.length ++ ps := by rw [addW, if_pos ⟨hbx, hq ▸ hin⟩, hq, hB.words]
      have e3 : tr (bxw xs ks) (M ++ [q]) x = Wd.packW k ys.length := by rw [tr, if_pos hbx, f1, hq, off_new hin, h.len]
      rw [e1, e2, e3]
      have hfl := fit_len hB.has hB.fit
      obtain ⟨bq, hbq⟩ : ∃ bq, leadW k n ps.length ++ ps = bq := ⟨_, rfl⟩
      have hbl : 1 ≤ bq.length ∧ bq.length ≤ 65 := by rw [← hbq, List.length_append]; omega
      have hbw : bxw xs ks q = bq := by rw [hB.words, hbq]
      rw [hbq]
      have hhas : Maps.has D (kyI q) = false := by rw [hM.has, decide_eq_false hin]
      have hbox := fun Wx (hw : Below W.heap.size W Wx) => box_boxed hb p bm v L Mx wv0 kv0 xs ks x k n q ps Wx (hH.up hw) hpk hB
      rw [hbq] at hbox
      have hadd := fun Wx (hw : Below W.heap.size W Wx) (hp : Pil Wx nx 0 wv kv ys (nk xs ks M)) (a : Option Addr) (c : Nat) (hy : Cel Wx bq a) (hn : a = none → c = 0) => addP_any nx 0 k bq a c Wx wv kv ys (nk xs ks M) hp (by
          rw [h.len, nk]
          have : ∀ r : List Nat, (∀ p ∈ r, 1 ≤ (bxw xs ks p).length) → (r.flatMap (nkp xs ks)).length = (r.flatMap (bxw xs ks)).length := by
            intro r
            induction r with
            | nil => intro _; rfl
            | cons a r ih => intro hr; rw [List.flatMap_cons, List.flatMap_cons, List.length_append, List.length_append, ih (fun p hp => hr p (List.mem_cons_of_mem _ hp)), nkp, kbox_length (hr a (List.mem_cons_self ..))]
          exact this M (fun p hp => h1x p hp)) hy hn hbl.1 hB.has (by omega) (hH.up hw).wt (fun hk => by have h2 := (h.new _ (Or.inl hk)).1; have h3 := hH.wt.size; omega)
      have HBOX := Hid.mk hbox
      have HADD := Hid.mk hadd
      have HBL := Hid.mk h.below
      have HD := Hid.mk hD
      have HM := Hid.mk hM
      have HF := Hid.mk (And.intro hin (And.intro hbl (And.intro hbw (And.intro hlen hml))))
      have hkd : Hid (ks[q]? = some k) := Hid.mk hB.kind
      obtain ⟨wa, wc, hwv⟩ := owns_slice h.pil.row
      have c3 := h.pil.c0
      have chx := h.ch
      rw [hwv] at c3
      have HWV := Hid.mk hwv
      clear hH h hg hbx e1 e2 e3 h0 h1 hpk hB f1 f2 f3 f4 f5 f6 f7 f8 hM hD hin hlen hml hfl hbq hbl hbw hbox hadd hwv
      go_enter Tryd.func42, Tryd.ntmps42
      go_upto_region 7 with (first
        | (go_at_call 43; refine hbo.out.mono ?_; rintro e w1 ⟨rfl, rfl⟩)
        | (go_at_call 44; refine (hun.out _ HBL.out).mono ?_; rintro e w1 ⟨rfl, hb1⟩; have cp := cell_below hb1 _ _ _ cp; have c3 := cell_below hb1 _ _ _ c3; have chx := cell_below hb1 _ _ _ chx; have hD1 := ownsMap_same HD.out (hb1.block pb (HC.out.lt (Or.inr rfl))); have HB1 := Hid.mk hb1; clear hb1)
        | (at_lookup; refine wpList_lookup_own_ok_int _ rfl _ _ 85 rfl 3 3 .i64 keyedJ Tryd.underlying85 Tryd.underlying3 (zeroIntJ _) pb _ D rfl hD1 _ _ rfl hkey ?_; intro c hat hwc; clear hat hwc))
      have hC1 := Hid.mk (HC.out.up HB1.out)
      go_upto_region 8 with (at_mapUpdate; refine wpList_mapUpdate_own _ rfl _ _ _ 85 rfl 3 3 keyedJ Tryd.underlying85 _ pb M.length D rfl hD1 (by have := HF.out.2.2.2.2; unfold maxLen; omega) _ _ (kyI q) rfl rfl hkey (.lit (.int .i64 ys.length)) [] (plainElem_int Tryd.underlying3 (wf_i64' (by omega) (by have := HF.out.2.2.2.1; omega))) ?_; intro w4 hown4 hg4)
      have ho4 : Only (fun i => i = pb) w1 w4 := Only.grown hg4 fun k hk => by cases hk; rfl
      have hB4 : Below W.heap.size W w4 := hC1.out.below.trans (ho4.below (fun i hi => by subst hi; exact (hC1.out.new _ (Or.inr rfl)).1) hC1.out.below.size)
      have ch4 := ho4.cellS (b := hx) (fun e => (hC1.out.new _ (Or.inr rfl)).2.1 e.symm) hC1.out.ch
      have cp4 := ho4.cellS (b := px) (fun e => (hC1.out.new _ (Or.inr rfl)).2.2 e.symm) hC1.out.cp
      have hP4 : Pil w4 nx 0 wv kv ys (nk xs ks M) := hC1.out.pil.kept ho4 fun i hi e => by subst e; exact hC1.out.npb hi
      have HB4 := Hid.mk hB4
      have HP4 := Hid.mk hP4
      have HO4 := Hid.mk ho4
      have HOW := Hid.mk hown4
      have hl1 : pb < w4.heap.size := by obtain ⟨es, cl, hm, _⟩ := hown4; exact (Array.getElem?_eq_some_iff.1 hm).1
      have HL1 := Hid.mk hl1
      have CP4 := Hid.mk cp4
      have CH4 := Hid.mk ch4
      clear hown4 hg4 ho4 hB4 hP4 cp cp4 c3 chx hD1 hl1
      go_wp2_with (first
        | (go_at_call 47; refine (HBOX.out _ HB4.out).mono ?_; rintro e w5 ⟨a5, c5, rfl, hr5⟩; have HR5 := Hid.mk hr5; clear hr5)
        | (go_at_call 46; refine (HADD.out _ (HB4.out.trans (HR5.out.below.mono HB4.out.size)) (HP4.out.up HR5.out.below) a5 c5 HR5.out.sl.cel HR5.out.sl.nil).mono ?_; rintro e w6 ⟨wv6, kv6, rfl, hp6, hs6⟩; have HP6 := Hid.mk hp6; have HS6 := Hid.mk hs6; clear hp6 hs6))
      go_ret
      have hb45 := HR5.out.below
      have hin := HF.out.1
      have hbw := HF.out.2.2.1
      have hold : ∀ i, PMine nx wv6 kv6 i → PMine nx wv kv i ∨ w5.heap.size ≤ i := fun i hi => by
        rcases hi with rfl | hi
        · exact Or.inl (Or.inl rfl)
        · exact (HS6.out.own i hi).imp (fun h => Or.inr h) id
      have hsz : w.heap.size ≤ w5.heap.size := Nat.le_trans HB1.out.size (Nat.le_trans HO4.out.size hb45.size)
      have hlx := World.block_lt_of_cell? w ⟨hx, 0, none⟩ HC.out.ch
      have hlp := World.block_lt_of_cell? w ⟨px, 0, none⟩ HC.out.cp
      simp only at hlx hlp
      have hnx : ¬ PMine nx wv kv hx := fun hk => (HC.out.new _ (Or.inl hk)).2.1 rfl
      have hnp : ¬ PMine nx wv kv px := fun hk => (HC.out.new _ (Or.inl hk)).2.2 rfl
      refine ⟨wv6, kv6, rfl, ⟨?_, HS6.out.only.cellS hnp (cell_below hb45 _ _ _ CP4.out), ⟨_, ownsMap_same (ownsMap_same (by rw [List.length_append, List.length_singleton]; exact HOW.out) (hb45.block pb HL1.out)) (HS6.out.only.block pb (Nat.lt_of_lt_of_le HL1.out hb45.size) HC.out.npb), ?_⟩, HS6.out.only.cellS hnx (cell_below hb45 _ _ _ CH4.out), ?_, ?_, ?_, ?_⟩, ?_⟩
      · have e : nk xs ks (M ++ [q]) = nk xs ks M ++ kbox k bq.length := by
          rw [nk, nk, List.flatMap_append, List.flatMap_cons, List.flatMap_nil, List.append_nil, nkp, hkd.out, Option.getD_some, hbw]
        rw [e]
        exact HP6.out
      · have := HM.out.snoc hin
        rw [← HC.out.len] at this
        exact this
      · exact (HB4.out.trans (hb45.mono HB4.out.size)).trans (HS6.out.only.below (fun i hi => (HC.out.new _ (Or.inl hi)).1) (Nat.le_trans HB4.out.size hb45.size))
      · intro i hi
        rcases hi with hi | hi
        · rcases hold i hi with hh | hh
          · exact HC.out.new i (Or.inl hh)
          · have := HB4.out.size
            have := hb45.size
            exact ⟨by omega, by omega, by omega⟩
        · exact HC.out.new i (Or.inr hi)
      · intro hi
        rcases hold pb hi with hh | hh
        · exact HC.out.npb hh
        · have := HC.out.lt (Or.inr rfl)
          omega
      · rw [List.length_append, List.flatMap_append, List.length_append, HC.out.len, List.flatMap_cons, List.flatMap_nil, List.append_nil, hbw]
      · refine ⟨?_, fun i hi => (hold i hi).imp id fun hh => Nat.le_trans hsz hh⟩
        have o1 : Only (CMine nx pb wv kv) w w1 := Only.up HB1.out
        have o2 : Only (CMine nx pb wv kv) w1 w4 := HO4.out.mono fun i hi => Or.inr hi
        have o3 : Only (CMine nx pb wv kv) w4 w5 := Only.up hb45
        have o4 : Only (CMine nx pb wv kv) w5 w6 := HS6.out.only.mono fun i hi => Or.inl hi
        exact ((o1.trans o2 fun _ h => Or.inl h).trans o3 fun _ h => Or.inl h).trans o4 fun _ h => Or.inl h
end Go.Proofs.YtaiiicmldogjoaaDoor
