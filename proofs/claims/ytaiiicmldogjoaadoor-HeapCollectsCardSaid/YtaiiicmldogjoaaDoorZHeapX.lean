/-
  starts: all that a heap has is reached from its roots.
-/
import Derived.Test.YtaiiicmldogjoaaDoorZHeapV
namespace Go.Proofs.YtaiiicmldogjoaaDoor
open Go.RowKit Go.Deep Go.Maps Go.WideShapes

theorem St.wt {W0 w : World} {hb : Nat} {S : Nat → Prop} {L : List ByteArray} {M : Nat} {xs ks : List Int} (h : St W0 w hb S L M xs ks) : WordTab w := by
  obtain ⟨p, bm, v, wv, kv, hh, ho⟩ := h.hea
  exact hh.wt
theorem bx_fit {xs ks : List Int} {k n : Int} {p : Nat} {ys : List Int} (h : Bx xs ks k n p ys) : p < xs.length ∧ ys.length ≤ 64 := by
  have h1 := h.lt.1
  have h2 := fit_len h.has h.fit
  have h3 := h.fit
  simp only [fitB, decide_eq_true_eq] at h3
  omega

theorem lead_len {xs ks : List Int} {k n : Int} {p : Nat} {ys : List Int} (h : Bx xs ks k n p ys) : (leadW k n ys.length).length = if k = 9 then 0 else 1 := by
  by_cases h9 : k = 9
  · rw [if_pos h9, leadW, if_neg (by omega), if_neg (by omega)]; rfl
  · rw [if_neg h9]
    obtain ⟨x', hx', _⟩ := head_num h.has h.fit h9
    rw [hx']; rfl
set_option maxHeartbeats 16000000 in
set_option maxRecDepth 100000 in
theorem starts_any {W0 : World} {hb : Nat} {S : Nat → Prop} {L : List ByteArray} {M : Nat} {xs ks rs : List Int} {a : Option Addr} {cap J : Nat} {Mv : List Nat} (w : World) (h : St W0 w hb S L M xs ks) (hxl : xs.length ≤ 1000) (hrs : Cel w rs a) (hna : a = none → cap = 0) (hrl : rs.length ≤ 50)
    (hden : ∀ r ∈ rs, ∃ T, Den L xs ks T r) (hD : Scd (bxw xs ks) rs J Mv) (hall : (Mv.flatMap (bxw xs ks)).length = xs.length) :
    Calls Tryd.prog 55 #[.pointer (some ⟨hb, 0, none⟩), .slice a rs.length cap] w fun e w' => e = .returned (.bool true) ∧ Below w.heap.size w w' := by
  obtain ⟨N, hN⟩ : ∃ N, xs.length + 1 = N := ⟨_, rfl⟩
  have hw1 : IntKind.i64.wrap ((xs.length : Int) + 1) = (N : Int) := by rw [wrap_id (by omega) (by omega)]; omega
  obtain ⟨w1, hr1, hB1, hb1⟩ := made_bools N (by omega) w
  have HS := Hid.mk h
  have HX := Hid.mk hxl
  have HRC := Hid.mk (hrs.up hb1)
  have HNA := Hid.mk hna
  have HRL := Hid.mk hrl
  have HDE := Hid.mk hden
  have HD := Hid.mk hD
  have HALL := Hid.mk hall
  have HN := Hid.mk hN
  have HB1 := Hid.mk hB1
  have HU1 := Hid.mk (show Up w w1 from hb1)
  clear h hxl hrs hna hrl hden hD hall hN hB1 hb1
  go_enter Tryd.func55, Tryd.ntmps55
  go_upto_region 5 with (first
    | (go_at_call 13; refine HS.out.used.mono ?_; rintro e wz ⟨rfl, rfl⟩)
    | (go_at_call 73; refine (copy9_any rs a cap _ HRC.out HNA.out (by have := HRL.out; omega)).mono ?_; rintro e w2 ⟨tv, rfl, ht2, hg2, hb2⟩; have T2 := Hid.mk ht2; have G2 := Hid.mk hg2; have B2 := Hid.mk (HB1.out.up hb2); have U2 := Hid.mk (HU1.out.call hb2); clear ht2 hg2 hb2))
  clear hr1
  obtain ⟨lb, hlb⟩ : ∃ lb, w.heap.size = lb := ⟨_, rfl⟩
  rw [hlb] at B2 ⊢
  have HLB := Hid.mk hlb
  have HG2 : Hid (∀ g, tv.ownBlock = some g → w.heap.size ≤ g ∧ g ≠ lb) := Hid.mk fun g hg => by
    have h1 := G2.out g hg
    have h2 := HB1.out.lt
    have h3 := HU1.out.out.size
    omega
  clear hlb G2
  go_loopw [6, 7, 8] (fun tv sv ii wr => ∃ (i : Nat) (V : List Nat) (ts : List Int), ii = .int .i64 i ∧ sv = .int .i64 ((V.flatMap (bxw xs ks)).length : Nat) ∧ Hid (Wds wr tv ts) ∧ Hid (Sv L xs ks rs Mv V ts i) ∧ Hid (i ≤ ts.length) ∧ Hid (Bw wr lb N V) ∧ Hid (Up w wr) ∧ Hid (∀ g, tv.ownBlock = some g → w.heap.size ≤ g ∧ g ≠ lb)) (fun _ _ ii _ => 2000 - (intOf ii).toNat)
  case atStart => exact ⟨0, [], rs, rfl, rfl, T2, Hid.mk (Sv.start HD.out HDE.out), Hid.mk (Nat.zero_le _), B2, U2, HG2⟩
  case round =>
    clear T2 B2 U2 HG2 hw1
    obtain ⟨i, V, ts, rfl, rfl, hT, hV, hi, hB, hU, hG⟩ := hrel
    have hbd : Hid (ts.length ≤ 1050 ∧ (V.flatMap (bxw xs ks)).length ≤ 1000) := Hid.mk (by
      have h1 := hV.out.len
      have h2 := hV.out.bound
      have h3 := HALL.out
      have h4 := HX.out
      have h5 := HRL.out
      omega)
    have hSt := Hid.mk (HS.out.up hU.out)
    obtain ⟨n, hn⟩ : ∃ n, (V.flatMap (bxw xs ks)).length = n := ⟨_, rfl⟩
    by_cases hlt : i < ts.length
    · have hV' := hV.out
      obtain ⟨T, hd⟩ := hV'.den _ (List.getElem_mem hlt)
      have hinM := hV'.inM _ (List.getElem_mem hlt)
      have hskip := fun hb => hV'.skip hlt hb
      have hmore := fun (hb : Wd.boxedB ts[i] = true) (hn : plc ts[i] ∉ V) {k n : Int} {ys : List Int} (hx : Bx xs ks k n (plc ts[i]) ys) (hy : ∀ y ∈ ys, ∃ T, Den L xs ks T y) => hV'.more HD.out hlt hb hn hx hy
      obtain ⟨k, kn, s, l⟩ := T
      obtain ⟨m, hpk, hk0, hk10⟩ := den_pk hd
      obtain ⟨g, cp, htv, _, hcc⟩ := hT.out.slice (by omega)
      subst htv
      have c1 := hcc i hlt
      clear hcc hV'
      generalize hti : ts[i] = t at hd hpk c1 hinM hskip hmore
      have HTI : Hid (ts[i]? = some t) := Hid.mk (by rw [List.getElem?_eq_getElem hlt, hti])
      clear hti
      have hil : decide ((i : Int) < (ts.length : Nat)) = true := by rw [decide_eq_true_eq]; omega
      have hil2 : (i : Int) < (ts.length : Nat) := by omega
      have hi5 : decide ((i : Int) < 100000) = true := by rw [decide_eq_true_eq]; have := hbd.out; omega
      have hi6 : decide (i < 100000) = true := by rw [decide_eq_true_eq]; have := hbd.out; omega
      have hi7 : decide (i < ts.length) = true := by rw [decide_eq_true_eq]; omega
      have hwi : IntKind.i64.wrap ((i : Int) + 1) = ((i + 1 : Nat) : Int) := by have := hbd.out; rw [wrap_id (by omega) (by omega)]; omega
      obtain ⟨f1, f2, f3, f4, f5, f6, f7, f8⟩ := hpk.facts
      have hbx := Hid.mk (fun (W : World) => boxed_any t W f7 f8)
      rw [hn]
      have HSK := Hid.mk hskip
      have HMO := @hmore
      have HLT := Hid.mk hlt
      clear hskip hmore hlt
      by_cases hbt : Wd.boxedB t = true
      · obtain ⟨k', n', s', l', ys, e, hpq, hp, hx, hds⟩ := den_box hd hbt
        cases e
        have hmay := Hid.mk hd
        have hfx := bx_fit hx
        have hqM := hinM hbt
        have hun := Hid.mk (fun (W : World) (ht : WordTab W) => unpack_any t W ht f7 f8)
        rw [f4, hpq.facts.2.2.2.2.1, f6] at hun
        rw [hbt] at hbx
        obtain ⟨q, hq⟩ : ∃ q, plc t = q := ⟨_, rfl⟩
        rw [hq] at hun hfx hpq hqM
        have hge : decide (((xs.length : Nat) : Int) ≤ (q : Int)) = false := by rw [decide_eq_false_iff_not]; omega
        have hge2 : decide (xs.length ≤ q) = false := by rw [decide_eq_false_iff_not]; omega
        have hqN : (q : Int) < (N : Int) := by have := HN.out; omega
        have hqN' : q < N := by have := HN.out; omega
        have HQ := Hid.mk hq
        by_cases hqv : q ∈ V
        · have hdq : decide (q ∈ V) = true := by rw [decide_eq_true_eq]; exact hqv
          have HQV := Hid.mk hqv
          clear hqv hd hpk hpq hx hds hinM hmay f1 f2 f3 f4 f5 f6 f7 f8 hp hqM HMO hk0 hk10
          go_wp2_with (first
            | (go_at_call 44; refine (hun.out _ hSt.out.wt).mono ?_; rintro e w2 ⟨rfl, hb2⟩
               have c1 := cell_below hb2 _ _ _ c1
               have hB2 := hB.out.up hb2
               have c2 := hB2.cell hqN'
               rw [hdq] at c2
               have B2 := Hid.mk hB2; have U2 := Hid.mk (hU.out.call hb2); have T2 := Hid.mk (hT.out.up hb2); clear hb2 hB2)
            | (go_at_call 43; refine (hbx.out _).mono ?_; rintro e wz ⟨rfl, rfl⟩)
            | (go_at_call 13; refine (HS.out.up U2.out).used.mono ?_; rintro e wz ⟨rfl, rfl⟩))
          go_roundw
          case rel => exact ⟨i + 1, V, ts, by first | rfl | go_num, by rw [hn], T2, Hid.mk (HSK.out (fun _ => by rw [HQ.out]; exact HQV.out)), Hid.mk HLT.out, B2, U2, hG⟩
          case measure => have := hbd.out; have := HLT.out; simp [intOf]; omega
        · have hdq : decide (q ∈ V) = false := by rw [decide_eq_false_iff_not]; exact hqv
          have hk3 : k = 5 ∨ k = 7 ∨ k = 9 := by have := hx.has; rw [hasL_iff] at this; omega
          have hys : ∀ y ∈ ys, ∃ T, Den L xs ks T y := fun y hy => by
            obtain ⟨t', _, ht'⟩ := hds.mem y hy
            exact ⟨t', ht'⟩
          rw [hq] at hx
          have hld : (bxw xs ks q).length = (if k = 9 then 0 else 1) + ys.length := by
            rw [hx.words, List.length_append, lead_len hx]
          have hsum : ((V ++ [q]).flatMap (bxw xs ks)).length = n + ((if k = 9 then 0 else 1) + ys.length) := by
            rw [List.flatMap_append, List.length_append, hn, List.flatMap_singleton, hld]
          have hV2 := HMO hbt (by rw [hq]; exact hqv) (by rw [hq]; exact hx) hys
          rw [hq] at hV2
          have hyl := hfx.2
          have hbd' := hbd.out
          rw [hn] at hbd'
          obtain ⟨n1, hn1⟩ : ∃ n1, n + ys.length = n1 := ⟨_, rfl⟩
          have hs1 : IntKind.i64.wrap ((n : Int) + (ys.length : Int)) = (n1 : Int) := by rw [wrap_id (by omega) (by omega)]; omega
          have hs2 : IntKind.i64.wrap ((n1 : Int) + 1) = ((n1 + 1 : Nat) : Int) := by rw [wrap_id (by omega) (by omega)]; omega
          have HP := Hid.mk (fun (W : World) (hu : Up w W) => (HS.out.up hu.out).partsB hmay.out hpq hx)
          have HV2 := Hid.mk hV2
          have HSUM := Hid.mk hsum
          have HN1 := Hid.mk hn1
          have HYL := Hid.mk hyl
          have hlbw := Hid.mk (show w.heap.size ≤ lb from (by rw [HLB.out]; exact Nat.le_refl _))
          clear hqv hd hpk hpq hx hds hinM hmay f1 f2 f3 f4 f5 f6 f7 f8 hp hqM HMO hys hld hsum hV2 hyl hbd' hn1 hfx
          go_upto_region 12 with (first
            | (go_at_call 44; refine (hun.out _ hSt.out.wt).mono ?_; rintro e w2 ⟨rfl, hb2⟩
               have c1 := cell_below hb2 _ _ _ c1
               have hB2 := hB.out.up hb2
               have c2 := hB2.cell hqN'
               have c3 := hB2.frozen q
               rw [hdq] at c2
               have B2 := Hid.mk hB2; have U2 := Hid.mk (hU.out.call hb2); have T2 := Hid.mk (hT.out.up hb2); clear hb2 hB2)
            | (go_at_call 43; refine (hbx.out _).mono ?_; rintro e wz ⟨rfl, rfl⟩)
            | (go_at_call 13; refine (HS.out.up U2.out).used.mono ?_; rintro e wz ⟨rfl, rfl⟩))
          have hT3 := T2.out.kept (Only.set (S := fun k => k = lb) w2 (j := q) (.bool true) rfl) (fun g' hg' e => (hG.out g' hg').2 e)
          have hB3 := B2.out.set hqN'
          have hU3 := U2.out.set (a := ⟨lb, q, none⟩) (v := .bool true) hlbw.out
          obtain ⟨W3, hW3⟩ : ∃ W3, w2.setCell ⟨lb, q, none⟩ (.bool true) = W3 := ⟨_, rfl⟩
          rw [hW3] at hT3 hB3 hU3 ⊢
          obtain ⟨_, _, htv3, _, hcc3⟩ := hT3.slice (by have := HLT.out; omega)
          cases htv3
          have c5 := hcc3 i (by have := HLT.out; omega)
          rw [Option.some.inj ((List.getElem?_eq_getElem _).symm.trans HTI.out)] at c5
          have T3 := Hid.mk hT3
          have B3 := Hid.mk hB3
          have U3 := Hid.mk hU3
          clear hT3 hB3 hU3 hcc3 c1 c2 c3
          go_upto_region 14 with (first
            | (go_at_call 11; refine (HP.out _ U3.out).mono ?_; rintro e w4 ⟨pv, rfl, hp4, hg4, hb4⟩
               obtain ⟨pa, pc, hpv, hpc, hpn⟩ := hp4.cel0
               subst hpv
               have PC := Hid.mk hpc
               have PN := Hid.mk hpn
               have B4 := Hid.mk (B3.out.up hb4); have U4 := Hid.mk (U3.out.call hb4); have T4 := Hid.mk (T3.out.up hb4); clear hp4 hg4 hb4 hpc hpn))
          obtain ⟨v5, w5, hr5, hT5, hg5, ho5⟩ := append_words w4 25 _ ts ys T4.out pa pc PC.out PN.out (by have := hbd.out; have := HYL.out; omega)
          have hlg := (hG.out g rfl)
          have U5 := Hid.mk (show Up w w5 from Below.grown U4.out.out hg5 U4.out.out.size (fun k hk => (by cases hk; exact hlg.1)))
          have B5 := Hid.mk (B4.out.grown hg5 (fun e => hlg.2 (by cases e; rfl)))
          have G5 : Hid (∀ g', v5.ownBlock = some g' → w.heap.size ≤ g' ∧ g' ≠ lb) := Hid.mk fun g' hg' => by
            rcases ho5 with e | e
            · rw [e] at hg'; cases hg'; exact hlg
            · rw [e] at hg'
              cases hg'
              have h1 := B4.out.lt
              have h2 := U4.out.out.size
              omega
          have T5 := Hid.mk hT5
          clear hT5 hg5 ho5 hlg
          rcases hk3 with rfl | rfl | rfl
          · go_wp2_with (at_builtin; refine Lib.wpList_append_run _ rfl _ _ _ _ rfl _ _ rfl rfl _ _ hr5 ?_)
            go_roundw
            case rel => exact ⟨i + 1, V ++ [q], ts ++ ys, by first | rfl | go_num, by rw [HSUM.out]; have := HN1.out; simp; omega, T5, HV2, Hid.mk (by have := HLT.out; rw [List.length_append]; omega), B5, U5, G5⟩
            case measure => have := hbd.out; have := HLT.out; simp [intOf]; omega
          · go_wp2_with (at_builtin; refine Lib.wpList_append_run _ rfl _ _ _ _ rfl _ _ rfl rfl _ _ hr5 ?_)
            go_roundw
            case rel => exact ⟨i + 1, V ++ [q], ts ++ ys, by first | rfl | go_num, by rw [HSUM.out]; have := HN1.out; simp; omega, T5, HV2, Hid.mk (by have := HLT.out; rw [List.length_append]; omega), B5, U5, G5⟩
            case measure => have := hbd.out; have := HLT.out; simp [intOf]; omega
          · go_wp2_with (at_builtin; refine Lib.wpList_append_run _ rfl _ _ _ _ rfl _ _ rfl rfl _ _ hr5 ?_)
            go_roundw
            case rel => exact ⟨i + 1, V ++ [q], ts ++ ys, by first | rfl | go_num, by rw [HSUM.out]; have := HN1.out; simp; omega, T5, HV2, Hid.mk (by have := HLT.out; rw [List.length_append]; omega), B5, U5, G5⟩
            case measure => have := hbd.out; have := HLT.out; simp [intOf]; omega
      · have hbf : Wd.boxedB t = false := by simpa using hbt
        have hun := Hid.mk (fun (W : World) (ht : WordTab W) => unpack_any t W ht f7 f8)
        rw [f4, f5, f6] at hun
        rw [hbf] at hbx
        have HBT := Hid.mk hbt
        clear hd hpk hinM f1 f2 f3 f4 f5 f6 f7 f8 HMO hk0 hk10 hbt hbf
        go_wp2_with (first
          | (go_at_call 44; refine (hun.out _ hSt.out.wt).mono ?_; rintro e w2 ⟨rfl, hb2⟩
             have c1 := cell_below hb2 _ _ _ c1
             have B2 := Hid.mk (hB.out.up hb2); have U2 := Hid.mk (hU.out.call hb2); have T2 := Hid.mk (hT.out.up hb2); clear hb2)
          | (go_at_call 43; refine (hbx.out _).mono ?_; rintro e wz ⟨rfl, rfl⟩))
        go_roundw
        case rel => exact ⟨i + 1, V, ts, by first | rfl | go_num, by rw [hn], T2, Hid.mk (HSK.out (fun h => absurd h HBT.out)), Hid.mk HLT.out, B2, U2, hG⟩
        case measure => have := hbd.out; have := HLT.out; simp [intOf]; omega
    · have he : decide ((i : Int) < (ts.length : Nat)) = false := by rw [decide_eq_false_iff_not]; omega
      have hall := hV.out.all HD.out (by omega)
      rw [HALL.out] at hall
      rw [hall]
      obtain ⟨ta, tc, htv, _⟩ := hT.out.cel0
      subst htv
      go_wp2_with (go_at_call 13; refine hSt.out.used.mono ?_; rintro e wz ⟨rfl, rfl⟩)
      go_ret
      exact ⟨rfl, hU.out.out⟩
end Go.Proofs.YtaiiicmldogjoaaDoor
