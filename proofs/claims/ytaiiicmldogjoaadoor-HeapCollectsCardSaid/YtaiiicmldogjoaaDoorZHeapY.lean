/-
  What a collection is, plainly, for the words that are asked for.
-/
import Derived.Test.YtaiiicmldogjoaaDoorZHeapX
import Derived.Test.YtaiiicmldogjoaaDoorZHeapQ
import Derived.BigQuiet
namespace Go.Proofs.YtaiiicmldogjoaaDoor
open Go.RowKit Go.Deep Go.Maps Go.WideShapes

structure Colt (L : List ByteArray) (n : Nat) (xs ks keep l : List Int) (wl : List Tm) : Prop where
  small : xs.length ≤ n
  len : l.length = keep.length
  same : ∀ i k (_ : i < keep.length) (_ : k < keep.length) (_ : i < l.length) (_ : k < l.length), (keep[i] = keep[k]) ↔ (l[i] = l[k])
  den : ∀ i (_ : i < wl.length) (_ : i < l.length), Den L xs ks wl[i] l[i]
  again : ∃ J M2, Scd (bxw xs ks) l J M2 ∧ nw xs ks M2 = xs ∧ l.map (tr (bxw xs ks) M2) = l ∧ (M2.flatMap (bxw xs ks)).length = xs.length
theorem colt_of {L : List ByteArray} {xs ks keep : List Int} {wl : List Tm} {J : Nat} {N : List Nat} (hD : Scd (bxw xs ks) keep J N) (hm : Moved xs ks N) (hwf : Wf xs ks) (hlen : wl.length = keep.length) (hden : ∀ i (_ : i < wl.length) (_ : i < keep.length), Den L xs ks wl[i] keep[i]) :
    Colt L xs.length (nw xs ks N) (nk xs ks N) keep (keep.map (tr (bxw xs ks) N)) wl := by
  have hmet : ∀ w ∈ keep, Wd.boxedB w = true → plc w ∈ N := fun w hw hb => hD.met w (by rw [toks]; exact List.mem_append_left _ hw) hb
  have hd : ∀ w ∈ keep, ∃ T, Den L xs ks T w := fun w hw => by
    obtain ⟨i, hi, rfl⟩ := List.getElem_of_mem hw
    exact ⟨_, hden i (by omega) hi⟩
  refine ⟨?_, by rw [List.length_map], fun i k hi hk _ _ => ?_, fun i hi hi' => ?_, ?_⟩
  · rw [nw_length]
    exact hwf.sum N hm.nodup hm.kinds
  · rw [List.getElem_map, List.getElem_map]
    constructor
    · intro e; rw [e]
    · intro e
      obtain ⟨T, h1⟩ := hd _ (List.getElem_mem hi)
      obtain ⟨T', h2⟩ := hd _ (List.getElem_mem hk)
      exact hm.tr_inj h1 h2 (hmet _ (List.getElem_mem hi)) (hmet _ (List.getElem_mem hk)) e
  · rw [List.getElem_map]
    have hik : i < keep.length := by omega
    exact hm.den _ _ (hden i hi hik) (hmet _ (List.getElem_mem hik))
  · obtain ⟨M2, h1, h2, h3, h4⟩ := hm.again hD fun w hw hb => by
      obtain ⟨T, h1⟩ := hd w hw
      obtain ⟨k, n, s, l, ys, _, hp, _⟩ := den_box h1 hb
      exact ⟨k, hp⟩
    exact ⟨J, M2, h1, h2, h3, h4⟩
/-- All that the law holds beside a heap while it looks at what was collected. -/
structure CoK (W0 w : World) (hb : Nat) (S : Nat → Prop) (L : List ByteArray) (M : Nat) (xs ks : List Int) (ka la : Option Addr) (kc lc : Nat) (keep l : List Int) (wl : List Tm) (wa : Option Addr) (wc : Nat) : Prop where
  st : St W0 w hb S L M xs ks
  kw : Wds w (.slice ka keep.length kc) keep
  lw : Wds w (.slice la l.length lc) l
  ks_ : ∀ g, (Value.slice ka keep.length kc).ownBlock = some g → Sf S w g
  ls_ : ∀ g, (Value.slice la l.length lc).ownBlock = some g → Sf S w g
  wt : Lst w (Sf S w) wl wa wc
section
variable {W0 w w' : World} {hb : Nat} {S S' : Nat → Prop} {L : List ByteArray} {M : Nat} {xs ks xs' ks' : List Int} {ka la : Option Addr} {kc lc : Nat} {keep l : List Int} {wl : List Tm} {wa : Option Addr} {wc : Nat}
theorem CoK.step (h : CoK W0 w hb S L M xs ks ka la kc lc keep l wl wa wc) (hs : St W0 w' hb S' L M xs' ks') (n : Sp S w S' w') : CoK W0 w' hb S' L M xs' ks' ka la kc lc keep l wl wa wc :=
  ⟨hs, n.wds h.ks_ h.kw, n.wds h.ls_ h.lw, fun g hg => n.safe (h.ks_ g hg), fun g hg => n.safe (h.ls_ g hg), n.lst h.wt⟩
theorem CoK.up (h : CoK W0 w hb S L M xs ks ka la kc lc keep l wl wa wc) (hb' : Below w.heap.size w w') : CoK W0 w' hb S L M xs ks ka la kc lc keep l wl wa wc := h.step (h.st.up hb') (Sp.up hb')
theorem Colt.all {n : Nat} (hc : Colt L n xs ks keep l wl) (hl : wl.length = keep.length) : ∀ r ∈ l, ∃ T, Den L xs ks T r := fun r hr => by
  obtain ⟨i, hi, rfl⟩ := List.getElem_of_mem hr
  exact ⟨_, hc.den i (by have := hc.len; omega) hi⟩
end
end Go.Proofs.YtaiiicmldogjoaaDoor

/-
  collected returns true.
-/
namespace Go.Proofs.YtaiiicmldogjoaaDoor
open Go.RowKit Go.Deep Go.Maps Go.WideShapes

set_option maxHeartbeats 16000000 in
set_option maxRecDepth 100000 in
theorem collected_any {W0 : World} {hb : Nat} {S : Nat → Prop} {L : List ByteArray} {M : Nat} {xs ks keep : List Int} {kv : Value} {wl : List Tm} {wa : Option Addr} {wc : Nat} (w : World) (h : St W0 w hb S L M xs ks) (hM : M ≤ 900000) (hxl : xs.length ≤ 1000) (hk : Wds w kv keep) (hkn : keep.length ≤ 50)
    (hks : ∀ g, kv.ownBlock = some g → Sf S w g) (hwt : Lst w (Sf S w) wl wa wc) (hlen : wl.length = keep.length) (hden : ∀ i (_ : i < wl.length) (_ : i < keep.length), Den L xs ks wl[i] keep[i]) (hwr : ∀ T ∈ wl, T.wordsR ≤ 65536) :
    Calls Tryd.prog 29 #[.pointer (some ⟨hb, 0, none⟩), kv, .slice wa wl.length wc] w fun e w' => e = .returned (.bool true) ∧ Below W0.heap.size W0 w' := by
  obtain ⟨ka, kc, rfl, hkc, hkn0⟩ := hk.cel0
  have HC := Hid.mk (h.collect (cap := kc) hM hkc (by omega) (fun r hr => by obtain ⟨i, hi, rfl⟩ := List.getElem_of_mem hr; exact ⟨_, hden i (by omega) hi⟩))
  have HS := Hid.mk h
  have HX := Hid.mk hxl
  have HK := Hid.mk hk
  have HKN := Hid.mk hkn
  have HKS := Hid.mk hks
  have HWT := Hid.mk hwt
  have HLEN := Hid.mk hlen
  have HDEN := Hid.mk hden
  have HWR := Hid.mk hwr
  have HMM := Hid.mk hM
  clear h hM hxl hk hkn hks hwt hden hwr hkc hkn0 hlen
  go_enter Tryd.func29, Tryd.ntmps29
  go_upto_region 3 with (first
    | (go_at_call 13; refine HS.out.used.mono ?_; rintro e wz ⟨rfl, rfl⟩)
    | (go_at_call 12; refine HC.out.mono ?_; rintro e w2 ⟨lv, J, N, S2, rfl, hD, hMv, hlw, hlg, hst, hsp⟩
       have hcolt := colt_of hD hMv HS.out.wf HLEN.out HDEN.out
       have HSP := Hid.mk hsp
       have HST := Hid.mk hst
       have HLW := Hid.mk hlw
       have HLG := Hid.mk hlg
       have HCO := Hid.mk hcolt
       clear hD hMv hlw hlg hst hsp hcolt))
  obtain ⟨xs2, hxs2⟩ : ∃ xs2, nw xs ks N = xs2 := ⟨_, rfl⟩
  obtain ⟨ks2, hks2⟩ : ∃ ks2, nk xs ks N = ks2 := ⟨_, rfl⟩
  obtain ⟨l, hl⟩ : ∃ l, keep.map (tr (bxw xs ks) N) = l := ⟨_, rfl⟩
  rw [hxs2, hks2] at HST HCO
  rw [hl] at HLW HCO
  clear hxs2 hks2 hl
  obtain ⟨la, lc, hlv, hlc, hln0⟩ := HLW.out.cel0
  subst hlv
  have K2 : Hid (CoK W0 w2 hb S2 L M xs2 ks2 ka la kc lc keep l wl wa wc) := Hid.mk ⟨HST.out, HSP.out.wds HKS.out HK.out, HLW.out, fun g hg => HSP.out.safe (HKS.out g hg), fun g hg => (HLG.out g hg).2, HSP.out.lst HWT.out⟩
  have HLL := Hid.mk HCO.out.len
  have hxx := HCO.out.small
  have hlw : l.length = wl.length := by have := HLL.out; have := HLEN.out; omega
  have hu1 : decide (((xs.length : Nat) : Int) < (xs2.length : Nat)) = false := by rw [decide_eq_false_iff_not]; omega
  have hu2 : decide (xs.length < xs2.length) = false := by rw [decide_eq_false_iff_not]; omega
  rw [← hlw]
  obtain ⟨J2, M2, hsc2, hn2, ht2, hf2⟩ := HCO.out.again
  have HAG := Hid.mk (show Scd (bxw xs2 ks2) l J2 M2 ∧ nw xs2 ks2 M2 = xs2 ∧ l.map (tr (bxw xs2 ks2) M2) = l from ⟨hsc2, hn2, ht2⟩)
  have HSTA := Hid.mk (starts_any (cap := lc) w2 HST.out (by have := HX.out; omega) hlc hln0 (by have := HLL.out; have := HKN.out; omega) (HCO.out.all HLEN.out) hsc2 hf2)
  have HXX := Hid.mk hxx
  have HLWL := Hid.mk hlw
  clear hlc hln0 hxx hlw hsc2 hn2 ht2 hf2
  go_upto_region 6 with (first
    | (go_at_call 13; refine HST.out.used.mono ?_; rintro e wz ⟨rfl, rfl⟩)
    | (go_at_call 55; refine HSTA.out.mono ?_; rintro e w3 ⟨rfl, hb3⟩; have K3 := Hid.mk (K2.out.up hb3); clear hb3))
  clear hu1 hu2
  go_loopw [10] (fun ii wr => ∃ i : Nat, ii = .int .i64 i ∧ Hid (i ≤ l.length) ∧ Hid (Up w3 wr)) (fun ii _ => 60 - (intOf ii).toNat)
  case atStart => exact ⟨0, rfl, Hid.mk (Nat.zero_le _), Hid.mk (Up.refl _)⟩
  case round =>
    obtain ⟨i, rfl, hi, hU⟩ := hrel
    have K := Hid.mk (K3.out.up hU.out)
    by_cases hlt : i < l.length
    · have hil : decide ((i : Int) < (l.length : Nat)) = true := by rw [decide_eq_true_eq]; omega
      have hil2 : (i : Int) < (l.length : Nat) := by omega
      have hil3 : (i : Int) < (keep.length : Nat) := by have := HLL.out; omega
      have hik : i < keep.length := by have := HLL.out; omega
      have HLT := Hid.mk hlt
      have HIK := Hid.mk hik
      obtain ⟨lg, lcp, hle, _, hlcc⟩ := K.out.lw.slice (by omega)
      obtain ⟨kg, kcp, hke, _, hkcc⟩ := K.out.kw.slice (by omega)
      cases hle
      cases hke
      have cl := hlcc i hlt
      have ck := hkcc i hik
      have hsm : Hid (∀ k u v, keep[k]? = some u → l[k]? = some v → ((keep[i] = u) ↔ (l[i] = v))) := Hid.mk fun k u v hu hv => by
        obtain ⟨hk1, hk2⟩ := List.getElem?_eq_some_iff.1 hu
        obtain ⟨hk3, hk4⟩ := List.getElem?_eq_some_iff.1 hv
        rw [← hk2, ← hk4]
        exact HCO.out.same i k hik hk1 hlt hk3
      have hdn : Hid (∀ T, wl[i]? = some T → Den L xs2 ks2 T l[i]) := Hid.mk fun T hT => by
        obtain ⟨h1, h2⟩ := List.getElem?_eq_some_iff.1 hT
        rw [← h2]
        exact HCO.out.den i h1 hlt
      have HLC : Hid (∀ W, Up wr W → ∀ k v, l[k]? = some v → W.cell? ⟨lg, k, none⟩ = some (.int .u64 v)) := Hid.mk fun W hu k v hv => by
        obtain ⟨h1, h2⟩ := List.getElem?_eq_some_iff.1 hv
        rw [← h2]; exact cell_below hu.out _ _ _ (hlcc k h1)
      have HKC : Hid (∀ W, Up wr W → ∀ k v, keep[k]? = some v → W.cell? ⟨kg, k, none⟩ = some (.int .u64 v)) := Hid.mk fun W hu k v hv => by
        obtain ⟨h1, h2⟩ := List.getElem?_eq_some_iff.1 hv
        rw [← h2]; exact cell_below hu.out _ _ _ (hkcc k h1)
      clear hlcc hkcc
      generalize l[i] = x at *
      generalize keep[i] = y at *
      obtain ⟨wb, wo, hwa, _, hrow⟩ := K.out.wt.some (by have := HLWL.out; omega)
      have hiw : i < wl.length := by have := HLWL.out; omega
      obtain ⟨tk, tn, tsx, tm, ta, tc, hte, q0, q1, q2, q3, hli⟩ := hrow.part i hiw
      have hwl : wl[i]? = some wl[i] := List.getElem?_eq_getElem hiw
      have HGOT := Hid.mk (fun W (hu : Up wr W) => got_any (T := wl[i]) (x := x) W (K.out.st.up hu.out) (hdn.out _ hwl) (HWR.out _ (List.getElem_mem hiw)) (hli.below hu.out))
      have HQS := Hid.mk (show _ ∧ _ ∧ _ ∧ _ from ⟨q0, q1, q2, q3⟩)
      have HCI := Hid.mk (show _ ∧ _ from ⟨cl, ck⟩)
      subst hwa
      have hwi : IntKind.i64.wrap ((i : Int) + 1) = ((i + 1 : Nat) : Int) := by have := HLL.out; have := HKN.out; rw [wrap_id (by omega) (by omega)]; omega
      clear hrow hte hwl hli hiw hdn q0 q1 q2 q3 cl ck
      go_upto_region 9 with fail
      go_loopw [11] (fun kk wq => ∃ k : Nat, kk = .int .i64 k ∧ Hid (k ≤ i) ∧ Hid (Up wr wq)) (fun kk _ => 60 - (intOf kk).toNat)
      case atStart => exact ⟨0, rfl, Hid.mk (Nat.zero_le _), Hid.mk (Up.refl _)⟩
      case round =>
        obtain ⟨k, rfl, hk, hQ⟩ := hrel
        have cl := cell_below hQ.out.out _ _ _ HCI.out.1
        have ck := cell_below hQ.out.out _ _ _ HCI.out.2
        by_cases hki : k < i
        · have hk1 : decide ((k : Int) < (i : Int)) = true := by rw [decide_eq_true_eq]; omega
          have hk2 : decide (k < i) = true := by rw [decide_eq_true_eq]; omega
          have hk3 : (k : Int) < (l.length : Nat) := by have := HLT.out; omega
          have hk4 : (k : Int) < (keep.length : Nat) := by have := HIK.out; omega
          have hwk : IntKind.i64.wrap ((k : Int) + 1) = ((k + 1 : Nat) : Int) := by have := HLL.out; have := HKN.out; have := HLT.out; rw [wrap_id (by omega) (by omega)]; omega
          obtain ⟨v, hv⟩ : ∃ v, l[k]? = some v := ⟨_, List.getElem?_eq_getElem (by have := HLT.out; omega)⟩
          obtain ⟨u, hu⟩ : ∃ u, keep[k]? = some u := ⟨_, List.getElem?_eq_getElem (by have := HIK.out; omega)⟩
          have cl2 := HLC.out _ hQ.out k v hv
          have ck2 := HKC.out _ hQ.out k u hu
          have hee := hsm.out k u v hu hv
          have HKI := Hid.mk hki
          clear hv hu hki
          by_cases he : y = u
          · have hf := hee.1 he
            have e1 : (y == u) = true := beq_iff_eq.2 he
            have e2 : (x == v) = true := beq_iff_eq.2 hf
            clear hee he hf
            go_wp2_with (go_quiet (fail))
            refine ⟨⟨k + 1, by first | rfl | go_num, Hid.mk HKI.out, Hid.mk (below_drewN hQ.out.out _)⟩, ?_⟩
            have := HKI.out
            have := HLT.out
            have := HLL.out
            have := HKN.out
            simp [intOf]
            omega
          · have hf : ¬ x = v := fun h => he (hee.2 h)
            have e1 : (y == u) = false := beq_eq_false_iff_ne.2 he
            have e2 : (x == v) = false := beq_eq_false_iff_ne.2 hf
            clear hee he hf
            go_wp2_with (go_quiet (fail))
            refine ⟨⟨k + 1, by first | rfl | go_num, Hid.mk HKI.out, Hid.mk (below_drewN hQ.out.out _)⟩, ?_⟩
            have := HKI.out
            have := HLT.out
            have := HLL.out
            have := HKN.out
            simp [intOf]
            omega
        · have hk1 : decide ((k : Int) < (i : Int)) = false := by rw [decide_eq_false_iff_not]; omega
          have hk2 : decide (k < i) = false := by rw [decide_eq_false_iff_not]; omega
          clear hki ck
          have q0 := cell_below hQ.out.out _ _ _ HQS.out.1
          have q1 := cell_below hQ.out.out _ _ _ HQS.out.2.1
          have q2 := cell_below hQ.out.out _ _ _ HQS.out.2.2.1
          have q3 := cell_below hQ.out.out _ _ _ HQS.out.2.2.2
          go_upto_region 13 with fail
          go_region_with (go_at_call 21; refine (HGOT.out _ (by first | exact hQ.out | exact hQ.out.drew | exact hQ.out.drew.drew)).mono ?_; rintro e w5 ⟨rfl, hb5⟩; have U5 : Hid (Up w3 w5) := Hid.mk (by first | exact (hU.out.call hQ.out.out).call hb5 | exact (hU.out.call hQ.out.out).drew.call hb5); clear hb5)
          all_goals go_wp2
          all_goals go_roundw
          all_goals first
            | exact ⟨i + 1, by first | rfl | go_num, Hid.mk HLT.out, U5⟩
            | (have := HLT.out; have := HLL.out; have := HKN.out; simp [intOf]; omega)
    · have hil : decide ((i : Int) < (l.length : Nat)) = false := by rw [decide_eq_false_iff_not]; omega
      have hil2 : decide (i < l.length) = false := by rw [decide_eq_false_iff_not]; omega
      go_wp2_with (first
        | (go_at_call 24; have g0 := k9; refine (sameWords_any xs2 xs2 _ _ _ _ _ X8.out NW8.out (by have := HX.out; have := HXX.out; omega)).mono ?_; rintro e w9 ⟨rfl, hb9⟩; rw [decide_eq_true (rfl : xs2 = xs2)]
           have S9 := Hid.mk (S8.out.up hb9); clear hb9)
        | (go_at_call 15; have g0 := k7; refine S7.out.words.mono ?_; rintro e w8 ⟨v8, rfl, hw8, _, hb8⟩
           obtain ⟨xa, xc, rfl, _, _, hxc⟩ := hw8.cel
           have S8 := Hid.mk (S7.out.up hb8); have X8 := Hid.mk hxc; have NW8 := Hid.mk (NW7.out.up hb8); clear hw8 hb8 hxc; have k9 := True.intro)
        | (go_at_call 24; refine (sameWords_any l l _ _ _ _ _ LM6.out K6.out.lw.celA (by have := HLL.out; have := HKN.out; omega)).mono ?_; rintro e w7 ⟨rfl, hb7⟩; rw [decide_eq_true (rfl : l = l)]
           have S7 := Hid.mk (K6.out.st.up hb7); have NW7 := Hid.mk (NW6.out.up hb7); clear hb7; have k7 := True.intro)
        | (go_at_call 12; refine (K5.out.st.collect (cap := lc) HMM.out K5.out.lw.celA (by have := HLL.out; have := HKN.out; omega) (HCO.out.all HLEN.out)).mono ?_; rintro e w6 ⟨mv, J6, N6, S6, rfl, hD6, _, hmw, _, hst6, hsp6⟩
           obtain ⟨_, rfl⟩ := hD6.uniq HAG.out.1
           rw [HAG.out.2.1] at hst6
           rw [HAG.out.2.2] at hmw
           have K6 := Hid.mk (K5.out.step hst6 hsp6)
           have NW6 := Hid.mk (hsp6.wds HG5.out HW5.out).celA
           obtain ⟨ma, mc, rfl, _, _, hmc⟩ := hmw.cel
           have LM6 := Hid.mk hmc
           clear hD6 hmw hst6 hsp6 hmc)
        | (go_at_call 15; refine K.out.st.words.mono ?_; rintro e w5 ⟨v5, rfl, hw5, hg5, hb5⟩
           obtain ⟨na, nc, hv5, _, _, _⟩ := hw5.cel
           subst hv5
           have K5 := Hid.mk (K.out.up hb5)
           have HG5 := Hid.mk (show ∀ g, (Value.slice na xs2.length nc).ownBlock = some g → Sf S2 w5 g from fun g hg => K.out.st.new_safe (hg5 g hg) (hw5.block_lt hg))
           have HW5 := Hid.mk hw5
           clear hb5 hw5 hg5))
      go_ret
      exact ⟨rfl, S9.out.below⟩
end Go.Proofs.YtaiiicmldogjoaaDoor
