/-
  The document's tree: a key put that is not there.
-/
import Derived.Test.YteklhipcojioaaaDoorZTreeRC
namespace Go.Proofs.YteklhipcojioaaaDoor
open Go.RowKit Go.Deep Go.Maps Go.WideShapes

section
variable {P : Program} {md : Region.Mode} {ops : Array Oper} {Q : Exit → Act → World → Prop} {S : World → Prop} {last fuel : Nat} {listed : Array Bool} {a : Act} {w : World}
/-- Two that make memory, in either order. -/
theorem last_fork {i j : Nat} {oi oj : Oper} {di dj : Tmp} {vi vj : Value} {wi wj : World} (hr : Region.ready md ops listed = [i, j])
    (hi : ops[i]? = some oi) (hdi : oi.dst = some di) (hwi : Region.wanted oi (yielded ops a.tmps) = true) (hxi : (execOp a.eval oi).run P w = .ok (.value vi) wi) (hSi : S wi)
    (hj : ops[j]? = some oj) (hdj : oj.dst = some dj) (hwj : Region.wanted oj (yielded ops a.tmps) = true) (hxj : (execOp a.eval oj).run P w = .ok (.value vj) wj) (hSj : S wj)
    (h1 : wpAnyM P md ops Q last S fuel (listed.setIfInBounds i true) (a.put (some di) vi) wi) (h2 : wpAnyM P md ops Q last S fuel (listed.setIfInBounds j true) (a.put (some dj) vj) wj) : wpAnyM P md ops Q last S (fuel + 1) listed a w := by
  refine ⟨fun h0 => absurd (hr ▸ h0) (by simp), hr ▸ fun k hk => ?_⟩
  rcases List.mem_cons.1 hk with rfl | hk
  · unfold wpOp
    simp only [hi]
    rw [if_pos hwi]
    refine .inl ?_
    unfold Oper.wp
    rw [hxi]
    exact ⟨fun _ => hSi, by rw [hdi]; exact h1⟩
  · obtain rfl := List.mem_singleton.1 hk
    unfold wpOp
    simp only [hj]
    rw [if_pos hwj]
    refine .inl ?_
    unfold Oper.wp
    rw [hxj]
    exact ⟨fun _ => hSj, by rw [hdj]; exact h2⟩
end
theorem grown_any {w w2 : World} {r : Option Nat} {o : Obj} {k : Nat} (hg : w.grownBy w2 r) (hk : w.heap[k]? = some o) (hr : r ≠ some k) : w2.heap[k]? = some o := (hg.block k (Array.getElem?_eq_some_iff.1 hk).1 (fun e => hr e.symm)).trans hk
set_option maxHeartbeats 8000000 in
set_option maxRecDepth 100000 in
theorem putR11_none (q : Nat) (L : List Nd) (F S : Nat → Prop) (T : Tm) (n : Int) (kv : Value) (w : World) (h : Rt w q L F S) (hk : Lies w F T kv) (hF : ∀ b, F b → b < w.heap.size) (hL : L.length ≤ 1000000) (hsz : T.size ≤ 1000000) (hck : T.check = 0) (hi : isN L T = false) :
    Calls Tryd.prog 39 #[.pointer (some ⟨q, 0, none⟩), kv, .int .i64 n] w fun e w' => e = .returned (.tuple #[.int .i64 0, .bool false, .int .i64 0]) ∧ StRt w q (putN L T n) F S w' := by
  obtain ⟨kk, kn, ks, ka, km, kc, rfl⟩ := hk.agg
  obtain ⟨nb, W1, hnb, hW1, hu, b0, b1, b2, b3⟩ := boxed_key w kk kn ks ka km kc
  have HC := Hid.mk (refcheck_any T hsz _ _ W1 (hk.below hu))
  rw [hck] at HC
  have HA := Hid.mk (fun (W : World) (hW : Below w.heap.size w W) => atR11_any q L F S F T _ W (h.up hW) (hk.below hW) hL)
  rw [hi] at HA
  have HU := Hid.mk hu
  have HB := Hid.mk (And.intro b0 (And.intro b1 (And.intro b2 b3)))
  have HW := Hid.mk (And.intro hW1 hnb)
  have hIl := atN_le L T
  unfold putN
  rw [if_neg (by rw [hi]; decide)]
  generalize atN L T = I at *
  obtain ⟨v, hs, h⟩ := h
  obtain ⟨c0, f0⟩ := h.cells
  obtain ⟨va, vc, e, hvc, hmx, hvn, hcs⟩ := h.row.cells
  have hlen := h.len
  rw [hlen] at e hvc
  subst e
  have HROW := Hid.mk (fun (w5 : World) (u : Value) (ha : Apn hdS w w5 u (hs.take I ++ [⟨kk, kn, ks, ka, km, kc, n⟩] ++ hs.drop I)) => rt_row (L' := L.take I ++ (T, n) :: L.drop I) h hF ha (by simp [hlen]) (fun i h1 h2 => by
    by_cases e : i < I
    · have e3 : (hs.take I ++ [(⟨kk, kn, ks, ka, km, kc, n⟩ : Hdr)] ++ hs.drop I)[i]? = some (hs[i]'(by omega)) := by
        rw [List.append_assoc, List.getElem?_append_left (by rw [List.length_take]; omega), List.getElem?_take, if_pos e, List.getElem?_eq_getElem]
      have e4 : (L.take I ++ (T, n) :: L.drop I)[i]? = some (L[i]'(by omega)) := by
        rw [List.getElem?_append_left (by rw [List.length_take]; omega), List.getElem?_take, if_pos e, List.getElem?_eq_getElem]
      rw [List.getElem?_eq_getElem h1] at e3
      rw [List.getElem?_eq_getElem h2] at e4
      rw [Option.some.inj e3, Option.some.inj e4]
      exact h.keys i (by omega) (by omega)
    · have hlt : (hs.take I).length = I := by rw [List.length_take]; omega
      have hlt2 : (L.take I).length = I := by rw [List.length_take]; omega
      by_cases e2 : i = I
      · subst e2
        have e3 : (hs.take i ++ [(⟨kk, kn, ks, ka, km, kc, n⟩ : Hdr)] ++ hs.drop i)[i]? = some ⟨kk, kn, ks, ka, km, kc, n⟩ := by
          rw [List.append_assoc, List.getElem?_append_right (by omega), hlt, Nat.sub_self]; rfl
        have e4 : (L.take i ++ (T, n) :: L.drop i)[i]? = some (T, n) := by
          rw [List.getElem?_append_right (by omega), hlt2, Nat.sub_self]; rfl
        rw [List.getElem?_eq_getElem h1] at e3
        rw [List.getElem?_eq_getElem h2] at e4
        rw [Option.some.inj e3, Option.some.inj e4]
        exact ⟨hk, rfl⟩
      · obtain ⟨j, hj⟩ : ∃ j, i = I + 1 + j := ⟨i - (I + 1), by omega⟩
        subst hj
        have hjL : I + j < L.length := by simp at h2; omega
        have hjh : I + j < hs.length := by omega
        have e3 : (hs.take I ++ [(⟨kk, kn, ks, ka, km, kc, n⟩ : Hdr)] ++ hs.drop I)[I + 1 + j]? = some hs[I + j] := by
          rw [List.getElem?_append_right (by simp; omega), List.length_append, hlt, List.length_singleton, Nat.add_sub_cancel_left, List.getElem?_drop, List.getElem?_eq_getElem hjh]
        have e4 : (L.take I ++ (T, n) :: L.drop I)[I + 1 + j]? = some L[I + j] := by
          rw [List.getElem?_append_right (by omega), hlt2, show I + 1 + j - I = j + 1 by omega, List.getElem?_cons_succ, List.getElem?_drop, List.getElem?_eq_getElem hjL]
        rw [List.getElem?_eq_getElem h1] at e3
        rw [List.getElem?_eq_getElem h2] at e4
        rw [Option.some.inj e3, Option.some.inj e4]
        exact h.keys (I + j) hjh hjL))
  have HCS := Hid.mk (fun (W : World) (hW : Below w.heap.size w W) => hcs.up hW)
  have HAT := Hid.mk (fun (W : World) (hW : Below w.heap.size w W) => And.intro (cell_below hW _ _ _ c0) (show W.frozen? ⟨q, 0, none⟩ = false by rw [(bcell hW).2 _ _ (h.lt q h.sq)]; exact f0))
  obtain ⟨N, hN⟩ : ∃ N, L.length = N := ⟨_, rfl⟩
  rw [hN] at HAT hvc hIl hL hlen
  obtain ⟨dA, hdA⟩ : ∃ dA : Option Addr, (if vc = I then va else va.map (·.add (I * hdS.k))) = dA := ⟨_, rfl⟩
  have hlow : ∀ W : World, (Instr.sliceAt 26 (.slice va N vc) (some (.int .i64 (I : Int))) none none).run Tryd.prog W = .ok (.slice dA (N - I) (vc - I)) W := fun W => hdA ▸ slice_lo hdS (by kernel_rfl) va N vc I hIl W
  have hspot : ∀ ad, va = some ad → ad.spot = none := fun ad e => by
    rcases h.row.2 with ⟨e1, _⟩ | ⟨g, cap, cur, e1, _⟩
    · simp only [Value.slice.injEq] at e1; rw [e1.1] at e; cases e
    · simp only [Value.slice.injEq] at e1; rw [e1.1] at e; cases e; rfl
  have hhi : ∀ W : World, (Instr.sliceAt 26 (.slice va N vc) none (some (.int .i64 (I : Int))) none).run Tryd.prog W = .ok (.slice va I vc) W := fun W => slice_hi hdS (by kernel_rfl) va hspot N vc I (by omega) W
  have HDC := Hid.mk (fun (W : World) (hW : Below w.heap.size w W) => hdA ▸ drop_lo (k := I) (HCS.out W hW) (by omega : hs.length ≤ vc))
  have HDN := Hid.mk (show dA = none → vc - I = 0 from fun e => by
    rw [← hdA] at e
    split at e
    · omega
    · cases hva : va with
      | none => have := hvn hva; omega
      | some ad => rw [hva] at e; cases e)
  have HVN := Hid.mk hvn
  have HN := Hid.mk (show hs.length = N ∧ N ≤ vc ∧ N ≤ 1000000 ∧ I ≤ N from ⟨hlen, hvc, hL, hIl⟩)
  have HSL := Hid.mk (And.intro hlow hhi)
  clear h hk hsz hck hi hu hnb hW1 hF c0 f0 hcs hmx hlen hvc hL hIl hN hdA hspot hvn hhi b0 b1 b2 b3
  obtain ⟨b0, b1, b2, b3⟩ := HB.out
  go_enter Tryd.func39, Tryd.ntmps39
  go_upto_region 1 with fail
  rw [HW.out.1, HW.out.2]
  go_upto_region 5 with (first
    | (go_at_call 65; refine (HA.out w2 H2.out).mono ?_; rintro e w3 ⟨rfl, hb⟩; have H3 := Hid.mk (H2.out.trans (hb.mono H2.out.size)); replace b0 := cell_below hb _ _ _ b0; replace b1 := cell_below hb _ _ _ b1; replace b2 := cell_below hb _ _ _ b2; replace b3 := cell_below hb _ _ _ b3; clear hb)
    | (go_at_call 64; refine HC.out.mono ?_; rintro e w2 ⟨rfl, hb⟩; have H2 := Hid.mk (HU.out.trans (hb.mono HU.out.size)); replace b0 := cell_below hb _ _ _ b0; replace b1 := cell_below hb _ _ _ b1; replace b2 := cell_below hb _ _ _ b2; replace b3 := cell_below hb _ _ _ b3; clear hb))
  obtain ⟨e0, f0⟩ := HAT.out w3 H3.out
  have hE := Apn.empty hdS H3.out
  obtain ⟨u1, w4, hr1, hi1, hg1, ho1⟩ := cs_append hdS (w3.alloc (.cells #[] hdS.t)) 26 _ [] (hs.drop I) dA (N - I) (vc - I) hE.row (HDC.out _ hE.below) HDN.out (by have := HN.out; rw [List.length_drop]; omega) (by have := HN.out; simp; omega)
  have hA1 := hE.more hi1 hg1 ho1
  have hb34 : Below w3.heap.size w3 w4 := ((Apn.empty hdS (Up.refl w3)).more hi1 hg1 ho1).below
  have e1 := cell_below (Up.alloc (Up.refl w3) (o := .cells #[] 73)).out _ _ _ e0
  have HA1 := Hid.mk hA1
  replace b0 := cell_below hb34 _ _ _ b0
  replace b1 := cell_below hb34 _ _ _ b1
  replace b2 := cell_below hb34 _ _ _ b2
  replace b3 := cell_below hb34 _ _ _ b3
  obtain ⟨m0, _⟩ := HAT.out w4 hA1.below
  clear hi1 hg1 ho1 hA1 hE hb34
  go_upto_region 11 with (at_builtin; refine Lib.wpList_append_run _ rfl _ _ _ _ rfl _ _ rfl rfl _ _ hr1 ?_)
  obtain ⟨ra, rc, eu1, _, _, hrn, hrc⟩ := HA1.out.row.cells
  subst eu1
  have HRC := Hid.mk (fun (W : World) (hW : Below w4.heap.size w4 W) => (hrc.up hW : Cs hdS W ([] ++ hs.drop I) ra))
  have HRN := Hid.mk hrn
  clear hrc hrn hr1
  refine wp_region_last (last := 18) (S := Up w4) (by kernel_rfl) ?_
  refine last_take (i := 0) (d := 56) (v := .pointer (some ⟨q, 0, none⟩)) rfl rfl (by kernel_rfl) (by kernel_rfl) (by kernel_rfl) (by kernel_rfl) rfl (fun _ _ => rfl) (fun _ _ _ h => h) (Up.refl w4).drew ?_
  simp only [Act.put, List.setIfInBounds_toArray, List.set_cons_zero, List.set_cons_succ]
  refine last_take (i := 2) (d := 58) (v := .pointer (some ⟨q, 0, none⟩)) rfl rfl (by kernel_rfl) (by kernel_rfl) (by kernel_rfl) (by kernel_rfl) rfl (fun _ _ => rfl) (fun _ _ _ h => h) (Up.refl w4).drew ?_
  simp only [Act.put, List.setIfInBounds_toArray, List.set_cons_zero, List.set_cons_succ]
  refine last_take (i := 3) (d := 59) (v := .pointer (some ⟨q, 0, none⟩)) rfl rfl (by kernel_rfl) (by kernel_rfl) (by kernel_rfl) (by kernel_rfl) rfl (fun _ _ => (by go_simp)) (fun _ _ _ h => h) (Up.refl w4).drew ?_
  simp only [Act.put, List.setIfInBounds_toArray, List.set_cons_zero, List.set_cons_succ]
  refine last_take (i := 4) (d := 60) (v := .pointer (some ⟨q, 0, none⟩)) rfl rfl (by kernel_rfl) (by kernel_rfl) (by kernel_rfl) (by kernel_rfl) rfl (fun _ _ => (by go_simp)) (fun _ _ _ h => h) (Up.refl w4).drew ?_
  simp only [Act.put, List.setIfInBounds_toArray, List.set_cons_zero, List.set_cons_succ]
  refine last_take (i := 5) (d := 61) (v := .slice va N vc) rfl rfl (by kernel_rfl) (by kernel_rfl) (by kernel_rfl) (by kernel_rfl) rfl (fun W h => (by have u0 := cell_below h.out _ _ _ m0; go_simp)) (fun _ _ _ h => h) (Up.refl w4).drew ?_
  simp only [Act.put, List.setIfInBounds_toArray, List.set_cons_zero, List.set_cons_succ]
  refine last_take (i := 6) (d := 62) (v := .int .i64 I) rfl rfl (by kernel_rfl) (by kernel_rfl) (by kernel_rfl) (by kernel_rfl) rfl (fun _ _ => rfl) (fun _ _ _ h => h) (Up.refl w4).drew ?_
  simp only [Act.put, List.setIfInBounds_toArray, List.set_cons_zero, List.set_cons_succ]
  refine last_take (i := 9) (d := 65) (v := .agg #[.int .i64 kk, .int .i64 kn, .string ks, .slice ka km kc]) rfl rfl (by kernel_rfl) (by kernel_rfl) (by kernel_rfl) (by kernel_rfl) rfl (fun W h => (by have u0 := cell_below h.out _ _ _ b0; have u1 := cell_below h.out _ _ _ b1; have u2 := cell_below h.out _ _ _ b2; have u3 := cell_below h.out _ _ _ b3; go_simp)) (fun _ _ _ h => h) (Up.refl w4).drew ?_
  simp only [Act.put, List.setIfInBounds_toArray, List.set_cons_zero, List.set_cons_succ]
  refine last_take (i := 10) (d := 66) (v := .int .i64 n) rfl rfl (by kernel_rfl) (by kernel_rfl) (by kernel_rfl) (by kernel_rfl) rfl (fun _ _ => rfl) (fun _ _ _ h => h) (Up.refl w4).drew ?_
  simp only [Act.put, List.setIfInBounds_toArray, List.set_cons_zero, List.set_cons_succ]
  refine last_take (i := 11) (d := 67) (v := .agg #[.int .i64 kk, .int .i64 kn, .string ks, .slice ka km kc, .int .i64 n]) rfl rfl (by kernel_rfl) (by kernel_rfl) (by kernel_rfl) (by kernel_rfl) rfl (fun _ _ => (by go_simp)) (fun _ _ _ h => h) (Up.refl w4).drew ?_
  simp only [Act.put, List.setIfInBounds_toArray, List.set_cons_zero, List.set_cons_succ]
  refine last_take (i := 14) (d := 70) (v := .slice ra ([] ++ hs.drop I).length rc) rfl rfl (by kernel_rfl) (by kernel_rfl) (by kernel_rfl) (by kernel_rfl) rfl (fun _ _ => rfl) (fun _ _ _ h => h) (Up.refl w4).drew ?_
  simp only [Act.put, List.setIfInBounds_toArray, List.set_cons_zero, List.set_cons_succ]
  refine last_take (i := 7) (d := 63) (v := .slice va I vc) rfl rfl (by kernel_rfl) (by kernel_rfl) (by kernel_rfl) (by kernel_rfl) rfl (fun W _ => exec_slice_hi rfl rfl (HSL.out.2 W)) (fun _ _ _ h => h) (Up.refl w4).drew ?_
  simp only [Act.put, List.setIfInBounds_toArray, List.set_cons_zero, List.set_cons_succ]
  obtain ⟨WD, hWD⟩ : ∃ WD, ({ w4 with drawn := w4.drawn + 1 } : World) = WD := ⟨_, rfl⟩
  have HD : Up w4 WD := by rw [← hWD]; exact (Up.refl w4).drew
  have HD0 : Up w WD := HA1.out.below.trans (HD.out.mono HA1.out.below.size)
  rw [hWD]
  clear hWD b0 b1 b2 b3 e0 e1 f0 m0
  refine last_fork (i := 1) (j := 12) (di := 57) (dj := 68) (vi := .slice (some ⟨WD.heap.size, 0, none⟩) 0 0) (vj := .slice (some ⟨WD.heap.size, 0, none⟩) 1 1) (wi := WD.alloc (.cells #[] 73)) (wj := WD.alloc (.cells #[.int .i64 kk, .int .i64 kn, .string ks, .slice ka km kc, .int .i64 n] 73)) (by kernel_rfl) rfl rfl rfl (by go_simp) HD.alloc rfl rfl rfl (by go_simp) HD.alloc ?_ ?_
  · simp only [Act.put, List.setIfInBounds_toArray, List.set_cons_zero, List.set_cons_succ]
    have hE := Apn.empty hdS HD0
    have hE' := Apn.empty hdS HD
    obtain ⟨u3, w3, hr3, hi3, hg3, ho3⟩ := cs_append hdS (WD.alloc (.cells #[] 73)) 26 _ [] (hs.take I) va I vc hE.row (Cs.take (HCS.out _ hE.below) I) HVN.out (by have := HN.out; rw [List.length_take]; omega) (by have := HN.out; simp; omega)
    have hA3 := hE.more hi3 hg3 ho3
    have hB3 := hE'.more hi3 hg3 ho3
    rw [List.nil_append] at hA3 hB3
    refine last_fork (i := 8) (j := 12) (di := 64) (dj := 68) (vi := u3) (vj := .slice (some ⟨(WD.alloc (.cells #[] 73)).heap.size, 0, none⟩) 1 1) (wi := w3) (wj := (WD.alloc (.cells #[] 73)).alloc (.cells #[.int .i64 kk, .int .i64 kn, .string ks, .slice ka km kc, .int .i64 n] 73)) (by kernel_rfl) rfl rfl rfl (exec_append rfl rfl hr3) hB3.below rfl rfl rfl (by go_simp) (Up.alloc (Up.alloc HD)) ?_ ?_
    · simp only [Act.put, List.setIfInBounds_toArray, List.set_cons_zero, List.set_cons_succ]
      have hA4 := hA3.up (Up.alloc (Up.refl w3) (o := .cells #[.int .i64 kk, .int .i64 kn, .string ks, .slice ka km kc, .int .i64 n] 73)).out
      have hB4 := hB3.up (Up.alloc (Up.refl w3) (o := .cells #[.int .i64 kk, .int .i64 kn, .string ks, .slice ka km kc, .int .i64 n] 73)).out
      refine last_value (i := 12) (d := 68) (v := .slice (some ⟨w3.heap.size, 0, none⟩) 1 1) (w' := w3.alloc (.cells #[.int .i64 kk, .int .i64 kn, .string ks, .slice ka km kc, .int .i64 n] 73)) (by kernel_rfl) rfl rfl rfl (by go_simp) (hB4.below) ?_
      simp only [Act.put, List.setIfInBounds_toArray, List.set_cons_zero, List.set_cons_succ]
      obtain ⟨u9, w9, hr9, hi9, hg9, ho9⟩ := append_elem hdS (w3.alloc (.cells #[.int .i64 kk, .int .i64 kn, .string ks, .slice ka km kc, .int .i64 n] 73)) 26 _ (hs.take I) (⟨kk, kn, ks, ka, km, kc, n⟩ : Hdr) hA4.row (w3.heap.size) (new_block _ _) rfl (by have := HN.out; rw [List.length_take]; omega)
      have hA9 := hA4.more hi9 hg9 ho9
      have hB9 := hB4.more hi9 hg9 ho9
      refine last_value (i := 13) (d := 69) (v := u9) (w' := w9) (by kernel_rfl) rfl rfl rfl (exec_append rfl rfl hr9) (hB9.below) ?_
      simp only [Act.put, List.setIfInBounds_toArray, List.set_cons_zero, List.set_cons_succ]
      obtain ⟨u8, w8, hr8, hi8, hg8, ho8⟩ := cs_append hdS w9 26 u9 _ (hs.drop I) ra (hs.drop I).length rc hA9.row (HRC.out _ hB9.below) HRN.out rfl (by have := HN.out; simp; omega)
      have hA8 := hA9.more hi8 hg8 ho8
      have hB8 := hB9.more hi8 hg8 ho8
      obtain ⟨ya, yc, eu, _⟩ := hi8.cells
      obtain ⟨M8, hM8⟩ : ∃ M8, (hs.take I ++ [(⟨kk, kn, ks, ka, km, kc, n⟩ : Hdr)] ++ hs.drop I).length = M8 := ⟨_, rfl⟩
      rw [hM8] at eu
      subst eu
      clear hM8
      refine last_value (i := 15) (d := 71) (v := _) (w' := w8) (by kernel_rfl) rfl rfl rfl (exec_append rfl rfl hr8) (hB8.below) ?_
      simp only [Act.put, List.setIfInBounds_toArray, List.set_cons_zero, List.set_cons_succ]
      obtain ⟨k0, k1⟩ := HAT.out w8 hA8.below
      refine last_value (i := 16) (d := 72) (v := .pointer (some ⟨q, 0, none⟩)) (w' := w8) (by kernel_rfl) rfl rfl rfl (by go_simp) (hB8.below) ?_
      simp only [Act.put, List.setIfInBounds_toArray, List.set_cons_zero, List.set_cons_succ]
      refine last_value (i := 17) (d := 73) (v := .pointer (some ⟨q, 0, none⟩)) (w' := w8) (by kernel_rfl) rfl rfl rfl (by go_simp) (hB8.below) ?_
      simp only [Act.put, List.setIfInBounds_toArray, List.set_cons_zero, List.set_cons_succ]
      refine last_store (w' := w8.setCell ⟨q, 0, none⟩ (.slice ya M8 yc)) (by kernel_rfl) rfl rfl rfl (by go_simp) (by kernel_rfl) ?_
      have HP := Hid.mk (HROW.out _ _ hA8)
      clear hr9 hi9 hg9 ho9 hA9 hB9 hr8 hi8 hg8 ho8 hA8 hB8 k0 k1
      go_wp2
      exact bodyPost_ret (by simp [results]) rfl ⟨rfl, HP.out⟩
    · simp only [Act.put, List.setIfInBounds_toArray, List.set_cons_zero, List.set_cons_succ]
      have hE2 := hE.up (Up.alloc (Up.refl _) (o := .cells #[.int .i64 kk, .int .i64 kn, .string ks, .slice ka km kc, .int .i64 n] 73)).out
      have hF2 := hE'.up (Up.alloc (Up.refl _) (o := .cells #[.int .i64 kk, .int .i64 kn, .string ks, .slice ka km kc, .int .i64 n] 73)).out
      obtain ⟨u5, w5, hr5, hi5, hg5, ho5⟩ := cs_append hdS ((WD.alloc (.cells #[] 73)).alloc (.cells #[.int .i64 kk, .int .i64 kn, .string ks, .slice ka km kc, .int .i64 n] 73)) 26 _ [] (hs.take I) va I vc hE2.row (Cs.take (HCS.out _ hE2.below) I) HVN.out (by have := HN.out; rw [List.length_take]; omega) (by have := HN.out; simp; omega)
      have hA5 := hE2.more hi5 hg5 ho5
      have hB5 := hF2.more hi5 hg5 ho5
      rw [List.nil_append] at hA5 hB5
      refine last_value (i := 8) (d := 64) (v := u5) (w' := w5) (by kernel_rfl) rfl rfl rfl (exec_append rfl rfl hr5) (hB5.below) ?_
      simp only [Act.put, List.setIfInBounds_toArray, List.set_cons_zero, List.set_cons_succ]
      obtain ⟨u9, w9, hr9, hi9, hg9, ho9⟩ := append_elem hdS (w5) 26 _ (hs.take I) (⟨kk, kn, ks, ka, km, kc, n⟩ : Hdr) hA5.row ((WD.alloc (.cells #[] 73)).heap.size) (grown_any hg5 (new_block _ _) (fun e => (by simp [Value.ownBlock] at e))) rfl (by have := HN.out; rw [List.length_take]; omega)
      have hA9 := hA5.more hi9 hg9 ho9
      have hB9 := hB5.more hi9 hg9 ho9
      refine last_value (i := 13) (d := 69) (v := u9) (w' := w9) (by kernel_rfl) rfl rfl rfl (exec_append rfl rfl hr9) (hB9.below) ?_
      simp only [Act.put, List.setIfInBounds_toArray, List.set_cons_zero, List.set_cons_succ]
      obtain ⟨u8, w8, hr8, hi8, hg8, ho8⟩ := cs_append hdS w9 26 u9 _ (hs.drop I) ra (hs.drop I).length rc hA9.row (HRC.out _ hB9.below) HRN.out rfl (by have := HN.out; simp; omega)
      have hA8 := hA9.more hi8 hg8 ho8
      have hB8 := hB9.more hi8 hg8 ho8
      obtain ⟨ya, yc, eu, _⟩ := hi8.cells
      obtain ⟨M8, hM8⟩ : ∃ M8, (hs.take I ++ [(⟨kk, kn, ks, ka, km, kc, n⟩ : Hdr)] ++ hs.drop I).length = M8 := ⟨_, rfl⟩
      rw [hM8] at eu
      subst eu
      clear hM8
      refine last_value (i := 15) (d := 71) (v := _) (w' := w8) (by kernel_rfl) rfl rfl rfl (exec_append rfl rfl hr8) (hB8.below) ?_
      simp only [Act.put, List.setIfInBounds_toArray, List.set_cons_zero, List.set_cons_succ]
      obtain ⟨k0, k1⟩ := HAT.out w8 hA8.below
      refine last_value (i := 16) (d := 72) (v := .pointer (some ⟨q, 0, none⟩)) (w' := w8) (by kernel_rfl) rfl rfl rfl (by go_simp) (hB8.below) ?_
      simp only [Act.put, List.setIfInBounds_toArray, List.set_cons_zero, List.set_cons_succ]
      refine last_value (i := 17) (d := 73) (v := .pointer (some ⟨q, 0, none⟩)) (w' := w8) (by kernel_rfl) rfl rfl rfl (by go_simp) (hB8.below) ?_
      simp only [Act.put, List.setIfInBounds_toArray, List.set_cons_zero, List.set_cons_succ]
      refine last_store (w' := w8.setCell ⟨q, 0, none⟩ (.slice ya M8 yc)) (by kernel_rfl) rfl rfl rfl (by go_simp) (by kernel_rfl) ?_
      have HP := Hid.mk (HROW.out _ _ hA8)
      clear hr9 hi9 hg9 ho9 hA9 hB9 hr8 hi8 hg8 ho8 hA8 hB8 k0 k1
      go_wp2
      exact bodyPost_ret (by simp [results]) rfl ⟨rfl, HP.out⟩
  · simp only [Act.put, List.setIfInBounds_toArray, List.set_cons_zero, List.set_cons_succ]
    have hX0 := Up.alloc HD0 (o := .cells #[.int .i64 kk, .int .i64 kn, .string ks, .slice ka km kc, .int .i64 n] 73)
    have hX := Up.alloc HD (o := .cells #[.int .i64 kk, .int .i64 kn, .string ks, .slice ka km kc, .int .i64 n] 73)
    have hE3 := Apn.empty hdS hX0
    have hF3 := Apn.empty hdS hX
    refine last_value (i := 1) (d := 57) (v := .slice (some ⟨(WD.alloc (.cells #[.int .i64 kk, .int .i64 kn, .string ks, .slice ka km kc, .int .i64 n] 73)).heap.size, 0, none⟩) 0 0) (w' := (WD.alloc (.cells #[.int .i64 kk, .int .i64 kn, .string ks, .slice ka km kc, .int .i64 n] 73)).alloc (.cells #[] 73)) (by kernel_rfl) rfl rfl rfl (by go_simp) (hF3.below) ?_
    simp only [Act.put, List.setIfInBounds_toArray, List.set_cons_zero, List.set_cons_succ]
    obtain ⟨u6, w6, hr6, hi6, hg6, ho6⟩ := cs_append hdS ((WD.alloc (.cells #[.int .i64 kk, .int .i64 kn, .string ks, .slice ka km kc, .int .i64 n] 73)).alloc (.cells #[] 73)) 26 _ [] (hs.take I) va I vc hE3.row (Cs.take (HCS.out _ hE3.below) I) HVN.out (by have := HN.out; rw [List.length_take]; omega) (by have := HN.out; simp; omega)
    have hA6 := hE3.more hi6 hg6 ho6
    have hB6 := hF3.more hi6 hg6 ho6
    rw [List.nil_append] at hA6 hB6
    refine last_value (i := 8) (d := 64) (v := u6) (w' := w6) (by kernel_rfl) rfl rfl rfl (exec_append rfl rfl hr6) (hB6.below) ?_
    simp only [Act.put, List.setIfInBounds_toArray, List.set_cons_zero, List.set_cons_succ]
    obtain ⟨u9, w9, hr9, hi9, hg9, ho9⟩ := append_elem hdS (w6) 26 _ (hs.take I) (⟨kk, kn, ks, ka, km, kc, n⟩ : Hdr) hA6.row (WD.heap.size) (grown_any hg6 (new_block1 _ _ _) (fun e => (by simp [Value.ownBlock] at e))) rfl (by have := HN.out; rw [List.length_take]; omega)
    have hA9 := hA6.more hi9 hg9 ho9
    have hB9 := hB6.more hi9 hg9 ho9
    refine last_value (i := 13) (d := 69) (v := u9) (w' := w9) (by kernel_rfl) rfl rfl rfl (exec_append rfl rfl hr9) (hB9.below) ?_
    simp only [Act.put, List.setIfInBounds_toArray, List.set_cons_zero, List.set_cons_succ]
    obtain ⟨u8, w8, hr8, hi8, hg8, ho8⟩ := cs_append hdS w9 26 u9 _ (hs.drop I) ra (hs.drop I).length rc hA9.row (HRC.out _ hB9.below) HRN.out rfl (by have := HN.out; simp; omega)
    have hA8 := hA9.more hi8 hg8 ho8
    have hB8 := hB9.more hi8 hg8 ho8
    obtain ⟨ya, yc, eu, _⟩ := hi8.cells
    obtain ⟨M8, hM8⟩ : ∃ M8, (hs.take I ++ [(⟨kk, kn, ks, ka, km, kc, n⟩ : Hdr)] ++ hs.drop I).length = M8 := ⟨_, rfl⟩
    rw [hM8] at eu
    subst eu
    clear hM8
    refine last_value (i := 15) (d := 71) (v := _) (w' := w8) (by kernel_rfl) rfl rfl rfl (exec_append rfl rfl hr8) (hB8.below) ?_
    simp only [Act.put, List.setIfInBounds_toArray, List.set_cons_zero, List.set_cons_succ]
    obtain ⟨k0, k1⟩ := HAT.out w8 hA8.below
    refine last_value (i := 16) (d := 72) (v := .pointer (some ⟨q, 0, none⟩)) (w' := w8) (by kernel_rfl) rfl rfl rfl (by go_simp) (hB8.below) ?_
    simp only [Act.put, List.setIfInBounds_toArray, List.set_cons_zero, List.set_cons_succ]
    refine last_value (i := 17) (d := 73) (v := .pointer (some ⟨q, 0, none⟩)) (w' := w8) (by kernel_rfl) rfl rfl rfl (by go_simp) (hB8.below) ?_
    simp only [Act.put, List.setIfInBounds_toArray, List.set_cons_zero, List.set_cons_succ]
    refine last_store (w' := w8.setCell ⟨q, 0, none⟩ (.slice ya M8 yc)) (by kernel_rfl) rfl rfl rfl (by go_simp) (by kernel_rfl) ?_
    have HP := Hid.mk (HROW.out _ _ hA8)
    clear hr9 hi9 hg9 ho9 hA9 hB9 hr8 hi8 hg8 ho8 hA8 hB8 k0 k1
    go_wp2
    exact bodyPost_ret (by simp [results]) rfl ⟨rfl, HP.out⟩
end Go.Proofs.YteklhipcojioaaaDoor
