/-
  Terms built of words that are there: whether all may be, the words of a box, join, Tuple, Cons.
-/
import Derived.Test.YtaiiicmldogjoaaDoorZHeapA
namespace Go.Proofs.YtaiiicmldogjoaaDoor
open Go.RowKit Go.Deep Go.Maps Go.WideShapes

set_option maxHeartbeats 4000000 in
set_option maxRecDepth 100000 in
theorem mayAll_any (hb p bm : Nat) (v : Value) (L : List ByteArray) (M : Nat) (wv kv : Value) (xs ks : List Int) (zs : List Int) (a : Option Addr) (cap : Nat) (w : World) (h : Hea w hb p bm v L M wv kv xs ks) (hwf : Wf xs ks) (hz : Cel w zs a) (hr : ∀ z ∈ zs, 0 ≤ z ∧ z < 18446744073709551616) (hl : zs.length ≤ 1000000) :
    Calls Tryd.prog 41 #[.pointer (some ⟨hb, 0, none⟩), .slice a zs.length cap] w fun e w' => e = .returned (.bool (zs.all (mayB L ks))) ∧ Below w.heap.size w w' := by
  have HH := Hid.mk h
  have HZ := Hid.mk hz
  have HR := Hid.mk hr
  have HL := Hid.mk hl
  have HW := Hid.mk hwf
  clear h hz hr hl hwf
  go_enter Tryd.func41, Tryd.ntmps41
  go_wp2
  go_loopw [9] (fun ii wr => ∃ (i : Nat), i ≤ zs.length ∧ ii = .int .i64 i ∧ Hid ((zs.take i).all (mayB L ks) = true) ∧ Hid (Below w.heap.size w wr)) (fun ii _ => zs.length - (intOf ii).toNat)
  case atStart => exact ⟨0, Nat.zero_le _, rfl, Hid.mk (by rw [List.take_zero]; rfl), Hid.mk (Below.refl _ _)⟩
  case round =>
    obtain ⟨i, hi, rfl, hE, hB⟩ := hrel
    by_cases hlt : i < zs.length
    · obtain ⟨b1, o1, rfl, hc1⟩ := (HZ.out.up hB.out) (by omega)
      have c1 := hc1 i hlt
      have hrg := HR.out _ (List.getElem_mem hlt)
      have hwi : IntKind.i64.wrap ((i : Int) + 1) = ((i + 1 : Nat) : Int) := by have := HL.out; rw [wrap_id (by omega) (by omega)]; omega
      have htk : (zs.take (i + 1)).all (mayB L ks) = ((zs.take i).all (mayB L ks) && mayB L ks zs[i]) := by rw [List.take_succ_eq_append_getElem hlt, List.all_append]; simp
      have hno : mayB L ks zs[i] = false → zs.all (mayB L ks) = false := fun e => by
        rw [List.all_eq_false]
        exact ⟨zs[i], List.getElem_mem hlt, by rw [e]; exact Bool.false_ne_true⟩
      rw [hE.out, Bool.true_and] at htk
      have HTK := Hid.mk htk
      have HNO := Hid.mk hno
      generalize zs[i] = x at *
      have hil : (i : Int) < zs.length := by omega
      have HLT := Hid.mk hlt
      have hm := Hid.mk (fun W (hb' : Below wr.heap.size wr W) => may_any9 hb p bm v L M wv kv xs ks x W ((HH.out.up hB.out).up hb') HW.out hrg.1 hrg.2)
      clear htk hno hc1 hrg
      cases hmx : mayB L ks x with
      | true =>
        rw [hmx] at hm
        go_wp2_with (go_at_call 36; refine (hm.out _ (Below.refl _ _)).mono ?_; rintro e w1 ⟨rfl, hb1⟩; have HB1 := Hid.mk hb1; clear hb1)
        go_roundw
        case rel => exact ⟨i + 1, HLT.out, by first | rfl | go_num, Hid.mk (by rw [HTK.out, hmx]), Hid.mk (hB.out.trans (HB1.out.mono hB.out.size))⟩
        case measure =>
          have := HLT.out
          simp [intOf]
          omega
      | false =>
        rw [hmx] at hm
        go_wp2_with (go_at_call 36; refine (hm.out _ (Below.refl _ _)).mono ?_; rintro e w1 ⟨rfl, hb1⟩; have HB1 := Hid.mk hb1; clear hb1)
        go_ret
        exact ⟨by rw [HNO.out hmx]; rfl, hB.out.trans (HB1.out.mono hB.out.size)⟩
    · have he : i = zs.length := by omega
      subst he
      have hall : Hid (zs.all (mayB L ks) = true) := Hid.mk (by have := hE.out; rwa [List.take_length] at this)
      go_wp2
      go_ret
      exact ⟨by rw [hall.out]; rfl, hB.out⟩

set_option maxHeartbeats 4000000 in
set_option maxRecDepth 100000 in
theorem boxOf_any (k n : Int) (ys : List Int) (a : Option Addr) (c : Nat) (w : World) (ht : WordTab w) (hk : hasL k = true) (hf : fitB k n 0 ys.length = true) (hy : Cel w ys a) (hn : a = none → c = 0) :
    Calls Tryd.prog 59 #[.int .i64 k, .int .i64 n, .slice a ys.length c] w fun e w' => ∃ v', e = .returned v' ∧ Wds w' v' (leadW k n ys.length ++ ys) ∧ (∀ g, v'.ownBlock = some g → w.heap.size ≤ g) ∧ Below w.heap.size w w' := by
  have hfl := fit_len hk hf
  have hnil : Wds w (.slice none 0 0) [] := ⟨rfl, Or.inl ⟨rfl, rfl⟩⟩
  by_cases h9 : k = 9
  · subst h9
    have e1 : leadW 9 n ys.length ++ ys = ys := by rw [leadW, if_neg (by omega), if_neg (by omega)]; rfl
    rw [e1]
    obtain ⟨v', w', hr, h1, h2, h3⟩ := append_words w 25 _ [] ys hnil a c hy hn (by simp; omega)
    rw [List.nil_append] at h1
    have hb1 : Below w.heap.size w w' := (Below.refl _ _).grown h2 (Nat.le_refl _) (fun k hk => by cases hk)
    have hnew : ∀ g, v'.ownBlock = some g → w.heap.size ≤ g := fun g hg => by
      rcases h3 with e | e
      · rw [e] at hg; cases hg
      · rw [e] at hg; cases hg; exact Nat.le_refl _
    have H := Hid.mk (And.intro h1 (And.intro hnew hb1))
    clear h1 h2 h3 hy hn hf hfl hk e1 hb1 hnew hnil
    go_enter Tryd.func59, Tryd.ntmps59
    go_wp2_with (at_builtin; refine Lib.wpList_append_run _ rfl _ _ _ _ rfl _ _ rfl rfl _ _ hr ?_)
    go_ret
    exact ⟨v', rfl, H.out⟩
  · obtain ⟨x0, hx0, _⟩ := head_num hk hf h9
    have hk2 : k = 7 ∨ k = 5 := by rw [hasL_iff] at hk; omega
    obtain ⟨kk, nn, hkn, hpk, hnn, hkk⟩ : ∃ kk nn, leadW k n ys.length = [Wd.packW kk nn] ∧ (k = 7 ∧ kk = 10 ∧ nn = (ys.length : Int) ∨ k = 5 ∧ kk = 11 ∧ nn = n * 128 + ys.length) ∧ 0 ≤ nn ∧ nn ≤ 1000000000000 := by
      rcases hk2 with rfl | rfl
      · exact ⟨10, ys.length, rfl, Or.inl ⟨rfl, rfl, rfl⟩, by omega, by omega⟩
      · exact ⟨11, n * 128 + ys.length, rfl, Or.inr ⟨rfl, rfl, rfl⟩, by omega, by omega⟩
    rw [hkn]
    have hpc := Hid.mk (packH_any kk nn w ht (by omega) (by omega) (by omega) (by omega))
    have e1 : IntKind.i64.wrap (n * 128) = n * 128 := wrap_id (by omega) (by omega)
    have e2 : IntKind.i64.wrap (n * 128 + (ys.length : Int)) = n * 128 + ys.length := wrap_id (by omega) (by omega)
    have app : ∀ (w1 : World), Below w.heap.size w w1 → ∃ v3 w3 v4 w4, (Builtin.append_ #[25, 25] 25 #[.slice none 0 0, .slice (some ⟨w1.heap.size, 0, none⟩) 1 1]).run Tryd.prog (w1.alloc (.cells #[.int .u64 (Wd.packW kk nn)] 22)) = .ok v3 w3 ∧
        (Builtin.append_ #[25, 25] 25 #[v3, .slice a ys.length c]).run Tryd.prog w3 = .ok v4 w4 ∧ Hid (Wds w4 v4 ([Wd.packW kk nn] ++ ys)) ∧ Hid (∀ g, v4.ownBlock = some g → w.heap.size ≤ g) ∧ Hid (Below w.heap.size w w4) := by
      intro w1 hb1
      have hb2 : Below w.heap.size w (w1.alloc (.cells #[.int .u64 (Wd.packW kk nn)] 22)) := hb1.alloc hb1.size _
      obtain ⟨v3, w3, hr3, h3, g3, a3⟩ := append_words (w1.alloc (.cells #[.int .u64 (Wd.packW kk nn)] 22)) 25 (.slice none 0 0) [] [Wd.packW kk nn] ⟨rfl, Or.inl ⟨rfl, rfl⟩⟩ (some ⟨w1.heap.size, 0, none⟩) 1 (cel_at (t := 22) (new_block _ _)) (fun e => by cases e) (by simp)
      have hb3 : Below w.heap.size w w3 := hb2.grown g3 hb2.size (fun k hk => by cases hk)
      have n3 : ∀ g, v3.ownBlock = some g → w.heap.size ≤ g := fun g hg => by
        rcases a3 with e | e
        · rw [e] at hg; cases hg
        · rw [e] at hg; cases hg; exact hb2.size
      obtain ⟨v4, w4, hr4, h4, g4, a4⟩ := append_words w3 25 v3 _ ys h3 a c (hy.up hb3) hn (by simp; omega)
      have hb4 : Below w.heap.size w w4 := hb3.grown g4 hb3.size n3
      refine ⟨v3, w3, v4, w4, hr3, hr4, Hid.mk h4, Hid.mk fun g hg => ?_, Hid.mk hb4⟩
      rcases a4 with e | e
      · exact n3 g (e ▸ hg)
      · rw [e] at hg; cases hg; exact hb3.size
    have APP := Hid.mk app
    clear app hy hn hf hfl hk hnil ht hx0 hk2 hkn h9
    rcases hpk with ⟨rfl, rfl, rfl⟩ | ⟨rfl, rfl, rfl⟩
    all_goals
      clear hnn hkk
      go_enter Tryd.func59, Tryd.ntmps59
      go_wp2_with (first
        | (go_at_call 45; refine hpc.out.mono ?_; rintro e w1 ⟨rfl, hb1⟩; obtain ⟨v3, w3, v4, w4, hr3, hr4, H4, N4, B4⟩ := APP.out _ hb1; clear hb1)
        | (at_builtin; refine Lib.wpList_append_run _ rfl _ _ _ _ rfl _ _ rfl rfl _ _ hr3 ?_)
        | (at_builtin; refine Lib.wpList_append_run _ rfl _ _ _ _ rfl _ _ rfl rfl _ _ hr4 ?_))
      go_ret
      exact ⟨v4, rfl, H4.out, N4.out, B4.out⟩
theorem Wds.cel0 {w : World} {v : Value} {xs : List Int} (h : Wds w v xs) : ∃ a cap, v = .slice a xs.length cap ∧ Cel w xs a ∧ (a = none → cap = 0) := by
  rcases h.shape with ⟨rfl, rfl⟩ | ⟨g, cap, rfl, _, _, _, hc⟩
  · exact ⟨none, 0, rfl, fun h => (by cases h), fun _ => rfl⟩
  · exact ⟨_, cap, rfl, fun _ => ⟨g, 0, rfl, fun j hj => by rw [Nat.zero_add]; exact hc j hj⟩, fun e => (by cases e)⟩

set_option maxHeartbeats 4000000 in
set_option maxRecDepth 100000 in
theorem join_any (hb p bm : Nat) (v : Value) (L : List ByteArray) (M : Nat) (wv kv : Value) (xs ks : List Int) (k n : Int) (ys : List Int) (a : Option Addr) (c : Nat) (w : World) (h : Hea w hb p bm v L M wv kv xs ks) (hwf : Wf xs ks)
    (hk : hasL k = true) (hf : fitB k n 0 ys.length = true) (hy : Cel w ys a) (hn : a = none → c = 0) (hr : ∀ z ∈ ys, 0 ≤ z ∧ z < 18446744073709551616) (hm : ys.all (mayB L ks) = true) (hfit : xs.length + (leadW k n ys.length ++ ys).length ≤ M) :
    Calls Tryd.prog 38 #[.pointer (some ⟨hb, 0, none⟩), .int .i64 k, .int .i64 n, .slice a ys.length c] w fun e w' => ∃ wv' kv', e = .returned (.tuple #[.int .u64 (Wd.packW k xs.length), .int .i64 0]) ∧
      Hea w' hb p bm v L M wv' kv' (xs ++ (leadW k n ys.length ++ ys)) (ks ++ kbox k ((leadW k n ys.length).length + ys.length)) ∧ Stp hb p bm w v wv kv w' v wv' kv' := by
  have hfl := fit_len hk hf
  have hma := Hid.mk (mayAll_any hb p bm v L M wv kv xs ks ys a c w h hwf hy hr (by omega))
  rw [hm] at hma
  have hbo := Hid.mk (fun W (hb' : Below w.heap.size w W) => boxOf_any k n ys a c W ((h.wt).below hb') hk hf (hy.up hb') hn)
  have HH := Hid.mk h
  have c0 := h.c0
  have hm1 := h.m1
  obtain ⟨l, hl⟩ : ∃ l, leadW k n ys.length ++ ys = l := ⟨_, rfl⟩
  have hll : l.length = (leadW k n ys.length).length + ys.length := by rw [← hl, List.length_append]
  rw [← hll]
  rw [hl] at hbo hfit ⊢
  have e1 : decide ((xs.length : Int) + l.length ≤ M) = true := by rw [decide_eq_true_eq]; omega
  have hfi := Hid.mk (fun W (hb' : Below w.heap.size w W) => fitsH_any hb p bm v L M wv kv xs ks l.length W (h.up hb') (by omega) (by omega))
  rw [e1] at hfi
  have had : Hid (∀ W (hb' : Below w.heap.size w W) (a' : Option Addr) (c' : Nat), Cel W l a' → (a' = none → c' = 0) → Calls Tryd.prog 46 #[.pointer (some ⟨hb, 3, none⟩), .int .i64 k, .slice a' l.length c'] W fun e w' => ∃ wv' kv', e = .returned (.int .u64 (Wd.packW k xs.length)) ∧
      Hea w' hb p bm v L M wv' kv' (xs ++ l) (ks ++ kbox k l.length) ∧ Stp hb p bm w v wv kv w' v wv' kv') := Hid.mk fun W hb' a' c' hc' hn' =>
    (addP_any hb 3 k l a' c' W wv kv xs ks (h.up hb').pil h.len hc' hn' (by omega) hk (by omega) (h.up hb').wt (fun hq => h.gw (Or.inr hq))).mono fun e w' ⟨wv', kv', he, hp, hs⟩ => by
      obtain ⟨h1, h2⟩ := (h.up hb').piled hp hs (by rw [List.length_append, List.length_append, kbox_length (by omega), h.len]) (by rw [List.length_append]; exact hfit)
      exact ⟨wv', kv', he, h1, Stp.after hb' h2⟩
  have g1 : ¬ (64 < ys.length) := by omega
  have g2 : decide ((64 : Int) < ys.length) = false := by rw [decide_eq_false_iff_not]; omega
  have g3 : ¬ ((64 : Int) < ys.length) := by omega
  have g4 : ¬ n < 0 := by omega
  have g5 : ¬ (1073741824 : Int) < n := by omega
  have g6 : decide (n < 0) = false := decide_eq_false g4
  have g7 : decide ((1073741824 : Int) < n) = false := decide_eq_false g5
  clear h hwf hk hf hy hn hr hm hfit hfl hll hl hm1 e1
  go_enter Tryd.func38, Tryd.ntmps38
  go_wp2_with (first
    | (go_at_call 30; refine (madeH_yes _ _ c0).mono ?_; rintro e w1 ⟨rfl, rfl⟩)
    | (go_at_call 41; refine hma.out.mono ?_; rintro e w1 ⟨rfl, hb1⟩; have HB1 := Hid.mk hb1; clear hb1)
    | (go_at_call 59; refine (hbo.out _ HB1.out).mono ?_; rintro e w2 ⟨v2, rfl, h2, h3, hb2⟩; obtain ⟨a2, c2, rfl, hc2, hn2⟩ := h2.cel0; have HC2 := Hid.mk hc2; have HN2 := Hid.mk hn2; have HB2 := Hid.mk (HB1.out.trans (hb2.mono HB1.out.size)); clear hb2 h2 h3 hc2 hn2)
    | (go_at_call 31; refine (hfi.out _ HB2.out).mono ?_; rintro e w3 ⟨rfl, hb3⟩; have HC3 := Hid.mk (HC2.out.up hb3); have HB3 := Hid.mk (HB2.out.trans (hb3.mono HB2.out.size)); clear hb3)
    | (go_at_call 46; refine (had.out _ HB3.out _ _ HC3.out HN2.out).mono ?_; rintro e w4 ⟨wv', kv', rfl, h4, s4⟩))
  go_ret2
  exact ⟨wv', kv', rfl, h4, s4⟩

set_option maxHeartbeats 1000000 in
theorem tupleH_any (hb p bm : Nat) (v : Value) (L : List ByteArray) (M : Nat) (wv kv : Value) (xs ks : List Int) (ys : List Int) (a : Option Addr) (c : Nat) (w : World) (h : Hea w hb p bm v L M wv kv xs ks) (hwf : Wf xs ks)
    (hl : ys.length ≤ 64) (hy : Cel w ys a) (hn : a = none → c = 0) (hr : ∀ z ∈ ys, 0 ≤ z ∧ z < 18446744073709551616) (hm : ys.all (mayB L ks) = true) (hfit : xs.length + (1 + ys.length) ≤ M) :
    Calls Tryd.prog 8 #[.pointer (some ⟨hb, 0, none⟩), .slice a ys.length c] w fun e w' => ∃ wv' kv', e = .returned (.tuple #[.int .u64 (Wd.packW 7 xs.length), .int .i64 0]) ∧
      Hea w' hb p bm v L M wv' kv' (xs ++ (leadW 7 0 ys.length ++ ys)) (ks ++ kbox 7 (1 + ys.length)) ∧ Stp hb p bm w v wv kv w' v wv' kv' := by
  have hj := Hid.mk (join_any hb p bm v L M wv kv xs ks 7 0 ys a c w h hwf (by simp [hasL]) (by simp [fitB]; omega) hy hn hr hm (by rw [List.length_append]; simpa [leadW] using hfit))
  rw [show (leadW 7 0 ys.length).length = 1 from rfl] at hj
  clear h hwf hl hy hn hr hm hfit
  go_enter Tryd.func8, Tryd.ntmps8
  go_wp2_with (go_at_call 38; refine hj.out.mono ?_; rintro e w1 ⟨wv', kv', rfl, h1, h2⟩)
  go_ret2
  exact ⟨wv', kv', rfl, h1, h2⟩
set_option maxHeartbeats 1000000 in
theorem consH_any (hb p bm : Nat) (v : Value) (L : List ByteArray) (M : Nat) (wv kv : Value) (xs ks : List Int) (x y : Int) (w : World) (h : Hea w hb p bm v L M wv kv xs ks) (hwf : Wf xs ks)
    (hr : ∀ z ∈ [x, y], 0 ≤ z ∧ z < 18446744073709551616) (hm : [x, y].all (mayB L ks) = true) (hfit : xs.length + 2 ≤ M) :
    Calls Tryd.prog 9 #[.pointer (some ⟨hb, 0, none⟩), .int .u64 x, .int .u64 y] w fun e w' => ∃ wv' kv', e = .returned (.tuple #[.int .u64 (Wd.packW 9 xs.length), .int .i64 0]) ∧
      Hea w' hb p bm v L M wv' kv' (xs ++ [x, y]) (ks ++ kbox 9 2) ∧ Stp hb p bm w v wv kv w' v wv' kv' := by
  have hb1 : Below w.heap.size w (w.alloc (.cells #[.int .u64 x, .int .u64 y] 22)) := (Below.refl _ _).alloc (Nat.le_refl _) _
  have hj := Hid.mk (join_any hb p bm v L M wv kv xs ks 9 0 [x, y] (some ⟨w.heap.size, 0, none⟩) 2 _ (h.up hb1) hwf (by simp [hasL]) (by simp [fitB]) (cel_at (t := 22) (new_block _ _)) (fun e => by cases e) hr hm hfit)
  have HB := Hid.mk hb1
  clear h hwf hr hm hfit hb1
  go_enter Tryd.func9, Tryd.ntmps9
  go_wp2_with (go_at_call 38; refine hj.out.mono ?_; rintro e w1 ⟨wv', kv', rfl, h1, h2⟩)
  go_ret2
  exact ⟨wv', kv', rfl, h1, Stp.after HB.out h2⟩
end Go.Proofs.YtaiiicmldogjoaaDoor
