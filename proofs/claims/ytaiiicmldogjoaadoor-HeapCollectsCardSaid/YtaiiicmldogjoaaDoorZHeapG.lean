/-
  A term is laid behind all words.
-/
import Derived.Test.YtaiiicmldogjoaaDoorZHeapF
import Derived.Laws.OwnMore
namespace Go.Proofs.YtaiiicmldogjoaaDoor
open Go.RowKit Go.Deep Go.Maps Go.WideShapes

theorem made_zeros (m : Nat) (hm : m ≤ 1000000) (w : World) : ∃ w', (Instr.makeSlice 25 (.int .i64 (m : Int)) (.int .i64 (m : Int))).run Tryd.prog w = .ok (.slice (some ⟨w.heap.size, 0, none⟩) m m) w' ∧ Wds w' (.slice (some ⟨w.heap.size, 0, none⟩) m m) (List.replicate m 0) ∧ Below w.heap.size w w' := by
  have hi := wordInfo
  cases hq : Tryd.prog.info? 22 with
  | none => rw [hq] at hi; cases hi
  | some i =>
    rw [hq] at hi
    simp only [Option.map_some, Option.some.injEq, Prod.mk.injEq] at hi
    obtain ⟨hz, hs, hb⟩ := hi
    obtain ⟨w', h1, h2, h3⟩ := run_make_full (P := Tryd.prog) w 0 25 22 i _ 1 Tryd.underlying25 hq hz hs .i64 .i64 m (by rw [hb]; omega) (by unfold maxLen; omega) (Nat.zero_le _)
    refine ⟨w', h1, ?_, (Below.refl _ _).grown h3 (Nat.le_refl _) (fun k hk => by cases hk)⟩
    have e : (madeCells (Value.int .u64 0).cells (m * 1)).toList = (List.replicate m (0 : Int)).map (.int .u64) := by
      apply List.ext_getElem?
      intro j
      by_cases hj : j < m
      · simp [madeCells, Value.cells, hj, Nat.mod_one]
      · simp [madeCells, Value.cells, hj]
    rw [e] at h2
    unfold Wds
    rw [List.length_replicate]
    exact h2
theorem set_at (A K Z : List Int) (m i : Nat) (x : Int) (hi : i < m) (hK : K.length = i) : (A ++ K ++ List.replicate (m - i) 0 ++ Z).set (A.length + i) x = A ++ (K ++ [x]) ++ List.replicate (m - (i + 1)) 0 ++ Z := by
  obtain ⟨d, hd⟩ : ∃ d, m - i = d + 1 := ⟨m - i - 1, by omega⟩
  rw [hd, show m - (i + 1) = d by omega, List.replicate_succ]
  have e : A.length + i = (A ++ K).length := by rw [List.length_append, hK]
  rw [e, List.append_assoc (A ++ K), List.set_append_right _ _ (Nat.le_refl _), Nat.sub_self]
  simp
theorem Stp.own_old {hb p bm : Nat} {w w' : World} {v wv kv v' wv' kv' : Value} (h : Stp hb p bm w v wv kv w' v' wv' kv') {b : Nat} (hb' : b < w.heap.size) (hn : ¬ HOwn hb p bm v wv kv b) : ¬ HOwn hb p bm v' wv' kv' b := fun hk => (h.own b hk).elim hn fun hh => by omega
theorem kdss_take : ∀ (l : List Tm) (i : Nat) (hi : i < l.length), kdss (l.take (i + 1)) = kdss (l.take i) ++ l[i].kds
  | t :: r, 0, hi => by simp [kdss_cons, kdss_nil]
  | t :: r, i + 1, hi => by
    have h := kdss_take r i (by simpa using hi)
    rw [List.take_succ_cons, kdss_cons, h, List.take_succ_cons, kdss_cons]
    simp

set_option maxHeartbeats 8000000 in
set_option maxRecDepth 100000 in
theorem layH_of (L : List ByteArray) (T : Tm) : T.fits = true → T.known L → ∀ (S : Nat → Prop) (tv : Value) (w : World) (hb p bm : Nat) (v : Value) (M : Nat) (wv kv : Value) (xs ks : List Int), Hea w hb p bm v L M wv kv xs ks → Lies w S T tv →
    (∀ b, S b → b < w.heap.size ∧ ¬ HOwn hb p bm v wv kv b) → xs.length + (T.laid L xs.length).length ≤ M →
    Calls Tryd.prog 35 #[.pointer (some ⟨hb, 0, none⟩), tv] w fun e w' => ∃ wv' kv', e = .returned (.int .u64 (T.own L xs.length)) ∧ Hea w' hb p bm v L M wv' kv' (xs ++ T.laid L xs.length) (ks ++ T.kds) ∧ Stp hb p bm w v wv kv w' v wv' kv' := by
  induction T using Tm.induct with
  | h k n s l ih0 =>
    intro hf hkn S tv w hb p bm v M wv kv xs ks h hT hS hsz
    have ih := Hid.mk ih0
    clear ih0
    obtain ⟨a, cap, rfl, hsm, hl⟩ := hT.out
    rw [fits_mk, Bool.and_eq_true] at hf
    rw [known_mk] at hkn
    obtain ⟨W0, hW0⟩ : ∃ W0, w.alloc (.cells #[.int .i64 k, .int .i64 n, .string s, .slice a l.length cap] 42) = W0 := ⟨_, rfl⟩
    have hb0 : Below w.heap.size w W0 := by rw [← hW0]; exact (Below.refl _ _).alloc (Nat.le_refl _) _
    have hbx : W0.heap[w.heap.size]? = some (.cells #[.int .i64 k, .int .i64 n, .string s, .slice a l.length cap] 42) := by rw [← hW0]; exact new_block _ _
    obtain ⟨⟨t0, t1, t2, t3⟩, _⟩ := kept4 hbx (Below.refl _ _)
    have hH := h.up hb0
    have hback := Hid.mk (fun (w' : World) (wv' kv' : Value) (h' : Stp hb p bm W0 v wv kv w' v wv' kv') => (Stp.after hb0 h' : Stp hb p bm w v wv kv w' v wv' kv'))
    have c1 := hH.c1
    have hG := h.tab.good
    by_cases h2 : k = 2
    · subst h2
      have hl0 := fit_noL hf.1 rfl
      obtain rfl : l = [] := List.eq_nil_of_length_eq_zero hl0
      rw [List.length_nil] at hW0
      obtain ⟨i, hi⟩ := hkn.1 rfl
      have hi2 : i < L.length := by obtain ⟨h', _⟩ := pos_some hi; exact h'
      have e1 : (Tm.mk 2 n s []).laid L xs.length = [] := by rw [laid_mk, kids_nil]; rfl
      have e2 : (Tm.mk 2 n s []).kds = [] := by rw [kds_mk, kdss_nil]; rfl
      have e3 : (Tm.mk 2 n s []).own L xs.length = Wd.packW 2 i := by rw [own_mk, numF, if_pos rfl, posI, hi]
      rw [e1, e2, e3, List.append_nil, List.append_nil]
      have hs : s.size ≤ 64 := by have := hf.1; simp only [fitB, decide_eq_true_eq] at this; omega
      have hfi := fun W (hW : Tab W p bm v L) => findT_any p bm v L s W hW (by unfold maxLen; omega)
      rw [hi] at hfi
      have HF := Hid.mk (fun W (hW : Tab W p bm v L) => (hfi W hW).mono fun e w' ⟨he, hw⟩ => (⟨he, by subst hw; exact Below.refl _ _⟩ : e = Ending.returned (.tuple #[.int .i64 ((some i).getD 0 : Nat), .bool (some i).isSome]) ∧ Below W.heap.size W w'))
      have HH := Hid.mk hH
      have hpk := Hid.mk (fun W ht => packH_any 2 i W ht (by have := hG.few; omega) (by have := hG.few; omega) (by omega) (by omega))
      clear hfi h hT hS hsz hsm hl hbx ih hkn hi hi2 e1 e2 e3 hs hG hf hl0
      go_enter Tryd.func35, Tryd.ntmps35
      go_upto_region 1 with fail
      try rw [hW0]
      clear hW0
      go_upto_region 3 with fail
      refine region_up (W := W0) (by kernel_rfl) (by kernel_rfl) (Up.refl _) ?_
      refine quiet_value (v := .pointer (some ⟨hb, 0, none⟩)) rfl (fun _ _ => rfl) ?_
      simp only [Act.put, List.setIfInBounds_toArray, List.set_cons_zero, List.set_cons_succ]
      refine quiet_value (v := .pointer (some ⟨hb, 0, none⟩)) rfl (fun _ _ => (by go_simp)) ?_
      simp only [Act.put, List.setIfInBounds_toArray, List.set_cons_zero, List.set_cons_succ]
      refine quiet_value (v := .pointer (some ⟨hb, 1, none⟩)) rfl (fun _ _ => (by go_simp)) ?_
      simp only [Act.put, List.setIfInBounds_toArray, List.set_cons_zero, List.set_cons_succ]
      refine quiet_value (v := .pointer (some ⟨p, 0, none⟩)) rfl (fun W h => (by have u0 := cell_below h.out _ _ _ c1; go_simp)) ?_
      simp only [Act.put, List.setIfInBounds_toArray, List.set_cons_zero, List.set_cons_succ]
      refine quiet_value (v := .pointer (some ⟨w.heap.size, 2, none⟩)) rfl (fun _ _ => (by go_simp)) ?_
      simp only [Act.put, List.setIfInBounds_toArray, List.set_cons_zero, List.set_cons_succ]
      refine quiet_value (v := .string s) rfl (fun W h => (by have u0 := cell_below h.out _ _ _ t2; go_simp)) ?_
      simp only [Act.put, List.setIfInBounds_toArray, List.set_cons_zero, List.set_cons_succ]
      refine quiet_call (v := .tuple #[.int .i64 i, .bool true]) rfl (fun W => (by go_simp)) (fun W h => (HF.out W (HH.out.up h.out).tab).mono fun e w' ⟨he, hb⟩ => ⟨he, h.call hb⟩) ?_
      simp only [Act.put, List.setIfInBounds_toArray, List.set_cons_zero, List.set_cons_succ]
      refine quiet_value (v := .tuple #[.int .i64 i, .bool true]) rfl (fun _ _ => rfl) ?_
      simp only [Act.put, List.setIfInBounds_toArray, List.set_cons_zero, List.set_cons_succ]
      refine quiet_value (v := .int .i64 i) rfl (fun _ _ => (by go_simp)) ?_
      simp only [Act.put, List.setIfInBounds_toArray, List.set_cons_zero, List.set_cons_succ]
      refine quiet_value (v := .bool true) rfl (fun _ _ => (by go_simp)) ?_
      simp only [Act.put, List.setIfInBounds_toArray, List.set_cons_zero, List.set_cons_succ]
      refine quiet_value (v := .int .i64 i) rfl (fun _ _ => rfl) ?_
      simp only [Act.put, List.setIfInBounds_toArray, List.set_cons_zero, List.set_cons_succ]
      refine quiet_value (v := .bool true) rfl (fun _ _ => rfl) ?_
      simp only [Act.put, List.setIfInBounds_toArray, List.set_cons_zero, List.set_cons_succ]
      refine quiet_nil ?_
      intro w1 hw1
      have hb1 := hw1.out
      have t0 := cell_below hb1 _ _ _ t0
      have HB1 := Hid.mk hb1
      clear hw1 hb1
      go_wp2_with (go_at_call 45; refine (hpk.out _ (HH.out.up HB1.out).wt).mono ?_; rintro e w2 ⟨rfl, hb2⟩)
      go_ret
      exact ⟨wv, kv, rfl, HH.out.up (HB1.out.trans (hb2.mono HB1.out.size)), hback.out _ _ _ (Stp.up (HB1.out.trans (hb2.mono HB1.out.size)))⟩
    · by_cases hk : hasL k = true
      · have hfl := fit_len hk hf.1
        have hk3 := (hasL_iff k).1 hk
        have eo : (Tm.mk k n s l).own L xs.length = Wd.packW k xs.length := by rw [own_mk, numF, if_neg h2, if_pos hk]
        obtain ⟨m, hm⟩ : ∃ m, l.length = m := ⟨_, rfl⟩
        obtain ⟨ld, hld⟩ : ∃ ld, leadW k n l.length = ld := ⟨_, rfl⟩
        obtain ⟨q, hq⟩ : ∃ q, xs.length + ld.length + m = q := ⟨_, rfl⟩
        have el : (Tm.mk k n s l).laid L xs.length = ld ++ (kids L l q).1 ++ (kids L l q).2 := by rw [laid_mk, hld, hm, hq]
        have ekd : (Tm.mk k n s l).kds = kbox k (ld.length + m) ++ kdss l := by rw [kds_mk, if_pos hk, hld, hm]
        rw [el] at hsz
        rw [eo, el, ekd]
        rw [hm] at hld hfl
        rw [hld] at hfl
        have hkl := kids_length L l q
        simp only [List.length_append, hkl, hm] at hsz
        have hm1 := h.m1
        have hzl : (ld ++ List.replicate m (0 : Int)).length = ld.length + m := by rw [List.length_append, List.length_replicate]
        have hfit : fitB k n 0 (List.replicate m (0 : Int)).length = true := by rw [List.length_replicate, ← hm, ← hfl.2.2.1]; exact hf.1
        have hbo : ∀ W, WordTab W → ∀ (a' : Option Addr) (c' : Nat), Cel W (List.replicate m 0) a' → (a' = none → c' = 0) → Calls Tryd.prog 59 #[.int .i64 k, .int .i64 n, .slice a' m c'] W fun e w' => ∃ a6 c6, e = .returned (.slice a6 (ld.length + m) c6) ∧ Cel w' (ld ++ List.replicate m 0) a6 ∧ (a6 = none → c6 = 0) ∧ Below W.heap.size W w' := fun W hW a' c' hc hn => by
          have := boxOf_any k n (List.replicate m 0) a' c' W hW hk hfit hc hn
          rw [List.length_replicate, hld] at this
          refine this.mono fun e w' ⟨v', he, h1, _, h3⟩ => ?_
          obtain ⟨a6, c6, rfl, h4, h5⟩ := h1.cel0
          rw [hzl] at he
          exact ⟨a6, c6, he, h4, h5, h3⟩
        have had : ∀ W (hb' : Below W0.heap.size W0 W) (a' : Option Addr) (c' : Nat), Cel W (ld ++ List.replicate m 0) a' → (a' = none → c' = 0) → Calls Tryd.prog 46 #[.pointer (some ⟨hb, 3, none⟩), .int .i64 k, .slice a' (ld.length + m) c'] W fun e w' => ∃ wv' kv', e = .returned (.int .u64 (Wd.packW k xs.length)) ∧
            Hea w' hb p bm v L M wv' kv' (xs ++ (ld ++ List.replicate m 0)) (ks ++ kbox k (ld.length + m)) ∧ Stp hb p bm W0 v wv kv w' v wv' kv' := fun W hb' a' c' hc' hn' => by
          have := addP_any hb 3 k (ld ++ List.replicate m 0) a' c' W wv kv xs ks (hH.up hb').pil hH.len hc' hn' (by rw [hzl]; omega) hk (by rw [hzl]; omega) (hH.up hb').wt (fun hq' => hH.gw (Or.inr hq'))
          rw [hzl] at this
          refine this.mono fun e w' ⟨wv', kv', he, hp, hs⟩ => ?_
          obtain ⟨g1, g2⟩ := (hH.up hb').piled hp hs (by rw [List.length_append, List.length_append, kbox_length (by omega), hH.len, hzl]) (by rw [List.length_append, hzl]; omega)
          exact ⟨wv', kv', he, g1, Stp.after hb' g2⟩
        obtain ⟨OW, hOW⟩ : ∃ OW, HOwn hb p bm v wv kv = OW := ⟨_, rfl⟩
        have nbx : ¬ OW w.heap.size := fun hk' => by rw [← hOW] at hk'; have := h.own_lt hk'; omega
        have nhb : True := trivial
        obtain ⟨w5, hr5, hZ5, hB5⟩ := made_zeros m (by omega) W0.drew
        have HBO := Hid.mk hbo
        have HAD := Hid.mk had
        have HH := Hid.mk hH
        have HZ5 := Hid.mk hZ5
        have HB5 := Hid.mk ((Up.refl W0).drew.call hB5)
        have HSZ := Hid.mk hsz
        have HM1 := Hid.mk hm1
        have HLD := Hid.mk hld
        have HQ := Hid.mk hq
        have HKL := Hid.mk hkl
        have HFL := Hid.mk hfl
        have HFS := Hid.mk hf.2
        have HKN := Hid.mk hkn.2
        have HM := Hid.mk hm
        have HS := Hid.mk (fun b (hb' : S b) => (⟨Nat.lt_of_lt_of_le (hS b hb').1 hb0.size, (hS b hb').2⟩ : b < W0.heap.size ∧ ¬ HOwn hb p bm v wv kv b))
        have HL := Hid.mk (hl.move (fun _ h => h) (fun b o u hb hc => cell_below hb0 _ _ _ hc) : Lst W0 S l a cap)
        have HOW := Hid.mk hOW
        have HBX := Hid.mk hbx
        rw [hm] at hW0 t3 ⊢
        clear hbo had hZ5 hB5 hsz hm1 hld hq hkl hfl hf hkn hS hl hbx h hT hH hsm hOW eo el ekd hfit hzl hm hb0 hG
        rcases hk3 with rfl | rfl | rfl
        · go_enter Tryd.func35, Tryd.ntmps35
          go_upto_region 1 with fail
          try rw [hW0]
          clear hW0
          go_upto_region 8 with fail
          refine wp_region_held (S := Only OW W0) (by kernel_rfl) ?_
          refine chain_take (i := 0) (d := 34) (v := .pointer (some ⟨hb, 0, none⟩)) rfl rfl (by kernel_rfl) (by kernel_rfl) (by kernel_rfl) rfl (fun _ _ => rfl) (fun _ _ _ h => h) (Only.refl _ W0).drew ?_
          simp only [Act.put, List.setIfInBounds_toArray, List.set_cons_zero, List.set_cons_succ]
          refine chain_take (i := 1) (d := 35) (v := .pointer (some ⟨hb, 0, none⟩)) rfl rfl (by kernel_rfl) (by kernel_rfl) (by kernel_rfl) rfl (fun _ _ => (by go_simp)) (fun _ _ _ h => h) (Only.refl _ W0).drew ?_
          simp only [Act.put, List.setIfInBounds_toArray, List.set_cons_zero, List.set_cons_succ]
          refine chain_take (i := 2) (d := 36) (v := .pointer (some ⟨hb, 3, none⟩)) rfl rfl (by kernel_rfl) (by kernel_rfl) (by kernel_rfl) rfl (fun _ _ => (by go_simp)) (fun _ _ _ h => h) (Only.refl _ W0).drew ?_
          simp only [Act.put, List.setIfInBounds_toArray, List.set_cons_zero, List.set_cons_succ]
          refine chain_take (i := 3) (d := 37) (v := .pointer (some ⟨w.heap.size, 0, none⟩)) rfl rfl (by kernel_rfl) (by kernel_rfl) (by kernel_rfl) rfl (fun _ _ => (by go_simp)) (fun _ _ _ h => h) (Only.refl _ W0).drew ?_
          simp only [Act.put, List.setIfInBounds_toArray, List.set_cons_zero, List.set_cons_succ]
          refine chain_take (i := 4) (d := 38) (v := .int .i64 5) rfl rfl (by kernel_rfl) (by kernel_rfl) (by kernel_rfl) rfl (fun W h => (by have u0 := Only.cellS h nbx t0; go_simp)) (fun _ _ _ h => h) (Only.refl _ W0).drew ?_
          simp only [Act.put, List.setIfInBounds_toArray, List.set_cons_zero, List.set_cons_succ]
          refine chain_take (i := 5) (d := 39) (v := .pointer (some ⟨w.heap.size, 0, none⟩)) rfl rfl (by kernel_rfl) (by kernel_rfl) (by kernel_rfl) rfl (fun _ _ => (by go_simp)) (fun _ _ _ h => h) (Only.refl _ W0).drew ?_
          simp only [Act.put, List.setIfInBounds_toArray, List.set_cons_zero, List.set_cons_succ]
          refine chain_take (i := 6) (d := 40) (v := .int .i64 5) rfl rfl (by kernel_rfl) (by kernel_rfl) (by kernel_rfl) rfl (fun W h => (by have u0 := Only.cellS h nbx t0; go_simp)) (fun _ _ _ h => h) (Only.refl _ W0).drew ?_
          simp only [Act.put, List.setIfInBounds_toArray, List.set_cons_zero, List.set_cons_succ]
          refine chain_take (i := 7) (d := 41) (v := .pointer (some ⟨w.heap.size, 1, none⟩)) rfl rfl (by kernel_rfl) (by kernel_rfl) (by kernel_rfl) rfl (fun _ _ => (by go_simp)) (fun _ _ _ h => h) (Only.refl _ W0).drew ?_
          simp only [Act.put, List.setIfInBounds_toArray, List.set_cons_zero, List.set_cons_succ]
          refine chain_take (i := 8) (d := 42) (v := .int .i64 n) rfl rfl (by kernel_rfl) (by kernel_rfl) (by kernel_rfl) rfl (fun W h => (by have u0 := Only.cellS h nbx t1; go_simp)) (fun _ _ _ h => h) (Only.refl _ W0).drew ?_
          simp only [Act.put, List.setIfInBounds_toArray, List.set_cons_zero, List.set_cons_succ]
          refine chain_take (i := 9) (d := 43) (v := .pointer (some ⟨w.heap.size, 3, none⟩)) rfl rfl (by kernel_rfl) (by kernel_rfl) (by kernel_rfl) rfl (fun _ _ => (by go_simp)) (fun _ _ _ h => h) (Only.refl _ W0).drew ?_
          simp only [Act.put, List.setIfInBounds_toArray, List.set_cons_zero, List.set_cons_succ]
          refine chain_take (i := 10) (d := 44) (v := .slice a m cap) rfl rfl (by kernel_rfl) (by kernel_rfl) (by kernel_rfl) rfl (fun W h => (by have u0 := Only.cellS h nbx t3; go_simp)) (fun _ _ _ h => h) (Only.refl _ W0).drew ?_
          simp only [Act.put, List.setIfInBounds_toArray, List.set_cons_zero, List.set_cons_succ]
          refine chain_take (i := 11) (d := 45) (v := .int .i64 m) rfl rfl (by kernel_rfl) (by kernel_rfl) (by kernel_rfl) rfl (fun _ _ => (by go_simp)) (fun _ _ _ h => h) (Only.refl _ W0).drew ?_
          simp only [Act.put, List.setIfInBounds_toArray, List.set_cons_zero, List.set_cons_succ]
          refine chain_value (i := 12) (d := 46) (v := .slice (some ⟨W0.heap.size, 0, none⟩) m m) (w' := w5) (by kernel_rfl) rfl rfl rfl (by go_simp) (Only.up HB5.out) ?_
          simp only [Act.put, List.setIfInBounds_toArray, List.set_cons_zero, List.set_cons_succ]
          refine chain_call (i := 13) (d := 47) (f := 59) (args := #[.int .i64 5, .int .i64 n, .slice (some ⟨W0.heap.size, 0, none⟩) m m]) (by kernel_rfl) rfl rfl rfl (by go_simp) ?_
          refine (HBO.out w5 (HH.out.up HB5.out).wt _ _ HZ5.out.celA (fun e => by cases e)).mono ?_
          rintro e w6 ⟨a6, c6, rfl, hc6, hn6, hb6⟩
          refine ⟨.slice a6 (ld.length + m) c6, rfl, (Only.up (HB5.out.trans (hb6.mono HB5.out.size))), ?_⟩
          simp only [Act.put, List.setIfInBounds_toArray, List.set_cons_zero, List.set_cons_succ]
          refine chain_call (i := 14) (d := 48) (f := 46) (args := #[.pointer (some ⟨hb, 3, none⟩), .int .i64 5, .slice a6 (ld.length + m) c6]) (by kernel_rfl) rfl rfl rfl (by go_simp) ?_
          refine (HAD.out _ (HB5.out.trans (hb6.mono HB5.out.size)) a6 c6 hc6 hn6).mono ?_
          rintro e w7 ⟨wv7, kv7, rfl, h7, s7⟩
          refine ⟨.int .u64 (Wd.packW 5 xs.length), rfl, (by rw [← HOW.out]; exact s7.only), ?_⟩
          simp only [Act.put, List.setIfInBounds_toArray, List.set_cons_zero, List.set_cons_succ]
          refine chain_take (i := 15) (d := 7) (v := .int .u64 (Wd.packW 5 xs.length)) rfl rfl (by kernel_rfl) (by kernel_rfl) (by kernel_rfl) rfl (fun _ _ => rfl) (fun _ _ _ h => h) ((by rw [← HOW.out]; exact s7.only)) ?_
          simp only [Act.put, List.setIfInBounds_toArray, List.set_cons_zero, List.set_cons_succ]
          refine wpAnyH_done (by kernel_rfl) ?_ _
          have nbx7 : ¬ HOwn hb p bm v wv kv w.heap.size := by rw [HOW.out]; exact nbx
          have t07 := s7.cell nbx7 t0
          have t37 := s7.cell nbx7 t3
          have H7 := Hid.mk h7
          have S7 := Hid.mk s7
          have hc7 := h7.pil.c0
          have hx7 : (xs ++ (ld ++ List.replicate m (0 : Int))).length = q := by rw [List.length_append, List.length_append, List.length_replicate]; have := HQ.out; omega
          obtain ⟨ra7, rc7, rfl⟩ := owns_slice h7.pil.row
          rw [hx7] at hc7
          have hfs : IntKind.i64.wrap ((q : Int) - m) = ((xs.length + ld.length : Nat) : Int) := by have h1 := HQ.out; have h2 := HSZ.out; have h3 := HM1.out; rw [wrap_id (by omega) (by omega)]; omega
          clear h7 s7 hc6 hn6 hb6 t0 t1 t2 t3 hr5 c1
          go_upto_region 9 with fail
          refine region_up (W := w7) (by kernel_rfl) (by kernel_rfl) (Up.refl _) ?_
          refine quiet_value (v := .pointer (some ⟨hb, 0, none⟩)) rfl (fun _ _ => rfl) ?_
          simp only [Act.put, List.setIfInBounds_toArray, List.set_cons_zero, List.set_cons_succ]
          refine quiet_value (v := .pointer (some ⟨hb, 0, none⟩)) rfl (fun _ _ => (by go_simp)) ?_
          simp only [Act.put, List.setIfInBounds_toArray, List.set_cons_zero, List.set_cons_succ]
          refine quiet_value (v := .pointer (some ⟨hb, 3, none⟩)) rfl (fun _ _ => (by go_simp)) ?_
          simp only [Act.put, List.setIfInBounds_toArray, List.set_cons_zero, List.set_cons_succ]
          refine quiet_value (v := .pointer (some ⟨hb, 3, none⟩)) rfl (fun _ _ => (by go_simp)) ?_
          simp only [Act.put, List.setIfInBounds_toArray, List.set_cons_zero, List.set_cons_succ]
          refine quiet_value (v := .slice ra7 q rc7) rfl (fun W h => (by have u0 := cell_below h.out _ _ _ hc7; go_simp)) ?_
          simp only [Act.put, List.setIfInBounds_toArray, List.set_cons_zero, List.set_cons_succ]
          refine quiet_value (v := .int .i64 q) rfl (fun _ _ => (by go_simp)) ?_
          simp only [Act.put, List.setIfInBounds_toArray, List.set_cons_zero, List.set_cons_succ]
          refine quiet_value (v := .pointer (some ⟨w.heap.size, 3, none⟩)) rfl (fun _ _ => (by go_simp)) ?_
          simp only [Act.put, List.setIfInBounds_toArray, List.set_cons_zero, List.set_cons_succ]
          refine quiet_value (v := .slice a m cap) rfl (fun W h => (by have u0 := cell_below h.out _ _ _ t37; go_simp)) ?_
          simp only [Act.put, List.setIfInBounds_toArray, List.set_cons_zero, List.set_cons_succ]
          refine quiet_value (v := .int .i64 m) rfl (fun _ _ => (by go_simp)) ?_
          simp only [Act.put, List.setIfInBounds_toArray, List.set_cons_zero, List.set_cons_succ]
          refine quiet_value (v := .int .i64 ((xs.length + ld.length : Nat) : Int)) rfl (fun _ _ => (by go_simp)) ?_
          simp only [Act.put, List.setIfInBounds_toArray, List.set_cons_zero, List.set_cons_succ]
          refine quiet_value (v := .int .i64 ((xs.length + ld.length : Nat) : Int)) rfl (fun _ _ => rfl) ?_
          simp only [Act.put, List.setIfInBounds_toArray, List.set_cons_zero, List.set_cons_succ]
          refine quiet_nil ?_
          intro w8 hw8
          have HB8 := Hid.mk hw8.out
          have t38 := cell_below hw8.out _ _ _ t37
          have HF := Hid.mk hfs
          obtain ⟨F, hF⟩ : ∃ F, xs.length + ld.length = F := ⟨_, rfl⟩
          rw [hF]
          have HFF := Hid.mk hF
          clear hw8 t37 t07 hc7 hfs hF
          go_wp2
          go_loopw [62] (fun ii wr => ∃ (i : Nat) (wvi kvi : Value) (ys zs : List Int), i ≤ m ∧ ii = .int .i64 i ∧ Hid (Hea wr hb p bm v L M wvi kvi ys zs) ∧ Hid (Stp hb p bm W0 v wv kv wr v wvi kvi) ∧ Hid (ys = (xs ++ ld) ++ (kids L (l.take i) q).1 ++ List.replicate (m - i) 0 ++ (kids L (l.take i) q).2) ∧ Hid (zs = ks ++ (kbox 5 (ld.length + m) ++ kdss (l.take i)))) (fun ii _ => m - (intOf ii).toNat)
          case atStart => exact ⟨0, _, _, _, _, Nat.zero_le _, rfl, Hid.mk (H7.out.up HB8.out), Hid.mk (S7.out.then_ HB8.out), Hid.mk (by rw [List.take_zero, kids_nil]; simp), Hid.mk (by rw [List.take_zero, kdss_nil]; simp)⟩
          case round =>
            obtain ⟨i, wvi, kvi, ys, zs, hi, rfl, hHi, hSi, hYi, hZi⟩ := hrel
            by_cases hlt : i < m
            · have hltl : i < l.length := by rw [HM.out]; exact hlt
              obtain ⟨b, o, ha, hSb, hr⟩ := HL.out.some (by omega)
              subst ha
              obtain ⟨k', n', s', m', a', cap', hTt, c0, c1, c2, c3, hli⟩ := hr.part i hltl
              have nb := (HS.out b hSb).2
              have c0 := hSi.out.cell nb c0
              have c1 := hSi.out.cell nb c1
              have c2 := hSi.out.cell nb c2
              have c3 := hSi.out.cell nb c3
              have hsz1 := HSZ.out
              have hm1 := HM1.out
              have hq1 := HQ.out
              have hff := HFF.out
              have hkl := kids_length L (l.take i) q
              rw [List.length_take, Nat.min_eq_left (by omega)] at hkl
              have hyl : ys.length = q + (kids L (l.take i) q).2.length := by
                have := congrArg List.length hYi.out
                simp only [List.length_append, List.length_replicate, hkl] at this
                omega
              have hkt := kids_take L l q i hltl
              have hkle := kids_le L l q (i + 1)
              rw [hkt] at hkle
              simp only [List.length_append] at hkle
              have hfin : Hid (∀ x, x = l[i].own L ys.length → (ys ++ l[i].laid L ys.length).set (F + i) x = (xs ++ ld) ++ (kids L (l.take (i + 1)) q).1 ++ List.replicate (m - (i + 1)) 0 ++ (kids L (l.take (i + 1)) q).2) := Hid.mk fun x hx => by
                have e1 := set_at (xs ++ ld) (kids L (l.take i) q).1 ((kids L (l.take i) q).2 ++ l[i].laid L ys.length) m i x hlt hkl
                rw [List.length_append, hff] at e1
                rw [hkt, hx, ← hyl] 
                rw [hx] at e1
                rw [← e1, ← List.append_assoc, ← hYi.out]
              have hkd : Hid (zs ++ l[i].kds = ks ++ (kbox 5 (ld.length + m) ++ kdss (l.take (i + 1)))) := Hid.mk (by rw [hZi.out, kdss_take l i hltl]; simp)
              have hwi : IntKind.i64.wrap ((i : Int) + 1) = ((i + 1 : Nat) : Int) := by rw [wrap_id (by omega) (by omega)]; omega
              have hwf : IntKind.i64.wrap ((F : Int) + i) = ((F + i : Nat) : Int) := by rw [wrap_id (by omega) (by omega)]; omega
              obtain ⟨W6, hW6⟩ : ∃ W6, wr.alloc (.cells #[.int .i64 k', .int .i64 n', .string s', .slice a' m'.length cap'] 42) = W6 := ⟨_, rfl⟩
              have hb6 : Below wr.heap.size wr W6 := by rw [← hW6]; exact (Below.refl _ _).alloc (Nat.le_refl _) _
              have hbx6 : W6.heap[wr.heap.size]? = some (.cells #[.int .i64 k', .int .i64 n', .string s', .slice a' m'.length cap'] 42) := by rw [← hW6]; exact new_block _ _
              obtain ⟨⟨d0, d1, d2, d3⟩, _⟩ := kept4 hbx6 (Below.refl _ _)
              have hli6 : Lies W6 S l[i] (.agg #[.int .i64 k', .int .i64 n', .string s', .slice a' m'.length cap']) := hli.move (fun _ h => h) (fun b o u hb' hc => cell_below hb6 _ _ _ (hSi.out.cell (HS.out b hb').2 hc)) _ _
              have hS6 : ∀ b, S b → b < W6.heap.size ∧ ¬ HOwn hb p bm v wvi kvi b := fun b hb' => ⟨Nat.lt_of_lt_of_le (HS.out b hb').1 (Nat.le_trans hSi.out.only.size hb6.size), hSi.out.own_old (HS.out b hb').1 (HS.out b hb').2⟩
              have hc := ih.out l[i] (List.getElem_mem hltl) (fitss_all HFS.out _ (List.getElem_mem hltl)) (knowns_all HKN.out _ (List.getElem_mem hltl)) S _ W6 hb p bm v M wvi kvi ys zs (hHi.out.up hb6) hli6 hS6 (by rw [hyl]; omega)
              have hlen : F + i < (ys ++ l[i].laid L ys.length).length := by rw [List.length_append]; omega
              generalize l[i] = T at *
              have HC := Hid.mk hc
              have HLT := Hid.mk hlt
              have HLEN := Hid.mk hlen
              have HS6 := Hid.mk (hSi.out.then_ hb6)
              have hil : (i : Int) < m := by omega
              clear hc hkt hkle hli hli6 hS6 hTt hr hb6 hbx6 hkl hyl hlen hff hq1 hm1 hsz1
              go_upto_region 13 with fail
              try rw [hW6]
              clear hW6
              go_upto_region 14 with (go_at_call 35; refine HC.out.mono ?_; rintro e w9 ⟨wv9, kv9, rfl, h9, s9⟩; have H9 := Hid.mk h9; have S9 := Hid.mk s9; clear h9 s9)
              obtain ⟨x, hx⟩ : ∃ x, T.own L ys.length = x := ⟨_, rfl⟩
              have hfx := hfin.out x hx.symm
              rw [hx]
              obtain ⟨N, hN⟩ : ∃ N, (ys ++ T.laid L ys.length).length = N := ⟨_, rfl⟩
              have hlenN := HLEN.out
              rw [hN] at hlenN
              obtain ⟨g9, rc9, hwv9, _, hcc9⟩ := H9.out.pil.row.slice (by omega)
              rw [hN] at hwv9
              subst hwv9
              obtain ⟨hpw, hps⟩ := H9.out.pil.wset (F + i) x
              obtain ⟨h10, s10⟩ := H9.out.piled hpw hps (by rw [List.length_set]; exact H9.out.len) (by rw [List.length_set]; exact H9.out.m0)
              rw [hfx, hkd.out] at h10
              have hRel : Hid (Hea (w9.setCell ⟨g9, F + i, none⟩ (.int .u64 x)) hb p bm v L M (.slice (some ⟨g9, 0, none⟩) N rc9) kv9 ((xs ++ ld) ++ (kids L (l.take (i + 1)) q).1 ++ List.replicate (m - (i + 1)) 0 ++ (kids L (l.take (i + 1)) q).2) (ks ++ (kbox 5 (ld.length + m) ++ kdss (l.take (i + 1)))) ∧ Stp hb p bm W0 v wv kv (w9.setCell ⟨g9, F + i, none⟩ (.int .u64 x)) v (.slice (some ⟨g9, 0, none⟩) N rc9) kv9) := Hid.mk ⟨h10, (HS6.out.trans S9.out).trans s10⟩
              have hw9 := H9.out.pil.c0
              have hcell := hcc9 (F + i) (by rw [hN]; exact hlenN)
              obtain ⟨u9, hu9⟩ : ∃ u9, (ys ++ T.laid L ys.length)[F + i]'(by rw [hN]; exact hlenN) = u9 := ⟨_, rfl⟩
              rw [hu9] at hcell
              have hfroz := H9.out.pil.row.frozen (F + i)
              have hiN : ((F + i : Nat) : Int) < N := by omega
              clear h10 s10 hpw hps hfx hx hN hu9 hcc9 hfin hkd HLEN
              go_wp2
              go_roundw
              case rel => exact ⟨i + 1, _, _, _, _, HLT.out, by first | rfl | go_num, Hid.mk hRel.out.1, Hid.mk hRel.out.2, Hid.mk rfl, Hid.mk rfl⟩
              case measure =>
                have := HLT.out
                simp [intOf]
                omega
            · have he : i = m := by omega
              subst he
              have hys := hYi.out
              have hzs := hZi.out
              rw [← HM.out, List.take_length, Nat.sub_self, List.replicate_zero, List.append_nil] at hys
              rw [← HM.out, List.take_length] at hzs
              have hFin : Hid (Hea wr hb p bm v L M wvi kvi (xs ++ (ld ++ (kids L l q).1 ++ (kids L l q).2)) (ks ++ (kbox 5 (ld.length + l.length) ++ kdss l))) := Hid.mk (by
                have := hHi.out
                rw [hys, hzs] at this
                simpa only [List.append_assoc] using this)
              clear hys hzs
              go_wp2
              go_ret
              exact ⟨wvi, kvi, rfl, by have := hFin.out; rw [HM.out] at this; exact this, hback.out _ _ _ hSi.out⟩
        · go_enter Tryd.func35, Tryd.ntmps35
          go_upto_region 1 with fail
          try rw [hW0]
          clear hW0
          go_upto_region 8 with fail
          refine wp_region_held (S := Only OW W0) (by kernel_rfl) ?_
          refine chain_take (i := 0) (d := 34) (v := .pointer (some ⟨hb, 0, none⟩)) rfl rfl (by kernel_rfl) (by kernel_rfl) (by kernel_rfl) rfl (fun _ _ => rfl) (fun _ _ _ h => h) (Only.refl _ W0).drew ?_
          simp only [Act.put, List.setIfInBounds_toArray, List.set_cons_zero, List.set_cons_succ]
          refine chain_take (i := 1) (d := 35) (v := .pointer (some ⟨hb, 0, none⟩)) rfl rfl (by kernel_rfl) (by kernel_rfl) (by kernel_rfl) rfl (fun _ _ => (by go_simp)) (fun _ _ _ h => h) (Only.refl _ W0).drew ?_
          simp only [Act.put, List.setIfInBounds_toArray, List.set_cons_zero, List.set_cons_succ]
          refine chain_take (i := 2) (d := 36) (v := .pointer (some ⟨hb, 3, none⟩)) rfl rfl (by kernel_rfl) (by kernel_rfl) (by kernel_rfl) rfl (fun _ _ => (by go_simp)) (fun _ _ _ h => h) (Only.refl _ W0).drew ?_
          simp only [Act.put, List.setIfInBounds_toArray, List.set_cons_zero, List.set_cons_succ]
          refine chain_take (i := 3) (d := 37) (v := .pointer (some ⟨w.heap.size, 0, none⟩)) rfl rfl (by kernel_rfl) (by kernel_rfl) (by kernel_rfl) rfl (fun _ _ => (by go_simp)) (fun _ _ _ h => h) (Only.refl _ W0).drew ?_
          simp only [Act.put, List.setIfInBounds_toArray, List.set_cons_zero, List.set_cons_succ]
          refine chain_take (i := 4) (d := 38) (v := .int .i64 7) rfl rfl (by kernel_rfl) (by kernel_rfl) (by kernel_rfl) rfl (fun W h => (by have u0 := Only.cellS h nbx t0; go_simp)) (fun _ _ _ h => h) (Only.refl _ W0).drew ?_
          simp only [Act.put, List.setIfInBounds_toArray, List.set_cons_zero, List.set_cons_succ]
          refine chain_take (i := 5) (d := 39) (v := .pointer (some ⟨w.heap.size, 0, none⟩)) rfl rfl (by kernel_rfl) (by kernel_rfl) (by kernel_rfl) rfl (fun _ _ => (by go_simp)) (fun _ _ _ h => h) (Only.refl _ W0).drew ?_
          simp only [Act.put, List.setIfInBounds_toArray, List.set_cons_zero, List.set_cons_succ]
          refine chain_take (i := 6) (d := 40) (v := .int .i64 7) rfl rfl (by kernel_rfl) (by kernel_rfl) (by kernel_rfl) rfl (fun W h => (by have u0 := Only.cellS h nbx t0; go_simp)) (fun _ _ _ h => h) (Only.refl _ W0).drew ?_
          simp only [Act.put, List.setIfInBounds_toArray, List.set_cons_zero, List.set_cons_succ]
          refine chain_take (i := 7) (d := 41) (v := .pointer (some ⟨w.heap.size, 1, none⟩)) rfl rfl (by kernel_rfl) (by kernel_rfl) (by kernel_rfl) rfl (fun _ _ => (by go_simp)) (fun _ _ _ h => h) (Only.refl _ W0).drew ?_
          simp only [Act.put, List.setIfInBounds_toArray, List.set_cons_zero, List.set_cons_succ]
          refine chain_take (i := 8) (d := 42) (v := .int .i64 n) rfl rfl (by kernel_rfl) (by kernel_rfl) (by kernel_rfl) rfl (fun W h => (by have u0 := Only.cellS h nbx t1; go_simp)) (fun _ _ _ h => h) (Only.refl _ W0).drew ?_
          simp only [Act.put, List.setIfInBounds_toArray, List.set_cons_zero, List.set_cons_succ]
          refine chain_take (i := 9) (d := 43) (v := .pointer (some ⟨w.heap.size, 3, none⟩)) rfl rfl (by kernel_rfl) (by kernel_rfl) (by kernel_rfl) rfl (fun _ _ => (by go_simp)) (fun _ _ _ h => h) (Only.refl _ W0).drew ?_
          simp only [Act.put, List.setIfInBounds_toArray, List.set_cons_zero, List.set_cons_succ]
          refine chain_take (i := 10) (d := 44) (v := .slice a m cap) rfl rfl (by kernel_rfl) (by kernel_rfl) (by kernel_rfl) rfl (fun W h => (by have u0 := Only.cellS h nbx t3; go_simp)) (fun _ _ _ h => h) (Only.refl _ W0).drew ?_
          simp only [Act.put, List.setIfInBounds_toArray, List.set_cons_zero, List.set_cons_succ]
          refine chain_take (i := 11) (d := 45) (v := .int .i64 m) rfl rfl (by kernel_rfl) (by kernel_rfl) (by kernel_rfl) rfl (fun _ _ => (by go_simp)) (fun _ _ _ h => h) (Only.refl _ W0).drew ?_
          simp only [Act.put, List.setIfInBounds_toArray, List.set_cons_zero, List.set_cons_succ]
          refine chain_value (i := 12) (d := 46) (v := .slice (some ⟨W0.heap.size, 0, none⟩) m m) (w' := w5) (by kernel_rfl) rfl rfl rfl (by go_simp) (Only.up HB5.out) ?_
          simp only [Act.put, List.setIfInBounds_toArray, List.set_cons_zero, List.set_cons_succ]
          refine chain_call (i := 13) (d := 47) (f := 59) (args := #[.int .i64 7, .int .i64 n, .slice (some ⟨W0.heap.size, 0, none⟩) m m]) (by kernel_rfl) rfl rfl rfl (by go_simp) ?_
          refine (HBO.out w5 (HH.out.up HB5.out).wt _ _ HZ5.out.celA (fun e => by cases e)).mono ?_
          rintro e w6 ⟨a6, c6, rfl, hc6, hn6, hb6⟩
          refine ⟨.slice a6 (ld.length + m) c6, rfl, (Only.up (HB5.out.trans (hb6.mono HB5.out.size))), ?_⟩
          simp only [Act.put, List.setIfInBounds_toArray, List.set_cons_zero, List.set_cons_succ]
          refine chain_call (i := 14) (d := 48) (f := 46) (args := #[.pointer (some ⟨hb, 3, none⟩), .int .i64 7, .slice a6 (ld.length + m) c6]) (by kernel_rfl) rfl rfl rfl (by go_simp) ?_
          refine (HAD.out _ (HB5.out.trans (hb6.mono HB5.out.size)) a6 c6 hc6 hn6).mono ?_
          rintro e w7 ⟨wv7, kv7, rfl, h7, s7⟩
          refine ⟨.int .u64 (Wd.packW 7 xs.length), rfl, (by rw [← HOW.out]; exact s7.only), ?_⟩
          simp only [Act.put, List.setIfInBounds_toArray, List.set_cons_zero, List.set_cons_succ]
          refine chain_take (i := 15) (d := 7) (v := .int .u64 (Wd.packW 7 xs.length)) rfl rfl (by kernel_rfl) (by kernel_rfl) (by kernel_rfl) rfl (fun _ _ => rfl) (fun _ _ _ h => h) ((by rw [← HOW.out]; exact s7.only)) ?_
          simp only [Act.put, List.setIfInBounds_toArray, List.set_cons_zero, List.set_cons_succ]
          refine wpAnyH_done (by kernel_rfl) ?_ _
          have nbx7 : ¬ HOwn hb p bm v wv kv w.heap.size := by rw [HOW.out]; exact nbx
          have t07 := s7.cell nbx7 t0
          have t37 := s7.cell nbx7 t3
          have H7 := Hid.mk h7
          have S7 := Hid.mk s7
          have hc7 := h7.pil.c0
          have hx7 : (xs ++ (ld ++ List.replicate m (0 : Int))).length = q := by rw [List.length_append, List.length_append, List.length_replicate]; have := HQ.out; omega
          obtain ⟨ra7, rc7, rfl⟩ := owns_slice h7.pil.row
          rw [hx7] at hc7
          have hfs : IntKind.i64.wrap ((q : Int) - m) = ((xs.length + ld.length : Nat) : Int) := by have h1 := HQ.out; have h2 := HSZ.out; have h3 := HM1.out; rw [wrap_id (by omega) (by omega)]; omega
          clear h7 s7 hc6 hn6 hb6 t0 t1 t2 t3 hr5 c1
          go_upto_region 9 with fail
          refine region_up (W := w7) (by kernel_rfl) (by kernel_rfl) (Up.refl _) ?_
          refine quiet_value (v := .pointer (some ⟨hb, 0, none⟩)) rfl (fun _ _ => rfl) ?_
          simp only [Act.put, List.setIfInBounds_toArray, List.set_cons_zero, List.set_cons_succ]
          refine quiet_value (v := .pointer (some ⟨hb, 0, none⟩)) rfl (fun _ _ => (by go_simp)) ?_
          simp only [Act.put, List.setIfInBounds_toArray, List.set_cons_zero, List.set_cons_succ]
          refine quiet_value (v := .pointer (some ⟨hb, 3, none⟩)) rfl (fun _ _ => (by go_simp)) ?_
          simp only [Act.put, List.setIfInBounds_toArray, List.set_cons_zero, List.set_cons_succ]
          refine quiet_value (v := .pointer (some ⟨hb, 3, none⟩)) rfl (fun _ _ => (by go_simp)) ?_
          simp only [Act.put, List.setIfInBounds_toArray, List.set_cons_zero, List.set_cons_succ]
          refine quiet_value (v := .slice ra7 q rc7) rfl (fun W h => (by have u0 := cell_below h.out _ _ _ hc7; go_simp)) ?_
          simp only [Act.put, List.setIfInBounds_toArray, List.set_cons_zero, List.set_cons_succ]
          refine quiet_value (v := .int .i64 q) rfl (fun _ _ => (by go_simp)) ?_
          simp only [Act.put, List.setIfInBounds_toArray, List.set_cons_zero, List.set_cons_succ]
          refine quiet_value (v := .pointer (some ⟨w.heap.size, 3, none⟩)) rfl (fun _ _ => (by go_simp)) ?_
          simp only [Act.put, List.setIfInBounds_toArray, List.set_cons_zero, List.set_cons_succ]
          refine quiet_value (v := .slice a m cap) rfl (fun W h => (by have u0 := cell_below h.out _ _ _ t37; go_simp)) ?_
          simp only [Act.put, List.setIfInBounds_toArray, List.set_cons_zero, List.set_cons_succ]
          refine quiet_value (v := .int .i64 m) rfl (fun _ _ => (by go_simp)) ?_
          simp only [Act.put, List.setIfInBounds_toArray, List.set_cons_zero, List.set_cons_succ]
          refine quiet_value (v := .int .i64 ((xs.length + ld.length : Nat) : Int)) rfl (fun _ _ => (by go_simp)) ?_
          simp only [Act.put, List.setIfInBounds_toArray, List.set_cons_zero, List.set_cons_succ]
          refine quiet_value (v := .int .i64 ((xs.length + ld.length : Nat) : Int)) rfl (fun _ _ => rfl) ?_
          simp only [Act.put, List.setIfInBounds_toArray, List.set_cons_zero, List.set_cons_succ]
          refine quiet_nil ?_
          intro w8 hw8
          have HB8 := Hid.mk hw8.out
          have t38 := cell_below hw8.out _ _ _ t37
          have HF := Hid.mk hfs
          obtain ⟨F, hF⟩ : ∃ F, xs.length + ld.length = F := ⟨_, rfl⟩
          rw [hF]
          have HFF := Hid.mk hF
          clear hw8 t37 t07 hc7 hfs hF
          go_wp2
          go_loopw [62] (fun ii wr => ∃ (i : Nat) (wvi kvi : Value) (ys zs : List Int), i ≤ m ∧ ii = .int .i64 i ∧ Hid (Hea wr hb p bm v L M wvi kvi ys zs) ∧ Hid (Stp hb p bm W0 v wv kv wr v wvi kvi) ∧ Hid (ys = (xs ++ ld) ++ (kids L (l.take i) q).1 ++ List.replicate (m - i) 0 ++ (kids L (l.take i) q).2) ∧ Hid (zs = ks ++ (kbox 7 (ld.length + m) ++ kdss (l.take i)))) (fun ii _ => m - (intOf ii).toNat)
          case atStart => exact ⟨0, _, _, _, _, Nat.zero_le _, rfl, Hid.mk (H7.out.up HB8.out), Hid.mk (S7.out.then_ HB8.out), Hid.mk (by rw [List.take_zero, kids_nil]; simp), Hid.mk (by rw [List.take_zero, kdss_nil]; simp)⟩
          case round =>
            obtain ⟨i, wvi, kvi, ys, zs, hi, rfl, hHi, hSi, hYi, hZi⟩ := hrel
            by_cases hlt : i < m
            · have hltl : i < l.length := by rw [HM.out]; exact hlt
              obtain ⟨b, o, ha, hSb, hr⟩ := HL.out.some (by omega)
              subst ha
              obtain ⟨k', n', s', m', a', cap', hTt, c0, c1, c2, c3, hli⟩ := hr.part i hltl
              have nb := (HS.out b hSb).2
              have c0 := hSi.out.cell nb c0
              have c1 := hSi.out.cell nb c1
              have c2 := hSi.out.cell nb c2
              have c3 := hSi.out.cell nb c3
              have hsz1 := HSZ.out
              have hm1 := HM1.out
              have hq1 := HQ.out
              have hff := HFF.out
              have hkl := kids_length L (l.take i) q
              rw [List.length_take, Nat.min_eq_left (by omega)] at hkl
              have hyl : ys.length = q + (kids L (l.take i) q).2.length := by
                have := congrArg List.length hYi.out
                simp only [List.length_append, List.length_replicate, hkl] at this
                omega
              have hkt := kids_take L l q i hltl
              have hkle := kids_le L l q (i + 1)
              rw [hkt] at hkle
              simp only [List.length_append] at hkle
              have hfin : Hid (∀ x, x = l[i].own L ys.length → (ys ++ l[i].laid L ys.length).set (F + i) x = (xs ++ ld) ++ (kids L (l.take (i + 1)) q).1 ++ List.replicate (m - (i + 1)) 0 ++ (kids L (l.take (i + 1)) q).2) := Hid.mk fun x hx => by
                have e1 := set_at (xs ++ ld) (kids L (l.take i) q).1 ((kids L (l.take i) q).2 ++ l[i].laid L ys.length) m i x hlt hkl
                rw [List.length_append, hff] at e1
                rw [hkt, hx, ← hyl] 
                rw [hx] at e1
                rw [← e1, ← List.append_assoc, ← hYi.out]
              have hkd : Hid (zs ++ l[i].kds = ks ++ (kbox 7 (ld.length + m) ++ kdss (l.take (i + 1)))) := Hid.mk (by rw [hZi.out, kdss_take l i hltl]; simp)
              have hwi : IntKind.i64.wrap ((i : Int) + 1) = ((i + 1 : Nat) : Int) := by rw [wrap_id (by omega) (by omega)]; omega
              have hwf : IntKind.i64.wrap ((F : Int) + i) = ((F + i : Nat) : Int) := by rw [wrap_id (by omega) (by omega)]; omega
              obtain ⟨W6, hW6⟩ : ∃ W6, wr.alloc (.cells #[.int .i64 k', .int .i64 n', .string s', .slice a' m'.length cap'] 42) = W6 := ⟨_, rfl⟩
              have hb6 : Below wr.heap.size wr W6 := by rw [← hW6]; exact (Below.refl _ _).alloc (Nat.le_refl _) _
              have hbx6 : W6.heap[wr.heap.size]? = some (.cells #[.int .i64 k', .int .i64 n', .string s', .slice a' m'.length cap'] 42) := by rw [← hW6]; exact new_block _ _
              obtain ⟨⟨d0, d1, d2, d3⟩, _⟩ := kept4 hbx6 (Below.refl _ _)
              have hli6 : Lies W6 S l[i] (.agg #[.int .i64 k', .int .i64 n', .string s', .slice a' m'.length cap']) := hli.move (fun _ h => h) (fun b o u hb' hc => cell_below hb6 _ _ _ (hSi.out.cell (HS.out b hb').2 hc)) _ _
              have hS6 : ∀ b, S b → b < W6.heap.size ∧ ¬ HOwn hb p bm v wvi kvi b := fun b hb' => ⟨Nat.lt_of_lt_of_le (HS.out b hb').1 (Nat.le_trans hSi.out.only.size hb6.size), hSi.out.own_old (HS.out b hb').1 (HS.out b hb').2⟩
              have hc := ih.out l[i] (List.getElem_mem hltl) (fitss_all HFS.out _ (List.getElem_mem hltl)) (knowns_all HKN.out _ (List.getElem_mem hltl)) S _ W6 hb p bm v M wvi kvi ys zs (hHi.out.up hb6) hli6 hS6 (by rw [hyl]; omega)
              have hlen : F + i < (ys ++ l[i].laid L ys.length).length := by rw [List.length_append]; omega
              generalize l[i] = T at *
              have HC := Hid.mk hc
              have HLT := Hid.mk hlt
              have HLEN := Hid.mk hlen
              have HS6 := Hid.mk (hSi.out.then_ hb6)
              have hil : (i : Int) < m := by omega
              clear hc hkt hkle hli hli6 hS6 hTt hr hb6 hbx6 hkl hyl hlen hff hq1 hm1 hsz1
              go_upto_region 13 with fail
              try rw [hW6]
              clear hW6
              go_upto_region 14 with (go_at_call 35; refine HC.out.mono ?_; rintro e w9 ⟨wv9, kv9, rfl, h9, s9⟩; have H9 := Hid.mk h9; have S9 := Hid.mk s9; clear h9 s9)
              obtain ⟨x, hx⟩ : ∃ x, T.own L ys.length = x := ⟨_, rfl⟩
              have hfx := hfin.out x hx.symm
              rw [hx]
              obtain ⟨N, hN⟩ : ∃ N, (ys ++ T.laid L ys.length).length = N := ⟨_, rfl⟩
              have hlenN := HLEN.out
              rw [hN] at hlenN
              obtain ⟨g9, rc9, hwv9, _, hcc9⟩ := H9.out.pil.row.slice (by omega)
              rw [hN] at hwv9
              subst hwv9
              obtain ⟨hpw, hps⟩ := H9.out.pil.wset (F + i) x
              obtain ⟨h10, s10⟩ := H9.out.piled hpw hps (by rw [List.length_set]; exact H9.out.len) (by rw [List.length_set]; exact H9.out.m0)
              rw [hfx, hkd.out] at h10
              have hRel : Hid (Hea (w9.setCell ⟨g9, F + i, none⟩ (.int .u64 x)) hb p bm v L M (.slice (some ⟨g9, 0, none⟩) N rc9) kv9 ((xs ++ ld) ++ (kids L (l.take (i + 1)) q).1 ++ List.replicate (m - (i + 1)) 0 ++ (kids L (l.take (i + 1)) q).2) (ks ++ (kbox 7 (ld.length + m) ++ kdss (l.take (i + 1)))) ∧ Stp hb p bm W0 v wv kv (w9.setCell ⟨g9, F + i, none⟩ (.int .u64 x)) v (.slice (some ⟨g9, 0, none⟩) N rc9) kv9) := Hid.mk ⟨h10, (HS6.out.trans S9.out).trans s10⟩
              have hw9 := H9.out.pil.c0
              have hcell := hcc9 (F + i) (by rw [hN]; exact hlenN)
              obtain ⟨u9, hu9⟩ : ∃ u9, (ys ++ T.laid L ys.length)[F + i]'(by rw [hN]; exact hlenN) = u9 := ⟨_, rfl⟩
              rw [hu9] at hcell
              have hfroz := H9.out.pil.row.frozen (F + i)
              have hiN : ((F + i : Nat) : Int) < N := by omega
              clear h10 s10 hpw hps hfx hx hN hu9 hcc9 hfin hkd HLEN
              go_wp2
              go_roundw
              case rel => exact ⟨i + 1, _, _, _, _, HLT.out, by first | rfl | go_num, Hid.mk hRel.out.1, Hid.mk hRel.out.2, Hid.mk rfl, Hid.mk rfl⟩
              case measure =>
                have := HLT.out
                simp [intOf]
                omega
            · have he : i = m := by omega
              subst he
              have hys := hYi.out
              have hzs := hZi.out
              rw [← HM.out, List.take_length, Nat.sub_self, List.replicate_zero, List.append_nil] at hys
              rw [← HM.out, List.take_length] at hzs
              have hFin : Hid (Hea wr hb p bm v L M wvi kvi (xs ++ (ld ++ (kids L l q).1 ++ (kids L l q).2)) (ks ++ (kbox 7 (ld.length + l.length) ++ kdss l))) := Hid.mk (by
                have := hHi.out
                rw [hys, hzs] at this
                simpa only [List.append_assoc] using this)
              clear hys hzs
              go_wp2
              go_ret
              exact ⟨wvi, kvi, rfl, by have := hFin.out; rw [HM.out] at this; exact this, hback.out _ _ _ hSi.out⟩
        · go_enter Tryd.func35, Tryd.ntmps35
          go_upto_region 1 with fail
          try rw [hW0]
          clear hW0
          go_upto_region 8 with fail
          refine wp_region_held (S := Only OW W0) (by kernel_rfl) ?_
          refine chain_take (i := 0) (d := 34) (v := .pointer (some ⟨hb, 0, none⟩)) rfl rfl (by kernel_rfl) (by kernel_rfl) (by kernel_rfl) rfl (fun _ _ => rfl) (fun _ _ _ h => h) (Only.refl _ W0).drew ?_
          simp only [Act.put, List.setIfInBounds_toArray, List.set_cons_zero, List.set_cons_succ]
          refine chain_take (i := 1) (d := 35) (v := .pointer (some ⟨hb, 0, none⟩)) rfl rfl (by kernel_rfl) (by kernel_rfl) (by kernel_rfl) rfl (fun _ _ => (by go_simp)) (fun _ _ _ h => h) (Only.refl _ W0).drew ?_
          simp only [Act.put, List.setIfInBounds_toArray, List.set_cons_zero, List.set_cons_succ]
          refine chain_take (i := 2) (d := 36) (v := .pointer (some ⟨hb, 3, none⟩)) rfl rfl (by kernel_rfl) (by kernel_rfl) (by kernel_rfl) rfl (fun _ _ => (by go_simp)) (fun _ _ _ h => h) (Only.refl _ W0).drew ?_
          simp only [Act.put, List.setIfInBounds_toArray, List.set_cons_zero, List.set_cons_succ]
          refine chain_take (i := 3) (d := 37) (v := .pointer (some ⟨w.heap.size, 0, none⟩)) rfl rfl (by kernel_rfl) (by kernel_rfl) (by kernel_rfl) rfl (fun _ _ => (by go_simp)) (fun _ _ _ h => h) (Only.refl _ W0).drew ?_
          simp only [Act.put, List.setIfInBounds_toArray, List.set_cons_zero, List.set_cons_succ]
          refine chain_take (i := 4) (d := 38) (v := .int .i64 9) rfl rfl (by kernel_rfl) (by kernel_rfl) (by kernel_rfl) rfl (fun W h => (by have u0 := Only.cellS h nbx t0; go_simp)) (fun _ _ _ h => h) (Only.refl _ W0).drew ?_
          simp only [Act.put, List.setIfInBounds_toArray, List.set_cons_zero, List.set_cons_succ]
          refine chain_take (i := 5) (d := 39) (v := .pointer (some ⟨w.heap.size, 0, none⟩)) rfl rfl (by kernel_rfl) (by kernel_rfl) (by kernel_rfl) rfl (fun _ _ => (by go_simp)) (fun _ _ _ h => h) (Only.refl _ W0).drew ?_
          simp only [Act.put, List.setIfInBounds_toArray, List.set_cons_zero, List.set_cons_succ]
          refine chain_take (i := 6) (d := 40) (v := .int .i64 9) rfl rfl (by kernel_rfl) (by kernel_rfl) (by kernel_rfl) rfl (fun W h => (by have u0 := Only.cellS h nbx t0; go_simp)) (fun _ _ _ h => h) (Only.refl _ W0).drew ?_
          simp only [Act.put, List.setIfInBounds_toArray, List.set_cons_zero, List.set_cons_succ]
          refine chain_take (i := 7) (d := 41) (v := .pointer (some ⟨w.heap.size, 1, none⟩)) rfl rfl (by kernel_rfl) (by kernel_rfl) (by kernel_rfl) rfl (fun _ _ => (by go_simp)) (fun _ _ _ h => h) (Only.refl _ W0).drew ?_
          simp only [Act.put, List.setIfInBounds_toArray, List.set_cons_zero, List.set_cons_succ]
          refine chain_take (i := 8) (d := 42) (v := .int .i64 n) rfl rfl (by kernel_rfl) (by kernel_rfl) (by kernel_rfl) rfl (fun W h => (by have u0 := Only.cellS h nbx t1; go_simp)) (fun _ _ _ h => h) (Only.refl _ W0).drew ?_
          simp only [Act.put, List.setIfInBounds_toArray, List.set_cons_zero, List.set_cons_succ]
          refine chain_take (i := 9) (d := 43) (v := .pointer (some ⟨w.heap.size, 3, none⟩)) rfl rfl (by kernel_rfl) (by kernel_rfl) (by kernel_rfl) rfl (fun _ _ => (by go_simp)) (fun _ _ _ h => h) (Only.refl _ W0).drew ?_
          simp only [Act.put, List.setIfInBounds_toArray, List.set_cons_zero, List.set_cons_succ]
          refine chain_take (i := 10) (d := 44) (v := .slice a m cap) rfl rfl (by kernel_rfl) (by kernel_rfl) (by kernel_rfl) rfl (fun W h => (by have u0 := Only.cellS h nbx t3; go_simp)) (fun _ _ _ h => h) (Only.refl _ W0).drew ?_
          simp only [Act.put, List.setIfInBounds_toArray, List.set_cons_zero, List.set_cons_succ]
          refine chain_take (i := 11) (d := 45) (v := .int .i64 m) rfl rfl (by kernel_rfl) (by kernel_rfl) (by kernel_rfl) rfl (fun _ _ => (by go_simp)) (fun _ _ _ h => h) (Only.refl _ W0).drew ?_
          simp only [Act.put, List.setIfInBounds_toArray, List.set_cons_zero, List.set_cons_succ]
          refine chain_value (i := 12) (d := 46) (v := .slice (some ⟨W0.heap.size, 0, none⟩) m m) (w' := w5) (by kernel_rfl) rfl rfl rfl (by go_simp) (Only.up HB5.out) ?_
          simp only [Act.put, List.setIfInBounds_toArray, List.set_cons_zero, List.set_cons_succ]
          refine chain_call (i := 13) (d := 47) (f := 59) (args := #[.int .i64 9, .int .i64 n, .slice (some ⟨W0.heap.size, 0, none⟩) m m]) (by kernel_rfl) rfl rfl rfl (by go_simp) ?_
          refine (HBO.out w5 (HH.out.up HB5.out).wt _ _ HZ5.out.celA (fun e => by cases e)).mono ?_
          rintro e w6 ⟨a6, c6, rfl, hc6, hn6, hb6⟩
          refine ⟨.slice a6 (ld.length + m) c6, rfl, (Only.up (HB5.out.trans (hb6.mono HB5.out.size))), ?_⟩
          simp only [Act.put, List.setIfInBounds_toArray, List.set_cons_zero, List.set_cons_succ]
          refine chain_call (i := 14) (d := 48) (f := 46) (args := #[.pointer (some ⟨hb, 3, none⟩), .int .i64 9, .slice a6 (ld.length + m) c6]) (by kernel_rfl) rfl rfl rfl (by go_simp) ?_
          refine (HAD.out _ (HB5.out.trans (hb6.mono HB5.out.size)) a6 c6 hc6 hn6).mono ?_
          rintro e w7 ⟨wv7, kv7, rfl, h7, s7⟩
          refine ⟨.int .u64 (Wd.packW 9 xs.length), rfl, (by rw [← HOW.out]; exact s7.only), ?_⟩
          simp only [Act.put, List.setIfInBounds_toArray, List.set_cons_zero, List.set_cons_succ]
          refine chain_take (i := 15) (d := 7) (v := .int .u64 (Wd.packW 9 xs.length)) rfl rfl (by kernel_rfl) (by kernel_rfl) (by kernel_rfl) rfl (fun _ _ => rfl) (fun _ _ _ h => h) ((by rw [← HOW.out]; exact s7.only)) ?_
          simp only [Act.put, List.setIfInBounds_toArray, List.set_cons_zero, List.set_cons_succ]
          refine wpAnyH_done (by kernel_rfl) ?_ _
          have nbx7 : ¬ HOwn hb p bm v wv kv w.heap.size := by rw [HOW.out]; exact nbx
          have t07 := s7.cell nbx7 t0
          have t37 := s7.cell nbx7 t3
          have H7 := Hid.mk h7
          have S7 := Hid.mk s7
          have hc7 := h7.pil.c0
          have hx7 : (xs ++ (ld ++ List.replicate m (0 : Int))).length = q := by rw [List.length_append, List.length_append, List.length_replicate]; have := HQ.out; omega
          obtain ⟨ra7, rc7, rfl⟩ := owns_slice h7.pil.row
          rw [hx7] at hc7
          have hfs : IntKind.i64.wrap ((q : Int) - m) = ((xs.length + ld.length : Nat) : Int) := by have h1 := HQ.out; have h2 := HSZ.out; have h3 := HM1.out; rw [wrap_id (by omega) (by omega)]; omega
          clear h7 s7 hc6 hn6 hb6 t0 t1 t2 t3 hr5 c1
          go_upto_region 9 with fail
          refine region_up (W := w7) (by kernel_rfl) (by kernel_rfl) (Up.refl _) ?_
          refine quiet_value (v := .pointer (some ⟨hb, 0, none⟩)) rfl (fun _ _ => rfl) ?_
          simp only [Act.put, List.setIfInBounds_toArray, List.set_cons_zero, List.set_cons_succ]
          refine quiet_value (v := .pointer (some ⟨hb, 0, none⟩)) rfl (fun _ _ => (by go_simp)) ?_
          simp only [Act.put, List.setIfInBounds_toArray, List.set_cons_zero, List.set_cons_succ]
          refine quiet_value (v := .pointer (some ⟨hb, 3, none⟩)) rfl (fun _ _ => (by go_simp)) ?_
          simp only [Act.put, List.setIfInBounds_toArray, List.set_cons_zero, List.set_cons_succ]
          refine quiet_value (v := .pointer (some ⟨hb, 3, none⟩)) rfl (fun _ _ => (by go_simp)) ?_
          simp only [Act.put, List.setIfInBounds_toArray, List.set_cons_zero, List.set_cons_succ]
          refine quiet_value (v := .slice ra7 q rc7) rfl (fun W h => (by have u0 := cell_below h.out _ _ _ hc7; go_simp)) ?_
          simp only [Act.put, List.setIfInBounds_toArray, List.set_cons_zero, List.set_cons_succ]
          refine quiet_value (v := .int .i64 q) rfl (fun _ _ => (by go_simp)) ?_
          simp only [Act.put, List.setIfInBounds_toArray, List.set_cons_zero, List.set_cons_succ]
          refine quiet_value (v := .pointer (some ⟨w.heap.size, 3, none⟩)) rfl (fun _ _ => (by go_simp)) ?_
          simp only [Act.put, List.setIfInBounds_toArray, List.set_cons_zero, List.set_cons_succ]
          refine quiet_value (v := .slice a m cap) rfl (fun W h => (by have u0 := cell_below h.out _ _ _ t37; go_simp)) ?_
          simp only [Act.put, List.setIfInBounds_toArray, List.set_cons_zero, List.set_cons_succ]
          refine quiet_value (v := .int .i64 m) rfl (fun _ _ => (by go_simp)) ?_
          simp only [Act.put, List.setIfInBounds_toArray, List.set_cons_zero, List.set_cons_succ]
          refine quiet_value (v := .int .i64 ((xs.length + ld.length : Nat) : Int)) rfl (fun _ _ => (by go_simp)) ?_
          simp only [Act.put, List.setIfInBounds_toArray, List.set_cons_zero, List.set_cons_succ]
          refine quiet_value (v := .int .i64 ((xs.length + ld.length : Nat) : Int)) rfl (fun _ _ => rfl) ?_
          simp only [Act.put, List.setIfInBounds_toArray, List.set_cons_zero, List.set_cons_succ]
          refine quiet_nil ?_
          intro w8 hw8
          have HB8 := Hid.mk hw8.out
          have t38 := cell_below hw8.out _ _ _ t37
          have HF := Hid.mk hfs
          obtain ⟨F, hF⟩ : ∃ F, xs.length + ld.length = F := ⟨_, rfl⟩
          rw [hF]
          have HFF := Hid.mk hF
          clear hw8 t37 t07 hc7 hfs hF
          go_wp2
          go_loopw [62] (fun ii wr => ∃ (i : Nat) (wvi kvi : Value) (ys zs : List Int), i ≤ m ∧ ii = .int .i64 i ∧ Hid (Hea wr hb p bm v L M wvi kvi ys zs) ∧ Hid (Stp hb p bm W0 v wv kv wr v wvi kvi) ∧ Hid (ys = (xs ++ ld) ++ (kids L (l.take i) q).1 ++ List.replicate (m - i) 0 ++ (kids L (l.take i) q).2) ∧ Hid (zs = ks ++ (kbox 9 (ld.length + m) ++ kdss (l.take i)))) (fun ii _ => m - (intOf ii).toNat)
          case atStart => exact ⟨0, _, _, _, _, Nat.zero_le _, rfl, Hid.mk (H7.out.up HB8.out), Hid.mk (S7.out.then_ HB8.out), Hid.mk (by rw [List.take_zero, kids_nil]; simp), Hid.mk (by rw [List.take_zero, kdss_nil]; simp)⟩
          case round =>
            obtain ⟨i, wvi, kvi, ys, zs, hi, rfl, hHi, hSi, hYi, hZi⟩ := hrel
            by_cases hlt : i < m
            · have hltl : i < l.length := by rw [HM.out]; exact hlt
              obtain ⟨b, o, ha, hSb, hr⟩ := HL.out.some (by omega)
              subst ha
              obtain ⟨k', n', s', m', a', cap', hTt, c0, c1, c2, c3, hli⟩ := hr.part i hltl
              have nb := (HS.out b hSb).2
              have c0 := hSi.out.cell nb c0
              have c1 := hSi.out.cell nb c1
              have c2 := hSi.out.cell nb c2
              have c3 := hSi.out.cell nb c3
              have hsz1 := HSZ.out
              have hm1 := HM1.out
              have hq1 := HQ.out
              have hff := HFF.out
              have hkl := kids_length L (l.take i) q
              rw [List.length_take, Nat.min_eq_left (by omega)] at hkl
              have hyl : ys.length = q + (kids L (l.take i) q).2.length := by
                have := congrArg List.length hYi.out
                simp only [List.length_append, List.length_replicate, hkl] at this
                omega
              have hkt := kids_take L l q i hltl
              have hkle := kids_le L l q (i + 1)
              rw [hkt] at hkle
              simp only [List.length_append] at hkle
              have hfin : Hid (∀ x, x = l[i].own L ys.length → (ys ++ l[i].laid L ys.length).set (F + i) x = (xs ++ ld) ++ (kids L (l.take (i + 1)) q).1 ++ List.replicate (m - (i + 1)) 0 ++ (kids L (l.take (i + 1)) q).2) := Hid.mk fun x hx => by
                have e1 := set_at (xs ++ ld) (kids L (l.take i) q).1 ((kids L (l.take i) q).2 ++ l[i].laid L ys.length) m i x hlt hkl
                rw [List.length_append, hff] at e1
                rw [hkt, hx, ← hyl] 
                rw [hx] at e1
                rw [← e1, ← List.append_assoc, ← hYi.out]
              have hkd : Hid (zs ++ l[i].kds = ks ++ (kbox 9 (ld.length + m) ++ kdss (l.take (i + 1)))) := Hid.mk (by rw [hZi.out, kdss_take l i hltl]; simp)
              have hwi : IntKind.i64.wrap ((i : Int) + 1) = ((i + 1 : Nat) : Int) := by rw [wrap_id (by omega) (by omega)]; omega
              have hwf : IntKind.i64.wrap ((F : Int) + i) = ((F + i : Nat) : Int) := by rw [wrap_id (by omega) (by omega)]; omega
              obtain ⟨W6, hW6⟩ : ∃ W6, wr.alloc (.cells #[.int .i64 k', .int .i64 n', .string s', .slice a' m'.length cap'] 42) = W6 := ⟨_, rfl⟩
              have hb6 : Below wr.heap.size wr W6 := by rw [← hW6]; exact (Below.refl _ _).alloc (Nat.le_refl _) _
              have hbx6 : W6.heap[wr.heap.size]? = some (.cells #[.int .i64 k', .int .i64 n', .string s', .slice a' m'.length cap'] 42) := by rw [← hW6]; exact new_block _ _
              obtain ⟨⟨d0, d1, d2, d3⟩, _⟩ := kept4 hbx6 (Below.refl _ _)
              have hli6 : Lies W6 S l[i] (.agg #[.int .i64 k', .int .i64 n', .string s', .slice a' m'.length cap']) := hli.move (fun _ h => h) (fun b o u hb' hc => cell_below hb6 _ _ _ (hSi.out.cell (HS.out b hb').2 hc)) _ _
              have hS6 : ∀ b, S b → b < W6.heap.size ∧ ¬ HOwn hb p bm v wvi kvi b := fun b hb' => ⟨Nat.lt_of_lt_of_le (HS.out b hb').1 (Nat.le_trans hSi.out.only.size hb6.size), hSi.out.own_old (HS.out b hb').1 (HS.out b hb').2⟩
              have hc := ih.out l[i] (List.getElem_mem hltl) (fitss_all HFS.out _ (List.getElem_mem hltl)) (knowns_all HKN.out _ (List.getElem_mem hltl)) S _ W6 hb p bm v M wvi kvi ys zs (hHi.out.up hb6) hli6 hS6 (by rw [hyl]; omega)
              have hlen : F + i < (ys ++ l[i].laid L ys.length).length := by rw [List.length_append]; omega
              generalize l[i] = T at *
              have HC := Hid.mk hc
              have HLT := Hid.mk hlt
              have HLEN := Hid.mk hlen
              have HS6 := Hid.mk (hSi.out.then_ hb6)
              have hil : (i : Int) < m := by omega
              clear hc hkt hkle hli hli6 hS6 hTt hr hb6 hbx6 hkl hyl hlen hff hq1 hm1 hsz1
              go_upto_region 13 with fail
              try rw [hW6]
              clear hW6
              go_upto_region 14 with (go_at_call 35; refine HC.out.mono ?_; rintro e w9 ⟨wv9, kv9, rfl, h9, s9⟩; have H9 := Hid.mk h9; have S9 := Hid.mk s9; clear h9 s9)
              obtain ⟨x, hx⟩ : ∃ x, T.own L ys.length = x := ⟨_, rfl⟩
              have hfx := hfin.out x hx.symm
              rw [hx]
              obtain ⟨N, hN⟩ : ∃ N, (ys ++ T.laid L ys.length).length = N := ⟨_, rfl⟩
              have hlenN := HLEN.out
              rw [hN] at hlenN
              obtain ⟨g9, rc9, hwv9, _, hcc9⟩ := H9.out.pil.row.slice (by omega)
              rw [hN] at hwv9
              subst hwv9
              obtain ⟨hpw, hps⟩ := H9.out.pil.wset (F + i) x
              obtain ⟨h10, s10⟩ := H9.out.piled hpw hps (by rw [List.length_set]; exact H9.out.len) (by rw [List.length_set]; exact H9.out.m0)
              rw [hfx, hkd.out] at h10
              have hRel : Hid (Hea (w9.setCell ⟨g9, F + i, none⟩ (.int .u64 x)) hb p bm v L M (.slice (some ⟨g9, 0, none⟩) N rc9) kv9 ((xs ++ ld) ++ (kids L (l.take (i + 1)) q).1 ++ List.replicate (m - (i + 1)) 0 ++ (kids L (l.take (i + 1)) q).2) (ks ++ (kbox 9 (ld.length + m) ++ kdss (l.take (i + 1)))) ∧ Stp hb p bm W0 v wv kv (w9.setCell ⟨g9, F + i, none⟩ (.int .u64 x)) v (.slice (some ⟨g9, 0, none⟩) N rc9) kv9) := Hid.mk ⟨h10, (HS6.out.trans S9.out).trans s10⟩
              have hw9 := H9.out.pil.c0
              have hcell := hcc9 (F + i) (by rw [hN]; exact hlenN)
              obtain ⟨u9, hu9⟩ : ∃ u9, (ys ++ T.laid L ys.length)[F + i]'(by rw [hN]; exact hlenN) = u9 := ⟨_, rfl⟩
              rw [hu9] at hcell
              have hfroz := H9.out.pil.row.frozen (F + i)
              have hiN : ((F + i : Nat) : Int) < N := by omega
              clear h10 s10 hpw hps hfx hx hN hu9 hcc9 hfin hkd HLEN
              go_wp2
              go_roundw
              case rel => exact ⟨i + 1, _, _, _, _, HLT.out, by first | rfl | go_num, Hid.mk hRel.out.1, Hid.mk hRel.out.2, Hid.mk rfl, Hid.mk rfl⟩
              case measure =>
                have := HLT.out
                simp [intOf]
                omega
            · have he : i = m := by omega
              subst he
              have hys := hYi.out
              have hzs := hZi.out
              rw [← HM.out, List.take_length, Nat.sub_self, List.replicate_zero, List.append_nil] at hys
              rw [← HM.out, List.take_length] at hzs
              have hFin : Hid (Hea wr hb p bm v L M wvi kvi (xs ++ (ld ++ (kids L l q).1 ++ (kids L l q).2)) (ks ++ (kbox 9 (ld.length + l.length) ++ kdss l))) := Hid.mk (by
                have := hHi.out
                rw [hys, hzs] at this
                simpa only [List.append_assoc] using this)
              clear hys hzs
              go_wp2
              go_ret
              exact ⟨wvi, kvi, rfl, by have := hFin.out; rw [HM.out] at this; exact this, hback.out _ _ _ hSi.out⟩
      · have hl0 := fit_noL hf.1 (by simpa using hk)
        obtain rfl : l = [] := List.eq_nil_of_length_eq_zero hl0
        rw [List.length_nil] at hW0
        have hk' := hk
        rw [hasL_iff] at hk'
        have e1 : (Tm.mk k n s []).laid L xs.length = [] := by rw [laid_mk, kids_nil, leadW, if_neg (by omega), if_neg (by omega)]; rfl
        have e2 : (Tm.mk k n s []).kds = [] := by rw [kds_mk, kdss_nil, if_neg hk]; rfl
        have e3 : (Tm.mk k n s []).own L xs.length = Wd.packW k n := by rw [own_mk, numF, if_neg h2, if_neg hk]
        rw [e1, e2, e3, List.append_nil, List.append_nil]
        have h7 : ¬ k = 7 := by omega
        have h9 : ¬ k = 9 := by omega
        have h5 : ¬ k = 5 := by omega
        have HH := Hid.mk hH
        have hpk := Hid.mk (packH_any k n W0 hH.wt hsm.n0 hsm.n1 hsm.k0 hsm.k1)
        clear h hT hS hsz hsm hl hbx ih hkn e1 e2 e3 hG hf hl0 hk hk'
        go_enter Tryd.func35, Tryd.ntmps35
        go_upto_region 1 with fail
        try rw [hW0]
        clear hW0
        go_wp2_with (go_at_call 45; refine hpk.out.mono ?_; rintro e w1 ⟨rfl, hb1⟩)
        go_ret
        exact ⟨wv, kv, rfl, HH.out.up hb1, hback.out _ _ _ (Stp.up hb1)⟩
end Go.Proofs.YtaiiicmldogjoaaDoor
