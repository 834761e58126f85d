/-
  NeedGrows returns true.
-/
import Derived.Test.YtamafhcgjbkikaaDoorNeedH
import Derived.Test.YtamafhcgjbkikaaDoorKitPick
import Derived.Deep.RegionHeld3
import Derived.Deep.DeepCutAuto
namespace Go.Proofs.YtamafhcgjbkikaaDoor
open Go.RowKit Go.Deep Go.Maps Go.WideShapes

theorem grown_any13 {w w2 : World} {r : Option Nat} {o : Obj} {k : Nat} (hg : w.grownBy w2 r) (hk : w.heap[k]? = some o) (hr : r ≠ some k) : w2.heap[k]? = some o := (hg.block k (Array.getElem?_eq_some_iff.1 hk).1 (fun e => hr e.symm)).trans hk
theorem sizes_append1 (l : List Tm) (T : Tm) : sizes (l ++ [T]) = sizes l + T.size := by
  induction l with
  | nil => simp [sizes]
  | cons x r ih => simp only [List.cons_append, sizes, ih]; omega
set_option maxRecDepth 100000 in
set_option maxHeartbeats 2000000 in
theorem lawGrows13 (k0 b0 : Int) (l : List Tm) (a : Option Addr) (cap : Nat) (T : Tm) (S : Nat → Prop) (v : Value) (w : World) (hl : Lst w S l a cap) (hv : Lies w S T v) (ht : Tabs w) :
    Calls Tryd.prog 6 #[.int .i64 k0, .int .i64 b0, .slice a l.length cap, v] w fun e w' => e = .returned (.bool true) ∧ Below w.heap.size w w' := by
  obtain ⟨kk, n, s, ta, m, tc, rfl⟩ := hv.agg
  obtain ⟨W0, hW0⟩ : ∃ W0, w.alloc (.cells #[.int .i64 kk, .int .i64 n, .string s, .slice ta m tc] 24) = W0 := ⟨_, rfl⟩
  have hu0 : Up w W0 := by rw [← hW0]; exact (Up.refl w).alloc
  have hbx : W0.heap[w.heap.size]? = some (.cells #[.int .i64 kk, .int .i64 n, .string s, .slice ta m tc] 24) := by rw [← hW0]; exact new_block _ _
  have hlen : l.length ≤ 9223372036854775807 := Nat.le_trans hl.1 hl.2.1
  have hv0 := Hid.mk (hv.below hu0.out)
  have hl0 := Hid.mk (hl.below hu0.out)
  have ht0 := Hid.mk (ht.below hu0.out)
  have hret : Hid (∀ W, Up W0 W → Below w.heap.size w W) := Hid.mk (fun W h => (hu0.call h.out).out)
  have hq : Up W0 W0 := Up.refl W0
  obtain ⟨g0, g1, g2, g3⟩ := hq.four hbx
  have hW0' := Hid.mk hW0
  obtain ⟨y1, hy1, hp1⟩ := pick_fun k0 4 (by omega) (by omega)
  obtain ⟨B, hB, hp2⟩ := pick_fun b0 2000 (by omega) (by omega)
  have hp1 := Hid.mk hp1
  have hp2 := Hid.mk hp2
  obtain ⟨K, hK⟩ : ∃ K : Int, K = 1 + (y1 : Int) := ⟨_, rfl⟩
  have hKw : IntKind.i64.wrap (1 + (y1 : Int)) = K := by rw [hK]; exact wrap_id (by omega) (by omega)
  have hKb : 1 ≤ K ∧ K ≤ 4 := by omega
  have hsum := Hid.mk (fun hsz S a cap W hl ht => sumI_any K B l hsz S a cap W hl ht)
  have hput := Hid.mk (fun hsz S v W hv ht => putI_any K B l.length T hsz S v W hv ht)
  have hnd := Hid.mk (fun W ht => nodeI_any K W ht)
  have hgr := Hid.mk (fun (h1 : sumE K B l = 0) (h2 : putE K B l.length T = 0) => sum_grows h1 h2)
  have hpv := Hid.mk (fun (h2 : putE K B l.length T = 0) => put_more h2)
  have hv1 := Hid.mk (sumV_range K B l)
  have hv2 := Hid.mk (putV_range K B l.length T (by omega))
  generalize sumV K B l = V1 at *
  generalize sumE K B l = E1 at *
  generalize putV K B l.length T = V2 at *
  generalize putE K B l.length T = E2 at *
  have hK' := Hid.mk hK
  have hKb' := Hid.mk hKb
  have hy1' := Hid.mk hy1
  clear hv hl ht hu0 hW0 hK hKb hy1
  go_enter Tryd.func6, Tryd.ntmps6
  go_upto_region 1 with fail
  rw [hW0'.out]
  go_upto_region 11 with (first
    | (go_at_call 5; refine (known13_any _ (ht0.out.below hq.out)).mono ?_; rintro e w1 ⟨rfl, hb⟩; have hq := hq.call hb; obtain ⟨g0, g1, g2, g3⟩ := hq.four hbx; clear hb)
    | (go_at_call 28; have g := p1; refine (hp2.out _).mono ?_; rintro e w2 ⟨rfl, rfl⟩)
    | (go_at_call 28; refine (hp1.out _).mono ?_; rintro e w2 ⟨rfl, rfl⟩; have p1 := True.intro)
    | (go_at_call 19; refine (largeAll_any l _ _ _ 300 _ (hl0.out.below hq.out) (by omega) (by omega)).mono ?_; rintro e w2 ⟨⟨b1, rfl, hA⟩, hb⟩; have hq := hq.call hb; obtain ⟨g0, g1, g2, g3⟩ := hq.four hbx; have hA := Hid.mk hA; clear hb)
    | (go_at_call 7; refine (largeTerm_any T _ _ 300 _ (hv0.out.below hq.out) (by omega) (by omega)).mono ?_; rintro e w3 ⟨⟨b2, rfl, hC⟩, hb⟩; have hq := hq.call hb; obtain ⟨g0, g1, g2, g3⟩ := hq.four hbx; have hC := Hid.mk hC; clear hb)
    | (go_at_call 21; have hb1 : b1 = false := (by first | assumption | simpa using ‹¬ b1 = true›); have hb2 : b2 = false := (by first | assumption | simpa using ‹¬ b2 = true› | exact And.right (by assumption)); have hA2 := Hid.mk (hA.out hb1); have hC2 := Hid.mk (hC.out hb2); refine (hsum.out (by have := hA2.out.2; omega) _ _ _ _ (hl0.out.below hq.out) (ht0.out.below hq.out)).mono ?_; rintro e w4 ⟨rfl, hb⟩; have hq := hq.call hb; obtain ⟨g0, g1, g2, g3⟩ := hq.four hbx; clear hb)
    | (go_at_call 23; refine (hput.out (by have := hC2.out.2; omega) _ _ _ (hv0.out.below hq.out) (ht0.out.below hq.out)).mono ?_; rintro e w5 ⟨rfl, hb⟩; have hq := hq.call hb; obtain ⟨g0, g1, g2, g3⟩ := hq.four hbx; clear hb))
  · go_ret
    exact ⟨rfl, hret.out _ hq⟩
  · go_ret
    exact ⟨rfl, hret.out _ hq⟩
  · go_ret
    exact ⟨rfl, hret.out _ hq⟩
  rotate_left
  · go_ret
    exact ⟨rfl, hret.out _ hq⟩
  obtain ⟨Bb, hBb⟩ : ∃ Bb : Bool, Bb = decide (K ≠ 2 ∧ 2 * (B : Int) < (l.length : Int) + 1) := ⟨_, rfl⟩
  have hBb' := Hid.mk hBb
  have hE2 : E2 = 0 := by simpa using ‹(E2 != 0) = false›
  subst hE2
  have hl4 : l.length ≤ 300 := by have := length_sizes l; have := hA2.out.2; omega
  clear hBb hA hC hb1 hb2
  go_cut [65] (fun s65 wx => s65 = .bool Bb ∧ wx = w5)
  case first =>
    have w1 : IntKind.i64.wrap ((l.length : Int) + 1) = (l.length : Int) + 1 := wrap_id (by omega) (by omega)
    have w2 : IntKind.i64.wrap (2 * (B : Int)) = 2 * (B : Int) := wrap_id (by omega) (by omega)
    by_cases h2 : K = 2
    · have h4 : Bb = false := by rw [hBb'.out]; exact decide_eq_false (fun h => h.1 h2)
      have h5 : (K != 2) = false := by simpa using h2
      clear h2
      go_wp2_with fail
      go_meet
      exact ⟨by rw [h4], rfl⟩
    · have h5 : (K != 2) = true := by simpa using h2
      have h4 : Bb = decide (2 * (B : Int) < (l.length : Int) + 1) := by rw [hBb'.out]; exact decide_eq_decide.2 ⟨fun h => h.2, fun h => ⟨h2, h⟩⟩
      go_wp2_with fail
      go_meet
      exact ⟨by rw [h4], rfl⟩
  case rest =>
    obtain ⟨rfl, rfl⟩ := hcut
    obtain ⟨LB, hLB⟩ : ∃ LB : Nat, LB = if Bb = true then B + 1 else B := ⟨_, rfl⟩
    have hLB2 : Hid ((LB : Int) = if K ≠ 2 ∧ 2 * (B : Int) < (l.length : Int) + 1 ∧ (B : Int) < 1048576 then (B : Int) + 1 else B) := Hid.mk (by
      rw [hLB]
      cases hb : Bb
      · rw [hBb'.out] at hb
        have := of_decide_eq_false hb
        rw [if_neg (by decide), if_neg (fun h => this ⟨h.1, h.2.1⟩)]
      · rw [hBb'.out] at hb
        have := of_decide_eq_true hb
        rw [if_pos rfl, if_pos ⟨this.1, this.2, by omega⟩]
        omega)
    have hgr2 := hgr.out (by first | rfl | assumption) rfl
    simp only [← hLB2.out] at hgr2
    have hgr3 := Hid.mk hgr2
    clear hgr2
    obtain ⟨hs, hhd, hcs, hcn⟩ := lst_heads ((hl0.out.below hq.out).wider (S' := fun _ => True) (fun _ _ => trivial))
    have HD4 := Hid.mk hhd
    have HCS := Hid.mk hcs
    have HCN := Hid.mk hcn
    have HX := Hid.mk (show Lies wc _ T (Hd4.tv ⟨kk, n, s, ta, m, tc⟩) from hv0.out.below hq.out)
    have hlh : hs.length = l.length := hhd.1
    have HSUM := Hid.mk (show ∀ S a cap w, Lst w S (l ++ [T]) a cap → Tabs w → Calls Tryd.prog 21 #[.int .i64 K, .int .i64 LB, .slice a (l ++ [T]).length cap] w fun e w' => e = .returned (.tuple #[.int .i64 (V1 + V2), .int .i64 0]) ∧ Below w.heap.size w w' from fun S a cap w hl ht => by
      have h := sumI_any K LB (l ++ [T]) (by rw [sizes_append1]; have := hA2.out.2; have := hC2.out.2; omega) S a cap w hl ht
      rw [hgr3.out.1, hgr3.out.2] at h
      exact h)
    clear hhd hcs hcn
    have wLB : Bb = true → IntKind.i64.wrap ((B : Int) + 1) = (LB : Int) := fun h => by rw [if_pos h] at hLB; rw [wrap_id (by omega) (by omega)]; omega
    cases Bb
    · rw [if_neg (by decide)] at hLB
      subst hLB
      clear wLB
      go_upto_region 13 with fail
      go_cut [15, 16] (fun s15 s16 wx => s15 = .int .i64 (V1 + V2) ∧ s16 = .int .i64 0 ∧ Up wc wx)
      case first =>
        refine wp_region_held (S := Up wc) (by kernel_rfl) ?_
        refine chain_take (i := 0) (d := 69) (v := .int .i64 K) rfl rfl (by kernel_rfl) (by kernel_rfl) (by kernel_rfl) rfl (fun _ _ => rfl) (fun _ _ _ h => h) (Up.refl wc).drew ?_
        simp only [Act.put, List.setIfInBounds_toArray, List.set_cons_zero, List.set_cons_succ]
        refine chain_take (i := 1) (d := 70) (v := .int .i64 LB) rfl rfl (by kernel_rfl) (by kernel_rfl) (by kernel_rfl) rfl (fun _ _ => rfl) (fun _ _ _ h => h) (Up.refl wc).drew ?_
        simp only [Act.put, List.setIfInBounds_toArray, List.set_cons_zero, List.set_cons_succ]
        refine chain_take (i := 3) (d := 72) (v := .slice a l.length cap) rfl rfl (by kernel_rfl) (by kernel_rfl) (by kernel_rfl) rfl (fun _ _ => rfl) (fun _ _ _ h => h) (Up.refl wc).drew ?_
        simp only [Act.put, List.setIfInBounds_toArray, List.set_cons_zero, List.set_cons_succ]
        refine chain_take (i := 5) (d := 74) (v := .agg #[.int .i64 kk, .int .i64 n, .string s, .slice ta m tc]) rfl rfl (by kernel_rfl) (by kernel_rfl) (by kernel_rfl) rfl (fun W h => (by have u0 := cell_below h.out _ _ _ g0; have u1 := cell_below h.out _ _ _ g1; have u2 := cell_below h.out _ _ _ g2; have u3 := cell_below h.out _ _ _ g3; go_simp)) (fun _ _ _ h => h) (Up.refl wc).drew ?_
        simp only [Act.put, List.setIfInBounds_toArray, List.set_cons_zero, List.set_cons_succ]
        obtain ⟨WD, hWD⟩ : ∃ WD, ({ wc with drawn := wc.drawn + 1 } : World) = WD := ⟨_, rfl⟩
        have HD0 : Up wc WD := by rw [← hWD]; exact (Up.refl wc).drew
        rw [hWD]
        clear hWD g0 g1 g2 g3
        refine chain_fork (i := 2) (j := 6) (di := 71) (dj := 75) (vi := .slice (some ⟨WD.heap.size, 0, none⟩) 0 0) (vj := .slice (some ⟨WD.heap.size, 0, none⟩) 1 1) (wi := (WD.alloc (.cells #[] 24))) (wj := (WD.alloc (.cells #[.int .i64 kk, .int .i64 n, .string s, .slice ta m tc] 24))) (by kernel_rfl) rfl rfl rfl (by go_simp) (Up.alloc HD0) rfl rfl rfl (by go_simp) (Up.alloc HD0) ?_ ?_
        · simp only [Act.put, List.setIfInBounds_toArray, List.set_cons_zero, List.set_cons_succ]
          have hE := Apn.empty hdT HD0
          obtain ⟨u3, w3, hr3, hi3, hg3, ho3⟩ := cs_append hdT (WD.alloc (.cells #[] 24)) 22 _ [] hs a l.length cap hE.row (HCS.out.up hE.below) HCN.out hlh.symm (by simp; omega)
          have hA3 := hE.more hi3 hg3 ho3
          rw [List.nil_append] at hA3
          refine chain_fork (i := 4) (j := 6) (di := 73) (dj := 75) (vi := u3) (vj := .slice (some ⟨(WD.alloc (.cells #[] 24)).heap.size, 0, none⟩) 1 1) (wi := w3) (wj := ((WD.alloc (.cells #[] 24)).alloc (.cells #[.int .i64 kk, .int .i64 n, .string s, .slice ta m tc] 24))) (by kernel_rfl) rfl rfl rfl (exec_append rfl rfl hr3) hA3.below rfl rfl rfl (by go_simp) (Up.alloc (Up.alloc HD0)) ?_ ?_
          · simp only [Act.put, List.setIfInBounds_toArray, List.set_cons_zero, List.set_cons_succ]
            have hA4 := hA3.up (Up.alloc (Up.refl w3) (o := .cells #[.int .i64 kk, .int .i64 n, .string s, .slice ta m tc] 24)).out
            refine chain_value (i := 6) (d := 75) (v := .slice (some ⟨w3.heap.size, 0, none⟩) 1 1) (w' := w3.alloc (.cells #[.int .i64 kk, .int .i64 n, .string s, .slice ta m tc] 24)) (by kernel_rfl) rfl rfl rfl (by go_simp) (hA4.below) ?_
            simp only [Act.put, List.setIfInBounds_toArray, List.set_cons_zero, List.set_cons_succ]
            obtain ⟨u9, w9, hr9, hi9, hg9, ho9⟩ := append_elem hdT (w3.alloc (.cells #[.int .i64 kk, .int .i64 n, .string s, .slice ta m tc] 24)) 22 _ hs (⟨kk, n, s, ta, m, tc⟩ : Hd4) hA4.row (w3.heap.size) (new_block _ _) rfl (by omega)
            have hA9 := hA4.more hi9 hg9 ho9
            refine chain_value (i := 7) (d := 76) (v := u9) (w' := w9) (by kernel_rfl) rfl rfl rfl (exec_append rfl rfl hr9) (hA9.below) ?_
            simp only [Act.put, List.setIfInBounds_toArray, List.set_cons_zero, List.set_cons_succ]
            have hHD : Heads w9 (fun _ => True) (l ++ [T]) (hs ++ [⟨kk, n, s, ta, m, tc⟩]) := Heads.snoc (HD4.out.up hA9.below) ((HX.out.below hA9.below).wider (fun _ _ => trivial))
            obtain ⟨a7, c7, hu9, hL7⟩ := heads_lst hHD hA9.row
            subst hu9
            refine chain_call (i := 8) (d := 77) (f := 21) (args := #[.int .i64 K, .int .i64 LB, .slice a7 (l ++ [T]).length c7]) (by kernel_rfl) rfl rfl rfl (by go_simp) ?_
            refine (HSUM.out _ a7 c7 w9 hL7 (ht0.out.below (hq.call hA9.below).out)).mono ?_
            rintro e w8 ⟨rfl, hb8⟩
            have hU8 : Up wc w8 := hA9.below.trans (hb8.mono hA9.below.size)
            refine ⟨.tuple #[.int .i64 (V1 + V2), .int .i64 0], rfl, hU8, ?_⟩
            simp only [Act.put, List.setIfInBounds_toArray, List.set_cons_zero, List.set_cons_succ]
            refine chain_take (i := 9) (d := 68) (v := .tuple #[.int .i64 (V1 + V2), .int .i64 0]) rfl rfl (by kernel_rfl) (by kernel_rfl) (by kernel_rfl) rfl (fun _ _ => rfl) (fun _ _ _ h => h) hU8 ?_
            simp only [Act.put, List.setIfInBounds_toArray, List.set_cons_zero, List.set_cons_succ]
            refine chain_take (i := 10) (d := 78) (v := .int .i64 (V1 + V2)) rfl rfl (by kernel_rfl) (by kernel_rfl) (by kernel_rfl) rfl (fun _ _ => (by go_simp)) (fun _ _ _ h => h) hU8 ?_
            simp only [Act.put, List.setIfInBounds_toArray, List.set_cons_zero, List.set_cons_succ]
            refine chain_take (i := 11) (d := 79) (v := .int .i64 0) rfl rfl (by kernel_rfl) (by kernel_rfl) (by kernel_rfl) rfl (fun _ _ => (by go_simp)) (fun _ _ _ h => h) hU8 ?_
            simp only [Act.put, List.setIfInBounds_toArray, List.set_cons_zero, List.set_cons_succ]
            refine chain_take (i := 12) (d := 15) (v := .int .i64 (V1 + V2)) rfl rfl (by kernel_rfl) (by kernel_rfl) (by kernel_rfl) rfl (fun _ _ => rfl) (fun _ _ _ h => h) hU8 ?_
            simp only [Act.put, List.setIfInBounds_toArray, List.set_cons_zero, List.set_cons_succ]
            refine chain_take (i := 13) (d := 16) (v := .int .i64 0) rfl rfl (by kernel_rfl) (by kernel_rfl) (by kernel_rfl) rfl (fun _ _ => rfl) (fun _ _ _ h => h) hU8 ?_
            simp only [Act.put, List.setIfInBounds_toArray, List.set_cons_zero, List.set_cons_succ]
            refine wpAnyH_done (by kernel_rfl) ?_ _
            go_wp2_with fail
            go_meet
            exact ⟨rfl, rfl, hU8⟩
          · simp only [Act.put, List.setIfInBounds_toArray, List.set_cons_zero, List.set_cons_succ]
            have hE2 := hE.up (Up.alloc (Up.refl _) (o := .cells #[.int .i64 kk, .int .i64 n, .string s, .slice ta m tc] 24)).out
            obtain ⟨u5, w5, hr5, hi5, hg5, ho5⟩ := cs_append hdT ((WD.alloc (.cells #[] 24)).alloc (.cells #[.int .i64 kk, .int .i64 n, .string s, .slice ta m tc] 24)) 22 _ [] hs a l.length cap hE2.row (HCS.out.up hE2.below) HCN.out hlh.symm (by simp; omega)
            have hA5 := hE2.more hi5 hg5 ho5
            rw [List.nil_append] at hA5
            refine chain_value (i := 4) (d := 73) (v := u5) (w' := w5) (by kernel_rfl) rfl rfl rfl (exec_append rfl rfl hr5) (hA5.below) ?_
            simp only [Act.put, List.setIfInBounds_toArray, List.set_cons_zero, List.set_cons_succ]
            obtain ⟨u9, w9, hr9, hi9, hg9, ho9⟩ := append_elem hdT (w5) 22 _ hs (⟨kk, n, s, ta, m, tc⟩ : Hd4) hA5.row ((WD.alloc (.cells #[] 24)).heap.size) (grown_any13 hg5 (new_block _ _) (fun e => (by simp [Value.ownBlock] at e))) rfl (by omega)
            have hA9 := hA5.more hi9 hg9 ho9
            refine chain_value (i := 7) (d := 76) (v := u9) (w' := w9) (by kernel_rfl) rfl rfl rfl (exec_append rfl rfl hr9) (hA9.below) ?_
            simp only [Act.put, List.setIfInBounds_toArray, List.set_cons_zero, List.set_cons_succ]
            have hHD : Heads w9 (fun _ => True) (l ++ [T]) (hs ++ [⟨kk, n, s, ta, m, tc⟩]) := Heads.snoc (HD4.out.up hA9.below) ((HX.out.below hA9.below).wider (fun _ _ => trivial))
            obtain ⟨a7, c7, hu9, hL7⟩ := heads_lst hHD hA9.row
            subst hu9
            refine chain_call (i := 8) (d := 77) (f := 21) (args := #[.int .i64 K, .int .i64 LB, .slice a7 (l ++ [T]).length c7]) (by kernel_rfl) rfl rfl rfl (by go_simp) ?_
            refine (HSUM.out _ a7 c7 w9 hL7 (ht0.out.below (hq.call hA9.below).out)).mono ?_
            rintro e w8 ⟨rfl, hb8⟩
            have hU8 : Up wc w8 := hA9.below.trans (hb8.mono hA9.below.size)
            refine ⟨.tuple #[.int .i64 (V1 + V2), .int .i64 0], rfl, hU8, ?_⟩
            simp only [Act.put, List.setIfInBounds_toArray, List.set_cons_zero, List.set_cons_succ]
            refine chain_take (i := 9) (d := 68) (v := .tuple #[.int .i64 (V1 + V2), .int .i64 0]) rfl rfl (by kernel_rfl) (by kernel_rfl) (by kernel_rfl) rfl (fun _ _ => rfl) (fun _ _ _ h => h) hU8 ?_
            simp only [Act.put, List.setIfInBounds_toArray, List.set_cons_zero, List.set_cons_succ]
            refine chain_take (i := 10) (d := 78) (v := .int .i64 (V1 + V2)) rfl rfl (by kernel_rfl) (by kernel_rfl) (by kernel_rfl) rfl (fun _ _ => (by go_simp)) (fun _ _ _ h => h) hU8 ?_
            simp only [Act.put, List.setIfInBounds_toArray, List.set_cons_zero, List.set_cons_succ]
            refine chain_take (i := 11) (d := 79) (v := .int .i64 0) rfl rfl (by kernel_rfl) (by kernel_rfl) (by kernel_rfl) rfl (fun _ _ => (by go_simp)) (fun _ _ _ h => h) hU8 ?_
            simp only [Act.put, List.setIfInBounds_toArray, List.set_cons_zero, List.set_cons_succ]
            refine chain_take (i := 12) (d := 15) (v := .int .i64 (V1 + V2)) rfl rfl (by kernel_rfl) (by kernel_rfl) (by kernel_rfl) rfl (fun _ _ => rfl) (fun _ _ _ h => h) hU8 ?_
            simp only [Act.put, List.setIfInBounds_toArray, List.set_cons_zero, List.set_cons_succ]
            refine chain_take (i := 13) (d := 16) (v := .int .i64 0) rfl rfl (by kernel_rfl) (by kernel_rfl) (by kernel_rfl) rfl (fun _ _ => rfl) (fun _ _ _ h => h) hU8 ?_
            simp only [Act.put, List.setIfInBounds_toArray, List.set_cons_zero, List.set_cons_succ]
            refine wpAnyH_done (by kernel_rfl) ?_ _
            go_wp2_with fail
            go_meet
            exact ⟨rfl, rfl, hU8⟩
        · simp only [Act.put, List.setIfInBounds_toArray, List.set_cons_zero, List.set_cons_succ]
          have hE := Apn.empty hdT (Up.alloc HD0 (o := .cells #[.int .i64 kk, .int .i64 n, .string s, .slice ta m tc] 24))
          refine chain_value (i := 2) (d := 71) (v := .slice (some ⟨(WD.alloc (.cells #[.int .i64 kk, .int .i64 n, .string s, .slice ta m tc] 24)).heap.size, 0, none⟩) 0 0) (w' := ((WD.alloc (.cells #[.int .i64 kk, .int .i64 n, .string s, .slice ta m tc] 24)).alloc (.cells #[] 24))) (by kernel_rfl) rfl rfl rfl (by go_simp) hE.below ?_
          simp only [Act.put, List.setIfInBounds_toArray, List.set_cons_zero, List.set_cons_succ]
          obtain ⟨u6, w6, hr6, hi6, hg6, ho6⟩ := cs_append hdT ((WD.alloc (.cells #[.int .i64 kk, .int .i64 n, .string s, .slice ta m tc] 24)).alloc (.cells #[] 24)) 22 _ [] hs a l.length cap hE.row (HCS.out.up hE.below) HCN.out hlh.symm (by simp; omega)
          have hA6 := hE.more hi6 hg6 ho6
          rw [List.nil_append] at hA6
          refine chain_value (i := 4) (d := 73) (v := u6) (w' := w6) (by kernel_rfl) rfl rfl rfl (exec_append rfl rfl hr6) (hA6.below) ?_
          simp only [Act.put, List.setIfInBounds_toArray, List.set_cons_zero, List.set_cons_succ]
          obtain ⟨u9, w9, hr9, hi9, hg9, ho9⟩ := append_elem hdT (w6) 22 _ hs (⟨kk, n, s, ta, m, tc⟩ : Hd4) hA6.row (WD.heap.size) (grown_any13 hg6 (new_block1 _ _ _) (fun e => (by simp [Value.ownBlock] at e))) rfl (by omega)
          have hA9 := hA6.more hi9 hg9 ho9
          refine chain_value (i := 7) (d := 76) (v := u9) (w' := w9) (by kernel_rfl) rfl rfl rfl (exec_append rfl rfl hr9) (hA9.below) ?_
          simp only [Act.put, List.setIfInBounds_toArray, List.set_cons_zero, List.set_cons_succ]
          have hHD : Heads w9 (fun _ => True) (l ++ [T]) (hs ++ [⟨kk, n, s, ta, m, tc⟩]) := Heads.snoc (HD4.out.up hA9.below) ((HX.out.below hA9.below).wider (fun _ _ => trivial))
          obtain ⟨a7, c7, hu9, hL7⟩ := heads_lst hHD hA9.row
          subst hu9
          refine chain_call (i := 8) (d := 77) (f := 21) (args := #[.int .i64 K, .int .i64 LB, .slice a7 (l ++ [T]).length c7]) (by kernel_rfl) rfl rfl rfl (by go_simp) ?_
          refine (HSUM.out _ a7 c7 w9 hL7 (ht0.out.below (hq.call hA9.below).out)).mono ?_
          rintro e w8 ⟨rfl, hb8⟩
          have hU8 : Up wc w8 := hA9.below.trans (hb8.mono hA9.below.size)
          refine ⟨.tuple #[.int .i64 (V1 + V2), .int .i64 0], rfl, hU8, ?_⟩
          simp only [Act.put, List.setIfInBounds_toArray, List.set_cons_zero, List.set_cons_succ]
          refine chain_take (i := 9) (d := 68) (v := .tuple #[.int .i64 (V1 + V2), .int .i64 0]) rfl rfl (by kernel_rfl) (by kernel_rfl) (by kernel_rfl) rfl (fun _ _ => rfl) (fun _ _ _ h => h) hU8 ?_
          simp only [Act.put, List.setIfInBounds_toArray, List.set_cons_zero, List.set_cons_succ]
          refine chain_take (i := 10) (d := 78) (v := .int .i64 (V1 + V2)) rfl rfl (by kernel_rfl) (by kernel_rfl) (by kernel_rfl) rfl (fun _ _ => (by go_simp)) (fun _ _ _ h => h) hU8 ?_
          simp only [Act.put, List.setIfInBounds_toArray, List.set_cons_zero, List.set_cons_succ]
          refine chain_take (i := 11) (d := 79) (v := .int .i64 0) rfl rfl (by kernel_rfl) (by kernel_rfl) (by kernel_rfl) rfl (fun _ _ => (by go_simp)) (fun _ _ _ h => h) hU8 ?_
          simp only [Act.put, List.setIfInBounds_toArray, List.set_cons_zero, List.set_cons_succ]
          refine chain_take (i := 12) (d := 15) (v := .int .i64 (V1 + V2)) rfl rfl (by kernel_rfl) (by kernel_rfl) (by kernel_rfl) rfl (fun _ _ => rfl) (fun _ _ _ h => h) hU8 ?_
          simp only [Act.put, List.setIfInBounds_toArray, List.set_cons_zero, List.set_cons_succ]
          refine chain_take (i := 13) (d := 16) (v := .int .i64 0) rfl rfl (by kernel_rfl) (by kernel_rfl) (by kernel_rfl) rfl (fun _ _ => rfl) (fun _ _ _ h => h) hU8 ?_
          simp only [Act.put, List.setIfInBounds_toArray, List.set_cons_zero, List.set_cons_succ]
          refine wpAnyH_done (by kernel_rfl) ?_ _
          go_wp2_with fail
          go_meet
          exact ⟨rfl, rfl, hU8⟩
      case rest =>
        obtain ⟨rfl, rfl, hU⟩ := hcut
        have hq9 := hq.call hU.out
        obtain ⟨g0, g1, g2, g3⟩ := hq9.four hbx
        have hp := hpv.out rfl
        have r1 := hv1.out
        have r2 := hv2.out
        have r3 := objV_range T
        have r4 := nodeN_range K
        have w8 : IntKind.i64.wrap (V1 + V2) = V1 + V2 := wrap_id (by omega) (by omega)
        have w9 : IntKind.i64.wrap (objV T + nodeN K) = objV T + nodeN K := wrap_id (by omega) (by omega)
        have hge := hp.2.2
        have hob := Hid.mk (show ∀ S v W, Lies W S T v → Tabs W → Calls Tryd.prog 9 #[v] W fun e w' => e = .returned (.tuple #[.int .i64 (objV T), .int .i64 0]) ∧ Below W.heap.size W w' from fun S v W hv ht => by
          have h := objectI_any T (by have := hC2.out.2; omega) S v W hv ht.shape
          rw [hp.1] at h
          exact h)
        have hrd := Hid.mk (show ∀ W, Calls Tryd.prog 29 #[.int .i64 (objV T)] W fun e w' => e = .returned (.int .i64 (objV T)) ∧ W = w' from fun W => by
          have h := round_any (objV T) W
          rw [hp.2.1] at h
          exact h)
        clear hp r1 r2 r3 r4
        generalize objV T = O at *
        generalize nodeN K = N at *
        go_wp2_with (first
          | (go_at_call 9; refine (hob.out _ _ _ (hv0.out.below hq9.out) (ht0.out.below hq9.out)).mono ?_; rintro e w10 ⟨rfl, hb⟩; have hq9 := hq9.call hb; clear hb)
          | (go_at_call 29; refine (hrd.out _).mono ?_; rintro e w11 ⟨rfl, rfl⟩)
          | (go_at_call 12; refine (hnd.out _ (ht0.out.below hq9.out).kind).mono ?_; rintro e w11 ⟨rfl, rfl⟩))
        go_ret
        exact ⟨rfl, hret.out _ hq9⟩
    · have w1 := wLB rfl
      clear hLB wLB
      go_upto_region 13 with fail
      go_cut [15, 16] (fun s15 s16 wx => s15 = .int .i64 (V1 + V2) ∧ s16 = .int .i64 0 ∧ Up wc wx)
      case first =>
        refine wp_region_held (S := Up wc) (by kernel_rfl) ?_
        refine chain_take (i := 0) (d := 69) (v := .int .i64 K) rfl rfl (by kernel_rfl) (by kernel_rfl) (by kernel_rfl) rfl (fun _ _ => rfl) (fun _ _ _ h => h) (Up.refl wc).drew ?_
        simp only [Act.put, List.setIfInBounds_toArray, List.set_cons_zero, List.set_cons_succ]
        refine chain_take (i := 1) (d := 70) (v := .int .i64 LB) rfl rfl (by kernel_rfl) (by kernel_rfl) (by kernel_rfl) rfl (fun _ _ => rfl) (fun _ _ _ h => h) (Up.refl wc).drew ?_
        simp only [Act.put, List.setIfInBounds_toArray, List.set_cons_zero, List.set_cons_succ]
        refine chain_take (i := 3) (d := 72) (v := .slice a l.length cap) rfl rfl (by kernel_rfl) (by kernel_rfl) (by kernel_rfl) rfl (fun _ _ => rfl) (fun _ _ _ h => h) (Up.refl wc).drew ?_
        simp only [Act.put, List.setIfInBounds_toArray, List.set_cons_zero, List.set_cons_succ]
        refine chain_take (i := 5) (d := 74) (v := .agg #[.int .i64 kk, .int .i64 n, .string s, .slice ta m tc]) rfl rfl (by kernel_rfl) (by kernel_rfl) (by kernel_rfl) rfl (fun W h => (by have u0 := cell_below h.out _ _ _ g0; have u1 := cell_below h.out _ _ _ g1; have u2 := cell_below h.out _ _ _ g2; have u3 := cell_below h.out _ _ _ g3; go_simp)) (fun _ _ _ h => h) (Up.refl wc).drew ?_
        simp only [Act.put, List.setIfInBounds_toArray, List.set_cons_zero, List.set_cons_succ]
        obtain ⟨WD, hWD⟩ : ∃ WD, ({ wc with drawn := wc.drawn + 1 } : World) = WD := ⟨_, rfl⟩
        have HD0 : Up wc WD := by rw [← hWD]; exact (Up.refl wc).drew
        rw [hWD]
        clear hWD g0 g1 g2 g3
        refine chain_fork (i := 2) (j := 6) (di := 71) (dj := 75) (vi := .slice (some ⟨WD.heap.size, 0, none⟩) 0 0) (vj := .slice (some ⟨WD.heap.size, 0, none⟩) 1 1) (wi := (WD.alloc (.cells #[] 24))) (wj := (WD.alloc (.cells #[.int .i64 kk, .int .i64 n, .string s, .slice ta m tc] 24))) (by kernel_rfl) rfl rfl rfl (by go_simp) (Up.alloc HD0) rfl rfl rfl (by go_simp) (Up.alloc HD0) ?_ ?_
        · simp only [Act.put, List.setIfInBounds_toArray, List.set_cons_zero, List.set_cons_succ]
          have hE := Apn.empty hdT HD0
          obtain ⟨u3, w3, hr3, hi3, hg3, ho3⟩ := cs_append hdT (WD.alloc (.cells #[] 24)) 22 _ [] hs a l.length cap hE.row (HCS.out.up hE.below) HCN.out hlh.symm (by simp; omega)
          have hA3 := hE.more hi3 hg3 ho3
          rw [List.nil_append] at hA3
          refine chain_fork (i := 4) (j := 6) (di := 73) (dj := 75) (vi := u3) (vj := .slice (some ⟨(WD.alloc (.cells #[] 24)).heap.size, 0, none⟩) 1 1) (wi := w3) (wj := ((WD.alloc (.cells #[] 24)).alloc (.cells #[.int .i64 kk, .int .i64 n, .string s, .slice ta m tc] 24))) (by kernel_rfl) rfl rfl rfl (exec_append rfl rfl hr3) hA3.below rfl rfl rfl (by go_simp) (Up.alloc (Up.alloc HD0)) ?_ ?_
          · simp only [Act.put, List.setIfInBounds_toArray, List.set_cons_zero, List.set_cons_succ]
            have hA4 := hA3.up (Up.alloc (Up.refl w3) (o := .cells #[.int .i64 kk, .int .i64 n, .string s, .slice ta m tc] 24)).out
            refine chain_value (i := 6) (d := 75) (v := .slice (some ⟨w3.heap.size, 0, none⟩) 1 1) (w' := w3.alloc (.cells #[.int .i64 kk, .int .i64 n, .string s, .slice ta m tc] 24)) (by kernel_rfl) rfl rfl rfl (by go_simp) (hA4.below) ?_
            simp only [Act.put, List.setIfInBounds_toArray, List.set_cons_zero, List.set_cons_succ]
            obtain ⟨u9, w9, hr9, hi9, hg9, ho9⟩ := append_elem hdT (w3.alloc (.cells #[.int .i64 kk, .int .i64 n, .string s, .slice ta m tc] 24)) 22 _ hs (⟨kk, n, s, ta, m, tc⟩ : Hd4) hA4.row (w3.heap.size) (new_block _ _) rfl (by omega)
            have hA9 := hA4.more hi9 hg9 ho9
            refine chain_value (i := 7) (d := 76) (v := u9) (w' := w9) (by kernel_rfl) rfl rfl rfl (exec_append rfl rfl hr9) (hA9.below) ?_
            simp only [Act.put, List.setIfInBounds_toArray, List.set_cons_zero, List.set_cons_succ]
            have hHD : Heads w9 (fun _ => True) (l ++ [T]) (hs ++ [⟨kk, n, s, ta, m, tc⟩]) := Heads.snoc (HD4.out.up hA9.below) ((HX.out.below hA9.below).wider (fun _ _ => trivial))
            obtain ⟨a7, c7, hu9, hL7⟩ := heads_lst hHD hA9.row
            subst hu9
            refine chain_call (i := 8) (d := 77) (f := 21) (args := #[.int .i64 K, .int .i64 LB, .slice a7 (l ++ [T]).length c7]) (by kernel_rfl) rfl rfl rfl (by go_simp) ?_
            refine (HSUM.out _ a7 c7 w9 hL7 (ht0.out.below (hq.call hA9.below).out)).mono ?_
            rintro e w8 ⟨rfl, hb8⟩
            have hU8 : Up wc w8 := hA9.below.trans (hb8.mono hA9.below.size)
            refine ⟨.tuple #[.int .i64 (V1 + V2), .int .i64 0], rfl, hU8, ?_⟩
            simp only [Act.put, List.setIfInBounds_toArray, List.set_cons_zero, List.set_cons_succ]
            refine chain_take (i := 9) (d := 68) (v := .tuple #[.int .i64 (V1 + V2), .int .i64 0]) rfl rfl (by kernel_rfl) (by kernel_rfl) (by kernel_rfl) rfl (fun _ _ => rfl) (fun _ _ _ h => h) hU8 ?_
            simp only [Act.put, List.setIfInBounds_toArray, List.set_cons_zero, List.set_cons_succ]
            refine chain_take (i := 10) (d := 78) (v := .int .i64 (V1 + V2)) rfl rfl (by kernel_rfl) (by kernel_rfl) (by kernel_rfl) rfl (fun _ _ => (by go_simp)) (fun _ _ _ h => h) hU8 ?_
            simp only [Act.put, List.setIfInBounds_toArray, List.set_cons_zero, List.set_cons_succ]
            refine chain_take (i := 11) (d := 79) (v := .int .i64 0) rfl rfl (by kernel_rfl) (by kernel_rfl) (by kernel_rfl) rfl (fun _ _ => (by go_simp)) (fun _ _ _ h => h) hU8 ?_
            simp only [Act.put, List.setIfInBounds_toArray, List.set_cons_zero, List.set_cons_succ]
            refine chain_take (i := 12) (d := 15) (v := .int .i64 (V1 + V2)) rfl rfl (by kernel_rfl) (by kernel_rfl) (by kernel_rfl) rfl (fun _ _ => rfl) (fun _ _ _ h => h) hU8 ?_
            simp only [Act.put, List.setIfInBounds_toArray, List.set_cons_zero, List.set_cons_succ]
            refine chain_take (i := 13) (d := 16) (v := .int .i64 0) rfl rfl (by kernel_rfl) (by kernel_rfl) (by kernel_rfl) rfl (fun _ _ => rfl) (fun _ _ _ h => h) hU8 ?_
            simp only [Act.put, List.setIfInBounds_toArray, List.set_cons_zero, List.set_cons_succ]
            refine wpAnyH_done (by kernel_rfl) ?_ _
            go_wp2_with fail
            go_meet
            exact ⟨rfl, rfl, hU8⟩
          · simp only [Act.put, List.setIfInBounds_toArray, List.set_cons_zero, List.set_cons_succ]
            have hE2 := hE.up (Up.alloc (Up.refl _) (o := .cells #[.int .i64 kk, .int .i64 n, .string s, .slice ta m tc] 24)).out
            obtain ⟨u5, w5, hr5, hi5, hg5, ho5⟩ := cs_append hdT ((WD.alloc (.cells #[] 24)).alloc (.cells #[.int .i64 kk, .int .i64 n, .string s, .slice ta m tc] 24)) 22 _ [] hs a l.length cap hE2.row (HCS.out.up hE2.below) HCN.out hlh.symm (by simp; omega)
            have hA5 := hE2.more hi5 hg5 ho5
            rw [List.nil_append] at hA5
            refine chain_value (i := 4) (d := 73) (v := u5) (w' := w5) (by kernel_rfl) rfl rfl rfl (exec_append rfl rfl hr5) (hA5.below) ?_
            simp only [Act.put, List.setIfInBounds_toArray, List.set_cons_zero, List.set_cons_succ]
            obtain ⟨u9, w9, hr9, hi9, hg9, ho9⟩ := append_elem hdT (w5) 22 _ hs (⟨kk, n, s, ta, m, tc⟩ : Hd4) hA5.row ((WD.alloc (.cells #[] 24)).heap.size) (grown_any13 hg5 (new_block _ _) (fun e => (by simp [Value.ownBlock] at e))) rfl (by omega)
            have hA9 := hA5.more hi9 hg9 ho9
            refine chain_value (i := 7) (d := 76) (v := u9) (w' := w9) (by kernel_rfl) rfl rfl rfl (exec_append rfl rfl hr9) (hA9.below) ?_
            simp only [Act.put, List.setIfInBounds_toArray, List.set_cons_zero, List.set_cons_succ]
            have hHD : Heads w9 (fun _ => True) (l ++ [T]) (hs ++ [⟨kk, n, s, ta, m, tc⟩]) := Heads.snoc (HD4.out.up hA9.below) ((HX.out.below hA9.below).wider (fun _ _ => trivial))
            obtain ⟨a7, c7, hu9, hL7⟩ := heads_lst hHD hA9.row
            subst hu9
            refine chain_call (i := 8) (d := 77) (f := 21) (args := #[.int .i64 K, .int .i64 LB, .slice a7 (l ++ [T]).length c7]) (by kernel_rfl) rfl rfl rfl (by go_simp) ?_
            refine (HSUM.out _ a7 c7 w9 hL7 (ht0.out.below (hq.call hA9.below).out)).mono ?_
            rintro e w8 ⟨rfl, hb8⟩
            have hU8 : Up wc w8 := hA9.below.trans (hb8.mono hA9.below.size)
            refine ⟨.tuple #[.int .i64 (V1 + V2), .int .i64 0], rfl, hU8, ?_⟩
            simp only [Act.put, List.setIfInBounds_toArray, List.set_cons_zero, List.set_cons_succ]
            refine chain_take (i := 9) (d := 68) (v := .tuple #[.int .i64 (V1 + V2), .int .i64 0]) rfl rfl (by kernel_rfl) (by kernel_rfl) (by kernel_rfl) rfl (fun _ _ => rfl) (fun _ _ _ h => h) hU8 ?_
            simp only [Act.put, List.setIfInBounds_toArray, List.set_cons_zero, List.set_cons_succ]
            refine chain_take (i := 10) (d := 78) (v := .int .i64 (V1 + V2)) rfl rfl (by kernel_rfl) (by kernel_rfl) (by kernel_rfl) rfl (fun _ _ => (by go_simp)) (fun _ _ _ h => h) hU8 ?_
            simp only [Act.put, List.setIfInBounds_toArray, List.set_cons_zero, List.set_cons_succ]
            refine chain_take (i := 11) (d := 79) (v := .int .i64 0) rfl rfl (by kernel_rfl) (by kernel_rfl) (by kernel_rfl) rfl (fun _ _ => (by go_simp)) (fun _ _ _ h => h) hU8 ?_
            simp only [Act.put, List.setIfInBounds_toArray, List.set_cons_zero, List.set_cons_succ]
            refine chain_take (i := 12) (d := 15) (v := .int .i64 (V1 + V2)) rfl rfl (by kernel_rfl) (by kernel_rfl) (by kernel_rfl) rfl (fun _ _ => rfl) (fun _ _ _ h => h) hU8 ?_
            simp only [Act.put, List.setIfInBounds_toArray, List.set_cons_zero, List.set_cons_succ]
            refine chain_take (i := 13) (d := 16) (v := .int .i64 0) rfl rfl (by kernel_rfl) (by kernel_rfl) (by kernel_rfl) rfl (fun _ _ => rfl) (fun _ _ _ h => h) hU8 ?_
            simp only [Act.put, List.setIfInBounds_toArray, List.set_cons_zero, List.set_cons_succ]
            refine wpAnyH_done (by kernel_rfl) ?_ _
            go_wp2_with fail
            go_meet
            exact ⟨rfl, rfl, hU8⟩
        · simp only [Act.put, List.setIfInBounds_toArray, List.set_cons_zero, List.set_cons_succ]
          have hE := Apn.empty hdT (Up.alloc HD0 (o := .cells #[.int .i64 kk, .int .i64 n, .string s, .slice ta m tc] 24))
          refine chain_value (i := 2) (d := 71) (v := .slice (some ⟨(WD.alloc (.cells #[.int .i64 kk, .int .i64 n, .string s, .slice ta m tc] 24)).heap.size, 0, none⟩) 0 0) (w' := ((WD.alloc (.cells #[.int .i64 kk, .int .i64 n, .string s, .slice ta m tc] 24)).alloc (.cells #[] 24))) (by kernel_rfl) rfl rfl rfl (by go_simp) hE.below ?_
          simp only [Act.put, List.setIfInBounds_toArray, List.set_cons_zero, List.set_cons_succ]
          obtain ⟨u6, w6, hr6, hi6, hg6, ho6⟩ := cs_append hdT ((WD.alloc (.cells #[.int .i64 kk, .int .i64 n, .string s, .slice ta m tc] 24)).alloc (.cells #[] 24)) 22 _ [] hs a l.length cap hE.row (HCS.out.up hE.below) HCN.out hlh.symm (by simp; omega)
          have hA6 := hE.more hi6 hg6 ho6
          rw [List.nil_append] at hA6
          refine chain_value (i := 4) (d := 73) (v := u6) (w' := w6) (by kernel_rfl) rfl rfl rfl (exec_append rfl rfl hr6) (hA6.below) ?_
          simp only [Act.put, List.setIfInBounds_toArray, List.set_cons_zero, List.set_cons_succ]
          obtain ⟨u9, w9, hr9, hi9, hg9, ho9⟩ := append_elem hdT (w6) 22 _ hs (⟨kk, n, s, ta, m, tc⟩ : Hd4) hA6.row (WD.heap.size) (grown_any13 hg6 (new_block1 _ _ _) (fun e => (by simp [Value.ownBlock] at e))) rfl (by omega)
          have hA9 := hA6.more hi9 hg9 ho9
          refine chain_value (i := 7) (d := 76) (v := u9) (w' := w9) (by kernel_rfl) rfl rfl rfl (exec_append rfl rfl hr9) (hA9.below) ?_
          simp only [Act.put, List.setIfInBounds_toArray, List.set_cons_zero, List.set_cons_succ]
          have hHD : Heads w9 (fun _ => True) (l ++ [T]) (hs ++ [⟨kk, n, s, ta, m, tc⟩]) := Heads.snoc (HD4.out.up hA9.below) ((HX.out.below hA9.below).wider (fun _ _ => trivial))
          obtain ⟨a7, c7, hu9, hL7⟩ := heads_lst hHD hA9.row
          subst hu9
          refine chain_call (i := 8) (d := 77) (f := 21) (args := #[.int .i64 K, .int .i64 LB, .slice a7 (l ++ [T]).length c7]) (by kernel_rfl) rfl rfl rfl (by go_simp) ?_
          refine (HSUM.out _ a7 c7 w9 hL7 (ht0.out.below (hq.call hA9.below).out)).mono ?_
          rintro e w8 ⟨rfl, hb8⟩
          have hU8 : Up wc w8 := hA9.below.trans (hb8.mono hA9.below.size)
          refine ⟨.tuple #[.int .i64 (V1 + V2), .int .i64 0], rfl, hU8, ?_⟩
          simp only [Act.put, List.setIfInBounds_toArray, List.set_cons_zero, List.set_cons_succ]
          refine chain_take (i := 9) (d := 68) (v := .tuple #[.int .i64 (V1 + V2), .int .i64 0]) rfl rfl (by kernel_rfl) (by kernel_rfl) (by kernel_rfl) rfl (fun _ _ => rfl) (fun _ _ _ h => h) hU8 ?_
          simp only [Act.put, List.setIfInBounds_toArray, List.set_cons_zero, List.set_cons_succ]
          refine chain_take (i := 10) (d := 78) (v := .int .i64 (V1 + V2)) rfl rfl (by kernel_rfl) (by kernel_rfl) (by kernel_rfl) rfl (fun _ _ => (by go_simp)) (fun _ _ _ h => h) hU8 ?_
          simp only [Act.put, List.setIfInBounds_toArray, List.set_cons_zero, List.set_cons_succ]
          refine chain_take (i := 11) (d := 79) (v := .int .i64 0) rfl rfl (by kernel_rfl) (by kernel_rfl) (by kernel_rfl) rfl (fun _ _ => (by go_simp)) (fun _ _ _ h => h) hU8 ?_
          simp only [Act.put, List.setIfInBounds_toArray, List.set_cons_zero, List.set_cons_succ]
          refine chain_take (i := 12) (d := 15) (v := .int .i64 (V1 + V2)) rfl rfl (by kernel_rfl) (by kernel_rfl) (by kernel_rfl) rfl (fun _ _ => rfl) (fun _ _ _ h => h) hU8 ?_
          simp only [Act.put, List.setIfInBounds_toArray, List.set_cons_zero, List.set_cons_succ]
          refine chain_take (i := 13) (d := 16) (v := .int .i64 0) rfl rfl (by kernel_rfl) (by kernel_rfl) (by kernel_rfl) rfl (fun _ _ => rfl) (fun _ _ _ h => h) hU8 ?_
          simp only [Act.put, List.setIfInBounds_toArray, List.set_cons_zero, List.set_cons_succ]
          refine wpAnyH_done (by kernel_rfl) ?_ _
          go_wp2_with fail
          go_meet
          exact ⟨rfl, rfl, hU8⟩
      case rest =>
        obtain ⟨rfl, rfl, hU⟩ := hcut
        have hq9 := hq.call hU.out
        obtain ⟨g0, g1, g2, g3⟩ := hq9.four hbx
        have hp := hpv.out rfl
        have r1 := hv1.out
        have r2 := hv2.out
        have r3 := objV_range T
        have r4 := nodeN_range K
        have w8 : IntKind.i64.wrap (V1 + V2) = V1 + V2 := wrap_id (by omega) (by omega)
        have w9 : IntKind.i64.wrap (objV T + nodeN K) = objV T + nodeN K := wrap_id (by omega) (by omega)
        have hge := hp.2.2
        have hob := Hid.mk (show ∀ S v W, Lies W S T v → Tabs W → Calls Tryd.prog 9 #[v] W fun e w' => e = .returned (.tuple #[.int .i64 (objV T), .int .i64 0]) ∧ Below W.heap.size W w' from fun S v W hv ht => by
          have h := objectI_any T (by have := hC2.out.2; omega) S v W hv ht.shape
          rw [hp.1] at h
          exact h)
        have hrd := Hid.mk (show ∀ W, Calls Tryd.prog 29 #[.int .i64 (objV T)] W fun e w' => e = .returned (.int .i64 (objV T)) ∧ W = w' from fun W => by
          have h := round_any (objV T) W
          rw [hp.2.1] at h
          exact h)
        clear hp r1 r2 r3 r4
        generalize objV T = O at *
        generalize nodeN K = N at *
        go_wp2_with (first
          | (go_at_call 9; refine (hob.out _ _ _ (hv0.out.below hq9.out) (ht0.out.below hq9.out)).mono ?_; rintro e w10 ⟨rfl, hb⟩; have hq9 := hq9.call hb; clear hb)
          | (go_at_call 29; refine (hrd.out _).mono ?_; rintro e w11 ⟨rfl, rfl⟩)
          | (go_at_call 12; refine (hnd.out _ (ht0.out.below hq9.out).kind).mono ?_; rintro e w11 ⟨rfl, rfl⟩))
        go_ret
        exact ⟨rfl, hret.out _ hq9⟩
end Go.Proofs.YtamafhcgjbkikaaDoor
