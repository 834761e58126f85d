/-
  OrderSorts: what the statement says, of every input.
-/
import Derived.Test.YtabcekeeekbdiaaOrdKnown
namespace Go.Proofs.Ytabcekeeekbdiaa
open Go.RowKit Go.Deep

theorem copyIn_any (l : List Tm) (L : Nat) (hL : l.length = L) (hsz : sizes l ≤ 1000000) (a : Option Addr) (cap : Nat) (w : World) (hl : IsL w l a cap) : Calls Try.prog 14 #[.slice a L cap] w fun e w' => (∃ a' cap', e = .returned (.slice a' L cap') ∧ IsL w' l a' cap') ∧ Below w.heap.size w w' := by
  subst hL
  refine (copyAll_any l hsz _ a cap w hl).mono ?_
  rintro e w' ⟨⟨sv, rfl, ho⟩, hb⟩
  obtain ⟨a', cap', rfl, h⟩ := ho.lst
  exact ⟨⟨a', cap', rfl, h.is⟩, hb⟩
theorem oSort (l : List Tm) (L : Nat) (hL : l.length = L) (hlen : L ≤ 1000000) (hsz : ∀ t ∈ l, t.size ≤ 1000000 ∧ t.Short) (a : Option Addr) (cap : Nat) (w : World) (hl : IsL w l a cap) : Calls Try.prog 15 #[.slice a L cap] w fun e w' => (∃ a' cap', e = .returned (.slice a' L cap') ∧ NewL w (sortT l) a' cap' w') ∧ Below w.heap.size w w' := by
  subst hL
  have := sort_any l hlen hsz _ a cap w hl
  rw [sortT_length] at this
  exact this
theorem oUniq (l : List Tm) (L M : Nat) (hL : l.length = L) (hM : (uniqT (sortT l)).length = M) (hlen : L ≤ 1000000) (hsz : ∀ t ∈ l, t.size ≤ 1000000 ∧ t.Short) (a : Option Addr) (cap : Nat) (w : World) (hl : IsL w l a cap) : Calls Try.prog 16 #[.slice a L cap] w fun e w' => (∃ a' cap', e = .returned (.slice a' M cap') ∧ NewL w (uniqT (sortT l)) a' cap' w') ∧ Below w.heap.size w w' := by
  subst hL hM
  exact unique_any l hlen hsz _ a cap w hl
theorem rSort (l : List Tm) (L : Nat) (hL : l.length = L) (hlen : L ≤ 1000000) (a : Option Addr) (cap : Nat) (w : World) (hl : IsL w l a cap) : Calls Try.prog 18 #[.slice a L cap] w fun e w' => (∃ a' cap', e = .returned (.slice a' L cap') ∧ IsL w' (sortT l) a' cap') ∧ Below w.heap.size w w' := by
  subst hL
  refine (refsort_any l hlen _ a cap w hl).mono ?_
  rintro e w' ⟨⟨a', cap', rfl, h⟩, hb⟩
  exact ⟨⟨a', cap', rfl, h.is⟩, hb⟩
theorem rUniq (l : List Tm) (L M : Nat) (hL : l.length = L) (hM : (uniqT (sortT l)).length = M) (hlen : L ≤ 1000000) (a : Option Addr) (cap : Nat) (w : World) (hl : IsL w l a cap) : Calls Try.prog 19 #[.slice a L cap] w fun e w' => (∃ a' cap', e = .returned (.slice a' M cap') ∧ IsL w' (uniqT (sortT l)) a' cap') ∧ Below w.heap.size w w' := by
  subst hL hM
  refine (refunique_any l hlen _ a cap w hl).mono ?_
  rintro e w' ⟨⟨a', cap', rfl, h⟩, hb⟩
  exact ⟨⟨a', cap', rfl, h.is⟩, hb⟩
theorem sameN_any (l : List Tm) (n n' : Nat) (hn : l.length = n) (hn' : l.length = n') (a a' : Option Addr) (cap cap' : Nat) (w : World) (hl : IsL w l a cap) (hl' : IsL w l a' cap') : Calls Try.prog 17 #[.slice a n cap, .slice a' n' cap'] w fun e w' => e = .returned (.bool true) ∧ Below w.heap.size w w' := by
  subst hn hn'
  exact sameEq_any l l rfl _ _ a a' cap cap' w hl hl'
theorem oFind (l : List Tm) (L : Nat) (hL : l.length = L) (hlen : L ≤ 1000000) (hs : Sorted l) (T : Tm) (a : Option Addr) (cap : Nat) (v : Value) (w : World) (hl : IsL w l a cap) (hv : Is w T v) : Calls Try.prog 20 #[.slice a L cap, v] w fun e w' => e = .returned (.tuple #[.int .i64 (findN l T), .bool (findB l T)]) ∧ Below w.heap.size w w' := by
  subst hL
  exact find_any l hs hlen T _ _ a cap v w hl hv
theorem rFind (l : List Tm) (L : Nat) (hL : l.length = L) (T : Tm) (a : Option Addr) (cap : Nat) (v : Value) (w : World) (hl : IsL w l a cap) (hv : Is w T v) : Calls Try.prog 21 #[.slice a L cap, v] w fun e w' => e = .returned (.tuple #[.int .i64 (findN l T), .bool (findB l T)]) ∧ Below w.heap.size w w' := by
  subst hL
  exact reffind_any l T _ _ a cap v w hl hv

set_option maxRecDepth 100000 in
set_option maxHeartbeats 8000000 in
theorem lawSorts (l : List Tm) (T : Tm) (a : Option Addr) (cap : Nat) (v : Value) (w : World) (hl0 : IsL w l a cap) (hv0 : Is w T v) :
    Calls Try.prog 4 #[.slice a l.length cap, v] w fun e w' => e = .returned (.bool true) ∧ Below w.heap.size w w' := by
  have hlen : l.length ≤ 9223372036854775807 := Nat.le_trans hl0.1 hl0.2.1
  obtain ⟨k, n, s, a', m', cap', rfl⟩ := hv0.agg
  obtain ⟨W0, hW0⟩ : ∃ W0, w.alloc (.cells #[.int .i64 k, .int .i64 n, .string s, .slice a' m' cap'] 24) = W0 := ⟨_, rfl⟩
  have hu0 : Up w W0 := by rw [← hW0]; exact (Up.refl w).alloc
  have hbx0 : W0.heap[w.heap.size]? = some (.cells #[.int .i64 k, .int .i64 n, .string s, .slice a' m' cap'] 24) := by rw [← hW0]; exact new_block _ _
  have hl := Hid.mk (fun (W : World) (hW : Up W0 W) => (hl0.below hu0.out).below hW.out)
  have hv := Hid.mk (fun (W : World) (hW : Up W0 W) => (hv0.below hu0.out).below hW.out)
  obtain ⟨L, hL⟩ : ∃ L, l.length = L := ⟨_, rfl⟩
  have hbig := Hid.mk (fun (W : World) (hW : Up W0 W) => largeAll_any l (fun _ => True) a cap 400 W (hl.out W hW) (by omega) (by omega))
  have hbig2 := Hid.mk (fun (W : World) (hW : Up W0 W) => largeTerm_any T (fun _ => True) _ 400 W (hv.out W hW) (by omega) (by omega))
  rw [hL] at hlen hbig ⊢
  have hLh := Hid.mk hL
  obtain ⟨⟨q0, q1, q2, q3⟩, _⟩ := kept4 hbx0 (Up.refl W0).out
  clear hl0 hv0 hL
  go_enter Try.func4, Try.ntmps4
  go_upto_region 3 with (first
    | (go_at_call 13; refine (hbig.out _ (Up.refl _)).mono ?_; rintro e w1 ⟨⟨b1, rfl, hB1⟩, hb1⟩; have hu1 : Up W0 w1 := hb1; have hB1 := Hid.mk hB1; obtain ⟨⟨r0, r1, r2, r3⟩, _⟩ := kept4 hbx0 hu1.out)
    | (go_at_call 7; refine (hbig2.out _ hu1).mono ?_; rintro e x0 ⟨⟨b2, rfl, hB2⟩, hb2⟩; have hu2 : Up W0 x0 := hu1.call hb2))
  · go_wp2
    go_ret
    exact ⟨rfl, (hu0.call hu1.out).out⟩
  · go_wp2
    go_ret
    exact ⟨rfl, (hu0.call hu2.out).out⟩
  have hb1f : b1 = false := by first | assumption | simpa using ‹¬ b1 = true›
  have hss := hB1.out hb1f
  subst hb1f
  have hL4 : L ≤ 1000000 := by have := length_sizes l; have := hLh.out; omega
  have hsz6 : Hid (sizes l ≤ 1000000) := Hid.mk (by omega)
  have hsz : Hid (∀ t ∈ l, t.size ≤ 1000000 ∧ t.Short) := Hid.mk (fun t ht => ⟨by have := sizes_mem ht; omega, shorts_at hss.1 t ht⟩)
  have hSl := Hid.mk ((sortT_length l).trans hLh.out)
  obtain ⟨M, hM⟩ : ∃ M, (uniqT (sortT l)).length = M := ⟨_, rfl⟩
  have hM4 : M ≤ 1000000 := by have := uniqT_length (sortT l); have := hSl.out; omega
  have hMh := Hid.mk hM
  have hUs := Hid.mk (uniqT_rising _ (sortT_sorted l)).sorted
  have hUne : Hid (0 < L → 0 < M) := Hid.mk (fun h => by
    have h1 : 0 < (sortT l).length := by have := hSl.out; omega
    obtain ⟨y, hy, _⟩ := uniqT_has (sortT l) (sortT_sorted l) _ (List.getElem_mem h1)
    rw [← hM]
    exact List.length_pos_iff.2 (fun h => by rw [h] at hy; cases hy))
  have hlx := Hid.mk (fun (W : World) (hW : Up x0 W) => hl.out W (hu2.call hW.out))
  have hvx := Hid.mk (fun (W : World) (hW : Up x0 W) => hv.out W (hu2.call hW.out))
  have hbx := (hu2.out.block _ (Array.getElem?_eq_some_iff.1 hbx0).1).trans hbx0
  have hend := Hid.mk (fun (W : World) (hW : Up x0 W) => hu0.call (hu2.call hW.out).out)
  have tk0 := True.intro
  clear hbig hbig2 hB1 hss hM hb1 hb2 hu1 hl hv hbx0 hu0 hu2 q0 q1 q2 q3 r0 r1 r2 r3
  go_upto_region 8 with (first
    | (go_at_call 20; have g := tk8; refine (oFind (uniqT (sortT l)) M hMh.out hM4 hUs.out T ab cb _ _ (hnB.out.lst.is.below u3_8.out) (hvx.out _ u0_8)).mono ?_; rintro e x9 ⟨rfl, hb⟩; have u0_9 := (u0_8).call hb; clear u0_8; have u1_9 := (u1_8).call hb; clear u1_8; have u2_9 := (u2_8).call hb; clear u2_8; have u3_9 := (u3_8).call hb; clear u3_8; have u4_9 := (u4_8).call hb; clear u4_8; have u5_9 := (u5_8).call hb; clear u5_8; have u6_9 := (u6_8).call hb; clear u6_8; have u7_9 := (u7_8).call hb; clear u7_8; have u8_9 := ((Up.refl x8)).call hb; clear tk8; have tk9 := True.intro)
    | (go_at_call 17; have g := tk7; refine (sameN_any l L L hLh.out hLh.out ai a ci cap _ (hin.out.below u1_7.out) (hlx.out _ u0_7)).mono ?_; rintro e x8 ⟨rfl, hb⟩; have u0_8 := (u0_7).call hb; clear u0_7; have u1_8 := (u1_7).call hb; clear u1_7; have u2_8 := (u2_7).call hb; clear u2_7; have u3_8 := (u3_7).call hb; clear u3_7; have u4_8 := (u4_7).call hb; clear u4_7; have u5_8 := (u5_7).call hb; clear u5_7; have u6_8 := (u6_7).call hb; clear u6_7; have u7_8 := ((Up.refl x7)).call hb; obtain ⟨⟨q0, q1, q2, q3⟩, qf0, qf1, qf2, qf3⟩ := kept4 hbx (u0_8).out; clear tk7; have tk8 := True.intro)
    | (go_at_call 17; have g := tk6; refine (sameN_any (uniqT (sortT l)) M M hMh.out hMh.out ab aq cb cq _ (hnB.out.lst.is.below u3_6.out) (hrq.out.below (Up.refl x6).out)).mono ?_; rintro e x7 ⟨rfl, hb⟩; have u0_7 := (u0_6).call hb; clear u0_6; have u1_7 := (u1_6).call hb; clear u1_6; have u2_7 := (u2_6).call hb; clear u2_6; have u3_7 := (u3_6).call hb; clear u3_6; have u4_7 := (u4_6).call hb; clear u4_6; have u5_7 := (u5_6).call hb; clear u5_6; have u6_7 := ((Up.refl x6)).call hb; clear tk6; have tk7 := True.intro)
    | (go_at_call 19; have g := tk5; refine (rUniq l L M hLh.out hMh.out hL4 a cap _ (hlx.out _ u0_5)).mono ?_; rintro e x6 ⟨⟨aq, cq, rfl, hrq⟩, hb⟩; have u0_6 := (u0_5).call hb; clear u0_5; have u1_6 := (u1_5).call hb; clear u1_5; have u2_6 := (u2_5).call hb; clear u2_5; have u3_6 := (u3_5).call hb; clear u3_5; have u4_6 := (u4_5).call hb; clear u4_5; have u5_6 := ((Up.refl x5)).call hb; have hrq := Hid.mk hrq; clear tk5; have tk6 := True.intro)
    | (go_at_call 17; have g := tk4; refine (sameN_any (sortT l) L L hSl.out hSl.out aa ar ca cr _ (hnA.out.lst.is.below u2_4.out) (hrs.out.below (Up.refl x4).out)).mono ?_; rintro e x5 ⟨rfl, hb⟩; have u0_5 := (u0_4).call hb; clear u0_4; have u1_5 := (u1_4).call hb; clear u1_4; have u2_5 := (u2_4).call hb; clear u2_4; have u3_5 := (u3_4).call hb; clear u3_4; have u4_5 := ((Up.refl x4)).call hb; clear tk4; have tk5 := True.intro)
    | (go_at_call 18; have g := tk3; refine (rSort l L hLh.out hL4 a cap _ (hlx.out _ u0_3)).mono ?_; rintro e x4 ⟨⟨ar, cr, rfl, hrs⟩, hb⟩; have u0_4 := (u0_3).call hb; clear u0_3; have u1_4 := (u1_3).call hb; clear u1_3; have u2_4 := (u2_3).call hb; clear u2_3; have u3_4 := ((Up.refl x3)).call hb; have hrs := Hid.mk hrs; clear tk3; have tk4 := True.intro)
    | (go_at_call 16; have g := tk2; refine (oUniq l L M hLh.out hMh.out hL4 hsz.out ai ci _ (hin.out.below u1_2.out)).mono ?_; rintro e x3 ⟨⟨ab, cb, rfl, hnB⟩, hb⟩; have u0_3 := (u0_2).call hb; clear u0_2; have u1_3 := (u1_2).call hb; clear u1_2; have u2_3 := ((Up.refl x2)).call hb; have hnB := Hid.mk hnB; clear tk2; have tk3 := True.intro)
    | (go_at_call 15; have g := tk1; refine (oSort l L hLh.out hL4 hsz.out ai ci _ (hin.out.below (Up.refl x1).out)).mono ?_; rintro e x2 ⟨⟨aa, ca, rfl, hnA⟩, hb⟩; have u0_2 := (u0_1).call hb; clear u0_1; have u1_2 := ((Up.refl x1)).call hb; have hnA := Hid.mk hnA; clear tk1; have tk2 := True.intro)
    | (go_at_call 14; have g := tk0; refine (copyIn_any l L hLh.out hsz6.out a cap _ (hlx.out _ (Up.refl x0))).mono ?_; rintro e x1 ⟨⟨ai, ci, rfl, hin⟩, hb⟩; have u0_1 := ((Up.refl x0)).call hb; have hin := Hid.mk hin; have hsz01 : x0.heap.size ≤ x1.heap.size := hb.size; clear tk0; have tk1 := True.intro))
  have hbx9 := (u0_9.out.block _ (Array.getElem?_eq_some_iff.1 hbx).1).trans hbx
  refine wp_region_held (S := Up x9) (by kernel_rfl) ?_
  refine chain_take (i := 0) (d := 49) (v := .slice a L cap) rfl rfl (by kernel_rfl) (by kernel_rfl) (by kernel_rfl) rfl (fun _ _ => rfl) (fun _ _ _ h => h) (Up.refl x9).drew ?_
  simp only [Act.put, List.setIfInBounds_toArray, List.set_cons_zero, List.set_cons_succ]
  refine chain_take (i := 2) (d := 51) (v := .agg #[.int .i64 k, .int .i64 n, .string s, .slice a' m' cap']) rfl rfl (by kernel_rfl) (by kernel_rfl) (by kernel_rfl) rfl (fun W h => (by obtain ⟨q0, q1, q2, q3⟩ := h.four hbx9; go_simp)) (fun _ _ _ h => h) (Up.refl x9).drew ?_
  simp only [Act.put, List.setIfInBounds_toArray, List.set_cons_zero, List.set_cons_succ]
  refine chain_call (i := 1) (d := 50) (f := 19) (args := #[.slice a L cap]) (by kernel_rfl) rfl rfl rfl (by go_simp) ?_
  refine (rUniq l L M hLh.out hMh.out hL4 a cap _ (hlx.out _ (u0_9.call (Up.refl x9).drew.out))).mono ?_
  rintro e y1 ⟨⟨aq2, cq2, rfl, hrq2⟩, hby1⟩
  have hy1 : Up x9 y1 := (Up.refl x9).drew.call hby1
  refine ⟨_, rfl, hy1, ?_⟩
  simp only [Act.put, List.setIfInBounds_toArray, List.set_cons_zero, List.set_cons_succ]
  refine chain_call (i := 3) (d := 52) (f := 21) (args := #[.slice aq2 M cq2, .agg #[.int .i64 k, .int .i64 n, .string s, .slice a' m' cap']]) (by kernel_rfl) rfl rfl rfl (by go_simp) ?_
  refine (rFind (uniqT (sortT l)) M hMh.out T aq2 cq2 _ _ hrq2 (hvx.out _ (u0_9.call hy1.out))).mono ?_
  rintro e y2 ⟨rfl, hby2⟩
  have hy2 : Up x9 y2 := hy1.call hby2
  refine ⟨_, rfl, hy2, ?_⟩
  simp only [Act.put, List.setIfInBounds_toArray, List.set_cons_zero, List.set_cons_succ]
  refine chain_take (i := 4) (d := 48) (v := .tuple #[.int .i64 (findN (uniqT (sortT l)) T), .bool (findB (uniqT (sortT l)) T)]) rfl rfl (by kernel_rfl) (by kernel_rfl) (by kernel_rfl) rfl (fun _ _ => rfl) (fun _ _ _ h => h) hy2 ?_
  simp only [Act.put, List.setIfInBounds_toArray, List.set_cons_zero, List.set_cons_succ]
  refine chain_take (i := 5) (d := 53) (v := .int .i64 (findN (uniqT (sortT l)) T)) rfl rfl (by kernel_rfl) (by kernel_rfl) (by kernel_rfl) rfl (fun _ _ => rfl) (fun _ _ _ h => h) hy2 ?_
  simp only [Act.put, List.setIfInBounds_toArray, List.set_cons_zero, List.set_cons_succ]
  refine chain_take (i := 6) (d := 54) (v := .bool (findB (uniqT (sortT l)) T)) rfl rfl (by kernel_rfl) (by kernel_rfl) (by kernel_rfl) rfl (fun _ _ => rfl) (fun _ _ _ h => h) hy2 ?_
  simp only [Act.put, List.setIfInBounds_toArray, List.set_cons_zero, List.set_cons_succ]
  refine chain_take (i := 7) (d := 10) (v := .int .i64 (findN (uniqT (sortT l)) T)) rfl rfl (by kernel_rfl) (by kernel_rfl) (by kernel_rfl) rfl (fun _ _ => rfl) (fun _ _ _ h => h) hy2 ?_
  simp only [Act.put, List.setIfInBounds_toArray, List.set_cons_zero, List.set_cons_succ]
  refine chain_take (i := 8) (d := 11) (v := .bool (findB (uniqT (sortT l)) T)) rfl rfl (by kernel_rfl) (by kernel_rfl) (by kernel_rfl) rfl (fun _ _ => rfl) (fun _ _ _ h => h) hy2 ?_
  simp only [Act.put, List.setIfInBounds_toArray, List.set_cons_zero, List.set_cons_succ]
  refine wpAnyH_done (by kernel_rfl) ?_ _
  generalize findN (uniqT (sortT l)) T = qn
  generalize findB (uniqT (sortT l)) T = qb
  have hin2 := Hid.mk (fun (W : World) (hW : Up x1 W) => hin.out.below hW.out)
  have z1 : Up x1 y2 := u1_9.call hy2.out
  have z0 : Up x0 y2 := u0_9.call hy2.out
  by_cases hpos : 0 < L
  rotate_left
  · have hd : decide ((L : Int) > 0) = false := by simp; omega
    go_wp2_with (first
      | (go_at_call 17; refine (sameN_any l L L hLh.out hLh.out ai a ci cap _ (hin2.out _ z1) (hlx.out _ z0)).mono ?_; rintro e y3 ⟨rfl, hb3⟩; have z3 := z0.call hb3)
      | (go_at_call 12; refine (awake_any _).mono ?_; rintro e y4 ⟨rfl, hb4⟩; have z4 := z3.call hb4))
    go_ret
    exact ⟨rfl, (hend.out _ z4).out⟩
  have hd : decide ((L : Int) > 0) = true := by simp; omega
  have hMpos := hUne.out hpos
  obtain ⟨ga, curA, rfl, hga, hcA, hsA⟩ := hnA.out.row (by have := hSl.out; omega)
  obtain ⟨gb, curB, rfl, hgb, hcB, hsB⟩ := hnB.out.row (by have := hMh.out; omega)
  have u2y : Up x2 y2 := u2_9.call hy2.out
  have u3y : Up x3 y2 := u3_9.call hy2.out
  have hcA2 := (u2y.out.block _ (Array.getElem?_eq_some_iff.1 hcA).1).trans hcA
  have hcB2 := (u3y.out.block _ (Array.getElem?_eq_some_iff.1 hcB).1).trans hcB
  have hltA := (Array.getElem?_eq_some_iff.1 hcA).1
  have hne : ga ≠ gb := by omega
  have hne2 : gb ≠ ga := Ne.symm hne
  have hsA2 : 3 < curA.size := by have := hSl.out; omega
  have hsB2 : 3 < curB.size := by have := hMh.out; omega
  have eA : ∀ o, y2.cell? ⟨ga, o, none⟩ = curA[o]? := fun o => cell_of_row y2 ga o curA _ (0, 0) hcA2
  have eB : ∀ o, y2.cell? ⟨gb, o, none⟩ = curB[o]? := fun o => cell_of_row y2 gb o curB _ (0, 0) hcB2
  have fA : ∀ o, y2.frozen? ⟨ga, o, none⟩ = false := fun o => by simp [World.frozen?, hcA2]
  have fB : ∀ o, y2.frozen? ⟨gb, o, none⟩ = false := fun o => by simp [World.frozen?, hcB2]
  have a0 := (eA 0).trans (Array.getElem?_eq_getElem (by omega))
  have a1 := (eA 1).trans (Array.getElem?_eq_getElem (by omega))
  have a2 := (eA 2).trans (Array.getElem?_eq_getElem (by omega))
  have a3 := (eA 3).trans (Array.getElem?_eq_getElem (by omega))
  have b0 := (eB 0).trans (Array.getElem?_eq_getElem (by omega))
  have b1 := (eB 1).trans (Array.getElem?_eq_getElem (by omega))
  have b2 := (eB 2).trans (Array.getElem?_eq_getElem (by omega))
  have b3 := (eB 3).trans (Array.getElem?_eq_getElem (by omega))
  have fa0 := fA 0
  have fa1 := fA 1
  have fa2 := fA 2
  have fa3 := fA 3
  have fb0 := fB 0
  have fb1 := fB 1
  have fb2 := fB 2
  have fb3 := fB 3
  have ha1 : x1.heap.size ≤ ga := hga
  have hb1 : x1.heap.size ≤ gb := by omega
  have ha0 : x0.heap.size ≤ ga := by omega
  have hb0 : x0.heap.size ≤ gb := by omega
  clear eA eB fA fB hcA2 hcB2 hcA hcB hsA hsB
  go_wp2_with (first
    | (go_at_call 17; refine (sameN_any l L L hLh.out hLh.out ai a ci cap _ (hin2.out _ (Below.set4 (Below.set4 z1.out ha1) hb1)) (hlx.out _ (Below.set4 (Below.set4 z0.out ha0) hb0))).mono ?_; rintro e y3 ⟨rfl, hb3⟩; have z3 : Up x0 y3 := Up.call (Below.set4 (Below.set4 z0.out ha0) hb0) hb3)
    | (go_at_call 12; refine (awake_any _).mono ?_; rintro e y4 ⟨rfl, hb4⟩; have z4 := z3.call hb4))
  go_ret
  exact ⟨rfl, (hend.out _ z4).out⟩

end Go.Proofs.Ytabcekeeekbdiaa
