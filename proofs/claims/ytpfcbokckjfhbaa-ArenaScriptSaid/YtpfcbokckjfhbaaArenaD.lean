/-
  The program's arenas: a block's words are set, a block is dropped.
-/
import Derived.Test.YtpfcbokckjfhbaaArenaC
namespace Go.Proofs.Ytpfcbokckjfhbaa
open Go.RowKit Go.Deep Go.Maps Go.WideShapes

/-- What words that are set come to. -/
def setR (B : Blks) (n : Int) (l : List Int) : Nat × Blks := match blk B n with
  | none => (6, B)
  | some o => if rnd l.length = cls o.length then (0, B.set (n - 1).toNat (some l)) else (2, B)
/-- What a block that is dropped comes to. -/
def dropR (B : Blks) (n : Int) : Nat × Blks := match blk B n with
  | none => (6, B)
  | some _ => (0, B.set (n - 1).toNat none)
theorem good_set {B : Blks} {i : Nat} {l : List Int} (h : ∀ x, some x ∈ B → 1 ≤ x.length ∧ x.length ≤ 1000) (h1 : 1 ≤ l.length) (h2 : l.length ≤ 1000) : ∀ x, some x ∈ B.set i (some l) → 1 ≤ x.length ∧ x.length ≤ 1000 := fun x hx => by
  rcases List.mem_or_eq_of_mem_set hx with hx | hx
  · exact h x hx
  · cases hx; exact ⟨h1, h2⟩
theorem good_drop {B : Blks} {i : Nat} (h : ∀ x, some x ∈ B → 1 ≤ x.length ∧ x.length ≤ 1000) : ∀ x, some x ∈ B.set i none → 1 ≤ x.length ∧ x.length ≤ 1000 := fun x hx => by
  rcases List.mem_or_eq_of_mem_set hx with hx | hx
  · exact h x hx
  · cases hx

set_option maxRecDepth 100000 in
set_option maxHeartbeats 4000000 in
theorem set_any (p bm W : Nat) (S : Nat → Prop) (B : Blks) (n : Int) (l : List Int) (a : Option Addr) (cap : Nat) (w : World) (h : Ar w p bm S W B) (hn : In64 n) (hc : Cel w l a) (hl : l.length ≤ 1000) (hB : B.length ≤ 1000) :
    Calls Try.prog 17 #[.pointer (some ⟨p, 0, none⟩), .int .i64 n, .slice a l.length cap] w fun e w' => e = .returned (.int .i64 (setR B n l).1) ∧ Step w p bm S W (setR B n l).2 w' := by
  have hA := Hid.mk h
  unfold setR
  cases hb : blk B n with
  | none =>
    have hf := Hid.mk (find_no p bm W S B n w h hn hb)
    clear h hc hl hB hb hn
    go_enter Try.func17, Try.ntmps17
    go_wp2_with (first
      | (go_at_call 38; refine hf.out.mono ?_; rintro e w1 ⟨rfl, rfl⟩))
    go_ret
    exact ⟨rfl, hA.out.step (Below.refl _ _)⟩
  | some o =>
    have hf := Hid.mk (find_yes p bm W S B n o w h hn hb)
    have ho := h.blk_good hb
    have hro : Hid (∀ w1, Calls Try.prog 13 #[.int .i64 o.length] w1 fun e w' => e = .returned (.int .i64 (cls o.length)) ∧ w1 = w') := Hid.mk (fun w1 => by
      have := round_any (o.length : Int) w1
      rwa [rnd_in (by omega) (by omega)] at this)
    have hrl : Hid (∀ w1, Calls Try.prog 13 #[.int .i64 l.length] w1 fun e w' => e = .returned (.int .i64 (rnd l.length)) ∧ w1 = w') := Hid.mk (fun w1 => round_any (l.length : Int) w1)
    obtain ⟨R, hR⟩ : ∃ R, rnd l.length = R := ⟨_, rfl⟩
    obtain ⟨C, hC⟩ : ∃ C, cls o.length = C := ⟨_, rfl⟩
    have hcp := cls_pos o.length
    rw [hC] at hcp
    simp only
    rw [hR, hC]
    rw [hR] at hrl
    rw [hC] at hro
    by_cases hRC : R = C
    · have h1l : 1 ≤ l.length := by
        rcases Nat.eq_zero_or_pos l.length with e | e
        · rw [rnd_out (by omega)] at hR; omega
        · omega
      have hCl : cls l.length = C := by rw [rnd_in (by omega) (by omega)] at hR; omega
      rw [if_pos hRC]
      have hne : (R != (C : Int)) = false := by simp [hRC]
      have hkey := key_int hn
      have HH := Hid.mk (show 1 ≤ l.length ∧ l.length ≤ 1000 ∧ B.length ≤ 1000 ∧ cls l.length = C ∧ cls o.length = C ∧ blk B n = some o from ⟨h1l, hl, hB, hCl, hC, hb⟩)
      have HC := Hid.mk hc
      have hbx := h.box
      have HBX := Hid.mk hbx
      obtain ⟨U, hU⟩ : ∃ U, usedB B = U := ⟨_, rfl⟩
      obtain ⟨N, hN⟩ : ∃ N, B.length = N := ⟨_, rfl⟩
      rw [hU, hN] at hbx HBX
      have HUN := Hid.mk (And.intro hU hN)
      obtain ⟨⟨c0, c1, c2, c3, c4⟩, f3, f4⟩ := boxA_cells hbx
      have hRR := Hid.mk hRC
      clear hbx h hc hl hB hb hn ho hR hC hcp hRC h1l hCl hU hN
      go_enter Try.func17, Try.ntmps17
      go_upto_region 6 with (first
        | (go_at_call 38; refine hf.out.mono ?_; rintro e w1 ⟨a', cap', rfl, _, rfl⟩)
        | (go_at_call 13; have g := m1; refine (hro.out _).mono ?_; rintro e w1 ⟨rfl, rfl⟩)
        | (go_at_call 13; refine (hrl.out _).mono ?_; rintro e w1 ⟨rfl, rfl⟩; have m1 := True.intro))
      refine wp_region_last (last := 7) (S := Up w) (by kernel_rfl) ?_
      refine last_take (i := 0) (d := 25) (v := .pointer (some ⟨p, 0, none⟩)) rfl rfl (by kernel_rfl) (by kernel_rfl) (by kernel_rfl) (by kernel_rfl) rfl (fun _ _ => rfl) (fun _ _ _ h => h) (Up.refl w).drew ?_
      simp only [Act.put, List.setIfInBounds_toArray, List.set_cons_zero, List.set_cons_succ]
      refine last_take (i := 1) (d := 26) (v := .pointer (some ⟨p, 0, none⟩)) rfl rfl (by kernel_rfl) (by kernel_rfl) (by kernel_rfl) (by kernel_rfl) rfl (fun _ _ => (by go_simp)) (fun _ _ _ h => h) (Up.refl w).drew ?_
      simp only [Act.put, List.setIfInBounds_toArray, List.set_cons_zero, List.set_cons_succ]
      refine last_take (i := 2) (d := 27) (v := .pointer (some ⟨p, 1, none⟩)) rfl rfl (by kernel_rfl) (by kernel_rfl) (by kernel_rfl) (by kernel_rfl) rfl (fun _ _ => (by go_simp)) (fun _ _ _ h => h) (Up.refl w).drew ?_
      simp only [Act.put, List.setIfInBounds_toArray, List.set_cons_zero, List.set_cons_succ]
      refine last_take (i := 3) (d := 28) (v := .map (some bm)) rfl rfl (by kernel_rfl) (by kernel_rfl) (by kernel_rfl) (by kernel_rfl) rfl (fun W h => (by have u0 := cell_below h.out _ _ _ c1; go_simp)) (fun _ _ _ h => h) (Up.refl w).drew ?_
      simp only [Act.put, List.setIfInBounds_toArray, List.set_cons_zero, List.set_cons_succ]
      refine last_take (i := 4) (d := 29) (v := .int .i64 n) rfl rfl (by kernel_rfl) (by kernel_rfl) (by kernel_rfl) (by kernel_rfl) rfl (fun _ _ => rfl) (fun _ _ _ h => h) (Up.refl w).drew ?_
      simp only [Act.put, List.setIfInBounds_toArray, List.set_cons_zero, List.set_cons_succ]
      refine last_take (i := 5) (d := 30) (v := .slice a l.length cap) rfl rfl (by kernel_rfl) (by kernel_rfl) (by kernel_rfl) (by kernel_rfl) rfl (fun _ _ => rfl) (fun _ _ _ h => h) (Up.refl w).drew ?_
      simp only [Act.put, List.setIfInBounds_toArray, List.set_cons_zero, List.set_cons_succ]
      refine last_call (i := 6) (d := 31) (f := 37) (args := #[.slice a l.length cap]) (by kernel_rfl) rfl rfl rfl (by go_simp) ?_
      refine (cloneW_any l a cap _ (HC.out.up ((Up.refl w).drew).out) HH.out.1 HH.out.2.1).mono ?_
      rintro e w2 ⟨v, rfl, hv, hn, hb2⟩
      refine ⟨v, rfl, (Up.refl w).drew.call hb2, ?_⟩
      simp only [Act.put, List.setIfInBounds_toArray, List.set_cons_zero, List.set_cons_succ]
      obtain ⟨D, hD, hM⟩ := hA.out.map
      have hup2 : Up w w2 := (Up.refl w).drew.call hb2
      have hD2 := ownsMap_same hD (hup2.out.block bm hD.lt)
      obtain ⟨w3, hr3, hD3, hg3⟩ := hD2.update keyedI Try.underlying38 (by have := HH.out; unfold maxLen; omega) hkey (show heldR v = some (.held v, []) from rfl)
      have hbx2 : w2.heap[p]? = some (boxA p bm W U N) := (Only.up (S := fun _ => False) hup2.out).box HBX.out (fun f => f)
      have hbx3 : w3.heap[p]? = some (boxA p bm W U N) := (hg3.block p (Array.getElem?_eq_some_iff.1 hbx2).1 (fun e => hA.out.ne (by simpa using e.symm))).trans hbx2
      have HX3 := Hid.mk hbx3
      have HV2 := Hid.mk (And.intro hv (And.intro hn hup2))
      have HD3 := Hid.mk hD3
      have HG3 := Hid.mk hg3
      have HM := Hid.mk (And.intro hM hD)
      clear hv hn hup2 hD2 hD3 hg3 hM hD hbx2 hb2 c0 c1 c2 c3 c4 f3 f4 hbx3
      refine last_store (w' := w3) (by kernel_rfl) rfl rfl rfl (by go_simp) (by kernel_rfl) ?_
      go_wp2
      go_ret
      obtain ⟨h1, h2, h3, h4, h5, h6⟩ := HH.out
      obtain ⟨u1, u2⟩ := HUN.out
      have hpl := hA.out.lt p hA.out.sp
      have hbl := hA.out.lt bm hA.out.sb
      have o5 : Only (fun k => k = p ∨ k = bm) w w3 := (Only.up HV2.out.2.2.out).grow HG3.out (fun k hk => Or.inr (by simpa using hk.symm))
      have hu : usedB (B.set (n - 1).toNat (some l)) = U := by
        have := usedB_set l (blk_some.1 h6).2
        omega
      have hln : (B.set (n - 1).toNat (some l)).length = N := by simp; omega
      refine ⟨rfl, step_put (n := n) hA.out o5 HM.out.1 HM.out.2.isMap HD3.out ?_ (HV2.out.1.kept (Only.grown (S := fun k => k = bm) HG3.out (fun k hk => (by simpa using hk.symm))) (fun g hg e => ?_)) HV2.out.2.1 (fun k => blk_set h6 (some l) k) (good_set hA.out.good h1 h2) ?_⟩
      · rw [hu, hln]
        exact HX3.out
      · have e1 : w.heap.size ≤ g := HV2.out.2.1 g hg
        omega
      · have := hA.out.room
        omega
    · rw [if_neg hRC]
      have hne : (R != (C : Int)) = true := by simp [hRC]
      clear h hc hl hB hb hn ho hR hC hcp hRC
      go_enter Try.func17, Try.ntmps17
      go_wp2_with (first
        | (go_at_call 38; refine hf.out.mono ?_; rintro e w1 ⟨a', cap', rfl, _, rfl⟩)
        | (go_at_call 13; have g := m1; refine (hro.out _).mono ?_; rintro e w1 ⟨rfl, rfl⟩)
        | (go_at_call 13; refine (hrl.out _).mono ?_; rintro e w1 ⟨rfl, rfl⟩; have m1 := True.intro))
      go_ret
      exact ⟨rfl, hA.out.step (Below.refl _ _)⟩

set_option maxRecDepth 100000 in
set_option maxHeartbeats 4000000 in
theorem drop_any (p bm W : Nat) (S : Nat → Prop) (B : Blks) (n : Int) (w : World) (h : Ar w p bm S W B) (hn : In64 n) :
    Calls Try.prog 18 #[.pointer (some ⟨p, 0, none⟩), .int .i64 n] w fun e w' => e = .returned (.int .i64 (dropR B n).1) ∧ Step w p bm S W (dropR B n).2 w' := by
  have hA := Hid.mk h
  unfold dropR
  cases hb : blk B n with
  | none =>
    have hf := Hid.mk (find_no p bm W S B n w h hn hb)
    clear h hb hn
    go_enter Try.func18, Try.ntmps18
    go_wp2_with (first
      | (go_at_call 38; refine hf.out.mono ?_; rintro e w1 ⟨rfl, rfl⟩))
    go_ret
    exact ⟨rfl, hA.out.step (Below.refl _ _)⟩
  | some o =>
    have hf := Hid.mk (find_yes p bm W S B n o w h hn hb)
    have ho := h.blk_good hb
    have hro : Hid (∀ w1, Calls Try.prog 13 #[.int .i64 o.length] w1 fun e w' => e = .returned (.int .i64 (cls o.length)) ∧ w1 = w') := Hid.mk (fun w1 => by
      have := round_any (o.length : Int) w1
      rwa [rnd_in (by omega) (by omega)] at this)
    obtain ⟨C, hC⟩ : ∃ C, cls o.length = C := ⟨_, rfl⟩
    obtain ⟨U, hU⟩ : ∃ U, usedB B = U := ⟨_, rfl⟩
    obtain ⟨N, hN⟩ : ∃ N, B.length = N := ⟨_, rfl⟩
    obtain ⟨V, hV⟩ : ∃ V, usedB (B.set (n - 1).toNat none) = V := ⟨_, rfl⟩
    have hud := usedB_drop (blk_some.1 hb).2
    have hrm := h.room
    have hmm := h.most
    rw [hC] at hro
    rw [hC, hV, hU] at hud
    have hws : IntKind.i64.wrap ((U : Int) - C) = (V : Int) := by rw [wrap_id (by omega) (by omega)]; omega
    have hkey := key_int hn
    have hbx := h.box
    rw [hU, hN] at hbx
    have HBX := Hid.mk hbx
    have HH := Hid.mk (show B.length = N ∧ cls o.length = C ∧ usedB B = U ∧ usedB (B.set (n - 1).toNat none) = V ∧ V + C = U ∧ U ≤ W ∧ blk B n = some o from ⟨hN, hC, hU, hV, hud, by omega, hb⟩)
    obtain ⟨⟨c0, c1, c2, c3, c4⟩, f3, f4⟩ := boxA_cells hbx
    obtain ⟨D, hD, hM⟩ := h.map
    have HM := Hid.mk (And.intro hM hD)
    clear hbx h hb hn ho hC hU hV hN hud hrm hmm hM
    go_enter Try.func18, Try.ntmps18
    go_upto_region 5 with (first
      | (go_at_call 38; refine hf.out.mono ?_; rintro e w1 ⟨a', cap', rfl, _, rfl⟩)
      | (at_delete; refine wpList_delete_own _ rfl _ _ 38 3 rfl 31 keyedI Try.underlying38 _ bm _ D rfl hD _ _ rfl hkey ?_; intro w1 hown1 hturn1
         have hg1 := hturn1.grown
         have HB1 := Hid.mk ((hg1.block p (Array.getElem?_eq_some_iff.1 HBX.out).1 (fun e => hA.out.ne (by simpa using e.symm))).trans HBX.out)
         have HD1 := Hid.mk hown1; have HG1 := Hid.mk hg1; clear hown1 hturn1 hg1 hD
         obtain ⟨⟨c0, c1, c2, c3, c4⟩, f3, f4⟩ := boxA_cells HB1.out))
    refine wp_region_last (last := 10) (S := Up w1) (by kernel_rfl) ?_
    refine last_take (i := 0) (d := 21) (v := .pointer (some ⟨p, 0, none⟩)) rfl rfl (by kernel_rfl) (by kernel_rfl) (by kernel_rfl) (by kernel_rfl) rfl (fun _ _ => rfl) (fun _ _ _ h => h) (Up.refl w1).drew ?_
    simp only [Act.put, List.setIfInBounds_toArray, List.set_cons_zero, List.set_cons_succ]
    refine last_take (i := 1) (d := 22) (v := .pointer (some ⟨p, 0, none⟩)) rfl rfl (by kernel_rfl) (by kernel_rfl) (by kernel_rfl) (by kernel_rfl) rfl (fun _ _ => (by go_simp)) (fun _ _ _ h => h) (Up.refl w1).drew ?_
    simp only [Act.put, List.setIfInBounds_toArray, List.set_cons_zero, List.set_cons_succ]
    refine last_take (i := 2) (d := 23) (v := .pointer (some ⟨p, 3, none⟩)) rfl rfl (by kernel_rfl) (by kernel_rfl) (by kernel_rfl) (by kernel_rfl) rfl (fun _ _ => (by go_simp)) (fun _ _ _ h => h) (Up.refl w1).drew ?_
    simp only [Act.put, List.setIfInBounds_toArray, List.set_cons_zero, List.set_cons_succ]
    refine last_take (i := 3) (d := 24) (v := .int .i64 U) rfl rfl (by kernel_rfl) (by kernel_rfl) (by kernel_rfl) (by kernel_rfl) rfl (fun W h => (by have u0 := cell_below h.out _ _ _ c3; go_simp)) (fun _ _ _ h => h) (Up.refl w1).drew ?_
    simp only [Act.put, List.setIfInBounds_toArray, List.set_cons_zero, List.set_cons_succ]
    refine last_take (i := 4) (d := 25) (v := .slice a' o.length cap') rfl rfl (by kernel_rfl) (by kernel_rfl) (by kernel_rfl) (by kernel_rfl) rfl (fun _ _ => rfl) (fun _ _ _ h => h) (Up.refl w1).drew ?_
    simp only [Act.put, List.setIfInBounds_toArray, List.set_cons_zero, List.set_cons_succ]
    refine last_take (i := 5) (d := 26) (v := .int .i64 o.length) rfl rfl (by kernel_rfl) (by kernel_rfl) (by kernel_rfl) (by kernel_rfl) rfl (fun _ _ => (by go_simp)) (fun _ _ _ h => h) (Up.refl w1).drew ?_
    simp only [Act.put, List.setIfInBounds_toArray, List.set_cons_zero, List.set_cons_succ]
    refine last_call (i := 6) (d := 27) (f := 13) (args := #[.int .i64 o.length]) (by kernel_rfl) rfl rfl rfl (by go_simp) ?_
    refine (hro.out _).mono ?_
    rintro e w2 ⟨rfl, rfl⟩
    refine ⟨.int .i64 C, rfl, (Up.refl w1).drew, ?_⟩
    simp only [Act.put, List.setIfInBounds_toArray, List.set_cons_zero, List.set_cons_succ]
    refine last_value (i := 7) (d := 28) (v := .int .i64 V) (w' := w1.drew) (by kernel_rfl) rfl rfl rfl (by go_simp) ((Up.refl w1).drew) ?_
    simp only [Act.put, List.setIfInBounds_toArray, List.set_cons_zero, List.set_cons_succ]
    refine last_value (i := 8) (d := 29) (v := .pointer (some ⟨p, 0, none⟩)) (w' := w1.drew) (by kernel_rfl) rfl rfl rfl (by go_simp) ((Up.refl w1).drew) ?_
    simp only [Act.put, List.setIfInBounds_toArray, List.set_cons_zero, List.set_cons_succ]
    refine last_value (i := 9) (d := 30) (v := .pointer (some ⟨p, 3, none⟩)) (w' := w1.drew) (by kernel_rfl) rfl rfl rfl (by go_simp) ((Up.refl w1).drew) ?_
    simp only [Act.put, List.setIfInBounds_toArray, List.set_cons_zero, List.set_cons_succ]
    refine last_store (w' := w1.drew.setCell ⟨p, 3, none⟩ (.int .i64 V)) (by kernel_rfl) rfl rfl rfl (by go_simp) (by kernel_rfl) ?_
    have hbx5 := boxA_used (w := w1.drew) HB1.out V
    have HX5 := Hid.mk hbx5
    clear hbx5
    go_wp2
    go_ret
    obtain ⟨h1, h2, h3, h4, h5, h6, h7⟩ := HH.out
    have o5 : Only (fun k => k = p ∨ k = bm) w (w1.drew.setCell ⟨p, 3, none⟩ (.int .i64 V)) := ((Only.grown (S := fun k => k = p ∨ k = bm) HG1.out (fun k hk => Or.inr (by simpa using hk.symm))).drew).put (Or.inl rfl) 3 _
    have hln : (B.set (n - 1).toNat none).length = N := by simp; omega
    refine ⟨rfl, step_del (n := n) hA.out o5 HM.out.1 ((HD1.out.drew).setCell (a := ⟨p, 3, none⟩) hA.out.ne _) ?_ (fun k => blk_set h7 none k) (good_drop hA.out.good) ?_⟩
    · rw [h4, hln]
      exact HX5.out
    · omega
end Go.Proofs.Ytpfcbokckjfhbaa
