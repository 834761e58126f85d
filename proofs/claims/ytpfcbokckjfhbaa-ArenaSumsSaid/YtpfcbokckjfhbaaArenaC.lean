/-
  The program's arenas: a block is taken.
-/
import Derived.Test.YtpfcbokckjfhbaaArenaB
import Derived.Deep.Cut
import Derived.Deep.LoopGhost
import Derived.Deep.RegionWith
namespace Go.Proofs.Ytpfcbokckjfhbaa
open Go.RowKit Go.Deep Go.Maps Go.WideShapes

theorem Wds.lt_ {w : World} {v : Value} {xs : List Int} (h : Wds w v xs) : ∀ g, v.ownBlock = some g → g < w.heap.size := fun _ hg => h.block_lt hg
/-- A block put under a number: what is left. -/
theorem step_put {w w5 : World} {p bm W m : Nat} {S : Nat → Prop} {B B' : Blks} {D : DataW Value} {n : Int} {v : Value} {l : List Int} (hA : Ar w p bm S W B) (o : Only (fun k => k = p ∨ k = bm) w w5) (hM : MapOk w S p bm D B) (hI : IsMap D)
    (hD5 : w5.ownsMap Try.prog 3 heldR bm m (D.put (keyI n) (.held v))) (box5 : w5.heap[p]? = some (boxA p bm W (usedB B') B'.length)) (hv : Wds w5 v l) (hn : ∀ g, v.ownBlock = some g → w.heap.size ≤ g)
    (hB : ∀ k, blk B' k = if k = n then some l else blk B k) (hg : ∀ x, some x ∈ B' → 1 ≤ x.length ∧ x.length ≤ 1000) (hroom : usedB B' ≤ W) : Step w p bm S W B' w5 := by
  have hpl := hA.lt p hA.sp
  have hbl := hA.lt bm hA.sb
  have hM1 : MapOk w5 (fun k => S k ∨ v.ownBlock = some k) p bm D B := hM.kept o (fun g _ h1 h2 h3 => h3.elim h1 h2) (fun g h => Or.inl h)
  have hM5 : MapOk w5 (fun k => S k ∨ v.ownBlock = some k) p bm (D.put (keyI n) (.held v)) B' := hM1.put hI hB hv (fun g hg => ⟨Or.inr hg, fun e => (by have := hn g hg; omega), fun e => (by have := hn g hg; omega)⟩)
  refine ⟨fun k => S k ∨ v.ownBlock = some k, ⟨box5, ⟨_, hM5.tight hD5, hM5⟩, hA.ne, Or.inl hA.sp, Or.inl hA.sb, fun k hk => ?_, hg, hroom, hA.most⟩, o, fun k hk => hk.imp id (hn k)⟩
  rcases hk with hk | hk
  · exact Nat.lt_of_lt_of_le (hA.lt k hk) o.size
  · exact hv.block_lt hk
/-- A block taken away. -/
theorem step_del {w w5 : World} {p bm W m : Nat} {S : Nat → Prop} {B B' : Blks} {D : DataW Value} {n : Int} (hA : Ar w p bm S W B) (o : Only (fun k => k = p ∨ k = bm) w w5) (hM : MapOk w S p bm D B)
    (hD5 : w5.ownsMap Try.prog 3 heldR bm m (D.del (keyI n))) (box5 : w5.heap[p]? = some (boxA p bm W (usedB B') B'.length))
    (hB : ∀ k, blk B' k = if k = n then none else blk B k) (hg : ∀ x, some x ∈ B' → 1 ≤ x.length ∧ x.length ≤ 1000) (hroom : usedB B' ≤ W) : Step w p bm S W B' w5 := by
  have hM1 : MapOk w5 S p bm D B := hM.kept o (fun g _ h1 h2 h3 => h3.elim h1 h2) (fun g h => h)
  have hM5 : MapOk w5 S p bm (D.del (keyI n)) B' := hM1.del hB
  exact ⟨S, ⟨box5, ⟨_, hM5.tight hD5, hM5⟩, hA.ne, hA.sp, hA.sb, fun k hk => Nat.lt_of_lt_of_le (hA.lt k hk) o.size, hg, hroom, hA.most⟩, o, fun k hk => Or.inl hk⟩

/-- What a block taken comes to. -/
def takeR (W : Nat) (B : Blks) (l : List Int) : Nat × Nat × Blks :=
  if l.length = 0 then (0, 2, B) else if W < usedB B + cls l.length then (0, 11, B) else (B.length + 1, 0, B ++ [some l])
theorem take_none {W : Nat} {B : Blks} {l : List Int} (h : l.length = 0) : takeR W B l = (0, 2, B) := by rw [takeR, if_pos h]
theorem take_full {W : Nat} {B : Blks} {l : List Int} (h : 1 ≤ l.length) (h2 : W < usedB B + cls l.length) : takeR W B l = (0, 11, B) := by rw [takeR, if_neg (by omega), if_pos h2]
theorem take_new {W : Nat} {B : Blks} {l : List Int} (h : 1 ≤ l.length) (h2 : usedB B + cls l.length ≤ W) : takeR W B l = (B.length + 1, 0, B ++ [some l]) := by rw [takeR, if_neg (by omega), if_neg (by omega)]
theorem good_snoc {B : Blks} {l : List Int} (h : ∀ x, some x ∈ B → 1 ≤ x.length ∧ x.length ≤ 1000) (h1 : 1 ≤ l.length) (h2 : l.length ≤ 1000) : ∀ x, some x ∈ B ++ [some l] → 1 ≤ x.length ∧ x.length ≤ 1000 := fun x hx => by
  rcases List.mem_append.1 hx with hx | hx
  · exact h x hx
  · simp at hx; subst hx; exact ⟨h1, h2⟩

theorem boxA_word {w : World} {p bm W u n k : Nat} {x : Int} (h : w.heap[p]? = some (boxA p bm W u n)) (hc : w.cell? ⟨p, k, none⟩ = some (.int .u64 x)) : False := by
  unfold boxA at h
  simp only [World.cell?, h] at hc
  match k, hc with
  | 0, hc => simp at hc
  | 1, hc => simp at hc
  | 2, hc => simp at hc
  | 3, hc => simp at hc
  | 4, hc => simp at hc
  | k + 5, hc => simp at hc
/-- Words of others stay while an arena's box is written. -/
theorem Ar.cel {w w' : World} {p bm W : Nat} {S : Nat → Prop} {B : Blks} {xs : List Int} {a : Option Addr} (h : Ar w p bm S W B) (ho : Only (fun k => k = p) w w') (hc : Cel w xs a) : Cel w' xs a := fun h0 => by
  obtain ⟨b, o, e, hcc⟩ := hc h0
  exact ⟨b, o, e, fun j hj => ho.cellS (fun e => (by subst e; exact boxA_word h.box (hcc j hj))) (hcc j hj)⟩

set_option maxRecDepth 100000 in
set_option maxHeartbeats 4000000 in
theorem take_any (p bm W : Nat) (S : Nat → Prop) (B : Blks) (l : List Int) (a : Option Addr) (cap : Nat) (w : World) (h : Ar w p bm S W B) (hc : Cel w l a) (hl : l.length ≤ 1000) (hB : B.length ≤ 1000) :
    Calls Try.prog 15 #[.pointer (some ⟨p, 0, none⟩), .slice a l.length cap] w fun e w' => e = .returned (.tuple #[.int .i64 (takeR W B l).1, .int .i64 (takeR W B l).2.1]) ∧ Step w p bm S W (takeR W B l).2.2 w' := by
  have hA := Hid.mk h
  by_cases h0 : l.length = 0
  · rw [take_none h0]
    have hrd : Hid (∀ w1, Calls Try.prog 13 #[.int .i64 l.length] w1 fun e w' => e = .returned (.int .i64 0) ∧ w1 = w') := Hid.mk (fun w1 => by
      have := round_any (l.length : Int) w1
      rwa [rnd_out (by omega)] at this)
    clear h hc hl hB h0
    go_enter Try.func15, Try.ntmps15
    go_wp2_with (first
      | (go_at_call 36; refine (madeA_yes _ _ _ _ _ _ hA.out).mono ?_; rintro e w1 ⟨rfl, rfl⟩)
      | (go_at_call 13; refine (hrd.out _).mono ?_; rintro e w1 ⟨rfl, rfl⟩))
    go_ret2
    exact ⟨rfl, hA.out.step (Below.refl _ _)⟩
  · have hrd : Hid (∀ w1, Calls Try.prog 13 #[.int .i64 l.length] w1 fun e w' => e = .returned (.int .i64 (cls l.length)) ∧ w1 = w') := Hid.mk (fun w1 => by
      have := round_any (l.length : Int) w1
      rwa [rnd_in (by omega) (by omega)] at this)
    have hcp := cls_pos l.length
    have hcm := cls_most (n := l.length) (by omega)
    have hroom := h.room
    have hmost := h.most
    obtain ⟨C, hC⟩ : ∃ C, cls l.length = C := ⟨_, rfl⟩
    obtain ⟨U, hU⟩ : ∃ U, usedB B = U := ⟨_, rfl⟩
    rw [hC] at hrd hcp hcm
    rw [hU] at hroom
    have hC0 : ((C : Int) == 0) = false := by simp; omega
    have hlf : Hid (∀ w1, Ar w1 p bm S W B → Calls Try.prog 19 #[.pointer (some ⟨p, 0, none⟩)] w1 fun e w' => e = .returned (.int .i64 ((W : Int) - U)) ∧ Below w1.heap.size w1 w') := Hid.mk (fun w1 h1 => by
      have := left_any p bm W S B w1 h1
      rwa [hU] at this)
    by_cases hf : W < U + C
    · rw [take_full (by omega) (by omega)]
      have hd : decide ((W : Int) - U < C) = true := by rw [decide_eq_true_eq]; omega
      clear h hc hl hB h0 hC hU hcp hcm hroom hmost hf
      go_enter Try.func15, Try.ntmps15
      go_wp2_with (first
        | (go_at_call 36; refine (madeA_yes _ _ _ _ _ _ hA.out).mono ?_; rintro e w1 ⟨rfl, rfl⟩)
        | (go_at_call 13; refine (hrd.out _).mono ?_; rintro e w1 ⟨rfl, rfl⟩)
        | (go_at_call 19; refine (hlf.out _ hA.out).mono ?_; rintro e w1 ⟨rfl, hb⟩; have hb1 := Hid.mk hb; clear hb))
      go_ret2
      exact ⟨rfl, hA.out.step hb1.out⟩
    · rw [take_new (by omega) (by omega)]
      have hd : decide ((W : Int) - U < C) = false := by rw [decide_eq_false_iff_not]; omega
      obtain ⟨N, hN⟩ : ∃ N, B.length = N := ⟨_, rfl⟩
      have hw1 : IntKind.i64.wrap ((N : Int) + 1) = ((N + 1 : Nat) : Int) := by rw [wrap_id (by omega) (by omega)]; omega
      have hw2 : IntKind.i64.wrap ((U : Int) + C) = ((U + C : Nat) : Int) := by rw [wrap_id (by omega) (by omega)]; omega
      obtain ⟨N1, hN1⟩ : ∃ N1, N + 1 = N1 := ⟨_, rfl⟩
      obtain ⟨U1, hU1⟩ : ∃ U1, U + C = U1 := ⟨_, rfl⟩
      rw [hN1] at hw1
      rw [hU1] at hw2
      have hkey := key_int (n := (N1 : Int)) ⟨by omega, by omega⟩
      have HH := Hid.mk (show 1 ≤ l.length ∧ l.length ≤ 1000 ∧ B.length = N ∧ N + 1 = N1 ∧ N ≤ 1000 ∧ usedB B = U ∧ cls l.length = C ∧ U + C = U1 ∧ U1 ≤ W from ⟨by omega, hl, hN, hN1, by omega, hU, hC, hU1, by omega⟩)
      have HC := Hid.mk hc
      have hbx := h.box
      rw [hN, hU] at hbx
      rw [hN]
      obtain ⟨⟨c0, c1, c2, c3, c4⟩, f3, f4⟩ := boxA_cells hbx
      have HBX := Hid.mk hbx
      clear hbx h hc hl hB h0 hC hU hcp hcm hroom hmost hf hN hN1 hU1
      go_enter Try.func15, Try.ntmps15
      go_upto_region 9 with (first
        | (go_at_call 36; refine (madeA_yes _ _ _ _ _ _ hA.out).mono ?_; rintro e w1 ⟨rfl, rfl⟩)
        | (go_at_call 13; refine (hrd.out _).mono ?_; rintro e w1 ⟨rfl, rfl⟩)
        | (go_at_call 19; refine (hlf.out _ hA.out).mono ?_; rintro e w1 ⟨rfl, hb⟩; have hb1 := Hid.mk hb; have HBX1 := Hid.mk ((Only.up (S := fun _ => False) hb).box HBX.out (fun f => f)); clear hb; obtain ⟨⟨c0, c1, c2, c3, c4⟩, f3, f4⟩ := boxA_cells HBX1.out))
      have hbxW := boxA_last HBX1.out N1
      have hzW := size_setCell' w1 ⟨p, 4, none⟩ (.int .i64 N1)
      have oW : Only (fun k => k = p) w (w1.setCell ⟨p, 4, none⟩ (.int .i64 N1)) := (Only.up (S := fun k => k = p) hb1.out).put rfl 4 _
      obtain ⟨WW, hWW⟩ : ∃ WW, w1.setCell ⟨p, 4, none⟩ (.int .i64 N1) = WW := ⟨_, rfl⟩
      rw [hWW] at hbxW hzW oW ⊢
      have HBW := Hid.mk hbxW
      have HZW := Hid.mk hzW
      have HOW := Hid.mk oW
      clear hWW c0 c1 c2 c3 c4 f3 f4 hzW oW
      obtain ⟨⟨c0, c1, c2, c3, c4⟩, f3, f4⟩ := boxA_cells hbxW
      clear hbxW
      have hcelW := Hid.mk (hA.out.cel HOW.out HC.out)
      refine wp_region_last (last := 10) (S := Up WW) (by kernel_rfl) ?_
      refine last_take (i := 0) (d := 26) (v := .pointer (some ⟨p, 0, none⟩)) rfl rfl (by kernel_rfl) (by kernel_rfl) (by kernel_rfl) (by kernel_rfl) rfl (fun _ _ => rfl) (fun _ _ _ h => h) (Up.refl WW).drew ?_
      simp only [Act.put, List.setIfInBounds_toArray, List.set_cons_zero, List.set_cons_succ]
      refine last_take (i := 1) (d := 27) (v := .pointer (some ⟨p, 0, none⟩)) rfl rfl (by kernel_rfl) (by kernel_rfl) (by kernel_rfl) (by kernel_rfl) rfl (fun _ _ => (by go_simp)) (fun _ _ _ h => h) (Up.refl WW).drew ?_
      simp only [Act.put, List.setIfInBounds_toArray, List.set_cons_zero, List.set_cons_succ]
      refine last_take (i := 2) (d := 28) (v := .pointer (some ⟨p, 1, none⟩)) rfl rfl (by kernel_rfl) (by kernel_rfl) (by kernel_rfl) (by kernel_rfl) rfl (fun _ _ => (by go_simp)) (fun _ _ _ h => h) (Up.refl WW).drew ?_
      simp only [Act.put, List.setIfInBounds_toArray, List.set_cons_zero, List.set_cons_succ]
      refine last_take (i := 3) (d := 29) (v := .map (some bm)) rfl rfl (by kernel_rfl) (by kernel_rfl) (by kernel_rfl) (by kernel_rfl) rfl (fun W h => (by have u0 := cell_below h.out _ _ _ c1; go_simp)) (fun _ _ _ h => h) (Up.refl WW).drew ?_
      simp only [Act.put, List.setIfInBounds_toArray, List.set_cons_zero, List.set_cons_succ]
      refine last_take (i := 4) (d := 30) (v := .pointer (some ⟨p, 0, none⟩)) rfl rfl (by kernel_rfl) (by kernel_rfl) (by kernel_rfl) (by kernel_rfl) rfl (fun _ _ => rfl) (fun _ _ _ h => h) (Up.refl WW).drew ?_
      simp only [Act.put, List.setIfInBounds_toArray, List.set_cons_zero, List.set_cons_succ]
      refine last_take (i := 5) (d := 31) (v := .pointer (some ⟨p, 0, none⟩)) rfl rfl (by kernel_rfl) (by kernel_rfl) (by kernel_rfl) (by kernel_rfl) rfl (fun _ _ => (by go_simp)) (fun _ _ _ h => h) (Up.refl WW).drew ?_
      simp only [Act.put, List.setIfInBounds_toArray, List.set_cons_zero, List.set_cons_succ]
      refine last_take (i := 6) (d := 32) (v := .pointer (some ⟨p, 4, none⟩)) rfl rfl (by kernel_rfl) (by kernel_rfl) (by kernel_rfl) (by kernel_rfl) rfl (fun _ _ => (by go_simp)) (fun _ _ _ h => h) (Up.refl WW).drew ?_
      simp only [Act.put, List.setIfInBounds_toArray, List.set_cons_zero, List.set_cons_succ]
      refine last_take (i := 7) (d := 33) (v := .int .i64 N1) rfl rfl (by kernel_rfl) (by kernel_rfl) (by kernel_rfl) (by kernel_rfl) rfl (fun W h => (by have u0 := cell_below h.out _ _ _ c4; go_simp)) (fun _ _ _ h => h) (Up.refl WW).drew ?_
      simp only [Act.put, List.setIfInBounds_toArray, List.set_cons_zero, List.set_cons_succ]
      refine last_take (i := 8) (d := 34) (v := .slice a l.length cap) rfl rfl (by kernel_rfl) (by kernel_rfl) (by kernel_rfl) (by kernel_rfl) rfl (fun _ _ => rfl) (fun _ _ _ h => h) (Up.refl WW).drew ?_
      simp only [Act.put, List.setIfInBounds_toArray, List.set_cons_zero, List.set_cons_succ]
      refine last_call (i := 9) (d := 35) (f := 37) (args := #[.slice a l.length cap]) (by kernel_rfl) rfl rfl rfl (by go_simp) ?_
      refine (cloneW_any l a cap _ (hcelW.out.up ((Up.refl WW).drew).out) HH.out.1 HH.out.2.1).mono ?_
      rintro e w2 ⟨v, rfl, hv, hn, hb2⟩
      refine ⟨v, rfl, (Up.refl WW).drew.call hb2, ?_⟩
      simp only [Act.put, List.setIfInBounds_toArray, List.set_cons_zero, List.set_cons_succ]
      obtain ⟨D, hD, hM⟩ := hA.out.map
      have hup2 : Up WW w2 := (Up.refl WW).drew.call hb2
      have oW2 : Only (fun k => k = p) w w2 := HOW.out.call hup2.out
      have hD2 := ownsMap_same hD (oW2.block bm hD.lt (fun e => hA.out.ne e))
      obtain ⟨w3, hr3, hD3, hg3⟩ := hD2.update keyedI Try.underlying38 (by have := HH.out; unfold maxLen; omega) hkey (show heldR v = some (.held v, []) from rfl)
      have hbx2 : w2.heap[p]? = some (boxA p bm W U N1) := (Only.up (S := fun _ => False) hup2.out).box HBW.out (fun f => f)
      have hbx3 : w3.heap[p]? = some (boxA p bm W U N1) := (hg3.block p (Array.getElem?_eq_some_iff.1 hbx2).1 (fun e => hA.out.ne (by simpa using e.symm))).trans hbx2
      have HX3 := Hid.mk hbx3
      have HV2 := Hid.mk (And.intro hv (And.intro hn hup2))
      have HD3 := Hid.mk hD3
      have HG3 := Hid.mk hg3
      have HM := Hid.mk (And.intro hM hD)
      have HO2 := Hid.mk oW2
      clear hv hn hup2 oW2 hD2 hD3 hg3 hM hD hbx2 hb2 c0 c1 c2 c3 c4 f3 f4
      obtain ⟨⟨c0, c1, c2, c3, c4⟩, f3, f4⟩ := boxA_cells hbx3
      clear hbx3
      refine last_store (w' := w3) (by kernel_rfl) rfl rfl rfl (by go_simp) (by kernel_rfl) ?_
      go_wp2
      go_ret2
      obtain ⟨h1, h2, h3, h4, h5, h6, h7, h8, h9⟩ := HH.out
      have o5 : Only (fun k => k = p ∨ k = bm) w (w3.setCell ⟨p, 3, none⟩ (.int .i64 U1)) := ((HO2.out.mono (fun k hk => Or.inl hk)).grow HG3.out (fun k hk => Or.inr (by simpa using hk.symm))).put (Or.inl rfl) 3 _
      have hu : usedB (B ++ [some l]) = U1 := by rw [usedB_snoc]; omega
      have hln : (B ++ [some l]).length = N1 := by simp; omega
      have hnew : ∀ g, v.ownBlock = some g → w.heap.size ≤ g := fun g hg => by
        have e1 : WW.heap.size ≤ g := HV2.out.2.1 g hg
        have e2 := HZW.out
        have e3 := hb1.out.size
        omega
      have hpl := hA.out.lt p hA.out.sp
      have hbl := hA.out.lt bm hA.out.sb
      have o35 : Only (fun k => k = p ∨ k = bm) w2 (w3.setCell ⟨p, 3, none⟩ (.int .i64 U1)) := (Only.grown (S := fun k => k = p ∨ k = bm) HG3.out (fun k hk => Or.inr (by simpa using hk.symm))).put (Or.inl rfl) 3 _
      refine ⟨(by show _ = Ending.returned (.tuple #[.int .i64 ((N + 1 : Nat) : Int), .int .i64 0]); rw [h4]; rfl), step_put (n := (N1 : Int)) hA.out o5 HM.out.1 HM.out.2.isMap (HD3.out.setCell (a := ⟨p, 3, none⟩) hA.out.ne _) ?_ (HV2.out.1.kept o35 (fun g hg e => ?_)) hnew ?_ (good_snoc hA.out.good h1 h2) (by omega)⟩
      · rw [hu, hln]
        exact boxA_used HX3.out U1
      · have := hnew g hg
        omega
      · intro k
        rw [blk_snoc]
        have e : ((B.length : Int) + 1) = N1 := by omega
        rw [e]
end Go.Proofs.Ytpfcbokckjfhbaa
