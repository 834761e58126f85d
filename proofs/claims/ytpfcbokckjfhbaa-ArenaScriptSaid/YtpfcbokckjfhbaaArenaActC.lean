/-
  One call of a script: both arenas answer alike: nothing asked.
-/
import Derived.Test.YtpfcbokckjfhbaaArenaActH
namespace Go.Proofs.Ytpfcbokckjfhbaa
open Go.RowKit Go.Deep Go.Maps Go.WideShapes

set_option maxRecDepth 100000 in
set_option maxHeartbeats 4000000 in
theorem actN_any (k : Int) (w0 w : World) (p bm q W : Nat) (B : Blks) (F : Nat → Prop) (n : Int) (l : List Int) (la : Option Addr) (lcap : Nat) (hk : k ≠ 0 ∧ k ≠ 1 ∧ k ≠ 2 ∧ k ≠ 3) (h : Tw w0 w p bm q W B B F) (hx : Wrd w0 l la lcap) (hn : la = none → lcap = 0) (hi : In64 n) (hl : l.length ≤ 100) (hB : B.length ≤ 900) :
    Calls Try.prog 12 #[.pointer (some ⟨p, 0, none⟩), .pointer (some ⟨q, 0, none⟩), .agg #[.int .i64 k, .int .i64 n, .slice la l.length lcap]] w fun e w' => ∃ B', e = .returned (.bool true) ∧ Tw w0 w' p bm q W B' B' F ∧ B'.length ≤ B.length + 1 := by
  obtain ⟨W0, hW0⟩ : ∃ W0, w.alloc (.cells #[.int .i64 k, .int .i64 n, .slice la l.length lcap] 33) = W0 := ⟨_, rfl⟩
  obtain ⟨b, hb⟩ : ∃ b, w.heap.size = b := ⟨_, rfl⟩
  have hbox : W0.heap[b]? = some (.cells #[.int .i64 k, .int .i64 n, .slice la l.length lcap] 33) := by rw [← hW0, ← hb]; exact new_block _ _
  have c0 : W0.cell? ⟨b, 0, none⟩ = some (.int .i64 k) := by simp [World.cell?, hbox]
  have c1 : W0.cell? ⟨b, 1, none⟩ = some (.int .i64 n) := by simp [World.cell?, hbox]
  have c2 : W0.cell? ⟨b, 2, none⟩ = some (.slice la l.length lcap) := by simp [World.cell?, hbox]
  have T0 := Hid.mk (h.add (w' := W0) (by rw [← hW0]; exact (Up.refl w).alloc.out) (fun k => k = b) (fun k hk => by subst hk; rw [← hW0, ← hb]; simp))

  have HX := Hid.mk hx
  have HN := Hid.mk hn
  have HIn := Hid.mk hi
  have HL := Hid.mk hl
  have HB := Hid.mk (show B.length ≤ 1000 by omega)
  have d0 : (k == 0) = false := by simp; omega
  have d1 : (k == 1) = false := by simp; omega
  have d2 : (k == 2) = false := by simp; omega
  have d3 : (k == 3) = false := by simp; omega
  have HB9 := Hid.mk hB
  clear h hx hn hi hl hB hbox hk
  go_enter Try.func12, Try.ntmps12
  go_upto_region 1 with fail
  try rw [hW0]
  try rw [hb]
  clear hW0 hb
  go_upto_region 19 with (first
    | (go_at_call 26; refine (lentWords_any l la lcap _ (HX.out.below T0.out.below) HN.out (by have := HL.out; omega)).mono ?_; rintro e w1 ⟨g, icap, rfl, hw, hg, hi1, hi2, hb⟩; have T1 := Hid.mk (T0.out.add hb (fun k => k = g) (fun k hk => by subst hk; exact ⟨hg, hw.block_lt rfl⟩)); have HI := Hid.mk (And.intro hg hi1); have IN1 := Hid.mk hw; have c0 := cell_below hb _ _ _ c0; have c1 := cell_below hb _ _ _ c1; have c2 := cell_below hb _ _ _ c2; clear hw hg hi1 hi2 hb)
    | (go_at_call 32; refine (keptWords_any l g icap la lcap _ IN1.out HI.out.2 (HX.out.below T1.out.below).cel (by have := HL.out; omega)).mono ?_; rintro e w4 ⟨rfl, hb⟩; have T4 := Hid.mk (T1.out.up hb); have IN4 := Hid.mk (wds_short (IN1.out.up hb)); clear hb)
    | (go_at_call 29; refine (overWords_any l (some ⟨g, 0, none⟩) _ icap _ IN4.out).mono ?_; rintro e w5 ⟨⟨ox, rfl⟩, ho⟩; have T5 := Hid.mk (T4.out.over ho (fun k hk => by cases hk; exact ⟨Or.inr rfl, Nat.le_trans T0.out.below.size HI.out.1⟩)); clear ho))
  obtain ⟨Bn, hBn⟩ : ∃ Bn, B = Bn := ⟨_, rfl⟩
  have HLn := Hid.mk (show Bn.length ≤ B.length + 1 by rw [← hBn]; omega)
  have HBn := Hid.mk (show Bn.length ≤ 1000 by have := HLn.out; have := HB9.out; omega)
  rw [hBn] at T5
  clear hBn c2
  have hB5 := HBn.out
  obtain ⟨U, hU⟩ : ∃ U, usedB Bn = U := ⟨_, rfl⟩
  obtain ⟨NL, hNL⟩ : ∃ NL, numsB 0 Bn = NL := ⟨_, rfl⟩
  have hmost := T5.out.most
  rw [hU] at hmost
  have hws : IntKind.i64.wrap ((W : Int) - U) = (W : Int) - U := wrap_id (by omega) (by omega)
  have q0 := T5.out.words
  have C1 := Hid.mk (fun w' (hu : Up w5 w') => (hU ▸ (T5.out.up hu.out).used : Calls Try.prog 20 #[.pointer (some ⟨p, 0, none⟩)] w' fun e w'' => e = .returned (.int .i64 U) ∧ Below w'.heap.size w' w''))
  have C2 := Hid.mk (fun w' (hu : Up w5 w') => (hU ▸ (T5.out.up hu.out).usedR HBn.out : Calls Try.prog 33 #[.pointer (some ⟨q, 0, none⟩)] w' fun e w'' => e = .returned (.int .i64 U) ∧ Below w'.heap.size w' w''))
  have C3 := Hid.mk (fun w' (hu : Up w5 w') => (hU ▸ (T5.out.up hu.out).left : Calls Try.prog 19 #[.pointer (some ⟨p, 0, none⟩)] w' fun e w'' => e = .returned (.int .i64 ((W : Int) - U)) ∧ Below w'.heap.size w' w''))
  have C4 := Hid.mk (fun w' (hu : Up w5 w') => (hNL ▸ (T5.out.up hu.out).blocks HBn.out : Calls Try.prog 21 #[.pointer (some ⟨p, 0, none⟩)] w' fun e w'' => ∃ a cap, e = .returned (.slice a NL.length cap) ∧ CelI w'' NL a ∧ Below w'.heap.size w' w''))
  have C5 := Hid.mk (fun w' (hu : Up w5 w') => (hNL ▸ (T5.out.up hu.out).blocksR HBn.out : Calls Try.prog 34 #[.pointer (some ⟨q, 0, none⟩)] w' fun e w'' => ∃ a cap, e = .returned (.slice a NL.length cap) ∧ CelI w'' NL a ∧ Below w'.heap.size w' w''))
  have HNL := Hid.mk (show NL.length ≤ 1000000 by rw [← hNL]; have := numsB_len Bn 0; omega)
  clear hB5 hU hNL hmost
  refine wp_region_held (S := Up w5) (by kernel_rfl) ?_
  refine chain_take (i := 0) (d := 105) (v := .bool true) rfl rfl (by kernel_rfl) (by kernel_rfl) (by kernel_rfl) rfl (fun _ _ => rfl) (fun _ _ _ h => h) (Up.refl w5).drew ?_
  simp only [Act.put, List.setIfInBounds_toArray, List.set_cons_zero, List.set_cons_succ]
  refine chain_take (i := 1) (d := 106) (v := .bool true) rfl rfl (by kernel_rfl) (by kernel_rfl) (by kernel_rfl) rfl (fun _ _ => rfl) (fun _ _ _ h => h) (Up.refl w5).drew ?_
  simp only [Act.put, List.setIfInBounds_toArray, List.set_cons_zero, List.set_cons_succ]
  refine chain_take (i := 2) (d := 107) (v := .pointer (some ⟨p, 0, none⟩)) rfl rfl (by kernel_rfl) (by kernel_rfl) (by kernel_rfl) rfl (fun _ _ => rfl) (fun _ _ _ h => h) (Up.refl w5).drew ?_
  simp only [Act.put, List.setIfInBounds_toArray, List.set_cons_zero, List.set_cons_succ]
  refine chain_take (i := 4) (d := 109) (v := .pointer (some ⟨q, 0, none⟩)) rfl rfl (by kernel_rfl) (by kernel_rfl) (by kernel_rfl) rfl (fun _ _ => rfl) (fun _ _ _ h => h) (Up.refl w5).drew ?_
  simp only [Act.put, List.setIfInBounds_toArray, List.set_cons_zero, List.set_cons_succ]
  refine chain_call (i := 3) (d := 108) (f := 20) (args := #[.pointer (some ⟨p, 0, none⟩)]) (by kernel_rfl) rfl rfl rfl (by go_simp) ?_
  refine (C1.out _ (Up.refl w5).drew).mono ?_
  rintro e w6 ⟨rfl, hb6⟩
  refine ⟨.int .i64 U, rfl, (Up.refl w5).drew.call hb6, ?_⟩
  simp only [Act.put, List.setIfInBounds_toArray, List.set_cons_zero, List.set_cons_succ]
  refine chain_call (i := 5) (d := 110) (f := 33) (args := #[.pointer (some ⟨q, 0, none⟩)]) (by kernel_rfl) rfl rfl rfl (by go_simp) ?_
  refine (C2.out _ ((Up.refl w5).drew.call hb6)).mono ?_
  rintro e w7 ⟨rfl, hb7⟩
  refine ⟨.int .i64 U, rfl, ((Up.refl w5).drew.call hb6).call hb7, ?_⟩
  simp only [Act.put, List.setIfInBounds_toArray, List.set_cons_zero, List.set_cons_succ]
  refine chain_take (i := 6) (d := 111) (v := .bool true) rfl rfl (by kernel_rfl) (by kernel_rfl) (by kernel_rfl) rfl (fun _ _ => (by go_simp)) (fun _ _ _ h => h) (((Up.refl w5).drew.call hb6).call hb7) ?_
  simp only [Act.put, List.setIfInBounds_toArray, List.set_cons_zero, List.set_cons_succ]
  refine chain_take (i := 7) (d := 112) (v := .bool true) rfl rfl (by kernel_rfl) (by kernel_rfl) (by kernel_rfl) rfl (fun _ _ => rfl) (fun _ _ _ h => h) (((Up.refl w5).drew.call hb6).call hb7) ?_
  simp only [Act.put, List.setIfInBounds_toArray, List.set_cons_zero, List.set_cons_succ]
  refine chain_take (i := 8) (d := 113) (v := .bool true) rfl rfl (by kernel_rfl) (by kernel_rfl) (by kernel_rfl) rfl (fun _ _ => rfl) (fun _ _ _ h => h) (((Up.refl w5).drew.call hb6).call hb7) ?_
  simp only [Act.put, List.setIfInBounds_toArray, List.set_cons_zero, List.set_cons_succ]
  refine chain_take (i := 9) (d := 114) (v := .pointer (some ⟨p, 0, none⟩)) rfl rfl (by kernel_rfl) (by kernel_rfl) (by kernel_rfl) rfl (fun _ _ => rfl) (fun _ _ _ h => h) (((Up.refl w5).drew.call hb6).call hb7) ?_
  simp only [Act.put, List.setIfInBounds_toArray, List.set_cons_zero, List.set_cons_succ]
  refine chain_take (i := 11) (d := 116) (v := .pointer (some ⟨q, 0, none⟩)) rfl rfl (by kernel_rfl) (by kernel_rfl) (by kernel_rfl) rfl (fun _ _ => rfl) (fun _ _ _ h => h) (((Up.refl w5).drew.call hb6).call hb7) ?_
  simp only [Act.put, List.setIfInBounds_toArray, List.set_cons_zero, List.set_cons_succ]
  refine chain_take (i := 12) (d := 117) (v := .pointer (some ⟨q, 0, none⟩)) rfl rfl (by kernel_rfl) (by kernel_rfl) (by kernel_rfl) rfl (fun _ _ => (by go_simp)) (fun _ _ _ h => h) (((Up.refl w5).drew.call hb6).call hb7) ?_
  simp only [Act.put, List.setIfInBounds_toArray, List.set_cons_zero, List.set_cons_succ]
  refine chain_take (i := 13) (d := 118) (v := .pointer (some ⟨q, 0, none⟩)) rfl rfl (by kernel_rfl) (by kernel_rfl) (by kernel_rfl) rfl (fun _ _ => (by go_simp)) (fun _ _ _ h => h) (((Up.refl w5).drew.call hb6).call hb7) ?_
  simp only [Act.put, List.setIfInBounds_toArray, List.set_cons_zero, List.set_cons_succ]
  refine chain_take (i := 14) (d := 119) (v := .int .i64 W) rfl rfl (by kernel_rfl) (by kernel_rfl) (by kernel_rfl) rfl (fun W h => (by have u0 := cell_below h.out _ _ _ q0; go_simp)) (fun _ _ _ h => h) (((Up.refl w5).drew.call hb6).call hb7) ?_
  simp only [Act.put, List.setIfInBounds_toArray, List.set_cons_zero, List.set_cons_succ]
  refine chain_take (i := 15) (d := 120) (v := .pointer (some ⟨q, 0, none⟩)) rfl rfl (by kernel_rfl) (by kernel_rfl) (by kernel_rfl) rfl (fun _ _ => rfl) (fun _ _ _ h => h) (((Up.refl w5).drew.call hb6).call hb7) ?_
  simp only [Act.put, List.setIfInBounds_toArray, List.set_cons_zero, List.set_cons_succ]
  refine chain_call (i := 10) (d := 115) (f := 19) (args := #[.pointer (some ⟨p, 0, none⟩)]) (by kernel_rfl) rfl rfl rfl (by go_simp) ?_
  refine (C3.out _ (((Up.refl w5).drew.call hb6).call hb7)).mono ?_
  rintro e w8 ⟨rfl, hb8⟩
  refine ⟨.int .i64 (W - U), rfl, (((Up.refl w5).drew.call hb6).call hb7).call hb8, ?_⟩
  simp only [Act.put, List.setIfInBounds_toArray, List.set_cons_zero, List.set_cons_succ]
  refine chain_call (i := 16) (d := 121) (f := 33) (args := #[.pointer (some ⟨q, 0, none⟩)]) (by kernel_rfl) rfl rfl rfl (by go_simp) ?_
  refine (C2.out _ ((((Up.refl w5).drew.call hb6).call hb7).call hb8)).mono ?_
  rintro e w9 ⟨rfl, hb9⟩
  refine ⟨.int .i64 U, rfl, ((((Up.refl w5).drew.call hb6).call hb7).call hb8).call hb9, ?_⟩
  simp only [Act.put, List.setIfInBounds_toArray, List.set_cons_zero, List.set_cons_succ]
  refine chain_take (i := 17) (d := 122) (v := .int .i64 (W - U)) rfl rfl (by kernel_rfl) (by kernel_rfl) (by kernel_rfl) rfl (fun _ _ => (by go_simp)) (fun _ _ _ h => h) (((((Up.refl w5).drew.call hb6).call hb7).call hb8).call hb9) ?_
  simp only [Act.put, List.setIfInBounds_toArray, List.set_cons_zero, List.set_cons_succ]
  refine chain_take (i := 18) (d := 123) (v := .bool true) rfl rfl (by kernel_rfl) (by kernel_rfl) (by kernel_rfl) rfl (fun _ _ => (by go_simp)) (fun _ _ _ h => h) (((((Up.refl w5).drew.call hb6).call hb7).call hb8).call hb9) ?_
  simp only [Act.put, List.setIfInBounds_toArray, List.set_cons_zero, List.set_cons_succ]
  refine chain_take (i := 19) (d := 124) (v := .bool true) rfl rfl (by kernel_rfl) (by kernel_rfl) (by kernel_rfl) rfl (fun _ _ => rfl) (fun _ _ _ h => h) (((((Up.refl w5).drew.call hb6).call hb7).call hb8).call hb9) ?_
  simp only [Act.put, List.setIfInBounds_toArray, List.set_cons_zero, List.set_cons_succ]
  refine chain_take (i := 20) (d := 125) (v := .bool true) rfl rfl (by kernel_rfl) (by kernel_rfl) (by kernel_rfl) rfl (fun _ _ => rfl) (fun _ _ _ h => h) (((((Up.refl w5).drew.call hb6).call hb7).call hb8).call hb9) ?_
  simp only [Act.put, List.setIfInBounds_toArray, List.set_cons_zero, List.set_cons_succ]
  refine chain_take (i := 21) (d := 126) (v := .pointer (some ⟨p, 0, none⟩)) rfl rfl (by kernel_rfl) (by kernel_rfl) (by kernel_rfl) rfl (fun _ _ => rfl) (fun _ _ _ h => h) (((((Up.refl w5).drew.call hb6).call hb7).call hb8).call hb9) ?_
  simp only [Act.put, List.setIfInBounds_toArray, List.set_cons_zero, List.set_cons_succ]
  refine chain_take (i := 23) (d := 128) (v := .pointer (some ⟨q, 0, none⟩)) rfl rfl (by kernel_rfl) (by kernel_rfl) (by kernel_rfl) rfl (fun _ _ => rfl) (fun _ _ _ h => h) (((((Up.refl w5).drew.call hb6).call hb7).call hb8).call hb9) ?_
  simp only [Act.put, List.setIfInBounds_toArray, List.set_cons_zero, List.set_cons_succ]
  refine chain_call (i := 22) (d := 127) (f := 21) (args := #[.pointer (some ⟨p, 0, none⟩)]) (by kernel_rfl) rfl rfl rfl (by go_simp) ?_
  refine (C4.out _ (((((Up.refl w5).drew.call hb6).call hb7).call hb8).call hb9)).mono ?_
  rintro e w10 ⟨b1, bc1, rfl, hi1, hb10⟩
  refine ⟨.slice b1 NL.length bc1, rfl, (((((Up.refl w5).drew.call hb6).call hb7).call hb8).call hb9).call hb10, ?_⟩
  simp only [Act.put, List.setIfInBounds_toArray, List.set_cons_zero, List.set_cons_succ]
  refine chain_call (i := 24) (d := 129) (f := 34) (args := #[.pointer (some ⟨q, 0, none⟩)]) (by kernel_rfl) rfl rfl rfl (by go_simp) ?_
  refine (C5.out _ ((((((Up.refl w5).drew.call hb6).call hb7).call hb8).call hb9).call hb10)).mono ?_
  rintro e w11 ⟨b2, bc2, rfl, hi2, hb11⟩
  refine ⟨.slice b2 NL.length bc2, rfl, ((((((Up.refl w5).drew.call hb6).call hb7).call hb8).call hb9).call hb10).call hb11, ?_⟩
  simp only [Act.put, List.setIfInBounds_toArray, List.set_cons_zero, List.set_cons_succ]
  refine chain_call (i := 25) (d := 130) (f := 23) (args := #[.slice b1 NL.length bc1, .slice b2 NL.length bc2]) (by kernel_rfl) rfl rfl rfl (by go_simp) ?_
  refine (sameInts_self NL b1 b2 bc1 bc2 _ (hi1.up hb11) hi2 HNL.out).mono ?_
  rintro e w12 ⟨rfl, hb12⟩
  refine ⟨.bool true, rfl, (((((((Up.refl w5).drew.call hb6).call hb7).call hb8).call hb9).call hb10).call hb11).call hb12, ?_⟩
  simp only [Act.put, List.setIfInBounds_toArray, List.set_cons_zero, List.set_cons_succ]
  refine chain_take (i := 26) (d := 131) (v := .bool true) rfl rfl (by kernel_rfl) (by kernel_rfl) (by kernel_rfl) rfl (fun _ _ => rfl) (fun _ _ _ h => h) ((((((((Up.refl w5).drew.call hb6).call hb7).call hb8).call hb9).call hb10).call hb11).call hb12) ?_
  simp only [Act.put, List.setIfInBounds_toArray, List.set_cons_zero, List.set_cons_succ]
  refine chain_take (i := 27) (d := 6) (v := .bool true) rfl rfl (by kernel_rfl) (by kernel_rfl) (by kernel_rfl) rfl (fun _ _ => rfl) (fun _ _ _ h => h) ((((((((Up.refl w5).drew.call hb6).call hb7).call hb8).call hb9).call hb10).call hb11).call hb12) ?_
  simp only [Act.put, List.setIfInBounds_toArray, List.set_cons_zero, List.set_cons_succ]
  refine wpAnyH_done (by kernel_rfl) ?_ _
  have HF := Hid.mk (T5.out.up ((((((((Up.refl w5).drew.call hb6).call hb7).call hb8).call hb9).call hb10).call hb11).call hb12).out)
  clear hb6 hb7 hb8 hb9 hb10 hb11 hb12 hi1 hi2 q0
  go_wp2
  go_ret
  exact ⟨Bn, rfl, HF.out.weaken (fun k hk => Or.inl (Or.inl hk)), HLn.out⟩

end Go.Proofs.Ytpfcbokckjfhbaa
