/-
  One call of a script: both arenas answer alike: taken, told.
-/
import Derived.Test.YtpfcbokckjfhbaaArenaActH
namespace Go.Proofs.Ytpfcbokckjfhbaa
open Go.RowKit Go.Deep Go.Maps Go.WideShapes

set_option maxRecDepth 100000 in
set_option maxHeartbeats 4000000 in
theorem act0_any (w0 w : World) (p bm q W : Nat) (B : Blks) (F : Nat → Prop) (n : Int) (l : List Int) (la : Option Addr) (lcap : Nat) (h : Tw w0 w p bm q W B B F) (hx : Wrd w0 l la lcap) (hn : la = none → lcap = 0) (hi : In64 n) (hl : l.length ≤ 100) (hB : B.length ≤ 900) :
    Calls Try.prog 12 #[.pointer (some ⟨p, 0, none⟩), .pointer (some ⟨q, 0, none⟩), .agg #[.int .i64 0, .int .i64 n, .slice la l.length lcap]] w fun e w' => ∃ B', e = .returned (.bool true) ∧ Tw w0 w' p bm q W B' B' F ∧ B'.length ≤ B.length + 1 := by
  obtain ⟨W0, hW0⟩ : ∃ W0, w.alloc (.cells #[.int .i64 0, .int .i64 n, .slice la l.length lcap] 33) = W0 := ⟨_, rfl⟩
  obtain ⟨b, hb⟩ : ∃ b, w.heap.size = b := ⟨_, rfl⟩
  have hbox : W0.heap[b]? = some (.cells #[.int .i64 0, .int .i64 n, .slice la l.length lcap] 33) := by rw [← hW0, ← hb]; exact new_block _ _
  have c0 : W0.cell? ⟨b, 0, none⟩ = some (.int .i64 0) := by simp [World.cell?, hbox]
  have c1 : W0.cell? ⟨b, 1, none⟩ = some (.int .i64 n) := by simp [World.cell?, hbox]
  have c2 : W0.cell? ⟨b, 2, none⟩ = some (.slice la l.length lcap) := by simp [World.cell?, hbox]
  have T0 := Hid.mk (h.add (w' := W0) (by rw [← hW0]; exact (Up.refl w).alloc.out) (fun k => k = b) (fun k hk => by subst hk; rw [← hW0, ← hb]; simp))

  have HX := Hid.mk hx
  have HN := Hid.mk hn
  have HIn := Hid.mk hi
  have HL := Hid.mk hl
  have HB := Hid.mk (show B.length ≤ 1000 by omega)
  have HB9 := Hid.mk hB
  clear h hx hn hi hl hB hbox
  go_enter Try.func12, Try.ntmps12
  go_upto_region 1 with fail
  try rw [hW0]
  try rw [hb]
  clear hW0 hb
  go_upto_region 19 with (first
    | (go_at_call 26; refine (lentWords_any l la lcap _ (HX.out.below T0.out.below) HN.out (by have := HL.out; omega)).mono ?_; rintro e w1 ⟨g, icap, rfl, hw, hg, hi1, hi2, hb⟩; have T1 := Hid.mk (T0.out.add hb (fun k => k = g) (fun k hk => by subst hk; exact ⟨hg, hw.block_lt rfl⟩)); have HI := Hid.mk (And.intro hg hi1); have IN1 := Hid.mk hw; have c0 := cell_below hb _ _ _ c0; have c1 := cell_below hb _ _ _ c1; have c2 := cell_below hb _ _ _ c2; clear hw hg hi1 hi2 hb)
    | (go_at_call 15; refine (T1.out.take l (some ⟨g, 0, none⟩) icap (cel_lent IN1.out) (by have := HL.out; omega) HB.out).mono ?_; rintro e w2 ⟨rfl, h2, k2⟩; have T2 := Hid.mk h2; have IN2 := Hid.mk (k2.wds IN1.out (fun k hk => by cases hk; exact Or.inr rfl)); have c0 := Kf.cell k2 (Or.inl (Or.inr rfl)) c0; have c1 := Kf.cell k2 (Or.inl (Or.inr rfl)) c1; have c2 := Kf.cell k2 (Or.inl (Or.inr rfl)) c2; clear h2 k2)
    | (go_at_call 27; refine (T2.out.takeR l la lcap (HX.out.below T2.out.below).cel (by have := HL.out; omega) HB.out).mono ?_; rintro e w3 ⟨rfl, h3, k3⟩; have T3 := Hid.mk h3; have IN3 := Hid.mk (k3.wds IN2.out (fun k hk => by cases hk; exact Or.inr rfl)); have c2 := Kf.cell k3 (Or.inl (Or.inr rfl)) c2; clear h3 k3)
    | (go_at_call 32; refine (keptWords_any l g icap la lcap _ IN3.out HI.out.2 (HX.out.below T3.out.below).cel (by have := HL.out; omega)).mono ?_; rintro e w4 ⟨rfl, hb⟩; have T4 := Hid.mk (T3.out.up hb); have IN4 := Hid.mk (wds_short (IN3.out.up hb)); clear hb)
    | (go_at_call 29; refine (overWords_any l (some ⟨g, 0, none⟩) _ icap _ IN4.out).mono ?_; rintro e w5 ⟨⟨ox, rfl⟩, ho⟩; have T5 := Hid.mk (T4.out.over ho (fun k hk => by cases hk; exact ⟨Or.inr rfl, Nat.le_trans T0.out.below.size HI.out.1⟩)); clear ho))
  obtain ⟨Bn, hBn⟩ : ∃ Bn, (takeR W B l).2.2 = Bn := ⟨_, rfl⟩
  have HLn := Hid.mk (show Bn.length ≤ B.length + 1 by rw [← hBn]; exact takeR_len W B l)
  have HBn := Hid.mk (show Bn.length ≤ 1000 by have := HLn.out; have := HB9.out; omega)
  rw [hBn] at T5
  clear hBn c2
  have hB5 := HBn.out
  obtain ⟨U, hU⟩ : ∃ U, usedB Bn = U := ⟨_, rfl⟩
  obtain ⟨NL, hNL⟩ : ∃ NL, numsB 0 Bn = NL := ⟨_, rfl⟩
  have hmost := T5.out.most
  rw [hU] at hmost
  have hws : IntKind.i64.wrap ((W : Int) - U) = (W : Int) - U := wrap_id (by omega) (by omega)
  have q0 := T5.out.words
  have C1 := Hid.mk (fun w' (hu : Up w5 w') => (hU ▸ (T5.out.up hu.out).used : Calls Try.prog 20 #[.pointer (some ⟨p, 0, none⟩)] w' fun e w'' => e = .returned (.int .i64 U) ∧ Below w'.heap.size w' w''))
  have C2 := Hid.mk (fun w' (hu : Up w5 w') => (hU ▸ (T5.out.up hu.out).usedR HBn.out : Calls Try.prog 33 #[.pointer (some ⟨q, 0, none⟩)] w' fun e w'' => e = .returned (.int .i64 U) ∧ Below w'.heap.size w' w''))
  have C3 := Hid.mk (fun w' (hu : Up w5 w') => (hU ▸ (T5.out.up hu.out).left : Calls Try.prog 19 #[.pointer (some ⟨p, 0, none⟩)] w' fun e w'' => e = .returned (.int .i64 ((W : Int) - U)) ∧ Below w'.heap.size w' w''))
  have C4 := Hid.mk (fun w' (hu : Up w5 w') => (hNL ▸ (T5.out.up hu.out).blocks HBn.out : Calls Try.prog 21 #[.pointer (some ⟨p, 0, none⟩)] w' fun e w'' => ∃ a cap, e = .returned (.slice a NL.length cap) ∧ CelI w'' NL a ∧ Below w'.heap.size w' w''))
  have C5 := Hid.mk (fun w' (hu : Up w5 w') => (hNL ▸ (T5.out.up hu.out).blocksR HBn.out : Calls Try.prog 34 #[.pointer (some ⟨q, 0, none⟩)] w' fun e w'' => ∃ a cap, e = .returned (.slice a NL.length cap) ∧ CelI w'' NL a ∧ Below w'.heap.size w' w''))
  have HNL := Hid.mk (show NL.length ≤ 1000000 by rw [← hNL]; have := numsB_len Bn 0; omega)
  clear hB5 hU hNL hmost
  refine wp_region_held (S := Up w5) (by kernel_rfl) ?_
  refine chain_take (i := 0) (d := 105) (v := .bool true) rfl rfl (by kernel_rfl) (by kernel_rfl) (by kernel_rfl) rfl (fun _ _ => rfl) (fun _ _ _ h => h) (Up.refl w5).drew ?_
  simp only [Act.put, List.setIfInBounds_toArray, List.set_cons_zero, List.set_cons_succ]
  refine chain_take (i := 1) (d := 106) (v := .bool true) rfl rfl (by kernel_rfl) (by kernel_rfl) (by kernel_rfl) rfl (fun _ _ => rfl) (fun _ _ _ h => h) (Up.refl w5).drew ?_
  simp only [Act.put, List.setIfInBounds_toArray, List.set_cons_zero, List.set_cons_succ]
  refine chain_take (i := 2) (d := 107) (v := .pointer (some ⟨p, 0, none⟩)) rfl rfl (by kernel_rfl) (by kernel_rfl) (by kernel_rfl) rfl (fun _ _ => rfl) (fun _ _ _ h => h) (Up.refl w5).drew ?_
  simp only [Act.put, List.setIfInBounds_toArray, List.set_cons_zero, List.set_cons_succ]
  refine chain_take (i := 4) (d := 109) (v := .pointer (some ⟨q, 0, none⟩)) rfl rfl (by kernel_rfl) (by kernel_rfl) (by kernel_rfl) rfl (fun _ _ => rfl) (fun _ _ _ h => h) (Up.refl w5).drew ?_
  simp only [Act.put, List.setIfInBounds_toArray, List.set_cons_zero, List.set_cons_succ]
  refine chain_call (i := 3) (d := 108) (f := 20) (args := #[.pointer (some ⟨p, 0, none⟩)]) (by kernel_rfl) rfl rfl rfl (by go_simp) ?_
  refine (C1.out _ (Up.refl w5).drew).mono ?_
  rintro e w6 ⟨rfl, hb6⟩
  refine ⟨.int .i64 U, rfl, (Up.refl w5).drew.call hb6, ?_⟩
  simp only [Act.put, List.setIfInBounds_toArray, List.set_cons_zero, List.set_cons_succ]
  refine chain_call (i := 5) (d := 110) (f := 33) (args := #[.pointer (some ⟨q, 0, none⟩)]) (by kernel_rfl) rfl rfl rfl (by go_simp) ?_
  refine (C2.out _ ((Up.refl w5).drew.call hb6)).mono ?_
  rintro e w7 ⟨rfl, hb7⟩
  refine ⟨.int .i64 U, rfl, ((Up.refl w5).drew.call hb6).call hb7, ?_⟩
  simp only [Act.put, List.setIfInBounds_toArray, List.set_cons_zero, List.set_cons_succ]
  refine chain_take (i := 6) (d := 111) (v := .bool true) rfl rfl (by kernel_rfl) (by kernel_rfl) (by kernel_rfl) rfl (fun _ _ => (by go_simp)) (fun _ _ _ h => h) (((Up.refl w5).drew.call hb6).call hb7) ?_
  simp only [Act.put, List.setIfInBounds_toArray, List.set_cons_zero, List.set_cons_succ]
  refine chain_take (i := 7) (d := 112) (v := .bool true) rfl rfl (by kernel_rfl) (by kernel_rfl) (by kernel_rfl) rfl (fun _ _ => rfl) (fun _ _ _ h => h) (((Up.refl w5).drew.call hb6).call hb7) ?_
  simp only [Act.put, List.setIfInBounds_toArray, List.set_cons_zero, List.set_cons_succ]
  refine chain_take (i := 8) (d := 113) (v := .bool true) rfl rfl (by kernel_rfl) (by kernel_rfl) (by kernel_rfl) rfl (fun _ _ => rfl) (fun _ _ _ h => h) (((Up.refl w5).drew.call hb6).call hb7) ?_
  simp only [Act.put, List.setIfInBounds_toArray, List.set_cons_zero, List.set_cons_succ]
  refine chain_take (i := 9) (d := 114) (v := .pointer (some ⟨p, 0, none⟩)) rfl rfl (by kernel_rfl) (by kernel_rfl) (by kernel_rfl) rfl (fun _ _ => rfl) (fun _ _ _ h => h) (((Up.refl w5).drew.call hb6).call hb7) ?_
  simp only [Act.put, List.setIfInBounds_toArray, List.set_cons_zero, List.set_cons_succ]
  refine chain_take (i := 11) (d := 116) (v := .pointer (some ⟨q, 0, none⟩)) rfl rfl (by kernel_rfl) (by kernel_rfl) (by kernel_rfl) rfl (fun _ _ => rfl) (fun _ _ _ h => h) (((Up.refl w5).drew.call hb6).call hb7) ?_
  simp only [Act.put, List.setIfInBounds_toArray, List.set_cons_zero, List.set_cons_succ]
  refine chain_take (i := 12) (d := 117) (v := .pointer (some ⟨q, 0, none⟩)) rfl rfl (by kernel_rfl) (by kernel_rfl) (by kernel_rfl) rfl (fun _ _ => (by go_simp)) (fun _ _ _ h => h) (((Up.refl w5).drew.call hb6).call hb7) ?_
  simp only [Act.put, List.setIfInBounds_toArray, List.set_cons_zero, List.set_cons_succ]
  refine chain_take (i := 13) (d := 118) (v := .pointer (some ⟨q, 0, none⟩)) rfl rfl (by kernel_rfl) (by kernel_rfl) (by kernel_rfl) rfl (fun _ _ => (by go_simp)) (fun _ _ _ h => h) (((Up.refl w5).drew.call hb6).call hb7) ?_
  simp only [Act.put, List.setIfInBounds_toArray, List.set_cons_zero, List.set_cons_succ]
  refine chain_take (i := 14) (d := 119) (v := .int .i64 W) rfl rfl (by kernel_rfl) (by kernel_rfl) (by kernel_rfl) rfl (fun W h => (by have u0 := cell_below h.out _ _ _ q0; go_simp)) (fun _ _ _ h => h) (((Up.refl w5).drew.call hb6).call hb7) ?_
  simp only [Act.put, List.setIfInBounds_toArray, List.set_cons_zero, List.set_cons_succ]
  refine chain_take (i := 15) (d := 120) (v := .pointer (some ⟨q, 0, none⟩)) rfl rfl (by kernel_rfl) (by kernel_rfl) (by kernel_rfl) rfl (fun _ _ => rfl) (fun _ _ _ h => h) (((Up.refl w5).drew.call hb6).call hb7) ?_
  simp only [Act.put, List.setIfInBounds_toArray, List.set_cons_zero, List.set_cons_succ]
  refine chain_call (i := 10) (d := 115) (f := 19) (args := #[.pointer (some ⟨p, 0, none⟩)]) (by kernel_rfl) rfl rfl rfl (by go_simp) ?_
  refine (C3.out _ (((Up.refl w5).drew.call hb6).call hb7)).mono ?_
  rintro e w8 ⟨rfl, hb8⟩
  refine ⟨.int .i64 (W - U), rfl, (((Up.refl w5).drew.call hb6).call hb7).call hb8, ?_⟩
  simp only [Act.put, List.setIfInBounds_toArray, List.set_cons_zero, List.set_cons_succ]
  refine chain_call (i := 16) (d := 121) (f := 33) (args := #[.pointer (some ⟨q, 0, none⟩)]) (by kernel_rfl) rfl rfl rfl (by go_simp) ?_
  refine (C2.out _ ((((Up.refl w5).drew.call hb6).call hb7).call hb8)).mono ?_
  rintro e w9 ⟨rfl, hb9⟩
  refine ⟨.int .i64 U, rfl, ((((Up.refl w5).drew.call hb6).call hb7).call hb8).call hb9, ?_⟩
  simp only [Act.put, List.setIfInBounds_toArray, List.set_cons_zero, List.set_cons_succ]
  refine chain_take (i := 17) (d := 122) (v := .int .i64 (W - U)) rfl rfl (by kernel_rfl) (by kernel_rfl) (by kernel_rfl) rfl (fun _ _ => (by go_simp)) (fun _ _ _ h => h) (((((Up.refl w5).drew.call hb6).call hb7).call hb8).call hb9) ?_
  simp only [Act.put, List.setIfInBounds_toArray, List.set_cons_zero, List.set_cons_succ]
  refine chain_take (i := 18) (d := 123) (v := .bool true) rfl rfl (by kernel_rfl) (by kernel_rfl) (by kernel_rfl) rfl (fun _ _ => (by go_simp)) (fun _ _ _ h => h) (((((Up.refl w5).drew.call hb6).call hb7).call hb8).call hb9) ?_
  simp only [Act.put, List.setIfInBounds_toArray, List.set_cons_zero, List.set_cons_succ]
  refine chain_take (i := 19) (d := 124) (v := .bool true) rfl rfl (by kernel_rfl) (by kernel_rfl) (by kernel_rfl) rfl (fun _ _ => rfl) (fun _ _ _ h => h) (((((Up.refl w5).drew.call hb6).call hb7).call hb8).call hb9) ?_
  simp only [Act.put, List.setIfInBounds_toArray, List.set_cons_zero, List.set_cons_succ]
  refine chain_take (i := 20) (d := 125) (v := .bool true) rfl rfl (by kernel_rfl) (by kernel_rfl) (by kernel_rfl) rfl (fun _ _ => rfl) (fun _ _ _ h => h) (((((Up.refl w5).drew.call hb6).call hb7).call hb8).call hb9) ?_
  simp only [Act.put, List.setIfInBounds_toArray, List.set_cons_zero, List.set_cons_succ]
  refine chain_take (i := 21) (d := 126) (v := .pointer (some ⟨p, 0, none⟩)) rfl rfl (by kernel_rfl) (by kernel_rfl) (by kernel_rfl) rfl (fun _ _ => rfl) (fun _ _ _ h => h) (((((Up.refl w5).drew.call hb6).call hb7).call hb8).call hb9) ?_
  simp only [Act.put, List.setIfInBounds_toArray, List.set_cons_zero, List.set_cons_succ]
  refine chain_take (i := 23) (d := 128) (v := .pointer (some ⟨q, 0, none⟩)) rfl rfl (by kernel_rfl) (by kernel_rfl) (by kernel_rfl) rfl (fun _ _ => rfl) (fun _ _ _ h => h) (((((Up.refl w5).drew.call hb6).call hb7).call hb8).call hb9) ?_
  simp only [Act.put, List.setIfInBounds_toArray, List.set_cons_zero, List.set_cons_succ]
  refine chain_call (i := 22) (d := 127) (f := 21) (args := #[.pointer (some ⟨p, 0, none⟩)]) (by kernel_rfl) rfl rfl rfl (by go_simp) ?_
  refine (C4.out _ (((((Up.refl w5).drew.call hb6).call hb7).call hb8).call hb9)).mono ?_
  rintro e w10 ⟨b1, bc1, rfl, hi1, hb10⟩
  refine ⟨.slice b1 NL.length bc1, rfl, (((((Up.refl w5).drew.call hb6).call hb7).call hb8).call hb9).call hb10, ?_⟩
  simp only [Act.put, List.setIfInBounds_toArray, List.set_cons_zero, List.set_cons_succ]
  refine chain_call (i := 24) (d := 129) (f := 34) (args := #[.pointer (some ⟨q, 0, none⟩)]) (by kernel_rfl) rfl rfl rfl (by go_simp) ?_
  refine (C5.out _ ((((((Up.refl w5).drew.call hb6).call hb7).call hb8).call hb9).call hb10)).mono ?_
  rintro e w11 ⟨b2, bc2, rfl, hi2, hb11⟩
  refine ⟨.slice b2 NL.length bc2, rfl, ((((((Up.refl w5).drew.call hb6).call hb7).call hb8).call hb9).call hb10).call hb11, ?_⟩
  simp only [Act.put, List.setIfInBounds_toArray, List.set_cons_zero, List.set_cons_succ]
  refine chain_call (i := 25) (d := 130) (f := 23) (args := #[.slice b1 NL.length bc1, .slice b2 NL.length bc2]) (by kernel_rfl) rfl rfl rfl (by go_simp) ?_
  refine (sameInts_self NL b1 b2 bc1 bc2 _ (hi1.up hb11) hi2 HNL.out).mono ?_
  rintro e w12 ⟨rfl, hb12⟩
  refine ⟨.bool true, rfl, (((((((Up.refl w5).drew.call hb6).call hb7).call hb8).call hb9).call hb10).call hb11).call hb12, ?_⟩
  simp only [Act.put, List.setIfInBounds_toArray, List.set_cons_zero, List.set_cons_succ]
  refine chain_take (i := 26) (d := 131) (v := .bool true) rfl rfl (by kernel_rfl) (by kernel_rfl) (by kernel_rfl) rfl (fun _ _ => rfl) (fun _ _ _ h => h) ((((((((Up.refl w5).drew.call hb6).call hb7).call hb8).call hb9).call hb10).call hb11).call hb12) ?_
  simp only [Act.put, List.setIfInBounds_toArray, List.set_cons_zero, List.set_cons_succ]
  refine chain_take (i := 27) (d := 6) (v := .bool true) rfl rfl (by kernel_rfl) (by kernel_rfl) (by kernel_rfl) rfl (fun _ _ => rfl) (fun _ _ _ h => h) ((((((((Up.refl w5).drew.call hb6).call hb7).call hb8).call hb9).call hb10).call hb11).call hb12) ?_
  simp only [Act.put, List.setIfInBounds_toArray, List.set_cons_zero, List.set_cons_succ]
  refine wpAnyH_done (by kernel_rfl) ?_ _
  have HF := Hid.mk (T5.out.up ((((((((Up.refl w5).drew.call hb6).call hb7).call hb8).call hb9).call hb10).call hb11).call hb12).out)
  clear hb6 hb7 hb8 hb9 hb10 hb11 hb12 hi1 hi2 q0
  go_wp2
  go_ret
  exact ⟨Bn, rfl, HF.out.weaken (fun k hk => Or.inl (Or.inl hk)), HLn.out⟩

set_option maxRecDepth 100000 in
set_option maxHeartbeats 4000000 in
theorem act1_any (w0 w : World) (p bm q W : Nat) (B : Blks) (F : Nat → Prop) (n : Int) (l : List Int) (la : Option Addr) (lcap : Nat) (h : Tw w0 w p bm q W B B F) (hx : Wrd w0 l la lcap) (hn : la = none → lcap = 0) (hi : In64 n) (hl : l.length ≤ 100) (hB : B.length ≤ 900) :
    Calls Try.prog 12 #[.pointer (some ⟨p, 0, none⟩), .pointer (some ⟨q, 0, none⟩), .agg #[.int .i64 1, .int .i64 n, .slice la l.length lcap]] w fun e w' => ∃ B', e = .returned (.bool true) ∧ Tw w0 w' p bm q W B' B' F ∧ B'.length ≤ B.length + 1 := by
  obtain ⟨W0, hW0⟩ : ∃ W0, w.alloc (.cells #[.int .i64 1, .int .i64 n, .slice la l.length lcap] 33) = W0 := ⟨_, rfl⟩
  obtain ⟨b, hb⟩ : ∃ b, w.heap.size = b := ⟨_, rfl⟩
  have hbox : W0.heap[b]? = some (.cells #[.int .i64 1, .int .i64 n, .slice la l.length lcap] 33) := by rw [← hW0, ← hb]; exact new_block _ _
  have c0 : W0.cell? ⟨b, 0, none⟩ = some (.int .i64 1) := by simp [World.cell?, hbox]
  have c1 : W0.cell? ⟨b, 1, none⟩ = some (.int .i64 n) := by simp [World.cell?, hbox]
  have c2 : W0.cell? ⟨b, 2, none⟩ = some (.slice la l.length lcap) := by simp [World.cell?, hbox]
  have T0 := Hid.mk (h.add (w' := W0) (by rw [← hW0]; exact (Up.refl w).alloc.out) (fun k => k = b) (fun k hk => by subst hk; rw [← hW0, ← hb]; simp))

  have HX := Hid.mk hx
  have HN := Hid.mk hn
  have HIn := Hid.mk hi
  have HL := Hid.mk hl
  have HB := Hid.mk (show B.length ≤ 1000 by omega)
  have HB9 := Hid.mk hB
  clear h hx hn hi hl hB hbox
  go_enter Try.func12, Try.ntmps12
  go_upto_region 1 with fail
  try rw [hW0]
  try rw [hb]
  clear hW0 hb
  go_upto_region 19 with (first
    | (go_at_call 26; refine (lentWords_any l la lcap _ (HX.out.below T0.out.below) HN.out (by have := HL.out; omega)).mono ?_; rintro e w1 ⟨g, icap, rfl, hw, hg, hi1, hi2, hb⟩; have T1 := Hid.mk (T0.out.add hb (fun k => k = g) (fun k hk => by subst hk; exact ⟨hg, hw.block_lt rfl⟩)); have HI := Hid.mk (And.intro hg hi1); have IN1 := Hid.mk hw; have c0 := cell_below hb _ _ _ c0; have c1 := cell_below hb _ _ _ c1; have c2 := cell_below hb _ _ _ c2; clear hw hg hi1 hi2 hb)
    | (go_at_call 16; refine (T1.out.get n HIn.out).mono ?_; rintro e w2 ⟨gv, rfl, h2, h3, hb⟩; have T2 := Hid.mk (T1.out.add hb (fun k => gv.ownBlock = some k) (fun k hk => ⟨h3 k hk, h2.block_lt hk⟩)); have IN2 := Hid.mk (IN1.out.up hb); have hz := T1.out.below.size; have GN := Hid.mk (fun k (hk : gv.ownBlock = some k) => And.intro (Nat.le_trans hz (h3 k hk)) (h3 k hk)); have BL1 := Hid.mk (World.block_lt_of_cell? w1 ⟨b, 2, none⟩ c2); have c0 := cell_below hb _ _ _ c0; have c1 := cell_below hb _ _ _ c1; have c2 := cell_below hb _ _ _ c2; obtain ⟨ga, gcap, rfl⟩ := owns_slice h2; have GW := Hid.mk h2; clear h2 h3 hb hz)
    | (go_at_call 28; refine (T2.out.getR n HB.out).mono ?_; rintro e w3 ⟨gu, rfl, h2, rfl⟩; obtain ⟨gb, gcb, rfl⟩ := owns_slice h2; have GU := Hid.mk h2; clear h2)
    | (go_at_call 25; refine (sameWords_any (GetV B n) (GetV B n) ga gb gcap gcb _ GW.out.celA GU.out.celA (by have := T2.out.getV_len n; omega)).mono ?_; rintro e w3 ⟨rfl, hb⟩; rw [decide_eq_true (rfl : GetV B n = GetV B n)]; have T3a := Hid.mk (T2.out.up hb); have IN3a := Hid.mk (IN2.out.up hb); have GW3 := Hid.mk (GW.out.up hb); have c2 := cell_below hb _ _ _ c2; clear hb)
    | (go_at_call 29; have tok := GW3; refine (overWords_any (GetV B n) ga _ gcap _ GW3.out).mono ?_; rintro e w4 ⟨⟨gx, rfl⟩, ho⟩; have T3 := Hid.mk ((T3a.out.over ho (fun k hk => ⟨Or.inr hk, (GN.out k hk).1⟩)).weaken (F' := fun k => (F k ∨ k = b) ∨ k = g) (fun k hk => Or.inl hk)); have IN3 := Hid.mk (IN3a.out.kept ho (fun k hk hT => by cases hk; have h1 := (GN.out _ hT).2; have h2 := IN1.out.block_lt rfl; omega)); have c2 := ho.cellS (fun hT => by have h1 := (GN.out _ hT).2; have h2 := BL1.out; omega) c2; clear ho GW3 tok)
    | (go_at_call 32; refine (keptWords_any l g icap la lcap _ IN3.out HI.out.2 (HX.out.below T3.out.below).cel (by have := HL.out; omega)).mono ?_; rintro e w4 ⟨rfl, hb⟩; have T4 := Hid.mk (T3.out.up hb); have IN4 := Hid.mk (wds_short (IN3.out.up hb)); clear hb)
    | (go_at_call 29; refine (overWords_any l (some ⟨g, 0, none⟩) _ icap _ IN4.out).mono ?_; rintro e w5 ⟨⟨ox, rfl⟩, ho⟩; have T5 := Hid.mk (T4.out.over ho (fun k hk => by cases hk; exact ⟨Or.inr rfl, Nat.le_trans T0.out.below.size HI.out.1⟩)); clear ho))
  obtain ⟨Bn, hBn⟩ : ∃ Bn, B = Bn := ⟨_, rfl⟩
  have HLn := Hid.mk (show Bn.length ≤ B.length + 1 by rw [← hBn]; omega)
  have HBn := Hid.mk (show Bn.length ≤ 1000 by have := HLn.out; have := HB9.out; omega)
  rw [hBn] at T5
  clear hBn c2
  have hB5 := HBn.out
  obtain ⟨U, hU⟩ : ∃ U, usedB Bn = U := ⟨_, rfl⟩
  obtain ⟨NL, hNL⟩ : ∃ NL, numsB 0 Bn = NL := ⟨_, rfl⟩
  have hmost := T5.out.most
  rw [hU] at hmost
  have hws : IntKind.i64.wrap ((W : Int) - U) = (W : Int) - U := wrap_id (by omega) (by omega)
  have q0 := T5.out.words
  have C1 := Hid.mk (fun w' (hu : Up w5 w') => (hU ▸ (T5.out.up hu.out).used : Calls Try.prog 20 #[.pointer (some ⟨p, 0, none⟩)] w' fun e w'' => e = .returned (.int .i64 U) ∧ Below w'.heap.size w' w''))
  have C2 := Hid.mk (fun w' (hu : Up w5 w') => (hU ▸ (T5.out.up hu.out).usedR HBn.out : Calls Try.prog 33 #[.pointer (some ⟨q, 0, none⟩)] w' fun e w'' => e = .returned (.int .i64 U) ∧ Below w'.heap.size w' w''))
  have C3 := Hid.mk (fun w' (hu : Up w5 w') => (hU ▸ (T5.out.up hu.out).left : Calls Try.prog 19 #[.pointer (some ⟨p, 0, none⟩)] w' fun e w'' => e = .returned (.int .i64 ((W : Int) - U)) ∧ Below w'.heap.size w' w''))
  have C4 := Hid.mk (fun w' (hu : Up w5 w') => (hNL ▸ (T5.out.up hu.out).blocks HBn.out : Calls Try.prog 21 #[.pointer (some ⟨p, 0, none⟩)] w' fun e w'' => ∃ a cap, e = .returned (.slice a NL.length cap) ∧ CelI w'' NL a ∧ Below w'.heap.size w' w''))
  have C5 := Hid.mk (fun w' (hu : Up w5 w') => (hNL ▸ (T5.out.up hu.out).blocksR HBn.out : Calls Try.prog 34 #[.pointer (some ⟨q, 0, none⟩)] w' fun e w'' => ∃ a cap, e = .returned (.slice a NL.length cap) ∧ CelI w'' NL a ∧ Below w'.heap.size w' w''))
  have HNL := Hid.mk (show NL.length ≤ 1000000 by rw [← hNL]; have := numsB_len Bn 0; omega)
  clear hB5 hU hNL hmost
  refine wp_region_held (S := Up w5) (by kernel_rfl) ?_
  refine chain_take (i := 0) (d := 105) (v := .bool true) rfl rfl (by kernel_rfl) (by kernel_rfl) (by kernel_rfl) rfl (fun _ _ => rfl) (fun _ _ _ h => h) (Up.refl w5).drew ?_
  simp only [Act.put, List.setIfInBounds_toArray, List.set_cons_zero, List.set_cons_succ]
  refine chain_take (i := 1) (d := 106) (v := .bool true) rfl rfl (by kernel_rfl) (by kernel_rfl) (by kernel_rfl) rfl (fun _ _ => rfl) (fun _ _ _ h => h) (Up.refl w5).drew ?_
  simp only [Act.put, List.setIfInBounds_toArray, List.set_cons_zero, List.set_cons_succ]
  refine chain_take (i := 2) (d := 107) (v := .pointer (some ⟨p, 0, none⟩)) rfl rfl (by kernel_rfl) (by kernel_rfl) (by kernel_rfl) rfl (fun _ _ => rfl) (fun _ _ _ h => h) (Up.refl w5).drew ?_
  simp only [Act.put, List.setIfInBounds_toArray, List.set_cons_zero, List.set_cons_succ]
  refine chain_take (i := 4) (d := 109) (v := .pointer (some ⟨q, 0, none⟩)) rfl rfl (by kernel_rfl) (by kernel_rfl) (by kernel_rfl) rfl (fun _ _ => rfl) (fun _ _ _ h => h) (Up.refl w5).drew ?_
  simp only [Act.put, List.setIfInBounds_toArray, List.set_cons_zero, List.set_cons_succ]
  refine chain_call (i := 3) (d := 108) (f := 20) (args := #[.pointer (some ⟨p, 0, none⟩)]) (by kernel_rfl) rfl rfl rfl (by go_simp) ?_
  refine (C1.out _ (Up.refl w5).drew).mono ?_
  rintro e w6 ⟨rfl, hb6⟩
  refine ⟨.int .i64 U, rfl, (Up.refl w5).drew.call hb6, ?_⟩
  simp only [Act.put, List.setIfInBounds_toArray, List.set_cons_zero, List.set_cons_succ]
  refine chain_call (i := 5) (d := 110) (f := 33) (args := #[.pointer (some ⟨q, 0, none⟩)]) (by kernel_rfl) rfl rfl rfl (by go_simp) ?_
  refine (C2.out _ ((Up.refl w5).drew.call hb6)).mono ?_
  rintro e w7 ⟨rfl, hb7⟩
  refine ⟨.int .i64 U, rfl, ((Up.refl w5).drew.call hb6).call hb7, ?_⟩
  simp only [Act.put, List.setIfInBounds_toArray, List.set_cons_zero, List.set_cons_succ]
  refine chain_take (i := 6) (d := 111) (v := .bool true) rfl rfl (by kernel_rfl) (by kernel_rfl) (by kernel_rfl) rfl (fun _ _ => (by go_simp)) (fun _ _ _ h => h) (((Up.refl w5).drew.call hb6).call hb7) ?_
  simp only [Act.put, List.setIfInBounds_toArray, List.set_cons_zero, List.set_cons_succ]
  refine chain_take (i := 7) (d := 112) (v := .bool true) rfl rfl (by kernel_rfl) (by kernel_rfl) (by kernel_rfl) rfl (fun _ _ => rfl) (fun _ _ _ h => h) (((Up.refl w5).drew.call hb6).call hb7) ?_
  simp only [Act.put, List.setIfInBounds_toArray, List.set_cons_zero, List.set_cons_succ]
  refine chain_take (i := 8) (d := 113) (v := .bool true) rfl rfl (by kernel_rfl) (by kernel_rfl) (by kernel_rfl) rfl (fun _ _ => rfl) (fun _ _ _ h => h) (((Up.refl w5).drew.call hb6).call hb7) ?_
  simp only [Act.put, List.setIfInBounds_toArray, List.set_cons_zero, List.set_cons_succ]
  refine chain_take (i := 9) (d := 114) (v := .pointer (some ⟨p, 0, none⟩)) rfl rfl (by kernel_rfl) (by kernel_rfl) (by kernel_rfl) rfl (fun _ _ => rfl) (fun _ _ _ h => h) (((Up.refl w5).drew.call hb6).call hb7) ?_
  simp only [Act.put, List.setIfInBounds_toArray, List.set_cons_zero, List.set_cons_succ]
  refine chain_take (i := 11) (d := 116) (v := .pointer (some ⟨q, 0, none⟩)) rfl rfl (by kernel_rfl) (by kernel_rfl) (by kernel_rfl) rfl (fun _ _ => rfl) (fun _ _ _ h => h) (((Up.refl w5).drew.call hb6).call hb7) ?_
  simp only [Act.put, List.setIfInBounds_toArray, List.set_cons_zero, List.set_cons_succ]
  refine chain_take (i := 12) (d := 117) (v := .pointer (some ⟨q, 0, none⟩)) rfl rfl (by kernel_rfl) (by kernel_rfl) (by kernel_rfl) rfl (fun _ _ => (by go_simp)) (fun _ _ _ h => h) (((Up.refl w5).drew.call hb6).call hb7) ?_
  simp only [Act.put, List.setIfInBounds_toArray, List.set_cons_zero, List.set_cons_succ]
  refine chain_take (i := 13) (d := 118) (v := .pointer (some ⟨q, 0, none⟩)) rfl rfl (by kernel_rfl) (by kernel_rfl) (by kernel_rfl) rfl (fun _ _ => (by go_simp)) (fun _ _ _ h => h) (((Up.refl w5).drew.call hb6).call hb7) ?_
  simp only [Act.put, List.setIfInBounds_toArray, List.set_cons_zero, List.set_cons_succ]
  refine chain_take (i := 14) (d := 119) (v := .int .i64 W) rfl rfl (by kernel_rfl) (by kernel_rfl) (by kernel_rfl) rfl (fun W h => (by have u0 := cell_below h.out _ _ _ q0; go_simp)) (fun _ _ _ h => h) (((Up.refl w5).drew.call hb6).call hb7) ?_
  simp only [Act.put, List.setIfInBounds_toArray, List.set_cons_zero, List.set_cons_succ]
  refine chain_take (i := 15) (d := 120) (v := .pointer (some ⟨q, 0, none⟩)) rfl rfl (by kernel_rfl) (by kernel_rfl) (by kernel_rfl) rfl (fun _ _ => rfl) (fun _ _ _ h => h) (((Up.refl w5).drew.call hb6).call hb7) ?_
  simp only [Act.put, List.setIfInBounds_toArray, List.set_cons_zero, List.set_cons_succ]
  refine chain_call (i := 10) (d := 115) (f := 19) (args := #[.pointer (some ⟨p, 0, none⟩)]) (by kernel_rfl) rfl rfl rfl (by go_simp) ?_
  refine (C3.out _ (((Up.refl w5).drew.call hb6).call hb7)).mono ?_
  rintro e w8 ⟨rfl, hb8⟩
  refine ⟨.int .i64 (W - U), rfl, (((Up.refl w5).drew.call hb6).call hb7).call hb8, ?_⟩
  simp only [Act.put, List.setIfInBounds_toArray, List.set_cons_zero, List.set_cons_succ]
  refine chain_call (i := 16) (d := 121) (f := 33) (args := #[.pointer (some ⟨q, 0, none⟩)]) (by kernel_rfl) rfl rfl rfl (by go_simp) ?_
  refine (C2.out _ ((((Up.refl w5).drew.call hb6).call hb7).call hb8)).mono ?_
  rintro e w9 ⟨rfl, hb9⟩
  refine ⟨.int .i64 U, rfl, ((((Up.refl w5).drew.call hb6).call hb7).call hb8).call hb9, ?_⟩
  simp only [Act.put, List.setIfInBounds_toArray, List.set_cons_zero, List.set_cons_succ]
  refine chain_take (i := 17) (d := 122) (v := .int .i64 (W - U)) rfl rfl (by kernel_rfl) (by kernel_rfl) (by kernel_rfl) rfl (fun _ _ => (by go_simp)) (fun _ _ _ h => h) (((((Up.refl w5).drew.call hb6).call hb7).call hb8).call hb9) ?_
  simp only [Act.put, List.setIfInBounds_toArray, List.set_cons_zero, List.set_cons_succ]
  refine chain_take (i := 18) (d := 123) (v := .bool true) rfl rfl (by kernel_rfl) (by kernel_rfl) (by kernel_rfl) rfl (fun _ _ => (by go_simp)) (fun _ _ _ h => h) (((((Up.refl w5).drew.call hb6).call hb7).call hb8).call hb9) ?_
  simp only [Act.put, List.setIfInBounds_toArray, List.set_cons_zero, List.set_cons_succ]
  refine chain_take (i := 19) (d := 124) (v := .bool true) rfl rfl (by kernel_rfl) (by kernel_rfl) (by kernel_rfl) rfl (fun _ _ => rfl) (fun _ _ _ h => h) (((((Up.refl w5).drew.call hb6).call hb7).call hb8).call hb9) ?_
  simp only [Act.put, List.setIfInBounds_toArray, List.set_cons_zero, List.set_cons_succ]
  refine chain_take (i := 20) (d := 125) (v := .bool true) rfl rfl (by kernel_rfl) (by kernel_rfl) (by kernel_rfl) rfl (fun _ _ => rfl) (fun _ _ _ h => h) (((((Up.refl w5).drew.call hb6).call hb7).call hb8).call hb9) ?_
  simp only [Act.put, List.setIfInBounds_toArray, List.set_cons_zero, List.set_cons_succ]
  refine chain_take (i := 21) (d := 126) (v := .pointer (some ⟨p, 0, none⟩)) rfl rfl (by kernel_rfl) (by kernel_rfl) (by kernel_rfl) rfl (fun _ _ => rfl) (fun _ _ _ h => h) (((((Up.refl w5).drew.call hb6).call hb7).call hb8).call hb9) ?_
  simp only [Act.put, List.setIfInBounds_toArray, List.set_cons_zero, List.set_cons_succ]
  refine chain_take (i := 23) (d := 128) (v := .pointer (some ⟨q, 0, none⟩)) rfl rfl (by kernel_rfl) (by kernel_rfl) (by kernel_rfl) rfl (fun _ _ => rfl) (fun _ _ _ h => h) (((((Up.refl w5).drew.call hb6).call hb7).call hb8).call hb9) ?_
  simp only [Act.put, List.setIfInBounds_toArray, List.set_cons_zero, List.set_cons_succ]
  refine chain_call (i := 22) (d := 127) (f := 21) (args := #[.pointer (some ⟨p, 0, none⟩)]) (by kernel_rfl) rfl rfl rfl (by go_simp) ?_
  refine (C4.out _ (((((Up.refl w5).drew.call hb6).call hb7).call hb8).call hb9)).mono ?_
  rintro e w10 ⟨b1, bc1, rfl, hi1, hb10⟩
  refine ⟨.slice b1 NL.length bc1, rfl, (((((Up.refl w5).drew.call hb6).call hb7).call hb8).call hb9).call hb10, ?_⟩
  simp only [Act.put, List.setIfInBounds_toArray, List.set_cons_zero, List.set_cons_succ]
  refine chain_call (i := 24) (d := 129) (f := 34) (args := #[.pointer (some ⟨q, 0, none⟩)]) (by kernel_rfl) rfl rfl rfl (by go_simp) ?_
  refine (C5.out _ ((((((Up.refl w5).drew.call hb6).call hb7).call hb8).call hb9).call hb10)).mono ?_
  rintro e w11 ⟨b2, bc2, rfl, hi2, hb11⟩
  refine ⟨.slice b2 NL.length bc2, rfl, ((((((Up.refl w5).drew.call hb6).call hb7).call hb8).call hb9).call hb10).call hb11, ?_⟩
  simp only [Act.put, List.setIfInBounds_toArray, List.set_cons_zero, List.set_cons_succ]
  refine chain_call (i := 25) (d := 130) (f := 23) (args := #[.slice b1 NL.length bc1, .slice b2 NL.length bc2]) (by kernel_rfl) rfl rfl rfl (by go_simp) ?_
  refine (sameInts_self NL b1 b2 bc1 bc2 _ (hi1.up hb11) hi2 HNL.out).mono ?_
  rintro e w12 ⟨rfl, hb12⟩
  refine ⟨.bool true, rfl, (((((((Up.refl w5).drew.call hb6).call hb7).call hb8).call hb9).call hb10).call hb11).call hb12, ?_⟩
  simp only [Act.put, List.setIfInBounds_toArray, List.set_cons_zero, List.set_cons_succ]
  refine chain_take (i := 26) (d := 131) (v := .bool true) rfl rfl (by kernel_rfl) (by kernel_rfl) (by kernel_rfl) rfl (fun _ _ => rfl) (fun _ _ _ h => h) ((((((((Up.refl w5).drew.call hb6).call hb7).call hb8).call hb9).call hb10).call hb11).call hb12) ?_
  simp only [Act.put, List.setIfInBounds_toArray, List.set_cons_zero, List.set_cons_succ]
  refine chain_take (i := 27) (d := 6) (v := .bool true) rfl rfl (by kernel_rfl) (by kernel_rfl) (by kernel_rfl) rfl (fun _ _ => rfl) (fun _ _ _ h => h) ((((((((Up.refl w5).drew.call hb6).call hb7).call hb8).call hb9).call hb10).call hb11).call hb12) ?_
  simp only [Act.put, List.setIfInBounds_toArray, List.set_cons_zero, List.set_cons_succ]
  refine wpAnyH_done (by kernel_rfl) ?_ _
  have HF := Hid.mk (T5.out.up ((((((((Up.refl w5).drew.call hb6).call hb7).call hb8).call hb9).call hb10).call hb11).call hb12).out)
  clear hb6 hb7 hb8 hb9 hb10 hb11 hb12 hi1 hi2 q0
  go_wp2
  go_ret
  exact ⟨Bn, rfl, HF.out.weaken (fun k hk => Or.inl (Or.inl hk)), HLn.out⟩

end Go.Proofs.Ytpfcbokckjfhbaa
