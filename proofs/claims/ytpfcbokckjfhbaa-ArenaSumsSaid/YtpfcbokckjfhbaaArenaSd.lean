/-
  A step of an arena's life: a block is dropped.
-/
import Derived.Test.YtpfcbokckjfhbaaArenaHs
import Derived.Test.YtpfcbokckjfhbaaArenaLi
import Derived.Test.YtpfcbokckjfhbaaArenaOpen
namespace Go.Proofs.Ytpfcbokckjfhbaa
open Go.RowKit Go.Deep Go.Maps Go.WideShapes

set_option maxRecDepth 100000 in
set_option maxHeartbeats 4000000 in
theorem stepD_any (sk si ss : Int) (w0 w : World) (p bm W : Nat) (B : Blks) (v : Value) (F : Nat → Prop) (h : Lf w0 w p bm W B v (liveB 0 B) F) (hB : B.length ≤ 900) (hp1 : ∀ w, Calls Try.prog 41 #[.int .i64 sk, .int .i64 3] w fun e w' => e = .returned (.int .i64 1) ∧ w = w')
    (i : Nat) (hi : i < (liveB 0 B).length) (hp2 : ∀ w, Calls Try.prog 41 #[.int .i64 si, .int .i64 (liveB 0 B).length] w fun e w' => e = .returned (.int .i64 i) ∧ w = w') :
    Calls Try.prog 24 #[.agg #[.int .i64 sk, .int .i64 si, .int .i64 ss], .pointer (some ⟨p, 0, none⟩), v] w fun e w' => ∃ v' B', e = .returned (.tuple #[v', .bool true]) ∧ Lf w0 w' p bm W B' v' (liveB 0 B') F ∧ B'.length ≤ B.length + 1 := by
  obtain ⟨W0, hW0⟩ : ∃ W0, w.alloc (.cells #[.int .i64 sk, .int .i64 si, .int .i64 ss] 59) = W0 := ⟨_, rfl⟩
  obtain ⟨b, hb⟩ : ∃ b, w.heap.size = b := ⟨_, rfl⟩
  have hbox : W0.heap[b]? = some (.cells #[.int .i64 sk, .int .i64 si, .int .i64 ss] 59) := by rw [← hW0, ← hb]; exact new_block _ _
  have c0 : W0.cell? ⟨b, 0, none⟩ = some (.int .i64 sk) := by simp [World.cell?, hbox]
  have c1 : W0.cell? ⟨b, 1, none⟩ = some (.int .i64 si) := by simp [World.cell?, hbox]
  have c2 : W0.cell? ⟨b, 2, none⟩ = some (.int .i64 ss) := by simp [World.cell?, hbox]
  have T0 := Hid.mk (h.add (w' := W0) (by rw [← hW0]; exact (Up.refl w).alloc.out) (fun k => k = b) (fun k hk => by subst hk; rw [← hW0, ← hb]; simp))
  obtain ⟨va, vc, rfl⟩ : ∃ a cap, v = .slice a (liveB 0 B).length cap := by obtain ⟨S, Sh, h'⟩ := h; exact h'.hd.slice
  have HP1 := Hid.mk hp1
  have HB := Hid.mk hB
  have HP2 := Hid.mk hp2
  have HI := Hid.mk hi
  have hi0 : (0 : Int) < (liveB 0 B).length := by omega
  have hi0' : 0 < (liveB 0 B).length := by omega
  clear h hp1 hp2 hB hi hbox
  go_enter Try.func24, Try.ntmps24
  go_upto_region 1 with fail
  try rw [hW0]
  try rw [hb]
  clear hW0 hb
  go_upto_region 5 with (first
    | (go_at_call 41; have tok := m1; refine (HP2.out _).mono ?_; rintro e x1 ⟨rfl, rfl⟩)
    | (go_at_call 41; refine (HP1.out _).mono ?_; rintro e x1 ⟨rfl, rfl⟩; have m1 := True.intro))
  obtain ⟨S, Sh, h0⟩ := T0.out
  obtain ⟨g, cap', a', lc, hv, hcap, d0, d1, dw, hsg⟩ := h0.hd.at_ HI.out
  simp only [Value.slice.injEq, true_and] at hv
  obtain ⟨rfl, rfl⟩ := hv
  obtain ⟨xs, x1, x2, x3⟩ := h0.hd.row
  have hxl := x1.1
  have hbl := HB.out
  have hil : i < (liveB 0 B).length := HI.out
  have hnl : (liveB 0 B).length ≤ 900 := by rw [liveB_len]; have := numsB_len B 0; omega
  have hone := one_cells hxl x2 x3
  obtain ⟨n, hn⟩ : ∃ n, (liveB 0 B).length = n := ⟨_, rfl⟩
  obtain ⟨x, hx⟩ : ∃ x, (liveB 0 B)[i]'HI.out = x := ⟨_, rfl⟩
  have hxi : (liveB 0 B)[i]? = some x := by rw [List.getElem?_eq_getElem hil, hx]
  rw [hx] at d0
  rw [hn] at hcap hil hnl hxl
  try rw [hn]
  -- the row that []held{} is, and what is appended
  have hbA : Below W0.heap.size W0 (W0.drew.alloc (.cells #[] 62)) := (Up.alloc (Up.drew (Up.refl W0))).out
  have hrow0 : ∀ w', Up W0 w' → ∀ j u, xs[j]? = some u → w'.cell? ⟨g, j, none⟩ = some u := fun w' hu j u hj => cell_below hu.out _ _ _ (ownsRow_cell x1 hj)
  obtain ⟨v1, w1, hr1, g1, q1, a1⟩ := held_append (W0.drew.alloc (.cells #[] 62)) 56 _ 0 [] (held_empty W0.drew) ⟨g, 0, none⟩ i vc (xs.take (i * 2)) (by rw [List.length_take]; omega)
    (fun j u hj => by
      rw [List.getElem?_take] at hj
      split at hj
      · have := hrow0 _ hbA j u hj
        rw [WideShapes.add_plain, Nat.zero_add]; exact this
      · cases hj)
    (fun u hu => hone u (List.mem_of_mem_take hu)) (by omega)
  rw [Nat.zero_add, List.nil_append] at g1
  obtain ⟨va1, vc1, rfl⟩ := owns_slice g1
  have hz0 : W0.drew.heap.size = W0.heap.size := rfl
  have n1 : ∀ j, (Value.slice va1 i vc1).ownBlock = some j → W0.heap.size ≤ j := fun j hj => by
    rcases a1 with e | e
    · rw [e] at hj; cases hj; exact Nat.le_refl _
    · rw [e] at hj; cases hj; simp
  have hu1 : Up W0 w1 := hbA.grown q1 hbA.size (fun j hj => by cases hj; exact Nat.le_refl _)
  obtain ⟨I1, hI1⟩ : ∃ I1, i + 1 = I1 := ⟨_, rfl⟩
  have hwI : IntKind.i64.wrap ((i : Int) + 1) = (I1 : Int) := by rw [wrap_id (by omega) (by omega)]; omega
  by_cases hvc : vc = I1
  · obtain ⟨v2, w2, hr2, g2, q2, a2⟩ := held_append w1 56 _ i _ g1 ⟨g, 0, none⟩ 0 0 (xs.drop (I1 * 2)) (by rw [List.length_drop]; omega)
      (fun j u hj => by
        rw [List.getElem?_eq_none (by rw [List.length_drop]; omega)] at hj; cases hj)
      (fun u hu => hone u (List.mem_of_mem_drop hu)) (by omega)
    obtain ⟨va2, vc2, rfl⟩ := owns_slice g2
    have hu2 : Up W0 w2 := Below.grown hu1.out q2 hu1.out.size (fun j hj => n1 j hj)
    have n2 : ∀ j, (Value.slice va2 (i + 0) vc2).ownBlock = some j → W0.heap.size ≤ j := fun j hj => by
      rcases a2 with e | e
      · rw [e] at hj; exact n1 j hj
      · rw [e] at hj; cases hj; exact hu1.out.size
    have hd2 : Hd w2 (.slice va2 (i + 0) vc2) (fun k => Sh k ∨ (Value.slice va2 (i + 0) vc2).ownBlock = some k) ((liveB 0 B).eraseIdx i) := Hd.erase h0.hd h0.hd.lt HI.out x2 x3 (by rw [hn]; exact hxl) (by rw [hn, hI1, show n - I1 = 0 by omega]; exact g2) n2 (Only.up hu2.out) (fun j hj => (g2.lt j hj).2)
    have T2 := Hid.mk (h0.other (F' := F) (Only.up (S := fun _ => False) hu2.out) (fun _ f => f.elim) hd2 (fun j hj => hj.imp id (fun e => Or.inr (n2 j e))) (fun j hj => ⟨Or.inl hj, fun e => by
      have hfj := h0.free j (Or.inl hj)
      rcases e with e | e
      · exact hfj.2.2 e
      · have := n2 j e; omega⟩))
    refine wp_region_held (S := Kf Sh W0) (by kernel_rfl) ?_
    refine chain_take (i := 1) (d := 37) (v := .slice (some ⟨g, 0, none⟩) n vc) rfl rfl (by kernel_rfl) (by kernel_rfl) (by kernel_rfl) rfl (fun _ _ => rfl) (fun _ _ _ h => h) (Kf.refl Sh W0).drew ?_
    simp only [Act.put, List.setIfInBounds_toArray, List.set_cons_zero, List.set_cons_succ]
    refine chain_take (i := 2) (d := 38) (v := .int .i64 i) rfl rfl (by kernel_rfl) (by kernel_rfl) (by kernel_rfl) rfl (fun _ _ => rfl) (fun _ _ _ h => h) (Kf.refl Sh W0).drew ?_
    simp only [Act.put, List.setIfInBounds_toArray, List.set_cons_zero, List.set_cons_succ]
    refine chain_take (i := 3) (d := 39) (v := .slice (some ⟨g, 0, none⟩) i vc) rfl rfl (by kernel_rfl) (by kernel_rfl) (by kernel_rfl) rfl (fun _ _ => (by go_simp; intro h; omega)) (fun _ _ _ h => h) (Kf.refl Sh W0).drew ?_
    simp only [Act.put, List.setIfInBounds_toArray, List.set_cons_zero, List.set_cons_succ]
    refine chain_take (i := 5) (d := 41) (v := .slice (some ⟨g, 0, none⟩) n vc) rfl rfl (by kernel_rfl) (by kernel_rfl) (by kernel_rfl) rfl (fun _ _ => rfl) (fun _ _ _ h => h) (Kf.refl Sh W0).drew ?_
    simp only [Act.put, List.setIfInBounds_toArray, List.set_cons_zero, List.set_cons_succ]
    refine chain_take (i := 6) (d := 42) (v := .int .i64 i) rfl rfl (by kernel_rfl) (by kernel_rfl) (by kernel_rfl) rfl (fun _ _ => rfl) (fun _ _ _ h => h) (Kf.refl Sh W0).drew ?_
    simp only [Act.put, List.setIfInBounds_toArray, List.set_cons_zero, List.set_cons_succ]
    refine chain_take (i := 7) (d := 43) (v := .int .i64 I1) rfl rfl (by kernel_rfl) (by kernel_rfl) (by kernel_rfl) rfl (fun _ _ => (by go_simp)) (fun _ _ _ h => h) (Kf.refl Sh W0).drew ?_
    simp only [Act.put, List.setIfInBounds_toArray, List.set_cons_zero, List.set_cons_succ]
    refine chain_take (i := 8) (d := 44) (v := .slice (some ⟨g, 0, none⟩) 0 0) rfl rfl (by kernel_rfl) (by kernel_rfl) (by kernel_rfl) rfl (fun _ _ => (by go_simp; rw [if_pos (by omega), show n - I1 = 0 by omega])) (fun _ _ _ h => h) (Kf.refl Sh W0).drew ?_
    simp only [Act.put, List.setIfInBounds_toArray, List.set_cons_zero, List.set_cons_succ]
    refine chain_take (i := 10) (d := 46) (v := .pointer (some ⟨p, 0, none⟩)) rfl rfl (by kernel_rfl) (by kernel_rfl) (by kernel_rfl) rfl (fun _ _ => rfl) (fun _ _ _ h => h) (Kf.refl Sh W0).drew ?_
    simp only [Act.put, List.setIfInBounds_toArray, List.set_cons_zero, List.set_cons_succ]
    refine chain_take (i := 11) (d := 47) (v := .slice (some ⟨g, 0, none⟩) n vc) rfl rfl (by kernel_rfl) (by kernel_rfl) (by kernel_rfl) rfl (fun _ _ => rfl) (fun _ _ _ h => h) (Kf.refl Sh W0).drew ?_
    simp only [Act.put, List.setIfInBounds_toArray, List.set_cons_zero, List.set_cons_succ]
    refine chain_take (i := 12) (d := 48) (v := .int .i64 i) rfl rfl (by kernel_rfl) (by kernel_rfl) (by kernel_rfl) rfl (fun _ _ => rfl) (fun _ _ _ h => h) (Kf.refl Sh W0).drew ?_
    simp only [Act.put, List.setIfInBounds_toArray, List.set_cons_zero, List.set_cons_succ]
    refine chain_take (i := 13) (d := 49) (v := .pointer (some ⟨g, i * 2, none⟩)) rfl rfl (by kernel_rfl) (by kernel_rfl) (by kernel_rfl) rfl (fun _ _ => (by go_simp)) (fun _ _ _ h => h) (Kf.refl Sh W0).drew ?_
    simp only [Act.put, List.setIfInBounds_toArray, List.set_cons_zero, List.set_cons_succ]
    refine chain_take (i := 14) (d := 50) (v := .pointer (some ⟨g, i * 2, none⟩)) rfl rfl (by kernel_rfl) (by kernel_rfl) (by kernel_rfl) rfl (fun _ _ => (by go_simp)) (fun _ _ _ h => h) (Kf.refl Sh W0).drew ?_
    simp only [Act.put, List.setIfInBounds_toArray, List.set_cons_zero, List.set_cons_succ]
    refine chain_take (i := 15) (d := 51) (v := .int .i64 x.1) rfl rfl (by kernel_rfl) (by kernel_rfl) (by kernel_rfl) rfl (fun W h => (by have u0 := Kf.cell h hsg d0; go_simp)) (fun _ _ _ h => h) (Kf.refl Sh W0).drew ?_
    simp only [Act.put, List.setIfInBounds_toArray, List.set_cons_zero, List.set_cons_succ]
    refine chain_value (i := 0) (d := 36) (v := .slice (some ⟨W0.drew.heap.size, 0, none⟩) 0 0) (w' := W0.drew.alloc (.cells #[] 62)) (by kernel_rfl) rfl rfl rfl (by go_simp) (Only.up hbA) ?_
    simp only [Act.put, List.setIfInBounds_toArray, List.set_cons_zero, List.set_cons_succ]
    refine chain_value (i := 4) (d := 40) (v := .slice va1 i vc1) (w' := w1) (by kernel_rfl) rfl rfl rfl (exec_append rfl rfl hr1) (Only.up hu1.out) ?_
    simp only [Act.put, List.setIfInBounds_toArray, List.set_cons_zero, List.set_cons_succ]
    refine chain_value (i := 9) (d := 45) (v := .slice va2 (i + 0) vc2) (w' := w2) (by kernel_rfl) rfl rfl rfl (exec_append rfl rfl hr2) (Only.up hu2.out) ?_
    simp only [Act.put, List.setIfInBounds_toArray, List.set_cons_zero, List.set_cons_succ]
    refine chain_call (i := 16) (d := 52) (f := 18) (args := #[.pointer (some ⟨p, 0, none⟩), .int .i64 x.1]) (by kernel_rfl) rfl rfl rfl (by go_simp) ?_
    refine Calls.mono (T2.out.drop hxi (by omega)) ?_
    rintro e w3 ⟨rfl, h3, _, k3⟩
    have hK3 : Kf Sh W0 w3 := Kf.trans (Only.up hu2.out) (Only.mono k3 (fun j hj hs => by
      rcases hj with rfl | rfl
      · exact h0.apart _ h0.ar.sp hs
      · exact h0.apart _ h0.ar.sb hs))
    refine ⟨.int .i64 0, rfl, hK3, ?_⟩
    simp only [Act.put, List.setIfInBounds_toArray, List.set_cons_zero, List.set_cons_succ]
    refine chain_take (i := 17) (d := 53) (v := .bool true) rfl rfl (by kernel_rfl) (by kernel_rfl) (by kernel_rfl) rfl (fun _ _ => (by go_simp)) (fun _ _ _ h => h) (hK3) ?_
    simp only [Act.put, List.setIfInBounds_toArray, List.set_cons_zero, List.set_cons_succ]
    refine chain_take (i := 18) (d := 6) (v := .slice va2 (i + 0) vc2) rfl rfl (by kernel_rfl) (by kernel_rfl) (by kernel_rfl) rfl (fun _ _ => rfl) (fun _ _ _ h => h) (hK3) ?_
    simp only [Act.put, List.setIfInBounds_toArray, List.set_cons_zero, List.set_cons_succ]
    refine chain_take (i := 19) (d := 7) (v := .bool true) rfl rfl (by kernel_rfl) (by kernel_rfl) (by kernel_rfl) rfl (fun _ _ => rfl) (fun _ _ _ h => h) (hK3) ?_
    simp only [Act.put, List.setIfInBounds_toArray, List.set_cons_zero, List.set_cons_succ]
    refine wpAnyH_done (by kernel_rfl) ?_ _
    rw [← live_drop hxi] at h3
    have HF := Hid.mk h3
    clear h3 k3
    go_wp2
    go_ret2
    exact ⟨_, _, rfl, HF.out, by simp⟩
  · obtain ⟨v2, w2, hr2, g2, q2, a2⟩ := held_append w1 56 _ i _ g1 ⟨g, I1 * 2, none⟩ (n - I1) (vc - I1) (xs.drop (I1 * 2)) (by rw [List.length_drop]; omega)
      (fun j u hj => by
        rw [List.getElem?_drop] at hj; rw [WideShapes.add_plain]; exact hrow0 _ hu1 _ u hj)
      (fun u hu => hone u (List.mem_of_mem_drop hu)) (by omega)
    obtain ⟨va2, vc2, rfl⟩ := owns_slice g2
    have hu2 : Up W0 w2 := Below.grown hu1.out q2 hu1.out.size (fun j hj => n1 j hj)
    have n2 : ∀ j, (Value.slice va2 (i + (n - I1)) vc2).ownBlock = some j → W0.heap.size ≤ j := fun j hj => by
      rcases a2 with e | e
      · rw [e] at hj; exact n1 j hj
      · rw [e] at hj; cases hj; exact hu1.out.size
    have hd2 : Hd w2 (.slice va2 (i + (n - I1)) vc2) (fun k => Sh k ∨ (Value.slice va2 (i + (n - I1)) vc2).ownBlock = some k) ((liveB 0 B).eraseIdx i) := Hd.erase h0.hd h0.hd.lt HI.out x2 x3 (by rw [hn]; exact hxl) (by rw [hn, hI1]; exact g2) n2 (Only.up hu2.out) (fun j hj => (g2.lt j hj).2)
    have T2 := Hid.mk (h0.other (F' := F) (Only.up (S := fun _ => False) hu2.out) (fun _ f => f.elim) hd2 (fun j hj => hj.imp id (fun e => Or.inr (n2 j e))) (fun j hj => ⟨Or.inl hj, fun e => by
      have hfj := h0.free j (Or.inl hj)
      rcases e with e | e
      · exact hfj.2.2 e
      · have := n2 j e; omega⟩))
    refine wp_region_held (S := Kf Sh W0) (by kernel_rfl) ?_
    refine chain_take (i := 1) (d := 37) (v := .slice (some ⟨g, 0, none⟩) n vc) rfl rfl (by kernel_rfl) (by kernel_rfl) (by kernel_rfl) rfl (fun _ _ => rfl) (fun _ _ _ h => h) (Kf.refl Sh W0).drew ?_
    simp only [Act.put, List.setIfInBounds_toArray, List.set_cons_zero, List.set_cons_succ]
    refine chain_take (i := 2) (d := 38) (v := .int .i64 i) rfl rfl (by kernel_rfl) (by kernel_rfl) (by kernel_rfl) rfl (fun _ _ => rfl) (fun _ _ _ h => h) (Kf.refl Sh W0).drew ?_
    simp only [Act.put, List.setIfInBounds_toArray, List.set_cons_zero, List.set_cons_succ]
    refine chain_take (i := 3) (d := 39) (v := .slice (some ⟨g, 0, none⟩) i vc) rfl rfl (by kernel_rfl) (by kernel_rfl) (by kernel_rfl) rfl (fun _ _ => (by go_simp; intro h; omega)) (fun _ _ _ h => h) (Kf.refl Sh W0).drew ?_
    simp only [Act.put, List.setIfInBounds_toArray, List.set_cons_zero, List.set_cons_succ]
    refine chain_take (i := 5) (d := 41) (v := .slice (some ⟨g, 0, none⟩) n vc) rfl rfl (by kernel_rfl) (by kernel_rfl) (by kernel_rfl) rfl (fun _ _ => rfl) (fun _ _ _ h => h) (Kf.refl Sh W0).drew ?_
    simp only [Act.put, List.setIfInBounds_toArray, List.set_cons_zero, List.set_cons_succ]
    refine chain_take (i := 6) (d := 42) (v := .int .i64 i) rfl rfl (by kernel_rfl) (by kernel_rfl) (by kernel_rfl) rfl (fun _ _ => rfl) (fun _ _ _ h => h) (Kf.refl Sh W0).drew ?_
    simp only [Act.put, List.setIfInBounds_toArray, List.set_cons_zero, List.set_cons_succ]
    refine chain_take (i := 7) (d := 43) (v := .int .i64 I1) rfl rfl (by kernel_rfl) (by kernel_rfl) (by kernel_rfl) rfl (fun _ _ => (by go_simp)) (fun _ _ _ h => h) (Kf.refl Sh W0).drew ?_
    simp only [Act.put, List.setIfInBounds_toArray, List.set_cons_zero, List.set_cons_succ]
    refine chain_take (i := 8) (d := 44) (v := .slice (some ⟨g, I1 * 2, none⟩) (n - I1) (vc - I1)) rfl rfl (by kernel_rfl) (by kernel_rfl) (by kernel_rfl) rfl (fun _ _ => (by go_simp; intro h; omega)) (fun _ _ _ h => h) (Kf.refl Sh W0).drew ?_
    simp only [Act.put, List.setIfInBounds_toArray, List.set_cons_zero, List.set_cons_succ]
    refine chain_take (i := 10) (d := 46) (v := .pointer (some ⟨p, 0, none⟩)) rfl rfl (by kernel_rfl) (by kernel_rfl) (by kernel_rfl) rfl (fun _ _ => rfl) (fun _ _ _ h => h) (Kf.refl Sh W0).drew ?_
    simp only [Act.put, List.setIfInBounds_toArray, List.set_cons_zero, List.set_cons_succ]
    refine chain_take (i := 11) (d := 47) (v := .slice (some ⟨g, 0, none⟩) n vc) rfl rfl (by kernel_rfl) (by kernel_rfl) (by kernel_rfl) rfl (fun _ _ => rfl) (fun _ _ _ h => h) (Kf.refl Sh W0).drew ?_
    simp only [Act.put, List.setIfInBounds_toArray, List.set_cons_zero, List.set_cons_succ]
    refine chain_take (i := 12) (d := 48) (v := .int .i64 i) rfl rfl (by kernel_rfl) (by kernel_rfl) (by kernel_rfl) rfl (fun _ _ => rfl) (fun _ _ _ h => h) (Kf.refl Sh W0).drew ?_
    simp only [Act.put, List.setIfInBounds_toArray, List.set_cons_zero, List.set_cons_succ]
    refine chain_take (i := 13) (d := 49) (v := .pointer (some ⟨g, i * 2, none⟩)) rfl rfl (by kernel_rfl) (by kernel_rfl) (by kernel_rfl) rfl (fun _ _ => (by go_simp)) (fun _ _ _ h => h) (Kf.refl Sh W0).drew ?_
    simp only [Act.put, List.setIfInBounds_toArray, List.set_cons_zero, List.set_cons_succ]
    refine chain_take (i := 14) (d := 50) (v := .pointer (some ⟨g, i * 2, none⟩)) rfl rfl (by kernel_rfl) (by kernel_rfl) (by kernel_rfl) rfl (fun _ _ => (by go_simp)) (fun _ _ _ h => h) (Kf.refl Sh W0).drew ?_
    simp only [Act.put, List.setIfInBounds_toArray, List.set_cons_zero, List.set_cons_succ]
    refine chain_take (i := 15) (d := 51) (v := .int .i64 x.1) rfl rfl (by kernel_rfl) (by kernel_rfl) (by kernel_rfl) rfl (fun W h => (by have u0 := Kf.cell h hsg d0; go_simp)) (fun _ _ _ h => h) (Kf.refl Sh W0).drew ?_
    simp only [Act.put, List.setIfInBounds_toArray, List.set_cons_zero, List.set_cons_succ]
    refine chain_value (i := 0) (d := 36) (v := .slice (some ⟨W0.drew.heap.size, 0, none⟩) 0 0) (w' := W0.drew.alloc (.cells #[] 62)) (by kernel_rfl) rfl rfl rfl (by go_simp) (Only.up hbA) ?_
    simp only [Act.put, List.setIfInBounds_toArray, List.set_cons_zero, List.set_cons_succ]
    refine chain_value (i := 4) (d := 40) (v := .slice va1 i vc1) (w' := w1) (by kernel_rfl) rfl rfl rfl (exec_append rfl rfl hr1) (Only.up hu1.out) ?_
    simp only [Act.put, List.setIfInBounds_toArray, List.set_cons_zero, List.set_cons_succ]
    refine chain_value (i := 9) (d := 45) (v := .slice va2 (i + (n - I1)) vc2) (w' := w2) (by kernel_rfl) rfl rfl rfl (exec_append rfl rfl hr2) (Only.up hu2.out) ?_
    simp only [Act.put, List.setIfInBounds_toArray, List.set_cons_zero, List.set_cons_succ]
    refine chain_call (i := 16) (d := 52) (f := 18) (args := #[.pointer (some ⟨p, 0, none⟩), .int .i64 x.1]) (by kernel_rfl) rfl rfl rfl (by go_simp) ?_
    refine Calls.mono (T2.out.drop hxi (by omega)) ?_
    rintro e w3 ⟨rfl, h3, _, k3⟩
    have hK3 : Kf Sh W0 w3 := Kf.trans (Only.up hu2.out) (Only.mono k3 (fun j hj hs => by
      rcases hj with rfl | rfl
      · exact h0.apart _ h0.ar.sp hs
      · exact h0.apart _ h0.ar.sb hs))
    refine ⟨.int .i64 0, rfl, hK3, ?_⟩
    simp only [Act.put, List.setIfInBounds_toArray, List.set_cons_zero, List.set_cons_succ]
    refine chain_take (i := 17) (d := 53) (v := .bool true) rfl rfl (by kernel_rfl) (by kernel_rfl) (by kernel_rfl) rfl (fun _ _ => (by go_simp)) (fun _ _ _ h => h) (hK3) ?_
    simp only [Act.put, List.setIfInBounds_toArray, List.set_cons_zero, List.set_cons_succ]
    refine chain_take (i := 18) (d := 6) (v := .slice va2 (i + (n - I1)) vc2) rfl rfl (by kernel_rfl) (by kernel_rfl) (by kernel_rfl) rfl (fun _ _ => rfl) (fun _ _ _ h => h) (hK3) ?_
    simp only [Act.put, List.setIfInBounds_toArray, List.set_cons_zero, List.set_cons_succ]
    refine chain_take (i := 19) (d := 7) (v := .bool true) rfl rfl (by kernel_rfl) (by kernel_rfl) (by kernel_rfl) rfl (fun _ _ => rfl) (fun _ _ _ h => h) (hK3) ?_
    simp only [Act.put, List.setIfInBounds_toArray, List.set_cons_zero, List.set_cons_succ]
    refine wpAnyH_done (by kernel_rfl) ?_ _
    rw [← live_drop hxi] at h3
    have HF := Hid.mk h3
    clear h3 k3
    go_wp2
    go_ret2
    exact ⟨_, _, rfl, HF.out, by simp⟩
end Go.Proofs.Ytpfcbokckjfhbaa
