/-
  One call of a script: both counts answer alike.
-/
import Derived.Test.YtgfelddgiabeoaaFixTw
namespace Go.Proofs.Ytgfelddgiabeoaa
open Go.RowKit Go.Deep Go.Maps Go.WideShapes

theorem addL_len (x : Int) (L : List Int) : (addL x L).length ≤ L.length + 1 := by
  unfold addL
  split <;> simp

set_option maxRecDepth 100000 in
set_option maxHeartbeats 4000000 in
theorem act12a (x : Int) (w0 w : World) (p bm q : Nat) (L : List Int) (F : Nat → Prop) (h : Two w0 w p bm q L L F) (hi : In64 x) (hL : L.length ≤ 900) :
    Calls Try.prog 8 #[.pointer (some ⟨p, 0, none⟩), .pointer (some ⟨q, 0, none⟩), .agg #[.int .i64 0, .int .i64 x]] w fun e w' => ∃ L', e = .returned (.bool true) ∧ Two w0 w' p bm q L' L' F ∧ L'.length ≤ L.length + 1 := by
  obtain ⟨W0, hW0⟩ : ∃ W0, w.alloc (.cells #[.int .i64 0, .int .i64 x] 31) = W0 := ⟨_, rfl⟩
  obtain ⟨b, hb⟩ : ∃ b, w.heap.size = b := ⟨_, rfl⟩
  have hbox : W0.heap[b]? = some (.cells #[.int .i64 0, .int .i64 x] 31) := by rw [← hW0, ← hb]; exact new_block _ _
  have c0 : W0.cell? ⟨b, 0, none⟩ = some (.int .i64 0) := by simp [World.cell?, hbox]
  have c1 : W0.cell? ⟨b, 1, none⟩ = some (.int .i64 x) := by simp [World.cell?, hbox]
  have T0 := h.add (w' := W0) (by rw [← hW0]; exact (Up.refl w).alloc.out) (fun k => k = b) (fun k hk => by subst hk; rw [← hW0, ← hb]; simp)
  obtain ⟨FF, hFF⟩ : ∃ FF, FF = (fun k => F k ∨ k = b) := ⟨_, rfl⟩
  have mb : FF b := by rw [hFF]; exact Or.inr rfl
  rw [← hFF] at T0
  have T0 := Hid.mk T0
  have HFF := Hid.mk (show ∀ k, F k → FF k by rw [hFF]; exact fun k hk => Or.inl hk)
  have MB := Hid.mk mb
  have HI := Hid.mk hi
  have HB := Hid.mk (show L.length ≤ 1000 by omega)
  have HLn := Hid.mk (addL_len x L)
  clear h hi hL hbox hFF mb
  go_enter Try.func8, Try.ntmps8
  go_upto_region 1 with fail
  try rw [hW0]
  try rw [hb]
  clear hW0 hb
  go_upto_region 3 with fail
  refine wp_region_held (S := Kf FF W0) (by kernel_rfl) ?_
  refine chain_take (i := 0) (d := 19) (v := .pointer (some ⟨p, 0, none⟩)) rfl rfl (by kernel_rfl) (by kernel_rfl) (by kernel_rfl) rfl (fun _ _ => rfl) (fun _ _ _ h => h) (Kf.refl FF W0).drew ?_
  simp only [Act.put, List.setIfInBounds_toArray, List.set_cons_zero, List.set_cons_succ]
  refine chain_take (i := 1) (d := 20) (v := .pointer (some ⟨b, 1, none⟩)) rfl rfl (by kernel_rfl) (by kernel_rfl) (by kernel_rfl) rfl (fun _ _ => (by go_simp)) (fun _ _ _ h => h) (Kf.refl FF W0).drew ?_
  simp only [Act.put, List.setIfInBounds_toArray, List.set_cons_zero, List.set_cons_succ]
  refine chain_take (i := 2) (d := 21) (v := .int .i64 x) rfl rfl (by kernel_rfl) (by kernel_rfl) (by kernel_rfl) rfl (fun W h => (by have u0 := Kf.cell h MB.out c1; go_simp)) (fun _ _ _ h => h) (Kf.refl FF W0).drew ?_
  simp only [Act.put, List.setIfInBounds_toArray, List.set_cons_zero, List.set_cons_succ]
  refine chain_take (i := 4) (d := 23) (v := .pointer (some ⟨q, 0, none⟩)) rfl rfl (by kernel_rfl) (by kernel_rfl) (by kernel_rfl) rfl (fun _ _ => rfl) (fun _ _ _ h => h) (Kf.refl FF W0).drew ?_
  simp only [Act.put, List.setIfInBounds_toArray, List.set_cons_zero, List.set_cons_succ]
  refine chain_take (i := 5) (d := 24) (v := .pointer (some ⟨b, 1, none⟩)) rfl rfl (by kernel_rfl) (by kernel_rfl) (by kernel_rfl) rfl (fun _ _ => (by go_simp)) (fun _ _ _ h => h) (Kf.refl FF W0).drew ?_
  simp only [Act.put, List.setIfInBounds_toArray, List.set_cons_zero, List.set_cons_succ]
  refine chain_take (i := 6) (d := 25) (v := .int .i64 x) rfl rfl (by kernel_rfl) (by kernel_rfl) (by kernel_rfl) rfl (fun W h => (by have u0 := Kf.cell h MB.out c1; go_simp)) (fun _ _ _ h => h) (Kf.refl FF W0).drew ?_
  simp only [Act.put, List.setIfInBounds_toArray, List.set_cons_zero, List.set_cons_succ]
  refine chain_call (i := 3) (d := 22) (f := 19) (args := #[.pointer (some ⟨p, 0, none⟩), .int .i64 x]) (by kernel_rfl) rfl rfl rfl (by go_simp) ?_
  refine ((T0.out.up (Below.drew (Below.refl W0.heap.size W0))).addC x HI.out HB.out).mono ?_
  rintro e w1 ⟨rfl, h1, k1⟩
  refine ⟨.int .i64 (addE x), rfl, (Kf.refl FF W0).drew.trans k1, ?_⟩
  simp only [Act.put, List.setIfInBounds_toArray, List.set_cons_zero, List.set_cons_succ]
  refine chain_call (i := 7) (d := 26) (f := 22) (args := #[.pointer (some ⟨q, 0, none⟩), .int .i64 x]) (by kernel_rfl) rfl rfl rfl (by go_simp) ?_
  refine (h1.addR x HB.out).mono ?_
  rintro e w2 ⟨rfl, h2, k2⟩
  refine ⟨.int .i64 (addE x), rfl, ((Kf.refl FF W0).drew.trans k1).trans k2, ?_⟩
  simp only [Act.put, List.setIfInBounds_toArray, List.set_cons_zero, List.set_cons_succ]
  refine chain_take (i := 8) (d := 27) (v := .bool true) rfl rfl (by kernel_rfl) (by kernel_rfl) (by kernel_rfl) rfl (fun _ _ => (by go_simp)) (fun _ _ _ h => h) (((Kf.refl FF W0).drew.trans k1).trans k2) ?_
  simp only [Act.put, List.setIfInBounds_toArray, List.set_cons_zero, List.set_cons_succ]
  refine chain_take (i := 9) (d := 6) (v := .bool true) rfl rfl (by kernel_rfl) (by kernel_rfl) (by kernel_rfl) rfl (fun _ _ => rfl) (fun _ _ _ h => h) (((Kf.refl FF W0).drew.trans k1).trans k2) ?_
  simp only [Act.put, List.setIfInBounds_toArray, List.set_cons_zero, List.set_cons_succ]
  refine wpAnyH_done (by kernel_rfl) ?_ _
  have T2 := Hid.mk h2
  clear h1 h2 k1 k2 c0 c1
  go_wp2
  go_ret
  exact ⟨addL x L, rfl, T2.out.weaken HFF.out, HLn.out⟩

set_option maxRecDepth 100000 in
set_option maxHeartbeats 4000000 in
theorem act12b (x : Int) (w0 w : World) (p bm q : Nat) (L : List Int) (F : Nat → Prop) (h : Two w0 w p bm q L L F) (hi : In64 x) (hL : L.length ≤ 900) :
    Calls Try.prog 8 #[.pointer (some ⟨p, 0, none⟩), .pointer (some ⟨q, 0, none⟩), .agg #[.int .i64 1, .int .i64 x]] w fun e w' => ∃ L', e = .returned (.bool true) ∧ Two w0 w' p bm q L' L' F ∧ L'.length ≤ L.length + 1 := by
  obtain ⟨W0, hW0⟩ : ∃ W0, w.alloc (.cells #[.int .i64 1, .int .i64 x] 31) = W0 := ⟨_, rfl⟩
  obtain ⟨b, hb⟩ : ∃ b, w.heap.size = b := ⟨_, rfl⟩
  have hbox : W0.heap[b]? = some (.cells #[.int .i64 1, .int .i64 x] 31) := by rw [← hW0, ← hb]; exact new_block _ _
  have c0 : W0.cell? ⟨b, 0, none⟩ = some (.int .i64 1) := by simp [World.cell?, hbox]
  have c1 : W0.cell? ⟨b, 1, none⟩ = some (.int .i64 x) := by simp [World.cell?, hbox]
  have T0 := h.add (w' := W0) (by rw [← hW0]; exact (Up.refl w).alloc.out) (fun k => k = b) (fun k hk => by subst hk; rw [← hW0, ← hb]; simp)
  obtain ⟨FF, hFF⟩ : ∃ FF, FF = (fun k => F k ∨ k = b) := ⟨_, rfl⟩
  have mb : FF b := by rw [hFF]; exact Or.inr rfl
  rw [← hFF] at T0
  have T0 := Hid.mk T0
  have HFF := Hid.mk (show ∀ k, F k → FF k by rw [hFF]; exact fun k hk => Or.inl hk)
  have MB := Hid.mk mb
  have HI := Hid.mk hi
  have HB := Hid.mk (show L.length ≤ 1000 by omega)
  have HLn := Hid.mk (Nat.le_succ_of_le (lessL_le x L 1))
  clear h hi hL hbox hFF mb
  go_enter Try.func8, Try.ntmps8
  go_upto_region 1 with fail
  try rw [hW0]
  try rw [hb]
  clear hW0 hb
  go_wp2_with (first
    | (go_at_call 17; refine (T0.out.relC x HI.out HB.out).mono ?_; rintro e w1 ⟨rfl, h1, k1⟩; have T1 := Hid.mk h1; have c0 := Kf.cell k1 MB.out c0; have c1 := Kf.cell k1 MB.out c1; clear h1 k1)
    | (go_at_call 23; refine (T1.out.relR x HB.out).mono ?_; rintro e w2 ⟨rfl, h2, k2⟩; have T2 := Hid.mk h2; have c0 := Kf.cell k2 MB.out c0; have c1 := Kf.cell k2 MB.out c1; clear h2 k2))
  go_ret
  exact ⟨lessL x 1 L, rfl, T2.out.weaken HFF.out, HLn.out⟩

set_option maxRecDepth 100000 in
set_option maxHeartbeats 4000000 in
theorem act12c (x : Int) (w0 w : World) (p bm q : Nat) (L : List Int) (F : Nat → Prop) (h : Two w0 w p bm q L L F) (hi : In64 x) (hL : L.length ≤ 900) :
    Calls Try.prog 8 #[.pointer (some ⟨p, 0, none⟩), .pointer (some ⟨q, 0, none⟩), .agg #[.int .i64 2, .int .i64 x]] w fun e w' => ∃ L', e = .returned (.bool true) ∧ Two w0 w' p bm q L' L' F ∧ L'.length ≤ L.length + 1 := by
  obtain ⟨W0, hW0⟩ : ∃ W0, w.alloc (.cells #[.int .i64 2, .int .i64 x] 31) = W0 := ⟨_, rfl⟩
  obtain ⟨b, hb⟩ : ∃ b, w.heap.size = b := ⟨_, rfl⟩
  have hbox : W0.heap[b]? = some (.cells #[.int .i64 2, .int .i64 x] 31) := by rw [← hW0, ← hb]; exact new_block _ _
  have c0 : W0.cell? ⟨b, 0, none⟩ = some (.int .i64 2) := by simp [World.cell?, hbox]
  have c1 : W0.cell? ⟨b, 1, none⟩ = some (.int .i64 x) := by simp [World.cell?, hbox]
  have T0 := h.add (w' := W0) (by rw [← hW0]; exact (Up.refl w).alloc.out) (fun k => k = b) (fun k hk => by subst hk; rw [← hW0, ← hb]; simp)
  obtain ⟨FF, hFF⟩ : ∃ FF, FF = (fun k => F k ∨ k = b) := ⟨_, rfl⟩
  have mb : FF b := by rw [hFF]; exact Or.inr rfl
  rw [← hFF] at T0
  have T0 := Hid.mk T0
  have HFF := Hid.mk (show ∀ k, F k → FF k by rw [hFF]; exact fun k hk => Or.inl hk)
  have MB := Hid.mk mb
  have HI := Hid.mk hi
  have HB := Hid.mk (show L.length ≤ 1000 by omega)
  have HLn := Hid.mk (Nat.le_succ_of_le (lessL_le x L (cnt x L)))
  clear h hi hL hbox hFF mb
  go_enter Try.func8, Try.ntmps8
  go_upto_region 1 with fail
  try rw [hW0]
  try rw [hb]
  clear hW0 hb
  go_wp2_with (first
    | (go_at_call 18; refine (T0.out.dropC x HI.out HB.out).mono ?_; rintro e w1 ⟨rfl, h1, k1⟩; have T1 := Hid.mk h1; have c0 := Kf.cell k1 MB.out c0; have c1 := Kf.cell k1 MB.out c1; clear h1 k1)
    | (go_at_call 24; refine (T1.out.dropR x HB.out).mono ?_; rintro e w2 ⟨rfl, h2, k2⟩; have T2 := Hid.mk h2; have c0 := Kf.cell k2 MB.out c0; have c1 := Kf.cell k2 MB.out c1; clear h2 k2))
  go_ret
  exact ⟨lessL x (cnt x L) L, rfl, T2.out.weaken HFF.out, HLn.out⟩

set_option maxRecDepth 100000 in
set_option maxHeartbeats 4000000 in
theorem act12n (k : Int) (x : Int) (w0 w : World) (p bm q : Nat) (L : List Int) (F : Nat → Prop) (hk : k ≠ 0 ∧ k ≠ 1 ∧ k ≠ 2) (h : Two w0 w p bm q L L F) (hi : In64 x) (hL : L.length ≤ 900) :
    Calls Try.prog 8 #[.pointer (some ⟨p, 0, none⟩), .pointer (some ⟨q, 0, none⟩), .agg #[.int .i64 k, .int .i64 x]] w fun e w' => ∃ L', e = .returned (.bool true) ∧ Two w0 w' p bm q L' L' F ∧ L'.length ≤ L.length + 1 := by
  obtain ⟨W0, hW0⟩ : ∃ W0, w.alloc (.cells #[.int .i64 k, .int .i64 x] 31) = W0 := ⟨_, rfl⟩
  obtain ⟨b, hb⟩ : ∃ b, w.heap.size = b := ⟨_, rfl⟩
  have hbox : W0.heap[b]? = some (.cells #[.int .i64 k, .int .i64 x] 31) := by rw [← hW0, ← hb]; exact new_block _ _
  have c0 : W0.cell? ⟨b, 0, none⟩ = some (.int .i64 k) := by simp [World.cell?, hbox]
  have c1 : W0.cell? ⟨b, 1, none⟩ = some (.int .i64 x) := by simp [World.cell?, hbox]
  have T0 := h.add (w' := W0) (by rw [← hW0]; exact (Up.refl w).alloc.out) (fun k => k = b) (fun k hk => by subst hk; rw [← hW0, ← hb]; simp)
  obtain ⟨FF, hFF⟩ : ∃ FF, FF = (fun k => F k ∨ k = b) := ⟨_, rfl⟩
  have mb : FF b := by rw [hFF]; exact Or.inr rfl
  rw [← hFF] at T0
  have T0 := Hid.mk T0
  have HFF := Hid.mk (show ∀ k, F k → FF k by rw [hFF]; exact fun k hk => Or.inl hk)
  have MB := Hid.mk mb
  have HI := Hid.mk hi
  have HB := Hid.mk (show L.length ≤ 1000 by omega)
  have HLn := Hid.mk (Nat.le_succ L.length)
  have d0 : (k == 0) = false := by simp; omega
  have d1 : (k == 1) = false := by simp; omega
  have d2 : (k == 2) = false := by simp; omega
  have T2 := T0
  clear hk
  clear h hi hL hbox hFF mb
  go_enter Try.func8, Try.ntmps8
  go_upto_region 1 with fail
  try rw [hW0]
  try rw [hb]
  clear hW0 hb
  go_wp2
  go_ret
  exact ⟨L, rfl, T2.out.weaken HFF.out, HLn.out⟩

theorem act12_any (k x : Int) (w0 w : World) (p bm q : Nat) (L : List Int) (F : Nat → Prop) (h : Two w0 w p bm q L L F) (hi : In64 x) (hL : L.length ≤ 900) :
    Calls Try.prog 8 #[.pointer (some ⟨p, 0, none⟩), .pointer (some ⟨q, 0, none⟩), .agg #[.int .i64 k, .int .i64 x]] w fun e w' => ∃ L', e = .returned (.bool true) ∧ Two w0 w' p bm q L' L' F ∧ L'.length ≤ L.length + 1 := by
  by_cases h0 : k = 0
  · subst h0; exact act12a x w0 w p bm q L F h hi hL
  · by_cases h1 : k = 1
    · subst h1; exact act12b x w0 w p bm q L F h hi hL
    · by_cases h2 : k = 2
      · subst h2; exact act12c x w0 w p bm q L F h hi hL
      · exact act12n k x w0 w p bm q L F ⟨h0, h1, h2⟩ h hi hL

end Go.Proofs.Ytgfelddgiabeoaa
