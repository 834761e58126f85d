/-
  The tests of the program's filters; the items of a hash.
-/
import Derived.Test.YtkijbphbibcnoaaLinPc
namespace Go.Proofs.Ytkijbphbibcnoaa
open Go.RowKit Go.Deep Go.Maps Go.WideShapes

theorem bucketL_up {p n : Nat} {a : Option Addr} {cap h : Nat} {w : World} (c1 : w.cell? ⟨p, 1, none⟩ = some (.slice a n cap)) (hh : h < 4294967296) (h1 : 1 ≤ n) (h2 : n ≤ 1048576) {m : Nat} (hm : bkt h n = m) :
    Calls Try.prog 38 #[.pointer (some ⟨p, 0, none⟩), .int .u32 h] w fun e w' => e = .returned (.int .i64 m) ∧ Below w.heap.size w w' :=
  (bucketL_cell p n a cap h w c1 hh h1 h2).mono fun e w' ⟨h1, h2⟩ => ⟨by rw [h1, hm], by rw [← h2]; exact Below.refl _ _⟩
/-- An item handed to a test lies in a box of its own. -/
theorem item_box (w : World) (x : It) : ∃ W1, w.alloc (.cells #[.int .u32 x.1, .int .i64 x.2] 54) = W1 ∧ Below w.heap.size w W1 ∧ W1.cell? ⟨w.heap.size, 0, none⟩ = some (.int .u32 x.1) ∧ W1.cell? ⟨w.heap.size, 1, none⟩ = some (.int .i64 x.2) := by
  exact ⟨_, rfl, (Up.alloc (Up.refl w)).out, new_cell _ _ _ 0, new_cell _ _ _ 1⟩

theorem chain1_any (bh h : Nat) (x : It) (w : World) (ch : w.cell? ⟨bh, 0, none⟩ = some (.int .u32 h)) :
    Calls Try.prog 44 #[.agg #[.int .u32 x.1, .int .i64 x.2], .pointer (some ⟨bh, 0, none⟩)] w fun e w' => e = .returned (.bool (isH h x)) ∧ Below w.heap.size w w' := by
  obtain ⟨W1, hW1, hb1, q0, q1⟩ := item_box w x
  have k := cell_below hb1 _ _ _ ch
  have HB1 := Hid.mk hb1
  obtain ⟨x0, x1⟩ := x
  clear hb1 ch
  go_enter Try.func44, Try.ntmps44
  go_wp2
  go_ret
  refine ⟨ret_bool ?_, HB1.out⟩
  unfold isH
  by_cases e : x0 = h
  · simp [e]
  · simp [e]; omega
theorem remove1_any (bh bi h : Nat) (id : Int) (x : It) (w : World) (ch : w.cell? ⟨bh, 0, none⟩ = some (.int .u32 h)) (ci : w.cell? ⟨bi, 0, none⟩ = some (.int .i64 id)) :
    Calls Try.prog 41 #[.agg #[.int .u32 x.1, .int .i64 x.2], .pointer (some ⟨bh, 0, none⟩), .pointer (some ⟨bi, 0, none⟩)] w fun e w' => e = .returned (.bool (decide (x = (h, id)))) ∧ Below w.heap.size w w' := by
  obtain ⟨W1, hW1, hb1, q0, q1⟩ := item_box w x
  have k := cell_below hb1 _ _ _ ch
  have k2 := cell_below hb1 _ _ _ ci
  have HB1 := Hid.mk hb1
  obtain ⟨x0, x1⟩ := x
  clear hb1 ch ci
  by_cases e : x0 = h
  · have e1 : ((x0 : Int) == (h : Int)) = true := by simp [e]
    subst e
    go_enter Try.func41, Try.ntmps41
    go_wp2
    go_ret
    exact ⟨ret_bool (by by_cases e2 : x1 = id <;> simp [e2]), HB1.out⟩
  · have e1 : ((x0 : Int) == (h : Int)) = false := by simp; omega
    have HE := Hid.mk e
    clear e
    go_enter Try.func41, Try.ntmps41
    go_wp2
    go_ret
    exact ⟨ret_bool (by have := HE.out; simp [this]), HB1.out⟩
set_option maxHeartbeats 1000000 in
theorem split1_any (bb bf p n f : Nat) (a : Option Addr) (cap : Nat) (x : It) (w : World) (cb : w.cell? ⟨bb, 0, none⟩ = some (.pointer (some ⟨p, 0, none⟩))) (c1 : w.cell? ⟨p, 1, none⟩ = some (.slice a n cap)) (cf : w.cell? ⟨bf, 0, none⟩ = some (.int .i64 f)) (hx : x.1 < 4294967296) (h1 : 1 ≤ n) (h2 : n ≤ 1048576) :
    Calls Try.prog 45 #[.agg #[.int .u32 x.1, .int .i64 x.2], .pointer (some ⟨bb, 0, none⟩), .pointer (some ⟨bf, 0, none⟩)] w fun e w' => e = .returned (.bool (goesTo n f x)) ∧ Below w.heap.size w w' := by
  obtain ⟨W1, hW1, hb1, q0, q1⟩ := item_box w x
  have k := cell_below hb1 _ _ _ cb
  have k1 := cell_below hb1 _ _ _ c1
  have k2 := cell_below hb1 _ _ _ cf
  have HB1 := Hid.mk hb1
  obtain ⟨x0, x1⟩ := x
  obtain ⟨m, hm⟩ : ∃ m, bkt x0 n = m := ⟨_, rfl⟩
  have HC := Hid.mk (fun W (hW : Up W1 W) => bucketL_up (cell_below hW.out _ _ _ k1) hx h1 h2 hm)
  have HM := Hid.mk hm
  clear hb1 cb c1 cf hx h1 h2 hm
  go_enter Try.func45, Try.ntmps45
  go_upto_region 1 with fail
  try rw [hW1]
  clear hW1
  refine region_up (W := W1) (by kernel_rfl) (by kernel_rfl) (Up.refl _) ?_
  refine quiet_value (v := .pointer (some ⟨p, 0, none⟩)) rfl (fun W h => (by have u0 := cell_below h.out _ _ _ k; go_simp)) ?_
  simp only [Act.put, List.setIfInBounds_toArray, List.set_cons_zero, List.set_cons_succ]
  refine quiet_value (v := .pointer (some ⟨w.heap.size, 0, none⟩)) rfl (fun _ _ => (by go_simp)) ?_
  simp only [Act.put, List.setIfInBounds_toArray, List.set_cons_zero, List.set_cons_succ]
  refine quiet_value (v := .int .u32 x0) rfl (fun W h => (by have u0 := cell_below h.out _ _ _ q0; go_simp)) ?_
  simp only [Act.put, List.setIfInBounds_toArray, List.set_cons_zero, List.set_cons_succ]
  refine quiet_call (v := .int .i64 m) rfl (fun W => (by go_simp)) (fun W h => (HC.out W h).mono fun e w' ⟨he, hb⟩ => ⟨he, h.call hb⟩) ?_
  simp only [Act.put, List.setIfInBounds_toArray, List.set_cons_zero, List.set_cons_succ]
  refine quiet_value (v := .int .i64 f) rfl (fun W h => (by have u0 := cell_below h.out _ _ _ k2; go_simp)) ?_
  simp only [Act.put, List.setIfInBounds_toArray, List.set_cons_zero, List.set_cons_succ]
  refine quiet_value (v := .bool ((m : Int) == (f : Int))) rfl (fun _ _ => (by go_simp)) ?_
  simp only [Act.put, List.setIfInBounds_toArray, List.set_cons_zero, List.set_cons_succ]
  refine quiet_value (v := .bool ((m : Int) == (f : Int))) rfl (fun _ _ => rfl) ?_
  simp only [Act.put, List.setIfInBounds_toArray, List.set_cons_zero, List.set_cons_succ]
  refine quiet_nil ?_
  intro w2 hw2
  have HW2 := Hid.mk (HB1.out.trans (hw2.out.mono HB1.out.size))
  clear hw2 k k1 k2 q0 q1
  go_wp2
  go_ret
  refine ⟨ret_bool ?_, HW2.out⟩
  unfold goesTo
  rw [HM.out]
  by_cases e : m = f
  · simp [e]
  · simp [e]; omega
set_option maxHeartbeats 1000000 in
theorem split2_any (bb bf p n f : Nat) (a : Option Addr) (cap : Nat) (x : It) (w : World) (cb : w.cell? ⟨bb, 0, none⟩ = some (.pointer (some ⟨p, 0, none⟩))) (c1 : w.cell? ⟨p, 1, none⟩ = some (.slice a n cap)) (cf : w.cell? ⟨bf, 0, none⟩ = some (.int .i64 f)) (hx : x.1 < 4294967296) (h1 : 1 ≤ n) (h2 : n ≤ 1048576) :
    Calls Try.prog 46 #[.agg #[.int .u32 x.1, .int .i64 x.2], .pointer (some ⟨bb, 0, none⟩), .pointer (some ⟨bf, 0, none⟩)] w fun e w' => e = .returned (.bool (goesTo n f x)) ∧ Below w.heap.size w w' := by
  obtain ⟨W1, hW1, hb1, q0, q1⟩ := item_box w x
  have k := cell_below hb1 _ _ _ cb
  have k1 := cell_below hb1 _ _ _ c1
  have k2 := cell_below hb1 _ _ _ cf
  have HB1 := Hid.mk hb1
  obtain ⟨x0, x1⟩ := x
  obtain ⟨m, hm⟩ : ∃ m, bkt x0 n = m := ⟨_, rfl⟩
  have HC := Hid.mk (fun W (hW : Up W1 W) => bucketL_up (cell_below hW.out _ _ _ k1) hx h1 h2 hm)
  have HM := Hid.mk hm
  clear hb1 cb c1 cf hx h1 h2 hm
  go_enter Try.func46, Try.ntmps46
  go_upto_region 1 with fail
  try rw [hW1]
  clear hW1
  refine region_up (W := W1) (by kernel_rfl) (by kernel_rfl) (Up.refl _) ?_
  refine quiet_value (v := .pointer (some ⟨p, 0, none⟩)) rfl (fun W h => (by have u0 := cell_below h.out _ _ _ k; go_simp)) ?_
  simp only [Act.put, List.setIfInBounds_toArray, List.set_cons_zero, List.set_cons_succ]
  refine quiet_value (v := .pointer (some ⟨w.heap.size, 0, none⟩)) rfl (fun _ _ => (by go_simp)) ?_
  simp only [Act.put, List.setIfInBounds_toArray, List.set_cons_zero, List.set_cons_succ]
  refine quiet_value (v := .int .u32 x0) rfl (fun W h => (by have u0 := cell_below h.out _ _ _ q0; go_simp)) ?_
  simp only [Act.put, List.setIfInBounds_toArray, List.set_cons_zero, List.set_cons_succ]
  refine quiet_call (v := .int .i64 m) rfl (fun W => (by go_simp)) (fun W h => (HC.out W h).mono fun e w' ⟨he, hb⟩ => ⟨he, h.call hb⟩) ?_
  simp only [Act.put, List.setIfInBounds_toArray, List.set_cons_zero, List.set_cons_succ]
  refine quiet_value (v := .int .i64 f) rfl (fun W h => (by have u0 := cell_below h.out _ _ _ k2; go_simp)) ?_
  simp only [Act.put, List.setIfInBounds_toArray, List.set_cons_zero, List.set_cons_succ]
  refine quiet_value (v := .bool ((m : Int) == (f : Int))) rfl (fun _ _ => (by go_simp)) ?_
  simp only [Act.put, List.setIfInBounds_toArray, List.set_cons_zero, List.set_cons_succ]
  refine quiet_value (v := .bool ((m : Int) == (f : Int))) rfl (fun _ _ => rfl) ?_
  simp only [Act.put, List.setIfInBounds_toArray, List.set_cons_zero, List.set_cons_succ]
  refine quiet_nil ?_
  intro w2 hw2
  have HW2 := Hid.mk (HB1.out.trans (hw2.out.mono HB1.out.size))
  clear hw2 k k1 k2 q0 q1
  go_wp2
  go_ret
  refine ⟨ret_bool ?_, HW2.out⟩
  unfold goesTo
  rw [HM.out]
  by_cases e : m = f
  · simp [e]
  · simp [e]; omega
theorem its_cel {w : World} {a : Option Addr} {n c : Nat} {R : List It} (h : Its w (.slice a n c) R) : CelT w R a := by
  obtain ⟨a2, c2, e, h⟩ := h.slice
  simp only [Value.slice.injEq] at e
  obtain ⟨rfl, _, _⟩ := e
  exact h

set_option maxHeartbeats 4000000 in
set_option maxRecDepth 100000 in
theorem chainP_any (w : World) (p least : Nat) (S : Nat → Prop) (B : Bks) (h : Nat) (hb : LbP w p least S B) (hF : Fine B) (hh : h < 4294967296) :
    Calls Try.prog 15 #[.pointer (some ⟨p, 0, none⟩), .int .u32 h] w fun e w' => ∃ v, e = .returned v ∧ Told w w' v (chainB B h) := by
  obtain ⟨v, hb⟩ := hb
  have hfl := hF.len
  have hfs := hF.size
  have h1 := hF.placed.some_
  have hlt := ofB_lt h1 h
  obtain ⟨W1, hW1⟩ : ∃ W1, w.alloc (.cells #[.int .u32 h] 32) = W1 := ⟨_, rfl⟩
  have hb1 : Below w.heap.size w W1 := by rw [← hW1]; exact (Up.alloc (Up.refl w)).out
  have kh : W1.cell? ⟨w.heap.size, 0, none⟩ = some (.int .u32 h) := by rw [← hW1]; exact new_cell _ _ _ 0
  have hz1 : W1.heap.size = w.heap.size + 1 := by rw [← hW1]; simp
  have hbx := hb.up hb1
  obtain ⟨⟨c0, c1, _, _⟩, _, _⟩ := bxP_cells hbx
  obtain ⟨g, cap, a', c, rfl, d0, hz9, hrow, ha, hrest⟩ := hbx.focus hlt
  clear hrest hz9
  have hln := rowB_len_le B (ofB B h)
  unfold chainB
  rw [rowB_lt hlt] at hln ⊢
  obtain ⟨I, hI⟩ : ∃ I, ofB B h = I := ⟨_, rfl⟩
  have HC := Hid.mk (fun W (hW : Up W1 W) => bucketL_up (cell_below hW.out _ _ _ c1) hh h1 (by omega) hI)
  generalize ofB B h = I' at *
  subst hI
  obtain ⟨R, hR⟩ : ∃ R, B[I'] = R := ⟨_, rfl⟩
  rw [hR] at d0 hrow hln ⊢
  have hcel := its_cel hrow
  have hlt1 : ∀ ad, a' = some ad → ad.block < W1.heap.size := fun ad e => hbx.lt _ (ha ad e).1
  have HP := Hid.mk (fun W (hW : Up W1 W) => pick_any 44 #[.pointer (some ⟨w.heap.size, 0, none⟩)] (isH h) R a' c W (hcel.up hW.out) (fun ad e => Nat.lt_of_lt_of_le (hlt1 ad e) hW.out.size) (by omega)
    (enters_of Try.func44 (by kernel_rfl) rfl) (fun W2 x _ ho => chain1_any w.heap.size h x W2 (by
      refine ho.cellS ?_ (cell_below hW.out _ _ _ kh)
      have := hW.out.size
      omega)))
  have hli : (I' : Int) < B.length := by omega
  have HB1 := Hid.mk hb1
  have hmf : ∀ (fn : Fn) (first cap : Array Value) (w : World), (Instr.makeFunc fn first cap).run Try.prog w = .ok (.func fn first cap) w := fun _ _ _ _ => rfl
  clear hb hF hfl hfs h1 hlt hb1 hbx ha hln hrow hcel hlt1 hR hh hz1
  go_enter Try.func15, Try.ntmps15
  go_upto_region 3 with (go_at_call 37; refine (madeL_cell _ _ c0).mono ?_; rintro e w2 ⟨rfl, rfl⟩)
  refine wp_region_held (S := Up W1) (by kernel_rfl) ?_
  refine chain_take (i := 0) (d := 8) (v := .pointer (some ⟨p, 0, none⟩)) rfl rfl (by kernel_rfl) (by kernel_rfl) (by kernel_rfl) rfl (fun _ _ => rfl) (fun _ _ _ h => h) (Up.refl W1).drew ?_
  simp only [Act.put, List.setIfInBounds_toArray, List.set_cons_zero, List.set_cons_succ]
  refine chain_take (i := 1) (d := 9) (v := .pointer (some ⟨p, 0, none⟩)) rfl rfl (by kernel_rfl) (by kernel_rfl) (by kernel_rfl) rfl (fun _ _ => (by go_simp)) (fun _ _ _ h => h) (Up.refl W1).drew ?_
  simp only [Act.put, List.setIfInBounds_toArray, List.set_cons_zero, List.set_cons_succ]
  refine chain_take (i := 2) (d := 10) (v := .pointer (some ⟨p, 1, none⟩)) rfl rfl (by kernel_rfl) (by kernel_rfl) (by kernel_rfl) rfl (fun _ _ => (by go_simp)) (fun _ _ _ h => h) (Up.refl W1).drew ?_
  simp only [Act.put, List.setIfInBounds_toArray, List.set_cons_zero, List.set_cons_succ]
  refine chain_take (i := 3) (d := 11) (v := .slice (some ⟨g, 0, none⟩) B.length cap) rfl rfl (by kernel_rfl) (by kernel_rfl) (by kernel_rfl) rfl (fun W h => (by have u0 := cell_below h.out _ _ _ c1; go_simp)) (fun _ _ _ h => h) (Up.refl W1).drew ?_
  simp only [Act.put, List.setIfInBounds_toArray, List.set_cons_zero, List.set_cons_succ]
  refine chain_take (i := 4) (d := 12) (v := .pointer (some ⟨p, 0, none⟩)) rfl rfl (by kernel_rfl) (by kernel_rfl) (by kernel_rfl) rfl (fun _ _ => rfl) (fun _ _ _ h => h) (Up.refl W1).drew ?_
  simp only [Act.put, List.setIfInBounds_toArray, List.set_cons_zero, List.set_cons_succ]
  refine chain_take (i := 5) (d := 13) (v := .int .u32 h) rfl rfl (by kernel_rfl) (by kernel_rfl) (by kernel_rfl) rfl (fun W h => (by have u0 := cell_below h.out _ _ _ kh; go_simp)) (fun _ _ _ h => h) (Up.refl W1).drew ?_
  simp only [Act.put, List.setIfInBounds_toArray, List.set_cons_zero, List.set_cons_succ]
  refine chain_take (i := 9) (d := 17) (v := .func (.func 44) #[] #[.pointer (some ⟨w.heap.size, 0, none⟩)]) rfl rfl (by kernel_rfl) (by kernel_rfl) (by kernel_rfl) rfl (fun _ _ => (by go_simp)) (fun _ _ _ h => h) (Up.refl W1).drew ?_
  simp only [Act.put, List.setIfInBounds_toArray, List.set_cons_zero, List.set_cons_succ]
  refine chain_call (i := 6) (d := 14) (f := 38) (args := #[.pointer (some ⟨p, 0, none⟩), .int .u32 h]) (by kernel_rfl) rfl rfl rfl (by go_simp) ?_
  refine (HC.out _ (Up.refl W1).drew).mono ?_
  rintro e w3 ⟨rfl, hb3⟩
  refine ⟨.int .i64 I', rfl, ((Up.refl W1).drew.call hb3), ?_⟩
  simp only [Act.put, List.setIfInBounds_toArray, List.set_cons_zero, List.set_cons_succ]
  refine chain_take (i := 7) (d := 15) (v := .pointer (some ⟨g, I', none⟩)) rfl rfl (by kernel_rfl) (by kernel_rfl) (by kernel_rfl) rfl (fun _ _ => (by go_simp)) (fun _ _ _ h => h) (((Up.refl W1).drew.call hb3)) ?_
  simp only [Act.put, List.setIfInBounds_toArray, List.set_cons_zero, List.set_cons_succ]
  refine chain_take (i := 8) (d := 16) (v := .slice a' R.length c) rfl rfl (by kernel_rfl) (by kernel_rfl) (by kernel_rfl) rfl (fun W h => (by have u0 := cell_below h.out _ _ _ d0; go_simp)) (fun _ _ _ h => h) (((Up.refl W1).drew.call hb3)) ?_
  simp only [Act.put, List.setIfInBounds_toArray, List.set_cons_zero, List.set_cons_succ]
  refine chain_call (i := 10) (d := 18) (f := 43) (args := #[.slice a' R.length c, .func (.func 44) #[] #[.pointer (some ⟨w.heap.size, 0, none⟩)]]) (by kernel_rfl) rfl rfl rfl (by go_simp) ?_
  refine (HP.out _ ((Up.refl W1).drew.call hb3)).mono ?_
  rintro e w4 ⟨v4, rfl, ht⟩
  refine ⟨v4, rfl, (((Up.refl W1).drew.call hb3).call ht.below), ?_⟩
  simp only [Act.put, List.setIfInBounds_toArray, List.set_cons_zero, List.set_cons_succ]
  refine chain_take (i := 11) (d := 4) (v := v4) rfl rfl (by kernel_rfl) (by kernel_rfl) (by kernel_rfl) rfl (fun _ _ => rfl) (fun _ _ _ h => h) ((((Up.refl W1).drew.call hb3).call ht.below)) ?_
  simp only [Act.put, List.setIfInBounds_toArray, List.set_cons_zero, List.set_cons_succ]
  refine wpAnyH_done (by kernel_rfl) ?_ _
  have HT := Hid.mk (show Told w w4 v4 (R.filter (isH h)) from by
    have hu := (Up.refl W1).drew.call hb3
    have hs := hu.out.size
    exact ⟨ht.its, fun g hg => Nat.le_trans (Nat.le_trans HB1.out.size hs) (ht.new g hg), (HB1.out.trans (hu.out.mono HB1.out.size)).trans (ht.below.mono (Nat.le_trans HB1.out.size hs))⟩)
  clear ht hb3 c0 c1 d0 kh
  go_wp2
  go_ret
  exact ⟨_, rfl, HT.out⟩
end Go.Proofs.Ytkijbphbibcnoaa
