/-
  TermMakes: what the statement says, of every input.
-/
import Derived.Test.YtnpnbonodkpkdaaDoorTermRefItems
import Derived.Test.YtnpnbonodkpkdaaDoorTermLists2
import Derived.Test.YtnpnbonodkpkdaaDoorTermChecks2
namespace Go.Proofs.YtnpnbonodkpkdaaDoor
open Go.RowKit Go.Deep

theorem is_after {w w' : World} {T : Tm} {v : Value} {S : Nat → Prop} (h : Lies w S T v) (hk : ∀ k, S k → k < w.heap.size → w'.heap[k]? = w.heap[k]?) : Is w' T v :=
  h.move (fun _ _ => trivial) (fun b o v hb hc => by rw [World.cell?_of_block (w := w) (a := ⟨b, o, none⟩) (hk b hb (World.block_lt_of_cell? w ⟨b, o, none⟩ hc))]; exact hc) _ _

theorem sameTermSelf (T : Tm) (S S' : Nat → Prop) (v u : Value) (w : World) (hv : Lies w S T v) (hu : Lies w S' T u) :
    Calls Tryd.prog 17 #[v, u] w fun e w' => e = .returned (.bool true) ∧ Below w.heap.size w w' := by
  have h := sameTerm_any T T S S' v u w hv hu
  rwa [eqB_refl] at h
theorem sameAllSelf (l : List Tm) (S S' : Nat → Prop) (a a' : Option Addr) (cap cap' : Nat) (w : World) (hl : Lst w S l a cap) (hl' : Lst w S' l a' cap') :
    Calls Tryd.prog 30 #[.slice a l.length cap, .slice a' l.length cap'] w fun e w' => e = .returned (.bool true) ∧ Below w.heap.size w w' := by
  have h := sameAll_any l l S S' a a' cap cap' w hl hl'
  rwa [eqL_refl] at h

/-- The program's items, and the document's. -/
theorem both_items (C : Tm) (hsz : C.size ≤ 1000000) (hsh : C.Short) : ∃ (X : List Tm) (lb : Bool),
    (∀ (S : Nat → Prop) (v : Value) (w : World), Lies w S C v → Calls Tryd.prog 28 #[v] w fun e w' => (∃ a cap, e = .returned (.tuple #[.slice a X.length cap, .bool lb]) ∧ IsL w' X a cap) ∧ Below w.heap.size w w') ∧
    (∀ (S : Nat → Prop) (v : Value) (w : World), Lies w S C v → Calls Tryd.prog 29 #[v] w fun e w' => (∃ a cap, e = .returned (.tuple #[.slice a X.length cap, .bool lb]) ∧ IsL w' X a cap) ∧ Below w.heap.size w w') := by
  refine ⟨if C.last = 8 then C.items else [], C.last == 8, fun S v w hv => (items_any C hsz hsh S v w hv).mono ?_, fun S v w hv => (refItems_any C hsz S v w hv).mono ?_⟩
  · rintro e w' ⟨⟨l', a, cap, rfl, hl, hle⟩, hb⟩
    subst hle
    exact ⟨⟨a, cap, rfl, hl.is⟩, hb⟩
  · rintro e w' ⟨⟨a, cap, ⟨h8, rfl, hl⟩ | ⟨h8, rfl⟩⟩, hb⟩
    · rw [if_pos h8, beq_iff_eq.2 h8]
      exact ⟨⟨a, cap, rfl, hl⟩, hb⟩
    · rw [if_neg h8, beq_eq_false_iff_ne.2 h8]
      exact ⟨⟨none, 0, rfl, lst_nil _ _⟩, hb⟩

set_option maxRecDepth 100000 in
set_option maxHeartbeats 4000000 in
theorem lawMakes (n : Int) (n0 : -9223372036854775808 ≤ n) (n1 : n ≤ 9223372036854775807) (s : ByteArray) (l : List Tm) (a : Option Addr) (cap : Nat) (T : Tm) (v : Value) (w : World) (ht : ShapeTab w) (hs : s.size ≤ 9223372036854775807)
    (hl : IsL w l a cap) (hv : Is w T v) : Calls Tryd.prog 5 #[.int .i64 n, .string s, .slice a l.length cap, v] w fun e w' => e = .returned (.bool true) ∧ Below w.heap.size w w' := by
  obtain ⟨k, m, z, a', m', cap', rfl⟩ := hv.agg
  obtain ⟨W0, hW0⟩ : ∃ W0, w.alloc (.cells #[.int .i64 k, .int .i64 m, .string z, .slice a' m' cap'] 24) = W0 := ⟨_, rfl⟩
  have hu0 : Up w W0 := by rw [← hW0]; exact (Up.refl w).alloc
  have hbx : W0.heap[w.heap.size]? = some (.cells #[.int .i64 k, .int .i64 m, .string z, .slice a' m' cap'] 24) := by rw [← hW0]; exact new_block _ _
  have hl0 := Hid.mk (hl.below hu0.out)
  have hv0 := Hid.mk (hv.below hu0.out)
  have ht0 := ht.below hu0.out
  have hlen : l.length ≤ 9223372036854775807 := Nat.le_trans hl.1 hl.2.1
  have hq := Up.refl W0
  have hret : Hid (∀ W, Up W0 W → Below w.heap.size w W) := Hid.mk (fun W h => (hu0.call h.out).out)
  have hW0' := Hid.mk hW0
  clear hl hv hW0
  go_enter Tryd.func5, Tryd.ntmps5
  go_upto_region 1 with fail
  rw [hW0'.out]
  go_upto_region 4 with (first
    | (go_at_call 23; refine (largeAll_any l _ _ _ 400 _ (hl0.out.below hq.out) (by omega) (by omega)).mono ?_; rintro e w1 ⟨⟨b1, rfl, hA⟩, hb⟩; have hq := hq.call hb; obtain ⟨g0, g1, g2, g3⟩ := hq.four hbx; have hA := Hid.mk hA)
    | (go_at_call 9; refine (largeTerm_any T _ _ 400 _ (hv0.out.below hq.out) (by omega) (by omega)).mono ?_; rintro e w2 ⟨⟨b2, rfl, hB⟩, hb⟩; have hq := hq.call hb; obtain ⟨g0, g1, g2, g3⟩ := hq.four hbx; have hB := Hid.mk hB)
    | (go_at_call 24; have hb1 : b1 = false := (by first | assumption | simpa using ‹¬ b1 = true›); have hb2 : b2 = false := (by first | assumption | simpa using ‹¬ b2 = true› | exact And.right (by assumption)); have hA2 := Hid.mk (hA.out hb1); have hB2 := Hid.mk (hB.out hb2); have hz1 := hA2.out.2; have hz2 := hB2.out.2; refine (copyAll_any l (by omega) _ _ _ _ (hl0.out.below hq.out)).mono ?_; rintro e w3 ⟨⟨sv, rfl, hown⟩, hb⟩; obtain ⟨ai, ci, rfl, hin⟩ := hown.lst; have hq := hq.call hb))
  · go_wp2
    go_ret
    exact ⟨rfl, hret.out _ hq⟩
  · go_wp2
    go_ret
    exact ⟨rfl, hret.out _ hq⟩
  rotate_left
  · go_wp2
    go_ret
    exact ⟨rfl, hret.out _ hq⟩
  have hin := Hid.mk hin
  have hq0 := hq
  have hl4 : l.length ≤ 400 := by have := length_sizes l; omega
  clear hA hB hb hown
  go_cut [10, 11] (fun s10 s11 wx => Var wx (.mk 7 0 ⟨#[]⟩ l) w3.heap.size s10 ∧ Var wx (conses l T) w3.heap.size s11 ∧ Up w3 wx)
  case first =>
    refine wp_region_held (S := Up w3) (by kernel_rfl) ?_
    refine wpAnyH_take (i := 0) (v := .slice ai l.length ci) rfl (by kernel_rfl) (by kernel_rfl) (by kernel_rfl) (fun _ _ _ h => h) (Or.inl ⟨by rfl, fun _ _ => rfl⟩) (Up.refl w3).drew ?_
    refine wpAnyH_take (i := 2) (v := .slice ai l.length ci) rfl (by kernel_rfl) (by kernel_rfl) (by kernel_rfl) (fun _ _ _ h => h) (Or.inl ⟨by rfl, fun _ _ => rfl⟩) (Up.refl w3).drew ?_
    refine wpAnyH_take (i := 3) (v := .agg #[.int .i64 k, .int .i64 m, .string z, .slice a' m' cap']) rfl (by kernel_rfl) (by kernel_rfl) (by kernel_rfl) (fun _ _ _ h => h) (Or.inl ⟨by rfl, fun W h => ?_⟩) (Up.refl w3).drew ?_
    · obtain ⟨q0, q1, q2, q3⟩ := (hq.call h.out).four hbx
      go_simp
    refine wpAnyH_floats [1, 4, 5] [8, 9] [⟨6, 10, zeroTerm⟩, ⟨7, 11, zeroTerm⟩] (by kernel_rfl) ?_ (Up.refl w3).drew ?_
    · intro f hf
      rcases List.mem_cons.1 hf with rfl | hf
      · exact flo_term rfl
      obtain rfl := List.mem_singleton.1 hf
      exact flo_term rfl
    refine ⟨_, _, _, rfl, rfl, fun W => (by go_simp; exact ⟨rfl, rfl⟩), fun W1 hW1 => ?_⟩
    have hu1 : Up w3 W1 := (Up.refl w3).drew.out.trans hW1
    refine (makeTuple_any l (by omega) _ _ _ _ (hin.out.below hu1.out)).mono ?_
    rintro e w4 ⟨⟨v4, rfl, hL4⟩, hb4⟩
    obtain ⟨k4, n4, s4, a4, m4, c4, rfl⟩ := hL4.agg
    refine ⟨_, rfl, hb4, ?_⟩
    refine ⟨_, _, _, rfl, rfl, fun W => (by go_simp; exact ⟨rfl, rfl⟩), fun W2 hW2 => ?_⟩
    have hu2 : Up w3 W2 := (hu1.call hb4).call hW2
    refine (copyTerm_any T (by omega) _ _ _ (hv0.out.below (hq.call hu2.out).out)).mono ?_
    rintro e w5 ⟨⟨v5, rfl, hown5⟩, hb5⟩
    obtain ⟨k5, n5, s5, a5, m5, c5, rfl⟩ := hown5.is.agg
    refine ⟨_, rfl, hb5, ?_⟩
    refine ⟨_, _, _, rfl, rfl, fun W => (by go_simp; exact ⟨rfl, rfl⟩), fun W3 hW3 => ?_⟩
    have hu3 : Up w3 W3 := (hu2.call hb5).call hW3
    have hz3 := hu3.out.size
    have hz5 := hW3.size
    refine (makeList_of l (by omega) T (fun b => b < w3.heap.size ∨ (W2.heap.size ≤ b ∧ b < w5.heap.size)) _ _ _ _ ((hin.out.below hu3.out).wider (fun b hb => Or.inl hb.2)) (((hown5.lies).below hW3).wider (fun b hb => Or.inr hb)) (fun b hb => by omega)).mono ?_
    rintro e w6 ⟨⟨v6, rfl, hL6⟩, hb6⟩
    obtain ⟨k6, n6, s6, a6, m6, c6, rfl⟩ := hL6.agg
    refine ⟨_, rfl, hb6, ?_⟩
    intro bs w7 hw7 hbs hnd
    obtain ⟨l0, b0, h0⟩ := hbs _ List.mem_cons_self
    obtain ⟨l1, b1, h1⟩ := hbs _ (List.mem_cons_of_mem _ List.mem_cons_self)
    have hne : bs 6 ≠ bs 7 := by simpa using hnd
    clear hbs hnd
    obtain ⟨⟨q0, q1, q2, q3⟩, f0, f1, f2, f3⟩ := kept4 h0 (Below.refl _ _)
    obtain ⟨⟨q4, q5, q6, q7⟩, f4, f5, f6, f7⟩ := kept4 h1 (Below.refl _ _)
    simp only [putsF, List.foldl, putF]
    dsimp only at l0 b0 h0 l1 b1 h1 q0 q1 q2 q3 f0 f1 f2 f3 q4 q5 q6 q7 f4 f5 f6 f7
    generalize bs 6 = B0 at *
    generalize bs 7 = B1 at *
    have hu7 : Up w3 w7 := (hu3.call hb6).call hw7
    refine zrun_step rfl rfl (by go_simp; rfl) (Below.set4 hu7.out l0) ?_
    refine zrun_step rfl rfl (by go_simp; rfl) (Below.set4 (Below.set4 hu7.out l0) l1) ?_
    unfold zrun
    go_wp2_with fail
    go_meet
    have hk : ∀ k, ¬ k = B0 → ¬ k = B1 → (((((((((w7.setCell ⟨B0, 0, none⟩ (.int .i64 k4)).setCell ⟨B0, 1, none⟩ (.int .i64 n4)).setCell ⟨B0, 2, none⟩ (.string s4)).setCell ⟨B0, 3, none⟩ (.slice a4 m4 c4)).setCell ⟨B1, 0, none⟩ (.int .i64 k6)).setCell ⟨B1, 1, none⟩ (.int .i64 n6)).setCell ⟨B1, 2, none⟩ (.string s6)).setCell ⟨B1, 3, none⟩ (.slice a6 m6 c6))).heap[k]? = w7.heap[k]? := fun k h0 h1 => (set4_heap _ _ _ _ _ _ _ h1).trans (set4_heap _ _ _ _ _ _ _ h0)
    have z4 := hb4.size
    have z5 := hb5.size
    have z6 := hb6.size
    have z7 := hw7.size
    have y2 := hW2.size
    refine ⟨⟨B0, _, _, _, _, rfl, l0, (set4_heap _ _ _ _ _ _ _ hne).trans (set4_block h0), is_after hL4 (fun k g1 g2 => ?_)⟩,
      ⟨B1, _, _, _, _, rfl, l1, set4_block ((set4_heap _ _ _ _ _ _ _ (Ne.symm hne)).trans h1), is_after hL6 (fun k g1 g2 => ?_)⟩, Below.set4 (Below.set4 hu7.out l0) l1⟩
    · rw [hk k (fun e => by subst e; rcases g1 with g1 | g1 <;> first | omega | exact b0 (Or.inl (Or.inl (Or.inr ⟨g1, g2⟩)))) (fun e => by subst e; rcases g1 with g1 | g1 <;> first | omega | exact b1 (Or.inl (Or.inl (Or.inr ⟨g1, g2⟩)))), hw7.block k (by omega), hb6.block k (by omega), hW3.block k (by omega), hb5.block k (by omega), hW2.block k (by omega)]
    · rw [hk k (fun e => by subst e; rcases g1 with (g1 | g1) | g1 <;> first | omega | exact b0 (Or.inl (Or.inr g1)) | exact b0 (Or.inr ⟨g1, g2⟩)) (fun e => by subst e; rcases g1 with (g1 | g1) | g1 <;> first | omega | exact b1 (Or.inl (Or.inr g1)) | exact b1 (Or.inr ⟨g1, g2⟩)), hw7.block k (by omega)]
  case rest =>
    obtain ⟨⟨B0, k4, n4, s4, sl4, rfl, l0, h0, i0⟩, ⟨B1, k6, n6, s6, sl6, rfl, l1, h1, i1⟩, hup⟩ := hcut
    obtain ⟨_, _, _, a4, m4, c4, e3⟩ := i0.agg
    obtain ⟨_, _, _, a6, m6, c6, e4⟩ := i1.agg
    obtain rfl : sl4 = .slice a4 m4 c4 := by simp only [Value.agg.injEq, Array.mk.injEq, List.cons.injEq, and_true] at e3; exact e3.2.2.2
    obtain rfl : sl6 = .slice a6 m6 c6 := by simp only [Value.agg.injEq, Array.mk.injEq, List.cons.injEq, and_true] at e4; exact e4.2.2.2
    clear e3 e4
    have hk0 := hq0.call hup.out
    have hls := length_sizes l
    have hcs := conses_size l T
    have hsh : (conses l T).Short := conses_short l T hA2.out.1 hB2.out.1
    obtain ⟨X, lb, hX1, hX2⟩ := both_items (conses l T) (by omega) hsh
    have hX1 := Hid.mk hX1
    have hX2 := Hid.mk hX2
    have hrm := Hid.mk (fun W hW => refMakeList_any l (by omega) T (fun _ => True) a cap _ W (hl0.out.below (hk0.call hW).out) (hv0.out.below (hk0.call hW).out))
    have hcp := Hid.mk (fun S v W => copyTerm_any (conses l T) (by omega) S v W)
    have hlx := Hid.mk (hl0.out.below hk0.out)
    have hvx := Hid.mk (hv0.out.below hk0.out)
    have i1 := i1
    generalize conses l T = C at hX1 hX2 hrm hcp i1
    have i0 := Hid.mk i0
    have i1 := Hid.mk i1
    have hbc : wc.heap[w.heap.size]? = _ := (hk0.out.block _ (Array.getElem?_eq_some_iff.1 hbx).1).trans hbx
    obtain ⟨g0, g1, g2, g3⟩ := (Up.refl wc).four hbc
    have hk := Up.refl wc
    clear hcs hls hsh
    go_upto_region 8 with (first
      | (go_at_call 27; refine (hrm.out _ hk.out).mono ?_; rintro e w8 ⟨⟨v8, rfl, hL8⟩, hb⟩; obtain ⟨k8, n8, s8, a8, m8, c8, rfl⟩ := hL8.agg; have i8 := Hid.mk hL8.is; have hk := hk.call hb)
      | (go_at_call 10; refine (hcp.out _ _ _ (i8.out.below ((Below.refl _ _).alloc (Nat.le_refl _) _))).mono ?_; rintro e w9 ⟨⟨v9, rfl, hown9⟩, hb⟩; have hbx8 := (hb.block _ (by simp)).trans (new_block w8 _); have i8 := Hid.mk ((i8.out.below ((Below.refl _ _).alloc (Nat.le_refl _) _)).below hb); have hk : Up wc w9 := hk.alloc.call hb)
      | (go_at_call 28; refine (hX1.out _ _ _ hown9.lies).mono ?_; rintro e w10 ⟨⟨ax, cx, rfl, hx⟩, hb⟩; have hbx8 := (hb.block _ (Array.getElem?_eq_some_iff.1 hbx8).1).trans hbx8; have i8 := Hid.mk (i8.out.below hb); have hk : Up wc w10 := hk.call hb; obtain ⟨q0, q1, q2, q3⟩ := (Up.refl w10).four hbx8)
      | (go_at_call 29; refine (hX2.out _ _ _ i8.out).mono ?_; rintro e w11 ⟨⟨ay, cy, rfl, hy⟩, hb⟩; have hx := hx.below hb; have hbx8 := (hb.block _ (Array.getElem?_eq_some_iff.1 hbx8).1).trans hbx8; have i8 := Hid.mk (i8.out.below hb); have hk : Up wc w11 := hk.call hb))
    have e0 := (hk.out.block _ (Array.getElem?_eq_some_iff.1 h0).1).trans h0
    have e1 := (hk.out.block _ (Array.getElem?_eq_some_iff.1 h1).1).trans h1
    have e8 := hbx8
    have i0 := i0.out.below hk.out
    have i1 := i1.out.below hk.out
    have i8 := i8.out
    have hlx := Hid.mk (hlx.out.below hk.out)
    refine region_up (W := w11) (by kernel_rfl) (by kernel_rfl) (Up.refl w11) ?_
    refine quiet_value (v := .agg #[.int .i64 k4, .int .i64 n4, .string s4, .slice a4 m4 c4]) rfl (fun W h => (by obtain ⟨q0, q1, q2, q3⟩ := h.four e0; go_simp)) ?_
    simp only [Act.put, List.setIfInBounds_toArray, List.set_cons_zero, List.set_cons_succ]
    refine quiet_value (v := .slice a l.length cap) rfl (fun _ _ => rfl) ?_
    simp only [Act.put, List.setIfInBounds_toArray, List.set_cons_zero, List.set_cons_succ]
    refine quiet_call (v := .agg #[.int .i64 7, .int .i64 0, .string ⟨#[]⟩, .slice a l.length cap]) rfl (fun W => (by go_simp)) (fun W h => (tup_any a l.length cap W).mono fun e w' ⟨he, hb⟩ => ⟨he, h.call hb⟩) ?_
    simp only [Act.put, List.setIfInBounds_toArray, List.set_cons_zero, List.set_cons_succ]
    refine quiet_call (v := .bool true) rfl (fun W => (by go_simp)) (fun W h => (sameTermSelf (.mk 7 0 ⟨#[]⟩ l) _ _ _ _ W (i0.below h.out) (Lies.mk (l := l) tup_small (hlx.out.below h.out))).mono fun e w' ⟨he, hb⟩ => ⟨he, h.call hb⟩) ?_
    simp only [Act.put, List.setIfInBounds_toArray, List.set_cons_zero, List.set_cons_succ]
    refine quiet_value (v := .bool false) rfl (fun _ _ => (by go_simp)) ?_
    simp only [Act.put, List.setIfInBounds_toArray, List.set_cons_zero, List.set_cons_succ]
    refine quiet_value (v := .bool false) rfl (fun _ _ => rfl) ?_
    simp only [Act.put, List.setIfInBounds_toArray, List.set_cons_zero, List.set_cons_succ]
    refine quiet_value (v := .agg #[.int .i64 k6, .int .i64 n6, .string s6, .slice a6 m6 c6]) rfl (fun W h => (by obtain ⟨q0, q1, q2, q3⟩ := h.four e1; go_simp)) ?_
    simp only [Act.put, List.setIfInBounds_toArray, List.set_cons_zero, List.set_cons_succ]
    refine quiet_value (v := .agg #[.int .i64 k8, .int .i64 n8, .string s8, .slice a8 m8 c8]) rfl (fun W h => (by obtain ⟨q0, q1, q2, q3⟩ := h.four e8; go_simp)) ?_
    simp only [Act.put, List.setIfInBounds_toArray, List.set_cons_zero, List.set_cons_succ]
    refine quiet_call (v := .bool true) rfl (fun W => (by go_simp)) (fun W h => (sameTermSelf C _ _ _ _ W (i1.below h.out) (i8.below h.out)).mono fun e w' ⟨he, hb⟩ => ⟨he, h.call hb⟩) ?_
    simp only [Act.put, List.setIfInBounds_toArray, List.set_cons_zero, List.set_cons_succ]
    refine quiet_value (v := .bool false) rfl (fun _ _ => (by go_simp)) ?_
    simp only [Act.put, List.setIfInBounds_toArray, List.set_cons_zero, List.set_cons_succ]
    refine quiet_value (v := .bool false) rfl (fun _ _ => rfl) ?_
    simp only [Act.put, List.setIfInBounds_toArray, List.set_cons_zero, List.set_cons_succ]
    refine quiet_value (v := .bool false) rfl (fun _ _ => rfl) ?_
    simp only [Act.put, List.setIfInBounds_toArray, List.set_cons_zero, List.set_cons_succ]
    refine quiet_value (v := .slice ax X.length cx) rfl (fun _ _ => rfl) ?_
    simp only [Act.put, List.setIfInBounds_toArray, List.set_cons_zero, List.set_cons_succ]
    refine quiet_value (v := .slice ay X.length cy) rfl (fun _ _ => rfl) ?_
    simp only [Act.put, List.setIfInBounds_toArray, List.set_cons_zero, List.set_cons_succ]
    refine quiet_call (v := .bool true) rfl (fun W => (by go_simp)) (fun W h => (sameAllSelf X _ _ _ _ _ _ W (hx.below h.out) (hy.below h.out)).mono fun e w' ⟨he, hb⟩ => ⟨he, h.call hb⟩) ?_
    simp only [Act.put, List.setIfInBounds_toArray, List.set_cons_zero, List.set_cons_succ]
    refine quiet_value (v := .bool false) rfl (fun _ _ => (by go_simp)) ?_
    simp only [Act.put, List.setIfInBounds_toArray, List.set_cons_zero, List.set_cons_succ]
    refine quiet_value (v := .bool false) rfl (fun _ _ => rfl) ?_
    simp only [Act.put, List.setIfInBounds_toArray, List.set_cons_zero, List.set_cons_succ]
    refine quiet_value (v := .bool false) rfl (fun _ _ => rfl) ?_
    simp only [Act.put, List.setIfInBounds_toArray, List.set_cons_zero, List.set_cons_succ]
    refine quiet_value (v := .bool lb) rfl (fun _ _ => rfl) ?_
    simp only [Act.put, List.setIfInBounds_toArray, List.set_cons_zero, List.set_cons_succ]
    refine quiet_value (v := .bool lb) rfl (fun _ _ => rfl) ?_
    simp only [Act.put, List.setIfInBounds_toArray, List.set_cons_zero, List.set_cons_succ]
    refine quiet_value (v := .bool false) rfl (fun _ _ => (by go_simp)) ?_
    simp only [Act.put, List.setIfInBounds_toArray, List.set_cons_zero, List.set_cons_succ]
    refine quiet_value (v := .bool false) rfl (fun _ _ => rfl) ?_
    simp only [Act.put, List.setIfInBounds_toArray, List.set_cons_zero, List.set_cons_succ]
    refine wpQuiet_nil ?_
    intro w12 hw12
    have hz12 : Hid (∀ W, Up w12 W → Below w.heap.size w W) := Hid.mk (fun W h => hret.out _ (hk0.call (hk.call (hw12.call h.out).out).out))
    have ht12 := ht.below (hz12.out _ (Up.refl _))
    have hin12 := hin.out.below ((hup.call hk.out).call hw12.out).out
    have hl12 := hlx.out.below hw12.out
    have hk := Up.refl w12
    have hs3 : s.size ≤ 281474976710656 := by omega
    clear hX1 hX2 hrm hcp e0 e1 e8 i0 i1 i8 hx hy hbx8 q0 q1 q2 q3 g0 g1 g2 g3
    go_wp2_with (first
      | (go_at_call 31; refine (makeInt_any n _).mono ?_; rintro e x1 ⟨rfl, hb⟩; have hk := hk.call hb)
      | (go_at_call 20; refine (num_any n _).mono ?_; rintro e x2 ⟨rfl, hb⟩; have hk := hk.call hb)
      | (go_at_call 32; refine (makeAtom_any s _ hs3).mono ?_; rintro e x3 ⟨rfl, hb⟩; have hk := hk.call hb)
      | (go_at_call 33; refine (sym_any s _).mono ?_; rintro e x4 ⟨rfl, hb⟩; have hk := hk.call hb)
      | (go_at_call 17; have g := m1; refine (sameTermSelf (.sym s) _ _ _ _ _ (sym_is _ (fun _ => True) s hs3) (sym_is _ (fun _ => True) s hs3)).mono ?_; rintro e x6 ⟨rfl, hb⟩; have hk := hk.call hb)
      | (go_at_call 17; refine (sameTermSelf (.num n) _ _ _ _ _ (num_is _ (fun _ => True) n n0 n1) (num_is _ (fun _ => True) n n0 n1)).mono ?_; rintro e x5 ⟨rfl, hb⟩; have hk := hk.call hb; have m1 := True.intro)
      | (go_at_call 30; refine (sameAllSelf l _ _ _ _ _ _ _ (hin12.below hk.out) (hl12.below hk.out)).mono ?_; rintro e x7 ⟨rfl, hb⟩; have hk := hk.call hb)
      | (go_at_call 18; refine (awake_any _ (ht12.below hk.out)).mono ?_; rintro e x8 ⟨rfl, hb⟩; have hk := hk.call hb))
    go_ret
    exact ⟨rfl, hz12.out _ hk⟩

end Go.Proofs.YtnpnbonodkpkdaaDoor
