/-
  TextKnown: the chapter's examples are answered as it says.
-/
import Derived.Test.YtnnoclddemackaaGreatDoorZTextRg
import Derived.Test.YtnnoclddemackaaGreatDoorZKitRegion
import Derived.Test.YtnnoclddemackaaGreatDoorZTermChecks2
namespace Go.Proofs.YtnnoclddemackaaGreatDoor
open Go.RowKit Go.Deep

abbrev ex1 : Tm := conses [.num 1, .num 2] .nil
abbrev ex2 : Tm := .sym ⟨#[105, 116, 39, 115]⟩
abbrev ex3 : Tm := .sym ⟨#[10]⟩
abbrev ex4 : Tm := .sym ⟨#[101, 110, 100]⟩
abbrev ex5 : Tm := .mk 6 7 ⟨#[]⟩ []
abbrev ex6 : Tm := .mk 5 2 ⟨#[]⟩ [.num 1]
abbrev ex7 : Tm := .mk 3 5 ⟨#[]⟩ []
abbrev ex8 : Tm := .tup [.sym ⟨#[97]⟩, .num 1]
abbrev ex9 : Tm := .sym ⟨#[]⟩
theorem ex1_s (w : World) (hw : Wld w) (v : Value) (hv : Is w ex1 v) : Calls Tryz.prog 17 #[v, .string ⟨#[91, 49, 44, 50, 93]⟩] w fun e w' => e = .returned (.bool true) ∧ Below w.heap.size w w' := says_lit ex1 _ (by simp [ex1, conses, Tm.num, Tm.nil, Tm.size_mk, sizes]) (by kernel_rfl) (by kernel_rfl) v w hv hw
theorem sym_says (s : ByteArray) (x : Array UInt8) (hc : (Tm.sym s).check = 0) (hx : (Tm.sym s).text = x.toList) (hs : s.size ≤ 64) (w : World) (hw : Wld w) : Calls Tryz.prog 17 #[.agg #[.int .i64 2, .int .i64 0, .string s, .slice none 0 0], .string ⟨x⟩] w fun e w' => e = .returned (.bool true) ∧ Below w.heap.size w w' :=
  says_lit (.sym s) x (by simp [Tm.sym, Tm.size_mk, sizes]) hc hx _ w (sym_is w (fun _ => True) s (by omega)) hw
theorem ex2_s (w : World) (hw : Wld w) : Calls Tryz.prog 17 #[.agg #[.int .i64 2, .int .i64 0, .string ⟨#[105, 116, 39, 115]⟩, .slice none 0 0], .string ⟨#[39, 105, 116, 92, 39, 115, 39]⟩] w fun e w' => e = .returned (.bool true) ∧ Below w.heap.size w w' := sym_says _ _ (by kernel_rfl) (by kernel_rfl) (by decide) w hw
theorem ex3_s (w : World) (hw : Wld w) : Calls Tryz.prog 17 #[.agg #[.int .i64 2, .int .i64 0, .string ⟨#[10]⟩, .slice none 0 0], .string ⟨#[39, 92, 120, 48, 97, 39]⟩] w fun e w' => e = .returned (.bool true) ∧ Below w.heap.size w w' := sym_says _ _ (by kernel_rfl) (by kernel_rfl) (by decide) w hw
theorem ex4_s (w : World) (hw : Wld w) : Calls Tryz.prog 17 #[.agg #[.int .i64 2, .int .i64 0, .string ⟨#[101, 110, 100]⟩, .slice none 0 0], .string ⟨#[39, 101, 110, 100, 39]⟩] w fun e w' => e = .returned (.bool true) ∧ Below w.heap.size w w' := sym_says _ _ (by kernel_rfl) (by kernel_rfl) (by decide) w hw
theorem leaf_is (w : World) (k n : Int) (hk : 0 ≤ k ∧ k ≤ 9) (hn : 0 ≤ n ∧ n ≤ 100) : Is w (.mk k n ⟨#[]⟩ []) (.agg #[.int .i64 k, .int .i64 n, .string ⟨#[]⟩, .slice none 0 0]) := Lies.mk (l := []) (small_of hk.1 hk.2 (by omega) (by omega) size_empty) (lst_nil _ _)
theorem ex5_s (w : World) (hw : Wld w) : Calls Tryz.prog 17 #[.agg #[.int .i64 6, .int .i64 7, .string ⟨#[]⟩, .slice none 0 0], .string ⟨#[60, 48, 46, 55, 46, 48, 62]⟩] w fun e w' => e = .returned (.bool true) ∧ Below w.heap.size w w' :=
  says_lit ex5 _ (by simp [ex5, Tm.size_mk, sizes]) (by kernel_rfl) (by kernel_rfl) _ w (leaf_is w 6 7 (by omega) (by omega)) hw
theorem ex7_s (w : World) (hw : Wld w) : Calls Tryz.prog 17 #[.agg #[.int .i64 3, .int .i64 5, .string ⟨#[]⟩, .slice none 0 0], .string ⟨#[35, 82, 101, 102, 60, 53, 62]⟩] w fun e w' => e = .returned (.bool true) ∧ Below w.heap.size w w' :=
  says_lit ex7 _ (by simp [ex7, Tm.size_mk, sizes]) (by kernel_rfl) (by kernel_rfl) _ w (leaf_is w 3 5 (by omega) (by omega)) hw
theorem ex6_s (w : World) (hw : Wld w) (b : Nat) (ty : TypeId) (hb : w.heap[b]? = some (.cells #[.int .i64 1, .int .i64 1, .string ⟨#[]⟩, .slice none 0 0] ty)) : Calls Tryz.prog 17 #[.agg #[.int .i64 5, .int .i64 2, .string ⟨#[]⟩, .slice (some ⟨b, 0, none⟩) 1 1], .string ⟨#[35, 70, 117, 110, 60, 50, 44, 49, 62]⟩] w fun e w' => e = .returned (.bool true) ∧ Below w.heap.size w w' :=
  says_lit ex6 _ (by simp [ex6, Tm.num, Tm.size_mk, sizes]) (by kernel_rfl) (by kernel_rfl) _ w (Lies.mk (l := [.num 1]) (small_of (by omega) (by omega) (by omega) (by omega) size_empty) (lst1 (S := fun _ => True) hb trivial (num_is _ _ 1 (by omega) (by omega)))) hw
theorem no_A : ∀ T, parse true 4 [39, 97, 39] ≠ some (T, []) := no_of (by rw [show ((parse true 4 [39, 97, 39]).map fun p => p.2.isEmpty) = none by kernel_rfl]; simp)
theorem ref_A (w : World) (hw : Wld w) : Calls Tryz.prog 24 #[.string ⟨#[39, 97, 39]⟩] w fun e w' => e = .returned (.bool true) ∧ Below w.heap.size w w' :=
  refused_lit #[39, 97, 39] (by simp) no_A w hw
theorem no_B : ∀ T, parse true 3 [48, 49] ≠ some (T, []) := no_of (by rw [show ((parse true 3 [48, 49]).map fun p => p.2.isEmpty) = none by kernel_rfl]; simp)
theorem ref_B (w : World) (hw : Wld w) : Calls Tryz.prog 24 #[.string ⟨#[48, 49]⟩] w fun e w' => e = .returned (.bool true) ∧ Below w.heap.size w w' :=
  refused_lit #[48, 49] (by simp) no_B w hw
theorem no_C : ∀ T, parse true 8 [91, 49, 124, 91, 50, 93, 93] ≠ some (T, []) := no_of (by rw [show ((parse true 8 [91, 49, 124, 91, 50, 93, 93]).map fun p => p.2.isEmpty) = none by kernel_rfl]; simp)
theorem ref_C (w : World) (hw : Wld w) : Calls Tryz.prog 24 #[.string ⟨#[91, 49, 124, 91, 50, 93, 93]⟩] w fun e w' => e = .returned (.bool true) ∧ Below w.heap.size w w' :=
  refused_lit #[91, 49, 124, 91, 50, 93, 93] (by simp) no_C w hw
theorem read_lit (x : Array UInt8) (T : Tm) (hl : x.size ≤ 1000) (hx : parse true (x.size + 1) x.toList = some (T, [])) (hc : T.check ≠ 3) (w : World) (hw : Wld w) :
    Calls Tryz.prog 15 #[.string ⟨x⟩] w fun e w' => (∃ v, e = .returned (.tuple #[v, .int .i64 0]) ∧ Is w' T v) ∧ Below w.heap.size w w' := by
  have := read_yes x.toList _ (by simp; omega) (pot_len x.toList) (by simp; omega) T hx hc w hw
  rw [tx_lit] at this
  exact this.mono fun e w' ⟨⟨v, he, hL⟩, hb⟩ => ⟨⟨v, he, hL.is⟩, hb⟩
theorem read_A (w : World) (hw : Wld w) : Calls Tryz.prog 15 #[.string ⟨#[123, 97, 44, 49, 125]⟩] w fun e w' => (∃ v, e = .returned (.tuple #[v, .int .i64 0]) ∧ Is w' ex8 v) ∧ Below w.heap.size w w' :=
  read_lit #[123, 97, 44, 49, 125] ex8 (by simp) (by kernel_rfl) (by rw [show ex8.check = 0 by kernel_rfl]; decide) w hw
theorem read_B (w : World) (hw : Wld w) : Calls Tryz.prog 15 #[.string ⟨#[91, 93]⟩] w fun e w' => (∃ v, e = .returned (.tuple #[v, .int .i64 0]) ∧ Is w' .nil v) ∧ Below w.heap.size w w' :=
  read_lit #[91, 93] .nil (by simp) (by kernel_rfl) (by rw [show Tm.nil.check = 0 by kernel_rfl]; decide) w hw
theorem read_C (w : World) (hw : Wld w) : Calls Tryz.prog 15 #[.string ⟨#[39, 39]⟩] w fun e w' => (∃ v, e = .returned (.tuple #[v, .int .i64 0]) ∧ Is w' ex9 v) ∧ Below w.heap.size w w' :=
  read_lit #[39, 39] ex9 (by simp) (by kernel_rfl) (by rw [show ex9.check = 0 by kernel_rfl]; decide) w hw

set_option maxRecDepth 100000 in
set_option maxHeartbeats 4000000 in
theorem lawKnown5 (w : World) (hw : Wld w) : Calls Tryz.prog 5 #[] w fun e w' => e = .returned (.bool true) ∧ Below w.heap.size w w' := by
  have HW := Hid.mk hw
  clear hw
  go_enter Tryz.func5, Tryz.ntmps5
  go_wp2_with (first
    | (go_at_call 14; ((with_reducible refine (awake5_any _ HW.out).mono ?_); rintro e w0 ⟨rfl, hb⟩; have u0 : Up w w0 := (Up.refl w).call hb; have U0 := Hid.mk u0; clear hb u0))
    | (go_at_call 19; have g := U13; ((with_reducible refine (n5_any 1 _).mono ?_); rintro e w14 ⟨rfl, hb⟩; have U14 := Hid.mk (U13.out.call hb); clear hb))
    | (go_at_call 19; have g := U1; ((with_reducible refine (n5_any 2 _).mono ?_); rintro e w2 ⟨rfl, hb⟩; have U2 := Hid.mk (U1.out.call hb); clear hb))
    | (go_at_call 19; ((with_reducible refine (n5_any 1 _).mono ?_); rintro e w1 ⟨rfl, hb⟩; have U1 := Hid.mk (U0.out.call hb); clear hb))
    | (go_at_call 20; ((with_reducible refine (none_any _).mono ?_); rintro e w3 ⟨rfl, hb⟩; have U3 := Hid.mk (U2.out.alloc.call hb); have C3 := Hid.mk ((hb.block _ (by simp)).trans (new_block w2 _)); clear hb))
    | (go_at_call 18; ((with_reducible refine (c5_two (.num 1) (.num 2) .nil _ _ _ _ (lst2 (S := fun _ => True) C3.out trivial (num_is _ _ 1 (by omega) (by omega)) (num_is _ _ 2 (by omega) (by omega))) (nil_is _ _)).mono ?_); rintro e w4 ⟨⟨u, rfl, hL⟩, hb⟩; have L4 := Hid.mk hL; have U4 := Hid.mk (U3.out.call hb); clear hb hL))
    | (go_at_call 17; ((with_reducible refine (ex1_s _ (HW.out.next U4.out.out) _ L4.out).mono ?_); rintro e w5 ⟨rfl, hb⟩; have U5 := Hid.mk (U4.out.call hb); clear hb))
    | (go_at_call 21; ((with_reducible refine (s5_any ⟨#[105, 116, 39, 115]⟩ _).mono ?_); rintro e w6 ⟨rfl, hb⟩; have U6 := Hid.mk (U5.out.call hb); clear hb))
    | (go_at_call 17; ((with_reducible refine (ex2_s _ (HW.out.next U6.out.out)).mono ?_); rintro e w7 ⟨rfl, hb⟩; have U7 := Hid.mk (U6.out.call hb); clear hb))
    | (go_at_call 21; ((with_reducible refine (s5_any ⟨#[10]⟩ _).mono ?_); rintro e w8 ⟨rfl, hb⟩; have U8 := Hid.mk (U7.out.call hb); clear hb))
    | (go_at_call 17; ((with_reducible refine (ex3_s _ (HW.out.next U8.out.out)).mono ?_); rintro e w9 ⟨rfl, hb⟩; have U9 := Hid.mk (U8.out.call hb); clear hb))
    | (go_at_call 21; ((with_reducible refine (s5_any ⟨#[101, 110, 100]⟩ _).mono ?_); rintro e w10 ⟨rfl, hb⟩; have U10 := Hid.mk (U9.out.call hb); clear hb))
    | (go_at_call 17; ((with_reducible refine (ex4_s _ (HW.out.next U10.out.out)).mono ?_); rintro e w11 ⟨rfl, hb⟩; have U11 := Hid.mk (U10.out.call hb); clear hb))
    | (go_at_call 17; ((with_reducible refine (ex5_s _ (HW.out.next U11.out.out)).mono ?_); rintro e w12 ⟨rfl, hb⟩; have U13 := Hid.mk (U11.out.call hb); clear hb))
    | (go_at_call 17; ((with_reducible refine (ex6_s _ (HW.out.next U14.out.alloc.out) _ _ (new_block _ _)).mono ?_); rintro e w15 ⟨rfl, hb⟩; have U15 := Hid.mk (U14.out.alloc.call hb); clear hb))
    | (go_at_call 17; ((with_reducible refine (ex7_s _ (HW.out.next U15.out.out)).mono ?_); rintro e w16 ⟨rfl, hb⟩; have U16 := Hid.mk (U15.out.call hb); clear hb))
    | (go_at_call 15; ((with_reducible refine (read_A _ (HW.out.next U16.out.out)).mono ?_); rintro e w17 ⟨⟨v1, rfl, hL⟩, hb⟩; obtain ⟨k1, m1, z1, a1, l1, p1, rfl⟩ := hL.agg; have U17 := Hid.mk (U16.out.call hb); have L17 := Hid.mk hL; clear hb hL))
    | (go_at_call 15; ((with_reducible refine (read_B _ (HW.out.next U17.out.alloc.out)).mono ?_); rintro e w18 ⟨⟨v2, rfl, hL⟩, hb⟩; obtain ⟨k2, m2, z2, a2, l2, p2, rfl⟩ := hL.agg; have U18 := Hid.mk (U17.out.alloc.call hb); have L18 := Hid.mk hL; have L17b := Hid.mk (L17.out.below (((Below.refl _ _).alloc (Nat.le_refl _) (.cells #[.int .i64 k1, .int .i64 m1, .string z1, .slice a1 l1 p1] 24)).trans (hb.mono (by simp)))); have B18 := Hid.mk ((hb.block _ (by simp)).trans (new_block w17 _)); clear hb hL))
    | (go_at_call 15; ((with_reducible refine (read_C _ (HW.out.next U18.out.alloc.out)).mono ?_); rintro e w19 ⟨⟨v3, rfl, hL⟩, hb⟩; obtain ⟨k3, m3, z3, a3, l3, p3, rfl⟩ := hL.agg; have U19 := Hid.mk (U18.out.alloc.call hb); have L19 := Hid.mk hL; have hbb := (((Below.refl _ w18).alloc (Nat.le_refl _) (.cells #[.int .i64 k2, .int .i64 m2, .string z2, .slice a2 l2 p2] 24)).trans (hb.mono (by simp))); have L17c := Hid.mk (L17b.out.below hbb); have L18b := Hid.mk (L18.out.below hbb); have B18b := Hid.mk ((hbb.block _ (Array.getElem?_eq_some_iff.1 B18.out).1).trans B18.out); have B19 := Hid.mk ((hb.block _ (by simp)).trans (new_block w18 _)); clear hb hL hbb)))
  obtain ⟨W, hW⟩ : ∃ W, w19.alloc (.cells #[.int .i64 k3, .int .i64 m3, .string z3, .slice a3 l3 p3] 24) = W := ⟨_, rfl⟩
  have hu : Up w19 W := by rw [← hW]; exact (Up.refl _).alloc
  have b3 : W.heap[w19.heap.size]? = some (.cells #[.int .i64 k3, .int .i64 m3, .string z3, .slice a3 l3 p3] 24) := by rw [← hW]; exact new_block _ _
  have b1 := (hu.out.block _ (Array.getElem?_eq_some_iff.1 B18b.out).1).trans B18b.out
  have b2 := (hu.out.block _ (Array.getElem?_eq_some_iff.1 B19.out).1).trans B19.out
  have l1w := Hid.mk (L17c.out.below hu.out)
  have l2w := L18b.out.below hu.out
  have l3w := Hid.mk (L19.out.below hu.out)
  have UW := Hid.mk (U19.out.call hu.out)
  have HWW := Hid.mk (HW.out.next UW.out.out)
  obtain ⟨_, _, h2, _, _⟩ := l2w.out
  simp only [Value.agg.injEq, Array.mk.injEq, List.cons.injEq, Value.int.injEq, true_and] at h2
  obtain ⟨rfl, _⟩ := h2
  have e8 : W.cell? ⟨w18.heap.size, 0, none⟩ = some (.int .i64 8) := by
    obtain ⟨⟨c0, _⟩, _⟩ := kept4 b2 (Below.refl _ _)
    exact c0
  rw [hW]
  clear hW hu
  refine wp_region_held (S := Up W) (by kernel_rfl) ?_
  refine chain_take (i := 0) (d := 54) (v := .bool true) rfl rfl (by kernel_rfl) (by kernel_rfl) (by kernel_rfl) rfl (fun _ _ => rfl) (fun _ _ _ h => h) (Up.refl W).drew ?_
  simp only [Act.put, List.setIfInBounds_toArray, List.set_cons_zero, List.set_cons_succ]
  refine chain_take (i := 1) (d := 55) (v := .bool true) rfl rfl (by kernel_rfl) (by kernel_rfl) (by kernel_rfl) rfl (fun _ _ => rfl) (fun _ _ _ h => h) (Up.refl W).drew ?_
  simp only [Act.put, List.setIfInBounds_toArray, List.set_cons_zero, List.set_cons_succ]
  refine chain_take (i := 2) (d := 56) (v := .bool true) rfl rfl (by kernel_rfl) (by kernel_rfl) (by kernel_rfl) rfl (fun _ _ => rfl) (fun _ _ _ h => h) (Up.refl W).drew ?_
  simp only [Act.put, List.setIfInBounds_toArray, List.set_cons_zero, List.set_cons_succ]
  refine chain_take (i := 3) (d := 57) (v := .bool true) rfl rfl (by kernel_rfl) (by kernel_rfl) (by kernel_rfl) rfl (fun _ _ => rfl) (fun _ _ _ h => h) (Up.refl W).drew ?_
  simp only [Act.put, List.setIfInBounds_toArray, List.set_cons_zero, List.set_cons_succ]
  refine chain_take (i := 4) (d := 58) (v := .bool true) rfl rfl (by kernel_rfl) (by kernel_rfl) (by kernel_rfl) rfl (fun _ _ => rfl) (fun _ _ _ h => h) (Up.refl W).drew ?_
  simp only [Act.put, List.setIfInBounds_toArray, List.set_cons_zero, List.set_cons_succ]
  refine chain_take (i := 5) (d := 59) (v := .int .i64 0) rfl rfl (by kernel_rfl) (by kernel_rfl) (by kernel_rfl) rfl (fun _ _ => rfl) (fun _ _ _ h => h) (Up.refl W).drew ?_
  simp only [Act.put, List.setIfInBounds_toArray, List.set_cons_zero, List.set_cons_succ]
  refine chain_take (i := 6) (d := 60) (v := .bool true) rfl rfl (by kernel_rfl) (by kernel_rfl) (by kernel_rfl) rfl (fun _ _ => (by go_simp)) (fun _ _ _ h => h) (Up.refl W).drew ?_
  simp only [Act.put, List.setIfInBounds_toArray, List.set_cons_zero, List.set_cons_succ]
  refine chain_take (i := 7) (d := 61) (v := .bool true) rfl rfl (by kernel_rfl) (by kernel_rfl) (by kernel_rfl) rfl (fun _ _ => rfl) (fun _ _ _ h => h) (Up.refl W).drew ?_
  simp only [Act.put, List.setIfInBounds_toArray, List.set_cons_zero, List.set_cons_succ]
  refine chain_take (i := 8) (d := 62) (v := .bool true) rfl rfl (by kernel_rfl) (by kernel_rfl) (by kernel_rfl) rfl (fun _ _ => rfl) (fun _ _ _ h => h) (Up.refl W).drew ?_
  simp only [Act.put, List.setIfInBounds_toArray, List.set_cons_zero, List.set_cons_succ]
  refine chain_take (i := 9) (d := 63) (v := .agg #[.int .i64 k1, .int .i64 m1, .string z1, .slice a1 l1 p1]) rfl rfl (by kernel_rfl) (by kernel_rfl) (by kernel_rfl) rfl (fun W h => (by obtain ⟨q0, q1, q2, q3⟩ := h.four b1; go_simp)) (fun _ _ _ h => h) (Up.refl W).drew ?_
  simp only [Act.put, List.setIfInBounds_toArray, List.set_cons_zero, List.set_cons_succ]
  refine chain_call (i := 10) (d := 64) (f := 21) (args := #[.string ⟨#[97]⟩]) (by kernel_rfl) rfl rfl rfl (by go_simp) ?_
  refine (s5_any _ _).mono ?_
  rintro e x0 ⟨rfl, hb0⟩
  refine ⟨.agg #[.int .i64 2, .int .i64 0, .string ⟨#[97]⟩, .slice none 0 0], rfl, (Up.refl W).drew.call hb0, ?_⟩
  simp only [Act.put, List.setIfInBounds_toArray, List.set_cons_zero, List.set_cons_succ]
  have q0 : Up W x0 := (Up.refl W).drew.call hb0
  refine chain_call (i := 11) (d := 65) (f := 19) (args := #[.int .i64 1]) (by kernel_rfl) rfl rfl rfl (by go_simp) ?_
  refine (n5_any _ _).mono ?_
  rintro e x1 ⟨rfl, hb1⟩
  refine ⟨.agg #[.int .i64 1, .int .i64 1, .string ⟨#[]⟩, .slice none 0 0], rfl, q0.call hb1, ?_⟩
  simp only [Act.put, List.setIfInBounds_toArray, List.set_cons_zero, List.set_cons_succ]
  have q1 := q0.call hb1
  refine chain_value (i := 12) (d := 66) (v := .slice (some ⟨x1.heap.size, 0, none⟩) 2 2) (w' := x1.alloc (.cells #[.int .i64 2, .int .i64 0, .string ⟨#[97]⟩, .slice none 0 0, .int .i64 1, .int .i64 1, .string ⟨#[]⟩, .slice none 0 0] 24)) (by kernel_rfl) rfl rfl rfl (by go_simp) q1.alloc ?_
  simp only [Act.put, List.setIfInBounds_toArray, List.set_cons_zero, List.set_cons_succ]
  refine chain_call (i := 13) (d := 67) (f := 23) (args := #[.slice (some ⟨x1.heap.size, 0, none⟩) 2 2]) (by kernel_rfl) rfl rfl rfl (by go_simp) ?_
  refine (tup_any _ _ _ _).mono ?_
  rintro e x2 ⟨rfl, hb2⟩
  refine ⟨.agg #[.int .i64 7, .int .i64 0, .string ⟨#[]⟩, .slice (some ⟨x1.heap.size, 0, none⟩) 2 2], rfl, q1.alloc.call hb2, ?_⟩
  simp only [Act.put, List.setIfInBounds_toArray, List.set_cons_zero, List.set_cons_succ]
  have q2 : Up W x2 := q1.alloc.call hb2
  have t2 : Is x2 ex8 (.agg #[.int .i64 7, .int .i64 0, .string ⟨#[]⟩, .slice (some ⟨x1.heap.size, 0, none⟩) 2 2]) := tup_is2 (lst2 (S := fun _ => True) ((hb2.block _ (by simp)).trans (new_block x1 _)) trivial (sym_is _ _ _ (by decide)) (num_is _ _ 1 (by omega) (by omega)))
  refine chain_call (i := 14) (d := 68) (f := 22) (args := #[.agg #[.int .i64 k1, .int .i64 m1, .string z1, .slice a1 l1 p1], .agg #[.int .i64 7, .int .i64 0, .string ⟨#[]⟩, .slice (some ⟨x1.heap.size, 0, none⟩) 2 2]]) (by kernel_rfl) rfl rfl rfl (by go_simp) ?_
  refine (sameSelf ex8 (by simp [ex8, Tm.tup, Tm.sym, Tm.num, Tm.size_mk, sizes]) _ _ _ _ _ (l1w.out.below q2.out) t2).mono ?_
  rintro e x3 ⟨rfl, hb3⟩
  refine ⟨.bool true, rfl, q2.call hb3, ?_⟩
  simp only [Act.put, List.setIfInBounds_toArray, List.set_cons_zero, List.set_cons_succ]
  have q3 := q2.call hb3
  refine chain_take (i := 15) (d := 69) (v := .bool true) rfl rfl (by kernel_rfl) (by kernel_rfl) (by kernel_rfl) rfl (fun _ _ => rfl) (fun _ _ _ h => h) (q3) ?_
  simp only [Act.put, List.setIfInBounds_toArray, List.set_cons_zero, List.set_cons_succ]
  refine chain_take (i := 16) (d := 70) (v := .bool true) rfl rfl (by kernel_rfl) (by kernel_rfl) (by kernel_rfl) rfl (fun _ _ => rfl) (fun _ _ _ h => h) (q3) ?_
  simp only [Act.put, List.setIfInBounds_toArray, List.set_cons_zero, List.set_cons_succ]
  refine chain_call (i := 17) (d := 71) (f := 24) (args := #[.string ⟨#[39, 97, 39]⟩]) (by kernel_rfl) rfl rfl rfl (by go_simp) ?_
  refine (ref_A _ (HWW.out.next q3.out)).mono ?_
  rintro e x4 ⟨rfl, hb4⟩
  refine ⟨.bool true, rfl, q3.call hb4, ?_⟩
  simp only [Act.put, List.setIfInBounds_toArray, List.set_cons_zero, List.set_cons_succ]
  have q4 := q3.call hb4
  refine chain_take (i := 18) (d := 72) (v := .bool true) rfl rfl (by kernel_rfl) (by kernel_rfl) (by kernel_rfl) rfl (fun _ _ => rfl) (fun _ _ _ h => h) (q4) ?_
  simp only [Act.put, List.setIfInBounds_toArray, List.set_cons_zero, List.set_cons_succ]
  refine chain_take (i := 19) (d := 73) (v := .bool true) rfl rfl (by kernel_rfl) (by kernel_rfl) (by kernel_rfl) rfl (fun _ _ => rfl) (fun _ _ _ h => h) (q4) ?_
  simp only [Act.put, List.setIfInBounds_toArray, List.set_cons_zero, List.set_cons_succ]
  refine chain_call (i := 20) (d := 74) (f := 24) (args := #[.string ⟨#[48, 49]⟩]) (by kernel_rfl) rfl rfl rfl (by go_simp) ?_
  refine (ref_B _ (HWW.out.next q4.out)).mono ?_
  rintro e x5 ⟨rfl, hb5⟩
  refine ⟨.bool true, rfl, q4.call hb5, ?_⟩
  simp only [Act.put, List.setIfInBounds_toArray, List.set_cons_zero, List.set_cons_succ]
  have q5 := q4.call hb5
  refine chain_take (i := 21) (d := 75) (v := .bool true) rfl rfl (by kernel_rfl) (by kernel_rfl) (by kernel_rfl) rfl (fun _ _ => rfl) (fun _ _ _ h => h) (q5) ?_
  simp only [Act.put, List.setIfInBounds_toArray, List.set_cons_zero, List.set_cons_succ]
  refine chain_take (i := 22) (d := 76) (v := .bool true) rfl rfl (by kernel_rfl) (by kernel_rfl) (by kernel_rfl) rfl (fun _ _ => rfl) (fun _ _ _ h => h) (q5) ?_
  simp only [Act.put, List.setIfInBounds_toArray, List.set_cons_zero, List.set_cons_succ]
  refine chain_call (i := 23) (d := 77) (f := 24) (args := #[.string ⟨#[91, 49, 124, 91, 50, 93, 93]⟩]) (by kernel_rfl) rfl rfl rfl (by go_simp) ?_
  refine (ref_C _ (HWW.out.next q5.out)).mono ?_
  rintro e x6 ⟨rfl, hb6⟩
  refine ⟨.bool true, rfl, q5.call hb6, ?_⟩
  simp only [Act.put, List.setIfInBounds_toArray, List.set_cons_zero, List.set_cons_succ]
  have q6 := q5.call hb6
  refine chain_take (i := 24) (d := 78) (v := .bool true) rfl rfl (by kernel_rfl) (by kernel_rfl) (by kernel_rfl) rfl (fun _ _ => rfl) (fun _ _ _ h => h) (q6) ?_
  simp only [Act.put, List.setIfInBounds_toArray, List.set_cons_zero, List.set_cons_succ]
  refine chain_take (i := 25) (d := 79) (v := .bool true) rfl rfl (by kernel_rfl) (by kernel_rfl) (by kernel_rfl) rfl (fun _ _ => rfl) (fun _ _ _ h => h) (q6) ?_
  simp only [Act.put, List.setIfInBounds_toArray, List.set_cons_zero, List.set_cons_succ]
  refine chain_take (i := 26) (d := 80) (v := .int .i64 0) rfl rfl (by kernel_rfl) (by kernel_rfl) (by kernel_rfl) rfl (fun _ _ => rfl) (fun _ _ _ h => h) (q6) ?_
  simp only [Act.put, List.setIfInBounds_toArray, List.set_cons_zero, List.set_cons_succ]
  refine chain_take (i := 27) (d := 81) (v := .bool true) rfl rfl (by kernel_rfl) (by kernel_rfl) (by kernel_rfl) rfl (fun _ _ => (by go_simp)) (fun _ _ _ h => h) (q6) ?_
  simp only [Act.put, List.setIfInBounds_toArray, List.set_cons_zero, List.set_cons_succ]
  refine chain_take (i := 28) (d := 82) (v := .bool true) rfl rfl (by kernel_rfl) (by kernel_rfl) (by kernel_rfl) rfl (fun _ _ => rfl) (fun _ _ _ h => h) (q6) ?_
  simp only [Act.put, List.setIfInBounds_toArray, List.set_cons_zero, List.set_cons_succ]
  refine chain_take (i := 29) (d := 83) (v := .bool true) rfl rfl (by kernel_rfl) (by kernel_rfl) (by kernel_rfl) rfl (fun _ _ => rfl) (fun _ _ _ h => h) (q6) ?_
  simp only [Act.put, List.setIfInBounds_toArray, List.set_cons_zero, List.set_cons_succ]
  refine chain_take (i := 30) (d := 84) (v := .pointer (some ⟨w18.heap.size, 0, none⟩)) rfl rfl (by kernel_rfl) (by kernel_rfl) (by kernel_rfl) rfl (fun _ _ => (by go_simp)) (fun _ _ _ h => h) (q6) ?_
  simp only [Act.put, List.setIfInBounds_toArray, List.set_cons_zero, List.set_cons_succ]
  refine chain_take (i := 31) (d := 85) (v := .int .i64 8) rfl rfl (by kernel_rfl) (by kernel_rfl) (by kernel_rfl) rfl (fun W h => (by have u0 := cell_below h.out _ _ _ e8; go_simp)) (fun _ _ _ h => h) (q6) ?_
  simp only [Act.put, List.setIfInBounds_toArray, List.set_cons_zero, List.set_cons_succ]
  refine chain_take (i := 32) (d := 86) (v := .bool true) rfl rfl (by kernel_rfl) (by kernel_rfl) (by kernel_rfl) rfl (fun _ _ => (by go_simp)) (fun _ _ _ h => h) (q6) ?_
  simp only [Act.put, List.setIfInBounds_toArray, List.set_cons_zero, List.set_cons_succ]
  refine chain_take (i := 33) (d := 87) (v := .bool true) rfl rfl (by kernel_rfl) (by kernel_rfl) (by kernel_rfl) rfl (fun _ _ => rfl) (fun _ _ _ h => h) (q6) ?_
  simp only [Act.put, List.setIfInBounds_toArray, List.set_cons_zero, List.set_cons_succ]
  refine chain_take (i := 34) (d := 88) (v := .bool true) rfl rfl (by kernel_rfl) (by kernel_rfl) (by kernel_rfl) rfl (fun _ _ => rfl) (fun _ _ _ h => h) (q6) ?_
  simp only [Act.put, List.setIfInBounds_toArray, List.set_cons_zero, List.set_cons_succ]
  refine chain_take (i := 35) (d := 89) (v := .int .i64 0) rfl rfl (by kernel_rfl) (by kernel_rfl) (by kernel_rfl) rfl (fun _ _ => rfl) (fun _ _ _ h => h) (q6) ?_
  simp only [Act.put, List.setIfInBounds_toArray, List.set_cons_zero, List.set_cons_succ]
  refine chain_take (i := 36) (d := 90) (v := .bool true) rfl rfl (by kernel_rfl) (by kernel_rfl) (by kernel_rfl) rfl (fun _ _ => (by go_simp)) (fun _ _ _ h => h) (q6) ?_
  simp only [Act.put, List.setIfInBounds_toArray, List.set_cons_zero, List.set_cons_succ]
  refine chain_take (i := 37) (d := 91) (v := .bool true) rfl rfl (by kernel_rfl) (by kernel_rfl) (by kernel_rfl) rfl (fun _ _ => rfl) (fun _ _ _ h => h) (q6) ?_
  simp only [Act.put, List.setIfInBounds_toArray, List.set_cons_zero, List.set_cons_succ]
  refine chain_take (i := 38) (d := 92) (v := .bool true) rfl rfl (by kernel_rfl) (by kernel_rfl) (by kernel_rfl) rfl (fun _ _ => rfl) (fun _ _ _ h => h) (q6) ?_
  simp only [Act.put, List.setIfInBounds_toArray, List.set_cons_zero, List.set_cons_succ]
  refine chain_take (i := 39) (d := 93) (v := .agg #[.int .i64 k3, .int .i64 m3, .string z3, .slice a3 l3 p3]) rfl rfl (by kernel_rfl) (by kernel_rfl) (by kernel_rfl) rfl (fun W h => (by obtain ⟨q0, q1, q2, q3⟩ := h.four b3; go_simp)) (fun _ _ _ h => h) (q6) ?_
  simp only [Act.put, List.setIfInBounds_toArray, List.set_cons_zero, List.set_cons_succ]
  refine chain_call (i := 40) (d := 94) (f := 21) (args := #[.string ⟨#[]⟩]) (by kernel_rfl) rfl rfl rfl (by go_simp) ?_
  refine (s5_any _ _).mono ?_
  rintro e x7 ⟨rfl, hb7⟩
  refine ⟨.agg #[.int .i64 2, .int .i64 0, .string ⟨#[]⟩, .slice none 0 0], rfl, q6.call hb7, ?_⟩
  simp only [Act.put, List.setIfInBounds_toArray, List.set_cons_zero, List.set_cons_succ]
  have q7 := q6.call hb7
  refine chain_call (i := 41) (d := 95) (f := 22) (args := #[.agg #[.int .i64 k3, .int .i64 m3, .string z3, .slice a3 l3 p3], .agg #[.int .i64 2, .int .i64 0, .string ⟨#[]⟩, .slice none 0 0]]) (by kernel_rfl) rfl rfl rfl (by go_simp) ?_
  refine (sameSelf ex9 (by simp [ex9, Tm.sym, Tm.size_mk, sizes]) _ _ _ _ _ (l3w.out.below q7.out) (sym_is _ (fun _ => True) _ (by decide))).mono ?_
  rintro e x8 ⟨rfl, hb8⟩
  refine ⟨.bool true, rfl, q7.call hb8, ?_⟩
  simp only [Act.put, List.setIfInBounds_toArray, List.set_cons_zero, List.set_cons_succ]
  have q8 := q7.call hb8
  refine chain_take (i := 42) (d := 96) (v := .bool true) rfl rfl (by kernel_rfl) (by kernel_rfl) (by kernel_rfl) rfl (fun _ _ => rfl) (fun _ _ _ h => h) (q8) ?_
  simp only [Act.put, List.setIfInBounds_toArray, List.set_cons_zero, List.set_cons_succ]
  refine chain_take (i := 43) (d := 0) (v := .bool true) rfl rfl (by kernel_rfl) (by kernel_rfl) (by kernel_rfl) rfl (fun _ _ => rfl) (fun _ _ _ h => h) (q8) ?_
  simp only [Act.put, List.setIfInBounds_toArray, List.set_cons_zero]
  refine wpAnyH_done (by kernel_rfl) ?_ _
  go_wp2
  go_ret
  exact ⟨rfl, (UW.out.call q8.out).out⟩
end Go.Proofs.YtnnoclddemackaaGreatDoor
