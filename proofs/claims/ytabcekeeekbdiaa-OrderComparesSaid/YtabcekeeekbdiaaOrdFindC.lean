/-
  slices' BinarySearchFunc at terms, package order's Find.
-/
import Derived.Test.YtabcekeeekbdiaaOrdCmp
import Derived.Test.YtabcekeeekbdiaaOrdSym
import Derived.Test.YtabcekeeekbdiaaOrdFind
namespace Go.Proofs.Ytabcekeeekbdiaa
open Go.RowKit Go.Deep

theorem find_at {l : List Tm} (hs : Sorted l) (T : Tm) {i : Nat} (h1 : ∀ (_ : 0 < i) (h : i - 1 < l.length), l[i - 1].cmp T < 0) (h2 : ∀ h : i < l.length, ¬ l[i].cmp T < 0) (hi : i ≤ l.length) : findN l T = i :=
  findN_is l T i hi (fun j hj hl => cmp_le_lt (sorted_at hs (show j ≤ i - 1 by omega) (by omega)) (h1 (by omega) (by omega))) h2

set_option maxHeartbeats 2000000 in
theorem bsearch_any (l : List Tm) (hs : Sorted l) (hlen : l.length ≤ 1000000) (T : Tm) (S S' : Nat → Prop) (a : Option Addr) (cap : Nat) (v : Value) (w : World) (hl0 : Lst w S l a cap) (hv0 : Lies w S' T v) :
    Calls Try.prog 40 #[.slice a l.length cap, v, .func (.func 9) #[] #[]] w fun e w' => e = .returned (.tuple #[.int .i64 (findN l T), .bool (findB l T)]) ∧ Below w.heap.size w w' := by
  obtain ⟨k, n, s, a', m', cap', rfl⟩ := hv0.agg
  obtain ⟨W0, hW0⟩ : ∃ W0, w.alloc (.cells #[.int .i64 k, .int .i64 n, .string s, .slice a' m' cap'] 24) = W0 := ⟨_, rfl⟩
  have hu0 : Up w W0 := by rw [← hW0]; exact (Up.refl w).alloc
  have hbx : W0.heap[w.heap.size]? = some (.cells #[.int .i64 k, .int .i64 n, .string s, .slice a' m' cap'] 24) := by rw [← hW0]; exact new_block _ _
  have hl := Hid.mk (hl0.below hu0.out)
  have hv := Hid.mk (hv0.below hu0.out)
  obtain ⟨L, hLe⟩ : ∃ L, l.length = L := ⟨_, rfl⟩
  rw [hLe] at hlen ⊢
  have hLh := Hid.mk hLe
  have hsh := Hid.mk hs
  clear hl0 hv0 hLe
  go_enter Try.func40, Try.ntmps40
  go_wp2
  clear hW0
  go_loopw [9, 10] (fun ii jj wr => ∃ i j : Nat, ii = .int .i64 i ∧ jj = .int .i64 j ∧ i ≤ j ∧ j ≤ L ∧ Hid (∀ (h0 : 0 < i) (h : i - 1 < l.length), l[i - 1].cmp T < 0) ∧ Hid (∀ h : j < l.length, ¬ l[j].cmp T < 0) ∧ Up W0 wr) (fun ii jj _ => (intOf jj - intOf ii).toNat)
  case atStart => exact ⟨0, L, rfl, rfl, by omega, Nat.le_refl _, Hid.mk (fun h => by omega), Hid.mk (fun h => by have := hLh.out; omega), Up.refl _⟩
  case round =>
    obtain ⟨i, j, rfl, rfl, hij, hj, hlo, hhi, hur⟩ := hrel
    have hbr := (hur.out.block _ (Array.getElem?_eq_some_iff.1 hbx).1).trans hbx
    by_cases hlt : i < j
    · have hd : decide ((i : Int) < (j : Int)) = true := by simp; omega
      obtain ⟨c, hc⟩ : ∃ c, (i + j) / 2 = c := ⟨_, rfl⟩
      have hcl : c < l.length := by have := hLh.out; omega
      obtain ⟨b, o, rfl, _, hr⟩ := (hl.out.below hur.out).some (by omega)
      obtain ⟨k1, n1, s1, m1, a1, cap1, hT1, c0, c1, c2, c3, hli⟩ := hr.part c hcl
      have hcall := Hid.mk (fun (W : World) (hW : Up wr W) => compare_any l[c] T S S' _ _ W (hli.below hW.out) (hv.out.below (hur.call hW.out).out))
      obtain ⟨x, hxe⟩ : ∃ x, l[c].cmp T = x := ⟨_, rfl⟩
      rw [hxe] at hcall
      have hxe := Hid.mk hxe
      have hic : i ≤ c ∧ c < j := by omega
      have hdiv : ((i : Int) + (j : Int)) / 2 = (c : Int) := by omega
      have dc : (0 : Int) ≤ (c : Int) := by omega
      have dc' : (c : Int) < (L : Int) := by omega
      have hch := Hid.mk hc
      clear hT1 hli hc hr
      by_cases hx : x < 0
      · have hdx : decide (x < 0) = true := decide_eq_true hx
        go_upto_region 5 with fail
        refine region_up (W := wr) (by kernel_rfl) (by kernel_rfl) (Up.refl _) ?_
        refine quiet_value (v := .func (.func 9) #[] #[]) rfl (fun _ _ => rfl) ?_
        simp only [Act.put, List.setIfInBounds_toArray, List.set_cons_zero, List.set_cons_succ]
        refine quiet_value (v := .slice (some ⟨b, o, none⟩) L cap) rfl (fun _ _ => rfl) ?_
        simp only [Act.put, List.setIfInBounds_toArray, List.set_cons_zero, List.set_cons_succ]
        refine quiet_value (v := .int .i64 c) rfl (fun _ _ => rfl) ?_
        simp only [Act.put, List.setIfInBounds_toArray, List.set_cons_zero, List.set_cons_succ]
        refine quiet_value (v := .pointer (some ⟨b, o + c * 4, none⟩)) rfl (fun _ _ => (by go_simp)) ?_
        simp only [Act.put, List.setIfInBounds_toArray, List.set_cons_zero, List.set_cons_succ]
        refine quiet_value (v := .agg #[.int .i64 k1, .int .i64 n1, .string s1, .slice a1 m1.length cap1]) rfl (fun W h => (by have u0 := cell_below h.out _ _ _ c0; have u1 := cell_below h.out _ _ _ c1; have u2 := cell_below h.out _ _ _ c2; have u3 := cell_below h.out _ _ _ c3; go_simp)) ?_
        simp only [Act.put, List.setIfInBounds_toArray, List.set_cons_zero, List.set_cons_succ]
        refine quiet_value (v := .agg #[.int .i64 k, .int .i64 n, .string s, .slice a' m' cap']) rfl (fun W h => (by obtain ⟨q0, q1, q2, q3⟩ := h.four hbr; go_simp)) ?_
        simp only [Act.put, List.setIfInBounds_toArray, List.set_cons_zero, List.set_cons_succ]
        refine quiet_call (v := .int .i64 x) rfl (fun W => (by go_simp)) (fun W h => (hcall.out W h).mono fun e w' ⟨he, hb⟩ => ⟨he, h.call hb⟩) ?_
        simp only [Act.put, List.setIfInBounds_toArray, List.set_cons_zero, List.set_cons_succ]
        refine quiet_value (v := .bool true) rfl (fun _ _ => (by go_simp)) ?_
        simp only [Act.put, List.setIfInBounds_toArray, List.set_cons_zero, List.set_cons_succ]
        refine quiet_nil ?_
        intro w6 hw6
        go_wp2
        go_roundw
        case rel => exact ⟨c + 1, j, by go_num, rfl, by omega, hj, Hid.mk (fun h0 h => by simp only [Nat.add_sub_cancel]; rw [hxe.out]; exact hx), hhi, hur.call hw6.out⟩
        case measure => simp [intOf]; omega
      · have hdx : decide (x < 0) = false := decide_eq_false hx
        go_upto_region 5 with fail
        refine region_up (W := wr) (by kernel_rfl) (by kernel_rfl) (Up.refl _) ?_
        refine quiet_value (v := .func (.func 9) #[] #[]) rfl (fun _ _ => rfl) ?_
        simp only [Act.put, List.setIfInBounds_toArray, List.set_cons_zero, List.set_cons_succ]
        refine quiet_value (v := .slice (some ⟨b, o, none⟩) L cap) rfl (fun _ _ => rfl) ?_
        simp only [Act.put, List.setIfInBounds_toArray, List.set_cons_zero, List.set_cons_succ]
        refine quiet_value (v := .int .i64 c) rfl (fun _ _ => rfl) ?_
        simp only [Act.put, List.setIfInBounds_toArray, List.set_cons_zero, List.set_cons_succ]
        refine quiet_value (v := .pointer (some ⟨b, o + c * 4, none⟩)) rfl (fun _ _ => (by go_simp)) ?_
        simp only [Act.put, List.setIfInBounds_toArray, List.set_cons_zero, List.set_cons_succ]
        refine quiet_value (v := .agg #[.int .i64 k1, .int .i64 n1, .string s1, .slice a1 m1.length cap1]) rfl (fun W h => (by have u0 := cell_below h.out _ _ _ c0; have u1 := cell_below h.out _ _ _ c1; have u2 := cell_below h.out _ _ _ c2; have u3 := cell_below h.out _ _ _ c3; go_simp)) ?_
        simp only [Act.put, List.setIfInBounds_toArray, List.set_cons_zero, List.set_cons_succ]
        refine quiet_value (v := .agg #[.int .i64 k, .int .i64 n, .string s, .slice a' m' cap']) rfl (fun W h => (by obtain ⟨q0, q1, q2, q3⟩ := h.four hbr; go_simp)) ?_
        simp only [Act.put, List.setIfInBounds_toArray, List.set_cons_zero, List.set_cons_succ]
        refine quiet_call (v := .int .i64 x) rfl (fun W => (by go_simp)) (fun W h => (hcall.out W h).mono fun e w' ⟨he, hb⟩ => ⟨he, h.call hb⟩) ?_
        simp only [Act.put, List.setIfInBounds_toArray, List.set_cons_zero, List.set_cons_succ]
        refine quiet_value (v := .bool false) rfl (fun _ _ => (by go_simp)) ?_
        simp only [Act.put, List.setIfInBounds_toArray, List.set_cons_zero, List.set_cons_succ]
        refine quiet_nil ?_
        intro w6 hw6
        go_wp2
        go_roundw
        case rel => exact ⟨i, c, rfl, rfl, by omega, by omega, hlo, Hid.mk (fun h => by rw [hxe.out]; exact hx), hur.call hw6.out⟩
        case measure => simp [intOf]; omega
    · obtain rfl : i = j := by omega
      have hd : decide ((i : Int) < (i : Int)) = false := by simp
      have hfn := Hid.mk (find_at hsh.out T (i := i) (fun h0 h => hlo.out h0 h) (fun h => hhi.out h) (by have := hLh.out; omega))
      by_cases hiL : i < L
      · have hd1 : decide ((i : Int) < (L : Int)) = true := by simp; omega
        have hcl : i < l.length := by have := hLh.out; omega
        obtain ⟨b, o, rfl, _, hr⟩ := (hl.out.below hur.out).some (by omega)
        obtain ⟨k1, n1, s1, m1, a1, cap1, hT1, c0, c1, c2, c3, hli⟩ := hr.part i hcl
        have hcall := Hid.mk (fun (W : World) (hW : Up wr W) => compare_any l[i] T S S' _ _ W (hli.below hW.out) (hv.out.below (hur.call hW.out).out))
        have hfb := Hid.mk (findB_some hcl hfn.out)
        obtain ⟨x, hxe⟩ : ∃ x, l[i].cmp T = x := ⟨_, rfl⟩
        rw [hxe] at hcall hfb
        have dc : (0 : Int) ≤ (i : Int) := by omega
        have dc' : (i : Int) < (L : Int) := by omega
        clear hT1 hli hr hxe
        obtain ⟨y, hy⟩ : ∃ y, (x == 0) = y := ⟨_, rfl⟩
        rw [hy] at hfb
        go_upto_region 8 with fail
        refine region_up (W := wr) (by kernel_rfl) (by kernel_rfl) (Up.refl _) ?_
        refine quiet_value (v := .int .i64 i) rfl (fun _ _ => rfl) ?_
        simp only [Act.put, List.setIfInBounds_toArray, List.set_cons_zero, List.set_cons_succ]
        refine quiet_value (v := .int .i64 i) rfl (fun _ _ => rfl) ?_
        simp only [Act.put, List.setIfInBounds_toArray, List.set_cons_zero, List.set_cons_succ]
        refine quiet_value (v := .int .i64 L) rfl (fun _ _ => rfl) ?_
        simp only [Act.put, List.setIfInBounds_toArray, List.set_cons_zero, List.set_cons_succ]
        refine quiet_value (v := .bool true) rfl (fun _ _ => (by go_simp)) ?_
        simp only [Act.put, List.setIfInBounds_toArray, List.set_cons_zero, List.set_cons_succ]
        refine quiet_value (v := .bool true) rfl (fun _ _ => rfl) ?_
        simp only [Act.put, List.setIfInBounds_toArray, List.set_cons_zero, List.set_cons_succ]
        refine quiet_value (v := .func (.func 9) #[] #[]) rfl (fun _ _ => rfl) ?_
        simp only [Act.put, List.setIfInBounds_toArray, List.set_cons_zero, List.set_cons_succ]
        refine quiet_value (v := .slice (some ⟨b, o, none⟩) L cap) rfl (fun _ _ => rfl) ?_
        simp only [Act.put, List.setIfInBounds_toArray, List.set_cons_zero, List.set_cons_succ]
        refine quiet_value (v := .int .i64 i) rfl (fun _ _ => rfl) ?_
        simp only [Act.put, List.setIfInBounds_toArray, List.set_cons_zero, List.set_cons_succ]
        refine quiet_value (v := .pointer (some ⟨b, o + i * 4, none⟩)) rfl (fun _ _ => (by go_simp)) ?_
        simp only [Act.put, List.setIfInBounds_toArray, List.set_cons_zero, List.set_cons_succ]
        refine quiet_value (v := .agg #[.int .i64 k1, .int .i64 n1, .string s1, .slice a1 m1.length cap1]) rfl (fun W h => (by have u0 := cell_below h.out _ _ _ c0; have u1 := cell_below h.out _ _ _ c1; have u2 := cell_below h.out _ _ _ c2; have u3 := cell_below h.out _ _ _ c3; go_simp)) ?_
        simp only [Act.put, List.setIfInBounds_toArray, List.set_cons_zero, List.set_cons_succ]
        refine quiet_value (v := .agg #[.int .i64 k, .int .i64 n, .string s, .slice a' m' cap']) rfl (fun W h => (by obtain ⟨q0, q1, q2, q3⟩ := h.four hbr; go_simp)) ?_
        simp only [Act.put, List.setIfInBounds_toArray, List.set_cons_zero, List.set_cons_succ]
        refine quiet_call (v := .int .i64 x) rfl (fun W => (by go_simp)) (fun W h => (hcall.out W h).mono fun e w' ⟨he, hb⟩ => ⟨he, h.call hb⟩) ?_
        simp only [Act.put, List.setIfInBounds_toArray, List.set_cons_zero, List.set_cons_succ]
        refine quiet_value (v := .bool y) rfl (fun _ _ => (by go_simp)) ?_
        simp only [Act.put, List.setIfInBounds_toArray, List.set_cons_zero, List.set_cons_succ]
        refine quiet_value (v := .bool y) rfl (fun _ _ => rfl) ?_
        simp only [Act.put, List.setIfInBounds_toArray, List.set_cons_zero, List.set_cons_succ]
        refine quiet_value (v := .int .i64 i) rfl (fun _ _ => rfl) ?_
        simp only [Act.put, List.setIfInBounds_toArray, List.set_cons_zero, List.set_cons_succ]
        refine quiet_value (v := .bool y) rfl (fun _ _ => rfl) ?_
        simp only [Act.put, List.setIfInBounds_toArray, List.set_cons_zero, List.set_cons_succ]
        refine quiet_nil ?_
        intro w6 hw6
        go_wp2
        go_ret2
        exact ⟨by rw [hfn.out, hfb.out]; rfl, (hu0.call (hur.call hw6.out).out).out⟩
      · have hd1 : decide ((i : Int) < (L : Int)) = false := by simp; omega
        have hfb := Hid.mk (findB_none (l := l) (T := T) (by rw [hfn.out]; have := hLh.out; omega))
        go_upto_region 8 with fail
        refine region_up (W := wr) (by kernel_rfl) (by kernel_rfl) (Up.refl _) ?_
        refine quiet_value (v := .int .i64 i) rfl (fun _ _ => rfl) ?_
        simp only [Act.put, List.setIfInBounds_toArray, List.set_cons_zero, List.set_cons_succ]
        refine quiet_value (v := .int .i64 i) rfl (fun _ _ => rfl) ?_
        simp only [Act.put, List.setIfInBounds_toArray, List.set_cons_zero, List.set_cons_succ]
        refine quiet_value (v := .int .i64 L) rfl (fun _ _ => rfl) ?_
        simp only [Act.put, List.setIfInBounds_toArray, List.set_cons_zero, List.set_cons_succ]
        refine quiet_value (v := .bool false) rfl (fun _ _ => (by go_simp)) ?_
        simp only [Act.put, List.setIfInBounds_toArray, List.set_cons_zero, List.set_cons_succ]
        refine quiet_value (v := .bool false) rfl (fun _ _ => rfl) ?_
        simp only [Act.put, List.setIfInBounds_toArray, List.set_cons_zero, List.set_cons_succ]
        refine quiet_not rfl ?_
        simp only [Act.put, List.setIfInBounds_toArray, List.set_cons_zero, List.set_cons_succ]
        refine quiet_not rfl ?_
        simp only [Act.put, List.setIfInBounds_toArray, List.set_cons_zero, List.set_cons_succ]
        refine quiet_not rfl ?_
        simp only [Act.put, List.setIfInBounds_toArray, List.set_cons_zero, List.set_cons_succ]
        refine quiet_not rfl ?_
        simp only [Act.put, List.setIfInBounds_toArray, List.set_cons_zero, List.set_cons_succ]
        refine quiet_not rfl ?_
        simp only [Act.put, List.setIfInBounds_toArray, List.set_cons_zero, List.set_cons_succ]
        refine quiet_not rfl ?_
        simp only [Act.put, List.setIfInBounds_toArray, List.set_cons_zero, List.set_cons_succ]
        refine quiet_not rfl ?_
        simp only [Act.put, List.setIfInBounds_toArray, List.set_cons_zero, List.set_cons_succ]
        refine quiet_not rfl ?_
        simp only [Act.put, List.setIfInBounds_toArray, List.set_cons_zero, List.set_cons_succ]
        refine quiet_value (v := .bool false) rfl (fun _ _ => rfl) ?_
        simp only [Act.put, List.setIfInBounds_toArray, List.set_cons_zero, List.set_cons_succ]
        refine quiet_value (v := .int .i64 i) rfl (fun _ _ => rfl) ?_
        simp only [Act.put, List.setIfInBounds_toArray, List.set_cons_zero, List.set_cons_succ]
        refine quiet_value (v := .bool false) rfl (fun _ _ => rfl) ?_
        simp only [Act.put, List.setIfInBounds_toArray, List.set_cons_zero, List.set_cons_succ]
        refine quiet_nil ?_
        intro w6 hw6
        go_wp2
        go_ret2
        exact ⟨by rw [hfn.out, hfb.out]; rfl, (hu0.call (hur.call hw6.out).out).out⟩

theorem find_any (l : List Tm) (hs : Sorted l) (hlen : l.length ≤ 1000000) (T : Tm) (S S' : Nat → Prop) (a : Option Addr) (cap : Nat) (v : Value) (w : World) (hl0 : Lst w S l a cap) (hv0 : Lies w S' T v) :
    Calls Try.prog 20 #[.slice a l.length cap, v] w fun e w' => e = .returned (.tuple #[.int .i64 (findN l T), .bool (findB l T)]) ∧ Below w.heap.size w w' := by
  obtain ⟨k, n, s, a', m', cap', rfl⟩ := hv0.agg
  have hu0 : Up w (w.alloc (.cells #[.int .i64 k, .int .i64 n, .string s, .slice a' m' cap'] 24)) := (Up.refl w).alloc
  have hcall := Hid.mk (bsearch_any l hs hlen T S S' a cap _ _ (hl0.below hu0.out) (hv0.below hu0.out))
  clear hl0 hv0
  go_enter Try.func20, Try.ntmps20
  go_wp2_with (go_at_call 40; refine hcall.out.mono ?_; rintro e w2 ⟨rfl, hb2⟩)
  go_ret2
  exact ⟨rfl, (hu0.call hb2).out⟩

end Go.Proofs.Ytabcekeeekbdiaa
