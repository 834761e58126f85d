/-
  The document's buckets: the items of a hash.
-/
import Derived.Test.YtkijbphbibcnoaaLinRB
import Derived.Lib.AppendZerosOnto
namespace Go.Proofs.Ytkijbphbibcnoaa
open Go.RowKit Go.Deep Go.Maps Go.WideShapes

theorem filter_take {l : List It} {p : It → Bool} {i : Nat} (h : i < l.length) : (l.take (i + 1)).filter p = (l.take i).filter p ++ (if p l[i] then [l[i]] else []) := by
  rw [List.take_add_one, List.getElem?_eq_getElem h, List.filter_append]
  congr 1
  simp only [Option.toList_some, List.filter_cons, List.filter_nil]
theorem filter_take_len (l : List It) (p : It → Bool) (i : Nat) : ((l.take i).filter p).length ≤ l.length := by
  have h1 := List.length_filter_le p (l.take i)
  rw [List.length_take] at h1
  omega

set_option maxHeartbeats 4000000 in
set_option maxRecDepth 100000 in
theorem chainR_any (q least : Nat) (S : Nat → Prop) (B : Bks) (h : Nat) (w : World) (hb : Rb w q least S B) (hh : h < 4294967296) (h1 : 1 ≤ B.length) (h2 : B.length ≤ 1000000) (hu : szB B ≤ 100000) :
    Calls Try.prog 30 #[.pointer (some ⟨q, 0, none⟩), .int .u32 h] w fun e w' => ∃ u, e = .returned u ∧ Its w' u (chainB B h) ∧ Below w.heap.size w w' := by
  obtain ⟨v, hb⟩ := hb
  obtain ⟨c0, c1, f1⟩ := hb.cells
  have hlt := ofB_lt h1 h
  obtain ⟨g, cap, a', c, rfl, _, d0, _, hrow⟩ := hb.at_ hlt
  have hln := rowB_len_le B (ofB B h)
  have ho := Hid.mk (fun (W : World) (hW : Up w W) => ofR_up (hb := Rb.up ⟨_, hb⟩ hW.out) hh h1 (by omega) (n := ofB B h) rfl)
  rw [← rowB_lt hlt] at d0 hrow
  unfold chainB
  generalize ofB B h = I at *
  obtain ⟨R, hR⟩ : ∃ R, rowB B I = R := ⟨_, rfl⟩
  rw [hR] at d0 hrow hln ⊢
  have hcel : CelT w R a' := by
    obtain ⟨a2, c2, e, h⟩ := hrow.slice
    simp only [Value.slice.injEq] at e
    obtain ⟨rfl, _, _⟩ := e
    exact h
  have HCEL := Hid.mk hcel
  have HLN := Hid.mk (show R.length ≤ 100000 by omega)
  have hli : (I : Int) < B.length := by omega
  clear hb hlt hln hrow hR hcel h1 h2 hu hh
  go_enter Try.func30, Try.ntmps30
  go_upto_region 2 with fail
  refine region_up (W := w) (by kernel_rfl) (by kernel_rfl) (Up.refl _) ?_
  refine quiet_value (v := .pointer (some ⟨q, 0, none⟩)) rfl (fun _ _ => rfl) ?_
  simp only [Act.put, List.setIfInBounds_toArray, List.set_cons_zero, List.set_cons_succ]
  refine quiet_value (v := .pointer (some ⟨q, 0, none⟩)) rfl (fun _ _ => (by go_simp)) ?_
  simp only [Act.put, List.setIfInBounds_toArray, List.set_cons_zero, List.set_cons_succ]
  refine quiet_value (v := .pointer (some ⟨q, 1, none⟩)) rfl (fun _ _ => (by go_simp)) ?_
  simp only [Act.put, List.setIfInBounds_toArray, List.set_cons_zero, List.set_cons_succ]
  refine quiet_value (v := .slice (some ⟨g, 0, none⟩) B.length cap) rfl (fun W h => (by have u0 := cell_below h.out _ _ _ c1; go_simp)) ?_
  simp only [Act.put, List.setIfInBounds_toArray, List.set_cons_zero, List.set_cons_succ]
  refine quiet_value (v := .pointer (some ⟨q, 0, none⟩)) rfl (fun _ _ => rfl) ?_
  simp only [Act.put, List.setIfInBounds_toArray, List.set_cons_zero, List.set_cons_succ]
  refine quiet_value (v := .int .u32 h) rfl (fun _ _ => rfl) ?_
  simp only [Act.put, List.setIfInBounds_toArray, List.set_cons_zero, List.set_cons_succ]
  refine quiet_call (v := .int .i64 I) rfl (fun W => (by go_simp)) (fun W h => (ho.out W h).mono fun e w' ⟨he, hb⟩ => ⟨he, h.call hb⟩) ?_
  simp only [Act.put, List.setIfInBounds_toArray, List.set_cons_zero, List.set_cons_succ]
  refine quiet_value (v := .pointer (some ⟨g, I, none⟩)) rfl (fun _ _ => (by go_simp)) ?_
  simp only [Act.put, List.setIfInBounds_toArray, List.set_cons_zero, List.set_cons_succ]
  refine quiet_value (v := .slice a' R.length c) rfl (fun W h => (by have u0 := cell_below h.out _ _ _ d0; go_simp)) ?_
  simp only [Act.put, List.setIfInBounds_toArray, List.set_cons_zero, List.set_cons_succ]
  refine quiet_value (v := .slice a' R.length c) rfl (fun _ _ => rfl) ?_
  simp only [Act.put, List.setIfInBounds_toArray, List.set_cons_zero, List.set_cons_succ]
  refine quiet_nil ?_
  intro w1 hw1
  have HW1 := Hid.mk hw1
  have HC1 := Hid.mk (HCEL.out.up hw1.out)
  clear hw1 c0 c1 d0 f1
  go_wp2
  go_loopw [5, 7] (fun u0 ii wr => ∃ (i : Nat) (uu : Value), i ≤ R.length ∧ uu = u0 ∧ ii = .int .i64 i ∧ Hid (App w1 wr uu ((R.take i).filter (isH h)))) (fun _ ii _ => R.length - (intOf ii).toNat)
  case atStart => exact ⟨0, _, Nat.zero_le _, rfl, rfl, Hid.mk ⟨Ow.nil _, fun g hg => (by cases hg), Below.refl _ _⟩⟩
  case round =>
    obtain ⟨i, uu, hi, rfl, rfl, hA⟩ := hrel
    by_cases hlt : i < R.length
    · obtain ⟨b, o, rfl, x0, x1⟩ := CelT.item (HC1.out.up hA.out.below) hlt
      have hft := filter_take (p := isH h) hlt
      have hfl := filter_take_len R (isH h) i
      have hwi : IntKind.i64.wrap ((i : Int) + 1) = ((i + 1 : Nat) : Int) := by have := HLN.out; rw [wrap_id (by omega) (by omega)]; omega
      have HL := Hid.mk hlt
      have hil : (i : Int) < R.length := by omega
      obtain ⟨X, hX⟩ : ∃ X, R[i]'hlt = X := ⟨_, rfl⟩
      rw [hX] at x0 x1 hft
      obtain ⟨X0, X1⟩ := X
      simp only at x0 x1
      by_cases he : X0 = h
      · have e1 : ((X0 : Int) == (h : Int)) = true := by simp [he]
        rw [if_pos (by simp [isH, he])] at hft
        obtain ⟨u2, w2, hr2, hi2, hg2, ho2⟩ := item_append (wr.alloc (.cells #[.int .u32 X0, .int .i64 X1] 54)) uu _ (X0, X1) (hA.out.its.up (Up.alloc (Up.refl wr)).out) wr.heap.size (new_block _ _) (by have := HLN.out; omega)
        have hA2 := Hid.mk ((hA.out.up (Up.alloc (Up.refl wr)).out).more hi2 hg2 ho2)
        rw [← hft] at hA2
        have hr2 := hr2
        subst he
        clear hlt hX hft hfl hi2 hg2 ho2
        go_wp2_with (at_builtin; go_loud (refine Lib.wpList_append_run _ rfl _ _ _ _ rfl _ _ rfl rfl _ _ hr2 ?_))
        go_roundw
        case rel => exact ⟨i + 1, _, HL.out, rfl, by first | rfl | go_num, hA2⟩
        case measure => have h1 : i < R.length := HL.out; simp [intOf]; omega
      · have e1 : ((X0 : Int) == (h : Int)) = false := by simp; omega
        have hXh : ¬ (X0 : Int) = h := by omega
        rw [if_neg (by simp [isH, he]), List.append_nil] at hft
        have HF := Hid.mk hft
        clear hlt hX hft hfl he x1
        go_wp2
        go_roundw
        case rel => exact ⟨i + 1, _, HL.out, rfl, by first | rfl | go_num, by rw [HF.out]; exact hA⟩
        case measure => have h1 : i < R.length := HL.out; simp [intOf]; omega
    · obtain rfl : i = R.length := by omega
      clear hlt
      have := hA.out
      rw [List.take_length] at this
      have HE := Hid.mk this
      clear this
      go_wp2
      go_ret
      exact ⟨_, rfl, HE.out.its, HW1.out.out.trans (HE.out.below.mono HW1.out.out.size)⟩
end Go.Proofs.Ytkijbphbibcnoaa
