/-
  OrderWhole: what the statement says, of every input.
-/
import Derived.Test.YtabcekeeekbdiaaOrdKnown
namespace Go.Proofs.Ytabcekeeekbdiaa
open Go.RowKit Go.Deep

theorem rising_at {l : List Tm} (h : Rising l) {i j : Nat} (hij : i < j) (hj : j < l.length) : (l[i]'(by omega)).cmp l[j] < 0 := List.pairwise_iff_getElem.1 h i j (by omega) hj hij

set_option maxRecDepth 100000 in
set_option maxHeartbeats 8000000 in
theorem lawWhole (l : List Tm) (S : Nat → Prop) (a : Option Addr) (cap : Nat) (w : World) (hl0 : Lst w S l a cap) :
    Calls Try.prog 6 #[.slice a l.length cap] w fun e w' => e = .returned (.bool true) ∧ Below w.heap.size w w' := by
  have hl := Hid.mk hl0
  have hlen : l.length ≤ 9223372036854775807 := Nat.le_trans hl0.1 hl0.2.1
  obtain ⟨L, hL⟩ : ∃ L, l.length = L := ⟨_, rfl⟩
  have hbig := Hid.mk (fun (W : World) (hW : Up w W) => largeAll_any l S a cap 300 W (hl0.below hW.out) (by omega) (by omega))
  rw [hL] at hlen hbig ⊢
  have hLh := Hid.mk hL
  clear hl0 hL
  go_enter Try.func6, Try.ntmps6
  go_upto_region 3 with (first
    | (go_at_call 5; refine (lawKnown3 _).mono ?_; rintro e w1 ⟨rfl, hb1⟩; have hu1 : Up w w1 := hb1)
    | (go_at_call 13; refine (hbig.out _ hu1).mono ?_; rintro e w2 ⟨⟨b2, rfl, hB⟩, hb2⟩; have hu2 : Up w w2 := hu1.call hb2; have hB := Hid.mk hB))
  · go_wp2
    go_ret
    exact ⟨rfl, hu2.out⟩
  have hb2f : b2 = false := by assumption
  have hss := hB.out hb2f
  subst hb2f
  have hL300 : L ≤ 300 := by have := length_sizes l; have := hLh.out; omega
  have hsz : Hid (∀ t ∈ l, t.size ≤ 1000000 ∧ t.Short) := Hid.mk (fun t ht => ⟨by have := sizes_mem ht; omega, shorts_at hss.1 t ht⟩)
  have hSl := sortT_length l
  have hUl := uniqT_length (sortT l)
  have hSs := Hid.mk (sortT_sorted l)
  have hUr := Hid.mk (uniqT_rising _ (sortT_sorted l))
  have hUh := Hid.mk (fun x (hx : x ∈ l) => uniqT_has _ (sortT_sorted l) x (sortT_mem.2 hx))
  have hcs := Hid.mk (fun t => countT_sort l t)
  have hso := Hid.mk (fun (W : World) (hW : Up w W) => sort_any l (by have := hLh.out; omega) hsz.out S a cap W (hl.out.below hW.out))
  have hun := Hid.mk (fun (W : World) (hW : Up w W) => unique_any l (by have := hLh.out; omega) hsz.out S a cap W (hl.out.below hW.out))
  rw [hLh.out] at hso hun
  obtain ⟨A, hAe⟩ : ∃ A, sortT l = A := ⟨_, rfl⟩
  rw [hAe] at hSl hUl hSs hUr hUh hcs hso hun
  obtain ⟨Bq, hBe⟩ : ∃ B, uniqT A = B := ⟨_, rfl⟩
  rw [hBe] at hUl hUr hUh hun
  have hAL : A.length = L := hSl.trans hLh.out
  rw [hAL] at hUl hso
  obtain ⟨LB, hLB⟩ : ∃ LB, Bq.length = LB := ⟨_, rfl⟩
  rw [hLB] at hUl hun
  have hALh := Hid.mk hAL
  have hLBh := Hid.mk hLB
  clear hB hss hSl hAe hBe hAL hLB hsz hb2 hb1 hbig
  refine (hso.out w2 hu2).mono ?_
  rintro e w3 ⟨⟨aa, ca, rfl, hnA⟩, hu3⟩
  have hu3 : Up w w3 := hu2.call hu3.out
  have hA3 := Hid.mk hnA.lst.is
  clear hnA hso
  go_upto_region 6 with (go_at_call 16; refine (hun.out w3 hu3).mono ?_; rintro e w4 ⟨⟨ab, cb, rfl, hnB⟩, hu4⟩; have hA4 := Hid.mk (hA3.out.below hu4.out); have hu4 : Up w w4 := hu3.call hu4.out; have hB4 := Hid.mk hnB.lst.is; clear hnB)
  clear hun hu3 hA3 hu2 hu1
  go_loopw [6] (fun ii wr => ∃ i : Nat, ii = .int .i64 i ∧ 0 < i ∧ i ≤ L + 1 ∧ Up w wr ∧ Hid (IsL wr A aa ca) ∧ Hid (IsL wr Bq ab cb)) (fun ii _ => L + 1 - (intOf ii).toNat)
  case atStart => exact ⟨1, rfl, by omega, by omega, hu4, hA4, hB4⟩
  case round =>
    clear hA4 hB4 hu4
    obtain ⟨i, rfl, hi0, hi1, hur, hA, hB⟩ := hrel
    by_cases hlt : i < L
    · have hd : decide ((i : Int) < (L : Int)) = true := by simp; omega
      obtain ⟨p, hp⟩ : ∃ p, i - 1 = p := ⟨_, rfl⟩
      have hiA : i < A.length := by have := hALh.out; omega
      have hpA : p < A.length := by omega
      obtain ⟨ba, oa, rfl, _, hr⟩ := hA.out.some (by omega)
      obtain ⟨k1, n1, s1, m1, a1, c1, hT1, e0, e1, e2, e3, hli⟩ := hr.part p hpA
      obtain ⟨k2, n2, s2, m2, a2, c2, hT2, f0, f1, f2, f3, hlj⟩ := hr.part i hiA
      have hcall := Hid.mk (fun (W : World) (hW : Up wr W) => compare_any A[p] A[i] _ _ _ _ W (hli.below hW.out) (hlj.below hW.out))
      have hle := sorted_at hSs.out (show p ≤ i by omega) hiA
      generalize A[p].cmp A[i] = x at hcall hle
      have hdx : decide (x > 0) = false := by simp; omega
      have wS : IntKind.i64.wrap ((i : Int) - 1) = (p : Int) := by rw [IntKind.wrap_i64]; omega
      have di : (0 : Int) ≤ (i : Int) := by omega
      have dp : (0 : Int) ≤ (p : Int) := by omega
      have di' : (i : Int) < (L : Int) := by omega
      have dp' : (p : Int) < (L : Int) := by omega
      have dpn : p < L := by omega
      have hph := Hid.mk hp
      have hkA := Hid.mk (fun (W : World) (hW : Up wr W) => hA.out.below hW.out)
      have hkB := Hid.mk (fun (W : World) (hW : Up wr W) => hB.out.below hW.out)
      clear hp hT1 hT2 hli hlj hr hA hB hiA hpA
      go_upto_region 8 with fail
      refine region_up (W := wr) (by kernel_rfl) (by kernel_rfl) (Up.refl _) ?_
      refine quiet_value (v := .slice (some ⟨ba, oa, none⟩) L ca) rfl (fun _ _ => rfl) ?_
      simp only [Act.put, List.setIfInBounds_toArray, List.set_cons_zero, List.set_cons_succ]
      refine quiet_value (v := .int .i64 i) rfl (fun _ _ => rfl) ?_
      simp only [Act.put, List.setIfInBounds_toArray, List.set_cons_zero, List.set_cons_succ]
      refine quiet_value (v := .int .i64 p) rfl (fun _ _ => (by go_simp)) ?_
      simp only [Act.put, List.setIfInBounds_toArray, List.set_cons_zero, List.set_cons_succ]
      refine quiet_value (v := .pointer (some ⟨ba, oa + p * 4, none⟩)) rfl (fun _ _ => (by go_simp)) ?_
      simp only [Act.put, List.setIfInBounds_toArray, List.set_cons_zero, List.set_cons_succ]
      refine quiet_value (v := .agg #[.int .i64 k1, .int .i64 n1, .string s1, .slice a1 m1.length c1]) rfl (fun W h => (by have u0 := cell_below h.out _ _ _ e0; have u1 := cell_below h.out _ _ _ e1; have u2 := cell_below h.out _ _ _ e2; have u3 := cell_below h.out _ _ _ e3; go_simp)) ?_
      simp only [Act.put, List.setIfInBounds_toArray, List.set_cons_zero, List.set_cons_succ]
      refine quiet_value (v := .slice (some ⟨ba, oa, none⟩) L ca) rfl (fun _ _ => rfl) ?_
      simp only [Act.put, List.setIfInBounds_toArray, List.set_cons_zero, List.set_cons_succ]
      refine quiet_value (v := .int .i64 i) rfl (fun _ _ => rfl) ?_
      simp only [Act.put, List.setIfInBounds_toArray, List.set_cons_zero, List.set_cons_succ]
      refine quiet_value (v := .pointer (some ⟨ba, oa + i * 4, none⟩)) rfl (fun _ _ => (by go_simp)) ?_
      simp only [Act.put, List.setIfInBounds_toArray, List.set_cons_zero, List.set_cons_succ]
      refine quiet_value (v := .agg #[.int .i64 k2, .int .i64 n2, .string s2, .slice a2 m2.length c2]) rfl (fun W h => (by have u0 := cell_below h.out _ _ _ f0; have u1 := cell_below h.out _ _ _ f1; have u2 := cell_below h.out _ _ _ f2; have u3 := cell_below h.out _ _ _ f3; go_simp)) ?_
      simp only [Act.put, List.setIfInBounds_toArray, List.set_cons_zero, List.set_cons_succ]
      refine quiet_call (v := .int .i64 x) rfl (fun W => (by go_simp)) (fun W h => (hcall.out W h).mono fun e w' ⟨he, hb⟩ => ⟨he, h.call hb⟩) ?_
      simp only [Act.put, List.setIfInBounds_toArray, List.set_cons_zero, List.set_cons_succ]
      refine quiet_value (v := .bool false) rfl (fun _ _ => (by go_simp)) ?_
      simp only [Act.put, List.setIfInBounds_toArray, List.set_cons_zero, List.set_cons_succ]
      refine quiet_nil ?_
      intro w6 hw6
      go_wp2
      go_roundw
      case rel => exact ⟨i + 1, by go_num, by omega, by omega, hur.call hw6.out, Hid.mk (hkA.out w6 hw6), Hid.mk (hkB.out w6 hw6)⟩
      case measure => simp [intOf]; omega
    have hd : decide ((i : Int) < (L : Int)) = false := by simp; omega
    go_upto_region 11 with fail
    have hA4 := hA
    have hB4 := hB
    have hu4 := hur
    clear hA hB hur hlt hd hi0 hi1
    go_loopw [7] (fun ii wr => ∃ i : Nat, ii = .int .i64 i ∧ 0 < i ∧ i ≤ LB + 1 ∧ Up w wr ∧ Hid (IsL wr A aa ca) ∧ Hid (IsL wr Bq ab cb)) (fun ii _ => LB + 1 - (intOf ii).toNat)
    case atStart => exact ⟨1, rfl, by omega, by omega, hu4, hA4, hB4⟩
    case round =>
      clear hA4 hB4 hu4
      obtain ⟨i, rfl, hi0, hi1, hur, hA, hB⟩ := hrel
      by_cases hlt : i < LB
      · have hd : decide ((i : Int) < (LB : Int)) = true := by simp; omega
        obtain ⟨p, hp⟩ : ∃ p, i - 1 = p := ⟨_, rfl⟩
        have hiA : i < Bq.length := by have := hLBh.out; omega
        have hpA : p < Bq.length := by omega
        obtain ⟨bb, ob, rfl, _, hr⟩ := hB.out.some (by omega)
        obtain ⟨k1, n1, s1, m1, a1, c1, hT1, e0, e1, e2, e3, hli⟩ := hr.part p hpA
        obtain ⟨k2, n2, s2, m2, a2, c2, hT2, f0, f1, f2, f3, hlj⟩ := hr.part i hiA
        have hcall := Hid.mk (fun (W : World) (hW : Up wr W) => compare_any Bq[p] Bq[i] _ _ _ _ W (hli.below hW.out) (hlj.below hW.out))
        have hle := rising_at hUr.out (show p < i by omega) hiA
        generalize Bq[p].cmp Bq[i] = x at hcall hle
        have hdx : decide (x ≥ 0) = false := by simp; omega
        have wS : IntKind.i64.wrap ((i : Int) - 1) = (p : Int) := by rw [IntKind.wrap_i64]; omega
        have di : (0 : Int) ≤ (i : Int) := by omega
        have dp : (0 : Int) ≤ (p : Int) := by omega
        have di' : (i : Int) < (LB : Int) := by omega
        have dp' : (p : Int) < (LB : Int) := by omega
        have dpn : p < LB := by omega
        have hph := Hid.mk hp
        have hkA := Hid.mk (fun (W : World) (hW : Up wr W) => hA.out.below hW.out)
        have hkB := Hid.mk (fun (W : World) (hW : Up wr W) => hB.out.below hW.out)
        clear hp hT1 hT2 hli hlj hr hA hB hiA hpA
        go_upto_region 13 with fail
        refine region_up (W := wr) (by kernel_rfl) (by kernel_rfl) (Up.refl _) ?_
        refine quiet_value (v := .slice (some ⟨bb, ob, none⟩) LB cb) rfl (fun _ _ => rfl) ?_
        simp only [Act.put, List.setIfInBounds_toArray, List.set_cons_zero, List.set_cons_succ]
        refine quiet_value (v := .int .i64 i) rfl (fun _ _ => rfl) ?_
        simp only [Act.put, List.setIfInBounds_toArray, List.set_cons_zero, List.set_cons_succ]
        refine quiet_value (v := .int .i64 p) rfl (fun _ _ => (by go_simp)) ?_
        simp only [Act.put, List.setIfInBounds_toArray, List.set_cons_zero, List.set_cons_succ]
        refine quiet_value (v := .pointer (some ⟨bb, ob + p * 4, none⟩)) rfl (fun _ _ => (by go_simp)) ?_
        simp only [Act.put, List.setIfInBounds_toArray, List.set_cons_zero, List.set_cons_succ]
        refine quiet_value (v := .agg #[.int .i64 k1, .int .i64 n1, .string s1, .slice a1 m1.length c1]) rfl (fun W h => (by have u0 := cell_below h.out _ _ _ e0; have u1 := cell_below h.out _ _ _ e1; have u2 := cell_below h.out _ _ _ e2; have u3 := cell_below h.out _ _ _ e3; go_simp)) ?_
        simp only [Act.put, List.setIfInBounds_toArray, List.set_cons_zero, List.set_cons_succ]
        refine quiet_value (v := .slice (some ⟨bb, ob, none⟩) LB cb) rfl (fun _ _ => rfl) ?_
        simp only [Act.put, List.setIfInBounds_toArray, List.set_cons_zero, List.set_cons_succ]
        refine quiet_value (v := .int .i64 i) rfl (fun _ _ => rfl) ?_
        simp only [Act.put, List.setIfInBounds_toArray, List.set_cons_zero, List.set_cons_succ]
        refine quiet_value (v := .pointer (some ⟨bb, ob + i * 4, none⟩)) rfl (fun _ _ => (by go_simp)) ?_
        simp only [Act.put, List.setIfInBounds_toArray, List.set_cons_zero, List.set_cons_succ]
        refine quiet_value (v := .agg #[.int .i64 k2, .int .i64 n2, .string s2, .slice a2 m2.length c2]) rfl (fun W h => (by have u0 := cell_below h.out _ _ _ f0; have u1 := cell_below h.out _ _ _ f1; have u2 := cell_below h.out _ _ _ f2; have u3 := cell_below h.out _ _ _ f3; go_simp)) ?_
        simp only [Act.put, List.setIfInBounds_toArray, List.set_cons_zero, List.set_cons_succ]
        refine quiet_call (v := .int .i64 x) rfl (fun W => (by go_simp)) (fun W h => (hcall.out W h).mono fun e w' ⟨he, hb⟩ => ⟨he, h.call hb⟩) ?_
        simp only [Act.put, List.setIfInBounds_toArray, List.set_cons_zero, List.set_cons_succ]
        refine quiet_value (v := .bool false) rfl (fun _ _ => (by go_simp)) ?_
        simp only [Act.put, List.setIfInBounds_toArray, List.set_cons_zero, List.set_cons_succ]
        refine quiet_nil ?_
        intro w6 hw6
        go_wp2
        go_roundw
        case rel => exact ⟨i + 1, by go_num, by omega, by omega, hur.call hw6.out, Hid.mk (hkA.out w6 hw6), Hid.mk (hkB.out w6 hw6)⟩
        case measure => simp [intOf]; omega
      have hd : decide ((i : Int) < (LB : Int)) = false := by simp; omega
      go_upto_region 16 with fail
      have hA4 := hA
      have hB4 := hB
      have hu4 := hur
      clear hA hB hur hlt hd hi0 hi1
      go_loopw [8] (fun ii wr => ∃ i : Nat, ii = .int .i64 i ∧ i ≤ L ∧ Up w wr ∧ Hid (IsL wr A aa ca) ∧ Hid (IsL wr Bq ab cb)) (fun ii _ => L - (intOf ii).toNat)
      case atStart => exact ⟨0, rfl, by omega, hu4, hA4, hB4⟩
      case round =>
        clear hA4 hB4 hu4
        obtain ⟨i, rfl, hi1, hur, hA, hB⟩ := hrel
        by_cases hlt : i < L
        rotate_left
        · have hd : decide ((i : Int) < (L : Int)) = false := by simp; omega
          have hd2 : decide ((LB : Int) ≤ (L : Int)) = true := by simp; omega
          go_wp2
          go_ret
          exact ⟨rfl, hur.out⟩
        have hd : decide ((i : Int) < (L : Int)) = true := by simp; omega
        have hil : i < l.length := by have := hLh.out; omega
        have hll := hl.out.below hur.out
        obtain ⟨bl, ol, rfl, _, hr⟩ := hll.some (by omega)
        obtain ⟨k1, n1, s1, m1, a1, c1, hT1, e0, e1, e2, e3, hli⟩ := hr.part i hil
        have hmem : l[i] ∈ l := List.getElem_mem hil
        have hfr := find_rising Bq l[i] hUr.out (hUh.out _ hmem)
        have hct := hcs.out l[i]
        have hcl : countT l l[i] ≤ 1000000 := by have := countT_le l l[i]; have := hLh.out; omega
        have hcA := Hid.mk (fun (W : World) (hW : Up wr W) => count_any A l[i] _ _ aa ca _ W (hA.out.below hW.out) (hli.below hW.out))
        have hcl2 := Hid.mk (fun (W : World) (hW : Up wr W) => count_any l l[i] _ _ _ cap _ W (hll.below hW.out) (hli.below hW.out))
        rw [hct, hALh.out] at hcA
        rw [hLh.out] at hcl2
        generalize countT l l[i] = q at hcA hcl2 hcl
        have hfi := Hid.mk (fun (W : World) (hW : Up wr W) => find_any Bq hUr.out.sorted (by have := hLBh.out; omega) l[i] _ _ ab cb _ W (hB.out.below hW.out) (hli.below hW.out))
        obtain ⟨hfb, hfn, hf0⟩ := hfr
        have hB2 := hB.out
        obtain ⟨bb, ob, rfl, _, hrb⟩ := hB.out.some (by omega)
        obtain ⟨k2, n2, s2, m2, a2, c2, hT2, f0, f1, f2, f3, hlj⟩ := hrb.part _ hfn
        have hcmp := Hid.mk (fun (W : World) (hW : Up wr W) => cmpLit_any Bq[findN Bq l[i]] l[i] 0 hf0 _ _ _ _ W (hlj.below hW.out) (hli.below hW.out))
        rw [hfb, hLBh.out] at hfi
        have hnL : findN Bq l[i] < LB := by have := hLBh.out; omega
        generalize findN Bq l[i] = nq at hfi hnL f0 f1 f2 f3
        have di : (0 : Int) ≤ (i : Int) := by omega
        have di' : (i : Int) < (L : Int) := by omega
        have dq : (0 : Int) ≤ (nq : Int) := by omega
        have dq' : (nq : Int) < (LB : Int) := by omega
        have dq2 : decide ((nq : Int) ≥ (LB : Int)) = false := by simp; omega
        have hkA := Hid.mk (fun (W : World) (hW : Up wr W) => hA.out.below hW.out)
        have hkB := Hid.mk (fun (W : World) (hW : Up wr W) => hB2.below hW.out)
        clear hT1 hT2 hli hlj hr hrb hA hB hB2 hct hcl hfb hf0 hmem hll hil hfn
        go_upto_region 18 with fail
        refine region_up (W := wr) (by kernel_rfl) (by kernel_rfl) (Up.refl _) ?_
        refine quiet_value (v := .slice aa L ca) rfl (fun _ _ => rfl) ?_
        simp only [Act.put, List.setIfInBounds_toArray, List.set_cons_zero, List.set_cons_succ]
        refine quiet_value (v := .slice (some ⟨bl, ol, none⟩) L cap) rfl (fun _ _ => rfl) ?_
        simp only [Act.put, List.setIfInBounds_toArray, List.set_cons_zero, List.set_cons_succ]
        refine quiet_value (v := .int .i64 i) rfl (fun _ _ => rfl) ?_
        simp only [Act.put, List.setIfInBounds_toArray, List.set_cons_zero, List.set_cons_succ]
        refine quiet_value (v := .pointer (some ⟨bl, ol + i * 4, none⟩)) rfl (fun _ _ => (by go_simp)) ?_
        simp only [Act.put, List.setIfInBounds_toArray, List.set_cons_zero, List.set_cons_succ]
        refine quiet_value (v := .agg #[.int .i64 k1, .int .i64 n1, .string s1, .slice a1 m1.length c1]) rfl (fun W h => (by have u0 := cell_below h.out _ _ _ e0; have u1 := cell_below h.out _ _ _ e1; have u2 := cell_below h.out _ _ _ e2; have u3 := cell_below h.out _ _ _ e3; go_simp)) ?_
        simp only [Act.put, List.setIfInBounds_toArray, List.set_cons_zero, List.set_cons_succ]
        refine quiet_call (v := .int .i64 q) rfl (fun W => (by go_simp)) (fun W h => (hcA.out W h).mono fun e w' ⟨he, hb⟩ => ⟨he, h.call hb⟩) ?_
        simp only [Act.put, List.setIfInBounds_toArray, List.set_cons_zero, List.set_cons_succ]
        refine quiet_value (v := .slice (some ⟨bl, ol, none⟩) L cap) rfl (fun _ _ => rfl) ?_
        simp only [Act.put, List.setIfInBounds_toArray, List.set_cons_zero, List.set_cons_succ]
        refine quiet_value (v := .slice (some ⟨bl, ol, none⟩) L cap) rfl (fun _ _ => rfl) ?_
        simp only [Act.put, List.setIfInBounds_toArray, List.set_cons_zero, List.set_cons_succ]
        refine quiet_value (v := .int .i64 i) rfl (fun _ _ => rfl) ?_
        simp only [Act.put, List.setIfInBounds_toArray, List.set_cons_zero, List.set_cons_succ]
        refine quiet_value (v := .pointer (some ⟨bl, ol + i * 4, none⟩)) rfl (fun _ _ => (by go_simp)) ?_
        simp only [Act.put, List.setIfInBounds_toArray, List.set_cons_zero, List.set_cons_succ]
        refine quiet_value (v := .agg #[.int .i64 k1, .int .i64 n1, .string s1, .slice a1 m1.length c1]) rfl (fun W h => (by have u0 := cell_below h.out _ _ _ e0; have u1 := cell_below h.out _ _ _ e1; have u2 := cell_below h.out _ _ _ e2; have u3 := cell_below h.out _ _ _ e3; go_simp)) ?_
        simp only [Act.put, List.setIfInBounds_toArray, List.set_cons_zero, List.set_cons_succ]
        refine quiet_call (v := .int .i64 q) rfl (fun W => (by go_simp)) (fun W h => (hcl2.out W h).mono fun e w' ⟨he, hb⟩ => ⟨he, h.call hb⟩) ?_
        simp only [Act.put, List.setIfInBounds_toArray, List.set_cons_zero, List.set_cons_succ]
        refine quiet_value (v := .bool false) rfl (fun _ _ => (by go_simp)) ?_
        simp only [Act.put, List.setIfInBounds_toArray, List.set_cons_zero, List.set_cons_succ]
        refine quiet_nil ?_
        intro w6 hw6
        have e0 := cell_below hw6.out _ _ _ e0
        have e1 := cell_below hw6.out _ _ _ e1
        have e2 := cell_below hw6.out _ _ _ e2
        have e3 := cell_below hw6.out _ _ _ e3
        go_upto_region 21 with (go_at_call 20; refine (hfi.out w6 hw6).mono ?_; rintro e w7 ⟨rfl, hb7⟩)
        have hw7 : Up wr w7 := hw6.call hb7
        have e0 := cell_below hb7 _ _ _ e0
        have e1 := cell_below hb7 _ _ _ e1
        have e2 := cell_below hb7 _ _ _ e2
        have e3 := cell_below hb7 _ _ _ e3
        have f0 := cell_below hw7.out _ _ _ f0
        have f1 := cell_below hw7.out _ _ _ f1
        have f2 := cell_below hw7.out _ _ _ f2
        have f3 := cell_below hw7.out _ _ _ f3
        refine region_up (W := w7) (by kernel_rfl) (by kernel_rfl) (Up.refl _) ?_
        refine quiet_value (v := .bool true) rfl (fun _ _ => rfl) ?_
        simp only [Act.put, List.setIfInBounds_toArray, List.set_cons_zero, List.set_cons_succ]
        refine quiet_value (v := .bool false) rfl (fun _ _ => (by go_simp)) ?_
        simp only [Act.put, List.setIfInBounds_toArray, List.set_cons_zero, List.set_cons_succ]
        refine quiet_value (v := .bool false) rfl (fun _ _ => rfl) ?_
        simp only [Act.put, List.setIfInBounds_toArray, List.set_cons_zero, List.set_cons_succ]
        refine quiet_value (v := .int .i64 nq) rfl (fun _ _ => rfl) ?_
        simp only [Act.put, List.setIfInBounds_toArray, List.set_cons_zero, List.set_cons_succ]
        refine quiet_value (v := .slice (some ⟨bb, ob, none⟩) LB cb) rfl (fun _ _ => rfl) ?_
        simp only [Act.put, List.setIfInBounds_toArray, List.set_cons_zero, List.set_cons_succ]
        refine quiet_value (v := .int .i64 LB) rfl (fun _ _ => (by go_simp)) ?_
        simp only [Act.put, List.setIfInBounds_toArray, List.set_cons_zero, List.set_cons_succ]
        refine quiet_value (v := .bool false) rfl (fun _ _ => (by go_simp)) ?_
        simp only [Act.put, List.setIfInBounds_toArray, List.set_cons_zero, List.set_cons_succ]
        refine quiet_value (v := .bool false) rfl (fun _ _ => rfl) ?_
        simp only [Act.put, List.setIfInBounds_toArray, List.set_cons_zero, List.set_cons_succ]
        refine quiet_value (v := .bool false) rfl (fun _ _ => rfl) ?_
        simp only [Act.put, List.setIfInBounds_toArray, List.set_cons_zero, List.set_cons_succ]
        refine quiet_value (v := .slice (some ⟨bb, ob, none⟩) LB cb) rfl (fun _ _ => rfl) ?_
        simp only [Act.put, List.setIfInBounds_toArray, List.set_cons_zero, List.set_cons_succ]
        refine quiet_value (v := .int .i64 nq) rfl (fun _ _ => rfl) ?_
        simp only [Act.put, List.setIfInBounds_toArray, List.set_cons_zero, List.set_cons_succ]
        refine quiet_value (v := .pointer (some ⟨bb, ob + nq * 4, none⟩)) rfl (fun _ _ => (by go_simp)) ?_
        simp only [Act.put, List.setIfInBounds_toArray, List.set_cons_zero, List.set_cons_succ]
        refine quiet_value (v := .agg #[.int .i64 k2, .int .i64 n2, .string s2, .slice a2 m2.length c2]) rfl (fun W h => (by have u0 := cell_below h.out _ _ _ f0; have u1 := cell_below h.out _ _ _ f1; have u2 := cell_below h.out _ _ _ f2; have u3 := cell_below h.out _ _ _ f3; go_simp)) ?_
        simp only [Act.put, List.setIfInBounds_toArray, List.set_cons_zero, List.set_cons_succ]
        refine quiet_value (v := .slice (some ⟨bl, ol, none⟩) L cap) rfl (fun _ _ => rfl) ?_
        simp only [Act.put, List.setIfInBounds_toArray, List.set_cons_zero, List.set_cons_succ]
        refine quiet_value (v := .int .i64 i) rfl (fun _ _ => rfl) ?_
        simp only [Act.put, List.setIfInBounds_toArray, List.set_cons_zero, List.set_cons_succ]
        refine quiet_value (v := .pointer (some ⟨bl, ol + i * 4, none⟩)) rfl (fun _ _ => (by go_simp)) ?_
        simp only [Act.put, List.setIfInBounds_toArray, List.set_cons_zero, List.set_cons_succ]
        refine quiet_value (v := .agg #[.int .i64 k1, .int .i64 n1, .string s1, .slice a1 m1.length c1]) rfl (fun W h => (by have u0 := cell_below h.out _ _ _ e0; have u1 := cell_below h.out _ _ _ e1; have u2 := cell_below h.out _ _ _ e2; have u3 := cell_below h.out _ _ _ e3; go_simp)) ?_
        simp only [Act.put, List.setIfInBounds_toArray, List.set_cons_zero, List.set_cons_succ]
        refine quiet_call (v := .int .i64 0) rfl (fun W => (by go_simp)) (fun W h => (hcmp.out W (hw7.call h.out)).mono fun e w' ⟨he, hb⟩ => ⟨he, h.call hb⟩) ?_
        simp only [Act.put, List.setIfInBounds_toArray, List.set_cons_zero, List.set_cons_succ]
        refine quiet_value (v := .bool false) rfl (fun _ _ => (by go_simp)) ?_
        simp only [Act.put, List.setIfInBounds_toArray, List.set_cons_zero, List.set_cons_succ]
        refine quiet_value (v := .bool false) rfl (fun _ _ => rfl) ?_
        simp only [Act.put, List.setIfInBounds_toArray, List.set_cons_zero, List.set_cons_succ]
        refine quiet_nil ?_
        intro w8 hw8
        go_wp2
        go_roundw
        case rel => exact ⟨i + 1, by go_num, by omega, hur.call (hw7.call hw8.out).out, Hid.mk (hkA.out w8 (hw7.call hw8.out)), Hid.mk (hkB.out w8 (hw7.call hw8.out))⟩
        case measure => simp [intOf]; omega

end Go.Proofs.Ytabcekeeekbdiaa
