/-
  All items stand where they should, and no others.
-/
import Derived.Test.YtkijbphbibcnoaaLinSet
import Derived.Test.YtkijbphbibcnoaaKitBits
import Derived.Lib.AppendZerosOnto
namespace Go.Proofs.Ytkijbphbibcnoaa
open Go.RowKit Go.Deep Go.Maps Go.WideShapes

theorem bucket_up {x n : Nat} (hx : x < 4294967296) (h1 : 1 ≤ n) (h2 : n ≤ 1000000) {y : Nat} (hy : bkt x n = y) (W : World) : Calls Try.prog 47 #[.int .u32 x, .int .i64 n] W fun e w' => e = .returned (.tuple #[.int .i64 y, .int .i64 0]) ∧ Below W.heap.size W w' := by
  have := bucket_any x hx (n : Int) (by omega) (by omega) W
  unfold bktV bktE at this
  rw [if_pos (by omega), if_pos (by omega), Int.toNat_natCast, hy] at this
  exact this.mono fun e w' ⟨h1, h2⟩ => ⟨h1, h2 ▸ Below.refl _ _⟩
section
variable {Lb : World → Nat → Nat → (Nat → Prop) → Bks → Prop} (K : LinOk Lb)
include K
set_option maxHeartbeats 8000000 in
set_option maxRecDepth 100000 in
theorem stand_any {w0 w : World} {p least i0 : Nat} {B : Bks} {F : Nat → Prop} (all : List It) (a : Option Addr) (cap : Nat) (h : Lo Lb w0 w p least B F) (hb : Bnd least i0 B all) (ha : CelT w all a) :
    Calls Try.prog 26 #[.pointer (some ⟨p, 0, none⟩), .slice a all.length cap] w fun e w' => e = .returned (.bool true) ∧ Below w.heap.size w w' := by
  have hsh := hb.short
  have hsz := hb.size
  have hln := hb.len
  have hfw := hb.few
  have HLO := Hid.mk (fun (W : World) (hW : Below w.heap.size w W) => h.up K hW)
  have HB := Hid.mk hb
  have HA := Hid.mk ha
  have HNN := Hid.mk (show B.length ≤ 420 ∧ szB B = all.length ∧ all.length ≤ 200 ∧ 1 ≤ B.length from ⟨hsh, hsz, by omega, hb.fine.placed.some_⟩)
  clear h hb ha hsh hsz hln hfw
  go_enter Try.func26, Try.ntmps26
  go_wp2
  go_loopw [5, 6] (fun ss nn wr => ∃ n : Nat, n ≤ B.length ∧ ss = .int .i64 (szB (B.take n)) ∧ nn = .int .i64 n ∧ Hid (Below w.heap.size w wr)) (fun _ nn _ => B.length - (intOf nn).toNat)
  case atStart => exact ⟨0, Nat.zero_le _, by simp [szB], rfl, Hid.mk (Below.refl _ _)⟩
  case round =>
    obtain ⟨n, hn, rfl, rfl, hW⟩ := hrel
    have hNN := HNN.out
    by_cases hlt : n < B.length
    · have hst := szB_take hlt
      have hle := szB_take_le B (n + 1)
      have hRl := rowB_len_le B n
      have hpl := HB.out.fine.placed.at_ n
      have hav : atV B (n : Int) = rowB B n := by unfold atV; rw [if_pos (by omega), Int.toNat_natCast]
      have hae : atE B (n : Int) = 0 := by unfold atE; rw [if_pos (by omega)]
      rw [← rowB_lt hlt] at hst
      generalize rowB B n = R at *
      obtain ⟨U, hU⟩ : ∃ U, szB (B.take n) = U := ⟨_, rfl⟩
      rw [hU] at hst ⊢
      have hwu : IntKind.i64.wrap ((U : Int) + R.length) = ((U + R.length : Nat) : Int) := by rw [wrap_id (by omega) (by omega)]; omega
      have hwn : IntKind.i64.wrap ((n : Int) + 1) = ((n + 1 : Nat) : Int) := by rw [wrap_id (by omega) (by omega)]; omega
      have HPL := Hid.mk hpl
      have HST := Hid.mk hst
      have HL := Hid.mk hlt
      have HRL := Hid.mk (show R.length ≤ 1000 by omega)
      have hli : (n : Int) < B.length := by omega
      have HAT := Hid.mk (And.intro hav hae)
      clear hst hle hRl hpl hav hae hU hNN hlt
      go_wp2_with (first
        | (go_at_call 13; refine ((HLO.out _ h2.out).at_ K HB.out.fine (n : Int)).mono ?_; rintro e w3 ⟨v, rfl, ht⟩; rw [HAT.out.1] at ht; rw [HAT.out.2]; have h3 := Hid.mk (h2.out.trans (ht.below.mono h2.out.size)); obtain ⟨va, vc, rfl, hcel⟩ := Its.slice ht.its; have HV := Hid.mk hcel; clear ht hcel)
        | (go_at_call 17; refine ((HLO.out _ hW.out).count K HB.out.fine).mono ?_; rintro e w2 ⟨rfl, hb2⟩; have h2 := Hid.mk (hW.out.trans (hb2.mono hW.out.size)); clear hb2))
      go_loopw [9] (fun jj wr2 => ∃ j : Nat, j ≤ R.length ∧ jj = .int .i64 j ∧ Hid (Below w3.heap.size w3 wr2)) (fun jj _ => R.length - (intOf jj).toNat)
      case atStart => exact ⟨0, Nat.zero_le _, rfl, Hid.mk (Below.refl _ _)⟩
      case round =>
        obtain ⟨j, hj, rfl, hW3⟩ := hrel
        by_cases hjl : j < R.length
        · obtain ⟨b, o, rfl, x0, x1⟩ := CelT.item (HV.out.up hW3.out) hjl
          have hXp := HPL.out _ (List.getElem_mem hjl)
          obtain ⟨X, hX⟩ : ∃ X, R[j]'hjl = X := ⟨_, rfl⟩
          rw [hX] at x0 x1 hXp
          obtain ⟨X0, X1⟩ := X
          simp only at x0 hXp
          have HXP := Hid.mk hXp
          have hwj : IntKind.i64.wrap ((j : Int) + 1) = ((j + 1 : Nat) : Int) := by have := HRL.out; rw [wrap_id (by omega) (by omega)]; omega
          have HJ := Hid.mk hjl
          have hji : (j : Int) < R.length := by omega
          have HW4 := Hid.mk (h3.out.trans (hW3.out.mono h3.out.size))
          clear hX hXp hjl x1
          go_upto_region 10 with fail
          refine region_up (W := wr) (by kernel_rfl) (by kernel_rfl) (Up.refl _) ?_
          refine quiet_value (v := .slice (some ⟨b, o, none⟩) R.length vc) rfl (fun _ _ => rfl) ?_
          simp only [Act.put, List.setIfInBounds_toArray, List.set_cons_zero, List.set_cons_succ]
          refine quiet_value (v := .int .i64 j) rfl (fun _ _ => rfl) ?_
          simp only [Act.put, List.setIfInBounds_toArray, List.set_cons_zero, List.set_cons_succ]
          refine quiet_value (v := .pointer (some ⟨b, o + j * 2, none⟩)) rfl (fun _ _ => (by go_simp)) ?_
          simp only [Act.put, List.setIfInBounds_toArray, List.set_cons_zero, List.set_cons_succ]
          refine quiet_value (v := .pointer (some ⟨b, o + j * 2, none⟩)) rfl (fun _ _ => (by go_simp)) ?_
          simp only [Act.put, List.setIfInBounds_toArray, List.set_cons_zero, List.set_cons_succ]
          refine quiet_value (v := .int .u32 X0) rfl (fun W h => (by have u0 := cell_below h.out _ _ _ x0; go_simp)) ?_
          simp only [Act.put, List.setIfInBounds_toArray, List.set_cons_zero, List.set_cons_succ]
          refine quiet_value (v := .pointer (some ⟨p, 0, none⟩)) rfl (fun _ _ => rfl) ?_
          simp only [Act.put, List.setIfInBounds_toArray, List.set_cons_zero, List.set_cons_succ]
          refine quiet_call (v := .int .i64 B.length) rfl (fun W => (by go_simp)) (fun W h => ((HLO.out _ (HW4.out.trans (h.out.mono HW4.out.size))).count K HB.out.fine).mono fun e w' ⟨he, hb⟩ => ⟨he, h.call hb⟩) ?_
          simp only [Act.put, List.setIfInBounds_toArray, List.set_cons_zero, List.set_cons_succ]
          refine quiet_call (v := .tuple #[.int .i64 n, .int .i64 0]) rfl (fun W => (by go_simp)) (fun W h => (bucket_up HXP.out.1 HNN.out.2.2.2 (by have := HNN.out.1; omega) HXP.out.2 W).mono fun e w' ⟨he, hb⟩ => ⟨he, h.call hb⟩) ?_
          simp only [Act.put, List.setIfInBounds_toArray, List.set_cons_zero, List.set_cons_succ]
          refine quiet_value (v := .tuple #[.int .i64 n, .int .i64 0]) rfl (fun _ _ => rfl) ?_
          simp only [Act.put, List.setIfInBounds_toArray, List.set_cons_zero, List.set_cons_succ]
          refine quiet_value (v := .int .i64 n) rfl (fun _ _ => (by go_simp)) ?_
          simp only [Act.put, List.setIfInBounds_toArray, List.set_cons_zero, List.set_cons_succ]
          refine quiet_value (v := .int .i64 0) rfl (fun _ _ => (by go_simp)) ?_
          simp only [Act.put, List.setIfInBounds_toArray, List.set_cons_zero, List.set_cons_succ]
          refine quiet_value (v := .int .i64 n) rfl (fun _ _ => rfl) ?_
          simp only [Act.put, List.setIfInBounds_toArray, List.set_cons_zero, List.set_cons_succ]
          refine quiet_value (v := .int .i64 0) rfl (fun _ _ => rfl) ?_
          simp only [Act.put, List.setIfInBounds_toArray, List.set_cons_zero, List.set_cons_succ]
          refine quiet_nil ?_
          intro w5 hw5
          have HW5 := Hid.mk (hW3.out.trans (hw5.out.mono hW3.out.size))
          clear hw5 x0
          go_wp2
          go_roundw
          case rel => exact ⟨j + 1, HJ.out, by first | rfl | go_num, HW5⟩
          case measure => have h1 : j < R.length := HJ.out; simp [intOf]; omega
        · obtain rfl : j = R.length := by omega
          have HE := Hid.mk (h3.out.trans (hW3.out.mono h3.out.size))
          clear hjl
          go_wp2
          go_roundw
          case rel => exact ⟨n + 1, HL.out, by rw [HST.out]; first | rfl | go_num, by first | rfl | go_num, HE⟩
          case measure => have h1 : n < B.length := HL.out; simp [intOf]; omega
    · obtain rfl : n = B.length := by omega
      have hnl : ¬ (B.length : Int) < B.length := by omega
      have HSZ := Hid.mk hNN.2.1
      rw [List.take_length]
      clear hlt hNN
      go_wp2_with (go_at_call 17; refine ((HLO.out _ hW.out).count K HB.out.fine).mono ?_; rintro e w2 ⟨rfl, hb2⟩; have h2 := Hid.mk (hW.out.trans (hb2.mono hW.out.size)); clear hb2)
      go_loopw [12] (fun ii wr => ∃ i : Nat, i ≤ all.length ∧ ii = .int .i64 i ∧ Hid (Below w.heap.size w wr)) (fun ii _ => all.length - (intOf ii).toNat)
      case atStart => exact ⟨0, Nat.zero_le _, rfl, h2⟩
      case round =>
        obtain ⟨i, hi, rfl, hW2⟩ := hrel
        have hNN := HNN.out
        by_cases hlt : i < all.length
        · obtain ⟨b, o, rfl, y0, y1⟩ := CelT.item (HA.out.up hW2.out) hlt
          have hYp := (HB.out.lt _ (List.getElem_mem hlt)).2
          obtain ⟨Y, hY⟩ : ∃ Y, all[i]'hlt = Y := ⟨_, rfl⟩
          rw [hY] at y0 y1 hYp
          obtain ⟨Y0, Y1⟩ := Y
          simp only at y0 hYp
          have HYP := Hid.mk hYp
          have hwi : IntKind.i64.wrap ((i : Int) + 1) = ((i + 1 : Nat) : Int) := by rw [wrap_id (by omega) (by omega)]; omega
          have HI := Hid.mk hlt
          have hii : (i : Int) < all.length := by omega
          clear hY hYp hlt y1 hNN
          go_wp2
          go_loopw [13, 14] (fun u0 kk wr3 => ∃ (k : Nat) (uu : Value), k ≤ all.length ∧ uu = u0 ∧ kk = .int .i64 k ∧ Hid (App wr wr3 uu ((all.take k).filter (isH Y0)))) (fun _ kk _ => all.length - (intOf kk).toNat)
          case atStart => exact ⟨0, _, Nat.zero_le _, rfl, rfl, Hid.mk ⟨Ow.nil _, fun g hg => (by cases hg), Below.refl _ _⟩⟩
          case round =>
            obtain ⟨k, uu, hk, rfl, rfl, hA⟩ := hrel
            have hyk := cell_below hA.out.below _ _ _ y0
            by_cases hkl : k < all.length
            · obtain ⟨b2, o2, e, x0, x1⟩ := CelT.item ((HA.out.up hW2.out).up hA.out.below) hkl
              simp only [Option.some.injEq, Addr.mk.injEq, and_true] at e
              obtain ⟨rfl, rfl⟩ := e
              have hft := filter_take (p := isH Y0) hkl
              have hfl := filter_take_len all (isH Y0) k
              have hwk : IntKind.i64.wrap ((k : Int) + 1) = ((k + 1 : Nat) : Int) := by have := HNN.out.2.2.1; rw [wrap_id (by omega) (by omega)]; omega
              have HK := Hid.mk hkl
              have hki : (k : Int) < all.length := by omega
              obtain ⟨X, hX⟩ : ∃ X, all[k]'hkl = X := ⟨_, rfl⟩
              rw [hX] at x0 x1 hft
              obtain ⟨X0, X1⟩ := X
              simp only at x0 x1
              by_cases he : X0 = Y0
              · subst he
                rw [if_pos (by simp [isH])] at hft
                have HFT := Hid.mk hft
                clear hkl hX hft hfl
                go_upto_region 20 with fail
                refine region_up (W := wr) (by kernel_rfl) (by kernel_rfl) (Up.refl _) ?_
                refine quiet_value (v := .slice (some ⟨b, o, none⟩) all.length cap) rfl (fun _ _ => rfl) ?_
                simp only [Act.put, List.setIfInBounds_toArray, List.set_cons_zero, List.set_cons_succ]
                refine quiet_value (v := .int .i64 k) rfl (fun _ _ => rfl) ?_
                simp only [Act.put, List.setIfInBounds_toArray, List.set_cons_zero, List.set_cons_succ]
                refine quiet_value (v := .pointer (some ⟨b, o + k * 2, none⟩)) rfl (fun _ _ => (by go_simp)) ?_
                simp only [Act.put, List.setIfInBounds_toArray, List.set_cons_zero, List.set_cons_succ]
                refine quiet_value (v := .pointer (some ⟨b, o + k * 2, none⟩)) rfl (fun _ _ => (by go_simp)) ?_
                simp only [Act.put, List.setIfInBounds_toArray, List.set_cons_zero, List.set_cons_succ]
                refine quiet_value (v := .int .u32 X0) rfl (fun W h => (by have u0 := cell_below h.out _ _ _ x0; go_simp)) ?_
                simp only [Act.put, List.setIfInBounds_toArray, List.set_cons_zero, List.set_cons_succ]
                refine quiet_value (v := .slice (some ⟨b, o, none⟩) all.length cap) rfl (fun _ _ => rfl) ?_
                simp only [Act.put, List.setIfInBounds_toArray, List.set_cons_zero, List.set_cons_succ]
                refine quiet_value (v := .int .i64 i) rfl (fun _ _ => rfl) ?_
                simp only [Act.put, List.setIfInBounds_toArray, List.set_cons_zero, List.set_cons_succ]
                refine quiet_value (v := .pointer (some ⟨b, o + i * 2, none⟩)) rfl (fun _ _ => (by go_simp)) ?_
                simp only [Act.put, List.setIfInBounds_toArray, List.set_cons_zero, List.set_cons_succ]
                refine quiet_value (v := .pointer (some ⟨b, o + i * 2, none⟩)) rfl (fun _ _ => (by go_simp)) ?_
                simp only [Act.put, List.setIfInBounds_toArray, List.set_cons_zero, List.set_cons_succ]
                refine quiet_value (v := .int .u32 X0) rfl (fun W h => (by have u0 := cell_below h.out _ _ _ hyk; go_simp)) ?_
                simp only [Act.put, List.setIfInBounds_toArray, List.set_cons_zero, List.set_cons_succ]
                refine quiet_value (v := .bool true) rfl (fun _ _ => (by go_simp)) ?_
                simp only [Act.put, List.setIfInBounds_toArray, List.set_cons_zero, List.set_cons_succ]
                refine quiet_nil ?_
                intro w4 hw4
                have hA4 := hA.out.up hw4.out
                obtain ⟨u2, w5, hr2, hi2, hg2, ho2⟩ := item_append (w4.alloc (.cells #[.int .u32 X0, .int .i64 X1] 54)) uu _ (X0, X1) (hA4.its.up (Up.alloc (Up.refl w4)).out) w4.heap.size (new_block _ _) (by have := HNN.out.2.2.1; have := filter_take_len all (isH X0) k; omega)
                have hA2 := Hid.mk ((hA4.up (Up.alloc (Up.refl w4)).out).more hi2 hg2 ho2)
                rw [← HFT.out] at hA2
                have x0 := cell_below hw4.out _ _ _ x0
                have x1 := cell_below hw4.out _ _ _ x1
                clear hw4 hA4 hi2 hg2 ho2 hyk
                go_wp2_with (at_builtin; refine Lib.wpList_append_run _ rfl _ _ _ _ rfl _ _ rfl rfl _ _ hr2 ?_)
                go_roundw
                case rel => exact ⟨k + 1, _, HK.out, rfl, by first | rfl | go_num, hA2⟩
                case measure => have h1 : k < all.length := HK.out; simp [intOf]; omega
              · have hXY : ¬ X0 = Y0 := he
                have hXYi : ¬ (X0 : Int) = Y0 := by omega
                rw [if_neg (by simp [isH, he]), List.append_nil] at hft
                have HFT := Hid.mk hft
                clear hkl hX hft hfl he x1
                go_upto_region 20 with fail
                refine region_up (W := wr) (by kernel_rfl) (by kernel_rfl) (Up.refl _) ?_
                refine quiet_value (v := .slice (some ⟨b, o, none⟩) all.length cap) rfl (fun _ _ => rfl) ?_
                simp only [Act.put, List.setIfInBounds_toArray, List.set_cons_zero, List.set_cons_succ]
                refine quiet_value (v := .int .i64 k) rfl (fun _ _ => rfl) ?_
                simp only [Act.put, List.setIfInBounds_toArray, List.set_cons_zero, List.set_cons_succ]
                refine quiet_value (v := .pointer (some ⟨b, o + k * 2, none⟩)) rfl (fun _ _ => (by go_simp)) ?_
                simp only [Act.put, List.setIfInBounds_toArray, List.set_cons_zero, List.set_cons_succ]
                refine quiet_value (v := .pointer (some ⟨b, o + k * 2, none⟩)) rfl (fun _ _ => (by go_simp)) ?_
                simp only [Act.put, List.setIfInBounds_toArray, List.set_cons_zero, List.set_cons_succ]
                refine quiet_value (v := .int .u32 X0) rfl (fun W h => (by have u0 := cell_below h.out _ _ _ x0; go_simp)) ?_
                simp only [Act.put, List.setIfInBounds_toArray, List.set_cons_zero, List.set_cons_succ]
                refine quiet_value (v := .slice (some ⟨b, o, none⟩) all.length cap) rfl (fun _ _ => rfl) ?_
                simp only [Act.put, List.setIfInBounds_toArray, List.set_cons_zero, List.set_cons_succ]
                refine quiet_value (v := .int .i64 i) rfl (fun _ _ => rfl) ?_
                simp only [Act.put, List.setIfInBounds_toArray, List.set_cons_zero, List.set_cons_succ]
                refine quiet_value (v := .pointer (some ⟨b, o + i * 2, none⟩)) rfl (fun _ _ => (by go_simp)) ?_
                simp only [Act.put, List.setIfInBounds_toArray, List.set_cons_zero, List.set_cons_succ]
                refine quiet_value (v := .pointer (some ⟨b, o + i * 2, none⟩)) rfl (fun _ _ => (by go_simp)) ?_
                simp only [Act.put, List.setIfInBounds_toArray, List.set_cons_zero, List.set_cons_succ]
                refine quiet_value (v := .int .u32 Y0) rfl (fun W h => (by have u0 := cell_below h.out _ _ _ hyk; go_simp)) ?_
                simp only [Act.put, List.setIfInBounds_toArray, List.set_cons_zero, List.set_cons_succ]
                refine quiet_value (v := .bool false) rfl (fun _ _ => (by go_simp)) ?_
                simp only [Act.put, List.setIfInBounds_toArray, List.set_cons_zero, List.set_cons_succ]
                refine quiet_nil ?_
                intro w4 hw4
                have hA4 := Hid.mk (hA.out.up hw4.out)
                rw [← HFT.out] at hA4
                clear hw4 hyk x0
                go_wp2
                go_roundw
                case rel => exact ⟨k + 1, _, HK.out, rfl, by first | rfl | go_num, hA4⟩
                case measure => have h1 : k < all.length := HK.out; simp [intOf]; omega
            · obtain rfl : k = all.length := by omega
              clear hkl
              have hA5 := hA.out
              rw [List.take_length, ← HB.out.chains] at hA5
              obtain ⟨ua, uc, rfl, hucel⟩ := Its.slice hA5.its
              have HU := Hid.mk hucel
              have HW6 := Hid.mk (hW2.out.trans (hA5.below.mono hW2.out.size))
              have hcl : (chainB B Y0).length ≤ 1000 := by
                rw [HB.out.chains]
                have := List.length_filter_le (isH Y0) all
                have := HNN.out.2.2.1
                omega
              have HCL := Hid.mk hcl
              clear hA hA5 hucel hcl
              go_wp2_with (first
                | (go_at_call 15; refine ((HLO.out _ HW6.out).chain K HB.out.fine Y0 HYP.out).mono ?_; rintro e w7 ⟨v, rfl, ht⟩; have h7 := Hid.mk ht.below; obtain ⟨va, vc, rfl, hcel⟩ := Its.slice ht.its; have HV := Hid.mk hcel; clear ht hcel)
                | (go_at_call 27; refine (sameItems_any (chainB B Y0) (chainB B Y0) _ _ _ _ _ HV.out (HU.out.up h7.out) (by have := HCL.out; omega)).mono ?_; rintro e w8 ⟨rfl, hb8⟩; rw [decide_eq_true (rfl : chainB B Y0 = chainB B Y0)]; have h8 := Hid.mk ((HW6.out.trans (h7.out.mono HW6.out.size)).trans (hb8.mono (HW6.out.trans (h7.out.mono HW6.out.size)).size)); clear hb8))
              go_roundw
              case rel => exact ⟨i + 1, HI.out, by first | rfl | go_num, h8⟩
              case measure => have h1 : i < all.length := HI.out; simp [intOf]; omega
        · obtain rfl : i = all.length := by omega
          have hsz : (szB B : Int) = all.length := by rw [HSZ.out]
          clear hlt hNN
          go_wp2
          go_ret
          exact ⟨by simp [hsz], hW2.out⟩
end
end Go.Proofs.Ytkijbphbibcnoaa
