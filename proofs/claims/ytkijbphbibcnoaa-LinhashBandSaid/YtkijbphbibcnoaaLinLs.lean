/-
  LinhashScript returns true.
-/
import Derived.Test.YtkijbphbibcnoaaLinTells
namespace Go.Proofs.Ytkijbphbibcnoaa
open Go.RowKit Go.Deep Go.Maps Go.WideShapes

/-- A call of a script. -/
structure Ac where
  kd : Int
  n : Int
  h : Nat
theorem ac_one : ∀ (x : Ac) (u : Value), u ∈ [Value.int .i64 x.kd, .int .i64 x.n, .int .u32 x.h] → u.oneCell' = true := fun x u hu => by
  simp only [List.mem_cons, List.not_mem_nil, or_false] at hu
  rcases hu with rfl | rfl | rfl <;> rfl
def acS : Srt Ac := { t := 34, st := 22, k := 3, enc := fun x => [.int .i64 x.kd, .int .i64 x.n, .int .u32 x.h], z := .agg #[.int .i64 0, .int .i64 0, .int .u32 0], bytes := 24, und := Try.underlying22, info := by kernel_rfl, zc := rfl, pos := by decide, few := by decide, len := fun _ => rfl, one := ac_one }
theorem CelAc.item {w : World} {l : List Ac} {a : Option Addr} (h : Cs acS w l a) {i : Nat} (hi : i < l.length) : ∃ b o, a = some ⟨b, o, none⟩ ∧ w.cell? ⟨b, o + i * 3, none⟩ = some (.int .i64 l[i].kd) ∧ w.cell? ⟨b, o + i * 3 + 1, none⟩ = some (.int .i64 l[i].n) ∧ w.cell? ⟨b, o + i * 3 + 2, none⟩ = some (.int .u32 l[i].h) := by
  obtain ⟨b, o, e, hc⟩ := h.at_ hi
  exact ⟨b, o, e, hc 0 _ rfl, hc 1 _ rfl, hc 2 _ rfl⟩
section
variable {Lb : World → Nat → Nat → (Nat → Prop) → Bks → Prop} (K : LinOk Lb)
include K
set_option maxHeartbeats 8000000 in
set_option maxRecDepth 100000 in
theorem lawScript10 (n : Int) (L : List Ac) (la : Option Addr) (lc : Nat) (w : World) (hL : Cs acS w L la) (hr : ∀ x ∈ L, x.h < 4294967296) :
    Calls Try.prog 3 #[.int .i64 n, .slice la L.length lc] w fun e w' => e = .returned (.bool true) ∧ Below w.heap.size w w' := by
  by_cases h60 : 60 < L.length
  · have d1 : decide ((60 : Int) < (L.length : Nat)) = true := by rw [decide_eq_true_eq]; omega
    have d2 : decide (60 < L.length) = true := decide_eq_true h60
    clear hL hr
    go_enter Try.func3, Try.ntmps3
    go_wp2
    go_ret
    exact ⟨rfl, Below.refl _ _⟩
  · have d1 : decide ((60 : Int) < (L.length : Nat)) = false := by rw [decide_eq_false_iff_not]; omega
    have d2 : decide (60 < L.length) = false := decide_eq_false h60
    have H60 := Hid.mk (show L.length ≤ 60 by omega)
    have HCL := Hid.mk hL
    have HR := Hid.mk hr
    clear h60 hL hr
    by_cases hn : 1 ≤ n ∧ n ≤ 1024
    · obtain ⟨least, rfl⟩ := Int.eq_ofNat_of_zero_le (show 0 ≤ n by omega)
      have HN := Hid.mk (show 1 ≤ least ∧ least ≤ 1024 by omega)
      have hlen0 : (List.replicate least ([] : List It)).length = least := by simp
      clear hn
      go_enter Try.func3, Try.ntmps3
      go_upto_region 5 with (first
        | (go_at_call 8; refine (newR_any least w1 HN.out.1 HN.out.2).mono ?_; rintro e w2 ⟨q, Sr, rfl, hrb, hsr, hb2⟩; have H2 : Hid (Sx Lb w w2 p q least (List.replicate least []) (List.replicate least []) Sr (fun _ => False)) := Hid.mk ⟨(H1.out.more K hb2 (G := Sr) (fun k hk => ⟨hsr k hk, hrb.lt k hk⟩)).weaken (fun k hk => Or.inr (hk.elim id False.elim)), hrb, fun k hk => Nat.le_trans H1.out.below.size (hsr k hk), fun k hk => hk.elim⟩; clear hrb hsr hb2)
        | (go_at_call 7; refine (lo_new K w least HN.out.1 HN.out.2).mono ?_; rintro e w1 ⟨p, rfl, h⟩; have H1 := Hid.mk h; clear h))
      have HS : Hid (Fine (List.replicate least ([] : List It)) ∧ (List.replicate least ([] : List It)).length ≤ 1024 + 0 ∧ szB (List.replicate least ([] : List It)) ≤ 0) := Hid.mk ⟨fine_new HN.out.1 HN.out.2, by rw [hlen0]; exact HN.out.2, by simp [szB]⟩
      clear H1 hlen0
      go_wp2
      go_loopw [9] (fun ii wr => ∃ (i : Nat) (B : Bks) (S2 : Nat → Prop), i ≤ L.length ∧ ii = .int .i64 i ∧ Hid (Sx Lb w wr p q least B B S2 (fun _ => False)) ∧ Hid (Fine B ∧ B.length ≤ 1024 + i ∧ szB B ≤ i)) (fun ii _ => L.length - (intOf ii).toNat)
      case atStart => exact ⟨0, _, Sr, Nat.zero_le _, rfl, H2, HS⟩
      case round =>
        obtain ⟨i, B, S2, hi, rfl, hX, hI⟩ := hrel
        have h6 := H60.out
        by_cases hlt : i < L.length
        · obtain ⟨b, o, rfl, s0, s1, s2⟩ := CelAc.item (HCL.out.up hX.out.lo.below) hlt
          have hx32 := HR.out _ (List.getElem_mem hlt)
          generalize L[i]'hlt = X at *
          obtain ⟨kd, an, ah⟩ := X
          simp only at s0 s1 s2 hx32
          have HX := Hid.mk hx32
          have HIL := Hid.mk hlt
          have hil : (i : Int) < L.length := by omega
          have hwi : IntKind.i64.wrap ((i : Int) + 1) = ((i + 1 : Nat) : Int) := by rw [wrap_id (by omega) (by omega)]; omega
          have HSZ := Hid.mk (show szB B < 50000 ∧ B.length < 50000 by have := hI.out.2; omega)
          clear hx32 hlt h6
          by_cases h40 : least ≤ 40
          · have e40 : (least : Int) ≤ 40 := by omega
            go_wp2_with (first
              | (go_at_call 11; refine (tells10_any K H3.out HJ.out.1).mono ?_; rintro e w5 ⟨rfl, hb⟩; have H5 := Hid.mk (H3.out.up K hb); clear hb)
              | (go_at_call 10; refine (act_all K hX.out hI.out.1 HN.out.1 HSZ.out kd an ah HX.out).mono ?_; rintro e w4 ⟨rfl, B', S3, hx, hj⟩; have H3 := Hid.mk hx; have HJ := Hid.mk hj; clear hx hj))
            go_roundw
            case rel => exact ⟨i + 1, B', S3, HIL.out, by first | rfl | go_num, H5, Hid.mk ⟨HJ.out.1, by have := hI.out.2.1; have := HJ.out.2.1; omega, by have := hI.out.2.2; have := HJ.out.2.2; omega⟩⟩
            case measure => have h1 : i < L.length := HIL.out; simp [intOf]; omega
          · have e40 : ¬ (least : Int) ≤ 40 := by omega
            have e41 : ¬ least ≤ 40 := h40
            go_wp2_with (go_at_call 10; refine (act_all K hX.out hI.out.1 HN.out.1 HSZ.out kd an ah HX.out).mono ?_; rintro e w4 ⟨rfl, B', S3, hx, hj⟩; have H3 := Hid.mk hx; have HJ := Hid.mk hj; clear hx hj)
            go_roundw
            case rel => exact ⟨i + 1, B', S3, HIL.out, by first | rfl | go_num, H3, Hid.mk ⟨HJ.out.1, by have := hI.out.2.1; have := HJ.out.2.1; omega, by have := hI.out.2.2; have := HJ.out.2.2; omega⟩⟩
            case measure => have h1 : i < L.length := HIL.out; simp [intOf]; omega
        · obtain rfl : i = L.length := by omega
          clear hlt h6
          go_wp2_with (first
            | (go_at_call 9; refine (awake10 K _).mono ?_; rintro e w6 ⟨rfl, hb⟩; have B6 := Hid.mk (H5.out.lo.below.trans (hb.mono H5.out.lo.below.size)); clear hb)
            | (go_at_call 11; refine (tells10_any K hX.out hI.out.1).mono ?_; rintro e w5 ⟨rfl, hb⟩; have H5 := Hid.mk (hX.out.up K hb); clear hb))
          go_ret
          exact ⟨rfl, B6.out⟩
    · have hnn : n < 1 ∨ 1024 < n := by omega
      clear hn
      go_enter Try.func3, Try.ntmps3
      go_wp2_with (first
        | (go_at_call 9; refine (awake10 K _).mono ?_; rintro e w6 ⟨rfl, hb⟩; have B6 := Hid.mk (B1.out.trans (hb.mono B1.out.size)); clear hb)
        | (go_at_call 8; refine (newR_not n _ hnn).mono ?_; rintro e x ⟨rfl, rfl⟩)
        | (go_at_call 7; refine (K.newNot w n hnn).mono ?_; rintro e w1 ⟨rfl, hb⟩; have B1 := Hid.mk hb; clear hb))
      go_ret
      exact ⟨rfl, B6.out⟩
end
end Go.Proofs.Ytkijbphbibcnoaa
