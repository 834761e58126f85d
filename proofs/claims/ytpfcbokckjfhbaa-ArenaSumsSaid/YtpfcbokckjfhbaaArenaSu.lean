/-
  ArenaSums returns true.
-/
import Derived.Test.YtpfcbokckjfhbaaArenaSt
import Derived.Test.YtpfcbokckjfhbaaArenaSd
import Derived.Test.YtpfcbokckjfhbaaArenaSe
namespace Go.Proofs.Ytpfcbokckjfhbaa
open Go.RowKit Go.Deep Go.Maps Go.WideShapes

theorem step_any (A : Sp) (w0 w : World) (p bm W : Nat) (B : Blks) (v : Value) (F : Nat → Prop) (h : Lf w0 w p bm W B v (liveB 0 B) F) (hB : B.length ≤ 900) :
    Calls Try.prog 24 #[.agg #[.int .i64 A.k, .int .i64 A.i, .int .i64 A.s], .pointer (some ⟨p, 0, none⟩), v] w fun e w' => ∃ v' B', e = .returned (.tuple #[v', .bool true]) ∧ Lf w0 w' p bm W B' v' (liveB 0 B') F ∧ B'.length ≤ B.length + 1 := by
  obtain ⟨y, hy, hp1⟩ := pick_fun A.k 3 (by decide) (by decide)
  have hln : (liveB 0 B).length ≤ B.length := by rw [liveB_len]; exact numsB_len B 0
  by_cases h0 : y = 0 ∨ (liveB 0 B).length = 0
  · obtain ⟨z, hz, hp2⟩ := pick_fun A.s 40 (by decide) (by decide)
    exact stepT_any A.k A.i A.s w0 w p bm W B v F h hB y z hp1 h0 (by omega) hp2
  · obtain ⟨i, hi, hp2⟩ := pick_fun A.i (liveB 0 B).length (by omega) (by omega)
    by_cases h1 : y = 1
    · subst h1
      exact stepD_any A.k A.i A.s w0 w p bm W B v F h hB hp1 i (by omega) hp2
    · obtain rfl : y = 2 := by omega
      exact stepS_any A.k A.i A.s w0 w p bm W B v F h hB hp1 i (by omega) hp2
/-- The words of blocks held, rounded up. -/
def sumL (H : List (Int × List Int)) : Nat := (H.map fun x => cls x.2.length).sum
theorem sumL_take {H : List (Int × List Int)} {k : Nat} {x : Int × List Int} (h : H[k]? = some x) : sumL (H.take (k + 1)) = sumL (H.take k) + cls x.2.length := by
  obtain ⟨hk, rfl⟩ := List.getElem?_eq_some_iff.1 h
  unfold sumL
  rw [List.take_succ_eq_append_getElem hk, List.map_append, List.sum_append]
  simp
theorem sumL_le : ∀ (H : List (Int × List Int)) (k : Nat), sumL (H.take k) ≤ sumL H
  | [], k => by simp
  | x :: r, 0 => by simp [sumL]
  | x :: r, k + 1 => by
    have := sumL_le r k
    simp only [sumL, List.take_succ_cons, List.map_cons, List.sum_cons] at *
    omega
section
variable {w0 w w' : World} {p bm W : Nat} {B : Blks} {v : Value} {F : Nat → Prop}
theorem Lf.at_ (h : Lf w0 w p bm W B v (liveB 0 B) F) {k : Nat} {x : Int × List Int} (hx : (liveB 0 B)[k]? = some x) : ∃ g cap a lc, v = .slice (some ⟨g, 0, none⟩) (liveB 0 B).length cap ∧ w.cell? ⟨g, k * 2, none⟩ = some (.int .i64 x.1) ∧ w.cell? ⟨g, k * 2 + 1, none⟩ = some (.slice a x.2.length lc) ∧ Wds w (.slice a x.2.length lc) x.2 := by
  obtain ⟨S, Sh, h⟩ := h
  obtain ⟨hk, rfl⟩ := List.getElem?_eq_some_iff.1 hx
  obtain ⟨g, cap, a, lc, h1, _, h2, h3, h4, _⟩ := h.hd.at_ hk
  exact ⟨g, cap, a, lc, h1, h2, h3, h4⟩
theorem Lf.slice {H : List (Int × List Int)} (h : Lf w0 w p bm W B v H F) : ∃ a cap, v = .slice a H.length cap := by
  obtain ⟨S, Sh, h⟩ := h
  exact h.hd.slice
end
theorem Lf.made {w w1 : World} {W : Nat} (h : Now w.heap.size w w1 (w.heap.size + 1) w.heap.size W []) : Lf w w1 (w.heap.size + 1) w.heap.size W [] (.slice none 0 0) (liveB 0 []) (fun _ => False) := by
  obtain ⟨S, h1, h2, h3, h4⟩ := h
  exact ⟨S, fun _ => False, h1, ⟨⟨[], ⟨rfl, Or.inl ⟨rfl, rfl⟩⟩, fun i hi => absurd hi (Nat.not_lt_zero _), fun i hi => absurd hi (Nat.not_lt_zero _)⟩, fun g hg => (by cases hg), fun k hk => hk.elim⟩, fun k _ hk => hk.elim, h4, fun k hk => hk.elim, fun k hk => hk.elim, h2⟩
/-- The steps that came in, in a later world. -/
theorem Els.step {w w' : World} {L : List Sp} {a : Option Addr} (h : Els w 3 SpOk L a) (hb : Below w.heap.size w w') {i : Nat} (hi : i < L.length) : ∃ b o, a = some ⟨b, o, none⟩ ∧
    w'.cell? ⟨b, o + i * 3, none⟩ = some (.int .i64 L[i].k) ∧ w'.cell? ⟨b, o + i * 3 + 1, none⟩ = some (.int .i64 L[i].i) ∧ w'.cell? ⟨b, o + i * 3 + 2, none⟩ = some (.int .i64 L[i].s) := by
  obtain ⟨b, o, e, hlt, hat⟩ := h.at_ (by omega)
  obtain ⟨us, hus, ⟨rfl, _⟩, hc⟩ := hat i hi
  have z0 := cell_below hb _ _ _ (hc 0 (by simp))
  have z1 := cell_below hb _ _ _ (hc 1 (by simp))
  have z2 := cell_below hb _ _ _ (hc 2 (by simp))
  exact ⟨b, o, e, by simpa using z0, by simpa [Nat.add_assoc] using z1, by simpa [Nat.add_assoc] using z2⟩

set_option maxRecDepth 100000 in
set_option maxHeartbeats 8000000 in
theorem lawSums8 (n : Int) (L : List Sp) (a : Option Addr) (cap : Nat) (w : World) (hE : Els w 3 SpOk L a) :
    Calls Try.prog 8 #[.int .i64 n, .slice a L.length cap] w fun e w' => e = .returned (.bool true) ∧ Below w.heap.size w w' := by
  by_cases hr : (1 ≤ n ∧ n ≤ 2000) ∧ L.length ≤ 60
  · obtain ⟨W, rfl⟩ := Int.eq_ofNat_of_zero_le (show 0 ≤ n by omega)
    have HW := Hid.mk (show 1 ≤ W ∧ W ≤ 2000 by omega)
    have hL := Hid.mk hr.2
    have HE := Hid.mk hE
    have e1 : ¬ (W : Int) < 1 := by omega
    have e2 : ¬ (2000 : Int) < W := by omega
    have e3 : ¬ (60 : Int) < L.length := by omega
    clear hr hE
    go_enter Try.func8, Try.ntmps8
    go_wp2_with (first
      | (go_at_call 6; refine (known8_any _).mono ?_; rintro e w1 ⟨rfl, hb⟩; have hb1 := Hid.mk hb; clear hb)
      | (go_at_call 9; refine (now_new (W := W) _ HW.out.1 (by have := HW.out; omega)).mono ?_; rintro e w2 ⟨rfl, h⟩; have T0 := Hid.mk (Lf.made h); clear h))
    clear e1 e2 e3
    go_loopw [8, 9] (fun vv ii wr => ∃ (i : Nat) (v : Value) (B : Blks), i ≤ L.length ∧ v = vv ∧ ii = .int .i64 i ∧ Hid (Lf w1 wr (w1.heap.size + 1) w1.heap.size W B v (liveB 0 B) (fun _ => False)) ∧ Hid (B.length ≤ i)) (fun _ ii _ => L.length - (intOf ii).toNat)
    case atStart => exact ⟨0, _, [], Nat.zero_le _, rfl, rfl, T0, Hid.mk (Nat.le_refl _)⟩
    case round =>
      obtain ⟨i, v, B, hi, rfl, rfl, hLf, hBi⟩ := hrel
      by_cases hlt : i < L.length
      · obtain ⟨b, o, rfl, d0, d1, d2⟩ := HE.out.step (hb1.out.trans (hLf.out.below.mono hb1.out.size)) hlt
        have hwi : IntKind.i64.wrap ((i : Int) + 1) = ((i + 1 : Nat) : Int) := by have := hL.out; rw [wrap_id (by omega) (by omega)]; omega
        have hli : (i : Int) < L.length := by omega
        obtain ⟨A, hA⟩ : ∃ A, L[i]'hlt = A := ⟨_, rfl⟩
        rw [hA] at d0 d1 d2
        have HL := Hid.mk hlt
        clear hA hlt
        go_wp2_with (first
          | (go_at_call 24; refine (step_any A w1 wr _ _ W B v _ hLf.out (by have := hBi.out; have := hL.out; have h1 : i < L.length := HL.out; omega)).mono ?_; rintro e w3 ⟨v', B', rfl, h3, h4⟩; have T3 := Hid.mk h3; have HB3 := Hid.mk (show B'.length ≤ i + 1 by have := hBi.out; omega); clear h3 h4))
        obtain ⟨va, vc, hv'⟩ := T3.out.slice
        subst hv'
        obtain ⟨m, hm⟩ : ∃ m, (liveB 0 B').length = m := ⟨_, rfl⟩
        have hmB : m ≤ B'.length := by rw [← hm, liveB_len]; exact numsB_len B' 0
        have HM := Hid.mk (show (liveB 0 B').length = m ∧ m ≤ B'.length ∧ B'.length ≤ 1000 ∧ sumL (liveB 0 B') = usedB B' ∧ usedB B' ≤ W ∧ W ≤ 2000 from ⟨hm, hmB, by have := HB3.out; have := hL.out; have h1 : i < L.length := HL.out; omega, liveB_used B' 0, T3.out.most.1, HW.out.2⟩)
        rw [hm] at T3
        try rw [hm]
        clear hm hmB d0 d1 d2
        go_loopw [11, 12, 13] (fun ff ss kk wr => ∃ (k : Nat), k ≤ m ∧ ff = .bool true ∧ ss = .int .i64 (sumL ((liveB 0 B').take k)) ∧ kk = .int .i64 k ∧ Hid (Lf w1 wr (w1.heap.size + 1) w1.heap.size W B' (.slice va m vc) (liveB 0 B') (fun _ => False))) (fun _ _ kk _ => m - (intOf kk).toNat)
        case atStart => exact ⟨0, Nat.zero_le _, rfl, rfl, rfl, T3⟩
        case round =>
          obtain ⟨k, hk, rfl, rfl, rfl, hK⟩ := hrel
          obtain ⟨hmm, hmB, hB', hsu, hUW, hW2⟩ := HM.out
          have hle := sumL_le (liveB 0 B') k
          by_cases hlt : k < m
          · obtain ⟨x, hx⟩ : ∃ x, (liveB 0 B')[k]? = some x := ⟨_, List.getElem?_eq_getElem (by omega)⟩
            obtain ⟨g, cap', xa, xc, hv, f0, f1, fw⟩ := (show Lf w1 wr (w1.heap.size + 1) w1.heap.size W B' (.slice va (liveB 0 B').length vc) (liveB 0 B') (fun _ => False) by rw [hmm]; exact hK.out).at_ hx
            simp only [Value.slice.injEq, true_and] at hv
            obtain ⟨rfl, rfl⟩ := hv
            have hgd := hK.out.good hx
            have hst := sumL_take hx
            have hle1 := sumL_le (liveB 0 B') (k + 1)
            obtain ⟨Sk, hSk⟩ : ∃ Sk, sumL ((liveB 0 B').take k) = Sk := ⟨_, rfl⟩
            obtain ⟨C, hC⟩ : ∃ C, cls x.2.length = C := ⟨_, rfl⟩
            rw [hSk, hC] at hst
            rw [hSk] at hle
            rw [hSk]
            have hwi : IntKind.i64.wrap ((k : Int) + 1) = ((k + 1 : Nat) : Int) := by rw [wrap_id (by omega) (by omega)]; omega
            have hws : IntKind.i64.wrap ((Sk : Int) + C) = ((Sk + C : Nat) : Int) := by rw [wrap_id (by omega) (by omega)]; omega
            have hkm : (k : Int) < m := by omega
            have hrd := Hid.mk (round_at (N := x.2.length) (C := C) (by omega) (by omega) hC)
            have HX := Hid.mk (show (liveB 0 B')[k]? = some x ∧ x.2.length ≤ 1000 from ⟨hx, hgd.2⟩)
            have HFW := Hid.mk fw
            have HST := Hid.mk hst
            have HK := Hid.mk hlt
            clear hx hgd hst hle1 hle hSk hC fw hlt hmm hmB hB' hsu hUW hW2 hk
            go_wp2_with (first
              | (go_at_call 16; refine (hK.out.get HX.out.1 (by have := HM.out; omega)).mono ?_; rintro e w4 ⟨gv, rfl, h2, hb⟩; obtain ⟨ga, gcap, rfl⟩ := owns_slice h2; have K4 := Hid.mk (hK.out.up hb); have HG4 := Hid.mk h2; have HF4 := Hid.mk (HFW.out.up hb); have f0 := cell_below hb _ _ _ f0; have f1 := cell_below hb _ _ _ f1; clear h2 hb)
              | (go_at_call 13; refine (hrd.out _).mono ?_; rintro e w5 ⟨rfl, rfl⟩)
              | (go_at_call 25; refine (sameWords_any x.2 x.2 ga xa gcap xc _ HG4.out.celA HF4.out.celA (by have := HX.out.2; omega)).mono ?_; rintro e w6 ⟨rfl, hb⟩; rw [decide_eq_true (rfl : x.2 = x.2)]; have K6 := Hid.mk (K4.out.up hb); clear hb))
            go_roundw
            case rel => exact ⟨k + 1, HK.out, by first | rfl | simp, by rw [HST.out]; first | rfl | simp, by first | rfl | go_num, K6⟩
            case measure => have h1 : k < m := HK.out; simp [intOf]; omega
          · obtain rfl : k = m := by omega
            obtain ⟨U, hU⟩ : ∃ U, usedB B' = U := ⟨_, rfl⟩
            have hsum : sumL ((liveB 0 B').take k) = U := by rw [← hmm, List.take_length, hsu, hU]
            rw [hsum]
            have hus := Hid.mk (fun w4 (h4 : Lf w1 w4 (w1.heap.size + 1) w1.heap.size W B' (.slice va k vc) (liveB 0 B') (fun _ => False)) => (hU ▸ h4.used : Calls Try.prog 20 #[.pointer (some ⟨w1.heap.size + 1, 0, none⟩)] w4 fun e w' => e = .returned (.int .i64 U) ∧ Below w4.heap.size w4 w'))
            have hlf := Hid.mk (fun w4 (h4 : Lf w1 w4 (w1.heap.size + 1) w1.heap.size W B' (.slice va k vc) (liveB 0 B') (fun _ => False)) => (hU ▸ h4.left : Calls Try.prog 19 #[.pointer (some ⟨w1.heap.size + 1, 0, none⟩)] w4 fun e w' => e = .returned (.int .i64 ((W : Int) - U)) ∧ Below w4.heap.size w4 w'))
            have hbk := Hid.mk (fun w4 (h4 : Lf w1 w4 (w1.heap.size + 1) w1.heap.size W B' (.slice va k vc) (liveB 0 B') (fun _ => False)) => (hmm ▸ h4.blocks hB' : Calls Try.prog 21 #[.pointer (some ⟨w1.heap.size + 1, 0, none⟩)] w4 fun e w' => ∃ a cap, e = .returned (.slice a k cap) ∧ Below w4.heap.size w4 w'))
            have hws : IntKind.i64.wrap ((W : Int) - U) = (W : Int) - U := wrap_id (by omega) (by omega)
            clear hlt hmm hmB hB' hsu hUW hW2 hk hle hU hsum
            go_wp2_with (first
              | (go_at_call 20; refine (hus.out _ hK.out).mono ?_; rintro e w4 ⟨rfl, hb⟩; have K4 := Hid.mk (hK.out.up hb); clear hb)
              | (go_at_call 19; refine (hlf.out _ K4.out).mono ?_; rintro e w5 ⟨rfl, hb⟩; have K5 := Hid.mk (K4.out.up hb); clear hb)
              | (go_at_call 21; refine (hbk.out _ K5.out).mono ?_; rintro e w6 ⟨ba, bc, rfl, hb⟩; have K6 := Hid.mk (K5.out.up hb); clear hb))
            go_roundw
            case rel => exact ⟨i + 1, _, B', HL.out, rfl, by first | rfl | go_num, K6, HB3⟩
            case measure => have h1 : i < L.length := HL.out; simp [intOf]; omega
      · obtain rfl : i = L.length := by omega
        clear hlt
        go_wp2
        go_ret
        exact ⟨rfl, hb1.out.trans (hLf.out.below.mono hb1.out.size)⟩
  · by_cases h1 : n < 1
    · clear hr hE
      go_enter Try.func8, Try.ntmps8
      go_wp2_with (go_at_call 6; refine (known8_any _).mono ?_; rintro e x1 ⟨rfl, hb⟩)
      go_ret
      exact ⟨rfl, hb⟩
    · by_cases h2 : 2000 < n
      · clear hr hE
        go_enter Try.func8, Try.ntmps8
        go_wp2_with (go_at_call 6; refine (known8_any _).mono ?_; rintro e x1 ⟨rfl, hb⟩)
        go_ret
        exact ⟨rfl, hb⟩
      · have h3 : (60 : Int) < L.length := by omega
        have h3' : 60 < L.length := by omega
        clear hr hE
        go_enter Try.func8, Try.ntmps8
        go_wp2_with (go_at_call 6; refine (known8_any _).mono ?_; rintro e x1 ⟨rfl, hb⟩)
        go_ret
        exact ⟨rfl, hb⟩
end Go.Proofs.Ytpfcbokckjfhbaa
