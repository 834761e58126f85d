/-
  TreeRows returns true.
-/
import Derived.Test.YteklhipcojioaaaDoorZTreeNum
namespace Go.Proofs.YteklhipcojioaaaDoor
open Go.RowKit Go.Deep Go.Maps Go.WideShapes

set_option maxHeartbeats 8000000 in
set_option maxRecDepth 100000 in
theorem lawRows11r (a b : Int) (w : World) (hst : ShapeTab w) :
    Calls Tryd.prog 7 #[.int .i64 a, .int .i64 b, .bool false] w fun e w' => e = .returned (.bool true) ∧ Below w.heap.size w w' := by
  obtain ⟨y, hy, hpick⟩ := pick_fun a 600 (by omega) (by omega)
  obtain ⟨m, hm⟩ : ∃ m, y + 1 = m := ⟨_, rfl⟩
  have hwm : IntKind.i64.wrap (1 + (y : Int)) = (m : Int) := by rw [wrap_id (by omega) (by omega)]; omega
  have HM := Hid.mk (show 1 ≤ m ∧ m ≤ 600 by omega)
  obtain ⟨k, hk, hpick2⟩ := pick_fun b (m : Int) (by omega) (by omega)
  have HKM := Hid.mk (show k < m by omega)
  have HP := Hid.mk hpick
  have HP2 := Hid.mk hpick2
  have HST := Hid.mk hst
  clear hst hpick hpick2 hk hm hy
  go_enter Tryd.func7, Tryd.ntmps7
  go_wp2_with (first
    | (go_at_call 8; refine (to_new _).mono ?_; rintro e w2 ⟨p, rfl, h⟩; have H2 := Hid.mk h; clear h)
    | (go_at_call 33; refine (HP.out _).mono ?_; rintro e x ⟨rfl, rfl⟩)
    | (go_at_call 5; refine (known11 w HST.out).mono ?_; rintro e w1 ⟨rfl, hb⟩; have B1 := Hid.mk hb; have HS1 := Hid.mk (HST.out.below hb); clear hb))
  go_loopw [9] (fun ii wr => ∃ (i : Nat) (c ht : Int), i ≤ m ∧ ii = .int .i64 i ∧ Hid (To w1 wr p (numL 0 i) c ht (fun _ => False)) ∧ Hid (0 ≤ c ∧ c ≤ 39 * i)) (fun ii _ => m - (intOf ii).toNat)
  case atStart => exact ⟨0, 0, 0, Nat.zero_le _, rfl, H2, Hid.mk ⟨by omega, by omega⟩⟩
  case round =>
    obtain ⟨i, c, ht, hi, rfl, hX, hI⟩ := hrel
    have hmm := HM.out
    by_cases hlt : i < m
    · have HIL := Hid.mk hlt
      have hil : (i : Int) < m := by omega
      have hwi : IntKind.i64.wrap ((i : Int) + 1) = ((i + 1 : Nat) : Int) := by rw [wrap_id (by omega) (by omega)]; omega
      obtain ⟨HX2, hx2⟩ : ∃ X, numL 0 (i + 1) = X := ⟨_, rfl⟩
      have HPUT := Hid.mk (show isN (numL 0 i) (.num i) = false ∧ getN (numL 0 i) (.num i) = 0 ∧ putN (numL 0 i) (.num i) i = HX2 by rw [← hx2]; exact put_end i)
      have HEQ := Hid.mk hx2.symm
      clear hx2
      have HSZ := Hid.mk (show SizeT (numL 0 i) c by have h1 := hI.out; exact ⟨by rw [numL_len]; omega, by omega, by omega⟩)
      have HKO := Hid.mk (num_ok (k := i) (by omega))
      have HKB := Hid.mk (show (-9223372036854775808 : Int) ≤ (i : Nat) ∧ ((i : Nat) : Int) ≤ 9223372036854775807 by omega)
      clear hlt hmm
      go_wp2_with (first
        | (go_at_call 20; refine (H3.out.putk (L2 := HX2) HSZ.out (num_is _ _ _ HKB.out.1 HKB.out.2) HKO.out HS1.out HPUT.out.2.1 HPUT.out.1 HPUT.out.2.2).mono ?_; rintro e w4 ⟨rfl, c', ht', h, hc1, hc2, _⟩; have H4 := Hid.mk h; have HC := Hid.mk (And.intro hc1 hc2); clear h hc1 hc2)
        | (go_at_call 28; refine (num_any _ _).mono ?_; rintro e w3 ⟨rfl, hb⟩; have H3 := Hid.mk (hX.out.up hb); clear hb))
      go_roundw
      case rel => exact ⟨i + 1, c', ht', HIL.out, by first | rfl | simp, by rw [← HEQ.out]; exact H4, Hid.mk (by have h1 := hI.out; have h2 := HC.out; exact ⟨by omega, by omega⟩)⟩
      case measure => have h1 : i < m := HIL.out; simp [intOf]; omega
    · obtain rfl : i = m := by omega
      have HX := Hid.mk (show To w1 wr p (numL 0 i) c ht (fun _ => False) from hX.out)
      have HG := Hid.mk (is_mid 0 i k (by omega) (by have := HKM.out; omega))
      have HSZ := Hid.mk (show SizeT (numL 0 i) c by have h1 := hI.out; exact ⟨by rw [numL_len]; omega, by omega, by omega⟩)
      have HKB := Hid.mk (show (-9223372036854775808 : Int) ≤ (k : Nat) ∧ ((k : Nat) : Int) ≤ 9223372036854775807 by have := HKM.out; omega)
      obtain ⟨V, hV⟩ : ∃ V, mostV i = V := ⟨_, rfl⟩
      have hlow := HX.out.low
      rw [numL_len] at hlow
      have hv1 : ht ≤ V := by rw [← hV]; exact low_most hlow.1
      have hv2 : 1 ≤ ht := by have h0 := hlow.1.1; have h1 := hlow.2; omega
      have HV := Hid.mk hV
      have HSS : Hid (∀ x : Int, LowI x (numL 0 i).length → x ≤ V) := Hid.mk (fun x hx => by rw [numL_len] at hx; rw [← hV]; exact low_most hx)
      clear hlt hmm hX hlow hV
      go_wp2_with (first
        | (have g := H9; go_at_call 14; refine H9.out.height.mono ?_; rintro e wa ⟨rfl, hb⟩; have HE := Hid.mk (H9.out.up hb); clear hb)
        | (go_at_call 14; refine H8.out.height.mono ?_; rintro e w9 ⟨rfl, hb⟩; have H9 := Hid.mk (H8.out.up hb); clear hb)
        | (go_at_call 34; refine (most_any i HM.out.2 _).mono ?_; rw [HV.out]; rintro e w9 ⟨rfl, rfl⟩)
        | (have g := H7; go_at_call 10; refine H7.out.compared.mono ?_; rintro e w8 ⟨rfl, hb⟩; have H8 := Hid.mk (H7.out.up hb); clear hb)
        | (go_at_call 21; refine (H6.out.getk HSZ.out (num_is _ _ _ HKB.out.1 HKB.out.2) HG.out.2 HG.out.1).mono ?_; rintro e w7 ⟨rfl, c', h, hc1, hc2, hc3, hc4, _⟩; have H7 := Hid.mk h; have hd1 := hc4 rfl; have hd2 := HSS.out _ hc3; obtain ⟨S, hS⟩ : ∃ S, c' - c = S := ⟨_, rfl⟩; have hwS : IntKind.i64.wrap (c' - c) = S := (by rw [wrap_id (by omega) (by omega)]; exact hS); rw [hS] at hd2; have hd1 : 1 ≤ S := (by omega); clear h hc1 hc2 hc3 hc4 hS)
        | (go_at_call 28; refine (num_any _ _).mono ?_; rintro e w6 ⟨rfl, hb⟩; have H6 := Hid.mk (H5.out.up hb); clear hb)
        | (go_at_call 33; refine (HP2.out _).mono ?_; rintro e x ⟨rfl, rfl⟩)
        | (go_at_call 10; refine HX.out.compared.mono ?_; rintro e w5 ⟨rfl, hb⟩; have H5 := Hid.mk (HX.out.up hb); clear hb))
      go_ret
      exact ⟨rfl, B1.out.trans (HE.out.below.mono B1.out.size)⟩
set_option maxHeartbeats 8000000 in
set_option maxRecDepth 100000 in
theorem lawRows11f (a b : Int) (w : World) (hst : ShapeTab w) :
    Calls Tryd.prog 7 #[.int .i64 a, .int .i64 b, .bool true] w fun e w' => e = .returned (.bool true) ∧ Below w.heap.size w w' := by
  obtain ⟨y, hy, hpick⟩ := pick_fun a 600 (by omega) (by omega)
  obtain ⟨m, hm⟩ : ∃ m, y + 1 = m := ⟨_, rfl⟩
  have hwm : IntKind.i64.wrap (1 + (y : Int)) = (m : Int) := by rw [wrap_id (by omega) (by omega)]; omega
  have HM := Hid.mk (show 1 ≤ m ∧ m ≤ 600 by omega)
  obtain ⟨k, hk, hpick2⟩ := pick_fun b (m : Int) (by omega) (by omega)
  have HKM := Hid.mk (show k < m by omega)
  have HP := Hid.mk hpick
  have HP2 := Hid.mk hpick2
  have HST := Hid.mk hst
  clear hst hpick hpick2 hk hm hy
  go_enter Tryd.func7, Tryd.ntmps7
  go_wp2_with (first
    | (go_at_call 8; refine (to_new _).mono ?_; rintro e w2 ⟨p, rfl, h⟩; have H2 := Hid.mk h; clear h)
    | (go_at_call 33; refine (HP.out _).mono ?_; rintro e x ⟨rfl, rfl⟩)
    | (go_at_call 5; refine (known11 w HST.out).mono ?_; rintro e w1 ⟨rfl, hb⟩; have B1 := Hid.mk hb; have HS1 := Hid.mk (HST.out.below hb); clear hb))
  go_loopw [9] (fun ii wr => ∃ (i : Nat) (c ht : Int), i ≤ m ∧ ii = .int .i64 i ∧ Hid (To w1 wr p (numL (m - i) i) c ht (fun _ => False)) ∧ Hid (0 ≤ c ∧ c ≤ 39 * i)) (fun ii _ => m - (intOf ii).toNat)
  case atStart => exact ⟨0, 0, 0, Nat.zero_le _, rfl, H2, Hid.mk ⟨by omega, by omega⟩⟩
  case round =>
    obtain ⟨i, c, ht, hi, rfl, hX, hI⟩ := hrel
    have hmm := HM.out
    by_cases hlt : i < m
    · have HIL := Hid.mk hlt
      have hil : (i : Int) < m := by omega
      have hwi : IntKind.i64.wrap ((i : Int) + 1) = ((i + 1 : Nat) : Int) := by rw [wrap_id (by omega) (by omega)]; omega
      obtain ⟨K, hK⟩ : ∃ K, m - 1 - i = K := ⟨_, rfl⟩
      obtain ⟨M1, hM1⟩ : ∃ M1, m - 1 = M1 := ⟨_, rfl⟩
      have hwa : IntKind.i64.wrap ((m : Int) - 1) = (M1 : Int) := by rw [wrap_id (by omega) (by omega)]; omega
      have hwk : IntKind.i64.wrap ((M1 : Int) - i) = (K : Int) := by rw [wrap_id (by omega) (by omega)]; omega
      have hmi : m - i = K + 1 := by omega
      have hmi2 : m - (i + 1) = K := by omega
      obtain ⟨HX2, hx2⟩ : ∃ X, numL (m - (i + 1)) (i + 1) = X := ⟨_, rfl⟩
      have HPUT := Hid.mk (show isN (numL (m - i) i) (.num K) = false ∧ getN (numL (m - i) i) (.num K) = 0 ∧ putN (numL (m - i) i) (.num K) K = HX2 by rw [hmi, ← hx2, hmi2]; exact put_front K i)
      have HEQ := Hid.mk hx2.symm
      have hK6 : K ≤ 600 := by omega
      clear hx2 hmi hmi2 hM1 hK
      have HSZ := Hid.mk (show SizeT (numL (m - i) i) c by have h1 := hI.out; exact ⟨by rw [numL_len]; omega, by omega, by omega⟩)
      have HKO := Hid.mk (num_ok (k := K) (by omega))
      have HKB := Hid.mk (show (-9223372036854775808 : Int) ≤ (K : Nat) ∧ ((K : Nat) : Int) ≤ 9223372036854775807 by omega)
      clear hlt hmm
      go_wp2_with (first
        | (go_at_call 20; refine (H3.out.putk (L2 := HX2) HSZ.out (num_is _ _ _ HKB.out.1 HKB.out.2) HKO.out HS1.out HPUT.out.2.1 HPUT.out.1 HPUT.out.2.2).mono ?_; rintro e w4 ⟨rfl, c', ht', h, hc1, hc2, _⟩; have H4 := Hid.mk h; have HC := Hid.mk (And.intro hc1 hc2); clear h hc1 hc2)
        | (go_at_call 28; refine (num_any _ _).mono ?_; rintro e w3 ⟨rfl, hb⟩; have H3 := Hid.mk (hX.out.up hb); clear hb))
      go_roundw
      case rel => exact ⟨i + 1, c', ht', HIL.out, by first | rfl | simp, by rw [← HEQ.out]; exact H4, Hid.mk (by have h1 := hI.out; have h2 := HC.out; exact ⟨by omega, by omega⟩)⟩
      case measure => have h1 : i < m := HIL.out; simp [intOf]; omega
    · obtain rfl : i = m := by omega
      have HX := Hid.mk (show To w1 wr p (numL 0 i) c ht (fun _ => False) from (by have h := hX.out; rwa [Nat.sub_self] at h))
      have HG := Hid.mk (is_mid 0 i k (by omega) (by have := HKM.out; omega))
      have HSZ := Hid.mk (show SizeT (numL 0 i) c by have h1 := hI.out; exact ⟨by rw [numL_len]; omega, by omega, by omega⟩)
      have HKB := Hid.mk (show (-9223372036854775808 : Int) ≤ (k : Nat) ∧ ((k : Nat) : Int) ≤ 9223372036854775807 by have := HKM.out; omega)
      obtain ⟨V, hV⟩ : ∃ V, mostV i = V := ⟨_, rfl⟩
      have hlow := HX.out.low
      rw [numL_len] at hlow
      have hv1 : ht ≤ V := by rw [← hV]; exact low_most hlow.1
      have hv2 : 1 ≤ ht := by have h0 := hlow.1.1; have h1 := hlow.2; omega
      have HV := Hid.mk hV
      have HSS : Hid (∀ x : Int, LowI x (numL 0 i).length → x ≤ V) := Hid.mk (fun x hx => by rw [numL_len] at hx; rw [← hV]; exact low_most hx)
      clear hlt hmm hX hlow hV
      go_wp2_with (first
        | (have g := H9; go_at_call 14; refine H9.out.height.mono ?_; rintro e wa ⟨rfl, hb⟩; have HE := Hid.mk (H9.out.up hb); clear hb)
        | (go_at_call 14; refine H8.out.height.mono ?_; rintro e w9 ⟨rfl, hb⟩; have H9 := Hid.mk (H8.out.up hb); clear hb)
        | (go_at_call 34; refine (most_any i HM.out.2 _).mono ?_; rw [HV.out]; rintro e w9 ⟨rfl, rfl⟩)
        | (have g := H7; go_at_call 10; refine H7.out.compared.mono ?_; rintro e w8 ⟨rfl, hb⟩; have H8 := Hid.mk (H7.out.up hb); clear hb)
        | (go_at_call 21; refine (H6.out.getk HSZ.out (num_is _ _ _ HKB.out.1 HKB.out.2) HG.out.2 HG.out.1).mono ?_; rintro e w7 ⟨rfl, c', h, hc1, hc2, hc3, hc4, _⟩; have H7 := Hid.mk h; have hd1 := hc4 rfl; have hd2 := HSS.out _ hc3; obtain ⟨S, hS⟩ : ∃ S, c' - c = S := ⟨_, rfl⟩; have hwS : IntKind.i64.wrap (c' - c) = S := (by rw [wrap_id (by omega) (by omega)]; exact hS); rw [hS] at hd2; have hd1 : 1 ≤ S := (by omega); clear h hc1 hc2 hc3 hc4 hS)
        | (go_at_call 28; refine (num_any _ _).mono ?_; rintro e w6 ⟨rfl, hb⟩; have H6 := Hid.mk (H5.out.up hb); clear hb)
        | (go_at_call 33; refine (HP2.out _).mono ?_; rintro e x ⟨rfl, rfl⟩)
        | (go_at_call 10; refine HX.out.compared.mono ?_; rintro e w5 ⟨rfl, hb⟩; have H5 := Hid.mk (HX.out.up hb); clear hb))
      go_ret
      exact ⟨rfl, B1.out.trans (HE.out.below.mono B1.out.size)⟩
theorem lawRows11 (a b : Int) (t : Bool) (w : World) (hst : ShapeTab w) :
    Calls Tryd.prog 7 #[.int .i64 a, .int .i64 b, .bool t] w fun e w' => e = .returned (.bool true) ∧ Below w.heap.size w w' := by
  cases t
  · exact lawRows11r a b w hst
  · exact lawRows11f a b w hst
end Go.Proofs.YteklhipcojioaaaDoor
