/-
  slices' swapRangeCmpFunc at terms.
-/
import Derived.Test.YtabcekeeekbdiaaDoorOrdRow
namespace Go.Proofs.YtabcekeeekbdiaaDoor
open Go.RowKit Go.Deep

/-- Package order's Compare, as a value. -/
abbrev cmpV : Value := .func (.func 6) #[] #[]

set_option maxHeartbeats 2000000 in
theorem swaprange_any (w0 : World) (S : Nat → Prop) (g cap : Nat) (l0 : List Tm) (a b n : Nat) (hab : a + n ≤ b) (hbn : b + n ≤ l0.length) (_hcap : l0.length ≤ cap) (hlen : l0.length ≤ 1000000) (w : World) (h : Rw w0 S g l0 w) :
    Calls Tryd.prog 58 #[.slice (some ⟨g, 0, none⟩) l0.length cap, .int .i64 a, .int .i64 b, .int .i64 n, cmpV] w fun e w' => e = .returned (.tuple #[]) ∧ Rw w0 S g (swapR l0 a b n) w' ∧ Up w0 w' := by
  have h0 := Hid.mk h
  clear h
  obtain ⟨L, hL⟩ : ∃ L, L = l0.length := ⟨_, rfl⟩
  rw [← hL] at hbn _hcap hlen ⊢
  have hLh := Hid.mk hL
  clear hL
  go_enter Tryd.func58, Tryd.ntmps58
  go_wp2
  go_loopw [10] (fun ii wr => ∃ i : Nat, i ≤ n ∧ ii = .int .i64 i ∧ Hid (Rw w0 S g (swapR l0 a b i) wr)) (fun ii _ => n - (intOf ii).toNat)
  case atStart => exact ⟨0, Nat.zero_le _, rfl, h0⟩
  case round =>
    obtain ⟨i, hi, rfl, hrw⟩ := hrel
    by_cases hlt : i < n
    · have hll := (swapR_length l0 a b i).trans hLh.out.symm
      have hrw := hrw.out
      have hsw : swapR l0 a b (i + 1) = swap2 (swapR l0 a b i) (a + i) (b + i) := rfl
      obtain ⟨p, hpe⟩ : ∃ p, a + i = p := ⟨_, rfl⟩
      obtain ⟨q, hqe⟩ : ∃ q, b + i = q := ⟨_, rfl⟩
      rw [hpe, hqe] at hsw
      generalize swapR l0 a b i = l at hll hrw hsw
      have hpa : p < l.length := by omega
      have hpb : q < l.length := by omega
      have hnext := Hid.mk (hsw.trans (swap2_eq hpa hpb))
      obtain ⟨k, n1, s, a1, m, c, hlx, x0, x1, x2, x3⟩ := hrw.at p hpa
      obtain ⟨k', n', s', a', m', c', hly, y0, y1, y2, y3⟩ := hrw.at q hpb
      have hp1 := hrw.drew.put p hpa hly
      have hpb' : q < (l.set p l[q]).length := by rw [List.length_set]; exact hpb
      have hp2 := Hid.mk (hp1.put q hpb' hlx)
      have hpa := Hid.mk hpa
      have hpb' := Hid.mk hpb'
      have hp1 := Hid.mk hp1
      have hrd := Hid.mk hrw.drew
      have wA : IntKind.i64.wrap ((a : Int) + (i : Int)) = (p : Int) := by rw [IntKind.wrap_i64]; omega
      have wB : IntKind.i64.wrap ((b : Int) + (i : Int)) = (q : Int) := by rw [IntKind.wrap_i64]; omega
      have dp : (0 : Int) ≤ (p : Int) := by omega
      have dp' : (p : Int) < (L : Int) := by omega
      have dpn : p < L := by omega
      have dqn : q < L := by omega
      have dq : (0 : Int) ≤ (q : Int) := by omega
      have dq' : (q : Int) < (L : Int) := by omega
      clear hlx hly hsw hrw
      go_upto_region 3 with fail
      refine wp_region_held (S := fun _ => True) (by kernel_rfl) ?_
      refine chain_take (i := 0) (d := 16) (v := .slice (some ⟨g, 0, none⟩) L cap) rfl rfl (by kernel_rfl) (by kernel_rfl) (by kernel_rfl) rfl (fun _ _ => rfl) (fun _ _ _ h => h) trivial ?_
      simp only [Act.put, List.setIfInBounds_toArray, List.set_cons_zero, List.set_cons_succ]
      refine chain_take (i := 1) (d := 17) (v := .int .i64 a) rfl rfl (by kernel_rfl) (by kernel_rfl) (by kernel_rfl) rfl (fun _ _ => rfl) (fun _ _ _ h => h) trivial ?_
      simp only [Act.put, List.setIfInBounds_toArray, List.set_cons_zero, List.set_cons_succ]
      refine chain_take (i := 2) (d := 18) (v := .int .i64 i) rfl rfl (by kernel_rfl) (by kernel_rfl) (by kernel_rfl) rfl (fun _ _ => rfl) (fun _ _ _ h => h) trivial ?_
      simp only [Act.put, List.setIfInBounds_toArray, List.set_cons_zero, List.set_cons_succ]
      refine chain_take (i := 3) (d := 19) (v := .int .i64 p) rfl rfl (by kernel_rfl) (by kernel_rfl) (by kernel_rfl) rfl (fun _ _ => (by go_simp)) (fun _ _ _ h => h) trivial ?_
      simp only [Act.put, List.setIfInBounds_toArray, List.set_cons_zero, List.set_cons_succ]
      refine chain_take (i := 4) (d := 20) (v := .slice (some ⟨g, 0, none⟩) L cap) rfl rfl (by kernel_rfl) (by kernel_rfl) (by kernel_rfl) rfl (fun _ _ => rfl) (fun _ _ _ h => h) trivial ?_
      simp only [Act.put, List.setIfInBounds_toArray, List.set_cons_zero, List.set_cons_succ]
      refine chain_take (i := 5) (d := 21) (v := .int .i64 b) rfl rfl (by kernel_rfl) (by kernel_rfl) (by kernel_rfl) rfl (fun _ _ => rfl) (fun _ _ _ h => h) trivial ?_
      simp only [Act.put, List.setIfInBounds_toArray, List.set_cons_zero, List.set_cons_succ]
      refine chain_take (i := 6) (d := 22) (v := .int .i64 i) rfl rfl (by kernel_rfl) (by kernel_rfl) (by kernel_rfl) rfl (fun _ _ => rfl) (fun _ _ _ h => h) trivial ?_
      simp only [Act.put, List.setIfInBounds_toArray, List.set_cons_zero, List.set_cons_succ]
      refine chain_take (i := 7) (d := 23) (v := .int .i64 q) rfl rfl (by kernel_rfl) (by kernel_rfl) (by kernel_rfl) rfl (fun _ _ => (by go_simp)) (fun _ _ _ h => h) trivial ?_
      simp only [Act.put, List.setIfInBounds_toArray, List.set_cons_zero, List.set_cons_succ]
      refine chain_take (i := 8) (d := 24) (v := .slice (some ⟨g, 0, none⟩) L cap) rfl rfl (by kernel_rfl) (by kernel_rfl) (by kernel_rfl) rfl (fun _ _ => rfl) (fun _ _ _ h => h) trivial ?_
      simp only [Act.put, List.setIfInBounds_toArray, List.set_cons_zero, List.set_cons_succ]
      refine chain_take (i := 9) (d := 25) (v := .int .i64 b) rfl rfl (by kernel_rfl) (by kernel_rfl) (by kernel_rfl) rfl (fun _ _ => rfl) (fun _ _ _ h => h) trivial ?_
      simp only [Act.put, List.setIfInBounds_toArray, List.set_cons_zero, List.set_cons_succ]
      refine chain_take (i := 10) (d := 26) (v := .int .i64 i) rfl rfl (by kernel_rfl) (by kernel_rfl) (by kernel_rfl) rfl (fun _ _ => rfl) (fun _ _ _ h => h) trivial ?_
      simp only [Act.put, List.setIfInBounds_toArray, List.set_cons_zero, List.set_cons_succ]
      refine chain_take (i := 11) (d := 27) (v := .int .i64 q) rfl rfl (by kernel_rfl) (by kernel_rfl) (by kernel_rfl) rfl (fun _ _ => (by go_simp)) (fun _ _ _ h => h) trivial ?_
      simp only [Act.put, List.setIfInBounds_toArray, List.set_cons_zero, List.set_cons_succ]
      refine chain_take (i := 12) (d := 28) (v := .pointer (some ⟨g, q * 4, none⟩)) rfl rfl (by kernel_rfl) (by kernel_rfl) (by kernel_rfl) rfl (fun _ _ => (by go_simp)) (fun _ _ _ h => h) trivial ?_
      simp only [Act.put, List.setIfInBounds_toArray, List.set_cons_zero, List.set_cons_succ]
      refine chain_take (i := 14) (d := 30) (v := .slice (some ⟨g, 0, none⟩) L cap) rfl rfl (by kernel_rfl) (by kernel_rfl) (by kernel_rfl) rfl (fun _ _ => rfl) (fun _ _ _ h => h) trivial ?_
      simp only [Act.put, List.setIfInBounds_toArray, List.set_cons_zero, List.set_cons_succ]
      refine chain_take (i := 15) (d := 31) (v := .int .i64 a) rfl rfl (by kernel_rfl) (by kernel_rfl) (by kernel_rfl) rfl (fun _ _ => rfl) (fun _ _ _ h => h) trivial ?_
      simp only [Act.put, List.setIfInBounds_toArray, List.set_cons_zero, List.set_cons_succ]
      refine chain_take (i := 16) (d := 32) (v := .int .i64 i) rfl rfl (by kernel_rfl) (by kernel_rfl) (by kernel_rfl) rfl (fun _ _ => rfl) (fun _ _ _ h => h) trivial ?_
      simp only [Act.put, List.setIfInBounds_toArray, List.set_cons_zero, List.set_cons_succ]
      refine chain_take (i := 17) (d := 33) (v := .int .i64 p) rfl rfl (by kernel_rfl) (by kernel_rfl) (by kernel_rfl) rfl (fun _ _ => (by go_simp)) (fun _ _ _ h => h) trivial ?_
      simp only [Act.put, List.setIfInBounds_toArray, List.set_cons_zero, List.set_cons_succ]
      refine chain_take (i := 18) (d := 34) (v := .pointer (some ⟨g, p * 4, none⟩)) rfl rfl (by kernel_rfl) (by kernel_rfl) (by kernel_rfl) rfl (fun _ _ => (by go_simp)) (fun _ _ _ h => h) trivial ?_
      simp only [Act.put, List.setIfInBounds_toArray, List.set_cons_zero, List.set_cons_succ]
      refine chain_pair (i := 13) (j := 19) (d := 29) (e := 35) (u := .agg #[.int .i64 k', .int .i64 n', .string s', .slice a' m' c']) (v := .agg #[.int .i64 k, .int .i64 n1, .string s, .slice a1 m c]) (by kernel_rfl) rfl rfl rfl rfl (by decide) (by decide) (by kernel_rfl) (by kernel_rfl) rfl rfl rfl rfl (by go_simp) (by go_simp) (by go_simp) (by go_simp) trivial ?_
      simp only [Act.put, List.setIfInBounds_toArray, List.set_cons_zero, List.set_cons_succ]
      refine chain_value (i := 20) (d := 36) (v := .pointer (some ⟨g, p * 4, none⟩)) (w' := wr.drew) (by kernel_rfl) rfl rfl rfl (by go_simp) trivial ?_
      simp only [Act.put, List.setIfInBounds_toArray, List.set_cons_zero, List.set_cons_succ]
      refine chain_skip (i := 21) (w' := put4 wr.drew g (p * 4) (.int .i64 k') (.int .i64 n') (.string s') (.slice a' m' c')) (by kernel_rfl) rfl rfl rfl (hrd.out.store p hpa.out rfl rfl _ _ _ _) trivial ?_
      refine chain_value (i := 22) (d := 37) (v := .pointer (some ⟨g, q * 4, none⟩)) (w' := put4 wr.drew g (p * 4) (.int .i64 k') (.int .i64 n') (.string s') (.slice a' m' c')) (by kernel_rfl) rfl rfl rfl (by go_simp) trivial ?_
      simp only [Act.put, List.setIfInBounds_toArray, List.set_cons_zero, List.set_cons_succ]
      refine chain_skip (i := 23) (w' := put4 (put4 wr.drew g (p * 4) (.int .i64 k') (.int .i64 n') (.string s') (.slice a' m' c')) g (q * 4) (.int .i64 k) (.int .i64 n1) (.string s) (.slice a1 m c)) (by kernel_rfl) rfl rfl rfl (hp1.out.store q hpb'.out rfl rfl _ _ _ _) trivial ?_
      refine wpAnyH_done (by kernel_rfl) ?_ _
      go_wp2
      go_roundw
      case rel => exact ⟨i + 1, hlt, by go_num, Hid.mk (by rw [hnext.out]; exact hp2.out)⟩
      case measure => simp [intOf]; omega
    · obtain rfl : i = n := by omega
      go_wp2
      refine bodyPost_end (results_none rfl _ _ _) rfl ?_
      exact ⟨rfl, hrw.out, hrw.out.up⟩

end Go.Proofs.YtabcekeeekbdiaaDoor
