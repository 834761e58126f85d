/-
  slices' swapRangeCmpFunc at terms.
-/
import Derived.Test.YteklhipcojioaaaDoorZOrdRow
import Derived.Test.YteklhipcojioaaaDoorZOrdSortRef
namespace Go.Proofs.YteklhipcojioaaaDoor
open Go.RowKit Go.Deep

/-- Package order's Compare, as a value. -/
abbrev cmpV : Value := .func (.func 70) #[] #[]

set_option maxHeartbeats 2000000 in
theorem swaprange_any (w0 : World) (S : Nat → Prop) (g cap : Nat) (l0 : List Tm) (a b n : Nat) (hab : a + n ≤ b) (hbn : b + n ≤ l0.length) (_hcap : l0.length ≤ cap) (hlen : l0.length ≤ 1000000) (w : World) (h : Rw w0 S g l0 w) :
    Calls Tryd.prog 103 #[.slice (some ⟨g, 0, none⟩) l0.length cap, .int .i64 a, .int .i64 b, .int .i64 n, cmpV] w fun e w' => e = .returned (.tuple #[]) ∧ Rw w0 S g (swapR l0 a b n) w' ∧ Up w0 w' := by
  have h0 := Hid.mk h
  clear h
  obtain ⟨L, hL⟩ : ∃ L, L = l0.length := ⟨_, rfl⟩
  rw [← hL] at hbn _hcap hlen ⊢
  have hLh := Hid.mk hL
  clear hL
  go_enter Tryd.func103, Tryd.ntmps103
  go_wp2
  go_loopw [10] (fun ii wr => ∃ i : Nat, i ≤ n ∧ ii = .int .i64 i ∧ Hid (Rw w0 S g (swapR l0 a b i) wr)) (fun ii _ => n - (intOf ii).toNat)
  case atStart => exact ⟨0, Nat.zero_le _, rfl, h0⟩
  case round =>
    obtain ⟨i, hi, rfl, hrw⟩ := hrel
    by_cases hlt : i < n
    · have hll := (swapR_length l0 a b i).trans hLh.out.symm
      have hrw := hrw.out
      have hsw : swapR l0 a b (i + 1) = swap2 (swapR l0 a b i) (a + i) (b + i) := rfl
      obtain ⟨p, hpe⟩ : ∃ p, a + i = p := ⟨_, rfl⟩
      obtain ⟨q, hqe⟩ : ∃ q, b + i = q := ⟨_, rfl⟩
      rw [hpe, hqe] at hsw
      generalize swapR l0 a b i = l at hll hrw hsw
      have hpa : p < l.length := by omega
      have hpb : q < l.length := by omega
      have hnext := Hid.mk (hsw.trans (swap2_eq hpa hpb))
      obtain ⟨k, n1, s, a1, m, c, hlx, x0, x1, x2, x3⟩ := hrw.at p hpa
      obtain ⟨k', n', s', a', m', c', hly, y0, y1, y2, y3⟩ := hrw.at q hpb
      have hp1 := hrw.drew.put p hpa hly
      have hpb' : q < (l.set p l[q]).length := by rw [List.length_set]; exact hpb
      have hp2 := Hid.mk (hp1.put q hpb' hlx)
      have hpa := Hid.mk hpa
      have hpb' := Hid.mk hpb'
      have hp1 := Hid.mk hp1
      have hrd := Hid.mk hrw.drew
      have wA : IntKind.i64.wrap ((a : Int) + (i : Int)) = (p : Int) := by rw [IntKind.wrap_i64]; omega
      have wB : IntKind.i64.wrap ((b : Int) + (i : Int)) = (q : Int) := by rw [IntKind.wrap_i64]; omega
      have dp : (0 : Int) ≤ (p : Int) := by omega
      have dp' : (p : Int) < (L : Int) := by omega
      have dpn : p < L := by omega
      have dqn : q < L := by omega
      have dq : (0 : Int) ≤ (q : Int) := by omega
      have dq' : (q : Int) < (L : Int) := by omega
      clear hlx hly hsw hrw
      go_upto_region 3 with fail
      refine wp_region_held (S := fun _ => True) (by kernel_rfl) ?_
      refine chain_take (i := 0) (d := 16) (v := .slice (some ⟨g, 0, none⟩) L cap) rfl rfl (by kernel_rfl) (by kernel_rfl) (by kernel_rfl) rfl (fun _ _ => rfl) (fun _ _ _ h => h) trivial ?_
      simp only [Act.put, List.setIfInBounds_toArray, List.set_cons_zero, List.set_cons_succ]
      refine chain_take (i := 1) (d := 17) (v := .int .i64 a) rfl rfl (by kernel_rfl) (by kernel_rfl) (by kernel_rfl) rfl (fun _ _ => rfl) (fun _ _ _ h => h) trivial ?_
      simp only [Act.put, List.setIfInBounds_toArray, List.set_cons_zero, List.set_cons_succ]
      refine chain_take (i := 2) (d := 18) (v := .int .i64 i) rfl rfl (by kernel_rfl) (by kernel_rfl) (by kernel_rfl) rfl (fun _ _ => rfl) (fun _ _ _ h => h) trivial ?_
      simp only [Act.put, List.setIfInBounds_toArray, List.set_cons_zero, List.set_cons_succ]
      refine chain_take (i := 3) (d := 19) (v := .int .i64 p) rfl rfl (by kernel_rfl) (by kernel_rfl) (by kernel_rfl) rfl (fun _ _ => (by go_simp)) (fun _ _ _ h => h) trivial ?_
      simp only [Act.put, List.setIfInBounds_toArray, List.set_cons_zero, List.set_cons_succ]
      refine chain_take (i := 4) (d := 20) (v := .slice (some ⟨g, 0, none⟩) L cap) rfl rfl (by kernel_rfl) (by kernel_rfl) (by kernel_rfl) rfl (fun _ _ => rfl) (fun _ _ _ h => h) trivial ?_
      simp only [Act.put, List.setIfInBounds_toArray, List.set_cons_zero, List.set_cons_succ]
      refine chain_take (i := 5) (d := 21) (v := .int .i64 b) rfl rfl (by kernel_rfl) (by kernel_rfl) (by kernel_rfl) rfl (fun _ _ => rfl) (fun _ _ _ h => h) trivial ?_
      simp only [Act.put, List.setIfInBounds_toArray, List.set_cons_zero, List.set_cons_succ]
      refine chain_take (i := 6) (d := 22) (v := .int .i64 i) rfl rfl (by kernel_rfl) (by kernel_rfl) (by kernel_rfl) rfl (fun _ _ => rfl) (fun _ _ _ h => h) trivial ?_
      simp only [Act.put, List.setIfInBounds_toArray, List.set_cons_zero, List.set_cons_succ]
      refine chain_take (i := 7) (d := 23) (v := .int .i64 q) rfl rfl (by kernel_rfl) (by kernel_rfl) (by kernel_rfl) rfl (fun _ _ => (by go_simp)) (fun _ _ _ h => h) trivial ?_
      simp only [Act.put, List.setIfInBounds_toArray, List.set_cons_zero, List.set_cons_succ]
      refine chain_take (i := 8) (d := 24) (v := .slice (some ⟨g, 0, none⟩) L cap) rfl rfl (by kernel_rfl) (by kernel_rfl) (by kernel_rfl) rfl (fun _ _ => rfl) (fun _ _ _ h => h) trivial ?_
      simp only [Act.put, List.setIfInBounds_toArray, List.set_cons_zero, List.set_cons_succ]
      refine chain_take (i := 9) (d := 25) (v := .int .i64 b) rfl rfl (by kernel_rfl) (by kernel_rfl) (by kernel_rfl) rfl (fun _ _ => rfl) (fun _ _ _ h => h) trivial ?_
      simp only [Act.put, List.setIfInBounds_toArray, List.set_cons_zero, List.set_cons_succ]
      refine chain_take (i := 10) (d := 26) (v := .int .i64 i) rfl rfl (by kernel_rfl) (by kernel_rfl) (by kernel_rfl) rfl (fun _ _ => rfl) (fun _ _ _ h => h) trivial ?_
      simp only [Act.put, List.setIfInBounds_toArray, List.set_cons_zero, List.set_cons_succ]
      refine chain_take (i := 11) (d := 27) (v := .int .i64 q) rfl rfl (by kernel_rfl) (by kernel_rfl) (by kernel_rfl) rfl (fun _ _ => (by go_simp)) (fun _ _ _ h => h) trivial ?_
      simp only [Act.put, List.setIfInBounds_toArray, List.set_cons_zero, List.set_cons_succ]
      refine chain_take (i := 12) (d := 28) (v := .pointer (some ⟨g, q * 4, none⟩)) rfl rfl (by kernel_rfl) (by kernel_rfl) (by kernel_rfl) rfl (fun _ _ => (by go_simp)) (fun _ _ _ h => h) trivial ?_
      simp only [Act.put, List.setIfInBounds_toArray, List.set_cons_zero, List.set_cons_succ]
      refine chain_take (i := 14) (d := 30) (v := .slice (some ⟨g, 0, none⟩) L cap) rfl rfl (by kernel_rfl) (by kernel_rfl) (by kernel_rfl) rfl (fun _ _ => rfl) (fun _ _ _ h => h) trivial ?_
      simp only [Act.put, List.setIfInBounds_toArray, List.set_cons_zero, List.set_cons_succ]
      refine chain_take (i := 15) (d := 31) (v := .int .i64 a) rfl rfl (by kernel_rfl) (by kernel_rfl) (by kernel_rfl) rfl (fun _ _ => rfl) (fun _ _ _ h => h) trivial ?_
      simp only [Act.put, List.setIfInBounds_toArray, List.set_cons_zero, List.set_cons_succ]
      refine chain_take (i := 16) (d := 32) (v := .int .i64 i) rfl rfl (by kernel_rfl) (by kernel_rfl) (by kernel_rfl) rfl (fun _ _ => rfl) (fun _ _ _ h => h) trivial ?_
      simp only [Act.put, List.setIfInBounds_toArray, List.set_cons_zero, List.set_cons_succ]
      refine chain_take (i := 17) (d := 33) (v := .int .i64 p) rfl rfl (by kernel_rfl) (by kernel_rfl) (by kernel_rfl) rfl (fun _ _ => (by go_simp)) (fun _ _ _ h => h) trivial ?_
      simp only [Act.put, List.setIfInBounds_toArray, List.set_cons_zero, List.set_cons_succ]
      refine chain_take (i := 18) (d := 34) (v := .pointer (some ⟨g, p * 4, none⟩)) rfl rfl (by kernel_rfl) (by kernel_rfl) (by kernel_rfl) rfl (fun _ _ => (by go_simp)) (fun _ _ _ h => h) trivial ?_
      simp only [Act.put, List.setIfInBounds_toArray, List.set_cons_zero, List.set_cons_succ]
      refine chain_pair (i := 13) (j := 19) (d := 29) (e := 35) (u := .agg #[.int .i64 k', .int .i64 n', .string s', .slice a' m' c']) (v := .agg #[.int .i64 k, .int .i64 n1, .string s, .slice a1 m c]) (by kernel_rfl) rfl rfl rfl rfl (by decide) (by decide) (by kernel_rfl) (by kernel_rfl) rfl rfl rfl rfl (by go_simp) (by go_simp) (by go_simp) (by go_simp) trivial ?_
      simp only [Act.put, List.setIfInBounds_toArray, List.set_cons_zero, List.set_cons_succ]
      refine chain_value (i := 20) (d := 36) (v := .pointer (some ⟨g, p * 4, none⟩)) (w' := wr.drew) (by kernel_rfl) rfl rfl rfl (by go_simp) trivial ?_
      simp only [Act.put, List.setIfInBounds_toArray, List.set_cons_zero, List.set_cons_succ]
      refine chain_skip (i := 21) (w' := put4 wr.drew g (p * 4) (.int .i64 k') (.int .i64 n') (.string s') (.slice a' m' c')) (by kernel_rfl) rfl rfl rfl (hrd.out.store p hpa.out rfl rfl _ _ _ _) trivial ?_
      refine chain_value (i := 22) (d := 37) (v := .pointer (some ⟨g, q * 4, none⟩)) (w' := put4 wr.drew g (p * 4) (.int .i64 k') (.int .i64 n') (.string s') (.slice a' m' c')) (by kernel_rfl) rfl rfl rfl (by go_simp) trivial ?_
      simp only [Act.put, List.setIfInBounds_toArray, List.set_cons_zero, List.set_cons_succ]
      refine chain_skip (i := 23) (w' := put4 (put4 wr.drew g (p * 4) (.int .i64 k') (.int .i64 n') (.string s') (.slice a' m' c')) g (q * 4) (.int .i64 k) (.int .i64 n1) (.string s) (.slice a1 m c)) (by kernel_rfl) rfl rfl rfl (hp1.out.store q hpb'.out rfl rfl _ _ _ _) trivial ?_
      refine wpAnyH_done (by kernel_rfl) ?_ _
      go_wp2
      go_roundw
      case rel => exact ⟨i + 1, hlt, by go_num, Hid.mk (by rw [hnext.out]; exact hp2.out)⟩
      case measure => simp [intOf]; omega
    · obtain rfl : i = n := by omega
      go_wp2
      refine bodyPost_end (results_none rfl _ _ _) rfl ?_
      exact ⟨rfl, hrw.out, hrw.out.up⟩

end Go.Proofs.YteklhipcojioaaaDoor

/-
  slices' rotateCmpFunc at terms.
-/
namespace Go.Proofs.YteklhipcojioaaaDoor
open Go.RowKit Go.Deep

theorem swapparts_any (w0 : World) (S : Nat → Prop) (g cap L : Nat) (A X B Y C : List Tm) (hXY : X.length = Y.length) (x y z : Int) (hx : x = A.length) (hy : y = A.length + X.length + B.length) (hz : z = X.length)
    (hL : (A ++ X ++ B ++ Y ++ C).length = L) (hcap : L ≤ cap) (hlen : L ≤ 1000000) (w : World) (h : Rw w0 S g (A ++ X ++ B ++ Y ++ C) w) :
    Calls Tryd.prog 103 #[.slice (some ⟨g, 0, none⟩) L cap, .int .i64 x, .int .i64 y, .int .i64 z, cmpV] w fun e w' => e = .returned (.tuple #[]) ∧ Rw w0 S g (A ++ Y ++ B ++ X ++ C) w' := by
  subst hL
  have := swaprange_any w0 S g cap (A ++ X ++ B ++ Y ++ C) A.length (A.length + X.length + B.length) X.length (by omega) (by simp only [List.length_append]; omega) hcap hlen w h
  rw [swapR_parts A X B Y C hXY] at this
  subst hx; subst hy; subst hz
  have e1 : ((A.length : Int) + X.length + B.length) = ((A.length + X.length + B.length : Nat) : Int) := by omega
  rw [e1]
  refine Calls.mono this ?_
  rintro e w' ⟨h1, h2, _⟩
  exact ⟨h1, h2⟩

set_option maxHeartbeats 2000000 in
theorem rotate_any (w0 : World) (S : Nat → Prop) (g cap L : Nat) (A U V C : List Tm) (hU : 0 < U.length) (hV : 0 < V.length) (x y z : Int) (hx : x = A.length) (hy : y = A.length + U.length) (hz : z = A.length + U.length + V.length)
    (hL : (A ++ U ++ V ++ C).length = L) (hcap : L ≤ cap) (hlen : L ≤ 1000000) (w : World) (h : Rw w0 S g (A ++ U ++ V ++ C) w) :
    Calls Tryd.prog 102 #[.slice (some ⟨g, 0, none⟩) L cap, .int .i64 x, .int .i64 y, .int .i64 z, cmpV] w fun e w' => e = .returned (.tuple #[]) ∧ Rw w0 S g (A ++ V ++ U ++ C) w' := by
  have h0 := Hid.mk h
  clear h
  obtain ⟨a, ha⟩ : ∃ a, A.length = a := ⟨_, rfl⟩
  obtain ⟨m, hm⟩ : ∃ m, A.length + U.length = m := ⟨_, rfl⟩
  obtain ⟨b, hb⟩ : ∃ b, A.length + U.length + V.length = b := ⟨_, rfl⟩
  have hbL : b ≤ L := by simp only [List.length_append] at hL; omega
  obtain rfl : x = a := by omega
  obtain rfl : y = m := by omega
  obtain rfl : z = b := by omega
  have ham : a < m := by omega
  have hmb : m < b := by omega
  have hAl := Hid.mk ha
  have hml := Hid.mk hm
  have hbl := Hid.mk hb
  have hLl := Hid.mk hL
  clear hx hy hz ha hm hb hL hU hV
  go_enter Tryd.func102, Tryd.ntmps102
  go_wp2
  go_loopw [10, 11] (fun s10 s11 wr => ∃ (i j : Nat) (L1 P Q R : List Tm), s10 = .int .i64 i ∧ s11 = .int .i64 j ∧ 0 < i ∧ 0 < j ∧ i ≤ m ∧ j ≤ L ∧ Hid (L1.length + i = m) ∧ Hid (P.length = i) ∧ Hid (Q.length = j) ∧ Hid (L1 ++ Q ++ P ++ R = A ++ V ++ U ++ C) ∧ Hid (Rw w0 S g (L1 ++ P ++ Q ++ R) wr)) (fun s10 s11 _ => (intOf s10).toNat + (intOf s11).toNat)
  case atStart => exact ⟨m - a, b - m, A, U, V, C, by congr 1; omega, by congr 1; omega, by omega, by omega, by omega, by omega, Hid.mk (by have := hAl.out; omega), Hid.mk (by have := hAl.out; have := hml.out; omega), Hid.mk (by have := hml.out; have := hbl.out; omega), Hid.mk rfl, h0⟩
  case round =>
    obtain ⟨i, j, L1, P, Q, R, rfl, rfl, hi0, hj0, him, hjL, hL1, hP, hQ, hR, hrw⟩ := hrel
    have hmj : m + j ≤ L := by
      have h1 := congrArg List.length hR.out
      simp only [List.length_append] at h1
      have h2 := hLl.out
      simp only [List.length_append] at h2
      have := hL1.out; have := hP.out; have := hQ.out; have := hml.out
      omega
    rcases Nat.lt_trichotomy i j with hij | hij | hij
    · have hne : ((i : Int) != (j : Int)) = true := by simp; omega
      have hgt : decide ((i : Int) > (j : Int)) = false := by simp; omega
      obtain ⟨Q1, Q2, hQe, hQ1, hQ2⟩ : ∃ Q1 Q2, Q = Q1 ++ Q2 ∧ Q1.length = j - i ∧ Q2.length = i := ⟨Q.take (j - i), Q.drop (j - i), (List.take_append_drop _ _).symm, by rw [List.length_take]; have := hQ.out; omega, by rw [List.length_drop]; have := hQ.out; omega⟩
      subst hQe
      have hcall := Hid.mk (swapparts_any w0 S g cap L L1 P Q1 Q2 R (by rw [hP.out, hQ2]) ((m : Int) - i) ((m : Int) + j - i) i (by have := hL1.out; omega) (by have := hL1.out; have := hP.out; omega) (by rw [hP.out])
        (by have h1 := congrArg List.length hR.out; have h2 := hLl.out; simp only [List.length_append] at h1 h2 ⊢; omega) hcap hlen wr (by have := hrw.out; simp only [List.append_assoc] at this ⊢; exact this))
      go_wp2_with (go_at_call 103; refine hcall.out.mono ?_; rintro e w2 ⟨rfl, h2⟩; have h2 := Hid.mk h2)
      go_roundw
      case rel => exact ⟨i, j - i, L1, Q2, Q1, P ++ R, rfl, by congr 1; omega, hi0, by omega, him, by omega, hL1, Hid.mk hQ2, Hid.mk hQ1, Hid.mk (by rw [← hR.out]; simp only [List.append_assoc]), Hid.mk (by have := h2.out; simp only [List.append_assoc] at this ⊢; exact this)⟩
      case measure => simp [intOf]; omega
    · subst hij
      have hne : ((i : Int) != (i : Int)) = false := by simp
      have hcall := Hid.mk (swapparts_any w0 S g cap L L1 P [] Q R (by rw [hP.out, hQ.out]) ((m : Int) - i) m i (by have := hL1.out; omega) (by have := hL1.out; have := hP.out; simp only [List.length_nil]; omega) (by rw [hP.out])
        (by have h1 := congrArg List.length hR.out; have h2 := hLl.out; simp only [List.length_append, List.length_nil] at h1 h2 ⊢; omega) hcap hlen wr (by have := hrw.out; simp only [List.append_nil, List.append_assoc] at this ⊢; exact this))
      go_wp2_with (go_at_call 103; refine hcall.out.mono ?_; rintro e w2 ⟨rfl, h2⟩; have h2 := Hid.mk h2)
      refine bodyPost_end (results_none rfl _ _ _) rfl ⟨rfl, ?_⟩
      rw [← hR.out]
      have := h2.out
      simp only [List.append_nil] at this
      exact this
    · have hne : ((i : Int) != (j : Int)) = true := by simp; omega
      have hgt : decide ((i : Int) > (j : Int)) = true := by simp; omega
      obtain ⟨P1, P2, hPe, hP1, hP2⟩ : ∃ P1 P2, P = P1 ++ P2 ∧ P1.length = j ∧ P2.length = i - j := ⟨P.take j, P.drop j, (List.take_append_drop _ _).symm, by rw [List.length_take]; have := hP.out; omega, by rw [List.length_drop]; have := hP.out; omega⟩
      subst hPe
      have hcall := Hid.mk (swapparts_any w0 S g cap L L1 P1 P2 Q R (by rw [hP1, hQ.out]) ((m : Int) - i) m j (by have := hL1.out; omega) (by have := hL1.out; omega) (by rw [hP1])
        (by have h1 := congrArg List.length hR.out; have h2 := hLl.out; simp only [List.length_append] at h1 h2 ⊢; omega) hcap hlen wr (by have := hrw.out; simp only [List.append_assoc] at this ⊢; exact this))
      go_wp2_with (go_at_call 103; refine hcall.out.mono ?_; rintro e w2 ⟨rfl, h2⟩; have h2 := Hid.mk h2)
      go_roundw
      case rel => exact ⟨i - j, j, L1 ++ Q, P2, P1, R, by congr 1; omega, rfl, by omega, hj0, by omega, hjL, Hid.mk (by rw [List.length_append, hQ.out]; have := hL1.out; omega), Hid.mk hP2, Hid.mk hP1, Hid.mk (by rw [← hR.out]; simp only [List.append_assoc]), Hid.mk (by have := h2.out; simp only [List.append_assoc] at this ⊢; exact this)⟩
      case measure => simp [intOf]; omega

end Go.Proofs.YteklhipcojioaaaDoor

/-
  slices' insertionSortCmpFunc at terms.
-/
namespace Go.Proofs.YteklhipcojioaaaDoor
open Go.RowKit Go.Deep

section
variable {w0 w w' : World} {S : Nat → Prop} {g p : Nat} {B D : List Tm} {t u : Tm}
/-- The term at a place of a row. -/
theorem Rw.mid (h : Rw w0 S g (B ++ u :: D) w) (hp : B.length = p) : ∃ k n s a m cap, Lies w0 S u (.agg #[.int .i64 k, .int .i64 n, .string s, .slice a m cap]) ∧ w.cell? ⟨g, p * 4, none⟩ = some (.int .i64 k) ∧ w.cell? ⟨g, p * 4 + 1, none⟩ = some (.int .i64 n) ∧
    w.cell? ⟨g, p * 4 + 2, none⟩ = some (.string s) ∧ w.cell? ⟨g, p * 4 + 3, none⟩ = some (.slice a m cap) := by
  have hi : p < (B ++ u :: D).length := by rw [List.length_append, List.length_cons]; omega
  have e : (B ++ u :: D)[p] = u := by subst hp; simp
  have := h.at p hi
  rw [e] at this
  exact this
theorem Rw.put_mid (h : Rw w0 S g (B ++ u :: D) w) (hp : B.length = p) {k n : Int} {s : ByteArray} {a : Option Addr} {m cap : Nat} (ht : Lies w0 S t (.agg #[.int .i64 k, .int .i64 n, .string s, .slice a m cap])) :
    Rw w0 S g (B ++ t :: D) (put4 w g (p * 4) (.int .i64 k) (.int .i64 n) (.string s) (.slice a m cap)) := by
  have hi : p < (B ++ u :: D).length := by rw [List.length_append, List.length_cons]; omega
  have := h.put p hi ht
  have e : (B ++ u :: D).set p t = B ++ t :: D := by subst hp; simp
  rw [e] at this
  exact this
theorem Rw.store_mid (h : Rw w0 S g (B ++ u :: D) w) (hp : B.length = p) {ev : Operand → Value} {o q : Operand} {k n : Int} {s : ByteArray} {a : Option Addr} {m cap : Nat} (hpt : ev o = .pointer (some ⟨g, p * 4, none⟩))
    (hq : ev q = .agg #[.int .i64 k, .int .i64 n, .string s, .slice a m cap]) (ty : TypeId) (ps : String) (af : Array Edge) (dst : Option Tmp) :
    (execOp ev ⟨dst, .store 32 o q, ty, ps, af, none⟩).run Tryd.prog w = .ok .skip (put4 w g (p * 4) (.int .i64 k) (.int .i64 n) (.string s) (.slice a m cap)) :=
  h.store p (by rw [List.length_append, List.length_cons]; omega) hpt hq ty ps af dst
theorem Rw.two (h : Rw w0 S g (B ++ u :: t :: D) w) : Rw w0 S g ((B ++ [u]) ++ t :: D) w := by
  rw [List.append_assoc]; exact h
theorem Rw.one (h : Rw w0 S g ((B ++ [u]) ++ t :: D) w) : Rw w0 S g (B ++ u :: t :: D) w := by
  rw [List.append_assoc] at h; exact h
end

theorem insAt_parts {P Q : List Tm} {t : Tm} (hQ : ∀ x ∈ Q, 0 < x.cmp t) (hP : ∀ u P', P = P' ++ [u] → ¬ t.cmp u < 0) : insT (P ++ Q) t = P ++ t :: Q := by
  have h : insAt (P ++ Q) t = P.length := by
    refine insAt_is _ _ _ (by simp) (fun j hj hl => ?_) (fun hl h0 => ?_)
    · rw [List.getElem_append_right hj]
      exact hQ _ (List.getElem_mem _)
    · rcases List.eq_nil_or_concat P with rfl | ⟨P', u, rfl⟩
      · simp at h0
      · have := hP u P' (by simp)
        have h1 := cmp_neg u t
        have e : (P'.concat u ++ Q)[(P'.concat u).length - 1] = u := by simp
        rw [e]
        omega
  unfold insT
  rw [h]
  simp

set_option maxHeartbeats 2000000 in
theorem insertion_any (w0 : World) (S : Nat → Prop) (g cap L : Nat) (A X C : List Tm) (x y : Int) (hx : x = A.length) (hy : y = A.length + X.length) (hL : (A ++ X ++ C).length = L) (_hcap : L ≤ cap) (hlen : L ≤ 1000000) (w : World) (h : Rw w0 S g (A ++ X ++ C) w) :
    Calls Tryd.prog 97 #[.slice (some ⟨g, 0, none⟩) L cap, .int .i64 x, .int .i64 y, cmpV] w fun e w' => e = .returned (.tuple #[]) ∧ Rw w0 S g (A ++ sortT X ++ C) w' := by
  have h0 := Hid.mk h
  clear h
  obtain ⟨a, ha⟩ : ∃ a, A.length = a := ⟨_, rfl⟩
  obtain ⟨N, hN⟩ : ∃ N, X.length = N := ⟨_, rfl⟩
  have hbL : a + N ≤ L := by simp only [List.length_append] at hL; omega
  obtain rfl : x = a := by omega
  obtain rfl : y = ((a + N : Nat) : Int) := by omega
  obtain ⟨e, he⟩ : ∃ e, a + N = e := ⟨_, rfl⟩
  rw [he]
  have hAl := Hid.mk ha
  have hNl := Hid.mk hN
  have hLl := Hid.mk hL
  clear hx hy ha hN hL
  go_enter Tryd.func97, Tryd.ntmps97
  go_wp2
  go_loopw [8] (fun ii wr => ∃ (i q : Nat), ii = .int .i64 i ∧ Hid (i = a + q) ∧ 0 < q ∧ q ≤ N + 1 ∧ Hid (Rw w0 S g (A ++ sortT (X.take q) ++ X.drop q ++ C) wr)) (fun ii _ => L + 1 - (intOf ii).toNat)
  case atStart => exact ⟨a + 1, 1, by go_num, Hid.mk rfl, by omega, by omega, by
    have e : A ++ sortT (X.take 1) ++ X.drop 1 ++ C = A ++ X ++ C := by
      cases X with
      | nil => simp [sortT]
      | cons t r =>
        have : sortT [t] = [t] := rfl
        simp [this]
    rw [e]
    exact h0⟩
  case round =>
    obtain ⟨i, q, rfl, hiq, hq0, hqN, hrw⟩ := hrel
    have hiqe := hiq.out
    by_cases hlt : i < e
    rotate_left
    · have hd : decide ((i : Int) < (e : Int)) = false := by simp; omega
      go_wp2
      refine bodyPost_end (results_none rfl _ _ _) rfl ⟨rfl, ?_⟩
      have h1 := hrw.out
      rw [List.take_of_length_le (by have := hNl.out; omega), List.drop_of_length_le (by have := hNl.out; omega), List.append_nil] at h1
      exact h1
    have hd : decide ((i : Int) < (e : Int)) = true := by simp; omega
    have hqX : q < X.length := by have := hNl.out; omega
    have hst := Hid.mk (sortT_take X q hqX)
    have hOl := Hid.mk ((sortT_length (X.take q)).trans (by rw [List.length_take]; omega : (X.take q).length = q))
    have hrw0 := hrw.out
    rw [List.drop_eq_getElem_cons hqX] at hrw0
    generalize sortT (X.take q) = O at hst hOl hrw0
    generalize X[q] = t at hst hrw0
    obtain ⟨R, hR⟩ : ∃ R, X.drop (q + 1) ++ C = R := ⟨_, rfl⟩
    have hrw1 : Hid (Rw w0 S g (A ++ O ++ t :: ([] ++ R)) wr) := Hid.mk (by
      rw [List.nil_append, ← hR]
      simp only [List.append_assoc, List.cons_append] at hrw0 ⊢
      exact hrw0)
    have hR := Hid.mk hR
    have hi0 : a < i ∧ i < L := ⟨by omega, by omega⟩
    have hqN1 : q + 1 ≤ N + 1 := by omega
    clear hrw hrw0 hiqe
    go_wp2
    go_loopw [9] (fun jj wr => ∃ (j : Nat) (P Q : List Tm), jj = .int .i64 j ∧ j ≤ i ∧ Hid (j = a + P.length) ∧ Hid (O = P ++ Q) ∧ Hid (∀ x ∈ Q, 0 < x.cmp t) ∧ Hid (Rw w0 S g (A ++ P ++ t :: (Q ++ R)) wr)) (fun jj _ => (intOf jj).toNat)
    case atStart => exact ⟨i, O, [], rfl, Nat.le_refl _, Hid.mk (by have := hOl.out; have := hiq.out; omega), Hid.mk (by simp), Hid.mk (fun x hx => by cases hx), hrw1⟩
    case round =>
      clear hrw1
      obtain ⟨j, P, Q, rfl, hji, hjP, hOPQ, hQ, hrw⟩ := hrel
      by_cases hja : j = a
      · subst hja
        have hd1 : decide ((j : Int) > (j : Int)) = false := by simp
        go_upto_region 4 with fail
        refine region_up (W := wr) (by kernel_rfl) (by kernel_rfl) (Up.refl _) ?_
        refine quiet_value (v := .int .i64 j) rfl (fun _ _ => rfl) ?_
        simp only [Act.put, List.setIfInBounds_toArray, List.set_cons_zero, List.set_cons_succ]
        refine quiet_value (v := .int .i64 j) rfl (fun _ _ => rfl) ?_
        simp only [Act.put, List.setIfInBounds_toArray, List.set_cons_zero, List.set_cons_succ]
        refine quiet_value (v := .bool false) rfl (fun _ _ => (by go_simp)) ?_
        simp only [Act.put, List.setIfInBounds_toArray, List.set_cons_zero, List.set_cons_succ]
        refine quiet_value (v := .bool false) rfl (fun _ _ => rfl) ?_
        simp only [Act.put, List.setIfInBounds_toArray, List.set_cons_zero, List.set_cons_succ]
        refine quiet_not rfl ?_
        simp only [Act.put, List.setIfInBounds_toArray, List.set_cons_zero, List.set_cons_succ]
        refine quiet_not rfl ?_
        simp only [Act.put, List.setIfInBounds_toArray, List.set_cons_zero, List.set_cons_succ]
        refine quiet_not rfl ?_
        simp only [Act.put, List.setIfInBounds_toArray, List.set_cons_zero, List.set_cons_succ]
        refine quiet_not rfl ?_
        simp only [Act.put, List.setIfInBounds_toArray, List.set_cons_zero, List.set_cons_succ]
        refine quiet_not rfl ?_
        simp only [Act.put, List.setIfInBounds_toArray, List.set_cons_zero, List.set_cons_succ]
        refine quiet_not rfl ?_
        simp only [Act.put, List.setIfInBounds_toArray, List.set_cons_zero, List.set_cons_succ]
        refine quiet_not rfl ?_
        simp only [Act.put, List.setIfInBounds_toArray, List.set_cons_zero, List.set_cons_succ]
        refine quiet_not rfl ?_
        simp only [Act.put, List.setIfInBounds_toArray, List.set_cons_zero, List.set_cons_succ]
        refine quiet_not rfl ?_
        simp only [Act.put, List.setIfInBounds_toArray, List.set_cons_zero, List.set_cons_succ]
        refine quiet_not rfl ?_
        simp only [Act.put, List.setIfInBounds_toArray, List.set_cons_zero, List.set_cons_succ]
        refine quiet_not rfl ?_
        simp only [Act.put, List.setIfInBounds_toArray, List.set_cons_zero, List.set_cons_succ]
        refine quiet_not rfl ?_
        simp only [Act.put, List.setIfInBounds_toArray, List.set_cons_zero, List.set_cons_succ]
        refine quiet_value (v := .bool false) rfl (fun _ _ => rfl) ?_
        simp only [Act.put, List.setIfInBounds_toArray, List.set_cons_zero, List.set_cons_succ]
        refine quiet_nil ?_
        intro w6 hw6
        go_wp2
        go_roundw
        case rel => exact ⟨i + 1, q + 1, by go_num, Hid.mk (by have := hiq.out; omega), by omega, by omega, Hid.mk (by
          have hP0 : P = [] := List.eq_nil_of_length_eq_zero (by have := hjP.out; omega)
          subst hP0
          have h1 := insAt_parts (P := []) (Q := Q) (t := t) hQ.out (fun u P' h => by simp at h)
          rw [hst.out, hOPQ.out, h1]
          have h2 := (hrw.out.later hw6)
          rw [← hR.out] at h2
          simp only [List.append_assoc, List.cons_append] at h2 ⊢
          exact h2)⟩
        case measure => simp [intOf]; omega
      obtain ⟨p, hjp1⟩ : ∃ p, j = p + 1 := ⟨j - 1, by have := hjP.out; omega⟩
      obtain ⟨P', u, hPe⟩ : ∃ P' u, P = P' ++ [u] := by
        rcases List.eq_nil_or_concat P with rfl | ⟨P', u, rfl⟩
        · have := hjP.out; simp at this; omega
        · exact ⟨P', u, by simp⟩
      subst hPe
      have hja' : a ≤ p := by have := hjP.out; simp at this; omega
      have hpp : Hid ((A ++ P').length = p) := Hid.mk (by have h1 := hjP.out; have h2 := hAl.out; simp only [List.length_append, List.length_cons, List.length_nil] at h1 ⊢; omega)
      have hjp : Hid ((A ++ P' ++ [u]).length = j) := Hid.mk (by have h1 := hpp.out; rw [List.length_append, h1]; simp; omega)
      have hq := hrw.out
      have hjL : j < L := by omega
      rw [← List.append_assoc] at hq
      obtain ⟨k2, n2, s2, a2, m2, c2, hly, y0, y1, y2, y3⟩ := hq.mid hjp.out
      obtain ⟨k, n, s, a', m, c, hlx, x0, x1, x2, x3⟩ := hq.one.mid hpp.out
      have hcall := Hid.mk (fun (W : World) (hW : Up wr W) => compare_any t u S S _ _ W ((hq.later hW).is hly) ((hq.later hW).is hlx))
      have hq6 := Hid.mk (fun W hW => hq.later (w' := W) hW)
      have hlx := Hid.mk hlx
      have hly := Hid.mk hly
      obtain ⟨x, hxe⟩ : ∃ x, t.cmp u = x := ⟨_, rfl⟩
      have hneg := cmp_neg t u
      rw [hxe] at hcall hneg
      have hxe := Hid.mk hxe
      have hd1 : decide ((j : Int) > (a : Int)) = true := by simp; omega
      have wS : IntKind.i64.wrap ((j : Int) - 1) = (p : Int) := by rw [IntKind.wrap_i64]; omega
      have haj : a < j := by omega
      have dj : (0 : Int) ≤ (j : Int) := by omega
      have dp : (0 : Int) ≤ (p : Int) := by omega
      have dj' : (j : Int) < (L : Int) := by omega
      have dp' : (p : Int) < (L : Int) := by omega
      have dpn : p < L := by omega
      have hjp1h := Hid.mk hjp1
      clear hq hneg hjp1
      by_cases hx : x < 0
      · have hdx : decide (x < 0) = true := decide_eq_true hx
        go_upto_region 4 with fail
        refine region_up (W := wr) (by kernel_rfl) (by kernel_rfl) (Up.refl _) ?_
        refine quiet_value (v := .int .i64 j) rfl (fun _ _ => rfl) ?_
        simp only [Act.put, List.setIfInBounds_toArray, List.set_cons_zero, List.set_cons_succ]
        refine quiet_value (v := .int .i64 a) rfl (fun _ _ => rfl) ?_
        simp only [Act.put, List.setIfInBounds_toArray, List.set_cons_zero, List.set_cons_succ]
        refine quiet_value (v := .bool true) rfl (fun _ _ => (by go_simp)) ?_
        simp only [Act.put, List.setIfInBounds_toArray, List.set_cons_zero, List.set_cons_succ]
        refine quiet_value (v := .bool true) rfl (fun _ _ => rfl) ?_
        simp only [Act.put, List.setIfInBounds_toArray, List.set_cons_zero, List.set_cons_succ]
        refine quiet_value (v := cmpV) rfl (fun _ _ => rfl) ?_
        simp only [Act.put, List.setIfInBounds_toArray, List.set_cons_zero, List.set_cons_succ]
        refine quiet_value (v := .slice (some ⟨g, 0, none⟩) L cap) rfl (fun _ _ => rfl) ?_
        simp only [Act.put, List.setIfInBounds_toArray, List.set_cons_zero, List.set_cons_succ]
        refine quiet_value (v := .int .i64 j) rfl (fun _ _ => rfl) ?_
        simp only [Act.put, List.setIfInBounds_toArray, List.set_cons_zero, List.set_cons_succ]
        refine quiet_value (v := .pointer (some ⟨g, j * 4, none⟩)) rfl (fun _ _ => (by go_simp)) ?_
        simp only [Act.put, List.setIfInBounds_toArray, List.set_cons_zero, List.set_cons_succ]
        refine quiet_value (v := .agg #[.int .i64 k2, .int .i64 n2, .string s2, .slice a2 m2 c2]) rfl (fun W h => (by have u0 := cell_below h.out _ _ _ y0; have u1 := cell_below h.out _ _ _ y1; have u2 := cell_below h.out _ _ _ y2; have u3 := cell_below h.out _ _ _ y3; go_simp)) ?_
        simp only [Act.put, List.setIfInBounds_toArray, List.set_cons_zero, List.set_cons_succ]
        refine quiet_value (v := .slice (some ⟨g, 0, none⟩) L cap) rfl (fun _ _ => rfl) ?_
        simp only [Act.put, List.setIfInBounds_toArray, List.set_cons_zero, List.set_cons_succ]
        refine quiet_value (v := .int .i64 j) rfl (fun _ _ => rfl) ?_
        simp only [Act.put, List.setIfInBounds_toArray, List.set_cons_zero, List.set_cons_succ]
        refine quiet_value (v := .int .i64 p) rfl (fun _ _ => (by go_simp)) ?_
        simp only [Act.put, List.setIfInBounds_toArray, List.set_cons_zero, List.set_cons_succ]
        refine quiet_value (v := .pointer (some ⟨g, p * 4, none⟩)) rfl (fun _ _ => (by go_simp)) ?_
        simp only [Act.put, List.setIfInBounds_toArray, List.set_cons_zero, List.set_cons_succ]
        refine quiet_value (v := .agg #[.int .i64 k, .int .i64 n, .string s, .slice a' m c]) rfl (fun W h => (by have u0 := cell_below h.out _ _ _ x0; have u1 := cell_below h.out _ _ _ x1; have u2 := cell_below h.out _ _ _ x2; have u3 := cell_below h.out _ _ _ x3; go_simp)) ?_
        simp only [Act.put, List.setIfInBounds_toArray, List.set_cons_zero, List.set_cons_succ]
        refine quiet_call (v := .int .i64 x) rfl (fun W => (by go_simp)) (fun W h => (hcall.out W h).mono fun e w' ⟨he, hb⟩ => ⟨he, h.call hb⟩) ?_
        simp only [Act.put, List.setIfInBounds_toArray, List.set_cons_zero, List.set_cons_succ]
        refine quiet_value (v := .bool true) rfl (fun _ _ => (by go_simp)) ?_
        simp only [Act.put, List.setIfInBounds_toArray, List.set_cons_zero, List.set_cons_succ]
        refine quiet_value (v := .bool true) rfl (fun _ _ => rfl) ?_
        simp only [Act.put, List.setIfInBounds_toArray, List.set_cons_zero, List.set_cons_succ]
        refine quiet_nil ?_
        intro w6 hw6
        have hq0 := Hid.mk (hq6.out w6 hw6).drew
        have hq1 := Hid.mk (hq0.out.put_mid hjp.out hlx.out).one
        have hq2 := Hid.mk (hq1.out.put_mid hpp.out hly.out)
        have x0 := cell_below hw6.out _ _ _ x0
        have x1 := cell_below hw6.out _ _ _ x1
        have x2 := cell_below hw6.out _ _ _ x2
        have x3 := cell_below hw6.out _ _ _ x3
        have y0 := cell_below hw6.out _ _ _ y0
        have y1 := cell_below hw6.out _ _ _ y1
        have y2 := cell_below hw6.out _ _ _ y2
        have y3 := cell_below hw6.out _ _ _ y3
        go_upto_region 6 with fail
        refine wp_region_held (S := fun _ => True) (by kernel_rfl) ?_
        refine chain_take (i := 0) (d := 37) (v := .slice (some ⟨g, 0, none⟩) L cap) rfl rfl (by kernel_rfl) (by kernel_rfl) (by kernel_rfl) rfl (fun _ _ => rfl) (fun _ _ _ h => h) trivial ?_
        simp only [Act.put, List.setIfInBounds_toArray, List.set_cons_zero, List.set_cons_succ]
        refine chain_take (i := 1) (d := 38) (v := .int .i64 j) rfl rfl (by kernel_rfl) (by kernel_rfl) (by kernel_rfl) rfl (fun _ _ => rfl) (fun _ _ _ h => h) trivial ?_
        simp only [Act.put, List.setIfInBounds_toArray, List.set_cons_zero, List.set_cons_succ]
        refine chain_take (i := 2) (d := 39) (v := .slice (some ⟨g, 0, none⟩) L cap) rfl rfl (by kernel_rfl) (by kernel_rfl) (by kernel_rfl) rfl (fun _ _ => rfl) (fun _ _ _ h => h) trivial ?_
        simp only [Act.put, List.setIfInBounds_toArray, List.set_cons_zero, List.set_cons_succ]
        refine chain_take (i := 3) (d := 40) (v := .int .i64 j) rfl rfl (by kernel_rfl) (by kernel_rfl) (by kernel_rfl) rfl (fun _ _ => rfl) (fun _ _ _ h => h) trivial ?_
        simp only [Act.put, List.setIfInBounds_toArray, List.set_cons_zero, List.set_cons_succ]
        refine chain_take (i := 4) (d := 41) (v := .int .i64 p) rfl rfl (by kernel_rfl) (by kernel_rfl) (by kernel_rfl) rfl (fun _ _ => (by go_simp)) (fun _ _ _ h => h) trivial ?_
        simp only [Act.put, List.setIfInBounds_toArray, List.set_cons_zero, List.set_cons_succ]
        refine chain_take (i := 5) (d := 42) (v := .slice (some ⟨g, 0, none⟩) L cap) rfl rfl (by kernel_rfl) (by kernel_rfl) (by kernel_rfl) rfl (fun _ _ => rfl) (fun _ _ _ h => h) trivial ?_
        simp only [Act.put, List.setIfInBounds_toArray, List.set_cons_zero, List.set_cons_succ]
        refine chain_take (i := 6) (d := 43) (v := .int .i64 j) rfl rfl (by kernel_rfl) (by kernel_rfl) (by kernel_rfl) rfl (fun _ _ => rfl) (fun _ _ _ h => h) trivial ?_
        simp only [Act.put, List.setIfInBounds_toArray, List.set_cons_zero, List.set_cons_succ]
        refine chain_take (i := 7) (d := 44) (v := .int .i64 p) rfl rfl (by kernel_rfl) (by kernel_rfl) (by kernel_rfl) rfl (fun _ _ => (by go_simp)) (fun _ _ _ h => h) trivial ?_
        simp only [Act.put, List.setIfInBounds_toArray, List.set_cons_zero, List.set_cons_succ]
        refine chain_take (i := 8) (d := 45) (v := .pointer (some ⟨g, p * 4, none⟩)) rfl rfl (by kernel_rfl) (by kernel_rfl) (by kernel_rfl) rfl (fun _ _ => (by go_simp)) (fun _ _ _ h => h) trivial ?_
        simp only [Act.put, List.setIfInBounds_toArray, List.set_cons_zero, List.set_cons_succ]
        refine chain_take (i := 10) (d := 47) (v := .slice (some ⟨g, 0, none⟩) L cap) rfl rfl (by kernel_rfl) (by kernel_rfl) (by kernel_rfl) rfl (fun _ _ => rfl) (fun _ _ _ h => h) trivial ?_
        simp only [Act.put, List.setIfInBounds_toArray, List.set_cons_zero, List.set_cons_succ]
        refine chain_take (i := 11) (d := 48) (v := .int .i64 j) rfl rfl (by kernel_rfl) (by kernel_rfl) (by kernel_rfl) rfl (fun _ _ => rfl) (fun _ _ _ h => h) trivial ?_
        simp only [Act.put, List.setIfInBounds_toArray, List.set_cons_zero, List.set_cons_succ]
        refine chain_take (i := 12) (d := 49) (v := .pointer (some ⟨g, j * 4, none⟩)) rfl rfl (by kernel_rfl) (by kernel_rfl) (by kernel_rfl) rfl (fun _ _ => (by go_simp)) (fun _ _ _ h => h) trivial ?_
        simp only [Act.put, List.setIfInBounds_toArray, List.set_cons_zero, List.set_cons_succ]
        refine chain_pair (i := 9) (j := 13) (d := 46) (e := 50) (u := .agg #[.int .i64 k, .int .i64 n, .string s, .slice a' m c]) (v := .agg #[.int .i64 k2, .int .i64 n2, .string s2, .slice a2 m2 c2]) (by kernel_rfl) rfl rfl rfl rfl (by decide) (by decide) (by kernel_rfl) (by kernel_rfl) rfl rfl rfl rfl (by go_simp) (by go_simp) (by go_simp) (by go_simp) trivial ?_
        simp only [Act.put, List.setIfInBounds_toArray, List.set_cons_zero, List.set_cons_succ]
        refine chain_value (i := 14) (d := 51) (v := .pointer (some ⟨g, j * 4, none⟩)) (w' := w6.drew) (by kernel_rfl) rfl rfl rfl (by go_simp) trivial ?_
        simp only [Act.put, List.setIfInBounds_toArray, List.set_cons_zero, List.set_cons_succ]
        refine chain_skip (i := 15) (w' := put4 w6.drew g (j * 4) (.int .i64 k) (.int .i64 n) (.string s) (.slice a' m c)) (by kernel_rfl) rfl rfl rfl (hq0.out.store_mid hjp.out rfl rfl _ _ _ _) trivial ?_
        refine chain_value (i := 16) (d := 52) (v := .pointer (some ⟨g, p * 4, none⟩)) (w' := put4 w6.drew g (j * 4) (.int .i64 k) (.int .i64 n) (.string s) (.slice a' m c)) (by kernel_rfl) rfl rfl rfl (by go_simp) trivial ?_
        simp only [Act.put, List.setIfInBounds_toArray, List.set_cons_zero, List.set_cons_succ]
        refine chain_skip (i := 17) (w' := put4 (put4 w6.drew g (j * 4) (.int .i64 k) (.int .i64 n) (.string s) (.slice a' m c)) g (p * 4) (.int .i64 k2) (.int .i64 n2) (.string s2) (.slice a2 m2 c2)) (by kernel_rfl) rfl rfl rfl (hq1.out.store_mid hpp.out rfl rfl _ _ _ _) trivial ?_
        refine wpAnyH_done (by kernel_rfl) ?_ _
        go_wp2
        go_roundw
        case rel => exact ⟨p, P', u :: Q, rfl, by have := hjp1h.out; omega, Hid.mk (by have h1 := hpp.out; have h2 := hAl.out; rw [List.length_append] at h1; omega), Hid.mk (by rw [hOPQ.out]; simp), Hid.mk (fun v hv => by
          rcases List.mem_cons.1 hv with rfl | hv
          · have := cmp_neg t v; have := hxe.out; omega
          · exact hQ.out v hv), hq2⟩
        case measure => have := hjp1h.out; simp [intOf]; omega
      · have hdx : decide (x < 0) = false := decide_eq_false hx
        go_upto_region 4 with fail
        refine region_up (W := wr) (by kernel_rfl) (by kernel_rfl) (Up.refl _) ?_
        refine quiet_value (v := .int .i64 j) rfl (fun _ _ => rfl) ?_
        simp only [Act.put, List.setIfInBounds_toArray, List.set_cons_zero, List.set_cons_succ]
        refine quiet_value (v := .int .i64 a) rfl (fun _ _ => rfl) ?_
        simp only [Act.put, List.setIfInBounds_toArray, List.set_cons_zero, List.set_cons_succ]
        refine quiet_value (v := .bool true) rfl (fun _ _ => (by go_simp)) ?_
        simp only [Act.put, List.setIfInBounds_toArray, List.set_cons_zero, List.set_cons_succ]
        refine quiet_value (v := .bool true) rfl (fun _ _ => rfl) ?_
        simp only [Act.put, List.setIfInBounds_toArray, List.set_cons_zero, List.set_cons_succ]
        refine quiet_value (v := cmpV) rfl (fun _ _ => rfl) ?_
        simp only [Act.put, List.setIfInBounds_toArray, List.set_cons_zero, List.set_cons_succ]
        refine quiet_value (v := .slice (some ⟨g, 0, none⟩) L cap) rfl (fun _ _ => rfl) ?_
        simp only [Act.put, List.setIfInBounds_toArray, List.set_cons_zero, List.set_cons_succ]
        refine quiet_value (v := .int .i64 j) rfl (fun _ _ => rfl) ?_
        simp only [Act.put, List.setIfInBounds_toArray, List.set_cons_zero, List.set_cons_succ]
        refine quiet_value (v := .pointer (some ⟨g, j * 4, none⟩)) rfl (fun _ _ => (by go_simp)) ?_
        simp only [Act.put, List.setIfInBounds_toArray, List.set_cons_zero, List.set_cons_succ]
        refine quiet_value (v := .agg #[.int .i64 k2, .int .i64 n2, .string s2, .slice a2 m2 c2]) rfl (fun W h => (by have u0 := cell_below h.out _ _ _ y0; have u1 := cell_below h.out _ _ _ y1; have u2 := cell_below h.out _ _ _ y2; have u3 := cell_below h.out _ _ _ y3; go_simp)) ?_
        simp only [Act.put, List.setIfInBounds_toArray, List.set_cons_zero, List.set_cons_succ]
        refine quiet_value (v := .slice (some ⟨g, 0, none⟩) L cap) rfl (fun _ _ => rfl) ?_
        simp only [Act.put, List.setIfInBounds_toArray, List.set_cons_zero, List.set_cons_succ]
        refine quiet_value (v := .int .i64 j) rfl (fun _ _ => rfl) ?_
        simp only [Act.put, List.setIfInBounds_toArray, List.set_cons_zero, List.set_cons_succ]
        refine quiet_value (v := .int .i64 p) rfl (fun _ _ => (by go_simp)) ?_
        simp only [Act.put, List.setIfInBounds_toArray, List.set_cons_zero, List.set_cons_succ]
        refine quiet_value (v := .pointer (some ⟨g, p * 4, none⟩)) rfl (fun _ _ => (by go_simp)) ?_
        simp only [Act.put, List.setIfInBounds_toArray, List.set_cons_zero, List.set_cons_succ]
        refine quiet_value (v := .agg #[.int .i64 k, .int .i64 n, .string s, .slice a' m c]) rfl (fun W h => (by have u0 := cell_below h.out _ _ _ x0; have u1 := cell_below h.out _ _ _ x1; have u2 := cell_below h.out _ _ _ x2; have u3 := cell_below h.out _ _ _ x3; go_simp)) ?_
        simp only [Act.put, List.setIfInBounds_toArray, List.set_cons_zero, List.set_cons_succ]
        refine quiet_call (v := .int .i64 x) rfl (fun W => (by go_simp)) (fun W h => (hcall.out W h).mono fun e w' ⟨he, hb⟩ => ⟨he, h.call hb⟩) ?_
        simp only [Act.put, List.setIfInBounds_toArray, List.set_cons_zero, List.set_cons_succ]
        refine quiet_value (v := .bool false) rfl (fun _ _ => (by go_simp)) ?_
        simp only [Act.put, List.setIfInBounds_toArray, List.set_cons_zero, List.set_cons_succ]
        refine quiet_value (v := .bool false) rfl (fun _ _ => rfl) ?_
        simp only [Act.put, List.setIfInBounds_toArray, List.set_cons_zero, List.set_cons_succ]
        refine quiet_nil ?_
        intro w6 hw6
        go_wp2
        go_roundw
        case rel => exact ⟨i + 1, q + 1, by go_num, Hid.mk (by have := hiq.out; omega), by omega, by omega, Hid.mk (by
          have h1 := insAt_parts (P := P' ++ [u]) (Q := Q) (t := t) hQ.out (fun v P'' h => by
            have := List.append_inj_right' h rfl
            cases this
            rw [hxe.out]; exact hx)
          rw [hst.out, hOPQ.out, h1]
          have h2 := (hrw.out.later hw6)
          rw [← hR.out] at h2
          simp only [List.append_assoc, List.cons_append] at h2 ⊢
          exact h2)⟩
        case measure => simp [intOf]; omega

end Go.Proofs.YteklhipcojioaaaDoor
