/-
  .. where the right one has one term.
-/
import Derived.Test.YteklhipcojioaaaDoorZOrdSymL
namespace Go.Proofs.YteklhipcojioaaaDoor
open Go.RowKit Go.Deep

set_option maxRecDepth 100000 in
set_option maxHeartbeats 4000000 in
theorem symright_any (w0 : World) (S : Nat → Prop) (g cap L : Nat) (A X : List Tm) (y : Tm) (C : List Tm) (hXs : Sorted X) (hX0 : 1 < X.length) (a m b : Nat) (ha : A.length = a) (hm : m = a + X.length) (hb : b = m + 1)
    (hL : (A ++ X ++ y :: C).length = L) (_hcap : L ≤ cap) (hlen : L ≤ 1000000) (w : World) (h : Rw w0 S g (A ++ X ++ y :: C) w) :
    Calls Tryd.prog 98 #[.slice (some ⟨g, 0, none⟩) L cap, .int .i64 a, .int .i64 m, .int .i64 b, cmpV] w fun e w' => e = .returned (.tuple #[]) ∧ Rw w0 S g (A ++ sortT (X ++ [y]) ++ C) w' := by
  have h0 := Hid.mk h
  have hbL : b ≤ L := by simp only [List.length_append, List.length_cons] at hL; omega
  have h1 : (((m : Int) - (a : Int)) == 1) = false := by simp; omega
  have h2 : (((b : Int) - (m : Int)) == 1) = true := by simp; omega
  have ham : a + 1 < m := by omega
  have hmb : m < b := by omega
  have hmL : m < L := by omega
  have hah := Hid.mk ha
  have hmh := Hid.mk hm
  have hbh := Hid.mk hb
  have dm : (0 : Int) ≤ (m : Int) := by omega
  have dm' : (m : Int) < (L : Int) := by omega
  clear h ha hm hb hL hX0
  go_enter Tryd.func98, Tryd.ntmps98
  go_wp2
  clear h1 h2
  go_loopw [14, 15] (fun ii jj wr => ∃ i j : Nat, ii = .int .i64 i ∧ jj = .int .i64 j ∧ a ≤ i ∧ i ≤ j ∧ j ≤ m ∧ Hid (∀ (h0 : 0 < i - a) (h : i - a - 1 < X.length), ¬ y.cmp X[i - a - 1] < 0) ∧ Hid (∀ h : j - a < X.length, y.cmp X[j - a] < 0) ∧ Hid (Rw w0 S g (A ++ X ++ y :: C) wr)) (fun ii jj _ => (intOf jj - intOf ii).toNat)
  case atStart => exact ⟨a, m, rfl, rfl, Nat.le_refl _, by omega, Nat.le_refl _, Hid.mk (fun h => by omega), Hid.mk (fun h => by have := hmh.out; omega), h0⟩
  case round =>
    clear h0
    obtain ⟨i, j, rfl, rfl, hmi, hij, hj, hlo, hhi, hrw⟩ := hrel
    by_cases hlt : i < j
    · have hd : decide ((i : Int) < (j : Int)) = true := by simp; omega
      obtain ⟨c, hc⟩ : ∃ c, (i + j) / 2 = c := ⟨_, rfl⟩
      have hic : i ≤ c ∧ c < j := by omega
      have hcX : c - a < X.length := by have := hmh.out; omega
      have hcL : c < L := by omega
      have gc : (A ++ X ++ y :: C)[c]? = some X[c - a] := by
        have h1 := hah.out
        rw [List.getElem?_append_left (by rw [List.length_append]; omega), List.getElem?_append_right (by omega), h1, List.getElem?_eq_getElem hcX]
      have gm : (A ++ X ++ y :: C)[m]? = some y := by
        have h1 := hah.out; have h2 := hmh.out
        rw [List.getElem?_append_right (by rw [List.length_append]; omega), List.length_append, show m - (A.length + X.length) = 0 by omega]; rfl
      obtain ⟨k2, n2, s2, a2, m2, c2, hly, y0, y1, y2, y3⟩ := hrw.out.pick gm
      obtain ⟨k1, n1, s1, a1, m1, c1, hlx, x0, x1, x2, x3⟩ := hrw.out.pick gc
      have hcall := Hid.mk (fun (W : World) (hW : Up wr W) => compare_any y X[c - a] S S _ _ W ((hrw.out.later hW).is hly) ((hrw.out.later hW).is hlx))
      obtain ⟨z, hz⟩ : ∃ z, y.cmp X[c - a] = z := ⟨_, rfl⟩
      rw [hz] at hcall
      have hz := Hid.mk hz
      have hdiv : ((i : Int) + (j : Int)) / 2 = (c : Int) := by omega
      have dc : (0 : Int) ≤ (c : Int) := by omega
      have dc' : (c : Int) < (L : Int) := by omega
      have hch := Hid.mk hc
      clear hc hly hlx gc gm
      by_cases hx : z < 0
      · have hdx : decide (z < 0) = true := decide_eq_true hx
        go_upto_region 17 with fail
        refine region_up (W := wr) (by kernel_rfl) (by kernel_rfl) (Up.refl _) ?_
        refine quiet_value (v := cmpV) rfl (fun _ _ => rfl) ?_
        simp only [Act.put, List.setIfInBounds_toArray, List.set_cons_zero, List.set_cons_succ]
        refine quiet_value (v := .slice (some ⟨g, 0, none⟩) L cap) rfl (fun _ _ => rfl) ?_
        simp only [Act.put, List.setIfInBounds_toArray, List.set_cons_zero, List.set_cons_succ]
        refine quiet_value (v := .int .i64 m) rfl (fun _ _ => rfl) ?_
        simp only [Act.put, List.setIfInBounds_toArray, List.set_cons_zero, List.set_cons_succ]
        refine quiet_value (v := .pointer (some ⟨g, m * 4, none⟩)) rfl (fun _ _ => (by go_simp)) ?_
        simp only [Act.put, List.setIfInBounds_toArray, List.set_cons_zero, List.set_cons_succ]
        refine quiet_value (v := .agg #[.int .i64 k2, .int .i64 n2, .string s2, .slice a2 m2 c2]) rfl (fun W h => (by have u0 := cell_below h.out _ _ _ y0; have u1 := cell_below h.out _ _ _ y1; have u2 := cell_below h.out _ _ _ y2; have u3 := cell_below h.out _ _ _ y3; go_simp)) ?_
        simp only [Act.put, List.setIfInBounds_toArray, List.set_cons_zero, List.set_cons_succ]
        refine quiet_value (v := .slice (some ⟨g, 0, none⟩) L cap) rfl (fun _ _ => rfl) ?_
        simp only [Act.put, List.setIfInBounds_toArray, List.set_cons_zero, List.set_cons_succ]
        refine quiet_value (v := .int .i64 c) rfl (fun _ _ => rfl) ?_
        simp only [Act.put, List.setIfInBounds_toArray, List.set_cons_zero, List.set_cons_succ]
        refine quiet_value (v := .pointer (some ⟨g, c * 4, none⟩)) rfl (fun _ _ => (by go_simp)) ?_
        simp only [Act.put, List.setIfInBounds_toArray, List.set_cons_zero, List.set_cons_succ]
        refine quiet_value (v := .agg #[.int .i64 k1, .int .i64 n1, .string s1, .slice a1 m1 c1]) rfl (fun W h => (by have u0 := cell_below h.out _ _ _ x0; have u1 := cell_below h.out _ _ _ x1; have u2 := cell_below h.out _ _ _ x2; have u3 := cell_below h.out _ _ _ x3; go_simp)) ?_
        simp only [Act.put, List.setIfInBounds_toArray, List.set_cons_zero, List.set_cons_succ]
        refine quiet_call (v := .int .i64 z) rfl (fun W => (by go_simp)) (fun W h => (hcall.out W h).mono fun e w' ⟨he, hb⟩ => ⟨he, h.call hb⟩) ?_
        simp only [Act.put, List.setIfInBounds_toArray, List.set_cons_zero, List.set_cons_succ]
        refine quiet_value (v := .bool true) rfl (fun _ _ => (by go_simp)) ?_
        simp only [Act.put, List.setIfInBounds_toArray, List.set_cons_zero, List.set_cons_succ]
        refine quiet_value (v := .bool false) rfl (fun _ _ => (by go_simp)) ?_
        simp only [Act.put, List.setIfInBounds_toArray, List.set_cons_zero, List.set_cons_succ]
        refine quiet_nil ?_
        intro w6 hw6
        go_wp2
        go_roundw
        case rel => exact ⟨i, c, rfl, rfl, hmi, by omega, by omega, hlo, Hid.mk (fun h => by rw [hz.out]; exact hx), Hid.mk (hrw.out.later hw6)⟩
        case measure => simp [intOf]; omega
      · have hdx : decide (z < 0) = false := decide_eq_false hx
        go_upto_region 17 with fail
        refine region_up (W := wr) (by kernel_rfl) (by kernel_rfl) (Up.refl _) ?_
        refine quiet_value (v := cmpV) rfl (fun _ _ => rfl) ?_
        simp only [Act.put, List.setIfInBounds_toArray, List.set_cons_zero, List.set_cons_succ]
        refine quiet_value (v := .slice (some ⟨g, 0, none⟩) L cap) rfl (fun _ _ => rfl) ?_
        simp only [Act.put, List.setIfInBounds_toArray, List.set_cons_zero, List.set_cons_succ]
        refine quiet_value (v := .int .i64 m) rfl (fun _ _ => rfl) ?_
        simp only [Act.put, List.setIfInBounds_toArray, List.set_cons_zero, List.set_cons_succ]
        refine quiet_value (v := .pointer (some ⟨g, m * 4, none⟩)) rfl (fun _ _ => (by go_simp)) ?_
        simp only [Act.put, List.setIfInBounds_toArray, List.set_cons_zero, List.set_cons_succ]
        refine quiet_value (v := .agg #[.int .i64 k2, .int .i64 n2, .string s2, .slice a2 m2 c2]) rfl (fun W h => (by have u0 := cell_below h.out _ _ _ y0; have u1 := cell_below h.out _ _ _ y1; have u2 := cell_below h.out _ _ _ y2; have u3 := cell_below h.out _ _ _ y3; go_simp)) ?_
        simp only [Act.put, List.setIfInBounds_toArray, List.set_cons_zero, List.set_cons_succ]
        refine quiet_value (v := .slice (some ⟨g, 0, none⟩) L cap) rfl (fun _ _ => rfl) ?_
        simp only [Act.put, List.setIfInBounds_toArray, List.set_cons_zero, List.set_cons_succ]
        refine quiet_value (v := .int .i64 c) rfl (fun _ _ => rfl) ?_
        simp only [Act.put, List.setIfInBounds_toArray, List.set_cons_zero, List.set_cons_succ]
        refine quiet_value (v := .pointer (some ⟨g, c * 4, none⟩)) rfl (fun _ _ => (by go_simp)) ?_
        simp only [Act.put, List.setIfInBounds_toArray, List.set_cons_zero, List.set_cons_succ]
        refine quiet_value (v := .agg #[.int .i64 k1, .int .i64 n1, .string s1, .slice a1 m1 c1]) rfl (fun W h => (by have u0 := cell_below h.out _ _ _ x0; have u1 := cell_below h.out _ _ _ x1; have u2 := cell_below h.out _ _ _ x2; have u3 := cell_below h.out _ _ _ x3; go_simp)) ?_
        simp only [Act.put, List.setIfInBounds_toArray, List.set_cons_zero, List.set_cons_succ]
        refine quiet_call (v := .int .i64 z) rfl (fun W => (by go_simp)) (fun W h => (hcall.out W h).mono fun e w' ⟨he, hb⟩ => ⟨he, h.call hb⟩) ?_
        simp only [Act.put, List.setIfInBounds_toArray, List.set_cons_zero, List.set_cons_succ]
        refine quiet_value (v := .bool false) rfl (fun _ _ => (by go_simp)) ?_
        simp only [Act.put, List.setIfInBounds_toArray, List.set_cons_zero, List.set_cons_succ]
        refine quiet_value (v := .bool true) rfl (fun _ _ => (by go_simp)) ?_
        simp only [Act.put, List.setIfInBounds_toArray, List.set_cons_zero, List.set_cons_succ]
        refine quiet_nil ?_
        intro w6 hw6
        go_wp2
        go_roundw
        case rel => exact ⟨c + 1, j, by go_num, rfl, by omega, by omega, hj, Hid.mk (fun h0 h => by simp only [show c + 1 - a - 1 = c - a by omega]; rw [hz.out]; exact hx), hhi, Hid.mk (hrw.out.later hw6)⟩
        case measure => simp [intOf]; omega
    · obtain rfl : i = j := by omega
      have hd : decide ((i : Int) < (i : Int)) = false := by simp
      have hsp := right_split hXs (i := i - a) (fun h0 h => hlo.out h0 h) (fun h => hhi.out h) (by have := hmh.out; omega)
      obtain ⟨X1, hX1⟩ : ∃ X1, X.take (i - a) = X1 := ⟨_, rfl⟩
      obtain ⟨X2, hX2⟩ : ∃ X2, X.drop (i - a) = X2 := ⟨_, rfl⟩
      have hXe : X1 ++ X2 = X := by rw [← hX1, ← hX2, List.take_append_drop]
      have hX1l : X1.length = i - a := by rw [← hX1, List.length_take]; have := hmh.out; omega
      have hX2l : X2.length = m - i := by rw [← hX2, List.length_drop]; have := hmh.out; omega
      rw [hX1, hX2] at hsp
      have hres := merge_one_right X1 X2 y (by rw [hXe]; exact hXs) hsp.1 hsp.2
      rw [hXe] at hres
      have hres := Hid.mk hres
      have hX1l := Hid.mk hX1l
      have hX2l := Hid.mk hX2l
      have hst : Hid (Rw w0 S g (A ++ X1 ++ X2 ++ y :: ([] ++ C)) wr) := Hid.mk (by rw [List.append_assoc A, hXe, List.nil_append]; exact hrw.out)
      clear hX1 hX2 hXe hsp hlo hhi hrw
      go_wp2
      go_loopw [17] (fun kk wr => ∃ (k : Nat) (Z1 Z2 : List Tm), kk = .int .i64 k ∧ k ≤ m ∧ Hid (k = i + Z1.length) ∧ Hid (X2 = Z1 ++ Z2) ∧ Hid (Rw w0 S g (A ++ X1 ++ Z1 ++ y :: (Z2 ++ C)) wr)) (fun kk _ => (intOf kk).toNat)
      case atStart => exact ⟨m, X2, [], rfl, Nat.le_refl _, Hid.mk (by have := hX2l.out; omega), Hid.mk (by simp), hst⟩
      case round =>
        clear hst
        obtain ⟨k, Z1, Z2, rfl, hkm, hk, hZ, hrw⟩ := hrel
        by_cases hlt : i < k
        · obtain ⟨Z3, z, rfl⟩ : ∃ Z3 z, Z1 = Z3 ++ [z] := by
            rcases List.eq_nil_or_concat Z1 with rfl | ⟨P', u, rfl⟩
            · have := hk.out; simp at this; omega
            · exact ⟨P', u, by simp⟩
          obtain ⟨p, hp⟩ : ∃ p, k - 1 = p := ⟨_, rfl⟩
          have hd : decide ((k : Int) > (i : Int)) = true := by simp; omega
          have hpp : Hid ((A ++ X1 ++ Z3).length = p) := Hid.mk (by have h1 := hah.out; have h2 := hX1l.out; have h3 := hk.out; simp only [List.length_append, List.length_cons, List.length_nil] at h3 ⊢; omega)
          have hkp : Hid ((A ++ X1 ++ Z3 ++ [z]).length = k) := Hid.mk (by rw [List.length_append, hpp.out]; simp; omega)
          have hq0 : Hid (Rw w0 S g ((A ++ X1 ++ Z3 ++ [z]) ++ y :: (Z2 ++ C)) wr.drew) := Hid.mk (by have := hrw.out.drew; rw [← List.append_assoc (A ++ X1)] at this; exact this)
          obtain ⟨k1, n1, s1, a1, m1, c1, hlx, x0, x1, x2, x3⟩ := hq0.out.one.mid hpp.out
          obtain ⟨k2, n2, s2, a2, m2, c2, hly, y0, y1, y2, y3⟩ := hq0.out.mid hkp.out
          have x0 : wr.cell? ⟨g, p * 4, none⟩ = _ := x0
          have x1 : wr.cell? ⟨g, p * 4 + 1, none⟩ = _ := x1
          have x2 : wr.cell? ⟨g, p * 4 + 2, none⟩ = _ := x2
          have x3 : wr.cell? ⟨g, p * 4 + 3, none⟩ = _ := x3
          have y0 : wr.cell? ⟨g, k * 4, none⟩ = _ := y0
          have y1 : wr.cell? ⟨g, k * 4 + 1, none⟩ = _ := y1
          have y2 : wr.cell? ⟨g, k * 4 + 2, none⟩ = _ := y2
          have y3 : wr.cell? ⟨g, k * 4 + 3, none⟩ = _ := y3
          have hq1 := Hid.mk (hq0.out.put_mid hkp.out hlx).one
          have hq2 := Hid.mk (hq1.out.put_mid hpp.out hly)
          have wS : IntKind.i64.wrap ((k : Int) - 1) = (p : Int) := by rw [IntKind.wrap_i64]; omega
          have dk : (0 : Int) ≤ (k : Int) := by omega
          have dp : (0 : Int) ≤ (p : Int) := by omega
          have dk' : (k : Int) < (L : Int) := by omega
          have dp' : (p : Int) < (L : Int) := by omega
          have dkn : k < L := by omega
          have dpn : p < L := by omega
          have hpi : p < k := by omega
          have hip : i ≤ p := by omega
          have hph := Hid.mk hp
          clear hlx hly hp hrw
          go_upto_region 23 with fail
          refine wp_region_held (S := fun _ => True) (by kernel_rfl) ?_
          refine chain_take (i := 0) (d := 113) (v := .slice (some ⟨g, 0, none⟩) L cap) rfl rfl (by kernel_rfl) (by kernel_rfl) (by kernel_rfl) rfl (fun _ _ => rfl) (fun _ _ _ h => h) trivial ?_
          simp only [Act.put, List.setIfInBounds_toArray, List.set_cons_zero, List.set_cons_succ]
          refine chain_take (i := 1) (d := 114) (v := .int .i64 k) rfl rfl (by kernel_rfl) (by kernel_rfl) (by kernel_rfl) rfl (fun _ _ => rfl) (fun _ _ _ h => h) trivial ?_
          simp only [Act.put, List.setIfInBounds_toArray, List.set_cons_zero, List.set_cons_succ]
          refine chain_take (i := 2) (d := 115) (v := .slice (some ⟨g, 0, none⟩) L cap) rfl rfl (by kernel_rfl) (by kernel_rfl) (by kernel_rfl) rfl (fun _ _ => rfl) (fun _ _ _ h => h) trivial ?_
          simp only [Act.put, List.setIfInBounds_toArray, List.set_cons_zero, List.set_cons_succ]
          refine chain_take (i := 3) (d := 116) (v := .int .i64 k) rfl rfl (by kernel_rfl) (by kernel_rfl) (by kernel_rfl) rfl (fun _ _ => rfl) (fun _ _ _ h => h) trivial ?_
          simp only [Act.put, List.setIfInBounds_toArray, List.set_cons_zero, List.set_cons_succ]
          refine chain_take (i := 4) (d := 117) (v := .int .i64 p) rfl rfl (by kernel_rfl) (by kernel_rfl) (by kernel_rfl) rfl (fun _ _ => (by go_simp)) (fun _ _ _ h => h) trivial ?_
          simp only [Act.put, List.setIfInBounds_toArray, List.set_cons_zero, List.set_cons_succ]
          refine chain_take (i := 5) (d := 118) (v := .slice (some ⟨g, 0, none⟩) L cap) rfl rfl (by kernel_rfl) (by kernel_rfl) (by kernel_rfl) rfl (fun _ _ => rfl) (fun _ _ _ h => h) trivial ?_
          simp only [Act.put, List.setIfInBounds_toArray, List.set_cons_zero, List.set_cons_succ]
          refine chain_take (i := 6) (d := 119) (v := .int .i64 k) rfl rfl (by kernel_rfl) (by kernel_rfl) (by kernel_rfl) rfl (fun _ _ => rfl) (fun _ _ _ h => h) trivial ?_
          simp only [Act.put, List.setIfInBounds_toArray, List.set_cons_zero, List.set_cons_succ]
          refine chain_take (i := 7) (d := 120) (v := .int .i64 p) rfl rfl (by kernel_rfl) (by kernel_rfl) (by kernel_rfl) rfl (fun _ _ => (by go_simp)) (fun _ _ _ h => h) trivial ?_
          simp only [Act.put, List.setIfInBounds_toArray, List.set_cons_zero, List.set_cons_succ]
          refine chain_take (i := 8) (d := 121) (v := .pointer (some ⟨g, p * 4, none⟩)) rfl rfl (by kernel_rfl) (by kernel_rfl) (by kernel_rfl) rfl (fun _ _ => (by go_simp)) (fun _ _ _ h => h) trivial ?_
          simp only [Act.put, List.setIfInBounds_toArray, List.set_cons_zero, List.set_cons_succ]
          refine chain_take (i := 10) (d := 123) (v := .slice (some ⟨g, 0, none⟩) L cap) rfl rfl (by kernel_rfl) (by kernel_rfl) (by kernel_rfl) rfl (fun _ _ => rfl) (fun _ _ _ h => h) trivial ?_
          simp only [Act.put, List.setIfInBounds_toArray, List.set_cons_zero, List.set_cons_succ]
          refine chain_take (i := 11) (d := 124) (v := .int .i64 k) rfl rfl (by kernel_rfl) (by kernel_rfl) (by kernel_rfl) rfl (fun _ _ => rfl) (fun _ _ _ h => h) trivial ?_
          simp only [Act.put, List.setIfInBounds_toArray, List.set_cons_zero, List.set_cons_succ]
          refine chain_take (i := 12) (d := 125) (v := .pointer (some ⟨g, k * 4, none⟩)) rfl rfl (by kernel_rfl) (by kernel_rfl) (by kernel_rfl) rfl (fun _ _ => (by go_simp)) (fun _ _ _ h => h) trivial ?_
          simp only [Act.put, List.setIfInBounds_toArray, List.set_cons_zero, List.set_cons_succ]
          refine chain_pair (i := 9) (j := 13) (d := 122) (e := 126) (u := .agg #[.int .i64 k1, .int .i64 n1, .string s1, .slice a1 m1 c1]) (v := .agg #[.int .i64 k2, .int .i64 n2, .string s2, .slice a2 m2 c2]) (by kernel_rfl) rfl rfl rfl rfl (by decide) (by decide) (by kernel_rfl) (by kernel_rfl) rfl rfl rfl rfl (by go_simp) (by go_simp) (by go_simp) (by go_simp) trivial ?_
          simp only [Act.put, List.setIfInBounds_toArray, List.set_cons_zero, List.set_cons_succ]
          refine chain_value (i := 14) (d := 127) (v := .pointer (some ⟨g, k * 4, none⟩)) (w' := wr.drew) (by kernel_rfl) rfl rfl rfl (by go_simp) trivial ?_
          simp only [Act.put, List.setIfInBounds_toArray, List.set_cons_zero, List.set_cons_succ]
          refine chain_skip (i := 15) (w' := put4 wr.drew g (k * 4) (.int .i64 k1) (.int .i64 n1) (.string s1) (.slice a1 m1 c1)) (by kernel_rfl) rfl rfl rfl (hq0.out.store_mid hkp.out rfl rfl _ _ _ _) trivial ?_
          refine chain_value (i := 16) (d := 128) (v := .pointer (some ⟨g, p * 4, none⟩)) (w' := put4 wr.drew g (k * 4) (.int .i64 k1) (.int .i64 n1) (.string s1) (.slice a1 m1 c1)) (by kernel_rfl) rfl rfl rfl (by go_simp) trivial ?_
          simp only [Act.put, List.setIfInBounds_toArray, List.set_cons_zero, List.set_cons_succ]
          refine chain_skip (i := 17) (w' := put4 (put4 wr.drew g (k * 4) (.int .i64 k1) (.int .i64 n1) (.string s1) (.slice a1 m1 c1)) g (p * 4) (.int .i64 k2) (.int .i64 n2) (.string s2) (.slice a2 m2 c2)) (by kernel_rfl) rfl rfl rfl (hq1.out.store_mid hpp.out rfl rfl _ _ _ _) trivial ?_
          refine wpAnyH_done (by kernel_rfl) ?_ _
          go_wp2
          go_roundw
          case rel => exact ⟨p, Z3, z :: Z2, rfl, by omega, Hid.mk (by have h1 := hk.out; have h2 := hph.out; rw [List.length_append, List.length_singleton] at h1; omega), Hid.mk (by rw [hZ.out]; simp), hq2⟩
          case measure => simp [intOf]; omega
        · have hd : decide ((k : Int) > (i : Int)) = false := by simp; omega
          go_wp2
          refine bodyPost_ret (results_none rfl _ _ _) rfl ⟨rfl, ?_⟩
          have hZ1 : Z1 = [] := List.eq_nil_of_length_eq_zero (by have h3 := hk.out; omega)
          subst hZ1
          have h1 := hZ.out
          rw [List.nil_append] at h1
          subst h1
          rw [hres.out]
          have h2 := hrw.out
          simp only [List.append_assoc, List.cons_append, List.append_nil] at h2 ⊢
          exact h2

end Go.Proofs.YteklhipcojioaaaDoor
