/-
  slices' symMergeCmpFunc at terms, where one of the stretches has one term.
-/
import Derived.Test.YteklhipcojioaaaDoorZOrdSwap
import Derived.Test.YteklhipcojioaaaDoorZOrdSym
namespace Go.Proofs.YteklhipcojioaaaDoor
open Go.RowKit Go.Deep

theorem Rw.pick {w0 w : World} {S : Nat → Prop} {g p : Nat} {l : List Tm} {u : Tm} (h : Rw w0 S g l w) (hp : l[p]? = some u) : ∃ k n s a m cap, Lies w0 S u (.agg #[.int .i64 k, .int .i64 n, .string s, .slice a m cap]) ∧ w.cell? ⟨g, p * 4, none⟩ = some (.int .i64 k) ∧ w.cell? ⟨g, p * 4 + 1, none⟩ = some (.int .i64 n) ∧
    w.cell? ⟨g, p * 4 + 2, none⟩ = some (.string s) ∧ w.cell? ⟨g, p * 4 + 3, none⟩ = some (.slice a m cap) := by
  obtain ⟨hi, e⟩ := List.getElem?_eq_some_iff.1 hp
  have := h.at p hi
  rw [e] at this
  exact this

set_option maxRecDepth 100000 in
set_option maxHeartbeats 4000000 in
theorem symleft_any (w0 : World) (S : Nat → Prop) (g cap L : Nat) (A : List Tm) (x : Tm) (Y C : List Tm) (hYs : Sorted Y) (hY0 : 0 < Y.length) (a m b : Nat) (ha : A.length = a) (hm : m = a + 1) (hb : b = m + Y.length)
    (hL : (A ++ x :: (Y ++ C)).length = L) (_hcap : L ≤ cap) (hlen : L ≤ 1000000) (w : World) (h : Rw w0 S g (A ++ x :: (Y ++ C)) w) :
    Calls Tryd.prog 98 #[.slice (some ⟨g, 0, none⟩) L cap, .int .i64 a, .int .i64 m, .int .i64 b, cmpV] w fun e w' => e = .returned (.tuple #[]) ∧ Rw w0 S g (A ++ sortT (x :: Y) ++ C) w' := by
  have h0 := Hid.mk h
  have hbL : b ≤ L := by simp only [List.length_append, List.length_cons] at hL; omega
  have h1 : (((m : Int) - (a : Int)) == 1) = true := by simp; omega
  have ham : a < m := by omega
  have hmb : m < b := by omega
  have haL : a < L := by omega
  have hah := Hid.mk ha
  have hmh := Hid.mk hm
  have hbh := Hid.mk hb
  have da : (0 : Int) ≤ (a : Int) := by omega
  have da' : (a : Int) < (L : Int) := by omega
  clear h ha hm hb hL hY0
  go_enter Tryd.func98, Tryd.ntmps98
  go_wp2
  clear h1
  go_loopw [10, 11] (fun ii jj wr => ∃ i j : Nat, ii = .int .i64 i ∧ jj = .int .i64 j ∧ m ≤ i ∧ i ≤ j ∧ j ≤ b ∧ Hid (∀ (h0 : 0 < i - m) (h : i - m - 1 < Y.length), Y[i - m - 1].cmp x < 0) ∧ Hid (∀ h : j - m < Y.length, ¬ Y[j - m].cmp x < 0) ∧ Hid (Rw w0 S g (A ++ x :: (Y ++ C)) wr)) (fun ii jj _ => (intOf jj - intOf ii).toNat)
  case atStart => exact ⟨m, b, rfl, rfl, Nat.le_refl _, by omega, Nat.le_refl _, Hid.mk (fun h => by omega), Hid.mk (fun h => by have := hbh.out; omega), h0⟩
  case round =>
    clear h0
    obtain ⟨i, j, rfl, rfl, hmi, hij, hj, hlo, hhi, hrw⟩ := hrel
    by_cases hlt : i < j
    · have hd : decide ((i : Int) < (j : Int)) = true := by simp; omega
      obtain ⟨c, hc⟩ : ∃ c, (i + j) / 2 = c := ⟨_, rfl⟩
      have hic : i ≤ c ∧ c < j := by omega
      have hcY : c - m < Y.length := by have := hbh.out; omega
      have hcL : c < L := by omega
      have gc : (A ++ x :: (Y ++ C))[c]? = some Y[c - m] := by
        have h1 := hah.out; have h2 := hmh.out
        rw [List.getElem?_append_right (by omega), show c - A.length = (c - m) + 1 by omega, List.getElem?_cons_succ, List.getElem?_append_left hcY, List.getElem?_eq_getElem hcY]
      have ga : (A ++ x :: (Y ++ C))[a]? = some x := by rw [← hah.out]; simp
      obtain ⟨k2, n2, s2, a2, m2, c2, hly, y0, y1, y2, y3⟩ := hrw.out.pick gc
      obtain ⟨k1, n1, s1, a1, m1, c1, hlx, x0, x1, x2, x3⟩ := hrw.out.pick ga
      have hcall := Hid.mk (fun (W : World) (hW : Up wr W) => compare_any Y[c - m] x S S _ _ W ((hrw.out.later hW).is hly) ((hrw.out.later hW).is hlx))
      obtain ⟨z, hz⟩ : ∃ z, Y[c - m].cmp x = z := ⟨_, rfl⟩
      rw [hz] at hcall
      have hz := Hid.mk hz
      have hdiv : ((i : Int) + (j : Int)) / 2 = (c : Int) := by omega
      have dc : (0 : Int) ≤ (c : Int) := by omega
      have dc' : (c : Int) < (L : Int) := by omega
      have hch := Hid.mk hc
      clear hc hly hlx gc ga
      by_cases hx : z < 0
      · have hdx : decide (z < 0) = true := decide_eq_true hx
        go_upto_region 5 with fail
        refine region_up (W := wr) (by kernel_rfl) (by kernel_rfl) (Up.refl _) ?_
        refine quiet_value (v := cmpV) rfl (fun _ _ => rfl) ?_
        simp only [Act.put, List.setIfInBounds_toArray, List.set_cons_zero, List.set_cons_succ]
        refine quiet_value (v := .slice (some ⟨g, 0, none⟩) L cap) rfl (fun _ _ => rfl) ?_
        simp only [Act.put, List.setIfInBounds_toArray, List.set_cons_zero, List.set_cons_succ]
        refine quiet_value (v := .int .i64 c) rfl (fun _ _ => rfl) ?_
        simp only [Act.put, List.setIfInBounds_toArray, List.set_cons_zero, List.set_cons_succ]
        refine quiet_value (v := .pointer (some ⟨g, c * 4, none⟩)) rfl (fun _ _ => (by go_simp)) ?_
        simp only [Act.put, List.setIfInBounds_toArray, List.set_cons_zero, List.set_cons_succ]
        refine quiet_value (v := .agg #[.int .i64 k2, .int .i64 n2, .string s2, .slice a2 m2 c2]) rfl (fun W h => (by have u0 := cell_below h.out _ _ _ y0; have u1 := cell_below h.out _ _ _ y1; have u2 := cell_below h.out _ _ _ y2; have u3 := cell_below h.out _ _ _ y3; go_simp)) ?_
        simp only [Act.put, List.setIfInBounds_toArray, List.set_cons_zero, List.set_cons_succ]
        refine quiet_value (v := .slice (some ⟨g, 0, none⟩) L cap) rfl (fun _ _ => rfl) ?_
        simp only [Act.put, List.setIfInBounds_toArray, List.set_cons_zero, List.set_cons_succ]
        refine quiet_value (v := .int .i64 a) rfl (fun _ _ => rfl) ?_
        simp only [Act.put, List.setIfInBounds_toArray, List.set_cons_zero, List.set_cons_succ]
        refine quiet_value (v := .pointer (some ⟨g, a * 4, none⟩)) rfl (fun _ _ => (by go_simp)) ?_
        simp only [Act.put, List.setIfInBounds_toArray, List.set_cons_zero, List.set_cons_succ]
        refine quiet_value (v := .agg #[.int .i64 k1, .int .i64 n1, .string s1, .slice a1 m1 c1]) rfl (fun W h => (by have u0 := cell_below h.out _ _ _ x0; have u1 := cell_below h.out _ _ _ x1; have u2 := cell_below h.out _ _ _ x2; have u3 := cell_below h.out _ _ _ x3; go_simp)) ?_
        simp only [Act.put, List.setIfInBounds_toArray, List.set_cons_zero, List.set_cons_succ]
        refine quiet_call (v := .int .i64 z) rfl (fun W => (by go_simp)) (fun W h => (hcall.out W h).mono fun e w' ⟨he, hb⟩ => ⟨he, h.call hb⟩) ?_
        simp only [Act.put, List.setIfInBounds_toArray, List.set_cons_zero, List.set_cons_succ]
        refine quiet_value (v := .bool true) rfl (fun _ _ => (by go_simp)) ?_
        simp only [Act.put, List.setIfInBounds_toArray, List.set_cons_zero, List.set_cons_succ]
        refine quiet_nil ?_
        intro w6 hw6
        go_wp2
        go_roundw
        case rel => exact ⟨c + 1, j, by go_num, rfl, by omega, by omega, hj, Hid.mk (fun h0 h => by simp only [show c + 1 - m - 1 = c - m by omega]; rw [hz.out]; exact hx), hhi, Hid.mk (hrw.out.later hw6)⟩
        case measure => simp [intOf]; omega
      · have hdx : decide (z < 0) = false := decide_eq_false hx
        go_upto_region 5 with fail
        refine region_up (W := wr) (by kernel_rfl) (by kernel_rfl) (Up.refl _) ?_
        refine quiet_value (v := cmpV) rfl (fun _ _ => rfl) ?_
        simp only [Act.put, List.setIfInBounds_toArray, List.set_cons_zero, List.set_cons_succ]
        refine quiet_value (v := .slice (some ⟨g, 0, none⟩) L cap) rfl (fun _ _ => rfl) ?_
        simp only [Act.put, List.setIfInBounds_toArray, List.set_cons_zero, List.set_cons_succ]
        refine quiet_value (v := .int .i64 c) rfl (fun _ _ => rfl) ?_
        simp only [Act.put, List.setIfInBounds_toArray, List.set_cons_zero, List.set_cons_succ]
        refine quiet_value (v := .pointer (some ⟨g, c * 4, none⟩)) rfl (fun _ _ => (by go_simp)) ?_
        simp only [Act.put, List.setIfInBounds_toArray, List.set_cons_zero, List.set_cons_succ]
        refine quiet_value (v := .agg #[.int .i64 k2, .int .i64 n2, .string s2, .slice a2 m2 c2]) rfl (fun W h => (by have u0 := cell_below h.out _ _ _ y0; have u1 := cell_below h.out _ _ _ y1; have u2 := cell_below h.out _ _ _ y2; have u3 := cell_below h.out _ _ _ y3; go_simp)) ?_
        simp only [Act.put, List.setIfInBounds_toArray, List.set_cons_zero, List.set_cons_succ]
        refine quiet_value (v := .slice (some ⟨g, 0, none⟩) L cap) rfl (fun _ _ => rfl) ?_
        simp only [Act.put, List.setIfInBounds_toArray, List.set_cons_zero, List.set_cons_succ]
        refine quiet_value (v := .int .i64 a) rfl (fun _ _ => rfl) ?_
        simp only [Act.put, List.setIfInBounds_toArray, List.set_cons_zero, List.set_cons_succ]
        refine quiet_value (v := .pointer (some ⟨g, a * 4, none⟩)) rfl (fun _ _ => (by go_simp)) ?_
        simp only [Act.put, List.setIfInBounds_toArray, List.set_cons_zero, List.set_cons_succ]
        refine quiet_value (v := .agg #[.int .i64 k1, .int .i64 n1, .string s1, .slice a1 m1 c1]) rfl (fun W h => (by have u0 := cell_below h.out _ _ _ x0; have u1 := cell_below h.out _ _ _ x1; have u2 := cell_below h.out _ _ _ x2; have u3 := cell_below h.out _ _ _ x3; go_simp)) ?_
        simp only [Act.put, List.setIfInBounds_toArray, List.set_cons_zero, List.set_cons_succ]
        refine quiet_call (v := .int .i64 z) rfl (fun W => (by go_simp)) (fun W h => (hcall.out W h).mono fun e w' ⟨he, hb⟩ => ⟨he, h.call hb⟩) ?_
        simp only [Act.put, List.setIfInBounds_toArray, List.set_cons_zero, List.set_cons_succ]
        refine quiet_value (v := .bool false) rfl (fun _ _ => (by go_simp)) ?_
        simp only [Act.put, List.setIfInBounds_toArray, List.set_cons_zero, List.set_cons_succ]
        refine quiet_nil ?_
        intro w6 hw6
        go_wp2
        go_roundw
        case rel => exact ⟨i, c, rfl, rfl, hmi, by omega, by omega, hlo, Hid.mk (fun h => by rw [hz.out]; exact hx), Hid.mk (hrw.out.later hw6)⟩
        case measure => simp [intOf]; omega
    · obtain rfl : i = j := by omega
      have hd : decide ((i : Int) < (i : Int)) = false := by simp
      have hsp := left_split hYs (i := i - m) (fun h0 h => hlo.out h0 h) (fun h => hhi.out h) (by have := hbh.out; omega)
      obtain ⟨Y1, hY1⟩ : ∃ Y1, Y.take (i - m) = Y1 := ⟨_, rfl⟩
      obtain ⟨Y2, hY2⟩ : ∃ Y2, Y.drop (i - m) = Y2 := ⟨_, rfl⟩
      have hYe : Y1 ++ Y2 = Y := by rw [← hY1, ← hY2, List.take_append_drop]
      have hY1l : Y1.length = i - m := by rw [← hY1, List.length_take]; have := hbh.out; omega
      rw [hY1, hY2] at hsp
      have hres := merge_one_left x Y1 Y2 (by rw [hYe]; exact hYs) hsp.1 hsp.2
      rw [hYe] at hres
      have hres := Hid.mk hres
      have hY1l := Hid.mk hY1l
      have hst : Hid (Rw w0 S g (A ++ [] ++ x :: (Y1 ++ Y2 ++ C)) wr) := Hid.mk (by rw [hYe, List.append_nil]; exact hrw.out)
      clear hY1 hY2 hYe hsp hlo hhi hrw
      go_wp2
      go_loopw [13] (fun kk wr => ∃ (k : Nat) (Z1 Z2 : List Tm), kk = .int .i64 k ∧ Hid (k = a + Z1.length) ∧ Hid (Y1 = Z1 ++ Z2) ∧ Hid (Rw w0 S g (A ++ Z1 ++ x :: (Z2 ++ Y2 ++ C)) wr)) (fun kk _ => i - (intOf kk).toNat)
      case atStart => exact ⟨a, [], Y1, rfl, Hid.mk rfl, Hid.mk rfl, hst⟩
      case round =>
        clear hst
        obtain ⟨k, Z1, Z2, rfl, hk, hZ, hrw⟩ := hrel
        by_cases hlt : k < i - 1
        · obtain ⟨z, Z3, rfl⟩ : ∃ z Z3, Z2 = z :: Z3 := by
            cases Z2 with
            | nil => have h1 := congrArg List.length hZ.out; have h2 := hY1l.out; have h3 := hk.out; have h4 := hmh.out; simp only [List.length_append, List.length_nil] at h1; omega
            | cons z Z3 => exact ⟨z, Z3, rfl⟩
          obtain ⟨p, hp⟩ : ∃ p, k + 1 = p := ⟨_, rfl⟩
          have hd : decide ((k : Int) < (i : Int) - 1) = true := by simp; omega
          have hkp : Hid ((A ++ Z1).length = k) := Hid.mk (by rw [List.length_append]; have h1 := hah.out; have h2 := hk.out; omega)
          have hpp : Hid ((A ++ Z1 ++ [z]).length = p) := Hid.mk (by rw [List.length_append, hkp.out]; simp; omega)
          have hq0 : Hid (Rw w0 S g ((A ++ Z1) ++ x :: z :: (Z3 ++ Y2 ++ C)) wr.drew) := Hid.mk hrw.out.drew
          obtain ⟨k1, n1, s1, a1, m1, c1, hlx, x0, x1, x2, x3⟩ := hq0.out.mid hkp.out
          obtain ⟨k2, n2, s2, a2, m2, c2, hly, y0, y1, y2, y3⟩ := hq0.out.two.mid (by rw [List.length_append, hkp.out]; simp; omega : (A ++ Z1 ++ [x]).length = p)
          have x0 : wr.cell? ⟨g, k * 4, none⟩ = _ := x0
          have x1 : wr.cell? ⟨g, k * 4 + 1, none⟩ = _ := x1
          have x2 : wr.cell? ⟨g, k * 4 + 2, none⟩ = _ := x2
          have x3 : wr.cell? ⟨g, k * 4 + 3, none⟩ = _ := x3
          have y0 : wr.cell? ⟨g, p * 4, none⟩ = _ := y0
          have y1 : wr.cell? ⟨g, p * 4 + 1, none⟩ = _ := y1
          have y2 : wr.cell? ⟨g, p * 4 + 2, none⟩ = _ := y2
          have y3 : wr.cell? ⟨g, p * 4 + 3, none⟩ = _ := y3
          have hq1 := Hid.mk (hq0.out.put_mid hkp.out hly).two
          have hq2 := Hid.mk (hq1.out.put_mid hpp.out hlx)
          have wS : IntKind.i64.wrap ((k : Int) + 1) = (p : Int) := by rw [IntKind.wrap_i64]; omega
          have dk : (0 : Int) ≤ (k : Int) := by omega
          have dp : (0 : Int) ≤ (p : Int) := by omega
          have dk' : (k : Int) < (L : Int) := by omega
          have dp' : (p : Int) < (L : Int) := by omega
          have dkn : k < L := by omega
          have dpn : p < L := by omega
          have hpi : p < i := by omega
          have hph := Hid.mk hp
          clear hlx hly hp hrw
          go_upto_region 11 with fail
          refine wp_region_held (S := fun _ => True) (by kernel_rfl) ?_
          refine chain_take (i := 0) (d := 61) (v := .slice (some ⟨g, 0, none⟩) L cap) rfl rfl (by kernel_rfl) (by kernel_rfl) (by kernel_rfl) rfl (fun _ _ => rfl) (fun _ _ _ h => h) trivial ?_
          simp only [Act.put, List.setIfInBounds_toArray, List.set_cons_zero, List.set_cons_succ]
          refine chain_take (i := 1) (d := 62) (v := .int .i64 k) rfl rfl (by kernel_rfl) (by kernel_rfl) (by kernel_rfl) rfl (fun _ _ => rfl) (fun _ _ _ h => h) trivial ?_
          simp only [Act.put, List.setIfInBounds_toArray, List.set_cons_zero, List.set_cons_succ]
          refine chain_take (i := 2) (d := 63) (v := .slice (some ⟨g, 0, none⟩) L cap) rfl rfl (by kernel_rfl) (by kernel_rfl) (by kernel_rfl) rfl (fun _ _ => rfl) (fun _ _ _ h => h) trivial ?_
          simp only [Act.put, List.setIfInBounds_toArray, List.set_cons_zero, List.set_cons_succ]
          refine chain_take (i := 3) (d := 64) (v := .int .i64 k) rfl rfl (by kernel_rfl) (by kernel_rfl) (by kernel_rfl) rfl (fun _ _ => rfl) (fun _ _ _ h => h) trivial ?_
          simp only [Act.put, List.setIfInBounds_toArray, List.set_cons_zero, List.set_cons_succ]
          refine chain_take (i := 4) (d := 65) (v := .int .i64 p) rfl rfl (by kernel_rfl) (by kernel_rfl) (by kernel_rfl) rfl (fun _ _ => (by go_simp)) (fun _ _ _ h => h) trivial ?_
          simp only [Act.put, List.setIfInBounds_toArray, List.set_cons_zero, List.set_cons_succ]
          refine chain_take (i := 5) (d := 66) (v := .slice (some ⟨g, 0, none⟩) L cap) rfl rfl (by kernel_rfl) (by kernel_rfl) (by kernel_rfl) rfl (fun _ _ => rfl) (fun _ _ _ h => h) trivial ?_
          simp only [Act.put, List.setIfInBounds_toArray, List.set_cons_zero, List.set_cons_succ]
          refine chain_take (i := 6) (d := 67) (v := .int .i64 k) rfl rfl (by kernel_rfl) (by kernel_rfl) (by kernel_rfl) rfl (fun _ _ => rfl) (fun _ _ _ h => h) trivial ?_
          simp only [Act.put, List.setIfInBounds_toArray, List.set_cons_zero, List.set_cons_succ]
          refine chain_take (i := 7) (d := 68) (v := .int .i64 p) rfl rfl (by kernel_rfl) (by kernel_rfl) (by kernel_rfl) rfl (fun _ _ => (by go_simp)) (fun _ _ _ h => h) trivial ?_
          simp only [Act.put, List.setIfInBounds_toArray, List.set_cons_zero, List.set_cons_succ]
          refine chain_take (i := 8) (d := 69) (v := .pointer (some ⟨g, p * 4, none⟩)) rfl rfl (by kernel_rfl) (by kernel_rfl) (by kernel_rfl) rfl (fun _ _ => (by go_simp)) (fun _ _ _ h => h) trivial ?_
          simp only [Act.put, List.setIfInBounds_toArray, List.set_cons_zero, List.set_cons_succ]
          refine chain_take (i := 10) (d := 71) (v := .slice (some ⟨g, 0, none⟩) L cap) rfl rfl (by kernel_rfl) (by kernel_rfl) (by kernel_rfl) rfl (fun _ _ => rfl) (fun _ _ _ h => h) trivial ?_
          simp only [Act.put, List.setIfInBounds_toArray, List.set_cons_zero, List.set_cons_succ]
          refine chain_take (i := 11) (d := 72) (v := .int .i64 k) rfl rfl (by kernel_rfl) (by kernel_rfl) (by kernel_rfl) rfl (fun _ _ => rfl) (fun _ _ _ h => h) trivial ?_
          simp only [Act.put, List.setIfInBounds_toArray, List.set_cons_zero, List.set_cons_succ]
          refine chain_take (i := 12) (d := 73) (v := .pointer (some ⟨g, k * 4, none⟩)) rfl rfl (by kernel_rfl) (by kernel_rfl) (by kernel_rfl) rfl (fun _ _ => (by go_simp)) (fun _ _ _ h => h) trivial ?_
          simp only [Act.put, List.setIfInBounds_toArray, List.set_cons_zero, List.set_cons_succ]
          refine chain_pair (i := 9) (j := 13) (d := 70) (e := 74) (u := .agg #[.int .i64 k2, .int .i64 n2, .string s2, .slice a2 m2 c2]) (v := .agg #[.int .i64 k1, .int .i64 n1, .string s1, .slice a1 m1 c1]) (by kernel_rfl) rfl rfl rfl rfl (by decide) (by decide) (by kernel_rfl) (by kernel_rfl) rfl rfl rfl rfl (by go_simp) (by go_simp) (by go_simp) (by go_simp) trivial ?_
          simp only [Act.put, List.setIfInBounds_toArray, List.set_cons_zero, List.set_cons_succ]
          refine chain_value (i := 14) (d := 75) (v := .pointer (some ⟨g, k * 4, none⟩)) (w' := wr.drew) (by kernel_rfl) rfl rfl rfl (by go_simp) trivial ?_
          simp only [Act.put, List.setIfInBounds_toArray, List.set_cons_zero, List.set_cons_succ]
          refine chain_skip (i := 15) (w' := put4 wr.drew g (k * 4) (.int .i64 k2) (.int .i64 n2) (.string s2) (.slice a2 m2 c2)) (by kernel_rfl) rfl rfl rfl (hq0.out.store_mid hkp.out rfl rfl _ _ _ _) trivial ?_
          refine chain_value (i := 16) (d := 76) (v := .pointer (some ⟨g, p * 4, none⟩)) (w' := put4 wr.drew g (k * 4) (.int .i64 k2) (.int .i64 n2) (.string s2) (.slice a2 m2 c2)) (by kernel_rfl) rfl rfl rfl (by go_simp) trivial ?_
          simp only [Act.put, List.setIfInBounds_toArray, List.set_cons_zero, List.set_cons_succ]
          refine chain_skip (i := 17) (w' := put4 (put4 wr.drew g (k * 4) (.int .i64 k2) (.int .i64 n2) (.string s2) (.slice a2 m2 c2)) g (p * 4) (.int .i64 k1) (.int .i64 n1) (.string s1) (.slice a1 m1 c1)) (by kernel_rfl) rfl rfl rfl (hq1.out.store_mid hpp.out rfl rfl _ _ _ _) trivial ?_
          refine wpAnyH_done (by kernel_rfl) ?_ _
          go_wp2
          go_roundw
          case rel => exact ⟨p, Z1 ++ [z], Z3, rfl, Hid.mk (by have h1 := hk.out; have h2 := hph.out; rw [List.length_append, List.length_singleton]; omega), Hid.mk (by rw [hZ.out]; simp), Hid.mk (by have := hq2.out; rw [← List.append_assoc A]; exact this)⟩
          case measure => have := hph.out; simp [intOf]; omega
        · have hd : decide ((k : Int) < (i : Int) - 1) = false := by simp; omega
          go_wp2
          refine bodyPost_ret (results_none rfl _ _ _) rfl ⟨rfl, ?_⟩
          have hZ2 : Z2 = [] := List.eq_nil_of_length_eq_zero (by have h1 := congrArg List.length hZ.out; have h2 := hY1l.out; have h3 := hk.out; have h4 := hmh.out; simp only [List.length_append] at h1; omega)
          subst hZ2
          have h1 := hZ.out
          rw [List.append_nil] at h1
          subst h1
          rw [hres.out]
          have h2 := hrw.out
          simp only [List.append_assoc, List.nil_append, List.cons_append] at h2 ⊢
          exact h2

end Go.Proofs.YteklhipcojioaaaDoor
