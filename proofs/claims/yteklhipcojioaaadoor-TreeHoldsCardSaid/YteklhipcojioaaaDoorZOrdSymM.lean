/-
  slices' symMergeCmpFunc at terms.
-/
import Derived.Test.YteklhipcojioaaaDoorZOrdSymR
namespace Go.Proofs.YteklhipcojioaaaDoor
open Go.RowKit Go.Deep

/-- What a merge of at most N terms does. -/
def SymSays (w0 : World) (S : Nat → Prop) (g cap L N : Nat) : Prop :=
  ∀ (A X Y C : List Tm), Sorted X → Sorted Y → 0 < X.length → 0 < Y.length → X.length + Y.length ≤ N → ∀ (x y z : Int), x = A.length → y = A.length + X.length → z = A.length + X.length + Y.length → (A ++ X ++ Y ++ C).length = L →
    ∀ w, Rw w0 S g (A ++ X ++ Y ++ C) w → Calls Tryd.prog 98 #[.slice (some ⟨g, 0, none⟩) L cap, .int .i64 x, .int .i64 y, .int .i64 z, cmpV] w fun e w' => e = .returned (.tuple #[]) ∧ Rw w0 S g (A ++ sortT (X ++ Y) ++ C) w'

set_option maxRecDepth 100000 in
set_option maxHeartbeats 8000000 in
theorem symmid_of (w0 : World) (S : Nat → Prop) (g cap L N : Nat) (ih0 : SymSays w0 S g cap L N) (A X Y C : List Tm) (hXs : Sorted X) (hYs : Sorted Y) (hX0 : 1 < X.length) (hY0 : 1 < Y.length) (hN : X.length + Y.length ≤ N + 1) (a m b : Nat) (ha : A.length = a) (hm : m = a + X.length) (hb : b = m + Y.length)
    (hL : (A ++ X ++ Y ++ C).length = L) (hcap : L ≤ cap) (hlen : L ≤ 1000000) (w : World) (h : Rw w0 S g (A ++ X ++ Y ++ C) w) :
    Calls Tryd.prog 98 #[.slice (some ⟨g, 0, none⟩) L cap, .int .i64 a, .int .i64 m, .int .i64 b, cmpV] w fun e w' => e = .returned (.tuple #[]) ∧ Rw w0 S g (A ++ sortT (X ++ Y) ++ C) w' := by
  have h0 := Hid.mk h
  have ih := Hid.mk ih0
  have hbL : b ≤ L := by simp only [List.length_append] at hL; omega
  have h1 : (((m : Int) - (a : Int)) == 1) = false := by simp; omega
  have h2 : (((b : Int) - (m : Int)) == 1) = false := by simp; omega
  obtain ⟨d, hd⟩ : ∃ d, (a + b) / 2 = d := ⟨_, rfl⟩
  obtain ⟨nn, hnn⟩ : ∃ nn, d + m = nn := ⟨_, rfl⟩
  obtain ⟨pp, hpp⟩ : ∃ pp, nn - 1 = pp := ⟨_, rfl⟩
  have had : a < d ∧ d < b := by omega
  have ham : a + 1 < m := by omega
  have hmb : m + 1 < b := by omega
  have hnn0 : 2 ≤ nn ∧ nn ≤ 2000000 := by omega
  have hd1 : ((a : Int) + (b : Int)) / 2 = (d : Int) := by omega
  have hn1 : (d : Int) + (m : Int) = (nn : Int) := by omega
  have hp1 : (nn : Int) - 1 = (pp : Int) := by omega
  have hsz : Hid ((d - a) ≤ N ∧ (b - d) ≤ N) := Hid.mk (by omega)
  -- where the search begins and ends
  obtain ⟨s0, hs0⟩ : ∃ s0, a + ((d - a) - Y.length) = s0 := ⟨_, rfl⟩
  obtain ⟨r0, hr0⟩ : ∃ r0, a + min (d - a) X.length = r0 := ⟨_, rfl⟩
  have hcase : (d < m ∧ s0 + b = nn ∧ r0 = d) ∨ (m ≤ d ∧ s0 = a ∧ r0 = m) := by omega
  have hord : s0 ≤ r0 ∧ a ≤ s0 ∧ r0 ≤ m ∧ r0 ≤ d := by omega
  have hs0h := Hid.mk hs0
  have hr0h := Hid.mk hr0
  have hdh := Hid.mk hd
  have hnh := Hid.mk hnn
  have hph := Hid.mk hpp
  have hah := Hid.mk ha
  have hmh := Hid.mk hm
  have hbh := Hid.mk hb
  have hLh := Hid.mk hL
  clear h ih0 ha hm hb hX0 hY0 hN hd hnn hpp hs0 hr0 hL
  have hinv : ∀ s r : Nat, s0 ≤ s → s ≤ r → r ≤ r0 → s ≤ d ∧ s ≤ m ∧ r ≤ d ∧ r ≤ m := fun s r h1 h2 h3 => ⟨by omega, by omega, by omega, by omega⟩
  have hinv := Hid.mk hinv
  go_enter Tryd.func98, Tryd.ntmps98
  rcases hcase with ⟨hdm, hs1, hr1⟩ | ⟨hdm, hs1, hr1⟩
  have hg : decide ((m : Int) > (d : Int)) = true := by simp; omega
  have hs2 : (nn : Int) - (b : Int) = (s0 : Int) := by omega
  have hst : Hid (∃ s r : Nat, (s0 : Int) = s ∧ (d : Int) = r ∧ s0 = s ∧ r = r0) := Hid.mk ⟨s0, d, rfl, rfl, rfl, hr1.symm⟩
  clear hs1 hr1
  go_wp2
  clear hg hs2
  rotate_left
  have hg : decide ((m : Int) > (d : Int)) = false := by simp; omega
  have hst : Hid (∃ s r : Nat, (a : Int) = s ∧ (m : Int) = r ∧ s0 = s ∧ r = r0) := Hid.mk ⟨a, m, rfl, rfl, hs1, hr1.symm⟩
  clear hs1 hr1
  go_wp2
  clear hg
  all_goals
    clear h1 h2 hd1 hn1 hp1
    go_loopw [20, 21] (fun ss rr wr => ∃ s r : Nat, ss = .int .i64 s ∧ rr = .int .i64 r ∧ s0 ≤ s ∧ s ≤ r ∧ r ≤ r0 ∧ Hid (∀ (h0 : s0 < s) (h : s - 1 - a < X.length) (h' : d - s < Y.length), ¬ Y[d - s].cmp X[s - 1 - a] < 0) ∧ Hid (∀ (h0 : r < r0) (h : r - a < X.length) (h' : d - 1 - r < Y.length), Y[d - 1 - r].cmp X[r - a] < 0) ∧ Hid (Rw w0 S g (A ++ X ++ Y ++ C) wr)) (fun ss rr _ => (intOf rr - intOf ss).toNat)
    case atStart =>
      obtain ⟨s, r, e1, e2, e3, e4⟩ := hst.out
      exact ⟨s, r, by rw [e1], by rw [e2], by omega, by omega, by omega, Hid.mk (fun h => by omega), Hid.mk (fun h => by omega), h0⟩
    case round =>
      clear h0
      obtain ⟨s, r, rfl, rfl, hss, hsr, hrr, hlo, hhi, hrw⟩ := hrel
      have hI := hinv.out s r hss hsr hrr
      by_cases hlt : s < r
      · have hdl : decide ((s : Int) < (r : Int)) = true := by simp; omega
        obtain ⟨c, hc⟩ : ∃ c, (s + r) / 2 = c := ⟨_, rfl⟩
        obtain ⟨e, he⟩ : ∃ e, pp - c = e := ⟨_, rfl⟩
        have hsc : s ≤ c ∧ c < r := by omega
        have hde : (d < m → s0 + b = nn) ∧ (m ≤ d → s0 = a) := by have h1 := hs0h.out; have h2 := hdh.out; have h3 := hnh.out; have h4 := hmh.out; have h5 := hbh.out; omega
        have hcX : c - a < X.length := by have := hmh.out; omega
        have hce : e = m + (d - 1 - c) := by have := hnh.out; have := hph.out; omega
        have heb : e < b := by have := hnh.out; have := hph.out; have := hs0h.out; have := hbh.out; omega
        have heY : d - 1 - c < Y.length := by have := hbh.out; have := hs0h.out; omega
        have hcL : c < L := by omega
        have heL : e < L := by omega
        have gc : (A ++ X ++ Y ++ C)[c]? = some X[c - a] := by
          have h1 := hah.out
          rw [List.getElem?_append_left (by simp only [List.length_append]; omega), List.getElem?_append_left (by simp only [List.length_append]; omega), List.getElem?_append_right (by omega), h1, List.getElem?_eq_getElem hcX]
        have ge : (A ++ X ++ Y ++ C)[e]? = some Y[d - 1 - c] := by
          have h1 := hah.out; have h2 := hmh.out
          rw [List.getElem?_append_left (by simp only [List.length_append]; omega), List.getElem?_append_right (by simp only [List.length_append]; omega), List.length_append, show e - (A.length + X.length) = d - 1 - c by omega, List.getElem?_eq_getElem heY]
        obtain ⟨k2, n2, s2, a2, m2, c2, hly, y0, y1, y2, y3⟩ := hrw.out.pick ge
        obtain ⟨k1, n1, s1, a1, m1, c1, hlx, x0, x1, x2, x3⟩ := hrw.out.pick gc
        have hcall := Hid.mk (fun (W : World) (hW : Up wr W) => compare_any Y[d - 1 - c] X[c - a] S S _ _ W ((hrw.out.later hW).is hly) ((hrw.out.later hW).is hlx))
        obtain ⟨z, hz⟩ : ∃ z, Y[d - 1 - c].cmp X[c - a] = z := ⟨_, rfl⟩
        rw [hz] at hcall
        have hz := Hid.mk hz
        have hdiv : ((s : Int) + (r : Int)) / 2 = (c : Int) := by omega
        have wS : IntKind.i64.wrap ((pp : Int) - (c : Int)) = (e : Int) := by rw [IntKind.wrap_i64]; have := hnh.out; have := hph.out; omega
        have dc : (0 : Int) ≤ (c : Int) := by omega
        have dc' : (c : Int) < (L : Int) := by omega
        have de : (0 : Int) ≤ (e : Int) := by omega
        have de' : (e : Int) < (L : Int) := by omega
        have hch := Hid.mk hc
        have heh := Hid.mk he
        clear hc he hce hly hlx gc ge hde
        by_cases hx : z < 0
        · have hdx : decide (z < 0) = true := decide_eq_true hx
          go_upto_region 35 with fail
          refine region_up (W := wr) (by kernel_rfl) (by kernel_rfl) (Up.refl _) ?_
          refine quiet_value (v := cmpV) rfl (fun _ _ => rfl) ?_
          simp only [Act.put, List.setIfInBounds_toArray, List.set_cons_zero, List.set_cons_succ]
          refine quiet_value (v := .slice (some ⟨g, 0, none⟩) L cap) rfl (fun _ _ => rfl) ?_
          simp only [Act.put, List.setIfInBounds_toArray, List.set_cons_zero, List.set_cons_succ]
          refine quiet_value (v := .int .i64 pp) rfl (fun _ _ => rfl) ?_
          simp only [Act.put, List.setIfInBounds_toArray, List.set_cons_zero, List.set_cons_succ]
          refine quiet_value (v := .int .i64 c) rfl (fun _ _ => rfl) ?_
          simp only [Act.put, List.setIfInBounds_toArray, List.set_cons_zero, List.set_cons_succ]
          refine quiet_value (v := .int .i64 e) rfl (fun _ _ => (by go_simp)) ?_
          simp only [Act.put, List.setIfInBounds_toArray, List.set_cons_zero, List.set_cons_succ]
          refine quiet_value (v := .pointer (some ⟨g, e * 4, none⟩)) rfl (fun _ _ => (by go_simp)) ?_
          simp only [Act.put, List.setIfInBounds_toArray, List.set_cons_zero, List.set_cons_succ]
          refine quiet_value (v := .agg #[.int .i64 k2, .int .i64 n2, .string s2, .slice a2 m2 c2]) rfl (fun W h => (by have u0 := cell_below h.out _ _ _ y0; have u1 := cell_below h.out _ _ _ y1; have u2 := cell_below h.out _ _ _ y2; have u3 := cell_below h.out _ _ _ y3; go_simp)) ?_
          simp only [Act.put, List.setIfInBounds_toArray, List.set_cons_zero, List.set_cons_succ]
          refine quiet_value (v := .slice (some ⟨g, 0, none⟩) L cap) rfl (fun _ _ => rfl) ?_
          simp only [Act.put, List.setIfInBounds_toArray, List.set_cons_zero, List.set_cons_succ]
          refine quiet_value (v := .int .i64 c) rfl (fun _ _ => rfl) ?_
          simp only [Act.put, List.setIfInBounds_toArray, List.set_cons_zero, List.set_cons_succ]
          refine quiet_value (v := .pointer (some ⟨g, c * 4, none⟩)) rfl (fun _ _ => (by go_simp)) ?_
          simp only [Act.put, List.setIfInBounds_toArray, List.set_cons_zero, List.set_cons_succ]
          refine quiet_value (v := .agg #[.int .i64 k1, .int .i64 n1, .string s1, .slice a1 m1 c1]) rfl (fun W h => (by have u0 := cell_below h.out _ _ _ x0; have u1 := cell_below h.out _ _ _ x1; have u2 := cell_below h.out _ _ _ x2; have u3 := cell_below h.out _ _ _ x3; go_simp)) ?_
          simp only [Act.put, List.setIfInBounds_toArray, List.set_cons_zero, List.set_cons_succ]
          refine quiet_call (v := .int .i64 z) rfl (fun W => (by go_simp)) (fun W h => (hcall.out W h).mono fun e w' ⟨he, hb⟩ => ⟨he, h.call hb⟩) ?_
          simp only [Act.put, List.setIfInBounds_toArray, List.set_cons_zero, List.set_cons_succ]
          refine quiet_value (v := .bool true) rfl (fun _ _ => (by go_simp)) ?_
          simp only [Act.put, List.setIfInBounds_toArray, List.set_cons_zero, List.set_cons_succ]
          refine quiet_value (v := .bool false) rfl (fun _ _ => (by go_simp)) ?_
          simp only [Act.put, List.setIfInBounds_toArray, List.set_cons_zero, List.set_cons_succ]
          refine quiet_nil ?_
          intro w6 hw6
          go_wp2
          go_roundw
          case rel => exact ⟨s, c, rfl, rfl, hss, by omega, by omega, hlo, Hid.mk (fun h0 h h' => by rw [hz.out]; exact hx), Hid.mk (hrw.out.later hw6)⟩
          case measure => simp [intOf]; omega
        · have hdx : decide (z < 0) = false := decide_eq_false hx
          go_upto_region 35 with fail
          refine region_up (W := wr) (by kernel_rfl) (by kernel_rfl) (Up.refl _) ?_
          refine quiet_value (v := cmpV) rfl (fun _ _ => rfl) ?_
          simp only [Act.put, List.setIfInBounds_toArray, List.set_cons_zero, List.set_cons_succ]
          refine quiet_value (v := .slice (some ⟨g, 0, none⟩) L cap) rfl (fun _ _ => rfl) ?_
          simp only [Act.put, List.setIfInBounds_toArray, List.set_cons_zero, List.set_cons_succ]
          refine quiet_value (v := .int .i64 pp) rfl (fun _ _ => rfl) ?_
          simp only [Act.put, List.setIfInBounds_toArray, List.set_cons_zero, List.set_cons_succ]
          refine quiet_value (v := .int .i64 c) rfl (fun _ _ => rfl) ?_
          simp only [Act.put, List.setIfInBounds_toArray, List.set_cons_zero, List.set_cons_succ]
          refine quiet_value (v := .int .i64 e) rfl (fun _ _ => (by go_simp)) ?_
          simp only [Act.put, List.setIfInBounds_toArray, List.set_cons_zero, List.set_cons_succ]
          refine quiet_value (v := .pointer (some ⟨g, e * 4, none⟩)) rfl (fun _ _ => (by go_simp)) ?_
          simp only [Act.put, List.setIfInBounds_toArray, List.set_cons_zero, List.set_cons_succ]
          refine quiet_value (v := .agg #[.int .i64 k2, .int .i64 n2, .string s2, .slice a2 m2 c2]) rfl (fun W h => (by have u0 := cell_below h.out _ _ _ y0; have u1 := cell_below h.out _ _ _ y1; have u2 := cell_below h.out _ _ _ y2; have u3 := cell_below h.out _ _ _ y3; go_simp)) ?_
          simp only [Act.put, List.setIfInBounds_toArray, List.set_cons_zero, List.set_cons_succ]
          refine quiet_value (v := .slice (some ⟨g, 0, none⟩) L cap) rfl (fun _ _ => rfl) ?_
          simp only [Act.put, List.setIfInBounds_toArray, List.set_cons_zero, List.set_cons_succ]
          refine quiet_value (v := .int .i64 c) rfl (fun _ _ => rfl) ?_
          simp only [Act.put, List.setIfInBounds_toArray, List.set_cons_zero, List.set_cons_succ]
          refine quiet_value (v := .pointer (some ⟨g, c * 4, none⟩)) rfl (fun _ _ => (by go_simp)) ?_
          simp only [Act.put, List.setIfInBounds_toArray, List.set_cons_zero, List.set_cons_succ]
          refine quiet_value (v := .agg #[.int .i64 k1, .int .i64 n1, .string s1, .slice a1 m1 c1]) rfl (fun W h => (by have u0 := cell_below h.out _ _ _ x0; have u1 := cell_below h.out _ _ _ x1; have u2 := cell_below h.out _ _ _ x2; have u3 := cell_below h.out _ _ _ x3; go_simp)) ?_
          simp only [Act.put, List.setIfInBounds_toArray, List.set_cons_zero, List.set_cons_succ]
          refine quiet_call (v := .int .i64 z) rfl (fun W => (by go_simp)) (fun W h => (hcall.out W h).mono fun e w' ⟨he, hb⟩ => ⟨he, h.call hb⟩) ?_
          simp only [Act.put, List.setIfInBounds_toArray, List.set_cons_zero, List.set_cons_succ]
          refine quiet_value (v := .bool false) rfl (fun _ _ => (by go_simp)) ?_
          simp only [Act.put, List.setIfInBounds_toArray, List.set_cons_zero, List.set_cons_succ]
          refine quiet_value (v := .bool true) rfl (fun _ _ => (by go_simp)) ?_
          simp only [Act.put, List.setIfInBounds_toArray, List.set_cons_zero, List.set_cons_succ]
          refine quiet_nil ?_
          intro w6 hw6
          go_wp2
          go_roundw
          case rel => exact ⟨c + 1, r, by go_num, rfl, by omega, by omega, hrr, Hid.mk (fun h0 h h' => by simp only [show c + 1 - 1 - a = c - a by omega, show d - (c + 1) = d - 1 - c by omega]; rw [hz.out]; exact hx), hhi, Hid.mk (hrw.out.later hw6)⟩
          case measure => simp [intOf]; omega
      · obtain rfl : s = r := by omega
        have hdl : decide ((s : Int) < (s : Int)) = false := by simp
        have hde : (d < m → s0 + b = nn ∧ r0 = d) ∧ (m ≤ d → s0 = a ∧ r0 = m) := by have h1 := hs0h.out; have h2 := hdh.out; have h3 := hnh.out; have h4 := hmh.out; have h5 := hbh.out; have h6 := hr0h.out; omega
        obtain ⟨en, hen⟩ : ∃ en, nn - s = en := ⟨_, rfl⟩
        have hnn1 : d + m = nn := hnh.out
        have hm1 : m = a + X.length := hmh.out
        have hb1 : b = m + Y.length := hbh.out
        have ha1 : A.length = a := hah.out
        have hsX : s - a ≤ X.length := by omega
        have hsY : d - s ≤ Y.length := by have := hs0h.out; omega
        have hres := sym_split X Y hXs hYs (s - a) (d - s) hsX hsY (by
          by_cases q1 : s = a
          · exact Or.inl (by omega)
          by_cases q2 : d - s = Y.length
          · exact Or.inr (Or.inl q2)
          · refine Or.inr (Or.inr ⟨by omega, by omega, ?_⟩)
            have := hlo.out (by omega) (by omega) (by omega)
            simpa only [show s - a - 1 = s - 1 - a by omega] using this) (by
          by_cases q1 : s = m
          · exact Or.inl (by omega)
          by_cases q2 : d = s
          · exact Or.inr (Or.inl (by omega))
          · refine Or.inr (Or.inr ⟨by omega, by omega, ?_⟩)
            have := hhi.out (by omega) (by omega) (by omega)
            simpa only [show d - s - 1 = d - 1 - s by omega] using this)
        obtain ⟨X1, hX1⟩ : ∃ X1, X.take (s - a) = X1 := ⟨_, rfl⟩
        obtain ⟨X2, hX2⟩ : ∃ X2, X.drop (s - a) = X2 := ⟨_, rfl⟩
        obtain ⟨Y1, hY1⟩ : ∃ Y1, Y.take (d - s) = Y1 := ⟨_, rfl⟩
        obtain ⟨Y2, hY2⟩ : ∃ Y2, Y.drop (d - s) = Y2 := ⟨_, rfl⟩
        have sX1 : Sorted X1 := hX1 ▸ sorted_take hXs _
        have sX2 : Sorted X2 := hX2 ▸ sorted_drop hXs _
        have sY1 : Sorted Y1 := hY1 ▸ sorted_take hYs _
        have sY2 : Sorted Y2 := hY2 ▸ sorted_drop hYs _
        have lX1 : X1.length = s - a := by rw [← hX1, List.length_take]; omega
        have lX2 : X2.length = m - s := by rw [← hX2, List.length_drop]; omega
        have lY1 : Y1.length = d - s := by rw [← hY1, List.length_take]; omega
        have lY2 : Y2.length = b - en := by rw [← hY2, List.length_drop]; omega
        have eX : X1 ++ X2 = X := by rw [← hX1, ← hX2, List.take_append_drop]
        have eY : Y1 ++ Y2 = Y := by rw [← hY1, ← hY2, List.take_append_drop]
        rw [hX1, hX2, hY1, hY2] at hres
        have hLl := hLh.out
        have hR0 : Hid (Rw w0 S g (A ++ X1 ++ X2 ++ Y1 ++ Y2 ++ C) wr) := Hid.mk (by have := hrw.out; rw [← eX, ← eY] at this; simp only [List.append_assoc] at this ⊢; exact this)
        have hL1 : (A ++ X1 ++ X2 ++ Y1 ++ Y2 ++ C).length = L := by rw [← hLl, ← eX, ← eY]; simp only [List.append_assoc]
        simp only [List.length_append] at hL1
        have hrot : Hid (s < m → s < d → ∀ W, Rw w0 S g (A ++ X1 ++ X2 ++ Y1 ++ Y2 ++ C) W → Calls Tryd.prog 102 #[.slice (some ⟨g, 0, none⟩) L cap, .int .i64 s, .int .i64 m, .int .i64 en, cmpV] W fun e w' => e = .returned (.tuple #[]) ∧ Rw w0 S g (A ++ X1 ++ Y1 ++ X2 ++ Y2 ++ C) w') := Hid.mk (fun q1 q2 W hW => by
          have := rotate_any w0 S g cap L (A ++ X1) X2 Y1 (Y2 ++ C) (by omega) (by omega) s m en (by rw [List.length_append]; omega) (by rw [List.length_append]; omega) (by rw [List.length_append]; omega) (by simp only [List.length_append]; omega) hcap hlen W (by simp only [List.append_assoc] at hW ⊢; exact hW)
          simp only [List.append_assoc] at this ⊢
          exact this)
        have hsk : Hid (¬ (s < m ∧ s < d) → ∀ W, Rw w0 S g (A ++ X1 ++ X2 ++ Y1 ++ Y2 ++ C) W → Rw w0 S g (A ++ X1 ++ Y1 ++ X2 ++ Y2 ++ C) W) := Hid.mk (fun q W hW => by
          rcases (by omega : X2.length = 0 ∨ Y1.length = 0) with q1 | q1
          · obtain rfl := List.eq_nil_of_length_eq_zero q1
            simpa only [List.append_nil] using hW
          · obtain rfl := List.eq_nil_of_length_eq_zero q1
            simpa only [List.append_nil] using hW)
        have hmg1 : Hid (a < s → s < d → ∀ W, Rw w0 S g (A ++ X1 ++ Y1 ++ X2 ++ Y2 ++ C) W → Calls Tryd.prog 98 #[.slice (some ⟨g, 0, none⟩) L cap, .int .i64 a, .int .i64 s, .int .i64 d, cmpV] W fun e w' => e = .returned (.tuple #[]) ∧ Rw w0 S g (A ++ sortT (X1 ++ Y1) ++ X2 ++ Y2 ++ C) w') := Hid.mk (fun q1 q2 W hW => by
          have := ih.out A X1 Y1 (X2 ++ Y2 ++ C) sX1 sY1 (by omega) (by omega) (by have := hsz.out; omega) a s d (by omega) (by omega) (by omega) (by simp only [List.length_append]; omega) W (by simp only [List.append_assoc] at hW ⊢; exact hW)
          simp only [List.append_assoc] at this ⊢
          exact this)
        have hsk1 : Hid (¬ (a < s ∧ s < d) → ∀ W, Rw w0 S g (A ++ X1 ++ Y1 ++ X2 ++ Y2 ++ C) W → Rw w0 S g (A ++ sortT (X1 ++ Y1) ++ X2 ++ Y2 ++ C) W) := Hid.mk (fun q W hW => by
          rcases (by omega : X1.length = 0 ∨ Y1.length = 0) with q1 | q1
          · obtain rfl := List.eq_nil_of_length_eq_zero q1
            rw [List.nil_append, sortT_id sY1]
            simpa only [List.append_nil] using hW
          · obtain rfl := List.eq_nil_of_length_eq_zero q1
            rw [List.append_nil, sortT_id sX1]
            simpa only [List.append_nil] using hW)
        have hmg2 : Hid (s < m → en < b → ∀ W, Rw w0 S g (A ++ sortT (X1 ++ Y1) ++ X2 ++ Y2 ++ C) W → Calls Tryd.prog 98 #[.slice (some ⟨g, 0, none⟩) L cap, .int .i64 d, .int .i64 en, .int .i64 b, cmpV] W fun e w' => e = .returned (.tuple #[]) ∧ Rw w0 S g (A ++ sortT (X ++ Y) ++ C) w') := Hid.mk (fun q1 q2 W hW => by
          have hl : (A ++ sortT (X1 ++ Y1)).length = d := by rw [List.length_append, sortT_length, List.length_append]; omega
          have := ih.out (A ++ sortT (X1 ++ Y1)) X2 Y2 C sX2 sY2 (by omega) (by omega) (by have := hsz.out; omega) d en b (by omega) (by omega) (by omega) (by simp only [List.length_append, sortT_length]; omega) W hW
          rw [hres]
          simp only [List.append_assoc] at this ⊢
          exact this)
        have hsk2 : Hid (¬ (s < m ∧ en < b) → ∀ W, Rw w0 S g (A ++ sortT (X1 ++ Y1) ++ X2 ++ Y2 ++ C) W → Rw w0 S g (A ++ sortT (X ++ Y) ++ C) W) := Hid.mk (fun q W hW => by
          rw [hres]
          rcases (by omega : X2.length = 0 ∨ Y2.length = 0) with q1 | q1
          · obtain rfl := List.eq_nil_of_length_eq_zero q1
            rw [List.nil_append, sortT_id sY2]
            simpa only [List.append_nil, List.append_assoc] using hW
          · obtain rfl := List.eq_nil_of_length_eq_zero q1
            rw [List.append_nil, sortT_id sX2]
            simpa only [List.append_nil, List.append_assoc] using hW)
        have hen1 : (nn : Int) - (s : Int) = (en : Int) := by omega
        have h7 : (s < d ∧ m < en ∧ s < m ∧ d < en ∧ a < s ∧ en < b) ∨ (s < d ∧ m < en ∧ s < m ∧ d < en ∧ ¬ a < s ∧ en < b) ∨ (s < d ∧ m < en ∧ s < m ∧ d < en ∧ a < s ∧ ¬ en < b) ∨ (s < d ∧ m < en ∧ s < m ∧ d < en ∧ ¬ a < s ∧ ¬ en < b) ∨
            (s < d ∧ m < en ∧ ¬ s < m ∧ ¬ d < en ∧ a < s ∧ en < b) ∨ (¬ s < d ∧ ¬ m < en ∧ s < m ∧ d < en ∧ a < s ∧ en < b) ∨ (¬ s < d ∧ ¬ m < en ∧ ¬ s < m ∧ ¬ d < en ∧ a < s ∧ en < b) := by omega
        clear hres hX1 hX2 hY1 hY2 sX1 sX2 sY1 sY2 lX1 lX2 lY1 lY2 eX eY hLl hL1 hnn1 hm1 hb1 ha1 hsX hsY hde hen hlo hhi hrw
        rcases h7 with ⟨k2, k2', k3, k3', k1, k4⟩ | ⟨k2, k2', k3, k3', k1, k4⟩ | ⟨k2, k2', k3, k3', k1, k4⟩ | ⟨k2, k2', k3, k3', k1, k4⟩ | ⟨k2, k2', k3, k3', k1, k4⟩ | ⟨k2, k2', k3, k3', k1, k4⟩ | ⟨k2, k2', k3, k3', k1, k4⟩
        · have g1 : decide ((s : Int) < (m : Int)) = true := by simp; omega
          have g2 : decide ((m : Int) < (en : Int)) = true := by simp; omega
          have g3 : decide ((a : Int) < (s : Int)) = true := by simp; omega
          have g4 : decide ((s : Int) < (d : Int)) = true := by simp; omega
          have g5 : decide ((d : Int) < (en : Int)) = true := by simp; omega
          have g6 : decide ((en : Int) < (b : Int)) = true := by simp; omega
          go_wp2_with (first
            | (go_at_call 98; have gt := tk; refine (hmg2.out k3 k4 _ hR2.out).mono ?_; rintro e wc ⟨rfl, hR3⟩; have hR3 := Hid.mk hR3)
            | (go_at_call 102; refine (hrot.out k3 k2 _ hR0.out).mono ?_; rintro e wa ⟨rfl, hR1⟩; have hR1 := Hid.mk hR1)
            | (go_at_call 98; refine (hmg1.out k1 k2 _ hR1.out).mono ?_; rintro e wb ⟨rfl, hR2⟩; have hR2 := Hid.mk hR2; have tk := True.intro))
          exact bodyPost_end (results_none rfl _ _ _) rfl ⟨rfl, hR3.out⟩
        · have g1 : decide ((s : Int) < (m : Int)) = true := by simp; omega
          have g2 : decide ((m : Int) < (en : Int)) = true := by simp; omega
          have g3 : decide ((a : Int) < (s : Int)) = false := by simp; omega
          have g4 : decide ((s : Int) < (d : Int)) = true := by simp; omega
          have g5 : decide ((d : Int) < (en : Int)) = true := by simp; omega
          have g6 : decide ((en : Int) < (b : Int)) = true := by simp; omega
          go_wp2_with (first
            | (go_at_call 98; refine (hmg2.out k3 k4 _ (hsk1.out (by omega) _ hR1.out)).mono ?_; rintro e wc ⟨rfl, hR3⟩; have hR3 := Hid.mk hR3)
            | (go_at_call 102; refine (hrot.out k3 k2 _ hR0.out).mono ?_; rintro e wa ⟨rfl, hR1⟩; have hR1 := Hid.mk hR1))
          exact bodyPost_end (results_none rfl _ _ _) rfl ⟨rfl, hR3.out⟩
        · have g1 : decide ((s : Int) < (m : Int)) = true := by simp; omega
          have g2 : decide ((m : Int) < (en : Int)) = true := by simp; omega
          have g3 : decide ((a : Int) < (s : Int)) = true := by simp; omega
          have g4 : decide ((s : Int) < (d : Int)) = true := by simp; omega
          have g5 : decide ((d : Int) < (en : Int)) = true := by simp; omega
          have g6 : decide ((en : Int) < (b : Int)) = false := by simp; omega
          go_wp2_with (first
            | (go_at_call 102; refine (hrot.out k3 k2 _ hR0.out).mono ?_; rintro e wa ⟨rfl, hR1⟩; have hR1 := Hid.mk hR1)
            | (go_at_call 98; refine (hmg1.out k1 k2 _ hR1.out).mono ?_; rintro e wb ⟨rfl, hR2⟩; have hR2 := Hid.mk hR2; have tk := True.intro))
          exact bodyPost_end (results_none rfl _ _ _) rfl ⟨rfl, hsk2.out (by omega) _ hR2.out⟩
        · have g1 : decide ((s : Int) < (m : Int)) = true := by simp; omega
          have g2 : decide ((m : Int) < (en : Int)) = true := by simp; omega
          have g3 : decide ((a : Int) < (s : Int)) = false := by simp; omega
          have g4 : decide ((s : Int) < (d : Int)) = true := by simp; omega
          have g5 : decide ((d : Int) < (en : Int)) = true := by simp; omega
          have g6 : decide ((en : Int) < (b : Int)) = false := by simp; omega
          go_wp2_with (first
            | (go_at_call 102; refine (hrot.out k3 k2 _ hR0.out).mono ?_; rintro e wa ⟨rfl, hR1⟩; have hR1 := Hid.mk hR1))
          exact bodyPost_end (results_none rfl _ _ _) rfl ⟨rfl, hsk2.out (by omega) _ (hsk1.out (by omega) _ hR1.out)⟩
        · have g1 : decide ((s : Int) < (m : Int)) = false := by simp; omega
          have g2 : decide ((m : Int) < (en : Int)) = true := by simp; omega
          have g3 : decide ((a : Int) < (s : Int)) = true := by simp; omega
          have g4 : decide ((s : Int) < (d : Int)) = true := by simp; omega
          have g5 : decide ((d : Int) < (en : Int)) = false := by simp; omega
          have g6 : decide ((en : Int) < (b : Int)) = true := by simp; omega
          have hR1 := Hid.mk (hsk.out (by omega) wr hR0.out)
          go_wp2_with (first
            | (go_at_call 98; refine (hmg1.out k1 k2 _ hR1.out).mono ?_; rintro e wb ⟨rfl, hR2⟩; have hR2 := Hid.mk hR2; have tk := True.intro))
          exact bodyPost_end (results_none rfl _ _ _) rfl ⟨rfl, hsk2.out (by omega) _ hR2.out⟩
        · have g1 : decide ((s : Int) < (m : Int)) = true := by simp; omega
          have g2 : decide ((m : Int) < (en : Int)) = false := by simp; omega
          have g3 : decide ((a : Int) < (s : Int)) = true := by simp; omega
          have g4 : decide ((s : Int) < (d : Int)) = false := by simp; omega
          have g5 : decide ((d : Int) < (en : Int)) = true := by simp; omega
          have g6 : decide ((en : Int) < (b : Int)) = true := by simp; omega
          have hR1 := Hid.mk (hsk.out (by omega) wr hR0.out)
          go_wp2_with (first
            | (go_at_call 98; refine (hmg2.out k3 k4 _ (hsk1.out (by omega) _ hR1.out)).mono ?_; rintro e wc ⟨rfl, hR3⟩; have hR3 := Hid.mk hR3))
          exact bodyPost_end (results_none rfl _ _ _) rfl ⟨rfl, hR3.out⟩
        · have g1 : decide ((s : Int) < (m : Int)) = false := by simp; omega
          have g2 : decide ((m : Int) < (en : Int)) = false := by simp; omega
          have g3 : decide ((a : Int) < (s : Int)) = true := by simp; omega
          have g4 : decide ((s : Int) < (d : Int)) = false := by simp; omega
          have g5 : decide ((d : Int) < (en : Int)) = false := by simp; omega
          have g6 : decide ((en : Int) < (b : Int)) = true := by simp; omega
          have hR1 := Hid.mk (hsk.out (by omega) wr hR0.out)
          go_wp2
          exact bodyPost_end (results_none rfl _ _ _) rfl ⟨rfl, hsk2.out (by omega) _ (hsk1.out (by omega) _ hR1.out)⟩

end Go.Proofs.YteklhipcojioaaaDoor
