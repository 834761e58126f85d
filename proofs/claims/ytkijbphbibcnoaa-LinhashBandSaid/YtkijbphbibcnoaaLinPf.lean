/-
  One bucket fewer, the program's.
-/
import Derived.Test.YtkijbphbibcnoaaLinPe
namespace Go.Proofs.Ytkijbphbibcnoaa
open Go.RowKit Go.Deep Go.Maps Go.WideShapes

theorem bkt_src (n : Nat) (h : 1 ≤ n) : bkt n n = srcN n := by
  unfold bkt srcN
  rcases powN_next n h with ⟨h1, _⟩ | ⟨h1, _⟩
  · rcases powN_two n h with ⟨e1, e2⟩ | ⟨q, e1, e2, e3, e4⟩
    · omega
    · rw [if_neg (c := n = powN n) (by omega), Nat.mod_eq_of_lt h1, if_neg (Nat.lt_irrefl n), e1, show 2 * q / 2 = q by omega]
      have := Nat.mod_eq_sub_mod (a := n) (b := q) (by omega)
      rw [this, Nat.mod_eq_of_lt (by omega)]
  · rw [if_pos h1, ← h1, Nat.mod_self, if_pos (show 0 < n from h)]
/-- How two buckets are joined. -/
theorem joinB_eq {B : Bks} (p : Placed B) (h : 2 ≤ B.length) : joinB B = (B.take (B.length - 1)).set (srcN (B.length - 1)) (rowB B (srcN (B.length - 1)) ++ rowB B (B.length - 1)) := by
  have hj := srcN_lt (n := B.length - 1) (by omega)
  apply List.ext_getElem
  · simp [joinB]
  · intro i h1 h2
    rw [joinB_len] at h1
    have e : (joinB B)[i]'(by rw [joinB_len]; exact h1) = rowB B i ++ (rowB B (B.length - 1)).filter (goesTo (B.length - 1) i) := by simp [joinB]
    rw [e, List.getElem_set]
    have hsrc : ∀ x ∈ rowB B (B.length - 1), bkt x.1 (B.length - 1) = srcN (B.length - 1) := fun x hx => by
      have hb := (p.at_ _ _ hx).2
      have hs := bkt_split x.1 (B.length - 1) (by omega)
      rw [show B.length - 1 + 1 = B.length by omega] at hs
      exact hs.2 hb
    by_cases hs : srcN (B.length - 1) = i
    · rw [if_pos hs, ← hs]
      congr 1
      rw [List.filter_eq_self]
      exact fun x hx => decide_eq_true (hsrc x hx)
    · rw [if_neg hs]
      have : (rowB B (B.length - 1)).filter (goesTo (B.length - 1) i) = [] := by
        rw [List.filter_eq_nil_iff]
        intro x hx e
        exact hs ((hsrc x hx).symm.trans (of_decide_eq_true e))
      rw [this, List.append_nil, List.getElem_take, rowB_lt (by omega)]
section
variable {w w' : World} {p least : Nat} {v : Value} {S : Nat → Prop} {B B' : Bks}
/-- The rows cut. -/
theorem Bx.cut {t : TypeId} {cs : Array Value} {g n cap : Nat} (h : Bx t cs w p (.slice (some ⟨g, 0, none⟩) n cap) S B) (m : Nat) (hm : m ≤ B.length) :
    Bx t (cs.setIfInBounds 1 (.slice (some ⟨g, 0, none⟩) m cap)) (w.setCell ⟨p, 1, none⟩ (.slice (some ⟨g, 0, none⟩) m cap)) p (.slice (some ⟨g, 0, none⟩) m cap) S (B.take m) := by
  obtain ⟨ls, hg⟩ := h.gd
  exact ⟨put_box h.box 1 _, Gd.kept ⟨_, hg.cut hm⟩ (Only.set (S := fun k => k = p) w _ rfl) (fun k hk => hk.2), h.sp, fun k hk => by rw [size_setCell']; exact h.lt k hk⟩
theorem StL.same (h : LbP w p least S B) : StL LbP w p least S B w := ⟨S, h, Only.refl _ _, fun _ hk => Or.inl hk⟩
end

set_option maxHeartbeats 8000000 in
set_option maxRecDepth 100000 in
theorem joinP_not (w : World) (p least : Nat) (S : Nat → Prop) (B : Bks) (hb : LbP w p least S B) (hF : Fine B) (hl : ¬ least < B.length) :
    Calls Try.prog 20 #[.pointer (some ⟨p, 0, none⟩)] w fun e w' => e = .returned (.int .i64 9) ∧ w = w' := by
  obtain ⟨v, hb⟩ := hb
  obtain ⟨⟨c0, c1, c2, c3⟩, f1, f3⟩ := bxP_cells hb
  obtain ⟨a, cap, rfl, _⟩ := hb.slice
  have h1 := hF.placed.some_
  have hfl := hF.len
  clear hb hF f1 f3 c3
  generalize B.length = N at *
  obtain ⟨N1, hN1⟩ : ∃ N1, N - 1 = N1 := ⟨_, rfl⟩
  have hwi : IntKind.i64.wrap ((N : Int) - 1) = (N1 : Int) := by rw [wrap_id (by omega) (by omega)]; omega
  have hl2 : (N1 : Int) < least := by omega
  clear hl h1 hfl hN1
  go_enter Try.func20, Try.ntmps20
  go_wp2_with (go_at_call 37; refine (madeL_cell _ _ c0).mono ?_; rintro e w2 ⟨rfl, rfl⟩)
  go_ret
  exact ⟨rfl, rfl⟩

set_option maxHeartbeats 8000000 in
set_option maxRecDepth 100000 in
theorem joinP_any (w : World) (p least : Nat) (S : Nat → Prop) (B : Bks) (hb : LbP w p least S B) (hF : Fine B) (hle : 1 ≤ least) (hl : least < B.length) :
    Calls Try.prog 20 #[.pointer (some ⟨p, 0, none⟩)] w fun e w' => e = .returned (.int .i64 0) ∧ StL LbP w p least S (joinB B) w' := by
  obtain ⟨v, hb⟩ := hb
  have hfl := hF.len
  have hfs := hF.size
  have hjo := joinB_eq hF.placed (by omega)
  have hjz := szB_join (B := B) (by omega)
  obtain ⟨⟨c0, c1, c2, c3⟩, f1, f3⟩ := bxP_cells hb
  obtain ⟨N1, hN1⟩ : ∃ N1, B.length - 1 = N1 := ⟨_, rfl⟩
  rw [hN1, ← bkt_src N1 (by omega)] at hjo
  have hNl : N1 < B.length := by omega
  obtain ⟨g, cap, ac, cc, rfl, hcap, e0, ez0, erow, eNP, eNG, hgp, eTS, hSg, eput⟩ := hb.hand hNl
  have hSp := hb.sp
  have hgl := hb.lt g hSg
  obtain ⟨_, _, eu, eu1, eu2, hcn, hcel⟩ := erow.cells
  simp only [Value.slice.injEq, true_and] at eu
  obtain ⟨rfl, rfl⟩ := eu
  clear eu1 eu2
  rw [rowB_lt hNl] at hjo
  -- the last one is struck
  obtain ⟨S1, hb1, ho1, hn1⟩ := eput w (.slice none 0 0) [] (Only.refl _ _) (Ow.nil _) (fun b hb => by cases hb)
  have hset : Only (fun k => k = g) w (w.setCell ⟨g, N1, none⟩ (.slice none 0 0)) := Only.set w _ rfl
  have hcel1 : CelT (w.setCell ⟨g, N1, none⟩ (.slice none 0 0)) B[N1] ac := Cs.kept hcel hset (fun ad e e2 => eNG ⟨ad, e, e2⟩)
  obtain ⟨W1, hW1⟩ : ∃ W1, w.setCell ⟨g, N1, none⟩ (.slice none 0 0) = W1 := ⟨_, rfl⟩
  rw [hW1] at hb1 ho1 hcel1
  have g1 : W1.cell? ⟨p, 1, none⟩ = some (.slice (some ⟨g, 0, none⟩) B.length cap) := hb1.cell 1
  have gf1 := hb1.froz 1
  -- the rows are cut
  have hb2 := hb1.cut N1 (by rw [List.length_set]; omega)
  obtain ⟨W2, hW2⟩ : ∃ W2, W1.setCell ⟨p, 1, none⟩ (.slice (some ⟨g, 0, none⟩) N1 cap) = W2 := ⟨_, rfl⟩
  have ho2 : Only (fun k => k = p) W1 W2 := by rw [← hW2]; exact Only.set W1 _ rfl
  rw [hW2] at hb2
  have hcel2 : CelT W2 B[N1] ac := Cs.kept hcel1 ho2 (fun ad e e2 => eNP ⟨ad, e, e2⟩)
  have hlen2 : ((B.set N1 []).take N1).length = N1 := by rw [List.length_take, List.length_set]; omega
  obtain ⟨J, hJ⟩ : ∃ J, bkt N1 N1 = J := ⟨_, rfl⟩
  have hJl : J < N1 := by rw [← hJ]; exact bkt_lt _ _ (by omega)
  have hrow2 : ((B.set N1 []).take N1)[J]'(by rw [hlen2]; exact hJl) = B[J] := by rw [List.getElem_take, List.getElem_set, if_neg (by omega)]
  have hjo2 : joinB B = ((B.set N1 []).take N1).set J (B[J] ++ B[N1]) := by
    rw [hjo, hJ, rowB_lt (by omega), List.take_set_of_le (Nat.le_refl N1)]
  obtain ⟨g', cap', a', c, hgv, hcap', d0, hz0, hrow, NP, NG, hgp2, hTS, hSg2, hput⟩ := hb2.hand (i := J) (by rw [hlen2]; exact hJl)
  simp only [Value.slice.injEq, Option.some.injEq, Addr.mk.injEq, and_true, true_and] at hgv
  obtain ⟨rfl, hv2, rfl⟩ := hgv
  clear hv2 hgp2 hSg2
  have hln := rowB_len_le B J
  have hln1 := rowB_len_le B N1
  have k1 : W2.cell? ⟨p, 1, none⟩ = some (.slice (some ⟨g, 0, none⟩) N1 cap) := hb2.cell 1
  have HC := Hid.mk (bucketL_same k1 (by omega) (by omega) (by omega) hJ)
  rw [rowB_lt (by omega)] at hln hln1
  rw [hrow2] at d0 hrow
  rw [hjo2]
  obtain ⟨R, hR⟩ : ∃ R, B[J] = R := ⟨_, rfl⟩
  rw [hR] at d0 hrow hln ⊢
  obtain ⟨M, hM⟩ : ∃ M, R.length = M := ⟨_, rfl⟩
  rw [hM] at d0 hrow hln
  obtain ⟨RL, hRL⟩ : ∃ RL, B[N1] = RL := ⟨_, rfl⟩
  rw [hRL] at hcel2 e0 hln1 ⊢
  obtain ⟨ML, hML⟩ : ∃ ML, RL.length = ML := ⟨_, rfl⟩
  rw [hML] at e0 hln1
  have hjz2 : szB (((B.set N1 []).take N1).set J (R ++ RL)) = szB B := by rw [← hR, ← hRL, ← hjo2]; exact hjz
  have HPUT := Hid.mk hput
  have HROW := Hid.mk (fun (W : World) (hW : Below W2.heap.size W2 W) => hrow.up hW)
  have HCEL := Hid.mk (fun (W : World) (hW : Below W2.heap.size W2 W) => Cs.up hcel2 hW)
  have HLN := Hid.mk (show R.length + RL.length ≤ 100000000 by omega)
  have HML := Hid.mk hML
  have HCN := Hid.mk hcn
  have HJZ := Hid.mk hjz2
  have HGL := Hid.mk (show g < W2.heap.size by have h1 := ho1.size; have h2 := ho2.size; omega)
  have HSP := Hid.mk hSp
  have HFR := Hid.mk (And.intro hb (And.intro ho1 (And.intro ho2 hn1)))
  have hzg : w.frozen? ⟨g, N1, none⟩ = false := ez0
  have hwi : IntKind.i64.wrap ((B.length : Int) - 1) = (N1 : Int) := by rw [wrap_id (by omega) (by omega)]; omega
  have hw32 : IntKind.u32.wrap (N1 : Int) = (N1 : Int) := by simp [IntKind.wrap, IntKind.bits, IntKind.signed]; omega
  have hl2 : ¬ (N1 : Int) < least := by omega
  have hli0 : (N1 : Int) < B.length := by omega
  have hli : (J : Int) < N1 := by omega
  have hlc : (N1 : Int) ≤ cap := by omega
  have hcm : (cap : Int) ≤ 9223372036854775807 := by obtain ⟨_, _, e, _, h⟩ := hb.slice; simp only [Value.slice.injEq] at e; obtain ⟨_, _, rfl⟩ := e; unfold maxLen at h; omega
  obtain ⟨T, hT⟩ : ∃ T, OwnB a' = T := ⟨_, rfl⟩
  have HTO := Hid.mk (fun k (hk : (Value.slice a' M c).ownBlock = some k) => (show T k by rw [← hT]; exact (ownB_iff _ _ _ _).1 hk))
  rw [hT] at NP NG HPUT
  clear hrow hput hln hln1 hM hSp hgl hgp hTS hSg hT hb hF hfl hfs hR hRL hML hjz hjz2 hjo hjo2 hrow2 hlen2 hJl hJ hcel hcel1 hcel2 hset erow eput eNP eNG eTS hb1 hb2 ho1 ho2 hn1 hcap hcap' hNl hN1 hle hl hcn c3 f3 ez0
  go_enter Try.func20, Try.ntmps20
  go_upto_region 10 with (first
    | (go_at_call 37; refine (madeL_cell _ _ c0).mono ?_; rintro e w2 ⟨rfl, rfl⟩)
    | (go_at_call 38; refine HC.out.mono ?_; rintro e w2 ⟨rfl, rfl⟩))
  refine wp_region_last (last := 15) (S := Only T W2) (by kernel_rfl) ?_
  refine last_take (i := 0) (d := 47) (v := .pointer (some ⟨p, 0, none⟩)) rfl rfl (by kernel_rfl) (by kernel_rfl) (by kernel_rfl) (by kernel_rfl) rfl (fun _ _ => rfl) (fun _ _ _ h => h) (Only.refl _ _).drew ?_
  simp only [Act.put, List.setIfInBounds_toArray, List.set_cons_zero, List.set_cons_succ]
  refine last_take (i := 1) (d := 48) (v := .pointer (some ⟨p, 0, none⟩)) rfl rfl (by kernel_rfl) (by kernel_rfl) (by kernel_rfl) (by kernel_rfl) rfl (fun _ _ => (by go_simp)) (fun _ _ _ h => h) (Only.refl _ _).drew ?_
  simp only [Act.put, List.setIfInBounds_toArray, List.set_cons_zero, List.set_cons_succ]
  refine last_take (i := 2) (d := 49) (v := .pointer (some ⟨p, 1, none⟩)) rfl rfl (by kernel_rfl) (by kernel_rfl) (by kernel_rfl) (by kernel_rfl) rfl (fun _ _ => (by go_simp)) (fun _ _ _ h => h) (Only.refl _ _).drew ?_
  simp only [Act.put, List.setIfInBounds_toArray, List.set_cons_zero, List.set_cons_succ]
  refine last_take (i := 3) (d := 50) (v := .slice (some ⟨g, 0, none⟩) N1 cap) rfl rfl (by kernel_rfl) (by kernel_rfl) (by kernel_rfl) (by kernel_rfl) rfl (fun W h => (by have u0 := h.cellS NP k1; go_simp)) (fun _ _ _ h => h) (Only.refl _ _).drew ?_
  simp only [Act.put, List.setIfInBounds_toArray, List.set_cons_zero, List.set_cons_succ]
  refine last_take (i := 4) (d := 51) (v := .int .i64 J) rfl rfl (by kernel_rfl) (by kernel_rfl) (by kernel_rfl) (by kernel_rfl) rfl (fun _ _ => rfl) (fun _ _ _ h => h) (Only.refl _ _).drew ?_
  simp only [Act.put, List.setIfInBounds_toArray, List.set_cons_zero, List.set_cons_succ]
  refine last_take (i := 5) (d := 52) (v := .pointer (some ⟨p, 0, none⟩)) rfl rfl (by kernel_rfl) (by kernel_rfl) (by kernel_rfl) (by kernel_rfl) rfl (fun _ _ => rfl) (fun _ _ _ h => h) (Only.refl _ _).drew ?_
  simp only [Act.put, List.setIfInBounds_toArray, List.set_cons_zero, List.set_cons_succ]
  refine last_take (i := 6) (d := 53) (v := .pointer (some ⟨p, 0, none⟩)) rfl rfl (by kernel_rfl) (by kernel_rfl) (by kernel_rfl) (by kernel_rfl) rfl (fun _ _ => (by go_simp)) (fun _ _ _ h => h) (Only.refl _ _).drew ?_
  simp only [Act.put, List.setIfInBounds_toArray, List.set_cons_zero, List.set_cons_succ]
  refine last_take (i := 7) (d := 54) (v := .pointer (some ⟨p, 1, none⟩)) rfl rfl (by kernel_rfl) (by kernel_rfl) (by kernel_rfl) (by kernel_rfl) rfl (fun _ _ => (by go_simp)) (fun _ _ _ h => h) (Only.refl _ _).drew ?_
  simp only [Act.put, List.setIfInBounds_toArray, List.set_cons_zero, List.set_cons_succ]
  refine last_take (i := 8) (d := 55) (v := .slice (some ⟨g, 0, none⟩) N1 cap) rfl rfl (by kernel_rfl) (by kernel_rfl) (by kernel_rfl) (by kernel_rfl) rfl (fun W h => (by have u0 := h.cellS NP k1; go_simp)) (fun _ _ _ h => h) (Only.refl _ _).drew ?_
  simp only [Act.put, List.setIfInBounds_toArray, List.set_cons_zero, List.set_cons_succ]
  refine last_take (i := 9) (d := 56) (v := .int .i64 J) rfl rfl (by kernel_rfl) (by kernel_rfl) (by kernel_rfl) (by kernel_rfl) rfl (fun _ _ => rfl) (fun _ _ _ h => h) (Only.refl _ _).drew ?_
  simp only [Act.put, List.setIfInBounds_toArray, List.set_cons_zero, List.set_cons_succ]
  refine last_take (i := 10) (d := 57) (v := .pointer (some ⟨g, J, none⟩)) rfl rfl (by kernel_rfl) (by kernel_rfl) (by kernel_rfl) (by kernel_rfl) rfl (fun _ _ => (by go_simp)) (fun _ _ _ h => h) (Only.refl _ _).drew ?_
  simp only [Act.put, List.setIfInBounds_toArray, List.set_cons_zero, List.set_cons_succ]
  refine last_take (i := 11) (d := 58) (v := .slice a' M c) rfl rfl (by kernel_rfl) (by kernel_rfl) (by kernel_rfl) (by kernel_rfl) rfl (fun W h => (by have u0 := h.cellS NG d0; go_simp)) (fun _ _ _ h => h) (Only.refl _ _).drew ?_
  simp only [Act.put, List.setIfInBounds_toArray, List.set_cons_zero, List.set_cons_succ]
  refine last_take (i := 12) (d := 59) (v := .slice ac ML cc) rfl rfl (by kernel_rfl) (by kernel_rfl) (by kernel_rfl) (by kernel_rfl) rfl (fun _ _ => rfl) (fun _ _ _ h => h) (Only.refl _ _).drew ?_
  simp only [Act.put, List.setIfInBounds_toArray, List.set_cons_zero, List.set_cons_succ]
  obtain ⟨WD, hWD⟩ : ∃ WD, ({ W2 with drawn := W2.drawn + 1 } : World) = WD := ⟨_, rfl⟩
  have HD : Up W2 WD := by rw [← hWD]; exact (Up.refl W2).drew
  rw [hWD]
  clear hWD
  obtain ⟨y, w9, hr9, hi9, hg9, ho9⟩ := cels_append WD _ R RL ac ML cc (HROW.out _ HD.out) (HCEL.out _ HD.out) HCN.out HML.out.symm HLN.out
  have hO9 : Only T W2 w9 := Only.grow (Only.up HD.out) hg9 HTO.out
  have hst := HPUT.out w9 y _ hO9 hi9 (fun b hb => by
    rcases ho9 with e | e
    · exact Or.inl (HTO.out b (e ▸ hb))
    · rw [e] at hb
      cases hb
      exact Or.inr HD.out.size)
  have hd9 := hO9.cellS NG d0
  have hz9 : w9.frozen? ⟨g, J, none⟩ = false := by rw [hO9.froz NG HGL.out]; exact hz0
  obtain ⟨ya, yc, e2, _⟩ := Its.slice hi9
  obtain ⟨M2, hM2⟩ : ∃ M2, (R ++ RL).length = M2 := ⟨_, rfl⟩
  rw [hM2] at e2
  subst e2
  obtain ⟨S', hbx, honly, hnew⟩ := hst
  refine last_value (i := 13) (d := 60) (v := _) (w' := w9) (by kernel_rfl) rfl rfl rfl (exec_append rfl rfl hr9) hO9 ?_
  simp only [Act.put, List.setIfInBounds_toArray, List.set_cons_zero, List.set_cons_succ]
  refine last_take (i := 14) (d := 61) (v := .pointer (some ⟨g, J, none⟩)) rfl rfl (by kernel_rfl) (by kernel_rfl) (by kernel_rfl) (by kernel_rfl) rfl (fun _ _ => (by go_simp)) (fun _ _ _ h => h) hO9 ?_
  simp only [Act.put, List.setIfInBounds_toArray, List.set_cons_zero, List.set_cons_succ]
  refine last_store (w' := w9.setCell ⟨g, J, none⟩ (.slice ya M2 yc)) (by kernel_rfl) rfl rfl rfl (by go_simp) (by kernel_rfl) ?_
  have HE := Hid.mk (show StL LbP w p least S (((B.set N1 []).take N1).set J (R ++ RL)) (w9.setCell ⟨g, J, none⟩ (.slice ya M2 yc)) from by
    obtain ⟨hb, ho1, ho2, hn1⟩ := HFR.out
    refine ⟨S', ⟨.slice (some ⟨g, 0, none⟩) N1 cap, ?_⟩, (ho1.trans ho2 (fun k hk => Or.inl (by rw [hk]; exact HSP.out))).trans honly hn1, fun k hk => ?_⟩
    · unfold csP
      rw [HJZ.out]
      exact hbx
    · rcases hnew k hk with e | e
      · exact hn1 k e
      · exact Or.inr (Nat.le_trans (Nat.le_trans ho1.size ho2.size) e))
  clear hbx honly hnew hM2 hi9 hr9 hg9 ho9 hd9 hz9 hO9 c0 c1 c2 d0 k1 g1 e0
  go_wp2
  go_ret
  exact ⟨rfl, HE.out⟩
end Go.Proofs.Ytkijbphbibcnoaa
