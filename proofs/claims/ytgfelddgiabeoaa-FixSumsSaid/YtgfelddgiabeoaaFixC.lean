/-
  The program's counts: what is let go.
-/
import Derived.Test.YtgfelddgiabeoaaFixB
namespace Go.Proofs.Ytgfelddgiabeoaa
open Go.RowKit Go.Deep Go.Maps Go.WideShapes

theorem lookP {D : DataW Unit} {x c : Int} {d : Nat} (hD : IsMap D) (hat : (D.put (keyI x) (.lit (.int .i64 d))).atKey (keyI x) (.lit (.int .i64 0)) = .lit (.int .i64 c)) : c = d := by
  rw [atKey_put_same hD (keyI_lit _)] at hat
  simpa using hat.symm

set_option maxRecDepth 100000 in
set_option maxHeartbeats 2000000 in
theorem freeC_any (p bm : Nat) (L : List Int) (x : Int) (k : Nat) (w : World) (h : Cn w p bm L) (hx : In64 x) (h1 : 1 ≤ k) (hk : k ≤ cnt x L) (hL : L.length ≤ 1000) :
    Calls Try.prog 28 #[.pointer (some ⟨p, 0, none⟩), .int .i64 x, .int .i64 k] w fun e w' => e = .returned (.bool (((lessL x k L).length : Int) == 0)) ∧ StepC w p bm (lessL x k L) w' := by
  obtain ⟨⟨c0, c1, c2⟩, f2⟩ := boxC_cells h.box
  have hA := Hid.mk h
  have hkey := key_int hx
  have hcl := cnt_le x L
  have hll := lessL_len x L k hk
  obtain ⟨N, hN⟩ : ∃ N, L.length = N := ⟨_, rfl⟩
  obtain ⟨m, hm⟩ : ∃ m, cnt x L = m := ⟨_, rfl⟩
  obtain ⟨M, hM0⟩ : ∃ M, (lessL x k L).length = M := ⟨_, rfl⟩
  obtain ⟨d, hd⟩ : ∃ d, m - k = d := ⟨_, rfl⟩
  have hwn : IntKind.i64.wrap ((N : Int) - k) = (M : Int) := by rw [wrap_id (by omega) (by omega)]; omega
  have hwm : IntKind.i64.wrap ((m : Int) - k) = (d : Int) := by rw [wrap_id (by omega) (by omega)]; omega
  rw [hN] at c2
  have HH := Hid.mk (show L.length = N ∧ cnt x L = m ∧ (lessL x k L).length = M ∧ m - k = d ∧ N ≤ 1000 ∧ m ≤ N ∧ k ≤ m ∧ 1 ≤ k from ⟨hN, hm, hM0, hd, by omega, by omega, by omega, h1⟩)
  rw [hM0]
  obtain ⟨D, hD, hM⟩ := h.map
  have HM := Hid.mk hM
  have HD := Hid.mk hD
  have HB := Hid.mk (show w.heap[p]? = some (boxC p bm N) from hN ▸ h.box)
  clear h hx h1 hk hL hcl hll hN hm hM0 hM
  by_cases h0 : d = 0
  · have e0 : ((d : Int) == 0) = true := by simp; exact h0
    have H0 := Hid.mk h0
    clear h0
    go_enter Try.func28, Try.ntmps28
    go_wp2_with (first
      | (at_lookup; have g := HO4; refine wpList_lookup_own_int _ rfl _ _ 39 rfl 3 3 .i64 keyedI Try.underlying39 Try.underlying3 (Try.zeroValue3 _) bm _ _ rfl HO4.out _ _ rfl hkey ?_; intro c hat hwc; obtain rfl := lookP HD.out.isMap hat; clear hat hwc)
      | (at_lookup; refine wpList_lookup_own_int _ rfl _ _ 39 rfl 3 3 .i64 keyedI Try.underlying39 Try.underlying3 (Try.zeroValue3 _) bm _ D rfl (hD.setCell (a := ⟨p, 2, none⟩) hA.out.ne _) _ _ rfl hkey ?_; intro c hat hwc; obtain rfl := (lookC HM.out hat).trans (congrArg Int.ofNat HH.out.2.1); clear hat hwc; try rw [Int.ofNat_eq_natCast])
      | (at_mapUpdate; refine wpList_mapUpdate_own _ rfl _ _ _ 39 rfl 3 3 keyedI Try.underlying39 _ bm L.length D rfl (hD.setCell (a := ⟨p, 2, none⟩) hA.out.ne _) (by have := HH.out; unfold maxLen; omega) _ _ (keyI x) rfl rfl hkey (.lit (.int .i64 d)) [] (plainElem_int Try.underlying3 (wf_i64' (by omega) (by have := HH.out; omega))) ?_; intro w4 hown4 hg4; clear hD
         have hbx4 := Hid.mk ((hg4.block p (by rw [size_setCell']; exact hA.out.ltp) (fun e => hA.out.ne (by simpa using e.symm))).trans (boxC_total HB.out M)); have HO4 := Hid.mk hown4; have HG4 := Hid.mk hg4; clear hown4 hg4; obtain ⟨⟨c0, c1, c2⟩, f2⟩ := boxC_cells hbx4.out)
      | (at_delete; refine wpList_delete_own _ rfl _ _ 39 3 rfl 3 keyedI Try.underlying39 _ bm _ _ rfl HO4.out _ _ rfl hkey ?_; intro w5 hown5 hturn5
         have hg5 := hturn5.grown
         have hbx5 := Hid.mk ((hg5.block p (Array.getElem?_eq_some_iff.1 hbx4.out).1 (fun e => hA.out.ne (by simpa using e.symm))).trans hbx4.out)
         have HO5 := Hid.mk hown5; have HG5 := Hid.mk hg5; clear hown5 hturn5 hg5
         obtain ⟨⟨c0, c1, c2⟩, f2⟩ := boxC_cells hbx5.out))
    go_ret
    obtain ⟨u1, u2, u3, u4, u5, u6, u7, u8⟩ := HH.out
    have h0 := H0.out
    refine ⟨rfl, ?_⟩
    have hM2 : MapC _ (lessL x k L) := MapC.del (x := x) (L := L) (L' := lessL x k L) (D := D.put (keyI x) (.lit (.int .i64 d))) (fun y hy => ⟨by rw [has_put_other (fun e' => hy (keyI_inj e'))]; exact HM.out.has y, by rw [atKey_put_other (fun e' => hy (keyI_inj e'))]; exact HM.out.at_ y⟩) (by rw [lessL_cnt, if_pos rfl]; omega) (fun y hy => by rw [lessL_cnt, if_neg hy])
    have o1 : Only (fun k => k = p ∨ k = bm) w (w.setCell ⟨p, 2, none⟩ (.int .i64 M)) := Only.set w _ (Or.inl rfl)
    refine ⟨⟨?_, ⟨_, hM2.tight HO5.out, hM2⟩, hA.out.ne, fun y hy => hA.out.good y (lessL_mem hy)⟩, (o1.grow HG4.out (fun k hk => Or.inr (by simpa using hk.symm))).grow HG5.out (fun k hk => Or.inr (by simpa using hk.symm))⟩
    rw [u3]
    exact hbx5.out
  · have e0 : ((d : Int) == 0) = false := by simp; exact h0
    have H0 := Hid.mk h0
    clear h0
    go_enter Try.func28, Try.ntmps28
    go_wp2_with (first
      | (at_lookup; have g := HO4; refine wpList_lookup_own_int _ rfl _ _ 39 rfl 3 3 .i64 keyedI Try.underlying39 Try.underlying3 (Try.zeroValue3 _) bm _ _ rfl HO4.out _ _ rfl hkey ?_; intro c hat hwc; obtain rfl := lookP HD.out.isMap hat; clear hat hwc)
      | (at_lookup; refine wpList_lookup_own_int _ rfl _ _ 39 rfl 3 3 .i64 keyedI Try.underlying39 Try.underlying3 (Try.zeroValue3 _) bm _ D rfl (hD.setCell (a := ⟨p, 2, none⟩) hA.out.ne _) _ _ rfl hkey ?_; intro c hat hwc; obtain rfl := (lookC HM.out hat).trans (congrArg Int.ofNat HH.out.2.1); clear hat hwc; try rw [Int.ofNat_eq_natCast])
      | (at_mapUpdate; refine wpList_mapUpdate_own _ rfl _ _ _ 39 rfl 3 3 keyedI Try.underlying39 _ bm L.length D rfl (hD.setCell (a := ⟨p, 2, none⟩) hA.out.ne _) (by have := HH.out; unfold maxLen; omega) _ _ (keyI x) rfl rfl hkey (.lit (.int .i64 d)) [] (plainElem_int Try.underlying3 (wf_i64' (by omega) (by have := HH.out; omega))) ?_; intro w4 hown4 hg4; clear hD
         have hbx4 := Hid.mk ((hg4.block p (by rw [size_setCell']; exact hA.out.ltp) (fun e => hA.out.ne (by simpa using e.symm))).trans (boxC_total HB.out M)); have HO4 := Hid.mk hown4; have HG4 := Hid.mk hg4; clear hown4 hg4; obtain ⟨⟨c0, c1, c2⟩, f2⟩ := boxC_cells hbx4.out)
      | (at_delete; refine wpList_delete_own _ rfl _ _ 39 3 rfl 3 keyedI Try.underlying39 _ bm _ _ rfl HO4.out _ _ rfl hkey ?_; intro w5 hown5 hturn5
         have hg5 := hturn5.grown
         have hbx5 := Hid.mk ((hg5.block p (Array.getElem?_eq_some_iff.1 hbx4.out).1 (fun e => hA.out.ne (by simpa using e.symm))).trans hbx4.out)
         have HO5 := Hid.mk hown5; have HG5 := Hid.mk hg5; clear hown5 hturn5 hg5
         obtain ⟨⟨c0, c1, c2⟩, f2⟩ := boxC_cells hbx5.out))
    go_ret
    obtain ⟨u1, u2, u3, u4, u5, u6, u7, u8⟩ := HH.out
    have h0 := H0.out
    refine ⟨rfl, ?_⟩
    have hM2 := HM.out.put (L' := lessL x k L) (x := x) (m := d) HD.out.isMap (by omega) (by rw [lessL_cnt, if_pos rfl]; omega) (fun y hy => by rw [lessL_cnt, if_neg hy])
    have o1 : Only (fun k => k = p ∨ k = bm) w (w.setCell ⟨p, 2, none⟩ (.int .i64 M)) := Only.set w _ (Or.inl rfl)
    refine ⟨⟨?_, ⟨_, hM2.tight HO4.out, hM2⟩, hA.out.ne, fun y hy => hA.out.good y (lessL_mem hy)⟩, o1.grow HG4.out (fun k hk => Or.inr (by simpa using hk.symm))⟩
    rw [u3]
    exact hbx4.out

end Go.Proofs.Ytgfelddgiabeoaa
