/-
  A link's node made even, where one side is too high.
-/
import Derived.Test.YteklhipcojioaaaDoorZTreePa
namespace Go.Proofs.YteklhipcojioaaaDoor
open Go.RowKit Go.Deep Go.Maps Go.WideShapes

set_option maxHeartbeats 4000000 in
set_option maxRecDepth 100000 in
theorem levelB_R (B o : Nat) (cs : Array Value) (ty : TypeId) (g g' : Nat) (e e' : Ky) (h h' : Int) (a b r : Bt) (w : World) (hB : w.heap[B]? = some (.cells cs ty)) (hc : cs[o]? = some (.pointer (some ⟨g, 0, none⟩))) (hl : LayB w (.node g e h (.node g' e' h' a b) r)) (hn : (B :: (Bt.node g e h (.node g' e' h' a b) r).blocks).Nodup)
    (hr : (Bt.node g e h (.node g' e' h' a b) r).Ready) (hz : (Bt.node g e h (.node g' e' h' a b) r).list.length ≤ 800000) (hlt : r.ht + 1 < (Bt.node g' e' h' a b).ht) :
    Calls Tryd.prog 74 #[.pointer (some ⟨B, o, none⟩)] w fun en w' => (∃ u, en = .returned u) ∧ w'.heap[B]? = some (.cells (cs.setIfInBounds o (ptrB (Bt.node g e h (.node g' e' h' a b) r).lvl)) ty) ∧ LayB w' (Bt.node g e h (.node g' e' h' a b) r).lvl ∧ Only (fun k => k = B ∨ k ∈ (Bt.node g e h (.node g' e' h' a b) r).blocks) w w' := by
  have HALL := Hid.mk (And.intro hB (And.intro hc (And.intro hl (And.intro hn (And.intro hr hz)))))
  obtain ⟨k1, ⟨k2, ka, kb⟩, kr⟩ := hl
  have hgg : ptrB (Bt.node g' e' h' a b) = .pointer (some ⟨g', 0, none⟩) := rfl
  rw [hgg] at k1
  obtain ⟨hbl, hbr, hd1, hd2⟩ := hr
  have hzz : (Bt.node g e h (.node g' e' h' a b) r).list.length = a.list.length + b.list.length + r.list.length + 2 := by simp [Bt.list]; omega
  rw [hzz] at hz
  have hbl' := hbl
  obtain ⟨q1, q2, q3, q4, q5⟩ := hbl
  have pa := q4.pos
  have pb := q5.pos
  have pr := hbr.pos
  have la := q4.low.2
  have lb := q5.low.2
  have lr := hbr.low.2
  have lu := hbl'.low.2
  rw [show (Bt.node g' e' h' a b).list.length = a.list.length + b.list.length + 1 by simp [Bt.list]; omega] at lu
  have htu : (Bt.node g' e' h' a b).ht = h' := rfl
  rw [htu] at hlt hd1 hd2 lu
  obtain ⟨ap, hap⟩ := ptrB_is a
  obtain ⟨bp, hbp⟩ := ptrB_is b
  obtain ⟨rp, hrp⟩ := ptrB_is r
  rw [hrp] at k1
  rw [hap, hbp] at k2
  have c0 : w.cell? ⟨B, o, none⟩ = some (.pointer (some ⟨g, 0, none⟩)) := by simpa [World.cell?, hB] using hc
  have c6 : w.cell? ⟨g, 6, none⟩ = some (.pointer (some ⟨g', 0, none⟩)) := by simp [World.cell?, k1, cellsB]
  have c7 : w.cell? ⟨g, 7, none⟩ = some (.pointer rp) := by simp [World.cell?, k1, cellsB]
  have d6 : w.cell? ⟨g', 6, none⟩ = some (.pointer ap) := by simp [World.cell?, k2, cellsB]
  have d7 : w.cell? ⟨g', 7, none⟩ = some (.pointer bp) := by simp [World.cell?, k2, cellsB]
  have HTL0 := Hid.mk (fun (W : World) (hW : Below w.heap.size w W) => tallV_any (Bt.node g' e' h' a b) (.pointer (some ⟨g', 0, none⟩)) W (HALL.out.2.2.1.2.1.up hW) rfl)
  have HTL1 := Hid.mk (fun (W : World) (hW : Below w.heap.size w W) => tallV_any r (.pointer rp) W (kr.up hW) hrp)
  have HTA := Hid.mk (fun (W : World) (hW : Below w.heap.size w W) => tallV_any a (.pointer ap) W (ka.up hW) hap)
  have HTB := Hid.mk (fun (W : World) (hW : Below w.heap.size w W) => tallV_any b (.pointer bp) W (kb.up hW) hbp)
  rw [htu] at HTL0
  obtain ⟨y, hy⟩ : ∃ y, r.ht = y := ⟨_, rfl⟩
  obtain ⟨p, hp⟩ : ∃ p, a.ht = p := ⟨_, rfl⟩
  obtain ⟨q, hq⟩ : ∃ q, b.ht = q := ⟨_, rfl⟩
  rw [hy] at HTL1 hlt hd1 hd2 pr lr
  rw [hp] at HTA pa la q1 q2 q3
  rw [hq] at HTB pb lb q1 q2 q3
  have hwy : IntKind.i64.wrap (y + 1) = y + 1 := wrap_id (by omega) (by omega)
  have hw1 : IntKind.i64.wrap 1 = 1 := wrap_id (by decide) (by decide)
  have hw0 : IntKind.i64.wrap 0 = 0 := wrap_id (by decide) (by decide)
  have HN := Hid.mk (show (0 ≤ y ∧ y ≤ 800000) ∧ (0 ≤ p ∧ p ≤ 800000) ∧ (0 ≤ q ∧ q ≤ 800000) ∧ a.ht = p ∧ b.ht = q ∧ r.ht = y from ⟨⟨pr, by omega⟩, ⟨pa, by omega⟩, ⟨pb, by omega⟩, hp, hq, hy⟩)
  have hnle : ¬ h' ≤ y + 1 := by omega
  have HLE := Hid.mk (show True from trivial)
  have HLT := Hid.mk (show r.ht + 1 < (Bt.node g' e' h' a b).ht from (by rw [htu, hy]; exact hlt))
  have HBL := Hid.mk (show a.Bal ∧ b.Bal ∧ r.Bal from ⟨q4, q5, hbr⟩)
  have HUP := Hid.mk (fun (W : World) (hW : Below w.heap.size w W) => show W.heap[B]? = some (.cells cs ty) ∧ LayB W (.node g e h (.node g' e' h' a b) r) from ⟨(hW.block B (Array.getElem?_eq_some_iff.1 hB).1).trans hB, HALL.out.2.2.1.up hW⟩)
  skip
  skip
  clear hB k1 k2 ka kb kr hbl' q1 q2 q3 q4 q5 pa pb pr la lb lr lu hap hbp hrp hy hp hq hgg htu hbr hzz hz hn hd1 hd2 hlt hc
  by_cases hab : p < q
  · go_enter Tryd.func74, Tryd.ntmps74
    go_wp2
    go_loopw [10] (fun ii wr => ii = .int .i64 0 ∧ Hid (Below w.heap.size w wr)) (fun ii _ => 0)
    case atStart => exact ⟨rfl, Hid.mk (Below.refl _ _)⟩
    case round =>
      obtain ⟨rfl, hB⟩ := hrel
      have e6 := cell_below hB.out _ _ _ c6
      have e7 := cell_below hB.out _ _ _ c7
      go_upto_region 6 with fail
      refine region_up (W := wr) (by kernel_rfl) (by kernel_rfl) (Up.refl _) ?_
      refine quiet_value (v := .pointer (some ⟨g', 0, none⟩)) rfl (fun _ _ => rfl) ?_
      simp only [Act.put, List.setIfInBounds_toArray, List.set_cons_zero, List.set_cons_succ]
      refine quiet_call (v := .int .i64 h') rfl (fun W => (by go_simp)) (fun W h => (HTL0.out W (hB.out.trans (h.out.mono hB.out.size))).mono fun e w' ⟨he, hb⟩ => ⟨he, h.call hb⟩) ?_
      simp only [Act.put, List.setIfInBounds_toArray, List.set_cons_zero, List.set_cons_succ]
      refine quiet_value (v := .pointer (some ⟨g, 0, none⟩)) rfl (fun _ _ => rfl) ?_
      simp only [Act.put, List.setIfInBounds_toArray, List.set_cons_zero, List.set_cons_succ]
      refine quiet_value (v := .int .i64 0) rfl (fun _ _ => rfl) ?_
      simp only [Act.put, List.setIfInBounds_toArray, List.set_cons_zero, List.set_cons_succ]
      refine quiet_value (v := .int .i64 1) rfl (fun _ _ => (by go_simp)) ?_
      simp only [Act.put, List.setIfInBounds_toArray, List.set_cons_zero, List.set_cons_succ]
      refine quiet_value (v := .pointer (some ⟨g, 0, none⟩)) rfl (fun _ _ => (by go_simp)) ?_
      simp only [Act.put, List.setIfInBounds_toArray, List.set_cons_zero, List.set_cons_succ]
      refine quiet_value (v := .pointer (some ⟨g, 6, none⟩)) rfl (fun _ _ => (by go_simp)) ?_
      simp only [Act.put, List.setIfInBounds_toArray, List.set_cons_zero, List.set_cons_succ]
      refine quiet_value (v := .pointer (some ⟨g, 7, none⟩)) rfl (fun _ _ => (by go_simp)) ?_
      simp only [Act.put, List.setIfInBounds_toArray, List.set_cons_zero, List.set_cons_succ]
      refine quiet_value (v := .pointer rp) rfl (fun W h => (by have u0 := cell_below h.out _ _ _ e7; go_simp)) ?_
      simp only [Act.put, List.setIfInBounds_toArray, List.set_cons_zero, List.set_cons_succ]
      refine quiet_call (v := .int .i64 y) rfl (fun W => (by go_simp)) (fun W h => (HTL1.out W (hB.out.trans (h.out.mono hB.out.size))).mono fun e w' ⟨he, hb⟩ => ⟨he, h.call hb⟩) ?_
      simp only [Act.put, List.setIfInBounds_toArray, List.set_cons_zero, List.set_cons_succ]
      refine quiet_value (v := .int .i64 (y + 1)) rfl (fun _ _ => (by go_simp)) ?_
      simp only [Act.put, List.setIfInBounds_toArray, List.set_cons_zero, List.set_cons_succ]
      refine quiet_value (v := .bool false) rfl (fun _ _ => (by go_simp)) ?_
      simp only [Act.put, List.setIfInBounds_toArray, List.set_cons_zero, List.set_cons_succ]
      refine quiet_nil ?_
      intro w2 hw2
      have HB2 := Hid.mk (hB.out.trans (hw2.out.mono hB.out.size))
      replace d6 := cell_below HB2.out _ _ _ d6
      replace d7 := cell_below HB2.out _ _ _ d7
      clear hw2 e6 e7
      go_upto_region 7 with fail
      refine region_up (W := w2) (by kernel_rfl) (by kernel_rfl) (Up.refl _) ?_
      refine quiet_value (v := .pointer (some ⟨g', 0, none⟩)) rfl (fun _ _ => rfl) ?_
      simp only [Act.put, List.setIfInBounds_toArray, List.set_cons_zero, List.set_cons_succ]
      refine quiet_value (v := .int .i64 0) rfl (fun _ _ => rfl) ?_
      simp only [Act.put, List.setIfInBounds_toArray, List.set_cons_zero, List.set_cons_succ]
      refine quiet_value (v := .int .i64 1) rfl (fun _ _ => (by go_simp)) ?_
      simp only [Act.put, List.setIfInBounds_toArray, List.set_cons_zero, List.set_cons_succ]
      refine quiet_value (v := .pointer (some ⟨g', 0, none⟩)) rfl (fun _ _ => (by go_simp)) ?_
      simp only [Act.put, List.setIfInBounds_toArray, List.set_cons_zero, List.set_cons_succ]
      refine quiet_value (v := .pointer (some ⟨g', 6, none⟩)) rfl (fun _ _ => (by go_simp)) ?_
      simp only [Act.put, List.setIfInBounds_toArray, List.set_cons_zero, List.set_cons_succ]
      refine quiet_value (v := .pointer (some ⟨g', 7, none⟩)) rfl (fun _ _ => (by go_simp)) ?_
      simp only [Act.put, List.setIfInBounds_toArray, List.set_cons_zero, List.set_cons_succ]
      refine quiet_value (v := .pointer bp) rfl (fun W h => (by have u0 := cell_below h.out _ _ _ d7; go_simp)) ?_
      simp only [Act.put, List.setIfInBounds_toArray, List.set_cons_zero, List.set_cons_succ]
      refine quiet_call (v := .int .i64 q) rfl (fun W => (by go_simp)) (fun W h => (HTB.out W (HB2.out.trans (h.out.mono HB2.out.size))).mono fun e w' ⟨he, hb⟩ => ⟨he, h.call hb⟩) ?_
      simp only [Act.put, List.setIfInBounds_toArray, List.set_cons_zero, List.set_cons_succ]
      refine quiet_value (v := .pointer (some ⟨g', 0, none⟩)) rfl (fun _ _ => rfl) ?_
      simp only [Act.put, List.setIfInBounds_toArray, List.set_cons_zero, List.set_cons_succ]
      refine quiet_value (v := .int .i64 0) rfl (fun _ _ => rfl) ?_
      simp only [Act.put, List.setIfInBounds_toArray, List.set_cons_zero, List.set_cons_succ]
      refine quiet_value (v := .pointer (some ⟨g', 0, none⟩)) rfl (fun _ _ => (by go_simp)) ?_
      simp only [Act.put, List.setIfInBounds_toArray, List.set_cons_zero, List.set_cons_succ]
      refine quiet_value (v := .pointer (some ⟨g', 6, none⟩)) rfl (fun _ _ => (by go_simp)) ?_
      simp only [Act.put, List.setIfInBounds_toArray, List.set_cons_zero, List.set_cons_succ]
      refine quiet_value (v := .pointer (some ⟨g', 6, none⟩)) rfl (fun _ _ => (by go_simp)) ?_
      simp only [Act.put, List.setIfInBounds_toArray, List.set_cons_zero, List.set_cons_succ]
      refine quiet_value (v := .pointer ap) rfl (fun W h => (by have u0 := cell_below h.out _ _ _ d6; go_simp)) ?_
      simp only [Act.put, List.setIfInBounds_toArray, List.set_cons_zero, List.set_cons_succ]
      refine quiet_call (v := .int .i64 p) rfl (fun W => (by go_simp)) (fun W h => (HTA.out W (HB2.out.trans (h.out.mono HB2.out.size))).mono fun e w' ⟨he, hb⟩ => ⟨he, h.call hb⟩) ?_
      simp only [Act.put, List.setIfInBounds_toArray, List.set_cons_zero, List.set_cons_succ]
      refine quiet_value (v := .bool true) rfl (fun _ _ => (by go_simp)) ?_
      simp only [Act.put, List.setIfInBounds_toArray, List.set_cons_zero, List.set_cons_succ]
      refine quiet_nil ?_
      intro w3 hw3
      have HB3 := Hid.mk (HB2.out.trans (hw3.out.mono HB2.out.size))
      have x0 := cell_below HB3.out _ _ _ c0
      have x6 := cell_below HB3.out _ _ _ c6
      have x7 := cell_below HB3.out _ _ _ c7
      clear hw3 d6 d7
      have HX := Hid.mk (HUP.out w3 HB3.out)
      have hne : b ≠ .nil := fun e0 => by have h1 := HN.out; rw [e0, ht_nil] at h1; omega
      obtain ⟨g2, e2, h2, m, n, hbn⟩ : ∃ g2 e2 h2 m n, b = .node g2 e2 h2 m n := by
        cases b with
        | nil => exact absurd rfl hne
        | node g2 e2 h2 m n => exact ⟨_, _, _, _, _, rfl⟩
      subst hbn
      have HMN := Hid.mk (show (0 ≤ m.ht ∧ m.ht ≤ 800000) ∧ (0 ≤ n.ht ∧ n.ht ≤ 800000) from (by
        have h1 := HN.out
        obtain ⟨z1, z2, z3, z4, z5⟩ := HBL.out.2.1
        have := z4.pos
        have := z5.pos
        rw [ht_node] at h1
        omega))
      have HC1 := Hid.mk (show w3.heap[g]? = some (.cells (cellsB e h (.pointer (some ⟨g', 0, none⟩)) (ptrB r)) 82) from HX.out.2.1)
      have hnd := HALL.out.2.2.2.1
      simp only [Bt.blocks] at hnd
      have HND := Hid.mk (show (g :: (Bt.node g' e' h' a (.node g2 e2 h2 m n)).blocks).Nodup from by
        refine List.Nodup.sublist ?_ (List.nodup_cons.1 hnd).2
        exact (List.sublist_append_left _ _).cons_cons _)
      clear hnd
      go_upto_region 9 with (go_at_call 86; refine (turnL_any g 6 (cellsB e h (.pointer (some ⟨g', 0, none⟩)) (ptrB r)) 82 g' g2 e' e2 h' h2 n m a w3 HC1.out rfl HX.out.2.2.1 HND.out (by have := HMN.out; omega) (by have := HMN.out; omega) (by have := HN.out; omega)).mono ?_; rintro en w4 ⟨⟨un, rfl⟩, m1, m2, m3⟩; have H4 := Hid.mk (And.intro m1 (And.intro m2 m3)); clear m1 m2 m3)
      have hnd := HALL.out.2.2.2.1
      have HL4 := Hid.mk (show w4.heap[B]? = some (.cells cs ty) ∧ LayB w4 (Bt.node g e h (mkB g2 e2 (mkB g' e' a m) n) r) from by
        obtain ⟨m1, m2, m3⟩ := H4.out
        simp only [Bt.blocks, List.nodup_cons, List.mem_cons, List.mem_append, not_or] at hnd
        refine ⟨m3.box HX.out.1 ?_, m1, m2, HX.out.2.2.2.kept m3 ?_⟩
        · rintro (e0 | e0 | e0)
          · exact hnd.1.1 e0
          · exact hnd.1.2.1.1 e0
          · exact hnd.1.2.1.2.2.1 e0
        · intro k hk
          have hnn := hnd.2.2
          rw [List.nodup_append] at hnn
          rintro (rfl | rfl | rfl)
          · exact hnd.2.1.2 hk
          · exact hnn.2.2 _ (by simp) _ hk rfl
          · exact hnn.2.2 _ (by simp) _ hk rfl)
      have HND2 := Hid.mk (show (B :: (Bt.node g e h (mkB g2 e2 (mkB g' e' a m) n) r).blocks).Nodup from by
        refine (List.Perm.nodup_iff ?_).1 hnd
        refine perm_count fun k => ?_
        simp only [mkB, Bt.blocks, List.count_cons, List.count_append]
        ac_rfl)
      clear hnd
      have y0 : w4.cell? ⟨B, o, none⟩ = some (.pointer (some ⟨g, 0, none⟩)) := by simpa [World.cell?, HL4.out.1] using HALL.out.2.1
      clear x0 x6 x7
      go_wp2_with (go_at_call 86; refine (turnR_any B o cs ty g g2 e e2 h _ _ _ _ w4 HL4.out.1 HALL.out.2.1 HL4.out.2 HND2.out (by have := HN.out; have := HMN.out; first | omega | (simp only [mkB_ht]; omega)) (by have := HN.out; have := HMN.out; first | omega | (simp only [mkB_ht]; omega)) (by have := HN.out; omega)).mono ?_; rintro en w5 ⟨⟨un, rfl⟩, m1, m2, m3⟩; have H5 := Hid.mk (And.intro m1 (And.intro m2 m3)); clear m1 m2 m3)
      refine bodyPost_ret (results_none rfl _ _ _) rfl ⟨⟨_, rfl⟩, ?_⟩
      have elv : (Bt.node g e h (.node g' e' h' a (.node g2 e2 h2 m n)) r).lvl = mkB g2 e2 (mkB g' e' a m) (mkB g e n r) := by
        have h3 : a.ht < (Bt.node g2 e2 h2 m n).ht := by have := HN.out; omega
        rw [lvl_node]
        rw [if_pos HLT.out]
        show (Bt.node g e h (if a.ht < (Bt.node g2 e2 h2 m n).ht then _ else _) r).rotR = _
        rw [if_pos h3]
        rfl
      rw [elv]
      refine ⟨H5.out.1, H5.out.2.1, ((Only.up HB3.out).trans (S' := fun k => k = B ∨ k ∈ (Bt.node g e h (.node g' e' h' a (.node g2 e2 h2 m n)) r).blocks) (H4.out.2.2.mono ?_) (fun k hk => Or.inl hk)).trans H5.out.2.2 (fun k hk => Or.inl ?_)⟩
      · intro k hk
        rcases hk with rfl | rfl | rfl <;> exact Or.inr (by simp [Bt.blocks])
      · rcases hk with rfl | rfl | rfl
        · exact Or.inl rfl
        · exact Or.inr (by simp [Bt.blocks])
        · exact Or.inr (by simp [Bt.blocks])
  · go_enter Tryd.func74, Tryd.ntmps74
    go_wp2
    go_loopw [10] (fun ii wr => ii = .int .i64 0 ∧ Hid (Below w.heap.size w wr)) (fun ii _ => 0)
    case atStart => exact ⟨rfl, Hid.mk (Below.refl _ _)⟩
    case round =>
      obtain ⟨rfl, hB⟩ := hrel
      have e6 := cell_below hB.out _ _ _ c6
      have e7 := cell_below hB.out _ _ _ c7
      go_upto_region 6 with fail
      refine region_up (W := wr) (by kernel_rfl) (by kernel_rfl) (Up.refl _) ?_
      refine quiet_value (v := .pointer (some ⟨g', 0, none⟩)) rfl (fun _ _ => rfl) ?_
      simp only [Act.put, List.setIfInBounds_toArray, List.set_cons_zero, List.set_cons_succ]
      refine quiet_call (v := .int .i64 h') rfl (fun W => (by go_simp)) (fun W h => (HTL0.out W (hB.out.trans (h.out.mono hB.out.size))).mono fun e w' ⟨he, hb⟩ => ⟨he, h.call hb⟩) ?_
      simp only [Act.put, List.setIfInBounds_toArray, List.set_cons_zero, List.set_cons_succ]
      refine quiet_value (v := .pointer (some ⟨g, 0, none⟩)) rfl (fun _ _ => rfl) ?_
      simp only [Act.put, List.setIfInBounds_toArray, List.set_cons_zero, List.set_cons_succ]
      refine quiet_value (v := .int .i64 0) rfl (fun _ _ => rfl) ?_
      simp only [Act.put, List.setIfInBounds_toArray, List.set_cons_zero, List.set_cons_succ]
      refine quiet_value (v := .int .i64 1) rfl (fun _ _ => (by go_simp)) ?_
      simp only [Act.put, List.setIfInBounds_toArray, List.set_cons_zero, List.set_cons_succ]
      refine quiet_value (v := .pointer (some ⟨g, 0, none⟩)) rfl (fun _ _ => (by go_simp)) ?_
      simp only [Act.put, List.setIfInBounds_toArray, List.set_cons_zero, List.set_cons_succ]
      refine quiet_value (v := .pointer (some ⟨g, 6, none⟩)) rfl (fun _ _ => (by go_simp)) ?_
      simp only [Act.put, List.setIfInBounds_toArray, List.set_cons_zero, List.set_cons_succ]
      refine quiet_value (v := .pointer (some ⟨g, 7, none⟩)) rfl (fun _ _ => (by go_simp)) ?_
      simp only [Act.put, List.setIfInBounds_toArray, List.set_cons_zero, List.set_cons_succ]
      refine quiet_value (v := .pointer rp) rfl (fun W h => (by have u0 := cell_below h.out _ _ _ e7; go_simp)) ?_
      simp only [Act.put, List.setIfInBounds_toArray, List.set_cons_zero, List.set_cons_succ]
      refine quiet_call (v := .int .i64 y) rfl (fun W => (by go_simp)) (fun W h => (HTL1.out W (hB.out.trans (h.out.mono hB.out.size))).mono fun e w' ⟨he, hb⟩ => ⟨he, h.call hb⟩) ?_
      simp only [Act.put, List.setIfInBounds_toArray, List.set_cons_zero, List.set_cons_succ]
      refine quiet_value (v := .int .i64 (y + 1)) rfl (fun _ _ => (by go_simp)) ?_
      simp only [Act.put, List.setIfInBounds_toArray, List.set_cons_zero, List.set_cons_succ]
      refine quiet_value (v := .bool false) rfl (fun _ _ => (by go_simp)) ?_
      simp only [Act.put, List.setIfInBounds_toArray, List.set_cons_zero, List.set_cons_succ]
      refine quiet_nil ?_
      intro w2 hw2
      have HB2 := Hid.mk (hB.out.trans (hw2.out.mono hB.out.size))
      replace d6 := cell_below HB2.out _ _ _ d6
      replace d7 := cell_below HB2.out _ _ _ d7
      clear hw2 e6 e7
      go_upto_region 7 with fail
      refine region_up (W := w2) (by kernel_rfl) (by kernel_rfl) (Up.refl _) ?_
      refine quiet_value (v := .pointer (some ⟨g', 0, none⟩)) rfl (fun _ _ => rfl) ?_
      simp only [Act.put, List.setIfInBounds_toArray, List.set_cons_zero, List.set_cons_succ]
      refine quiet_value (v := .int .i64 0) rfl (fun _ _ => rfl) ?_
      simp only [Act.put, List.setIfInBounds_toArray, List.set_cons_zero, List.set_cons_succ]
      refine quiet_value (v := .int .i64 1) rfl (fun _ _ => (by go_simp)) ?_
      simp only [Act.put, List.setIfInBounds_toArray, List.set_cons_zero, List.set_cons_succ]
      refine quiet_value (v := .pointer (some ⟨g', 0, none⟩)) rfl (fun _ _ => (by go_simp)) ?_
      simp only [Act.put, List.setIfInBounds_toArray, List.set_cons_zero, List.set_cons_succ]
      refine quiet_value (v := .pointer (some ⟨g', 6, none⟩)) rfl (fun _ _ => (by go_simp)) ?_
      simp only [Act.put, List.setIfInBounds_toArray, List.set_cons_zero, List.set_cons_succ]
      refine quiet_value (v := .pointer (some ⟨g', 7, none⟩)) rfl (fun _ _ => (by go_simp)) ?_
      simp only [Act.put, List.setIfInBounds_toArray, List.set_cons_zero, List.set_cons_succ]
      refine quiet_value (v := .pointer bp) rfl (fun W h => (by have u0 := cell_below h.out _ _ _ d7; go_simp)) ?_
      simp only [Act.put, List.setIfInBounds_toArray, List.set_cons_zero, List.set_cons_succ]
      refine quiet_call (v := .int .i64 q) rfl (fun W => (by go_simp)) (fun W h => (HTB.out W (HB2.out.trans (h.out.mono HB2.out.size))).mono fun e w' ⟨he, hb⟩ => ⟨he, h.call hb⟩) ?_
      simp only [Act.put, List.setIfInBounds_toArray, List.set_cons_zero, List.set_cons_succ]
      refine quiet_value (v := .pointer (some ⟨g', 0, none⟩)) rfl (fun _ _ => rfl) ?_
      simp only [Act.put, List.setIfInBounds_toArray, List.set_cons_zero, List.set_cons_succ]
      refine quiet_value (v := .int .i64 0) rfl (fun _ _ => rfl) ?_
      simp only [Act.put, List.setIfInBounds_toArray, List.set_cons_zero, List.set_cons_succ]
      refine quiet_value (v := .pointer (some ⟨g', 0, none⟩)) rfl (fun _ _ => (by go_simp)) ?_
      simp only [Act.put, List.setIfInBounds_toArray, List.set_cons_zero, List.set_cons_succ]
      refine quiet_value (v := .pointer (some ⟨g', 6, none⟩)) rfl (fun _ _ => (by go_simp)) ?_
      simp only [Act.put, List.setIfInBounds_toArray, List.set_cons_zero, List.set_cons_succ]
      refine quiet_value (v := .pointer (some ⟨g', 6, none⟩)) rfl (fun _ _ => (by go_simp)) ?_
      simp only [Act.put, List.setIfInBounds_toArray, List.set_cons_zero, List.set_cons_succ]
      refine quiet_value (v := .pointer ap) rfl (fun W h => (by have u0 := cell_below h.out _ _ _ d6; go_simp)) ?_
      simp only [Act.put, List.setIfInBounds_toArray, List.set_cons_zero, List.set_cons_succ]
      refine quiet_call (v := .int .i64 p) rfl (fun W => (by go_simp)) (fun W h => (HTA.out W (HB2.out.trans (h.out.mono HB2.out.size))).mono fun e w' ⟨he, hb⟩ => ⟨he, h.call hb⟩) ?_
      simp only [Act.put, List.setIfInBounds_toArray, List.set_cons_zero, List.set_cons_succ]
      refine quiet_value (v := .bool false) rfl (fun _ _ => (by go_simp)) ?_
      simp only [Act.put, List.setIfInBounds_toArray, List.set_cons_zero, List.set_cons_succ]
      refine quiet_nil ?_
      intro w3 hw3
      have HB3 := Hid.mk (HB2.out.trans (hw3.out.mono HB2.out.size))
      have x0 := cell_below HB3.out _ _ _ c0
      have x6 := cell_below HB3.out _ _ _ c6
      have x7 := cell_below HB3.out _ _ _ c7
      clear hw3 d6 d7
      have HX := Hid.mk (HUP.out w3 HB3.out)
      go_wp2_with (go_at_call 86; refine (turnR_any B o cs ty g g' e e' h h' a b r w3 HX.out.1 HALL.out.2.1 HX.out.2 HALL.out.2.2.2.1 (by have := HN.out; omega) (by have := HN.out; omega) (by have := HN.out; omega)).mono ?_; rintro en w4 ⟨⟨un, rfl⟩, m1, m2, m3⟩; have H4 := Hid.mk (And.intro m1 (And.intro m2 m3)); clear m1 m2 m3)
      refine bodyPost_ret (results_none rfl _ _ _) rfl ⟨⟨_, rfl⟩, ?_⟩
      have elv : (Bt.node g e h (.node g' e' h' a b) r).lvl = (Bt.node g e h (.node g' e' h' a b) r).rotR := by
        have h3 : ¬ a.ht < b.ht := by have := HN.out; omega
        rw [lvl_node]
        rw [if_pos HLT.out]
        show (Bt.node g e h (if a.ht < b.ht then _ else _) r).rotR = _
        rw [if_neg h3]
      rw [elv]
      refine ⟨H4.out.1, H4.out.2.1, (Only.up HB3.out).trans H4.out.2.2 (fun k hk => Or.inl ?_)⟩
      rcases hk with rfl | rfl | rfl
      · exact Or.inl rfl
      · exact Or.inr (by simp [Bt.blocks])
      · exact Or.inr (by simp [Bt.blocks])
set_option maxHeartbeats 4000000 in
set_option maxRecDepth 100000 in
theorem levelB_L (B o : Nat) (cs : Array Value) (ty : TypeId) (g g' : Nat) (e e' : Ky) (h h' : Int) (a b r : Bt) (w : World) (hB : w.heap[B]? = some (.cells cs ty)) (hc : cs[o]? = some (.pointer (some ⟨g, 0, none⟩))) (hl : LayB w (.node g e h r (.node g' e' h' a b))) (hn : (B :: (Bt.node g e h r (.node g' e' h' a b)).blocks).Nodup)
    (hr : (Bt.node g e h r (.node g' e' h' a b)).Ready) (hz : (Bt.node g e h r (.node g' e' h' a b)).list.length ≤ 800000) (hlt : r.ht + 1 < (Bt.node g' e' h' a b).ht) :
    Calls Tryd.prog 74 #[.pointer (some ⟨B, o, none⟩)] w fun en w' => (∃ u, en = .returned u) ∧ w'.heap[B]? = some (.cells (cs.setIfInBounds o (ptrB (Bt.node g e h r (.node g' e' h' a b)).lvl)) ty) ∧ LayB w' (Bt.node g e h r (.node g' e' h' a b)).lvl ∧ Only (fun k => k = B ∨ k ∈ (Bt.node g e h r (.node g' e' h' a b)).blocks) w w' := by
  have HALL := Hid.mk (And.intro hB (And.intro hc (And.intro hl (And.intro hn (And.intro hr hz)))))
  obtain ⟨k1, kr, ⟨k2, ka, kb⟩⟩ := hl
  have hgg : ptrB (Bt.node g' e' h' a b) = .pointer (some ⟨g', 0, none⟩) := rfl
  rw [hgg] at k1
  obtain ⟨hbr, hbl, hd1, hd2⟩ := hr
  have hzz : (Bt.node g e h r (.node g' e' h' a b)).list.length = a.list.length + b.list.length + r.list.length + 2 := by simp [Bt.list]; omega
  rw [hzz] at hz
  have hbl' := hbl
  obtain ⟨q1, q2, q3, q4, q5⟩ := hbl
  have pa := q4.pos
  have pb := q5.pos
  have pr := hbr.pos
  have la := q4.low.2
  have lb := q5.low.2
  have lr := hbr.low.2
  have lu := hbl'.low.2
  rw [show (Bt.node g' e' h' a b).list.length = a.list.length + b.list.length + 1 by simp [Bt.list]; omega] at lu
  have htu : (Bt.node g' e' h' a b).ht = h' := rfl
  rw [htu] at hlt hd1 hd2 lu
  obtain ⟨ap, hap⟩ := ptrB_is a
  obtain ⟨bp, hbp⟩ := ptrB_is b
  obtain ⟨rp, hrp⟩ := ptrB_is r
  rw [hrp] at k1
  rw [hap, hbp] at k2
  have c0 : w.cell? ⟨B, o, none⟩ = some (.pointer (some ⟨g, 0, none⟩)) := by simpa [World.cell?, hB] using hc
  have c7 : w.cell? ⟨g, 7, none⟩ = some (.pointer (some ⟨g', 0, none⟩)) := by simp [World.cell?, k1, cellsB]
  have c6 : w.cell? ⟨g, 6, none⟩ = some (.pointer rp) := by simp [World.cell?, k1, cellsB]
  have d6 : w.cell? ⟨g', 6, none⟩ = some (.pointer ap) := by simp [World.cell?, k2, cellsB]
  have d7 : w.cell? ⟨g', 7, none⟩ = some (.pointer bp) := by simp [World.cell?, k2, cellsB]
  have HTL1 := Hid.mk (fun (W : World) (hW : Below w.heap.size w W) => tallV_any (Bt.node g' e' h' a b) (.pointer (some ⟨g', 0, none⟩)) W (HALL.out.2.2.1.2.2.up hW) rfl)
  have HTL0 := Hid.mk (fun (W : World) (hW : Below w.heap.size w W) => tallV_any r (.pointer rp) W (kr.up hW) hrp)
  have HTA := Hid.mk (fun (W : World) (hW : Below w.heap.size w W) => tallV_any a (.pointer ap) W (ka.up hW) hap)
  have HTB := Hid.mk (fun (W : World) (hW : Below w.heap.size w W) => tallV_any b (.pointer bp) W (kb.up hW) hbp)
  rw [htu] at HTL1
  obtain ⟨y, hy⟩ : ∃ y, r.ht = y := ⟨_, rfl⟩
  obtain ⟨p, hp⟩ : ∃ p, a.ht = p := ⟨_, rfl⟩
  obtain ⟨q, hq⟩ : ∃ q, b.ht = q := ⟨_, rfl⟩
  rw [hy] at HTL0 hlt hd1 hd2 pr lr
  rw [hp] at HTA pa la q1 q2 q3
  rw [hq] at HTB pb lb q1 q2 q3
  have hwy : IntKind.i64.wrap (y + 1) = y + 1 := wrap_id (by omega) (by omega)
  have hw1 : IntKind.i64.wrap 1 = 1 := wrap_id (by decide) (by decide)
  have hw0 : IntKind.i64.wrap 0 = 0 := wrap_id (by decide) (by decide)
  have HN := Hid.mk (show (0 ≤ y ∧ y ≤ 800000) ∧ (0 ≤ p ∧ p ≤ 800000) ∧ (0 ≤ q ∧ q ≤ 800000) ∧ a.ht = p ∧ b.ht = q ∧ r.ht = y from ⟨⟨pr, by omega⟩, ⟨pa, by omega⟩, ⟨pb, by omega⟩, hp, hq, hy⟩)
  have hnle : ¬ h' ≤ y + 1 := by omega
  have HLE := Hid.mk (show y ≤ h' + 1 from (by omega))
  have HLT := Hid.mk (show r.ht + 1 < (Bt.node g' e' h' a b).ht from (by rw [htu, hy]; exact hlt))
  have HBL := Hid.mk (show a.Bal ∧ b.Bal ∧ r.Bal from ⟨q4, q5, hbr⟩)
  have HUP := Hid.mk (fun (W : World) (hW : Below w.heap.size w W) => show W.heap[B]? = some (.cells cs ty) ∧ LayB W (.node g e h r (.node g' e' h' a b)) from ⟨(hW.block B (Array.getElem?_eq_some_iff.1 hB).1).trans hB, HALL.out.2.2.1.up hW⟩)
  have hwh : IntKind.i64.wrap (h' + 1) = h' + 1 := wrap_id (by omega) (by omega)
  have hle : y ≤ h' + 1 := HLE.out
  clear hB k1 k2 ka kb kr hbl' q1 q2 q3 q4 q5 pa pb pr la lb lr lu hap hbp hrp hy hp hq hgg htu hbr hzz hz hn hd1 hd2 hlt hc
  by_cases hab : q < p
  · go_enter Tryd.func74, Tryd.ntmps74
    go_wp2
    go_loopw [10] (fun ii wr => (ii = .int .i64 0 ∨ ii = .int .i64 1) ∧ Hid (Below w.heap.size w wr)) (fun ii _ => 1 - (intOf ii).toNat)
    case atStart => exact ⟨Or.inl rfl, Hid.mk (Below.refl _ _)⟩
    case round =>
      obtain ⟨rfl | rfl, hB⟩ := hrel
      · 
        have e6 := cell_below hB.out _ _ _ c6
        have e7 := cell_below hB.out _ _ _ c7
        go_upto_region 6 with fail
        refine region_up (W := wr) (by kernel_rfl) (by kernel_rfl) (Up.refl _) ?_
        refine quiet_value (v := .pointer rp) rfl (fun _ _ => rfl) ?_
        simp only [Act.put, List.setIfInBounds_toArray, List.set_cons_zero, List.set_cons_succ]
        refine quiet_call (v := .int .i64 y) rfl (fun W => (by go_simp)) (fun W h => (HTL0.out W (hB.out.trans (h.out.mono hB.out.size))).mono fun e w' ⟨he, hb⟩ => ⟨he, h.call hb⟩) ?_
        simp only [Act.put, List.setIfInBounds_toArray, List.set_cons_zero, List.set_cons_succ]
        refine quiet_value (v := .pointer (some ⟨g, 0, none⟩)) rfl (fun _ _ => rfl) ?_
        simp only [Act.put, List.setIfInBounds_toArray, List.set_cons_zero, List.set_cons_succ]
        refine quiet_value (v := .int .i64 0) rfl (fun _ _ => rfl) ?_
        simp only [Act.put, List.setIfInBounds_toArray, List.set_cons_zero, List.set_cons_succ]
        refine quiet_value (v := .int .i64 1) rfl (fun _ _ => (by go_simp)) ?_
        simp only [Act.put, List.setIfInBounds_toArray, List.set_cons_zero, List.set_cons_succ]
        refine quiet_value (v := .pointer (some ⟨g, 0, none⟩)) rfl (fun _ _ => (by go_simp)) ?_
        simp only [Act.put, List.setIfInBounds_toArray, List.set_cons_zero, List.set_cons_succ]
        refine quiet_value (v := .pointer (some ⟨g, 6, none⟩)) rfl (fun _ _ => (by go_simp)) ?_
        simp only [Act.put, List.setIfInBounds_toArray, List.set_cons_zero, List.set_cons_succ]
        refine quiet_value (v := .pointer (some ⟨g, 7, none⟩)) rfl (fun _ _ => (by go_simp)) ?_
        simp only [Act.put, List.setIfInBounds_toArray, List.set_cons_zero, List.set_cons_succ]
        refine quiet_value (v := .pointer (some ⟨g', 0, none⟩)) rfl (fun W h => (by have u0 := cell_below h.out _ _ _ e7; go_simp)) ?_
        simp only [Act.put, List.setIfInBounds_toArray, List.set_cons_zero, List.set_cons_succ]
        refine quiet_call (v := .int .i64 h') rfl (fun W => (by go_simp)) (fun W h => (HTL1.out W (hB.out.trans (h.out.mono hB.out.size))).mono fun e w' ⟨he, hb⟩ => ⟨he, h.call hb⟩) ?_
        simp only [Act.put, List.setIfInBounds_toArray, List.set_cons_zero, List.set_cons_succ]
        refine quiet_value (v := .int .i64 (h' + 1)) rfl (fun _ _ => (by go_simp)) ?_
        simp only [Act.put, List.setIfInBounds_toArray, List.set_cons_zero, List.set_cons_succ]
        refine quiet_value (v := .bool true) rfl (fun _ _ => (by go_simp)) ?_
        simp only [Act.put, List.setIfInBounds_toArray, List.set_cons_zero, List.set_cons_succ]
        refine quiet_nil ?_
        intro w2 hw2
        have HB2 := Hid.mk (hB.out.trans (hw2.out.mono hB.out.size))
        clear hw2 e6 e7
        go_wp2
        go_roundw
        case rel => exact ⟨Or.inr (by first | rfl | go_num), HB2⟩
        case measure => simp [intOf]
      · 
        have e6 := cell_below hB.out _ _ _ c6
        have e7 := cell_below hB.out _ _ _ c7
        go_upto_region 6 with fail
        refine region_up (W := wr) (by kernel_rfl) (by kernel_rfl) (Up.refl _) ?_
        refine quiet_value (v := .pointer (some ⟨g', 0, none⟩)) rfl (fun _ _ => rfl) ?_
        simp only [Act.put, List.setIfInBounds_toArray, List.set_cons_zero, List.set_cons_succ]
        refine quiet_call (v := .int .i64 h') rfl (fun W => (by go_simp)) (fun W h => (HTL1.out W (hB.out.trans (h.out.mono hB.out.size))).mono fun e w' ⟨he, hb⟩ => ⟨he, h.call hb⟩) ?_
        simp only [Act.put, List.setIfInBounds_toArray, List.set_cons_zero, List.set_cons_succ]
        refine quiet_value (v := .pointer (some ⟨g, 0, none⟩)) rfl (fun _ _ => rfl) ?_
        simp only [Act.put, List.setIfInBounds_toArray, List.set_cons_zero, List.set_cons_succ]
        refine quiet_value (v := .int .i64 1) rfl (fun _ _ => rfl) ?_
        simp only [Act.put, List.setIfInBounds_toArray, List.set_cons_zero, List.set_cons_succ]
        refine quiet_value (v := .int .i64 0) rfl (fun _ _ => (by go_simp)) ?_
        simp only [Act.put, List.setIfInBounds_toArray, List.set_cons_zero, List.set_cons_succ]
        refine quiet_value (v := .pointer (some ⟨g, 0, none⟩)) rfl (fun _ _ => (by go_simp)) ?_
        simp only [Act.put, List.setIfInBounds_toArray, List.set_cons_zero, List.set_cons_succ]
        refine quiet_value (v := .pointer (some ⟨g, 6, none⟩)) rfl (fun _ _ => (by go_simp)) ?_
        simp only [Act.put, List.setIfInBounds_toArray, List.set_cons_zero, List.set_cons_succ]
        refine quiet_value (v := .pointer (some ⟨g, 6, none⟩)) rfl (fun _ _ => (by go_simp)) ?_
        simp only [Act.put, List.setIfInBounds_toArray, List.set_cons_zero, List.set_cons_succ]
        refine quiet_value (v := .pointer rp) rfl (fun W h => (by have u0 := cell_below h.out _ _ _ e6; go_simp)) ?_
        simp only [Act.put, List.setIfInBounds_toArray, List.set_cons_zero, List.set_cons_succ]
        refine quiet_call (v := .int .i64 y) rfl (fun W => (by go_simp)) (fun W h => (HTL0.out W (hB.out.trans (h.out.mono hB.out.size))).mono fun e w' ⟨he, hb⟩ => ⟨he, h.call hb⟩) ?_
        simp only [Act.put, List.setIfInBounds_toArray, List.set_cons_zero, List.set_cons_succ]
        refine quiet_value (v := .int .i64 (y + 1)) rfl (fun _ _ => (by go_simp)) ?_
        simp only [Act.put, List.setIfInBounds_toArray, List.set_cons_zero, List.set_cons_succ]
        refine quiet_value (v := .bool false) rfl (fun _ _ => (by go_simp)) ?_
        simp only [Act.put, List.setIfInBounds_toArray, List.set_cons_zero, List.set_cons_succ]
        refine quiet_nil ?_
        intro w2 hw2
        have HB2 := Hid.mk (hB.out.trans (hw2.out.mono hB.out.size))
        replace d6 := cell_below HB2.out _ _ _ d6
        replace d7 := cell_below HB2.out _ _ _ d7
        clear hw2 e6 e7
        go_upto_region 7 with fail
        refine region_up (W := w2) (by kernel_rfl) (by kernel_rfl) (Up.refl _) ?_
        refine quiet_value (v := .pointer (some ⟨g', 0, none⟩)) rfl (fun _ _ => rfl) ?_
        simp only [Act.put, List.setIfInBounds_toArray, List.set_cons_zero, List.set_cons_succ]
        refine quiet_value (v := .int .i64 1) rfl (fun _ _ => rfl) ?_
        simp only [Act.put, List.setIfInBounds_toArray, List.set_cons_zero, List.set_cons_succ]
        refine quiet_value (v := .int .i64 0) rfl (fun _ _ => (by go_simp)) ?_
        simp only [Act.put, List.setIfInBounds_toArray, List.set_cons_zero, List.set_cons_succ]
        refine quiet_value (v := .pointer (some ⟨g', 0, none⟩)) rfl (fun _ _ => (by go_simp)) ?_
        simp only [Act.put, List.setIfInBounds_toArray, List.set_cons_zero, List.set_cons_succ]
        refine quiet_value (v := .pointer (some ⟨g', 6, none⟩)) rfl (fun _ _ => (by go_simp)) ?_
        simp only [Act.put, List.setIfInBounds_toArray, List.set_cons_zero, List.set_cons_succ]
        refine quiet_value (v := .pointer (some ⟨g', 6, none⟩)) rfl (fun _ _ => (by go_simp)) ?_
        simp only [Act.put, List.setIfInBounds_toArray, List.set_cons_zero, List.set_cons_succ]
        refine quiet_value (v := .pointer ap) rfl (fun W h => (by have u0 := cell_below h.out _ _ _ d6; go_simp)) ?_
        simp only [Act.put, List.setIfInBounds_toArray, List.set_cons_zero, List.set_cons_succ]
        refine quiet_call (v := .int .i64 p) rfl (fun W => (by go_simp)) (fun W h => (HTA.out W (HB2.out.trans (h.out.mono HB2.out.size))).mono fun e w' ⟨he, hb⟩ => ⟨he, h.call hb⟩) ?_
        simp only [Act.put, List.setIfInBounds_toArray, List.set_cons_zero, List.set_cons_succ]
        refine quiet_value (v := .pointer (some ⟨g', 0, none⟩)) rfl (fun _ _ => rfl) ?_
        simp only [Act.put, List.setIfInBounds_toArray, List.set_cons_zero, List.set_cons_succ]
        refine quiet_value (v := .int .i64 1) rfl (fun _ _ => rfl) ?_
        simp only [Act.put, List.setIfInBounds_toArray, List.set_cons_zero, List.set_cons_succ]
        refine quiet_value (v := .pointer (some ⟨g', 0, none⟩)) rfl (fun _ _ => (by go_simp)) ?_
        simp only [Act.put, List.setIfInBounds_toArray, List.set_cons_zero, List.set_cons_succ]
        refine quiet_value (v := .pointer (some ⟨g', 6, none⟩)) rfl (fun _ _ => (by go_simp)) ?_
        simp only [Act.put, List.setIfInBounds_toArray, List.set_cons_zero, List.set_cons_succ]
        refine quiet_value (v := .pointer (some ⟨g', 7, none⟩)) rfl (fun _ _ => (by go_simp)) ?_
        simp only [Act.put, List.setIfInBounds_toArray, List.set_cons_zero, List.set_cons_succ]
        refine quiet_value (v := .pointer bp) rfl (fun W h => (by have u0 := cell_below h.out _ _ _ d7; go_simp)) ?_
        simp only [Act.put, List.setIfInBounds_toArray, List.set_cons_zero, List.set_cons_succ]
        refine quiet_call (v := .int .i64 q) rfl (fun W => (by go_simp)) (fun W h => (HTB.out W (HB2.out.trans (h.out.mono HB2.out.size))).mono fun e w' ⟨he, hb⟩ => ⟨he, h.call hb⟩) ?_
        simp only [Act.put, List.setIfInBounds_toArray, List.set_cons_zero, List.set_cons_succ]
        refine quiet_value (v := .bool true) rfl (fun _ _ => (by go_simp)) ?_
        simp only [Act.put, List.setIfInBounds_toArray, List.set_cons_zero, List.set_cons_succ]
        refine quiet_nil ?_
        intro w3 hw3
        have HB3 := Hid.mk (HB2.out.trans (hw3.out.mono HB2.out.size))
        have x0 := cell_below HB3.out _ _ _ c0
        have x6 := cell_below HB3.out _ _ _ c6
        have x7 := cell_below HB3.out _ _ _ c7
        clear hw3 d6 d7
        have HX := Hid.mk (HUP.out w3 HB3.out)
        have hne : a ≠ .nil := fun e0 => by have h1 := HN.out; rw [e0, ht_nil] at h1; omega
        obtain ⟨g2, e2, h2, m, n, hbn⟩ : ∃ g2 e2 h2 m n, a = .node g2 e2 h2 m n := by
          cases a with
          | nil => exact absurd rfl hne
          | node g2 e2 h2 m n => exact ⟨_, _, _, _, _, rfl⟩
        subst hbn
        have HMN := Hid.mk (show (0 ≤ m.ht ∧ m.ht ≤ 800000) ∧ (0 ≤ n.ht ∧ n.ht ≤ 800000) from (by
          have h1 := HN.out
          obtain ⟨z1, z2, z3, z4, z5⟩ := HBL.out.1
          have := z4.pos
          have := z5.pos
          rw [ht_node] at h1
          omega))
        have HC1 := Hid.mk (show w3.heap[g]? = some (.cells (cellsB e h (ptrB r) (.pointer (some ⟨g', 0, none⟩))) 82) from HX.out.2.1)
        have hnd := HALL.out.2.2.2.1
        simp only [Bt.blocks] at hnd
        have HND := Hid.mk (show (g :: (Bt.node g' e' h' (.node g2 e2 h2 m n) b).blocks).Nodup from by
          refine List.Nodup.sublist ?_ (List.nodup_cons.1 hnd).2
          exact (List.sublist_append_right _ _).cons_cons _)
        clear hnd
        go_upto_region 9 with (go_at_call 86; refine (turnR_any g 7 (cellsB e h (ptrB r) (.pointer (some ⟨g', 0, none⟩))) 82 g' g2 e' e2 h' h2 m n b w3 HC1.out rfl HX.out.2.2.2 HND.out (by have := HMN.out; omega) (by have := HMN.out; omega) (by have := HN.out; omega)).mono ?_; rintro en w4 ⟨⟨un, rfl⟩, m1, m2, m3⟩; have H4 := Hid.mk (And.intro m1 (And.intro m2 m3)); clear m1 m2 m3)
        have hnd := HALL.out.2.2.2.1
        have HL4 := Hid.mk (show w4.heap[B]? = some (.cells cs ty) ∧ LayB w4 (Bt.node g e h r (mkB g2 e2 m (mkB g' e' n b))) from by
          obtain ⟨m1, m2, m3⟩ := H4.out
          simp only [Bt.blocks, List.nodup_cons, List.mem_cons, List.mem_append, not_or] at hnd
          refine ⟨m3.box HX.out.1 ?_, m1, HX.out.2.2.1.kept m3 ?_, m2⟩
          · rintro (e0 | e0 | e0)
            · exact hnd.1.1 e0
            · exact hnd.1.2.2.1 e0
            · exact hnd.1.2.2.2.1.1 e0
          · intro k hk
            have hnn := hnd.2.2
            rw [List.nodup_append] at hnn
            rintro (rfl | rfl | rfl)
            · exact hnd.2.1.1 hk
            · exact hnn.2.2 _ hk _ (by simp) rfl
            · exact hnn.2.2 _ hk _ (by simp) rfl)
        have HND2 := Hid.mk (show (B :: (Bt.node g e h r (mkB g2 e2 m (mkB g' e' n b))).blocks).Nodup from by
          refine (List.Perm.nodup_iff ?_).1 hnd
          refine perm_count fun k => ?_
          simp only [mkB, Bt.blocks, List.count_cons, List.count_append]
          ac_rfl)
        clear hnd
        have y0 : w4.cell? ⟨B, o, none⟩ = some (.pointer (some ⟨g, 0, none⟩)) := by simpa [World.cell?, HL4.out.1] using HALL.out.2.1
        clear x0 x6 x7
        go_wp2_with (go_at_call 86; refine (turnL_any B o cs ty g g2 e e2 h _ _ _ _ w4 HL4.out.1 HALL.out.2.1 HL4.out.2 HND2.out (by have := HN.out; have := HMN.out; first | omega | (simp only [mkB_ht]; omega)) (by have := HN.out; have := HMN.out; first | omega | (simp only [mkB_ht]; omega)) (by have := HN.out; omega)).mono ?_; rintro en w5 ⟨⟨un, rfl⟩, m1, m2, m3⟩; have H5 := Hid.mk (And.intro m1 (And.intro m2 m3)); clear m1 m2 m3)
        refine bodyPost_ret (results_none rfl _ _ _) rfl ⟨⟨_, rfl⟩, ?_⟩
        have elv : (Bt.node g e h r (.node g' e' h' (.node g2 e2 h2 m n) b)).lvl = mkB g2 e2 (mkB g e r m) (mkB g' e' n b) := by
          have h3 : b.ht < (Bt.node g2 e2 h2 m n).ht := by have := HN.out; omega
          rw [lvl_node]
          rw [if_neg (by have := HLT.out; have := (HALL.out.2.2.2.2.1).2.2.2; omega), if_pos HLT.out]
          show (Bt.node g e h r (if b.ht < (Bt.node g2 e2 h2 m n).ht then _ else _)).rotL = _
          rw [if_pos h3]
          rfl
        rw [elv]
        refine ⟨H5.out.1, H5.out.2.1, ((Only.up HB3.out).trans (S' := fun k => k = B ∨ k ∈ (Bt.node g e h r (.node g' e' h' (.node g2 e2 h2 m n) b)).blocks) (H4.out.2.2.mono ?_) (fun k hk => Or.inl hk)).trans H5.out.2.2 (fun k hk => Or.inl ?_)⟩
        · intro k hk
          rcases hk with rfl | rfl | rfl <;> exact Or.inr (by simp [Bt.blocks])
        · rcases hk with rfl | rfl | rfl
          · exact Or.inl rfl
          · exact Or.inr (by simp [Bt.blocks])
          · exact Or.inr (by simp [Bt.blocks])
  · go_enter Tryd.func74, Tryd.ntmps74
    go_wp2
    go_loopw [10] (fun ii wr => (ii = .int .i64 0 ∨ ii = .int .i64 1) ∧ Hid (Below w.heap.size w wr)) (fun ii _ => 1 - (intOf ii).toNat)
    case atStart => exact ⟨Or.inl rfl, Hid.mk (Below.refl _ _)⟩
    case round =>
      obtain ⟨rfl | rfl, hB⟩ := hrel
      · 
        have e6 := cell_below hB.out _ _ _ c6
        have e7 := cell_below hB.out _ _ _ c7
        go_upto_region 6 with fail
        refine region_up (W := wr) (by kernel_rfl) (by kernel_rfl) (Up.refl _) ?_
        refine quiet_value (v := .pointer rp) rfl (fun _ _ => rfl) ?_
        simp only [Act.put, List.setIfInBounds_toArray, List.set_cons_zero, List.set_cons_succ]
        refine quiet_call (v := .int .i64 y) rfl (fun W => (by go_simp)) (fun W h => (HTL0.out W (hB.out.trans (h.out.mono hB.out.size))).mono fun e w' ⟨he, hb⟩ => ⟨he, h.call hb⟩) ?_
        simp only [Act.put, List.setIfInBounds_toArray, List.set_cons_zero, List.set_cons_succ]
        refine quiet_value (v := .pointer (some ⟨g, 0, none⟩)) rfl (fun _ _ => rfl) ?_
        simp only [Act.put, List.setIfInBounds_toArray, List.set_cons_zero, List.set_cons_succ]
        refine quiet_value (v := .int .i64 0) rfl (fun _ _ => rfl) ?_
        simp only [Act.put, List.setIfInBounds_toArray, List.set_cons_zero, List.set_cons_succ]
        refine quiet_value (v := .int .i64 1) rfl (fun _ _ => (by go_simp)) ?_
        simp only [Act.put, List.setIfInBounds_toArray, List.set_cons_zero, List.set_cons_succ]
        refine quiet_value (v := .pointer (some ⟨g, 0, none⟩)) rfl (fun _ _ => (by go_simp)) ?_
        simp only [Act.put, List.setIfInBounds_toArray, List.set_cons_zero, List.set_cons_succ]
        refine quiet_value (v := .pointer (some ⟨g, 6, none⟩)) rfl (fun _ _ => (by go_simp)) ?_
        simp only [Act.put, List.setIfInBounds_toArray, List.set_cons_zero, List.set_cons_succ]
        refine quiet_value (v := .pointer (some ⟨g, 7, none⟩)) rfl (fun _ _ => (by go_simp)) ?_
        simp only [Act.put, List.setIfInBounds_toArray, List.set_cons_zero, List.set_cons_succ]
        refine quiet_value (v := .pointer (some ⟨g', 0, none⟩)) rfl (fun W h => (by have u0 := cell_below h.out _ _ _ e7; go_simp)) ?_
        simp only [Act.put, List.setIfInBounds_toArray, List.set_cons_zero, List.set_cons_succ]
        refine quiet_call (v := .int .i64 h') rfl (fun W => (by go_simp)) (fun W h => (HTL1.out W (hB.out.trans (h.out.mono hB.out.size))).mono fun e w' ⟨he, hb⟩ => ⟨he, h.call hb⟩) ?_
        simp only [Act.put, List.setIfInBounds_toArray, List.set_cons_zero, List.set_cons_succ]
        refine quiet_value (v := .int .i64 (h' + 1)) rfl (fun _ _ => (by go_simp)) ?_
        simp only [Act.put, List.setIfInBounds_toArray, List.set_cons_zero, List.set_cons_succ]
        refine quiet_value (v := .bool true) rfl (fun _ _ => (by go_simp)) ?_
        simp only [Act.put, List.setIfInBounds_toArray, List.set_cons_zero, List.set_cons_succ]
        refine quiet_nil ?_
        intro w2 hw2
        have HB2 := Hid.mk (hB.out.trans (hw2.out.mono hB.out.size))
        clear hw2 e6 e7
        go_wp2
        go_roundw
        case rel => exact ⟨Or.inr (by first | rfl | go_num), HB2⟩
        case measure => simp [intOf]
      · 
        have e6 := cell_below hB.out _ _ _ c6
        have e7 := cell_below hB.out _ _ _ c7
        go_upto_region 6 with fail
        refine region_up (W := wr) (by kernel_rfl) (by kernel_rfl) (Up.refl _) ?_
        refine quiet_value (v := .pointer (some ⟨g', 0, none⟩)) rfl (fun _ _ => rfl) ?_
        simp only [Act.put, List.setIfInBounds_toArray, List.set_cons_zero, List.set_cons_succ]
        refine quiet_call (v := .int .i64 h') rfl (fun W => (by go_simp)) (fun W h => (HTL1.out W (hB.out.trans (h.out.mono hB.out.size))).mono fun e w' ⟨he, hb⟩ => ⟨he, h.call hb⟩) ?_
        simp only [Act.put, List.setIfInBounds_toArray, List.set_cons_zero, List.set_cons_succ]
        refine quiet_value (v := .pointer (some ⟨g, 0, none⟩)) rfl (fun _ _ => rfl) ?_
        simp only [Act.put, List.setIfInBounds_toArray, List.set_cons_zero, List.set_cons_succ]
        refine quiet_value (v := .int .i64 1) rfl (fun _ _ => rfl) ?_
        simp only [Act.put, List.setIfInBounds_toArray, List.set_cons_zero, List.set_cons_succ]
        refine quiet_value (v := .int .i64 0) rfl (fun _ _ => (by go_simp)) ?_
        simp only [Act.put, List.setIfInBounds_toArray, List.set_cons_zero, List.set_cons_succ]
        refine quiet_value (v := .pointer (some ⟨g, 0, none⟩)) rfl (fun _ _ => (by go_simp)) ?_
        simp only [Act.put, List.setIfInBounds_toArray, List.set_cons_zero, List.set_cons_succ]
        refine quiet_value (v := .pointer (some ⟨g, 6, none⟩)) rfl (fun _ _ => (by go_simp)) ?_
        simp only [Act.put, List.setIfInBounds_toArray, List.set_cons_zero, List.set_cons_succ]
        refine quiet_value (v := .pointer (some ⟨g, 6, none⟩)) rfl (fun _ _ => (by go_simp)) ?_
        simp only [Act.put, List.setIfInBounds_toArray, List.set_cons_zero, List.set_cons_succ]
        refine quiet_value (v := .pointer rp) rfl (fun W h => (by have u0 := cell_below h.out _ _ _ e6; go_simp)) ?_
        simp only [Act.put, List.setIfInBounds_toArray, List.set_cons_zero, List.set_cons_succ]
        refine quiet_call (v := .int .i64 y) rfl (fun W => (by go_simp)) (fun W h => (HTL0.out W (hB.out.trans (h.out.mono hB.out.size))).mono fun e w' ⟨he, hb⟩ => ⟨he, h.call hb⟩) ?_
        simp only [Act.put, List.setIfInBounds_toArray, List.set_cons_zero, List.set_cons_succ]
        refine quiet_value (v := .int .i64 (y + 1)) rfl (fun _ _ => (by go_simp)) ?_
        simp only [Act.put, List.setIfInBounds_toArray, List.set_cons_zero, List.set_cons_succ]
        refine quiet_value (v := .bool false) rfl (fun _ _ => (by go_simp)) ?_
        simp only [Act.put, List.setIfInBounds_toArray, List.set_cons_zero, List.set_cons_succ]
        refine quiet_nil ?_
        intro w2 hw2
        have HB2 := Hid.mk (hB.out.trans (hw2.out.mono hB.out.size))
        replace d6 := cell_below HB2.out _ _ _ d6
        replace d7 := cell_below HB2.out _ _ _ d7
        clear hw2 e6 e7
        go_upto_region 7 with fail
        refine region_up (W := w2) (by kernel_rfl) (by kernel_rfl) (Up.refl _) ?_
        refine quiet_value (v := .pointer (some ⟨g', 0, none⟩)) rfl (fun _ _ => rfl) ?_
        simp only [Act.put, List.setIfInBounds_toArray, List.set_cons_zero, List.set_cons_succ]
        refine quiet_value (v := .int .i64 1) rfl (fun _ _ => rfl) ?_
        simp only [Act.put, List.setIfInBounds_toArray, List.set_cons_zero, List.set_cons_succ]
        refine quiet_value (v := .int .i64 0) rfl (fun _ _ => (by go_simp)) ?_
        simp only [Act.put, List.setIfInBounds_toArray, List.set_cons_zero, List.set_cons_succ]
        refine quiet_value (v := .pointer (some ⟨g', 0, none⟩)) rfl (fun _ _ => (by go_simp)) ?_
        simp only [Act.put, List.setIfInBounds_toArray, List.set_cons_zero, List.set_cons_succ]
        refine quiet_value (v := .pointer (some ⟨g', 6, none⟩)) rfl (fun _ _ => (by go_simp)) ?_
        simp only [Act.put, List.setIfInBounds_toArray, List.set_cons_zero, List.set_cons_succ]
        refine quiet_value (v := .pointer (some ⟨g', 6, none⟩)) rfl (fun _ _ => (by go_simp)) ?_
        simp only [Act.put, List.setIfInBounds_toArray, List.set_cons_zero, List.set_cons_succ]
        refine quiet_value (v := .pointer ap) rfl (fun W h => (by have u0 := cell_below h.out _ _ _ d6; go_simp)) ?_
        simp only [Act.put, List.setIfInBounds_toArray, List.set_cons_zero, List.set_cons_succ]
        refine quiet_call (v := .int .i64 p) rfl (fun W => (by go_simp)) (fun W h => (HTA.out W (HB2.out.trans (h.out.mono HB2.out.size))).mono fun e w' ⟨he, hb⟩ => ⟨he, h.call hb⟩) ?_
        simp only [Act.put, List.setIfInBounds_toArray, List.set_cons_zero, List.set_cons_succ]
        refine quiet_value (v := .pointer (some ⟨g', 0, none⟩)) rfl (fun _ _ => rfl) ?_
        simp only [Act.put, List.setIfInBounds_toArray, List.set_cons_zero, List.set_cons_succ]
        refine quiet_value (v := .int .i64 1) rfl (fun _ _ => rfl) ?_
        simp only [Act.put, List.setIfInBounds_toArray, List.set_cons_zero, List.set_cons_succ]
        refine quiet_value (v := .pointer (some ⟨g', 0, none⟩)) rfl (fun _ _ => (by go_simp)) ?_
        simp only [Act.put, List.setIfInBounds_toArray, List.set_cons_zero, List.set_cons_succ]
        refine quiet_value (v := .pointer (some ⟨g', 6, none⟩)) rfl (fun _ _ => (by go_simp)) ?_
        simp only [Act.put, List.setIfInBounds_toArray, List.set_cons_zero, List.set_cons_succ]
        refine quiet_value (v := .pointer (some ⟨g', 7, none⟩)) rfl (fun _ _ => (by go_simp)) ?_
        simp only [Act.put, List.setIfInBounds_toArray, List.set_cons_zero, List.set_cons_succ]
        refine quiet_value (v := .pointer bp) rfl (fun W h => (by have u0 := cell_below h.out _ _ _ d7; go_simp)) ?_
        simp only [Act.put, List.setIfInBounds_toArray, List.set_cons_zero, List.set_cons_succ]
        refine quiet_call (v := .int .i64 q) rfl (fun W => (by go_simp)) (fun W h => (HTB.out W (HB2.out.trans (h.out.mono HB2.out.size))).mono fun e w' ⟨he, hb⟩ => ⟨he, h.call hb⟩) ?_
        simp only [Act.put, List.setIfInBounds_toArray, List.set_cons_zero, List.set_cons_succ]
        refine quiet_value (v := .bool false) rfl (fun _ _ => (by go_simp)) ?_
        simp only [Act.put, List.setIfInBounds_toArray, List.set_cons_zero, List.set_cons_succ]
        refine quiet_nil ?_
        intro w3 hw3
        have HB3 := Hid.mk (HB2.out.trans (hw3.out.mono HB2.out.size))
        have x0 := cell_below HB3.out _ _ _ c0
        have x6 := cell_below HB3.out _ _ _ c6
        have x7 := cell_below HB3.out _ _ _ c7
        clear hw3 d6 d7
        have HX := Hid.mk (HUP.out w3 HB3.out)
        go_wp2_with (go_at_call 86; refine (turnL_any B o cs ty g g' e e' h h' b a r w3 HX.out.1 HALL.out.2.1 HX.out.2 HALL.out.2.2.2.1 (by have := HN.out; omega) (by have := HN.out; omega) (by have := HN.out; omega)).mono ?_; rintro en w4 ⟨⟨un, rfl⟩, m1, m2, m3⟩; have H4 := Hid.mk (And.intro m1 (And.intro m2 m3)); clear m1 m2 m3)
        refine bodyPost_ret (results_none rfl _ _ _) rfl ⟨⟨_, rfl⟩, ?_⟩
        have elv : (Bt.node g e h r (.node g' e' h' a b)).lvl = (Bt.node g e h r (.node g' e' h' a b)).rotL := by
          have h3 : ¬ b.ht < a.ht := by have := HN.out; omega
          rw [lvl_node]
          rw [if_neg (by have := HLT.out; have := (HALL.out.2.2.2.2.1).2.2.2; omega), if_pos HLT.out]
          show (Bt.node g e h r (if b.ht < a.ht then _ else _)).rotL = _
          rw [if_neg h3]
        rw [elv]
        refine ⟨H4.out.1, H4.out.2.1, (Only.up HB3.out).trans H4.out.2.2 (fun k hk => Or.inl ?_)⟩
        rcases hk with rfl | rfl | rfl
        · exact Or.inl rfl
        · exact Or.inr (by simp [Bt.blocks])
        · exact Or.inr (by simp [Bt.blocks])
end Go.Proofs.YteklhipcojioaaaDoor

/-
  A link's node made even, whatever stands there; the way back.
-/
namespace Go.Proofs.YteklhipcojioaaaDoor
open Go.RowKit Go.Deep Go.Maps Go.WideShapes

theorem arr_same {cs : Array Value} {o : Nat} {v : Value} (h : cs[o]? = some v) : cs.setIfInBounds o v = cs := by
  obtain ⟨h1, h2⟩ := Array.getElem?_eq_some_iff.1 h
  rw [Array.setIfInBounds, dif_pos h1]
  rw [← h2]
  exact Array.set_getElem_self ..
set_option maxHeartbeats 4000000 in
set_option maxRecDepth 100000 in
theorem levelB_M (B o : Nat) (cs : Array Value) (ty : TypeId) (g : Nat) (e : Ky) (h : Int) (l r : Bt) (w : World) (hB : w.heap[B]? = some (.cells cs ty)) (hc : cs[o]? = some (.pointer (some ⟨g, 0, none⟩))) (hl : LayB w (.node g e h l r)) (hn : (B :: (Bt.node g e h l r).blocks).Nodup)
    (hr : (Bt.node g e h l r).Ready) (hz : (Bt.node g e h l r).list.length ≤ 800000) (h1 : ¬ r.ht + 1 < l.ht) (h2 : ¬ l.ht + 1 < r.ht) :
    Calls Tryd.prog 74 #[.pointer (some ⟨B, o, none⟩)] w fun en w' => (∃ u, en = .returned u) ∧ w'.heap[B]? = some (.cells (cs.setIfInBounds o (ptrB (Bt.node g e h l r).lvl)) ty) ∧ LayB w' (Bt.node g e h l r).lvl ∧ Only (fun k => k = B ∨ k ∈ (Bt.node g e h l r).blocks) w w' := by
  have elv : (Bt.node g e h l r).lvl = mkB g e l r := by rw [lvl_node, if_neg h1, if_neg h2]
  rw [elv]
  have hcs : cs.setIfInBounds o (ptrB (mkB g e l r)) = cs := arr_same hc
  rw [hcs]
  obtain ⟨k1, kl, kr⟩ := hl
  obtain ⟨bl, br, _, _⟩ := hr
  have hzz : (Bt.node g e h l r).list.length = l.list.length + r.list.length + 1 := by simp [Bt.list]; omega
  rw [hzz] at hz
  have pl := bl.pos
  have pr := br.pos
  have ll := bl.low.2
  have lr := br.low.2
  obtain ⟨lp, hlp⟩ := ptrB_is l
  obtain ⟨rp, hrp⟩ := ptrB_is r
  have c0 : w.cell? ⟨B, o, none⟩ = some (.pointer (some ⟨g, 0, none⟩)) := by simpa [World.cell?, hB] using hc
  have c6 : w.cell? ⟨g, 6, none⟩ = some (.pointer lp) := by simp [World.cell?, k1, cellsB, hlp]
  have c7 : w.cell? ⟨g, 7, none⟩ = some (.pointer rp) := by simp [World.cell?, k1, cellsB, hrp]
  have HTL0 := Hid.mk (fun (W : World) (hW : Below w.heap.size w W) => tallV_any l (.pointer lp) W (kl.up hW) hlp)
  have HTL1 := Hid.mk (fun (W : World) (hW : Below w.heap.size w W) => tallV_any r (.pointer rp) W (kr.up hW) hrp)
  have HME := Hid.mk (fun (W : World) (hW : Below w.heap.size w W) => measureB_any g e h l r W ((hW.block g (Array.getElem?_eq_some_iff.1 k1).1).trans k1) (kl.up hW) (kr.up hW) ⟨pl, by omega⟩ ⟨pr, by omega⟩)
  have HK := Hid.mk (And.intro hB (And.intro kl (And.intro kr hn)))
  obtain ⟨x, hx⟩ : ∃ x, l.ht = x := ⟨_, rfl⟩
  obtain ⟨y, hy⟩ : ∃ y, r.ht = y := ⟨_, rfl⟩
  rw [hx] at HTL0 h1 h2 pl ll
  rw [hy] at HTL1 h1 h2 pr lr
  have hwx : IntKind.i64.wrap (x + 1) = x + 1 := wrap_id (by omega) (by omega)
  have hwy : IntKind.i64.wrap (y + 1) = y + 1 := wrap_id (by omega) (by omega)
  have hw1 : IntKind.i64.wrap 1 = 1 := wrap_id (by decide) (by decide)
  have hw0 : IntKind.i64.wrap 0 = 0 := wrap_id (by decide) (by decide)
  have hle0 : x ≤ y + 1 := by omega
  have hle1 : y ≤ x + 1 := by omega
  clear hx hy hB k1 kl kr bl br pl pr ll lr hlp hrp elv hcs hn hz hzz h1 h2 hc
  go_enter Tryd.func74, Tryd.ntmps74
  go_wp2
  go_loopw [10] (fun ii wr => (ii = .int .i64 0 ∨ ii = .int .i64 1 ∨ ii = .int .i64 2) ∧ Hid (Below w.heap.size w wr)) (fun ii _ => 2 - (intOf ii).toNat)
  case atStart => exact ⟨Or.inl rfl, Hid.mk (Below.refl _ _)⟩
  case round =>
    obtain ⟨rfl | rfl | rfl, hB⟩ := hrel
    · have e6 := cell_below hB.out _ _ _ c6
      have e7 := cell_below hB.out _ _ _ c7
      go_upto_region 6 with fail
      refine region_up (W := wr) (by kernel_rfl) (by kernel_rfl) (Up.refl _) ?_
      refine quiet_value (v := .pointer lp) rfl (fun _ _ => rfl) ?_
      simp only [Act.put, List.setIfInBounds_toArray, List.set_cons_zero, List.set_cons_succ]
      refine quiet_call (v := .int .i64 x) rfl (fun W => (by go_simp)) (fun W h => (HTL0.out W (hB.out.trans (h.out.mono hB.out.size))).mono fun e w' ⟨he, hb⟩ => ⟨he, h.call hb⟩) ?_
      simp only [Act.put, List.setIfInBounds_toArray, List.set_cons_zero, List.set_cons_succ]
      refine quiet_value (v := .pointer (some ⟨g, 0, none⟩)) rfl (fun _ _ => rfl) ?_
      simp only [Act.put, List.setIfInBounds_toArray, List.set_cons_zero, List.set_cons_succ]
      refine quiet_value (v := .int .i64 0) rfl (fun _ _ => rfl) ?_
      simp only [Act.put, List.setIfInBounds_toArray, List.set_cons_zero, List.set_cons_succ]
      refine quiet_value (v := .int .i64 1) rfl (fun _ _ => (by go_simp)) ?_
      simp only [Act.put, List.setIfInBounds_toArray, List.set_cons_zero, List.set_cons_succ]
      refine quiet_value (v := .pointer (some ⟨g, 0, none⟩)) rfl (fun _ _ => (by go_simp)) ?_
      simp only [Act.put, List.setIfInBounds_toArray, List.set_cons_zero, List.set_cons_succ]
      refine quiet_value (v := .pointer (some ⟨g, 6, none⟩)) rfl (fun _ _ => (by go_simp)) ?_
      simp only [Act.put, List.setIfInBounds_toArray, List.set_cons_zero, List.set_cons_succ]
      refine quiet_value (v := .pointer (some ⟨g, 7, none⟩)) rfl (fun _ _ => (by go_simp)) ?_
      simp only [Act.put, List.setIfInBounds_toArray, List.set_cons_zero, List.set_cons_succ]
      refine quiet_value (v := .pointer rp) rfl (fun W h => (by have u0 := cell_below h.out _ _ _ e7; go_simp)) ?_
      simp only [Act.put, List.setIfInBounds_toArray, List.set_cons_zero, List.set_cons_succ]
      refine quiet_call (v := .int .i64 y) rfl (fun W => (by go_simp)) (fun W h => (HTL1.out W (hB.out.trans (h.out.mono hB.out.size))).mono fun e w' ⟨he, hb⟩ => ⟨he, h.call hb⟩) ?_
      simp only [Act.put, List.setIfInBounds_toArray, List.set_cons_zero, List.set_cons_succ]
      refine quiet_value (v := .int .i64 (y + 1)) rfl (fun _ _ => (by go_simp)) ?_
      simp only [Act.put, List.setIfInBounds_toArray, List.set_cons_zero, List.set_cons_succ]
      refine quiet_value (v := .bool true) rfl (fun _ _ => (by go_simp)) ?_
      simp only [Act.put, List.setIfInBounds_toArray, List.set_cons_zero, List.set_cons_succ]
      refine quiet_nil ?_
      intro w2 hw2
      have HB2 := Hid.mk (hB.out.trans (hw2.out.mono hB.out.size))
      clear hw2 e6 e7
      go_wp2
      go_roundw
      case rel => exact ⟨Or.inr (Or.inl (by first | rfl | go_num)), HB2⟩
      case measure => simp [intOf]
    · have e6 := cell_below hB.out _ _ _ c6
      have e7 := cell_below hB.out _ _ _ c7
      go_upto_region 6 with fail
      refine region_up (W := wr) (by kernel_rfl) (by kernel_rfl) (Up.refl _) ?_
      refine quiet_value (v := .pointer rp) rfl (fun _ _ => rfl) ?_
      simp only [Act.put, List.setIfInBounds_toArray, List.set_cons_zero, List.set_cons_succ]
      refine quiet_call (v := .int .i64 y) rfl (fun W => (by go_simp)) (fun W h => (HTL1.out W (hB.out.trans (h.out.mono hB.out.size))).mono fun e w' ⟨he, hb⟩ => ⟨he, h.call hb⟩) ?_
      simp only [Act.put, List.setIfInBounds_toArray, List.set_cons_zero, List.set_cons_succ]
      refine quiet_value (v := .pointer (some ⟨g, 0, none⟩)) rfl (fun _ _ => rfl) ?_
      simp only [Act.put, List.setIfInBounds_toArray, List.set_cons_zero, List.set_cons_succ]
      refine quiet_value (v := .int .i64 1) rfl (fun _ _ => rfl) ?_
      simp only [Act.put, List.setIfInBounds_toArray, List.set_cons_zero, List.set_cons_succ]
      refine quiet_value (v := .int .i64 0) rfl (fun _ _ => (by go_simp)) ?_
      simp only [Act.put, List.setIfInBounds_toArray, List.set_cons_zero, List.set_cons_succ]
      refine quiet_value (v := .pointer (some ⟨g, 0, none⟩)) rfl (fun _ _ => (by go_simp)) ?_
      simp only [Act.put, List.setIfInBounds_toArray, List.set_cons_zero, List.set_cons_succ]
      refine quiet_value (v := .pointer (some ⟨g, 6, none⟩)) rfl (fun _ _ => (by go_simp)) ?_
      simp only [Act.put, List.setIfInBounds_toArray, List.set_cons_zero, List.set_cons_succ]
      refine quiet_value (v := .pointer (some ⟨g, 6, none⟩)) rfl (fun _ _ => (by go_simp)) ?_
      simp only [Act.put, List.setIfInBounds_toArray, List.set_cons_zero, List.set_cons_succ]
      refine quiet_value (v := .pointer lp) rfl (fun W h => (by have u0 := cell_below h.out _ _ _ e6; go_simp)) ?_
      simp only [Act.put, List.setIfInBounds_toArray, List.set_cons_zero, List.set_cons_succ]
      refine quiet_call (v := .int .i64 x) rfl (fun W => (by go_simp)) (fun W h => (HTL0.out W (hB.out.trans (h.out.mono hB.out.size))).mono fun e w' ⟨he, hb⟩ => ⟨he, h.call hb⟩) ?_
      simp only [Act.put, List.setIfInBounds_toArray, List.set_cons_zero, List.set_cons_succ]
      refine quiet_value (v := .int .i64 (x + 1)) rfl (fun _ _ => (by go_simp)) ?_
      simp only [Act.put, List.setIfInBounds_toArray, List.set_cons_zero, List.set_cons_succ]
      refine quiet_value (v := .bool true) rfl (fun _ _ => (by go_simp)) ?_
      simp only [Act.put, List.setIfInBounds_toArray, List.set_cons_zero, List.set_cons_succ]
      refine quiet_nil ?_
      intro w2 hw2
      have HB2 := Hid.mk (hB.out.trans (hw2.out.mono hB.out.size))
      clear hw2 e6 e7
      go_wp2
      go_roundw
      case rel => exact ⟨Or.inr (Or.inr (by first | rfl | go_num)), HB2⟩
      case measure => simp [intOf]
    · go_wp2_with (go_at_call 87; refine (HME.out wr hB.out).mono ?_; rintro en w4 ⟨⟨un, rfl⟩, m1, m2⟩; have H4 := Hid.mk (And.intro m1 m2); clear m1 m2)
      refine bodyPost_end (results_none rfl _ _ _) rfl ⟨⟨_, rfl⟩, ?_⟩
      obtain ⟨hB0, kl, kr, hn⟩ := HK.out
      simp only [Bt.blocks, List.nodup_cons, List.mem_cons, List.mem_append, not_or] at hn
      refine ⟨H4.out.2.box ((hB.out.block B (Array.getElem?_eq_some_iff.1 hB0).1).trans hB0) hn.1.1, ⟨H4.out.1, (kl.up hB.out).kept H4.out.2 (fun k hk e0 => hn.2.1.1 (e0 ▸ hk)), (kr.up hB.out).kept H4.out.2 (fun k hk e0 => hn.2.1.2 (e0 ▸ hk))⟩, (Only.up hB.out).trans H4.out.2 (fun k hk => Or.inl (Or.inr (by simp [Bt.blocks, hk])))⟩
theorem levelB_any (B o : Nat) (cs : Array Value) (ty : TypeId) (t : Bt) (w : World) (hB : w.heap[B]? = some (.cells cs ty)) (hc : cs[o]? = some (ptrB t)) (hl : LayB w t) (hn : (B :: t.blocks).Nodup) (hr : t.Ready) (hz : t.list.length ≤ 800000) :
    Calls Tryd.prog 74 #[.pointer (some ⟨B, o, none⟩)] w fun en w' => (∃ u, en = .returned u) ∧ w'.heap[B]? = some (.cells (cs.setIfInBounds o (ptrB t.lvl)) ty) ∧ LayB w' t.lvl ∧ Only (fun k => k = B ∨ k ∈ t.blocks) w w' := by
  cases t with
  | nil =>
    have hcs : cs.setIfInBounds o (ptrB .nil) = cs := arr_same hc
    show Calls _ _ _ _ fun en w' => (∃ u, en = .returned u) ∧ w'.heap[B]? = some (.cells (cs.setIfInBounds o (ptrB .nil)) ty) ∧ True ∧ _
    rw [hcs]
    have hc2 : cs[o]? = some (.pointer none) := hc
    have c0 : w.cell? ⟨B, o, none⟩ = some (.pointer none) := by simpa [World.cell?, hB] using hc2
    have HB := Hid.mk hB
    clear hB hc hc2 hl hn hr hz hcs
    go_enter Tryd.func74, Tryd.ntmps74
    go_wp2
    refine bodyPost_ret (results_none rfl _ _ _) rfl ⟨⟨_, rfl⟩, HB.out, trivial, Only.refl _ _⟩
  | node g e h l r =>
    by_cases h1 : r.ht + 1 < l.ht
    · cases l with
      | nil => have := hr.2.1.pos; rw [ht_nil] at h1; omega
      | node g' e' h' a b => exact levelB_R B o cs ty g g' e e' h h' a b r w hB hc hl hn hr hz h1
    · by_cases h2 : l.ht + 1 < r.ht
      · cases r with
        | nil => have := hr.1.pos; rw [ht_nil] at h2; omega
        | node g' e' h' a b => exact levelB_L B o cs ty g g' e e' h h' a b l w hB hc hl hn hr hz h2
      · exact levelB_M B o cs ty g e h l r w hB hc hl hn hr hz h1 h2
end Go.Proofs.YteklhipcojioaaaDoor
