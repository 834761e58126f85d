/-
  The program's tree in memory; how high a part of it is, measured anew.
-/
import Derived.Test.YteklhipcojioaaaDoorZTreeBt
import Derived.Test.YteklhipcojioaaaDoorZKitLast
import Derived.Test.YteklhipcojioaaaDoorZRegionUp
namespace Go.Proofs.YteklhipcojioaaaDoor
open Go.RowKit Go.Deep Go.Maps Go.WideShapes

def ptrB : Bt → Value
  | .nil => .pointer none
  | .node g _ _ _ _ => .pointer (some ⟨g, 0, none⟩)
/-- A node's cells. -/
def cellsB (e : Ky) (h : Int) (u v : Value) : Array Value := #[.int .i64 e.h.k, .int .i64 e.h.n, .string e.h.s, .slice e.h.a e.h.m e.h.c, .int .i64 e.h.num, .int .i64 h, u, v]
/-- A tree lies in its blocks. -/
def LayB (w : World) : Bt → Prop
  | .nil => True
  | .node g e h l r => w.heap[g]? = some (.cells (cellsB e h (ptrB l) (ptrB r)) 82) ∧ LayB w l ∧ LayB w r
theorem LayB.lt {w : World} {t : Bt} (h : LayB w t) : ∀ k ∈ t.blocks, k < w.heap.size := by
  induction t with
  | nil => intro k hk; cases hk
  | node g e x l r il ir =>
    obtain ⟨h1, h2, h3⟩ := h
    intro k hk
    simp only [Bt.blocks, List.mem_cons, List.mem_append] at hk
    rcases hk with rfl | hk | hk
    · exact (Array.getElem?_eq_some_iff.1 h1).1
    · exact il h2 k hk
    · exact ir h3 k hk
theorem LayB.same {w w' : World} {t : Bt} (h : LayB w t) (hw : ∀ k ∈ t.blocks, w'.heap[k]? = w.heap[k]?) : LayB w' t := by
  induction t with
  | nil => trivial
  | node g e x l r il ir =>
    obtain ⟨h1, h2, h3⟩ := h
    exact ⟨(hw g (by simp [Bt.blocks])).trans h1, il h2 fun k hk => hw k (by simp [Bt.blocks, hk]), ir h3 fun k hk => hw k (by simp [Bt.blocks, hk])⟩
theorem LayB.kept {w w' : World} {t : Bt} {S : Nat → Prop} (h : LayB w t) (ho : Only S w w') (hS : ∀ k ∈ t.blocks, ¬ S k) : LayB w' t := h.same fun k hk => ho.block k (h.lt k hk) (hS k hk)
theorem LayB.up {w w' : World} {t : Bt} (h : LayB w t) (hb : Below w.heap.size w w') : LayB w' t := h.kept (S := fun _ => False) (Only.up hb) (fun _ _ f => f)

theorem tallB_any (t : Bt) (w : World) (h : LayB w t) : Calls Tryd.prog 48 #[ptrB t] w fun e w' => e = .returned (.int .i64 t.ht) ∧ w' = w := by
  cases t with
  | nil =>
    show Calls _ _ #[.pointer none] _ _
    clear h
    go_enter Tryd.func48, Tryd.ntmps48
    go_wp2
    go_ret
    exact ⟨rfl, rfl⟩
  | node g e x l r =>
    show Calls _ _ #[.pointer (some ⟨g, 0, none⟩)] _ _
    have h5 : w.cell? ⟨g, 5, none⟩ = some (.int .i64 x) := by simp [World.cell?, h.1, cellsB]
    clear h
    go_enter Tryd.func48, Tryd.ntmps48
    go_wp2
    go_ret
    exact ⟨rfl, rfl⟩
/-- A value that is the pointer to a tree, as a walk has it. -/
theorem tallV_any (t : Bt) (v : Value) (w : World) (h : LayB w t) (hv : ptrB t = v) : Calls Tryd.prog 48 #[v] w fun e w' => e = .returned (.int .i64 t.ht) ∧ Below w.heap.size w w' := by
  subst hv
  exact (tallB_any t w h).mono fun e w' ⟨h1, h2⟩ => ⟨h1, by rw [h2]; exact Below.refl _ _⟩
set_option maxHeartbeats 4000000 in
set_option maxRecDepth 100000 in
theorem measureB_any (g : Nat) (e : Ky) (h : Int) (l r : Bt) (w : World) (hg : w.heap[g]? = some (.cells (cellsB e h (ptrB l) (ptrB r)) 82)) (hl : LayB w l) (hr : LayB w r) (h0 : 0 ≤ l.ht ∧ l.ht ≤ 1000000) (h1 : 0 ≤ r.ht ∧ r.ht ≤ 1000000) :
    Calls Tryd.prog 87 #[.pointer (some ⟨g, 0, none⟩)] w fun en w' => (∃ u, en = .returned u) ∧ w'.heap[g]? = some (.cells (cellsB e (1 + max l.ht r.ht) (ptrB l) (ptrB r)) 82) ∧ Only (fun k => k = g) w w' := by
  obtain ⟨lv, hlv⟩ : ∃ lv, ptrB l = lv := ⟨_, rfl⟩
  obtain ⟨rv, hrv⟩ : ∃ rv, ptrB r = rv := ⟨_, rfl⟩
  rw [hlv, hrv] at hg ⊢
  have c6 : w.cell? ⟨g, 6, none⟩ = some lv := by simp [World.cell?, hg, cellsB]
  have c7 : w.cell? ⟨g, 7, none⟩ = some rv := by simp [World.cell?, hg, cellsB]
  have c5 : w.cell? ⟨g, 5, none⟩ = some (.int .i64 h) := by simp [World.cell?, hg, cellsB]
  have f5 : w.frozen? ⟨g, 5, none⟩ = false := by simp [World.frozen?, hg]
  have HL := Hid.mk (fun (W : World) (hW : Below w.heap.size w W) => tallV_any l lv W (hl.up hW) hlv)
  have HR := Hid.mk (fun (W : World) (hW : Below w.heap.size w W) => tallV_any r rv W (hr.up hW) hrv)
  obtain ⟨a, ha⟩ : ∃ a, l.ht = a := ⟨_, rfl⟩
  obtain ⟨b, hb⟩ : ∃ b, r.ht = b := ⟨_, rfl⟩
  rw [ha] at HL h0 ⊢
  rw [hb] at HR h1 ⊢
  obtain ⟨m, hm⟩ : ∃ m, max a b = m := ⟨_, rfl⟩
  have hwm : IntKind.i64.wrap (1 + m) = 1 + m := wrap_id (by omega) (by omega)
  have HG := Hid.mk hg
  rw [hm]
  have HM := Hid.mk (And.intro hm hwm)
  clear hl hr hlv hrv ha hb h0 h1 hg hm hwm
  go_enter Tryd.func87, Tryd.ntmps87
  go_upto_region 0 with fail
  refine wp_region_last (last := 17) (S := Up w) (by kernel_rfl) ?_
  refine last_take (i := 0) (d := 2) (v := .pointer (some ⟨g, 0, none⟩)) rfl rfl (by kernel_rfl) (by kernel_rfl) (by kernel_rfl) (by kernel_rfl) rfl (fun _ _ => rfl) (fun _ _ _ h => h) (Up.refl w).drew ?_
  simp only [Act.put, List.setIfInBounds_toArray, List.set_cons_zero, List.set_cons_succ]
  refine last_take (i := 1) (d := 3) (v := .pointer (some ⟨g, 0, none⟩)) rfl rfl (by kernel_rfl) (by kernel_rfl) (by kernel_rfl) (by kernel_rfl) rfl (fun _ _ => rfl) (fun _ _ _ h => h) (Up.refl w).drew ?_
  simp only [Act.put, List.setIfInBounds_toArray, List.set_cons_zero, List.set_cons_succ]
  refine last_take (i := 2) (d := 4) (v := .pointer (some ⟨g, 0, none⟩)) rfl rfl (by kernel_rfl) (by kernel_rfl) (by kernel_rfl) (by kernel_rfl) rfl (fun _ _ => (by go_simp)) (fun _ _ _ h => h) (Up.refl w).drew ?_
  simp only [Act.put, List.setIfInBounds_toArray, List.set_cons_zero, List.set_cons_succ]
  refine last_take (i := 3) (d := 5) (v := .pointer (some ⟨g, 6, none⟩)) rfl rfl (by kernel_rfl) (by kernel_rfl) (by kernel_rfl) (by kernel_rfl) rfl (fun _ _ => (by go_simp)) (fun _ _ _ h => h) (Up.refl w).drew ?_
  simp only [Act.put, List.setIfInBounds_toArray, List.set_cons_zero, List.set_cons_succ]
  refine last_take (i := 4) (d := 6) (v := .pointer (some ⟨g, 6, none⟩)) rfl rfl (by kernel_rfl) (by kernel_rfl) (by kernel_rfl) (by kernel_rfl) rfl (fun _ _ => (by go_simp)) (fun _ _ _ h => h) (Up.refl w).drew ?_
  simp only [Act.put, List.setIfInBounds_toArray, List.set_cons_zero, List.set_cons_succ]
  refine last_take (i := 5) (d := 7) (v := lv) rfl rfl (by kernel_rfl) (by kernel_rfl) (by kernel_rfl) (by kernel_rfl) rfl (fun W h => (by have u0 := cell_below h.out _ _ _ c6; go_simp)) (fun _ _ _ h => h) (Up.refl w).drew ?_
  simp only [Act.put, List.setIfInBounds_toArray, List.set_cons_zero, List.set_cons_succ]
  refine last_take (i := 7) (d := 9) (v := .pointer (some ⟨g, 0, none⟩)) rfl rfl (by kernel_rfl) (by kernel_rfl) (by kernel_rfl) (by kernel_rfl) rfl (fun _ _ => rfl) (fun _ _ _ h => h) (Up.refl w).drew ?_
  simp only [Act.put, List.setIfInBounds_toArray, List.set_cons_zero, List.set_cons_succ]
  refine last_take (i := 8) (d := 10) (v := .pointer (some ⟨g, 0, none⟩)) rfl rfl (by kernel_rfl) (by kernel_rfl) (by kernel_rfl) (by kernel_rfl) rfl (fun _ _ => (by go_simp)) (fun _ _ _ h => h) (Up.refl w).drew ?_
  simp only [Act.put, List.setIfInBounds_toArray, List.set_cons_zero, List.set_cons_succ]
  refine last_take (i := 9) (d := 11) (v := .pointer (some ⟨g, 6, none⟩)) rfl rfl (by kernel_rfl) (by kernel_rfl) (by kernel_rfl) (by kernel_rfl) rfl (fun _ _ => (by go_simp)) (fun _ _ _ h => h) (Up.refl w).drew ?_
  simp only [Act.put, List.setIfInBounds_toArray, List.set_cons_zero, List.set_cons_succ]
  refine last_take (i := 10) (d := 12) (v := .pointer (some ⟨g, 7, none⟩)) rfl rfl (by kernel_rfl) (by kernel_rfl) (by kernel_rfl) (by kernel_rfl) rfl (fun _ _ => (by go_simp)) (fun _ _ _ h => h) (Up.refl w).drew ?_
  simp only [Act.put, List.setIfInBounds_toArray, List.set_cons_zero, List.set_cons_succ]
  refine last_take (i := 11) (d := 13) (v := rv) rfl rfl (by kernel_rfl) (by kernel_rfl) (by kernel_rfl) (by kernel_rfl) rfl (fun W h => (by have u0 := cell_below h.out _ _ _ c7; go_simp)) (fun _ _ _ h => h) (Up.refl w).drew ?_
  simp only [Act.put, List.setIfInBounds_toArray, List.set_cons_zero, List.set_cons_succ]
  refine last_call (i := 6) (d := 8) (f := 48) (args := #[lv]) (by kernel_rfl) rfl rfl rfl (by go_simp) ?_
  refine (HL.out _ (Up.refl w).drew.out).mono ?_
  rintro e w2 ⟨rfl, hb2⟩
  refine ⟨.int .i64 a, rfl, (Up.refl w).drew.call hb2, ?_⟩
  simp only [Act.put, List.setIfInBounds_toArray, List.set_cons_zero, List.set_cons_succ]
  refine last_call (i := 12) (d := 14) (f := 48) (args := #[rv]) (by kernel_rfl) rfl rfl rfl (by go_simp) ?_
  refine (HR.out _ ((Up.refl w).drew.call hb2).out).mono ?_
  rintro e w3 ⟨rfl, hb3⟩
  refine ⟨.int .i64 b, rfl, ((Up.refl w).drew.call hb2).call hb3, ?_⟩
  simp only [Act.put, List.setIfInBounds_toArray, List.set_cons_zero, List.set_cons_succ]
  have hu3 : Up w w3 := ((Up.refl w).drew.call hb2).call hb3
  obtain ⟨hm, hwm⟩ := HM.out
  have d5 := cell_below hu3.out _ _ _ c5
  have z5 : w3.frozen? ⟨g, 5, none⟩ = false := by rw [(bcell hu3.out).2 _ _ (World.block_lt_of_cell? w _ c5)]; exact f5
  refine last_take (i := 13) (d := 15) (v := .int .i64 m) rfl rfl (by kernel_rfl) (by kernel_rfl) (by kernel_rfl) (by kernel_rfl) rfl (fun _ _ => (by go_simp)) (fun _ _ _ h => h) hu3 ?_
  simp only [Act.put, List.setIfInBounds_toArray, List.set_cons_zero, List.set_cons_succ]
  refine last_take (i := 14) (d := 16) (v := .int .i64 (1 + m)) rfl rfl (by kernel_rfl) (by kernel_rfl) (by kernel_rfl) (by kernel_rfl) rfl (fun _ _ => (by go_simp)) (fun _ _ _ h => h) hu3 ?_
  simp only [Act.put, List.setIfInBounds_toArray, List.set_cons_zero, List.set_cons_succ]
  refine last_value (i := 15) (d := 17) (v := .pointer (some ⟨g, 0, none⟩)) (w' := w3) (by kernel_rfl) rfl rfl rfl (by go_simp) (hu3) ?_
  simp only [Act.put, List.setIfInBounds_toArray, List.set_cons_zero, List.set_cons_succ]
  refine last_take (i := 16) (d := 18) (v := .pointer (some ⟨g, 5, none⟩)) rfl rfl (by kernel_rfl) (by kernel_rfl) (by kernel_rfl) (by kernel_rfl) rfl (fun _ _ => (by go_simp)) (fun _ _ _ h => h) hu3 ?_
  simp only [Act.put, List.setIfInBounds_toArray, List.set_cons_zero, List.set_cons_succ]
  refine last_store (w' := w3.setCell ⟨g, 5, none⟩ (.int .i64 (1 + m))) (by kernel_rfl) rfl rfl rfl (by go_simp) (by kernel_rfl) ?_
  have HP := Hid.mk (show (w3.setCell ⟨g, 5, none⟩ (.int .i64 (1 + m))).heap[g]? = some (.cells (cellsB e (1 + m) lv rv) 82) ∧ Only (fun k => k = g) w (w3.setCell ⟨g, 5, none⟩ (.int .i64 (1 + m))) from
    ⟨put_box ((hu3.out.block g (World.block_lt_of_cell? w _ c5)).trans HG.out) 5 _, Only.put (S := fun k => k = g) (Only.up hu3.out) rfl 5 _⟩)
  clear d5 z5 c5 c6 c7 f5 hm hwm hu3 hb2 hb3
  go_wp2
  exact bodyPost_end (results_none rfl _ _ _) rfl ⟨⟨_, rfl⟩, HP.out⟩
end Go.Proofs.YteklhipcojioaaaDoor

/-
  A node turned up.
-/
namespace Go.Proofs.YteklhipcojioaaaDoor
open Go.RowKit Go.Deep Go.Maps Go.WideShapes

theorem ptrB_is (t : Bt) : ∃ a, ptrB t = .pointer a := by
  cases t with
  | nil => exact ⟨_, rfl⟩
  | node g e h l r => exact ⟨_, rfl⟩
set_option maxHeartbeats 4000000 in
set_option maxRecDepth 100000 in
theorem turnR_any (B o : Nat) (cs : Array Value) (ty : TypeId) (g g' : Nat) (e e' : Ky) (h h' : Int) (a b r : Bt) (w : World) (hB : w.heap[B]? = some (.cells cs ty)) (hc : cs[o]? = some (.pointer (some ⟨g, 0, none⟩))) (hl : LayB w (.node g e h (.node g' e' h' a b) r)) (hn : (B :: (Bt.node g e h (.node g' e' h' a b) r).blocks).Nodup)
    (h0 : 0 ≤ a.ht ∧ a.ht ≤ 900000) (h1 : 0 ≤ b.ht ∧ b.ht ≤ 900000) (h2 : 0 ≤ r.ht ∧ r.ht ≤ 900000) :
    Calls Tryd.prog 86 #[.pointer (some ⟨B, o, none⟩), .int .i64 0] w fun en w' => (∃ u, en = .returned u) ∧ w'.heap[B]? = some (.cells (cs.setIfInBounds o (.pointer (some ⟨g', 0, none⟩))) ty) ∧ LayB w' (mkB g' e' a (mkB g e b r)) ∧ Only (fun k => k = B ∨ k = g ∨ k = g') w w' := by
  obtain ⟨k1, ⟨k2, ka, kb⟩, kr⟩ := hl
  have hgg : ptrB (.node g' e' h' a b) = .pointer (some ⟨g', 0, none⟩) := rfl
  rw [hgg] at k1
  simp only [Bt.blocks, List.nodup_cons, List.mem_cons, List.mem_append, not_or] at hn
  obtain ⟨⟨nBg, ⟨nBg', nBa, nBb⟩, nBr⟩, ⟨⟨ngg', nga, ngb⟩, ngr⟩, hnn⟩ := hn
  have ng'all : g' ∉ a.blocks ∧ g' ∉ b.blocks ∧ g' ∉ r.blocks := by
    simp only [List.nodup_append, List.nodup_cons, List.mem_append, List.mem_cons, not_or] at hnn
    exact ⟨hnn.1.1.1, hnn.1.1.2, fun hk => hnn.2.2 g' (Or.inl rfl) g' hk rfl⟩
  have HNA := Hid.mk ng'all
  have HNN := Hid.mk (show (∀ k ∈ a.blocks, ¬ (k = B ∨ k = g ∨ k = g')) ∧ (∀ k ∈ b.blocks, ¬ (k = B ∨ k = g ∨ k = g')) ∧ (∀ k ∈ r.blocks, ¬ (k = B ∨ k = g ∨ k = g')) from
    ⟨fun k hk e => by rcases e with rfl | rfl | rfl; exact nBa hk; exact nga hk; exact ng'all.1 hk, fun k hk e => by rcases e with rfl | rfl | rfl; exact nBb hk; exact ngb hk; exact ng'all.2.1 hk, fun k hk e => by rcases e with rfl | rfl | rfl; exact nBr hk; exact ngr hk; exact ng'all.2.2 hk⟩)
  have HKS := Hid.mk (And.intro ka (And.intro kb kr))
  have HH := Hid.mk (And.intro h0 (And.intro h1 h2))
  obtain ⟨lv, hlv⟩ := ptrB_is a
  obtain ⟨mv, hmv⟩ := ptrB_is b
  obtain ⟨rv, hrv⟩ := ptrB_is r
  have hw1 : IntKind.i64.wrap 1 = 1 := wrap_id (by decide) (by decide)
  have HV := Hid.mk (And.intro hlv (And.intro hmv hrv))
  rw [hrv] at k1
  rw [hlv, hmv] at k2
  have c0 : w.cell? ⟨B, o, none⟩ = some (.pointer (some ⟨g, 0, none⟩)) := by simpa [World.cell?, hB] using hc
  have c6 : w.cell? ⟨g, 6, none⟩ = some (.pointer (some ⟨g', 0, none⟩)) := by simp [World.cell?, k1, cellsB]
  have d7 : w.cell? ⟨g', 7, none⟩ = some (.pointer mv) := by simp [World.cell?, k2, cellsB]
  have HBX := Hid.mk (And.intro hB (And.intro k1 k2))
  have HNE := Hid.mk (And.intro nBg (And.intro nBg' ngg'))
  clear hB k1 k2 ka kb kr nBg nBg' ngg' nBa nBb nBr nga ngb ngr ng'all hlv hmv hrv h0 h1 h2 hgg hnn
  go_enter Tryd.func86, Tryd.ntmps86
  go_upto_region 0 with fail
  refine region_up (W := w) (by kernel_rfl) (by kernel_rfl) (Up.refl _) ?_
  refine quiet_value (v := .pointer (some ⟨B, o, none⟩)) rfl (fun _ _ => rfl) ?_
  simp only [Act.put, List.setIfInBounds_toArray, List.set_cons_zero, List.set_cons_succ]
  refine quiet_value (v := .pointer (some ⟨B, o, none⟩)) rfl (fun _ _ => (by go_simp)) ?_
  simp only [Act.put, List.setIfInBounds_toArray, List.set_cons_zero, List.set_cons_succ]
  refine quiet_value (v := .pointer (some ⟨g, 0, none⟩)) rfl (fun W h => (by have u0 := cell_below h.out _ _ _ c0; go_simp)) ?_
  simp only [Act.put, List.setIfInBounds_toArray, List.set_cons_zero, List.set_cons_succ]
  refine quiet_value (v := .pointer (some ⟨B, o, none⟩)) rfl (fun _ _ => rfl) ?_
  simp only [Act.put, List.setIfInBounds_toArray, List.set_cons_zero, List.set_cons_succ]
  refine quiet_value (v := .pointer (some ⟨B, o, none⟩)) rfl (fun _ _ => (by go_simp)) ?_
  simp only [Act.put, List.setIfInBounds_toArray, List.set_cons_zero, List.set_cons_succ]
  refine quiet_value (v := .pointer (some ⟨g, 0, none⟩)) rfl (fun W h => (by have u0 := cell_below h.out _ _ _ c0; go_simp)) ?_
  simp only [Act.put, List.setIfInBounds_toArray, List.set_cons_zero, List.set_cons_succ]
  refine quiet_value (v := .int .i64 0) rfl (fun _ _ => rfl) ?_
  simp only [Act.put, List.setIfInBounds_toArray, List.set_cons_zero, List.set_cons_succ]
  refine quiet_value (v := .pointer (some ⟨g, 0, none⟩)) rfl (fun _ _ => (by go_simp)) ?_
  simp only [Act.put, List.setIfInBounds_toArray, List.set_cons_zero, List.set_cons_succ]
  refine quiet_value (v := .pointer (some ⟨g, 6, none⟩)) rfl (fun _ _ => (by go_simp)) ?_
  simp only [Act.put, List.setIfInBounds_toArray, List.set_cons_zero, List.set_cons_succ]
  refine quiet_value (v := .pointer (some ⟨g, 6, none⟩)) rfl (fun _ _ => (by go_simp)) ?_
  simp only [Act.put, List.setIfInBounds_toArray, List.set_cons_zero, List.set_cons_succ]
  refine quiet_value (v := .pointer (some ⟨g', 0, none⟩)) rfl (fun W h => (by have u0 := cell_below h.out _ _ _ c6; go_simp)) ?_
  simp only [Act.put, List.setIfInBounds_toArray, List.set_cons_zero, List.set_cons_succ]
  refine quiet_value (v := .pointer (some ⟨g, 0, none⟩)) rfl (fun _ _ => rfl) ?_
  simp only [Act.put, List.setIfInBounds_toArray, List.set_cons_zero, List.set_cons_succ]
  refine quiet_value (v := .pointer (some ⟨g', 0, none⟩)) rfl (fun _ _ => rfl) ?_
  simp only [Act.put, List.setIfInBounds_toArray, List.set_cons_zero, List.set_cons_succ]
  refine quiet_nil ?_
  intro w2 hw2
  have HU := Hid.mk hw2.out
  replace d7 := cell_below hw2.out _ _ _ d7
  clear c0 c6
  go_upto_region 1 with fail
  obtain ⟨W2, hW2⟩ : ∃ W2, ({ w2 with drawn := w2.drawn + 1 } : World) = W2 := ⟨_, rfl⟩
  have u2 : Below w.heap.size w W2 := by rw [← hW2]; exact hw2.out.trans ((Up.refl w2).drew.out.mono hw2.out.size)
  have o2 : Only (fun k => k = B ∨ k = g ∨ k = g') w W2 := Only.up u2
  have x0 := (u2.block B (Array.getElem?_eq_some_iff.1 HBX.out.1).1).trans HBX.out.1
  have x1 := (u2.block g (Array.getElem?_eq_some_iff.1 HBX.out.2.1).1).trans HBX.out.2.1
  have x2 := (u2.block g' (Array.getElem?_eq_some_iff.1 HBX.out.2.2).1).trans HBX.out.2.2
  have e7 : W2.cell? ⟨g', 7, none⟩ = some (.pointer mv) := by rw [← hW2]; exact d7
  have s0 : W2.cell? ⟨B, o, none⟩ = some (.pointer (some ⟨g, 0, none⟩)) := by simpa [World.cell?, x0] using hc
  have z0 : W2.frozen? ⟨B, o, none⟩ = false := by simp [World.frozen?, x0]
  obtain ⟨W3, hW3⟩ : ∃ W3, W2.setCell ⟨B, o, none⟩ (.pointer (some ⟨g', 0, none⟩)) = W3 := ⟨_, rfl⟩
  have o3 : Only (fun k => k = B) W2 W3 := by rw [← hW3]; exact Only.set _ _ rfl
  have y0 : W3.heap[B]? = some (.cells (cs.setIfInBounds o (.pointer (some ⟨g', 0, none⟩))) ty) := by rw [← hW3]; exact put_box x0 o _
  have y1 := o3.box x1 (fun e => HNE.out.1 e.symm)
  have y2 := o3.box x2 (fun e => HNE.out.2.1 e.symm)
  have s1 : W3.cell? ⟨g, 6, none⟩ = some (.pointer (some ⟨g', 0, none⟩)) := by simp [World.cell?, y1, cellsB]
  have z1 : W3.frozen? ⟨g, 6, none⟩ = false := by simp [World.frozen?, y1]
  obtain ⟨W4, hW4⟩ : ∃ W4, W3.setCell ⟨g, 6, none⟩ (.pointer mv) = W4 := ⟨_, rfl⟩
  have o4 : Only (fun k => k = g) W3 W4 := by rw [← hW4]; exact Only.set _ _ rfl
  have v0 := o4.box y0 HNE.out.1
  have v1 : W4.heap[g]? = some (.cells (cellsB e h (.pointer mv) (.pointer rv)) 82) := by rw [← hW4]; exact put_box y1 6 _
  have v2 := o4.box y2 (fun e => HNE.out.2.2 e.symm)
  have s2 : W4.cell? ⟨g', 7, none⟩ = some (.pointer mv) := by simp [World.cell?, v2, cellsB]
  have z2 : W4.frozen? ⟨g', 7, none⟩ = false := by simp [World.frozen?, v2]
  obtain ⟨W5, hW5⟩ : ∃ W5, W4.setCell ⟨g', 7, none⟩ (.pointer (some ⟨g, 0, none⟩)) = W5 := ⟨_, rfl⟩
  have o5 : Only (fun k => k = g') W4 W5 := by rw [← hW5]; exact Only.set _ _ rfl
  have t0 := o5.box v0 HNE.out.2.1
  have t1 := o5.box v1 HNE.out.2.2
  have t2 : W5.heap[g']? = some (.cells (cellsB e' h' (.pointer lv) (.pointer (some ⟨g, 0, none⟩))) 82) := by rw [← hW5]; exact put_box v2 7 _
  have q5 : Only (fun k => k = B ∨ k = g ∨ k = g') w W5 := ((o2.trans o3 (fun i hi => Or.inl (Or.inl hi))).trans o4 (fun i hi => Or.inl (Or.inr (Or.inl hi)))).trans o5 (fun i hi => Or.inl (Or.inr (Or.inr hi)))
  have HT := Hid.mk (And.intro t0 (And.intro t1 (And.intro t2 q5)))
  clear hw2 u2 o2 o3 o4 o5 x0 x1 x2 y0 y1 y2 v0 v1 v2 t0 t1 t2 q5
  refine wp_region_held (S := fun _ => True) (by kernel_rfl) ?_
  refine chain_take (i := 0) (d := 17) (v := .pointer (some ⟨B, o, none⟩)) rfl rfl (by kernel_rfl) (by kernel_rfl) (by kernel_rfl) rfl (fun _ _ => rfl) (fun _ _ _ h => h) trivial ?_
  simp only [Act.put, List.setIfInBounds_toArray, List.set_cons_zero, List.set_cons_succ]
  refine chain_take (i := 1) (d := 18) (v := .pointer (some ⟨g, 0, none⟩)) rfl rfl (by kernel_rfl) (by kernel_rfl) (by kernel_rfl) rfl (fun _ _ => rfl) (fun _ _ _ h => h) trivial ?_
  simp only [Act.put, List.setIfInBounds_toArray, List.set_cons_zero, List.set_cons_succ]
  refine chain_take (i := 2) (d := 19) (v := .int .i64 0) rfl rfl (by kernel_rfl) (by kernel_rfl) (by kernel_rfl) rfl (fun _ _ => rfl) (fun _ _ _ h => h) trivial ?_
  simp only [Act.put, List.setIfInBounds_toArray, List.set_cons_zero, List.set_cons_succ]
  refine chain_take (i := 3) (d := 20) (v := .pointer (some ⟨g', 0, none⟩)) rfl rfl (by kernel_rfl) (by kernel_rfl) (by kernel_rfl) rfl (fun _ _ => rfl) (fun _ _ _ h => h) trivial ?_
  simp only [Act.put, List.setIfInBounds_toArray, List.set_cons_zero, List.set_cons_succ]
  refine chain_take (i := 4) (d := 21) (v := .int .i64 0) rfl rfl (by kernel_rfl) (by kernel_rfl) (by kernel_rfl) rfl (fun _ _ => rfl) (fun _ _ _ h => h) trivial ?_
  simp only [Act.put, List.setIfInBounds_toArray, List.set_cons_zero, List.set_cons_succ]
  refine chain_take (i := 5) (d := 22) (v := .int .i64 1) rfl rfl (by kernel_rfl) (by kernel_rfl) (by kernel_rfl) rfl (fun _ _ => (by go_simp)) (fun _ _ _ h => h) trivial ?_
  simp only [Act.put, List.setIfInBounds_toArray, List.set_cons_zero, List.set_cons_succ]
  refine chain_take (i := 6) (d := 23) (v := .pointer (some ⟨g', 0, none⟩)) rfl rfl (by kernel_rfl) (by kernel_rfl) (by kernel_rfl) rfl (fun _ _ => rfl) (fun _ _ _ h => h) trivial ?_
  simp only [Act.put, List.setIfInBounds_toArray, List.set_cons_zero, List.set_cons_succ]
  refine chain_take (i := 7) (d := 24) (v := .pointer (some ⟨g', 0, none⟩)) rfl rfl (by kernel_rfl) (by kernel_rfl) (by kernel_rfl) rfl (fun _ _ => rfl) (fun _ _ _ h => h) trivial ?_
  simp only [Act.put, List.setIfInBounds_toArray, List.set_cons_zero, List.set_cons_succ]
  refine chain_take (i := 8) (d := 25) (v := .int .i64 0) rfl rfl (by kernel_rfl) (by kernel_rfl) (by kernel_rfl) rfl (fun _ _ => rfl) (fun _ _ _ h => h) trivial ?_
  simp only [Act.put, List.setIfInBounds_toArray, List.set_cons_zero, List.set_cons_succ]
  refine chain_take (i := 9) (d := 26) (v := .int .i64 1) rfl rfl (by kernel_rfl) (by kernel_rfl) (by kernel_rfl) rfl (fun _ _ => (by go_simp)) (fun _ _ _ h => h) trivial ?_
  simp only [Act.put, List.setIfInBounds_toArray, List.set_cons_zero, List.set_cons_succ]
  refine chain_take (i := 10) (d := 27) (v := .pointer (some ⟨g', 0, none⟩)) rfl rfl (by kernel_rfl) (by kernel_rfl) (by kernel_rfl) rfl (fun _ _ => (by go_simp)) (fun _ _ _ h => h) trivial ?_
  simp only [Act.put, List.setIfInBounds_toArray, List.set_cons_zero, List.set_cons_succ]
  refine chain_take (i := 11) (d := 28) (v := .pointer (some ⟨g', 6, none⟩)) rfl rfl (by kernel_rfl) (by kernel_rfl) (by kernel_rfl) rfl (fun _ _ => (by go_simp)) (fun _ _ _ h => h) trivial ?_
  simp only [Act.put, List.setIfInBounds_toArray, List.set_cons_zero, List.set_cons_succ]
  refine chain_take (i := 12) (d := 29) (v := .pointer (some ⟨g', 7, none⟩)) rfl rfl (by kernel_rfl) (by kernel_rfl) (by kernel_rfl) rfl (fun _ _ => (by go_simp)) (fun _ _ _ h => h) trivial ?_
  simp only [Act.put, List.setIfInBounds_toArray, List.set_cons_zero, List.set_cons_succ]
  refine chain_take (i := 14) (d := 31) (v := .pointer (some ⟨g, 0, none⟩)) rfl rfl (by kernel_rfl) (by kernel_rfl) (by kernel_rfl) rfl (fun _ _ => rfl) (fun _ _ _ h => h) trivial ?_
  simp only [Act.put, List.setIfInBounds_toArray, List.set_cons_zero, List.set_cons_succ]
  refine chain_take (i := 17) (d := 33) (v := .pointer (some ⟨g, 0, none⟩)) rfl rfl (by kernel_rfl) (by kernel_rfl) (by kernel_rfl) rfl (fun _ _ => (by go_simp)) (fun _ _ _ h => h) trivial ?_
  simp only [Act.put, List.setIfInBounds_toArray, List.set_cons_zero, List.set_cons_succ]
  refine chain_take (i := 18) (d := 34) (v := .pointer (some ⟨g, 6, none⟩)) rfl rfl (by kernel_rfl) (by kernel_rfl) (by kernel_rfl) rfl (fun _ _ => (by go_simp)) (fun _ _ _ h => h) trivial ?_
  simp only [Act.put, List.setIfInBounds_toArray, List.set_cons_zero, List.set_cons_succ]
  refine chain_take (i := 21) (d := 36) (v := .pointer (some ⟨g', 0, none⟩)) rfl rfl (by kernel_rfl) (by kernel_rfl) (by kernel_rfl) rfl (fun _ _ => (by go_simp)) (fun _ _ _ h => h) trivial ?_
  simp only [Act.put, List.setIfInBounds_toArray, List.set_cons_zero, List.set_cons_succ]
  refine chain_take (i := 22) (d := 37) (v := .pointer (some ⟨g', 6, none⟩)) rfl rfl (by kernel_rfl) (by kernel_rfl) (by kernel_rfl) rfl (fun _ _ => (by go_simp)) (fun _ _ _ h => h) trivial ?_
  simp only [Act.put, List.setIfInBounds_toArray, List.set_cons_zero, List.set_cons_succ]
  rw [hW2]
  refine chain_value (i := 13) (d := 30) (v := .pointer mv) (w' := W2) (by kernel_rfl) rfl rfl rfl (by go_simp) trivial ?_
  simp only [Act.put, List.setIfInBounds_toArray, List.set_cons_zero, List.set_cons_succ]
  refine chain_take (i := 15) (d := 32) (v := .pointer (some ⟨B, o, none⟩)) rfl rfl (by kernel_rfl) (by kernel_rfl) (by kernel_rfl) rfl (fun _ _ => (by go_simp)) (fun _ _ _ h => h) trivial ?_
  simp only [Act.put, List.setIfInBounds_toArray, List.set_cons_zero, List.set_cons_succ]
  refine chain_skip (i := 16) (w' := W3) (by kernel_rfl) rfl rfl rfl ((by rw [← hW3]; go_simp)) trivial ?_
  refine chain_take (i := 19) (d := 35) (v := .pointer (some ⟨g, 6, none⟩)) rfl rfl (by kernel_rfl) (by kernel_rfl) (by kernel_rfl) rfl (fun _ _ => (by go_simp)) (fun _ _ _ h => h) trivial ?_
  simp only [Act.put, List.setIfInBounds_toArray, List.set_cons_zero, List.set_cons_succ]
  refine chain_skip (i := 20) (w' := W4) (by kernel_rfl) rfl rfl rfl ((by rw [← hW4]; go_simp)) trivial ?_
  refine chain_take (i := 23) (d := 38) (v := .pointer (some ⟨g', 7, none⟩)) rfl rfl (by kernel_rfl) (by kernel_rfl) (by kernel_rfl) rfl (fun _ _ => (by go_simp)) (fun _ _ _ h => h) trivial ?_
  simp only [Act.put, List.setIfInBounds_toArray, List.set_cons_zero, List.set_cons_succ]
  refine chain_skip (i := 24) (w' := W5) (by kernel_rfl) rfl rfl rfl ((by rw [← hW5]; go_simp)) trivial ?_
  refine wpAnyH_done (by kernel_rfl) ?_ _
  clear hW2 hW3 hW4 hW5 e7 s0 s1 s2 z0 z1 z2 d7
  have HM1 := Hid.mk (measureB_any g e h b r W5 (by rw [HV.out.2.1, HV.out.2.2]; exact HT.out.2.1) (HKS.out.2.1.kept HT.out.2.2.2 HNN.out.2.1) (HKS.out.2.2.kept HT.out.2.2.2 HNN.out.2.2) (by have := HH.out; omega) (by have := HH.out; omega))
  go_upto_region 3 with (go_at_call 87; refine HM1.out.mono ?_; rintro en w6 ⟨⟨un, rfl⟩, m1, m2⟩; have H6 : Hid (w6.heap[g']? = some (.cells (cellsB e' h' (ptrB a) (ptrB (mkB g e b r))) 82) ∧ LayB w6 a ∧ LayB w6 (mkB g e b r) ∧ w6.heap[B]? = some (.cells (cs.setIfInBounds o (.pointer (some ⟨g', 0, none⟩))) ty) ∧ Only (fun k => k = g) W5 w6) := Hid.mk (by
        have la := HKS.out.1.kept HT.out.2.2.2 HNN.out.1
        have lb := HKS.out.2.1.kept HT.out.2.2.2 HNN.out.2.1
        have lr := HKS.out.2.2.kept HT.out.2.2.2 HNN.out.2.2
        have f1 := fun k hk e => HNN.out.1 k hk (Or.inr (Or.inl e))
        have f2 := fun k hk e => HNN.out.2.1 k hk (Or.inr (Or.inl e))
        have f3 := fun k hk e => HNN.out.2.2 k hk (Or.inr (Or.inl e))
        have lin : LayB w6 (mkB g e b r) := ⟨m1, lb.kept m2 f2, lr.kept m2 f3⟩
        refine ⟨?_, la.kept m2 f1, lin, m2.box HT.out.1 HNE.out.1, m2⟩
        rw [HV.out.1]
        exact m2.box HT.out.2.2.1 (fun e => HNE.out.2.2 e.symm)); clear m1 m2)
  have HM2 := Hid.mk (measureB_any g' e' h' a (mkB g e b r) w6 H6.out.1 H6.out.2.1 H6.out.2.2.1 (by have := HH.out; first | omega | (simp only [mkB_ht]; omega)) (by have := HH.out; first | omega | (simp only [mkB_ht]; omega)))
  go_wp2_with (go_at_call 87; refine HM2.out.mono ?_; rintro en w7 ⟨⟨un, rfl⟩, m1, m2⟩; have H7 := Hid.mk (And.intro m1 m2); clear m1 m2)
  refine bodyPost_end (results_none rfl _ _ _) rfl ⟨⟨_, rfl⟩, ?_⟩
  have m1 := H7.out.1
  have m2 := H7.out.2
  have f1 := fun k hk e => HNN.out.1 k hk (Or.inr (Or.inr e))
  have f2 := fun k hk e => HNN.out.2.1 k hk (Or.inr (Or.inr e))
  have f3 := fun k hk e => HNN.out.2.2 k hk (Or.inr (Or.inr e))
  obtain ⟨_, l1, l2, l3, l4⟩ := H6.out
  have fi : ∀ k ∈ (mkB g e b r).blocks, ¬ k = g' := fun k hk e => by
    simp only [mkB, Bt.blocks, List.mem_cons, List.mem_append] at hk
    rcases hk with rfl | hk | hk
    · exact HNE.out.2.2 e
    · exact f2 k hk e
    · exact f3 k hk e
  refine ⟨m2.box l3 HNE.out.2.1, ⟨m1, l1.kept m2 f1, l2.kept m2 fi⟩, (HT.out.2.2.2.trans l4 (fun i hi => Or.inl (Or.inr (Or.inl hi)))).trans m2 (fun i hi => Or.inl (Or.inr (Or.inr hi)))⟩
set_option maxHeartbeats 4000000 in
set_option maxRecDepth 100000 in
theorem turnL_any (B o : Nat) (cs : Array Value) (ty : TypeId) (g g' : Nat) (e e' : Ky) (h h' : Int) (a b r : Bt) (w : World) (hB : w.heap[B]? = some (.cells cs ty)) (hc : cs[o]? = some (.pointer (some ⟨g, 0, none⟩))) (hl : LayB w (.node g e h r (.node g' e' h' b a))) (hn : (B :: (Bt.node g e h r (.node g' e' h' b a)).blocks).Nodup)
    (h0 : 0 ≤ a.ht ∧ a.ht ≤ 900000) (h1 : 0 ≤ b.ht ∧ b.ht ≤ 900000) (h2 : 0 ≤ r.ht ∧ r.ht ≤ 900000) :
    Calls Tryd.prog 86 #[.pointer (some ⟨B, o, none⟩), .int .i64 1] w fun en w' => (∃ u, en = .returned u) ∧ w'.heap[B]? = some (.cells (cs.setIfInBounds o (.pointer (some ⟨g', 0, none⟩))) ty) ∧ LayB w' (mkB g' e' (mkB g e r b) a) ∧ Only (fun k => k = B ∨ k = g ∨ k = g') w w' := by
  obtain ⟨k1, kr, ⟨k2, kb, ka⟩⟩ := hl
  have hgg : ptrB (.node g' e' h' b a) = .pointer (some ⟨g', 0, none⟩) := rfl
  rw [hgg] at k1
  simp only [Bt.blocks, List.nodup_cons, List.mem_cons, List.mem_append, not_or] at hn
  obtain ⟨⟨nBg, nBr, ⟨nBg', nBb, nBa⟩⟩, ⟨ngr, ⟨ngg', ngb, nga⟩⟩, hnn⟩ := hn
  have ng'all : g' ∉ a.blocks ∧ g' ∉ b.blocks ∧ g' ∉ r.blocks := by
    simp only [List.nodup_append, List.nodup_cons, List.mem_append, List.mem_cons, not_or] at hnn
    exact ⟨hnn.2.1.1.2, hnn.2.1.1.1, fun hk => hnn.2.2 g' hk g' (Or.inl rfl) rfl⟩
  have HNA := Hid.mk ng'all
  have HNN := Hid.mk (show (∀ k ∈ a.blocks, ¬ (k = B ∨ k = g ∨ k = g')) ∧ (∀ k ∈ b.blocks, ¬ (k = B ∨ k = g ∨ k = g')) ∧ (∀ k ∈ r.blocks, ¬ (k = B ∨ k = g ∨ k = g')) from
    ⟨fun k hk e => by rcases e with rfl | rfl | rfl; exact nBa hk; exact nga hk; exact ng'all.1 hk, fun k hk e => by rcases e with rfl | rfl | rfl; exact nBb hk; exact ngb hk; exact ng'all.2.1 hk, fun k hk e => by rcases e with rfl | rfl | rfl; exact nBr hk; exact ngr hk; exact ng'all.2.2 hk⟩)
  have HKS := Hid.mk (And.intro ka (And.intro kb kr))
  have HH := Hid.mk (And.intro h0 (And.intro h1 h2))
  obtain ⟨lv, hlv⟩ := ptrB_is a
  obtain ⟨mv, hmv⟩ := ptrB_is b
  obtain ⟨rv, hrv⟩ := ptrB_is r
  have hw1 : IntKind.i64.wrap 0 = 0 := wrap_id (by decide) (by decide)
  have HV := Hid.mk (And.intro hlv (And.intro hmv hrv))
  rw [hrv] at k1
  rw [hlv, hmv] at k2
  have c0 : w.cell? ⟨B, o, none⟩ = some (.pointer (some ⟨g, 0, none⟩)) := by simpa [World.cell?, hB] using hc
  have c6 : w.cell? ⟨g, 7, none⟩ = some (.pointer (some ⟨g', 0, none⟩)) := by simp [World.cell?, k1, cellsB]
  have d7 : w.cell? ⟨g', 6, none⟩ = some (.pointer mv) := by simp [World.cell?, k2, cellsB]
  have HBX := Hid.mk (And.intro hB (And.intro k1 k2))
  have HNE := Hid.mk (And.intro nBg (And.intro nBg' ngg'))
  clear hB k1 k2 ka kb kr nBg nBg' ngg' nBa nBb nBr nga ngb ngr ng'all hlv hmv hrv h0 h1 h2 hgg hnn
  go_enter Tryd.func86, Tryd.ntmps86
  go_upto_region 0 with fail
  refine region_up (W := w) (by kernel_rfl) (by kernel_rfl) (Up.refl _) ?_
  refine quiet_value (v := .pointer (some ⟨B, o, none⟩)) rfl (fun _ _ => rfl) ?_
  simp only [Act.put, List.setIfInBounds_toArray, List.set_cons_zero, List.set_cons_succ]
  refine quiet_value (v := .pointer (some ⟨B, o, none⟩)) rfl (fun _ _ => (by go_simp)) ?_
  simp only [Act.put, List.setIfInBounds_toArray, List.set_cons_zero, List.set_cons_succ]
  refine quiet_value (v := .pointer (some ⟨g, 0, none⟩)) rfl (fun W h => (by have u0 := cell_below h.out _ _ _ c0; go_simp)) ?_
  simp only [Act.put, List.setIfInBounds_toArray, List.set_cons_zero, List.set_cons_succ]
  refine quiet_value (v := .pointer (some ⟨B, o, none⟩)) rfl (fun _ _ => rfl) ?_
  simp only [Act.put, List.setIfInBounds_toArray, List.set_cons_zero, List.set_cons_succ]
  refine quiet_value (v := .pointer (some ⟨B, o, none⟩)) rfl (fun _ _ => (by go_simp)) ?_
  simp only [Act.put, List.setIfInBounds_toArray, List.set_cons_zero, List.set_cons_succ]
  refine quiet_value (v := .pointer (some ⟨g, 0, none⟩)) rfl (fun W h => (by have u0 := cell_below h.out _ _ _ c0; go_simp)) ?_
  simp only [Act.put, List.setIfInBounds_toArray, List.set_cons_zero, List.set_cons_succ]
  refine quiet_value (v := .int .i64 1) rfl (fun _ _ => rfl) ?_
  simp only [Act.put, List.setIfInBounds_toArray, List.set_cons_zero, List.set_cons_succ]
  refine quiet_value (v := .pointer (some ⟨g, 0, none⟩)) rfl (fun _ _ => (by go_simp)) ?_
  simp only [Act.put, List.setIfInBounds_toArray, List.set_cons_zero, List.set_cons_succ]
  refine quiet_value (v := .pointer (some ⟨g, 6, none⟩)) rfl (fun _ _ => (by go_simp)) ?_
  simp only [Act.put, List.setIfInBounds_toArray, List.set_cons_zero, List.set_cons_succ]
  refine quiet_value (v := .pointer (some ⟨g, 7, none⟩)) rfl (fun _ _ => (by go_simp)) ?_
  simp only [Act.put, List.setIfInBounds_toArray, List.set_cons_zero, List.set_cons_succ]
  refine quiet_value (v := .pointer (some ⟨g', 0, none⟩)) rfl (fun W h => (by have u0 := cell_below h.out _ _ _ c6; go_simp)) ?_
  simp only [Act.put, List.setIfInBounds_toArray, List.set_cons_zero, List.set_cons_succ]
  refine quiet_value (v := .pointer (some ⟨g, 0, none⟩)) rfl (fun _ _ => rfl) ?_
  simp only [Act.put, List.setIfInBounds_toArray, List.set_cons_zero, List.set_cons_succ]
  refine quiet_value (v := .pointer (some ⟨g', 0, none⟩)) rfl (fun _ _ => rfl) ?_
  simp only [Act.put, List.setIfInBounds_toArray, List.set_cons_zero, List.set_cons_succ]
  refine quiet_nil ?_
  intro w2 hw2
  have HU := Hid.mk hw2.out
  replace d7 := cell_below hw2.out _ _ _ d7
  clear c0 c6
  go_upto_region 1 with fail
  obtain ⟨W2, hW2⟩ : ∃ W2, ({ w2 with drawn := w2.drawn + 1 } : World) = W2 := ⟨_, rfl⟩
  have u2 : Below w.heap.size w W2 := by rw [← hW2]; exact hw2.out.trans ((Up.refl w2).drew.out.mono hw2.out.size)
  have o2 : Only (fun k => k = B ∨ k = g ∨ k = g') w W2 := Only.up u2
  have x0 := (u2.block B (Array.getElem?_eq_some_iff.1 HBX.out.1).1).trans HBX.out.1
  have x1 := (u2.block g (Array.getElem?_eq_some_iff.1 HBX.out.2.1).1).trans HBX.out.2.1
  have x2 := (u2.block g' (Array.getElem?_eq_some_iff.1 HBX.out.2.2).1).trans HBX.out.2.2
  have e7 : W2.cell? ⟨g', 6, none⟩ = some (.pointer mv) := by rw [← hW2]; exact d7
  have s0 : W2.cell? ⟨B, o, none⟩ = some (.pointer (some ⟨g, 0, none⟩)) := by simpa [World.cell?, x0] using hc
  have z0 : W2.frozen? ⟨B, o, none⟩ = false := by simp [World.frozen?, x0]
  obtain ⟨W3, hW3⟩ : ∃ W3, W2.setCell ⟨B, o, none⟩ (.pointer (some ⟨g', 0, none⟩)) = W3 := ⟨_, rfl⟩
  have o3 : Only (fun k => k = B) W2 W3 := by rw [← hW3]; exact Only.set _ _ rfl
  have y0 : W3.heap[B]? = some (.cells (cs.setIfInBounds o (.pointer (some ⟨g', 0, none⟩))) ty) := by rw [← hW3]; exact put_box x0 o _
  have y1 := o3.box x1 (fun e => HNE.out.1 e.symm)
  have y2 := o3.box x2 (fun e => HNE.out.2.1 e.symm)
  have s1 : W3.cell? ⟨g, 7, none⟩ = some (.pointer (some ⟨g', 0, none⟩)) := by simp [World.cell?, y1, cellsB]
  have z1 : W3.frozen? ⟨g, 7, none⟩ = false := by simp [World.frozen?, y1]
  obtain ⟨W4, hW4⟩ : ∃ W4, W3.setCell ⟨g, 7, none⟩ (.pointer mv) = W4 := ⟨_, rfl⟩
  have o4 : Only (fun k => k = g) W3 W4 := by rw [← hW4]; exact Only.set _ _ rfl
  have v0 := o4.box y0 HNE.out.1
  have v1 : W4.heap[g]? = some (.cells (cellsB e h (.pointer rv) (.pointer mv)) 82) := by rw [← hW4]; exact put_box y1 7 _
  have v2 := o4.box y2 (fun e => HNE.out.2.2 e.symm)
  have s2 : W4.cell? ⟨g', 6, none⟩ = some (.pointer mv) := by simp [World.cell?, v2, cellsB]
  have z2 : W4.frozen? ⟨g', 6, none⟩ = false := by simp [World.frozen?, v2]
  obtain ⟨W5, hW5⟩ : ∃ W5, W4.setCell ⟨g', 6, none⟩ (.pointer (some ⟨g, 0, none⟩)) = W5 := ⟨_, rfl⟩
  have o5 : Only (fun k => k = g') W4 W5 := by rw [← hW5]; exact Only.set _ _ rfl
  have t0 := o5.box v0 HNE.out.2.1
  have t1 := o5.box v1 HNE.out.2.2
  have t2 : W5.heap[g']? = some (.cells (cellsB e' h' (.pointer (some ⟨g, 0, none⟩)) (.pointer lv)) 82) := by rw [← hW5]; exact put_box v2 6 _
  have q5 : Only (fun k => k = B ∨ k = g ∨ k = g') w W5 := ((o2.trans o3 (fun i hi => Or.inl (Or.inl hi))).trans o4 (fun i hi => Or.inl (Or.inr (Or.inl hi)))).trans o5 (fun i hi => Or.inl (Or.inr (Or.inr hi)))
  have HT := Hid.mk (And.intro t0 (And.intro t1 (And.intro t2 q5)))
  clear hw2 u2 o2 o3 o4 o5 x0 x1 x2 y0 y1 y2 v0 v1 v2 t0 t1 t2 q5
  refine wp_region_held (S := fun _ => True) (by kernel_rfl) ?_
  refine chain_take (i := 0) (d := 17) (v := .pointer (some ⟨B, o, none⟩)) rfl rfl (by kernel_rfl) (by kernel_rfl) (by kernel_rfl) rfl (fun _ _ => rfl) (fun _ _ _ h => h) trivial ?_
  simp only [Act.put, List.setIfInBounds_toArray, List.set_cons_zero, List.set_cons_succ]
  refine chain_take (i := 1) (d := 18) (v := .pointer (some ⟨g, 0, none⟩)) rfl rfl (by kernel_rfl) (by kernel_rfl) (by kernel_rfl) rfl (fun _ _ => rfl) (fun _ _ _ h => h) trivial ?_
  simp only [Act.put, List.setIfInBounds_toArray, List.set_cons_zero, List.set_cons_succ]
  refine chain_take (i := 2) (d := 19) (v := .int .i64 1) rfl rfl (by kernel_rfl) (by kernel_rfl) (by kernel_rfl) rfl (fun _ _ => rfl) (fun _ _ _ h => h) trivial ?_
  simp only [Act.put, List.setIfInBounds_toArray, List.set_cons_zero, List.set_cons_succ]
  refine chain_take (i := 3) (d := 20) (v := .pointer (some ⟨g', 0, none⟩)) rfl rfl (by kernel_rfl) (by kernel_rfl) (by kernel_rfl) rfl (fun _ _ => rfl) (fun _ _ _ h => h) trivial ?_
  simp only [Act.put, List.setIfInBounds_toArray, List.set_cons_zero, List.set_cons_succ]
  refine chain_take (i := 4) (d := 21) (v := .int .i64 1) rfl rfl (by kernel_rfl) (by kernel_rfl) (by kernel_rfl) rfl (fun _ _ => rfl) (fun _ _ _ h => h) trivial ?_
  simp only [Act.put, List.setIfInBounds_toArray, List.set_cons_zero, List.set_cons_succ]
  refine chain_take (i := 5) (d := 22) (v := .int .i64 0) rfl rfl (by kernel_rfl) (by kernel_rfl) (by kernel_rfl) rfl (fun _ _ => (by go_simp)) (fun _ _ _ h => h) trivial ?_
  simp only [Act.put, List.setIfInBounds_toArray, List.set_cons_zero, List.set_cons_succ]
  refine chain_take (i := 6) (d := 23) (v := .pointer (some ⟨g', 0, none⟩)) rfl rfl (by kernel_rfl) (by kernel_rfl) (by kernel_rfl) rfl (fun _ _ => rfl) (fun _ _ _ h => h) trivial ?_
  simp only [Act.put, List.setIfInBounds_toArray, List.set_cons_zero, List.set_cons_succ]
  refine chain_take (i := 7) (d := 24) (v := .pointer (some ⟨g', 0, none⟩)) rfl rfl (by kernel_rfl) (by kernel_rfl) (by kernel_rfl) rfl (fun _ _ => rfl) (fun _ _ _ h => h) trivial ?_
  simp only [Act.put, List.setIfInBounds_toArray, List.set_cons_zero, List.set_cons_succ]
  refine chain_take (i := 8) (d := 25) (v := .int .i64 1) rfl rfl (by kernel_rfl) (by kernel_rfl) (by kernel_rfl) rfl (fun _ _ => rfl) (fun _ _ _ h => h) trivial ?_
  simp only [Act.put, List.setIfInBounds_toArray, List.set_cons_zero, List.set_cons_succ]
  refine chain_take (i := 9) (d := 26) (v := .int .i64 0) rfl rfl (by kernel_rfl) (by kernel_rfl) (by kernel_rfl) rfl (fun _ _ => (by go_simp)) (fun _ _ _ h => h) trivial ?_
  simp only [Act.put, List.setIfInBounds_toArray, List.set_cons_zero, List.set_cons_succ]
  refine chain_take (i := 10) (d := 27) (v := .pointer (some ⟨g', 0, none⟩)) rfl rfl (by kernel_rfl) (by kernel_rfl) (by kernel_rfl) rfl (fun _ _ => (by go_simp)) (fun _ _ _ h => h) trivial ?_
  simp only [Act.put, List.setIfInBounds_toArray, List.set_cons_zero, List.set_cons_succ]
  refine chain_take (i := 11) (d := 28) (v := .pointer (some ⟨g', 6, none⟩)) rfl rfl (by kernel_rfl) (by kernel_rfl) (by kernel_rfl) rfl (fun _ _ => (by go_simp)) (fun _ _ _ h => h) trivial ?_
  simp only [Act.put, List.setIfInBounds_toArray, List.set_cons_zero, List.set_cons_succ]
  refine chain_take (i := 12) (d := 29) (v := .pointer (some ⟨g', 6, none⟩)) rfl rfl (by kernel_rfl) (by kernel_rfl) (by kernel_rfl) rfl (fun _ _ => (by go_simp)) (fun _ _ _ h => h) trivial ?_
  simp only [Act.put, List.setIfInBounds_toArray, List.set_cons_zero, List.set_cons_succ]
  refine chain_take (i := 14) (d := 31) (v := .pointer (some ⟨g, 0, none⟩)) rfl rfl (by kernel_rfl) (by kernel_rfl) (by kernel_rfl) rfl (fun _ _ => rfl) (fun _ _ _ h => h) trivial ?_
  simp only [Act.put, List.setIfInBounds_toArray, List.set_cons_zero, List.set_cons_succ]
  refine chain_take (i := 17) (d := 33) (v := .pointer (some ⟨g, 0, none⟩)) rfl rfl (by kernel_rfl) (by kernel_rfl) (by kernel_rfl) rfl (fun _ _ => (by go_simp)) (fun _ _ _ h => h) trivial ?_
  simp only [Act.put, List.setIfInBounds_toArray, List.set_cons_zero, List.set_cons_succ]
  refine chain_take (i := 18) (d := 34) (v := .pointer (some ⟨g, 6, none⟩)) rfl rfl (by kernel_rfl) (by kernel_rfl) (by kernel_rfl) rfl (fun _ _ => (by go_simp)) (fun _ _ _ h => h) trivial ?_
  simp only [Act.put, List.setIfInBounds_toArray, List.set_cons_zero, List.set_cons_succ]
  refine chain_take (i := 21) (d := 36) (v := .pointer (some ⟨g', 0, none⟩)) rfl rfl (by kernel_rfl) (by kernel_rfl) (by kernel_rfl) rfl (fun _ _ => (by go_simp)) (fun _ _ _ h => h) trivial ?_
  simp only [Act.put, List.setIfInBounds_toArray, List.set_cons_zero, List.set_cons_succ]
  refine chain_take (i := 22) (d := 37) (v := .pointer (some ⟨g', 6, none⟩)) rfl rfl (by kernel_rfl) (by kernel_rfl) (by kernel_rfl) rfl (fun _ _ => (by go_simp)) (fun _ _ _ h => h) trivial ?_
  simp only [Act.put, List.setIfInBounds_toArray, List.set_cons_zero, List.set_cons_succ]
  rw [hW2]
  refine chain_value (i := 13) (d := 30) (v := .pointer mv) (w' := W2) (by kernel_rfl) rfl rfl rfl (by go_simp) trivial ?_
  simp only [Act.put, List.setIfInBounds_toArray, List.set_cons_zero, List.set_cons_succ]
  refine chain_take (i := 15) (d := 32) (v := .pointer (some ⟨B, o, none⟩)) rfl rfl (by kernel_rfl) (by kernel_rfl) (by kernel_rfl) rfl (fun _ _ => (by go_simp)) (fun _ _ _ h => h) trivial ?_
  simp only [Act.put, List.setIfInBounds_toArray, List.set_cons_zero, List.set_cons_succ]
  refine chain_skip (i := 16) (w' := W3) (by kernel_rfl) rfl rfl rfl ((by rw [← hW3]; go_simp)) trivial ?_
  refine chain_take (i := 19) (d := 35) (v := .pointer (some ⟨g, 7, none⟩)) rfl rfl (by kernel_rfl) (by kernel_rfl) (by kernel_rfl) rfl (fun _ _ => (by go_simp)) (fun _ _ _ h => h) trivial ?_
  simp only [Act.put, List.setIfInBounds_toArray, List.set_cons_zero, List.set_cons_succ]
  refine chain_skip (i := 20) (w' := W4) (by kernel_rfl) rfl rfl rfl ((by rw [← hW4]; go_simp)) trivial ?_
  refine chain_take (i := 23) (d := 38) (v := .pointer (some ⟨g', 6, none⟩)) rfl rfl (by kernel_rfl) (by kernel_rfl) (by kernel_rfl) rfl (fun _ _ => (by go_simp)) (fun _ _ _ h => h) trivial ?_
  simp only [Act.put, List.setIfInBounds_toArray, List.set_cons_zero, List.set_cons_succ]
  refine chain_skip (i := 24) (w' := W5) (by kernel_rfl) rfl rfl rfl ((by rw [← hW5]; go_simp)) trivial ?_
  refine wpAnyH_done (by kernel_rfl) ?_ _
  clear hW2 hW3 hW4 hW5 e7 s0 s1 s2 z0 z1 z2 d7
  have HM1 := Hid.mk (measureB_any g e h r b W5 (by rw [HV.out.2.1, HV.out.2.2]; exact HT.out.2.1) (HKS.out.2.2.kept HT.out.2.2.2 HNN.out.2.2) (HKS.out.2.1.kept HT.out.2.2.2 HNN.out.2.1) (by have := HH.out; omega) (by have := HH.out; omega))
  go_upto_region 3 with (go_at_call 87; refine HM1.out.mono ?_; rintro en w6 ⟨⟨un, rfl⟩, m1, m2⟩; have H6 : Hid (w6.heap[g']? = some (.cells (cellsB e' h' (ptrB (mkB g e r b)) (ptrB a)) 82) ∧ LayB w6 (mkB g e r b) ∧ LayB w6 a ∧ w6.heap[B]? = some (.cells (cs.setIfInBounds o (.pointer (some ⟨g', 0, none⟩))) ty) ∧ Only (fun k => k = g) W5 w6) := Hid.mk (by
        have la := HKS.out.1.kept HT.out.2.2.2 HNN.out.1
        have lb := HKS.out.2.1.kept HT.out.2.2.2 HNN.out.2.1
        have lr := HKS.out.2.2.kept HT.out.2.2.2 HNN.out.2.2
        have f1 := fun k hk e => HNN.out.1 k hk (Or.inr (Or.inl e))
        have f2 := fun k hk e => HNN.out.2.1 k hk (Or.inr (Or.inl e))
        have f3 := fun k hk e => HNN.out.2.2 k hk (Or.inr (Or.inl e))
        have lin : LayB w6 (mkB g e r b) := ⟨m1, lr.kept m2 f3, lb.kept m2 f2⟩
        refine ⟨?_, lin, la.kept m2 f1, m2.box HT.out.1 HNE.out.1, m2⟩
        rw [HV.out.1]
        exact m2.box HT.out.2.2.1 (fun e => HNE.out.2.2 e.symm)); clear m1 m2)
  have HM2 := Hid.mk (measureB_any g' e' h' (mkB g e r b) a w6 H6.out.1 H6.out.2.1 H6.out.2.2.1 (by have := HH.out; first | omega | (simp only [mkB_ht]; omega)) (by have := HH.out; first | omega | (simp only [mkB_ht]; omega)))
  go_wp2_with (go_at_call 87; refine HM2.out.mono ?_; rintro en w7 ⟨⟨un, rfl⟩, m1, m2⟩; have H7 := Hid.mk (And.intro m1 m2); clear m1 m2)
  refine bodyPost_end (results_none rfl _ _ _) rfl ⟨⟨_, rfl⟩, ?_⟩
  have m1 := H7.out.1
  have m2 := H7.out.2
  have f1 := fun k hk e => HNN.out.1 k hk (Or.inr (Or.inr e))
  have f2 := fun k hk e => HNN.out.2.1 k hk (Or.inr (Or.inr e))
  have f3 := fun k hk e => HNN.out.2.2 k hk (Or.inr (Or.inr e))
  obtain ⟨_, l1, l2, l3, l4⟩ := H6.out
  have fi : ∀ k ∈ (mkB g e r b).blocks, ¬ k = g' := fun k hk e => by
    simp only [mkB, Bt.blocks, List.mem_cons, List.mem_append] at hk
    rcases hk with rfl | hk | hk
    · exact HNE.out.2.2 e
    · exact f3 k hk e
    · exact f2 k hk e
  refine ⟨m2.box l3 HNE.out.2.1, ⟨m1, l1.kept m2 fi, l2.kept m2 f1⟩, (HT.out.2.2.2.trans l4 (fun i hi => Or.inl (Or.inr (Or.inl hi)))).trans m2 (fun i hi => Or.inl (Or.inr (Or.inr hi)))⟩
end Go.Proofs.YteklhipcojioaaaDoor
