/-
  The program's tree: all keys.
-/
import Derived.Test.YteklhipcojioaaaDoorZTreePj
namespace Go.Proofs.YteklhipcojioaaaDoor
open Go.RowKit Go.Deep Go.Maps Go.WideShapes

/-- A row of terms that a call fills, each in memory of its own, beside the row itself. -/
structure FillT (B0 : Nat) (w : World) (u : Value) (hs : List Th) (l : List Tm) : Prop where
  row : Ow thS w u hs
  kids : Kids w l B0 w.heap.size u.ownBlock (thS.cs hs)
  own : ∀ k, u.ownBlock = some k → B0 ≤ k
/-- What is left of it by a call that fills it further. -/
structure FilledT (B0 : Nat) (w : World) (u : Value) (u' : Value) (hs : List Th) (l : List Tm) (w' : World) : Prop where
  fill : FillT B0 w' u' hs l
  only : Only (fun k => u.ownBlock = some k) w w'
  next : u'.ownBlock = u.ownBlock ∨ ∃ k, u'.ownBlock = some k ∧ w.heap.size ≤ k
theorem FillT.up {B0 : Nat} {w w' : World} {u : Value} {hs : List Th} {l : List Tm} (h : FillT B0 w u hs l) (hb : Below w.heap.size w w') : FillT B0 w' u hs l := ⟨h.row.up hb, Kids.move (Nat.le_refl _) hb.size (fun k _ h2 _ => hb.block k h2) (fun _ hg => Or.inl hg) h.kids, h.own⟩
theorem kids_len {w : World} {l : List Tm} : ∀ {lo hi : Nat} {b : Option Nat} {xs : List Value}, Kids w l lo hi b xs → xs.length = l.length * 4 := by
  induction l with
  | nil => intro lo hi b xs h; rw [Kids] at h; subst h; rfl
  | cons t r ih =>
    intro lo hi b xs h
    rw [Kids] at h
    obtain ⟨v0, v1, v2, v3, ys, c, d, rfl, _, _, _, _, _, h6⟩ := h
    have := ih h6
    simp only [List.length_cons]
    omega
theorem FillT.len {B0 : Nat} {w : World} {u : Value} {hs : List Th} {l : List Tm} (h : FillT B0 w u hs l) : hs.length = l.length := by
  have h1 := kids_len h.kids
  rw [Srt.cs_len, show thS.k = 4 from rfl] at h1
  omega
/-- .. is a list of one's own. -/
theorem FillT.ownL {B0 : Nat} {w : World} {u : Value} {hs : List Th} {l : List Tm} (h : FillT B0 w u hs l) : OwnL w l B0 w.heap.size u := by
  refine ⟨_, ?_, fun g hg => h.row.lt hg, h.kids⟩
  rw [← h.len]
  obtain ⟨h1, h2⟩ := h.row
  refine ⟨h1, ?_⟩
  rcases h2 with h2 | ⟨b, cap, cur, rfl, _, hh, hr⟩
  · exact Or.inl h2
  · exact Or.inr ⟨b, cap, cur, rfl, h.own b rfl, hh, hr⟩
theorem FilledT.refl {B0 : Nat} {w : World} {u : Value} {hs : List Th} {l : List Tm} (h : FillT B0 w u hs l) : FilledT B0 w u u hs l w := ⟨h, Only.refl _ _, Or.inl rfl⟩
theorem FilledT.trans {B0 : Nat} {w w1 w2 : World} {u u1 u2 : Value} {hs hs2 : List Th} {l l2 : List Tm} (h : FilledT B0 w u u1 hs l w1) (k : FilledT B0 w1 u1 u2 hs2 l2 w2) : FilledT B0 w u u2 hs2 l2 w2 := by
  refine ⟨k.fill, h.only.trans k.only (fun i hi => ?_), ?_⟩
  · rcases h.next with e | ⟨b, e, hb⟩
    · exact Or.inl (e ▸ hi)
    · rw [e] at hi; cases hi; exact Or.inr hb
  · rcases k.next with e | ⟨b, e, hb⟩
    · rcases h.next with e' | ⟨b', e', hb'⟩
      · exact Or.inl (e.trans e')
      · exact Or.inr ⟨b', e.trans e', hb'⟩
    · exact Or.inr ⟨b, e, Nat.le_trans h.only.size hb⟩
/-- A copy appended. -/
theorem FilledT.snoc {B0 : Nat} {w w1 w2 : World} {u u1 : Value} {hs : List Th} {l : List Tm} {T : Tm} {x : Th} (h : FilledT B0 w u u1 hs l w1) (h0 : B0 ≤ w.heap.size) (hb : Below w1.heap.size w1 w2) (hx : Own w2 T w1.heap.size w2.heap.size x.tv) (hn : hs.length ≤ 900000) :
    ∃ u2 w3, (Builtin.append_ #[30, 30] 30 #[u1, .slice (some ⟨w2.heap.size, 0, none⟩) 1 1]).run Tryd.prog (w2.alloc (.cells #[.int .i64 x.k, .int .i64 x.n, .string x.s, .slice x.a x.m x.c] 32)) = .ok u2 w3 ∧
      FilledT B0 w u u2 (hs ++ [x]) (l ++ [T]) w3 := by
  have hal := (Up.alloc (Up.refl w2) (o := .cells #[.int .i64 x.k, .int .i64 x.n, .string x.s, .slice x.a x.m x.c] 32)).out
  have hup : Below w1.heap.size w1 (w2.alloc (.cells #[.int .i64 x.k, .int .i64 x.n, .string x.s, .slice x.a x.m x.c] 32)) := hb.trans (hal.mono hb.size)
  obtain ⟨u2, w3, hr2, hi2, hg2, ho2⟩ := append_elem thS (w2.alloc (.cells #[.int .i64 x.k, .int .i64 x.n, .string x.s, .slice x.a x.m x.c] 32)) 30 u1 hs x (h.fill.row.up hup) w2.heap.size (new_block _ _) rfl (by omega)
  have hon : Only (fun k => u1.ownBlock = some k) w1 w3 := (Only.up hup).grow hg2 (fun k hk => hk)
  have hon2 : Only (fun k => u1.ownBlock = some k) w2 w3 := (Only.up hal).grow hg2 (fun k hk => hk)
  have hlt1 : ∀ k, u1.ownBlock = some k → k < w1.heap.size := fun k hk => h.fill.row.lt hk
  have hsz : B0 ≤ w1.heap.size := Nat.le_trans h0 h.only.size
  have hnew : ∀ g, u2.ownBlock = some g → u1.ownBlock = some g ∨ w2.heap.size ≤ g := fun g hg => by
    rcases ho2 with e1 | e1
    · exact Or.inl (e1 ▸ hg)
    · rw [e1] at hg; cases hg; rw [World.size_alloc]; exact Or.inr (Nat.le_succ _)
  refine ⟨u2, w3, hr2, h.trans ⟨⟨hi2, ?_, fun k hk => ?_⟩, hon, ?_⟩⟩
  · have k1 : Kids w3 l B0 w1.heap.size u2.ownBlock (thS.cs hs) := Kids.move (Nat.le_refl _) (Nat.le_refl _) (fun k _ h2 h3 => hon.block k h2 (fun e => h3 e.symm)) (fun g hg => by
      rcases hnew g hg with e | e
      · exact Or.inl e
      · exact Or.inr (Or.inl (Nat.le_trans hb.size e))) h.fill.kids
    have k2 : Own w3 T w1.heap.size w2.heap.size x.tv := Own.move _ _ _ _ _ _ (Nat.le_refl _) (Nat.le_refl _) (fun k h1 h2 => hon2.block k h2 (fun e => by have := hlt1 k e; omega)) hx
    have k3 := Kids.snoc hb.size (fun g hg e => by
      rcases hnew g hg with e2 | e2
      · have := hlt1 g e2; omega
      · omega) k2 hsz k1
    rw [thS.cs_app, thS.cs_one]
    exact Kids.move (Nat.le_refl _) hon2.size (fun _ _ _ _ => rfl) (fun g hg => Or.inl hg) k3
  · rcases hnew k hk with e1 | e1
    · exact h.fill.own k e1
    · have := hb.size; omega
  · rcases ho2 with e1 | e1
    · exact Or.inl e1
    · exact Or.inr ⟨_, e1, by have := hb.size; rw [World.size_alloc]; omega⟩
/-- A pointer to nothing that lies there. -/
theorem th_of {v : Value} {w : World} {lo hi : Nat} {T : Tm} (h : Own w T lo hi v) : ∃ x : Th, v = x.tv := by
  obtain ⟨k, n, s, a, m, c, rfl⟩ := h.agg
  exact ⟨⟨k, n, s, a, m, c⟩, rfl⟩
set_option maxHeartbeats 8000000 in
set_option maxRecDepth 100000 in
theorem gatherB_any (B0 : Nat) (K : Nat → Prop) (t : Bt) : ∀ (uu : Value) (hs : List Th) (l : List Tm) (w : World), LayB w t → (∀ e ∈ t.list, Lies w K e.T e.tv ∧ KeyOk e.T) → (∀ k ∈ t.blocks, k < B0) → (∀ k, K k → k < B0) → B0 ≤ w.heap.size → FillT B0 w uu hs l → hs.length + t.list.length ≤ 800000 →
    Calls Tryd.prog 49 #[ptrB t, uu] w fun e w' => ∃ u' hs', e = .returned u' ∧ FilledT B0 w uu u' hs' (l ++ t.list.map (·.T)) w' ∧ hs'.length = hs.length + t.list.length := by
  induction t with
  | nil =>
    intro uu hs l w _ _ _ _ _ hf _
    show Calls _ _ #[.pointer none, uu] _ _
    have HF := Hid.mk hf
    clear hf
    go_enter Tryd.func49, Tryd.ntmps49
    go_wp2
    go_ret
    refine ⟨uu, hs, rfl, ?_, by simp [Bt.list]⟩
    simp only [Bt.list, List.map_nil, List.append_nil]
    exact FilledT.refl HF.out
  | node g e x tl tr il ir =>
    intro uu hs l w hl hk hb hK h0 hf hz
    show Calls _ _ #[.pointer (some ⟨g, 0, none⟩), uu] _ _
    obtain ⟨q1, ql, qr⟩ := hl
    obtain ⟨lp, hlp⟩ := ptrB_is tl
    obtain ⟨rp, hrp⟩ := ptrB_is tr
    have hll : (Bt.node g e x tl tr).list.length = tl.list.length + tr.list.length + 1 := by simp [Bt.list]; omega
    rw [hll] at hz
    have hml : ∀ e' ∈ tl.list, e' ∈ (Bt.node g e x tl tr).list := fun e' he => by simp [Bt.list, he]
    have hmr : ∀ e' ∈ tr.list, e' ∈ (Bt.node g e x tl tr).list := fun e' he => by simp [Bt.list, he]
    have hme : e ∈ (Bt.node g e x tl tr).list := by simp [Bt.list]
    have hgb : g < B0 := hb g (by simp [Bt.blocks])
    have NG : ¬ uu.ownBlock = some g := fun e0 => by have := hf.own g e0; omega
    have y0 : w.cell? ⟨g, 0, none⟩ = some (.int .i64 e.h.k) := by simp [World.cell?, q1, cellsB]
    have y1 : w.cell? ⟨g, 1, none⟩ = some (.int .i64 e.h.n) := by simp [World.cell?, q1, cellsB]
    have y2 : w.cell? ⟨g, 2, none⟩ = some (.string e.h.s) := by simp [World.cell?, q1, cellsB]
    have y3 : w.cell? ⟨g, 3, none⟩ = some (.slice e.h.a e.h.m e.h.c) := by simp [World.cell?, q1, cellsB]
    have c6 : w.cell? ⟨g, 6, none⟩ = some (.pointer lp) := by rw [← hlp]; simp [World.cell?, q1, cellsB]
    have c7 : w.cell? ⟨g, 7, none⟩ = some (.pointer rp) := by rw [← hrp]; simp [World.cell?, q1, cellsB]
    have HIL := Hid.mk (il uu hs l w.drew (ql.up (Up.refl w).drew.out) (fun e' he => ⟨(hk e' (hml e' he)).1.below (Up.refl w).drew.out, (hk e' (hml e' he)).2⟩) (fun k hk' => hb k (by simp [Bt.blocks, hk'])) hK h0 (hf.up (Up.refl w).drew.out) (by omega))
    rw [hlp] at HIL
    have HIR := Hid.mk (fun (u3 : Value) (hs3 : List Th) (l3 : List Tm) (w3 : World) (ho : Only (fun k => uu.ownBlock = some k) w w3) (hf3 : FillT B0 w3 u3 hs3 l3) (hz3 : hs3.length + tr.list.length ≤ 800000) => hrp ▸ ir u3 hs3 l3 w3 (qr.kept ho (fun k hk' e0 => by have := hf.own k e0; have := hb k (by simp [Bt.blocks, hk']); omega)) (fun e' he => ⟨(hk e' (hmr e' he)).1.move (fun _ h => h) (fun b o v hb' hc => ho.cellS (fun e0 => by have := hf.own b e0; have := hK b hb'; omega) hc) _ _, (hk e' (hmr e' he)).2⟩) (fun k hk' => hb k (by simp [Bt.blocks, hk'])) hK (Nat.le_trans h0 ho.size) hf3 hz3)
    have HCO := Hid.mk (fun (W : World) (ho : Only (fun k => uu.ownBlock = some k) w W) => copyO_any e.T (hk e hme).2.size (hk e hme).2.short K (.agg #[.int .i64 e.h.k, .int .i64 e.h.n, .string e.h.s, .slice e.h.a e.h.m e.h.c]) W ((hk e hme).1.move (fun _ h => h) (fun b o v hb' hc => ho.cellS (fun e0 => by have := hf.own b e0; have := hK b hb'; omega) hc) _ _))
    have HH := Hid.mk (And.intro h0 (And.intro hz hf))
    obtain ⟨S0, hS0⟩ : ∃ S0, (fun k => uu.ownBlock = some k) = S0 := ⟨_, rfl⟩
    have NGS : ¬ S0 g := by rw [← hS0]; exact NG
    have HS0 := Hid.mk hS0
    clear hk hb hK h0 hf hz hll hml hmr hme hgb q1 ql qr hlp hrp il ir NG hS0
    go_enter Tryd.func49, Tryd.ntmps49
    go_upto_region 3 with fail
    refine wp_region_held (S := Only S0 w) (by kernel_rfl) ?_
    refine chain_take (i := 0) (d := 8) (v := .pointer (some ⟨g, 0, none⟩)) rfl rfl (by kernel_rfl) (by kernel_rfl) (by kernel_rfl) rfl (fun _ _ => rfl) (fun _ _ _ h => h) (Only.refl _ w).drew ?_
    simp only [Act.put, List.setIfInBounds_toArray, List.set_cons_zero, List.set_cons_succ]
    refine chain_take (i := 1) (d := 9) (v := .pointer (some ⟨g, 0, none⟩)) rfl rfl (by kernel_rfl) (by kernel_rfl) (by kernel_rfl) rfl (fun _ _ => (by go_simp)) (fun _ _ _ h => h) (Only.refl _ w).drew ?_
    simp only [Act.put, List.setIfInBounds_toArray, List.set_cons_zero, List.set_cons_succ]
    refine chain_take (i := 2) (d := 10) (v := .pointer (some ⟨g, 6, none⟩)) rfl rfl (by kernel_rfl) (by kernel_rfl) (by kernel_rfl) rfl (fun _ _ => (by go_simp)) (fun _ _ _ h => h) (Only.refl _ w).drew ?_
    simp only [Act.put, List.setIfInBounds_toArray, List.set_cons_zero, List.set_cons_succ]
    refine chain_take (i := 3) (d := 11) (v := .pointer (some ⟨g, 6, none⟩)) rfl rfl (by kernel_rfl) (by kernel_rfl) (by kernel_rfl) rfl (fun _ _ => (by go_simp)) (fun _ _ _ h => h) (Only.refl _ w).drew ?_
    simp only [Act.put, List.setIfInBounds_toArray, List.set_cons_zero, List.set_cons_succ]
    refine chain_take (i := 4) (d := 12) (v := .pointer lp) rfl rfl (by kernel_rfl) (by kernel_rfl) (by kernel_rfl) rfl (fun W h => (by have u0 := Only.cellS h NGS c6; go_simp)) (fun _ _ _ h => h) (Only.refl _ w).drew ?_
    simp only [Act.put, List.setIfInBounds_toArray, List.set_cons_zero, List.set_cons_succ]
    refine chain_take (i := 5) (d := 13) (v := uu) rfl rfl (by kernel_rfl) (by kernel_rfl) (by kernel_rfl) rfl (fun _ _ => rfl) (fun _ _ _ h => h) (Only.refl _ w).drew ?_
    simp only [Act.put, List.setIfInBounds_toArray, List.set_cons_zero, List.set_cons_succ]
    refine chain_take (i := 7) (d := 15) (v := .pointer (some ⟨g, 0, none⟩)) rfl rfl (by kernel_rfl) (by kernel_rfl) (by kernel_rfl) rfl (fun _ _ => rfl) (fun _ _ _ h => h) (Only.refl _ w).drew ?_
    simp only [Act.put, List.setIfInBounds_toArray, List.set_cons_zero, List.set_cons_succ]
    refine chain_take (i := 8) (d := 16) (v := .pointer (some ⟨g, 0, none⟩)) rfl rfl (by kernel_rfl) (by kernel_rfl) (by kernel_rfl) rfl (fun _ _ => (by go_simp)) (fun _ _ _ h => h) (Only.refl _ w).drew ?_
    simp only [Act.put, List.setIfInBounds_toArray, List.set_cons_zero, List.set_cons_succ]
    refine chain_take (i := 9) (d := 17) (v := .pointer (some ⟨g, 0, none⟩)) rfl rfl (by kernel_rfl) (by kernel_rfl) (by kernel_rfl) rfl (fun _ _ => (by go_simp)) (fun _ _ _ h => h) (Only.refl _ w).drew ?_
    simp only [Act.put, List.setIfInBounds_toArray, List.set_cons_zero, List.set_cons_succ]
    refine chain_take (i := 10) (d := 18) (v := .agg #[.int .i64 e.h.k, .int .i64 e.h.n, .string e.h.s, .slice e.h.a e.h.m e.h.c]) rfl rfl (by kernel_rfl) (by kernel_rfl) (by kernel_rfl) rfl (fun W h => (by have u0 := Only.cellS h NGS y0; have u1 := Only.cellS h NGS y1; have u2 := Only.cellS h NGS y2; have u3 := Only.cellS h NGS y3; go_simp)) (fun _ _ _ h => h) (Only.refl _ w).drew ?_
    simp only [Act.put, List.setIfInBounds_toArray, List.set_cons_zero, List.set_cons_succ]
    refine chain_call (i := 6) (d := 14) (f := 49) (args := #[.pointer lp, uu]) (by kernel_rfl) rfl rfl rfl (by go_simp) ?_
    refine (HIL.out).mono ?_
    rintro e w1 ⟨u1, hs1, rfl, hf1, hl1⟩
    refine ⟨u1, rfl, (Only.refl S0 w).drew.trans (S' := S0) (HS0.out ▸ hf1.only) (fun _ k => Or.inl k), ?_⟩
    simp only [Act.put, List.setIfInBounds_toArray, List.set_cons_zero, List.set_cons_succ]
    have HCP := Hid.mk (HCO.out w1 ((Only.refl _ w).drew.trans hf1.only (fun _ k => Or.inl k)))
    refine chain_call (i := 11) (d := 19) (f := 54) (args := #[.agg #[.int .i64 e.h.k, .int .i64 e.h.n, .string e.h.s, .slice e.h.a e.h.m e.h.c]]) (by kernel_rfl) rfl rfl rfl (by go_simp) ?_
    refine (HCP.out).mono ?_
    rintro e w2 ⟨⟨tv, rfl, hly⟩, hb2⟩
    refine ⟨tv, rfl, ((Only.refl S0 w).drew.trans (S' := S0) (HS0.out ▸ hf1.only) (fun _ k => Or.inl k)).call hb2, ?_⟩
    simp only [Act.put, List.setIfInBounds_toArray, List.set_cons_zero, List.set_cons_succ]
    obtain ⟨x9, rfl⟩ := th_of hly
    obtain ⟨u3, w3, hr3, hf3⟩ := hf1.snoc HH.out.1 hb2 hly (by have := HH.out.2.1; omega)
    have hs3 : Only S0 w w3 := (Only.refl S0 w).drew.trans (S' := S0) (HS0.out ▸ hf3.only) (fun _ k => Or.inl k)
    have hs2 : Only S0 w w2 := ((Only.refl S0 w).drew.trans (S' := S0) (HS0.out ▸ hf1.only) (fun _ k => Or.inl k)).call hb2
    refine chain_value (i := 12) (d := 20) (v := .slice (some ⟨w2.heap.size, 0, none⟩) 1 1) (w' := w2.alloc (.cells #[.int .i64 x9.k, .int .i64 x9.n, .string x9.s, .slice x9.a x9.m x9.c] 32)) (by kernel_rfl) rfl rfl rfl (by unfold Th.tv; go_simp) (hs2.call (Up.alloc (Up.refl w2)).out) ?_
    simp only [Act.put, List.setIfInBounds_toArray, List.set_cons_zero, List.set_cons_succ]
    refine chain_value (i := 13) (d := 21) (v := u3) (w' := w3) (by kernel_rfl) rfl rfl rfl (exec_append rfl rfl hr3) hs3 ?_
    simp only [Act.put, List.setIfInBounds_toArray, List.set_cons_zero, List.set_cons_succ]
    refine chain_value (i := 14) (d := 1) (v := u3) (w' := w3) (by kernel_rfl) rfl rfl rfl rfl hs3 ?_
    simp only [Act.put, List.setIfInBounds_toArray, List.set_cons_zero, List.set_cons_succ]
    refine wpAnyH_done (by kernel_rfl) ?_ _
    have HF3 := Hid.mk (show FilledT B0 w uu u3 (hs1 ++ [x9]) (l ++ tl.list.map (·.T) ++ [e.T]) w3 from ⟨hf3.fill, HS0.out ▸ hs3, hf3.next⟩)
    have HL1 := Hid.mk hl1
    have HI2 := Hid.mk (HIR.out u3 _ _ w3 HF3.out.only HF3.out.fill (by have := HH.out.2.1; rw [List.length_append, List.length_singleton]; omega))
    have d7 := hs3.cellS NGS c7
    clear hf1 hl1 hb2 hly hr3 hf3 hs3 hs2 y0 y1 y2 y3 c6 c7 NGS
    go_wp2_with (go_at_call 49; refine HI2.out.mono ?_; rintro en w4 ⟨u4, hs4, rfl, hf4, hl4⟩; have HF4 := Hid.mk (And.intro hf4 hl4); clear hf4 hl4)
    go_ret
    refine ⟨u4, hs4, rfl, ?_, ?_⟩
    · have h5 : l ++ (Bt.node g e x tl tr).list.map (·.T) = l ++ tl.list.map (·.T) ++ [e.T] ++ tr.list.map (·.T) := by simp [Bt.list]
      rw [h5]
      exact HF3.out.trans HF4.out.1
    · rw [HF4.out.2, List.length_append, HL1.out]
      simp [Bt.list]
      omega
set_option maxHeartbeats 8000000 in
set_option maxRecDepth 100000 in
theorem keysT_any (p : Nat) (t : Bt) (cm : Int) (K : Nat → Prop) (w : World) (h : TpB w p t cm K) (hz : t.list.length ≤ 700000) :
    Calls Tryd.prog 15 #[.pointer (some ⟨p, 0, none⟩)] w fun e w' => ∃ u hs, e = .returned u ∧ FillT w.heap.size w' u hs ((ndsB t.list).map (·.1)) ∧ Below w.heap.size w w' := by
  obtain ⟨c0, c1, c2, _⟩ := h.cells
  obtain ⟨tp, htp⟩ := ptrB_is t
  rw [htp] at c1
  obtain ⟨N, hN⟩ : ∃ N, t.list.length = N := ⟨_, rfl⟩
  rw [hN] at c2
  have hmk0 := fun W : World => made_row thS N (by omega) W
  obtain ⟨MC, hMC⟩ : ∃ MC, madeCells thS.z.cells (N * thS.k) = MC := ⟨_, rfl⟩
  rw [hMC] at hmk0
  have hmk : ∀ W : World, (Instr.makeSlice 30 (.int .i64 0) (.int .i64 (N : Int))).run Tryd.prog W = .ok (.slice (some ⟨W.heap.size, 0, none⟩) 0 N) (W.alloc (.cells MC 32)) := fun W => (hmk0 W).1
  have HMK := Hid.mk (fun (W : World) => show Ow thS (W.alloc (.cells MC 32)) (.slice (some ⟨W.heap.size, 0, none⟩) 0 N) [] from (hmk0 W).2)
  have HG := Hid.mk (fun (W : World) (hW : Below w.heap.size w W) => htp ▸ gatherB_any w.heap.size K t (.slice (some ⟨W.heap.size, 0, none⟩) 0 N) [] [] (W.alloc (.cells MC 32)) ((h.lay.up hW).up (Up.alloc (Up.refl W)).out) (fun e he => ⟨((h.keys e he).1.below hW).below (Up.alloc (Up.refl W)).out, (h.keys e he).2⟩) (fun k hk => h.lay.lt k hk) (fun k hk => (h.kk k hk).1) (by rw [World.size_alloc]; have := hW.size; omega) ⟨HMK.out W, by rw [Kids]; rfl, fun k hk => (by cases hk; exact hW.size)⟩ (by simp; omega))
  have hmap : (ndsB t.list).map (·.1) = t.list.map (·.T) := by simp [ndsB, Ky.nd]
  rw [hmap]
  clear h hz htp hN hmk0 hMC hmap
  go_enter Tryd.func15, Tryd.ntmps15
  go_upto_region 3 with (go_at_call 37; refine (madeT_any _ _ c0).mono ?_; rintro e w2 ⟨rfl, rfl⟩)
  refine wp_region_held (S := Up w) (by kernel_rfl) ?_
  refine chain_take (i := 0) (d := 6) (v := .pointer (some ⟨p, 0, none⟩)) rfl rfl (by kernel_rfl) (by kernel_rfl) (by kernel_rfl) rfl (fun _ _ => rfl) (fun _ _ _ h => h) (Up.refl w).drew ?_
  simp only [Act.put, List.setIfInBounds_toArray, List.set_cons_zero, List.set_cons_succ]
  refine chain_take (i := 1) (d := 7) (v := .pointer (some ⟨p, 0, none⟩)) rfl rfl (by kernel_rfl) (by kernel_rfl) (by kernel_rfl) rfl (fun _ _ => (by go_simp)) (fun _ _ _ h => h) (Up.refl w).drew ?_
  simp only [Act.put, List.setIfInBounds_toArray, List.set_cons_zero, List.set_cons_succ]
  refine chain_take (i := 2) (d := 8) (v := .pointer (some ⟨p, 1, none⟩)) rfl rfl (by kernel_rfl) (by kernel_rfl) (by kernel_rfl) rfl (fun _ _ => (by go_simp)) (fun _ _ _ h => h) (Up.refl w).drew ?_
  simp only [Act.put, List.setIfInBounds_toArray, List.set_cons_zero, List.set_cons_succ]
  refine chain_take (i := 3) (d := 9) (v := .pointer tp) rfl rfl (by kernel_rfl) (by kernel_rfl) (by kernel_rfl) rfl (fun W h => (by have u0 := cell_below h.out _ _ _ c1; go_simp)) (fun _ _ _ h => h) (Up.refl w).drew ?_
  simp only [Act.put, List.setIfInBounds_toArray, List.set_cons_zero, List.set_cons_succ]
  refine chain_take (i := 4) (d := 10) (v := .pointer (some ⟨p, 0, none⟩)) rfl rfl (by kernel_rfl) (by kernel_rfl) (by kernel_rfl) rfl (fun _ _ => rfl) (fun _ _ _ h => h) (Up.refl w).drew ?_
  simp only [Act.put, List.setIfInBounds_toArray, List.set_cons_zero, List.set_cons_succ]
  refine chain_take (i := 5) (d := 11) (v := .pointer (some ⟨p, 0, none⟩)) rfl rfl (by kernel_rfl) (by kernel_rfl) (by kernel_rfl) rfl (fun _ _ => (by go_simp)) (fun _ _ _ h => h) (Up.refl w).drew ?_
  simp only [Act.put, List.setIfInBounds_toArray, List.set_cons_zero, List.set_cons_succ]
  refine chain_take (i := 6) (d := 12) (v := .pointer (some ⟨p, 2, none⟩)) rfl rfl (by kernel_rfl) (by kernel_rfl) (by kernel_rfl) rfl (fun _ _ => (by go_simp)) (fun _ _ _ h => h) (Up.refl w).drew ?_
  simp only [Act.put, List.setIfInBounds_toArray, List.set_cons_zero, List.set_cons_succ]
  refine chain_take (i := 7) (d := 13) (v := .int .i64 N) rfl rfl (by kernel_rfl) (by kernel_rfl) (by kernel_rfl) rfl (fun W h => (by have u0 := cell_below h.out _ _ _ c2; go_simp)) (fun _ _ _ h => h) (Up.refl w).drew ?_
  simp only [Act.put, List.setIfInBounds_toArray, List.set_cons_zero, List.set_cons_succ]
  refine chain_value (i := 8) (d := 14) (v := .slice (some ⟨w.drew.heap.size, 0, none⟩) 0 N) (w' := w.drew.alloc (.cells MC 32)) (by kernel_rfl) rfl rfl rfl (by go_simp) (Up.refl w).drew.alloc ?_
  simp only [Act.put, List.setIfInBounds_toArray, List.set_cons_zero, List.set_cons_succ]
  refine chain_call (i := 9) (d := 15) (f := 49) (args := #[.pointer tp, .slice (some ⟨w.drew.heap.size, 0, none⟩) 0 N]) (by kernel_rfl) rfl rfl rfl (by go_simp) ?_
  refine (HG.out w.drew (Up.refl w).drew.out).mono ?_
  rintro e w2 ⟨u, hs, rfl, hf, _⟩
  refine ⟨u, rfl, (Up.refl w).drew.alloc.out.trans (hf.only.below (fun k hk => by cases hk; exact Nat.le_refl _) (by rw [World.size_alloc]; exact Nat.le_succ _)), ?_⟩
  simp only [Act.put, List.setIfInBounds_toArray, List.set_cons_zero, List.set_cons_succ]
  have hb2 : Below w.heap.size w w2 := (Up.refl w).drew.alloc.out.trans (hf.only.below (fun k hk => by cases hk; exact Nat.le_refl _) (by rw [World.size_alloc]; exact Nat.le_succ _))
  refine chain_value (i := 10) (d := 2) (v := u) (w' := w2) (by kernel_rfl) rfl rfl rfl rfl hb2 ?_
  simp only [Act.put, List.setIfInBounds_toArray, List.set_cons_zero, List.set_cons_succ]
  refine wpAnyH_done (by kernel_rfl) ?_ _
  have HF := Hid.mk (And.intro hf.fill hb2)
  clear hf hb2 c0 c1 c2 hmk
  go_wp2
  go_ret
  exact ⟨u, hs, rfl, HF.out⟩
end Go.Proofs.YteklhipcojioaaaDoor

/-
  The program's tree: Put.
-/
namespace Go.Proofs.YteklhipcojioaaaDoor
open Go.RowKit Go.Deep Go.Maps Go.WideShapes

/-- What a call that changes the tree leaves: the keys L2. -/
def TurnT (w : World) (p : Nat) (t : Bt) (cm : Int) (K : Nat → Prop) (L2 : List Nd) (w' : World) : Prop := ∃ t' cm' K', TpB w' p t' cm' K' ∧ ndsB t'.list = L2 ∧ Only (fun k => k = p ∨ k ∈ t.blocks) w w' ∧
  (∀ k, (k = p ∨ k ∈ t'.blocks ∨ K' k) → (k = p ∨ k ∈ t.blocks ∨ K k) ∨ w.heap.size ≤ k) ∧ cm ≤ cm' ∧ LowI (cm' - cm) t.list.length
theorem LookT.turn {w w' : World} {p : Nat} {t : Bt} {cm : Int} {K : Nat → Prop} {b : Bool} (h : LookT w p t cm K w' b) : TurnT w p t cm K (ndsB t.list) w' := by
  obtain ⟨cm', h1, h2, h3, h4, _⟩ := h
  exact ⟨t, cm', K, h1, rfl, h2.mono (fun k hk => Or.inl hk), fun k hk => Or.inl hk, h3, h4⟩
/-- The number of keys turned. -/
theorem CtxB.keys {w : World} {p : Nat} {n n' cm : Int} {c : List Fr} {v : Value} (h : CtxB w p n cm c v) (hn : p ∉ blocksC c) : CtxB (w.setCell ⟨p, 2, none⟩ (.int .i64 n')) p n' cm c v := by
  induction c generalizing v with
  | nil => exact put_box h 2 _
  | cons f c ih =>
    obtain ⟨h1, h2, h3⟩ := h
    simp only [blocksC, List.mem_cons, List.mem_append, not_or] at hn
    have ho : Only (fun k => k = p) w (w.setCell ⟨p, 2, none⟩ (.int .i64 n')) := Only.set _ _ rfl
    exact ⟨ho.box h1 (fun e => hn.1 e.symm), h2.kept ho (fun k hk e => hn.2.1 (e ▸ hk)), ih h3 hn.2.2⟩
set_option maxHeartbeats 8000000 in
set_option maxRecDepth 100000 in
theorem putT_any (p : Nat) (t : Bt) (cm : Int) (K F' : Nat → Prop) (T : Tm) (n : Int) (kv : Value) (w : World) (h : TpB w p t cm K) (hk : Lies w F' T kv) (hkp : ¬ F' p) (ho : KeyOk T) (hz : t.list.length ≤ 700000) (hcm : 0 ≤ cm ∧ cm ≤ 1000000000000) (hsh : ShapeTab w) :
    Calls Tryd.prog 20 #[.pointer (some ⟨p, 0, none⟩), kv, .int .i64 n] w fun e w' => e = .returned (.tuple #[.int .i64 (getN (ndsB t.list) T), .bool (isN (ndsB t.list) T), .int .i64 0]) ∧ TurnT w p t cm K (putN (ndsB t.list) T n) w' := by
  obtain ⟨kk, kn, ks, ka, km, kc, rfl⟩ := hk.agg
  obtain ⟨nb, W1, hnb, hW1, hu, b0, b1, b2, b3⟩ := boxed_key w kk kn ks ka km kc
  have h1 := h.up hu
  obtain ⟨c0, _, _, _⟩ := h1.cells
  have HC := Hid.mk (checkI_any T ho.size _ _ W1 (hk.below hu) (hsh.below hu))
  rw [ho.check] at HC
  have HD := Hid.mk (fun (W : World) (hW : Below W1.heap.size W1 W) => downB_any p t.list.length cm T t K F' (.agg #[.int .i64 kk, .int .i64 kn, .string ks, .slice ka km kc]) W (h1.up hW).lay (h1.up hW).top (List.nodup_cons.1 h.nd).1 ((hk.below hu).below hW) hkp h.bal h.rise (by omega) hcm (fun e he => ((h1.up hW).keys e he).1) (fun hK => (h.kk p hK).2.1 rfl))
  have HT := Hid.mk h1
  have HU := Hid.mk hu
  have HW := Hid.mk (And.intro hW1 hnb)
  have HZ := Hid.mk hz
  have HO := Hid.mk ho
  have HLT := Hid.mk (show ∀ k, k = p ∨ k ∈ t.blocks ∨ K k → k < nb from fun k hk => hnb ▸ h.lt k hk)
  have HKT := Hid.mk (And.intro (hk.below hu) hkp)
  clear h h1 hk hkp hz hcm hu hnb hW1 ho hsh
  go_enter Tryd.func20, Tryd.ntmps20
  go_upto_region 1 with fail
  rw [HW.out.1, HW.out.2]
  go_upto_region 7 with (first
    | (go_at_call 52; refine (HD.out _ H2.out).mono ?_; rintro e w3 ⟨v, d, rfl, hd⟩; have HDD := Hid.mk hd; clear hd)
    | (go_at_call 51; refine HC.out.mono ?_; rintro e w2 ⟨rfl, hb⟩; have H2 := Hid.mk hb; replace b0 := cell_below hb _ _ _ b0; replace b1 := cell_below hb _ _ _ b1; replace b2 := cell_below hb _ _ _ b2; replace b3 := cell_below hb _ _ _ b3; clear hb)
    | (go_at_call 37; refine (madeT_any _ _ c0).mono ?_; rintro e w2 ⟨rfl, rfl⟩))
  obtain ⟨cm', hT3, ho3, hle3, hlow3, _⟩ := DownB.tp (HT.out.up H2.out) HDD.out
  have HLK := Hid.mk (And.intro hT3 (And.intro ho3 (And.intro hle3 hlow3)))
  obtain ⟨c, t2, d1, d2, d3, d4, d5, d6, d7, d8, d9⟩ := HDD.out
  have hcnt := fill_cnt t2 c
  rw [d1] at hcnt
  have hperm := fill_blocks t2 c
  rw [d1] at hperm
  have HL := Hid.mk (lastB_any p v c w3 d5 (by have := HZ.out; omega))
  have hOB : Only (fun k => k = p) w w3 := (Only.up (S := fun k => k = p) (HU.out.trans (H2.out.mono HU.out.size))).trans ho3 (fun k hk => Or.inl hk)
  have HOB := Hid.mk hOB
  cases d with
  | true =>
    obtain ⟨g, e, x, l, r, rfl, hcz⟩ := d3 rfl
    have hrise : RisingN (ndsB (Bt.node g e x l r).list) := fill_rising (c := c) (by rw [d1]; exact HT.out.rise)
    obtain ⟨k1, k2, k3⟩ := d2.here hrise hcz
    rw [d1] at k1
    have HV := Hid.mk (show isN (ndsB t.list) T = true ∧ getN (ndsB t.list) T = e.h.num ∧ putN (ndsB t.list) T n = ndsB (preC c ++ l.list) ++ (e.T, n) :: ndsB (r.list ++ postC c) from by
      rw [k1]
      exact ⟨(isN_here k2 k3).2, getN_here k2 k3, putN_here k2 k3⟩)
    obtain ⟨cs, ty, q1, q2, _⟩ := d8.link
    have lk : w3.cell? ⟨(linkC p c).1, (linkC p c).2, none⟩ = some (.pointer (some ⟨g, 0, none⟩)) := by simp only [World.cell?, q1]; exact q2
    have y4 : w3.cell? ⟨g, 4, none⟩ = some (.int .i64 e.h.num) := by simp [World.cell?, d7.1, cellsB]
    have HG := Hid.mk d7.1
    obtain ⟨Lb, hLb⟩ : ∃ Lb, (linkC p c).1 = Lb := ⟨_, rfl⟩
    obtain ⟨Lo', hLo⟩ : ∃ Lo', (linkC p c).2 = Lo' := ⟨_, rfl⟩
    rw [hLb, hLo] at lk HL
    have HX := Hid.mk (And.intro d1 (And.intro d7 (And.intro d8 hperm)))
    clear hrise k1 k2 k3 d1 d2 d3 d4 d5 d6 d7 d8 d9 q1 q2 hLb hLo hcz hcnt hperm hT3 ho3 hle3 hlow3 hOB b0 b1 b2 b3 c0
    go_upto_region 9 with (go_at_call 53; refine HL.out.mono ?_; rintro en w4 ⟨rfl, rfl⟩)
    have z4 : w3.frozen? ⟨g, 4, none⟩ = false := by simp [World.frozen?, HG.out]
    refine wp_region_last (last := 13) (S := Up w3) (by kernel_rfl) ?_
    refine last_take (i := 0) (d := 30) (v := .pointer (some ⟨Lb, Lo', none⟩)) rfl rfl (by kernel_rfl) (by kernel_rfl) (by kernel_rfl) (by kernel_rfl) rfl (fun _ _ => rfl) (fun _ _ _ h => h) (Up.refl w3).drew ?_
    simp only [Act.put, List.setIfInBounds_toArray, List.set_cons_zero, List.set_cons_succ]
    refine last_take (i := 1) (d := 31) (v := .pointer (some ⟨Lb, Lo', none⟩)) rfl rfl (by kernel_rfl) (by kernel_rfl) (by kernel_rfl) (by kernel_rfl) rfl (fun _ _ => (by go_simp)) (fun _ _ _ h => h) (Up.refl w3).drew ?_
    simp only [Act.put, List.setIfInBounds_toArray, List.set_cons_zero, List.set_cons_succ]
    refine last_take (i := 2) (d := 32) (v := .pointer (some ⟨g, 0, none⟩)) rfl rfl (by kernel_rfl) (by kernel_rfl) (by kernel_rfl) (by kernel_rfl) rfl (fun W h => (by have u0 := cell_below h.out _ _ _ lk; go_simp)) (fun _ _ _ h => h) (Up.refl w3).drew ?_
    simp only [Act.put, List.setIfInBounds_toArray, List.set_cons_zero, List.set_cons_succ]
    refine last_take (i := 3) (d := 33) (v := .pointer (some ⟨Lb, Lo', none⟩)) rfl rfl (by kernel_rfl) (by kernel_rfl) (by kernel_rfl) (by kernel_rfl) rfl (fun _ _ => rfl) (fun _ _ _ h => h) (Up.refl w3).drew ?_
    simp only [Act.put, List.setIfInBounds_toArray, List.set_cons_zero, List.set_cons_succ]
    refine last_take (i := 4) (d := 34) (v := .pointer (some ⟨Lb, Lo', none⟩)) rfl rfl (by kernel_rfl) (by kernel_rfl) (by kernel_rfl) (by kernel_rfl) rfl (fun _ _ => (by go_simp)) (fun _ _ _ h => h) (Up.refl w3).drew ?_
    simp only [Act.put, List.setIfInBounds_toArray, List.set_cons_zero, List.set_cons_succ]
    refine last_take (i := 5) (d := 35) (v := .pointer (some ⟨g, 0, none⟩)) rfl rfl (by kernel_rfl) (by kernel_rfl) (by kernel_rfl) (by kernel_rfl) rfl (fun W h => (by have u0 := cell_below h.out _ _ _ lk; go_simp)) (fun _ _ _ h => h) (Up.refl w3).drew ?_
    simp only [Act.put, List.setIfInBounds_toArray, List.set_cons_zero, List.set_cons_succ]
    refine last_take (i := 6) (d := 36) (v := .pointer (some ⟨g, 0, none⟩)) rfl rfl (by kernel_rfl) (by kernel_rfl) (by kernel_rfl) (by kernel_rfl) rfl (fun _ _ => (by go_simp)) (fun _ _ _ h => h) (Up.refl w3).drew ?_
    simp only [Act.put, List.setIfInBounds_toArray, List.set_cons_zero, List.set_cons_succ]
    refine last_take (i := 7) (d := 37) (v := .pointer (some ⟨g, 4, none⟩)) rfl rfl (by kernel_rfl) (by kernel_rfl) (by kernel_rfl) (by kernel_rfl) rfl (fun _ _ => (by go_simp)) (fun _ _ _ h => h) (Up.refl w3).drew ?_
    simp only [Act.put, List.setIfInBounds_toArray, List.set_cons_zero, List.set_cons_succ]
    refine last_take (i := 8) (d := 38) (v := .int .i64 e.h.num) rfl rfl (by kernel_rfl) (by kernel_rfl) (by kernel_rfl) (by kernel_rfl) rfl (fun W h => (by have u0 := cell_below h.out _ _ _ y4; go_simp)) (fun _ _ _ h => h) (Up.refl w3).drew ?_
    simp only [Act.put, List.setIfInBounds_toArray, List.set_cons_zero, List.set_cons_succ]
    refine last_take (i := 9) (d := 39) (v := .int .i64 n) rfl rfl (by kernel_rfl) (by kernel_rfl) (by kernel_rfl) (by kernel_rfl) rfl (fun _ _ => rfl) (fun _ _ _ h => h) (Up.refl w3).drew ?_
    simp only [Act.put, List.setIfInBounds_toArray, List.set_cons_zero, List.set_cons_succ]
    refine last_take (i := 10) (d := 2) (v := .int .i64 e.h.num) rfl rfl (by kernel_rfl) (by kernel_rfl) (by kernel_rfl) (by kernel_rfl) rfl (fun _ _ => rfl) (fun _ _ _ h => h) (Up.refl w3).drew ?_
    simp only [Act.put, List.setIfInBounds_toArray, List.set_cons_zero, List.set_cons_succ]
    obtain ⟨WD, hWD⟩ : ∃ WD, ({ w3 with drawn := w3.drawn + 1 } : World) = WD := ⟨_, rfl⟩
    have hud : Up w3 WD := by rw [← hWD]; exact (Up.refl w3).drew
    have hgd : WD.heap[g]? = some (.cells (cellsB e x (ptrB l) (ptrB r)) 82) := by rw [← hWD]; exact HG.out
    have u4 : WD.cell? ⟨g, 4, none⟩ = some (.int .i64 e.h.num) := by simp [World.cell?, hgd, cellsB]
    have v4 : WD.frozen? ⟨g, 4, none⟩ = false := by simp [World.frozen?, hgd]
    rw [hWD]
    refine last_value (i := 11) (d := 40) (v := .pointer (some ⟨g, 0, none⟩)) (w' := WD) (by kernel_rfl) rfl rfl rfl (by go_simp) (hud) ?_
    simp only [Act.put, List.setIfInBounds_toArray, List.set_cons_zero, List.set_cons_succ]
    refine last_value (i := 12) (d := 41) (v := .pointer (some ⟨g, 4, none⟩)) (w' := WD) (by kernel_rfl) rfl rfl rfl (by go_simp) (hud) ?_
    simp only [Act.put, List.setIfInBounds_toArray, List.set_cons_zero, List.set_cons_succ]
    refine last_store (w' := WD.setCell ⟨g, 4, none⟩ (.int .i64 n)) (by kernel_rfl) rfl rfl rfl (by go_simp) (by kernel_rfl) ?_
    have HP := Hid.mk (show TurnT w p t cm K (putN (ndsB t.list) T n) (WD.setCell ⟨g, 4, none⟩ (.int .i64 n)) from by
      obtain ⟨x1, _, _, hperm⟩ := HX.out
      obtain ⟨tp3, to3, tl3, tlow3⟩ := HLK.out
      obtain ⟨x2, x3⟩ := CtxB.split (c := c) (t := .node g e x l r) (by rw [x1]; exact tp3.lay) (by rw [x1]; exact tp3.top)
      have hset : Only (fun k => k = g) w3 (WD.setCell ⟨g, 4, none⟩ (.int .i64 n)) := Only.put (S := fun k => k = g) (Only.up hud) rfl 4 _
      have hgm : g ∈ t.blocks := (List.Perm.mem_iff hperm).2 (by simp [Bt.blocks])
      obtain ⟨_, xl, xr⟩ := x2
      have hnd := (List.Perm.nodup_iff (hperm.cons p)).1 tp3.nd
      simp only [Bt.blocks, List.cons_append, List.nodup_cons, List.mem_cons, List.mem_append, not_or] at hnd
      obtain ⟨⟨ng, npl, npc⟩, ⟨ngl, ngc⟩, _⟩ := hnd
      have l2 : LayB (WD.setCell ⟨g, 4, none⟩ (.int .i64 n)) (.node g ⟨{ e.h with num := n }, e.T⟩ x l r) := ⟨put_box hgd 4 _, xl.kept hset (fun k hk e0 => ngl.1 (e0 ▸ hk)), xr.kept hset (fun k hk e0 => ngl.2 (e0 ▸ hk))⟩
      have c2 := x3.kept hset (fun k hk e0 => by
        rcases hk with e1 | e1
        · exact ng (e1.symm.trans e0)
        · exact ngc (e0 ▸ e1))
      obtain ⟨f1, f2⟩ := CtxB.fill (t := .node g ⟨{ e.h with num := n }, e.T⟩ x l r) l2 c2
      have hlist : (fillB (.node g ⟨{ e.h with num := n }, e.T⟩ x l r) c).list = preC c ++ l.list ++ ⟨{ e.h with num := n }, e.T⟩ :: (r.list ++ postC c) := by rw [fill_list]; simp [Bt.list]
      have hlist0 : t.list = preC c ++ l.list ++ e :: (r.list ++ postC c) := by rw [← x1, fill_list]; simp [Bt.list]
      have hnds : ndsB (fillB (.node g ⟨{ e.h with num := n }, e.T⟩ x l r) c).list = putN (ndsB t.list) T n := by
        rw [hlist, HV.out.2.2, nds_app, nds_cons]
        rfl
      have hlen : (fillB (.node g ⟨{ e.h with num := n }, e.T⟩ x l r) c).list.length = t.list.length := by rw [hlist, hlist0]; simp
      have hbl : (fillB (.node g ⟨{ e.h with num := n }, e.T⟩ x l r) c).blocks.Perm t.blocks := (fill_blocks _ c).trans hperm.symm
      have hbal0 := fill_bal (t := .node g e x l r) (c := c) (by rw [x1]; exact tp3.bal)
      refine ⟨_, _, K, ⟨f1, ?_, (List.Perm.nodup_iff (hbl.cons p)).2 tp3.nd, fill_swap (t := .node g e x l r) (by rw [x1]; exact tp3.bal) hbal0 rfl, ?_, ?_, ?_⟩, hnds, ?_, ?_, tl3, tlow3⟩
      · rw [hlen]; exact f2
      · rw [hnds]; exact tp3.rise.put T n
      · intro e' he'
        have hmem : ∃ e0 ∈ t.list, e0.T = e'.T ∧ e0.tv = e'.tv := by
          rw [hlist] at he'
          rw [hlist0]
          rcases List.mem_append.1 he' with h1 | h1
          · exact ⟨e', List.mem_append_left _ h1, rfl, rfl⟩
          · rcases List.mem_cons.1 h1 with rfl | h1
            · exact ⟨e, by simp, rfl, rfl⟩
            · exact ⟨e', List.mem_append_right _ (List.mem_cons_of_mem _ h1), rfl, rfl⟩
        obtain ⟨e0, m0, m1, m2⟩ := hmem
        obtain ⟨m3, m4⟩ := tp3.keys e0 m0
        rw [m1, m2] at m3
        rw [m1] at m4
        exact ⟨m3.move (fun _ h => h) (fun b o u hb hc => hset.cellS (fun e1 => (tp3.kk b hb).2.2 (e1 ▸ hgm)) hc) _ _, m4⟩
      · intro b hb
        obtain ⟨m1, m2, m3⟩ := tp3.kk b hb
        exact ⟨Nat.lt_of_lt_of_le m1 hset.size, m2, fun hm => m3 ((List.Perm.mem_iff hbl).1 hm)⟩
      · exact (HOB.out.mono (fun k hk => Or.inl hk)).trans hset (fun k hk => Or.inl (Or.inr (by rw [hk]; exact hgm)))
      · intro k hk
        left
        rcases hk with e1 | e1 | e1
        · exact Or.inl e1
        · exact Or.inr (Or.inl ((List.Perm.mem_iff hbl).1 e1))
        · exact Or.inr (Or.inr e1))
    clear hWD hud hgd u4 v4 z4 y4 lk
    go_wp2
    refine bodyPost_ret (v := .tuple #[.int .i64 e.h.num, .bool true, .int .i64 0]) (by simp [results]) rfl ⟨by rw [HV.out.1, HV.out.2.1], HP.out⟩
  | false =>
    obtain rfl := d4 rfl
    obtain ⟨k1, k2, k3⟩ := d2.none
    rw [d1] at k1 k2 k3
    have HV := Hid.mk (show isN (ndsB t.list) T = false ∧ getN (ndsB t.list) T = 0 ∧ putN (ndsB t.list) T n = ndsB (preC c) ++ (T, n) :: ndsB (postC c) from by
      refine ⟨k3, by unfold getN; rw [k3]; rfl, ?_⟩
      rw [k1]
      exact putN_none (nds_lt d2.pre) (nds_gt d2.post))
    obtain ⟨x2, x3⟩ := CtxB.split (c := c) (t := .nil) (by rw [d1]; exact hT3.lay) (by rw [d1]; exact hT3.top)
    have hpn : p ≠ nb := by have := HLT.out p (Or.inl rfl); omega
    replace b0 := ho3.cellS (fun e => hpn e.symm) b0
    replace b1 := ho3.cellS (fun e => hpn e.symm) b1
    replace b2 := ho3.cellS (fun e => hpn e.symm) b2
    replace b3 := ho3.cellS (fun e => hpn e.symm) b3
    have HCP := Hid.mk (copyO_any T HO.out.size HO.out.short F' (.agg #[.int .i64 kk, .int .i64 kn, .string ks, .slice ka km kc]) w3 ((HKT.out.1.below H2.out).move (fun _ h => h) (fun b o u hb hc => ho3.cellS (fun e0 => HKT.out.2 (e0 ▸ hb)) hc) _ _))
    obtain ⟨cs, ty, q1, q2, q3⟩ := x3.link
    have HLKM := Hid.mk (link_mem p c)
    have hpc : p ∉ blocksC c := fun hm => (List.nodup_cons.1 hT3.nd).1 ((List.Perm.mem_iff hperm).2 (List.mem_append_right _ hm))
    have hndc : (p :: blocksC c).Nodup := by
      have := (List.Perm.nodup_iff (hperm.cons p)).1 hT3.nd
      simpa [Bt.blocks] using this
    obtain ⟨Lb, hLb⟩ : ∃ Lb, (linkC p c).1 = Lb := ⟨_, rfl⟩
    obtain ⟨Lo', hLo⟩ : ∃ Lo', (linkC p c).2 = Lo' := ⟨_, rfl⟩
    rw [hLb, hLo] at HL
    rw [hLb] at q1
    rw [hLo] at q2
    simp only [hLb, hLo] at q3
    have HLB := Hid.mk (And.intro hLb hLo)
    have HQ := Hid.mk (And.intro q1 (And.intro q2 q3))
    have HX := Hid.mk (And.intro d1 (And.intro x3 (And.intro hperm (And.intro hpc (And.intro hndc (And.intro d5 d6))))))
    obtain ⟨N0, hN0⟩ : ∃ N0, t.list.length = N0 := ⟨_, rfl⟩
    have hwN : IntKind.i64.wrap ((N0 : Int) + 1) = (N0 : Int) + 1 := by have := HZ.out; exact wrap_id (by omega) (by omega)
    have HN0 := Hid.mk hN0
    clear k1 k2 k3 d1 d2 d3 d4 d5 d6 d7 d8 d9 x2 x3 q1 q2 q3 hpc hndc hLb hLo hcnt hperm hT3 ho3 hle3 hlow3 hOB c0 hN0
    go_upto_region 11 with (go_at_call 53; refine HL.out.mono ?_; rintro en w4 ⟨rfl, rfl⟩)
    go_upto_region 12 with (go_at_call 54; refine HCP.out.mono ?_; rintro en w4 ⟨⟨tv, rfl, hown⟩, hb4⟩; obtain ⟨tk, tn, ts, ta, tm, tc, rfl⟩ := hown.agg; have HB4 := Hid.mk (And.intro hown hb4); obtain ⟨w5, hw5⟩ : ∃ w5, w4.alloc (.cells #[.int .i64 tk, .int .i64 tn, .string ts, .slice ta tm tc, .int .i64 n, .int .i64 0, .pointer none, .pointer none] 82) = w5 := ⟨_, rfl⟩; have HW5 := Hid.mk hw5; have hb5 : Below w3.heap.size w3 w5 := (by rw [← hw5]; exact hb4.trans ((Up.alloc (Up.refl w4)).out.mono hb4.size)); have hx5 : w5.heap[Lb]? = some (.cells cs ty) := (hb5.block Lb (Array.getElem?_eq_some_iff.1 HQ.out.1).1).trans HQ.out.1; have HB5 := Hid.mk (And.intro hb5 hx5); have s0 : w5.cell? ⟨Lb, Lo', none⟩ = some (.pointer none) := (by simp only [World.cell?, hx5]; exact HQ.out.2.1); have z0 : w5.frozen? ⟨Lb, Lo', none⟩ = false := (by simp [World.frozen?, hx5]); obtain ⟨GN, hGN⟩ : ∃ GN, w4.heap.size = GN := ⟨_, rfl⟩; have HGN := Hid.mk hGN; clear hown hb4 hb5 hx5)
    obtain ⟨hown, hb4⟩ := HB4.out
    obtain ⟨hb5, hx5⟩ := HB5.out
    have hw5' := HW5.out
    have hGN' := HGN.out
    obtain ⟨hLb, hLo⟩ := HLB.out
    obtain ⟨d1, x3, hperm, hpc, hndc, d5, d6⟩ := HX.out
    obtain ⟨tp3, to3, tl3, tlow3⟩ := HLK.out
    obtain ⟨w6, hw6⟩ : ∃ w6, w5.setCell ⟨Lb, Lo', none⟩ (.pointer (some ⟨GN, 0, none⟩)) = w6 := ⟨_, rfl⟩
    have ho6 : Only (fun k => k = Lb) w5 w6 := by rw [← hw6]; exact Only.set _ _ rfl
    have hc6 : CtxB w6 p t.list.length cm' c (.pointer (some ⟨GN, 0, none⟩)) := HQ.out.2.2 w6 _ (by rw [← hw6]; exact put_box hx5 Lo' _) (fun k hk hne => by
      have hk3 : k < w3.heap.size := by
        rcases hk with rfl | hk
        · exact x3.lt.1
        · exact x3.lt.2 k hk
      rw [ho6.block k (Nat.lt_of_lt_of_le hk3 hb5.size) hne, hb5.block k hk3]) hndc
    obtain ⟨tu, htu⟩ := hc6.top
    have hNN := HN0.out
    rw [hNN] at hc6 htu
    have s2 : w6.cell? ⟨p, 2, none⟩ = some (.int .i64 N0) := by simp [World.cell?, htu, topB]
    have z2 : w6.frozen? ⟨p, 2, none⟩ = false := by simp [World.frozen?, htu, topB]
    have hbx5 : w5.heap[GN]? = some (.cells (cellsB ⟨⟨tk, tn, ts, ta, tm, tc, n⟩, T⟩ 0 (.pointer none) (.pointer none)) 82) := by rw [← hw5', ← hGN']; exact new_block _ _
    have hLb3 : Lb < w3.heap.size := (Array.getElem?_eq_some_iff.1 HQ.out.1).1
    have hp3 : p < w3.heap.size := x3.lt.1
    have hGN3 : w3.heap.size ≤ GN := by rw [← hGN']; exact hb4.size
    have hbx6 := ho6.box hbx5 (fun e => by omega)
    obtain ⟨w7, hw7⟩ : ∃ w7, w6.setCell ⟨p, 2, none⟩ (.int .i64 ((N0 : Int) + 1)) = w7 := ⟨_, rfl⟩
    have ho7 : Only (fun k => k = p) w6 w7 := by rw [← hw7]; exact Only.set _ _ rfl
    have hc7 : CtxB w7 p ((N0 : Int) + 1) cm' c (ptrB (.node GN ⟨⟨tk, tn, ts, ta, tm, tc, n⟩, T⟩ 0 .nil .nil)) := by rw [← hw7]; exact hc6.keys hpc
    have hl7 : LayB w7 (.node GN ⟨⟨tk, tn, ts, ta, tm, tc, n⟩, T⟩ 0 .nil .nil) := ⟨ho7.box hbx6 (fun e => by omega), trivial, trivial⟩
    have hbk := bk_ok (t0 := .nil) (t := .node GN ⟨⟨tk, tn, ts, ta, tm, tc, n⟩, T⟩ 0 .nil .nil) (c := c) (by rw [d1]; exact tp3.bal) ⟨trivial, trivial, by decide, by decide⟩ (by show (1 : Int) ≤ 0 + 1; decide) (by show (0 : Int) ≤ 1 + 1; decide)
    have hlt3 : ∀ k ∈ blocksC c, k < w3.heap.size := fun k hk => x3.lt.2 k hk
    have hnd7 : (p :: ((Bt.node GN ⟨⟨tk, tn, ts, ta, tm, tc, n⟩, T⟩ 0 .nil .nil).blocks ++ blocksC c)).Nodup := by
      show (p :: ([GN] ++ blocksC c)).Nodup
      obtain ⟨n1, n2⟩ := List.nodup_cons.1 hndc
      refine List.nodup_cons.2 ⟨fun hm => ?_, List.nodup_cons.2 ⟨fun hm => ?_, n2⟩⟩
      · rcases List.mem_cons.1 hm with e | e
        · omega
        · exact n1 e
      · have := hlt3 GN hm; omega
    have hfl : (fillB (.node GN ⟨⟨tk, tn, ts, ta, tm, tc, n⟩, T⟩ 0 .nil .nil) c).list.length = t.list.length + 1 := by
      rw [← d1, fill_list, fill_list]
      simp [Bt.list]
      omega
    have hcl := fill_cnt .nil c
    rw [d1] at hcl
    have hvl : ∀ k, v.ownBlock = some k → k < w3.heap.size := fun k hk => d5.lt hk
    have hvn : ∀ k, v.ownBlock = some k → ¬ (k = p ∨ k ∈ (Bt.node GN ⟨⟨tk, tn, ts, ta, tm, tc, n⟩, T⟩ 0 .nil .nil).blocks ∨ k ∈ blocksC c) := fun k hk hh => by
      have h1 := d6 k hk
      have h2 := hvl k hk
      have h3 := HU.out.size
      have h5 := H2.out.size
      have h4 := HW.out.2
      rcases hh with e | e | e
      · have := HLT.out p (Or.inl rfl); omega
      · simp [Bt.blocks] at e; omega
      · have := HLT.out k (Or.inr (Or.inl ((List.Perm.mem_iff hperm).2 (List.mem_append_right _ e)))); omega
    have ho57 : Only (fun k => k = p ∨ k ∈ blocksC c) w3 w7 := ((Only.up hb5).trans ho6 (fun k hk => Or.inl (by
      subst hk
      rcases HLKM.out with e | e
      · exact Or.inl (hLb.symm.trans e)
      · exact Or.inr (hLb ▸ e)))).trans ho7 (fun k hk => Or.inl (Or.inl hk))
    have hb45 : Below w4.heap.size w4 w5 := by rw [← hw5']; exact (Up.alloc (Up.refl w4)).out
    have ho47 : Only (fun k => k = p ∨ k ∈ blocksC c) w4 w7 := ((Only.up hb45).trans ho6 (fun k hk => Or.inl (by
      subst hk
      rcases HLKM.out with e | e
      · exact Or.inl (hLb.symm.trans e)
      · exact Or.inr (hLb ▸ e)))).trans ho7 (fun k hk => Or.inl (Or.inl hk))
    have hrow7 : Ow wayS w7 v (waysC p c) := d5.kept ho57 (fun g hg e => hvn g hg (by rcases e with e | e; exact Or.inl e; exact Or.inr (Or.inr e)))
    have HBK := Hid.mk (backB_any p ((N0 : Int) + 1) cm' v c _ w7 hrow7 hl7 hc7 hnd7 hbk.1 (by rw [hfl]; have := HZ.out; omega) (by have := HZ.out; omega) hvn)
    have H7 := Hid.mk (And.intro hbk.2 (And.intro ho57 (And.intro hnd7 (And.intro hfl ho47))))
    clear hown hb4 hb5 hx5 hw5' hGN' hLb hLo d1 x3 hperm hpc hndc d5 d6 tp3 to3 tl3 tlow3 ho6 hc6 htu hbx5 hLb3 hp3 hGN3 hbx6 ho7 hc7 hl7 hbk hlt3 hnd7 hfl hcl hvl hvn ho57 ho47 hb45 hrow7 hNN b0 b1 b2 b3 s0 z0
    go_wp2_with (go_at_call 55; refine HBK.out.mono ?_; rintro en w8 ⟨⟨un, rfl⟩, m1, m2, m3⟩; have H8 := Hid.mk (And.intro m1 (And.intro m2 m3)); clear m1 m2 m3)
    refine bodyPost_ret (v := .tuple #[.int .i64 0, .bool false, .int .i64 0]) (by simp [results]) rfl ⟨by rw [HV.out.1, HV.out.2.1], ?_⟩
    obtain ⟨hown, hb4⟩ := HB4.out
    obtain ⟨d1, x3, hperm, hpc, hndc, d5, d6⟩ := HX.out
    obtain ⟨tp3, to3, tl3, tlow3⟩ := HLK.out
    obtain ⟨hbal, ho57, hnd7, hfl, ho47⟩ := H7.out
    obtain ⟨m1, m2, m3⟩ := H8.out
    have hGN' := HGN.out
    have hbl := bk_blocks (.node GN ⟨⟨tk, tn, ts, ta, tm, tc, n⟩, T⟩ 0 .nil .nil) c
    have hli := bk_list (.node GN ⟨⟨tk, tn, ts, ta, tm, tc, n⟩, T⟩ 0 .nil .nil) c
    have hli0 : t.list = preC c ++ postC c := by rw [← d1, fill_list]; simp [Bt.list]
    have hnds : ndsB (bkB (.node GN ⟨⟨tk, tn, ts, ta, tm, tc, n⟩, T⟩ 0 .nil .nil) c).list = putN (ndsB t.list) T n := by
      rw [hli, HV.out.2.2]
      simp [Bt.list, ndsB, Ky.nd]
    have hlen : (((bkB (.node GN ⟨⟨tk, tn, ts, ta, tm, tc, n⟩, T⟩ 0 .nil .nil) c).list.length : Nat) : Int) = (N0 : Int) + 1 := by
      have := HN0.out
      rw [hli, ← this, hli0]
      simp [Bt.list]
      omega
    have hlt3 : ∀ k, k = p ∨ k ∈ blocksC c → k ∈ t.blocks ∨ k = p := fun k hk => by
      rcases hk with e | e
      · exact Or.inr e
      · exact Or.inl ((List.Perm.mem_iff hperm).2 (List.mem_append_right _ e))
    have hm3 : ∀ k, (k = p ∨ k ∈ (Bt.node GN ⟨⟨tk, tn, ts, ta, tm, tc, n⟩, T⟩ 0 .nil .nil).blocks ∨ k ∈ blocksC c) → k = p ∨ k ∈ t.blocks ∨ k = GN := fun k hk => by
      rcases hk with e | e | e
      · exact Or.inl e
      · simp [Bt.blocks] at e; exact Or.inr (Or.inr e)
      · rcases hlt3 k (Or.inr e) with e | e
        · exact Or.inr (Or.inl e)
        · exact Or.inl e
    have hon8 : Only (fun k => k = p ∨ k ∈ t.blocks ∨ k = GN) w3 w8 := (ho57.mono (fun k hk => by rcases hlt3 k hk with e | e; exact Or.inr (Or.inl e); exact Or.inl e)).trans m3 (fun k hk => Or.inl (hm3 k hk))
    have hsz3 := hb4.size
    have hK3 : ∀ b, K b → b < w3.heap.size := fun b hb => (tp3.kk b hb).1
    have hs1 := HU.out.size
    have hs2 := H2.out.size
    have hs3 := to3.size
    have hnw := HW.out.2
    refine ⟨_, cm', fun b => K b ∨ (w3.heap.size ≤ b ∧ b < GN), ⟨m1, by rw [hlen]; exact m2, (List.Perm.nodup_iff (hbl.cons p)).2 hnd7, hbal, by rw [hnds]; exact tp3.rise.put T n, ?_, ?_⟩, hnds, ?_, ?_, tl3, tlow3⟩
    · intro e' he'
      rw [hli] at he'
      have hold : ∀ e0 ∈ t.list, Lies w8 (fun b => K b ∨ (w3.heap.size ≤ b ∧ b < GN)) e0.T e0.tv ∧ KeyOk e0.T := fun e0 h0 => ⟨(tp3.keys e0 h0).1.move (fun _ h => Or.inl h) (fun b o u hb hc => hon8.cellS (fun e1 => by
        have h9 := tp3.kk b hb
        rcases e1 with e1 | e1 | e1
        · exact h9.2.1 e1
        · exact h9.2.2 e1
        · omega) hc) _ _, (tp3.keys e0 h0).2⟩
      simp only [Bt.list, List.nil_append, List.append_assoc, List.mem_append, List.mem_cons, List.cons_append] at he'
      rcases he' with e1 | e1 | e1
      · exact hold e' (by rw [hli0]; exact List.mem_append_left _ e1)
      · subst e1
        have hly := Own.lies _ _ _ _ hown
        have hon4 : Only (fun k => k = p ∨ k ∈ t.blocks ∨ k = GN) w4 w8 := (ho47.mono (fun k hk => by rcases hlt3 k hk with e | e; exact Or.inr (Or.inl e); exact Or.inl e)).trans m3 (fun k hk => Or.inl (hm3 k hk))
        exact ⟨hly.move (fun b hb => Or.inr (by rw [← hGN']; exact hb)) (fun b o u hb hc => hon4.cellS (fun e1 => by
            rcases e1 with e1 | e1 | e1
            · have := HLT.out p (Or.inl rfl); omega
            · have := HLT.out b (Or.inr (Or.inl e1)); omega
            · omega) hc) _ _, HO.out⟩
      · exact hold e' (by rw [hli0]; exact List.mem_append_right _ e1)
    · intro b hb
      have hmem : b ∈ (bkB (.node GN ⟨⟨tk, tn, ts, ta, tm, tc, n⟩, T⟩ 0 .nil .nil) c).blocks → b = GN ∨ b ∈ t.blocks := fun hm => by
        have := (List.Perm.mem_iff hbl).1 hm
        rcases List.mem_append.1 this with e | e
        · simp [Bt.blocks] at e; exact Or.inl e
        · exact Or.inr ((List.Perm.mem_iff hperm).2 (List.mem_append_right _ e))
      have hs8 := hon8.size
      have hs78 := m3.size
      have hs47 := ho47.size
      rcases hb with hb | hb
      · obtain ⟨g1, g2, g3⟩ := tp3.kk b hb
        refine ⟨by omega, g2, fun hm => ?_⟩
        rcases hmem hm with e | e
        · omega
        · exact g3 e
      · refine ⟨by omega, fun e => by have := HLT.out p (Or.inl rfl); omega, fun hm => ?_⟩
        rcases hmem hm with e | e
        · omega
        · have := HLT.out b (Or.inr (Or.inl e)); omega
    · refine (HOB.out.mono (fun k hk => Or.inl hk)).trans hon8 (fun k hk => ?_)
      rcases hk with e | e | e
      · exact Or.inl (Or.inl e)
      · exact Or.inl (Or.inr e)
      · right; have := HOB.out.size; omega
    · intro k hk
      have hs0 := HOB.out.size
      rcases hk with e | e | e
      · exact Or.inl (Or.inl e)
      · have := (List.Perm.mem_iff hbl).1 e
        rcases List.mem_append.1 this with e | e
        · simp [Bt.blocks] at e; right; omega
        · exact Or.inl (Or.inr (Or.inl ((List.Perm.mem_iff hperm).2 (List.mem_append_right _ e))))
      · rcases e with e | e
        · exact Or.inl (Or.inr (Or.inr e))
        · right; omega
set_option maxHeartbeats 4000000 in
set_option maxRecDepth 100000 in
theorem putT_bad (p : Nat) (t : Bt) (cm : Int) (K F' : Nat → Prop) (T : Tm) (n : Int) (kv : Value) (w : World) (h : TpB w p t cm K) (hk : Lies w F' T kv) (hsz : T.size ≤ 1000000) (hck : T.check ≠ 0) (hsh : ShapeTab w) :
    Calls Tryd.prog 20 #[.pointer (some ⟨p, 0, none⟩), kv, .int .i64 n] w fun e w' => e = .returned (.tuple #[.int .i64 0, .bool false, .int .i64 T.check]) ∧ Below w.heap.size w w' := by
  obtain ⟨kk, kn, ks, ka, km, kc, rfl⟩ := hk.agg
  obtain ⟨nb, W1, hnb, hW1, hu, b0, b1, b2, b3⟩ := boxed_key w kk kn ks ka km kc
  obtain ⟨c0, _, _, _⟩ := (h.up hu).cells
  have HC := Hid.mk (checkI_any T hsz _ _ W1 (hk.below hu) (hsh.below hu))
  have HU := Hid.mk hu
  have HW := Hid.mk (And.intro hW1 hnb)
  generalize T.check = E at *
  have hE : ¬ E = 0 := hck
  clear h hk hsz hu hnb hW1 hck hsh
  go_enter Tryd.func20, Tryd.ntmps20
  go_upto_region 1 with fail
  rw [HW.out.1, HW.out.2]
  go_wp2_with (first
    | (go_at_call 51; refine HC.out.mono ?_; rintro e w2 ⟨rfl, hb⟩; have H2 := Hid.mk (HU.out.trans (hb.mono HU.out.size)); clear hb)
    | (go_at_call 37; refine (madeT_any _ _ c0).mono ?_; rintro e w2 ⟨rfl, rfl⟩))
  refine bodyPost_ret (by simp [results]) rfl ⟨rfl, H2.out⟩
end Go.Proofs.YteklhipcojioaaaDoor

/-
  The program's tree: a node cut out; what is left, made even.
-/
namespace Go.Proofs.YteklhipcojioaaaDoor
open Go.RowKit Go.Deep Go.Maps Go.WideShapes

/-- The last node on the right of a part: the way to it, and what the part has but for its key. -/
theorem down_last (l : Bt) (hl : l ≠ .nil) : ∃ gg eg xg lg cc A, (∀ d, downB true l d = ⟨gg, true, eg, xg, lg⟩ :: (cc ++ d)) ∧ l.list = A ++ lg.list ++ [eg] ∧ (∀ d, preC (cc ++ d) = preC d ++ A ∧ postC (cc ++ d) = postC d ∧ fillB (.node gg eg xg lg .nil) (cc ++ d) = fillB l d) := by
  induction l with
  | nil => exact absurd rfl hl
  | node g e x l r il ir =>
    by_cases hr : r = .nil
    · subst hr
      exact ⟨g, e, x, l, [], [], fun d => by rw [downB, if_pos rfl]; rfl, by simp [Bt.list], fun d => ⟨by simp, rfl, rfl⟩⟩
    · obtain ⟨gg, eg, xg, lg, cc, A, h1, h2, h3⟩ := ir hr
      refine ⟨gg, eg, xg, lg, cc ++ [⟨g, true, e, x, l⟩], l.list ++ [e] ++ A, fun d => ?_, ?_, fun d => ?_⟩
      · rw [downB, if_pos rfl, h1, List.append_assoc]; rfl
      · rw [Bt.list, h2]; simp
      · obtain ⟨k1, k2, k3⟩ := h3 (⟨g, true, e, x, l⟩ :: d)
        rw [List.append_assoc]
        refine ⟨?_, ?_, ?_⟩
        · show preC (cc ++ (⟨g, true, e, x, l⟩ :: d)) = _
          rw [k1]; simp [preC]
        · show postC (cc ++ (⟨g, true, e, x, l⟩ :: d)) = _
          rw [k2]; simp [postC]
        · show fillB _ (cc ++ (⟨g, true, e, x, l⟩ :: d)) = _
          rw [k3]; rfl
theorem blocks_app (cc d : List Fr) : blocksC (cc ++ d) = blocksC cc ++ blocksC d := by
  induction cc with
  | nil => rfl
  | cons f cc ih => simp [blocksC, ih]
/-- Another key in a node that is passed. -/
theorem CtxB.rekey {w w' : World} {p : Nat} {n cm : Int} {cc c : List Fr} {f : Fr} {eg : Ky} {v : Value} (h : CtxB w p n cm (cc ++ f :: c) v) (ho : Only (fun k => k = f.g) w w')
    (hg : ∀ u, w.heap[f.g]? = some (.cells (f.cs u) 82) → w'.heap[f.g]? = some (.cells (({ f with e := eg } : Fr).cs u) 82)) (hn : (p :: blocksC (cc ++ f :: c)).Nodup) : CtxB w' p n cm (cc ++ { f with e := eg } :: c) v := by
  induction cc generalizing v with
  | nil =>
    obtain ⟨h1, h2, h3⟩ := h
    simp only [List.nil_append, blocksC, List.nodup_cons, List.mem_cons, List.mem_append, not_or] at hn
    exact ⟨hg _ h1, h2.kept ho (fun k hk e => hn.2.1.1 (e ▸ hk)), h3.kept ho (fun k hk e => by
      rcases hk with e1 | e1
      · exact hn.1.1 (e1.symm.trans e)
      · exact hn.2.1.2 (e ▸ e1))⟩
  | cons f2 cc ih =>
    obtain ⟨h1, h2, h3⟩ := h
    have hn' := hn
    simp only [List.cons_append, blocksC, List.nodup_cons, List.mem_cons, List.mem_append, not_or] at hn'
    have hfm : f.g ∈ blocksC (cc ++ f :: c) := by rw [blocks_app]; simp [blocksC]
    have hnd := hn'.2.2
    rw [List.nodup_append] at hnd
    refine ⟨ho.box h1 (fun e => hn'.2.1.2 (e ▸ hfm)), h2.kept ho (fun k hk e => hnd.2.2 k hk f.g hfm e), ih h3 (List.nodup_cons.2 ⟨hn'.1.2.2, hnd.2.1⟩)⟩
theorem CtxB.at_ {w : World} {p : Nat} {n cm : Int} {cc c : List Fr} {f : Fr} {v : Value} (h : CtxB w p n cm (cc ++ f :: c) v) : ∃ u, w.heap[f.g]? = some (.cells (f.cs u) 82) := by
  induction cc generalizing v with
  | nil => exact ⟨v, h.1⟩
  | cons f2 cc ih => exact ih h.2.2
theorem ways_rekey (p : Nat) (cc c : List Fr) (f : Fr) (eg : Ky) : waysC p (cc ++ { f with e := eg } :: c) = waysC p (cc ++ f :: c) := by
  induction cc with
  | nil => rfl
  | cons f2 cc ih =>
    show waysC p (cc ++ { f with e := eg } :: c) ++ [_] = waysC p (cc ++ f :: c) ++ [_]
    rw [ih]
    rfl
theorem blocks_rekey (cc c : List Fr) (f : Fr) (eg : Ky) : blocksC (cc ++ { f with e := eg } :: c) = blocksC (cc ++ f :: c) := by
  rw [blocks_app, blocks_app]
  rfl
/-- A node's key written over by another. -/
theorem rekey_cells {w : World} {f : Fr} {u : Value} (h : w.heap[f.g]? = some (.cells (f.cs u) 82)) (eg : Ky) :
    ((((((w.setCell ⟨f.g, 0, none⟩ (.int .i64 eg.h.k)).setCell ⟨f.g, 1, none⟩ (.int .i64 eg.h.n)).setCell ⟨f.g, 2, none⟩ (.string eg.h.s)).setCell ⟨f.g, 3, none⟩ (.slice eg.h.a eg.h.m eg.h.c)).setCell ⟨f.g, 4, none⟩ (.int .i64 eg.h.num))).heap[f.g]? = some (.cells (({ f with e := eg } : Fr).cs u) 82) := by
  have e : (((((f.cs u).setIfInBounds 0 (.int .i64 eg.h.k)).setIfInBounds 1 (.int .i64 eg.h.n)).setIfInBounds 2 (.string eg.h.s)).setIfInBounds 3 (.slice eg.h.a eg.h.m eg.h.c)).setIfInBounds 4 (.int .i64 eg.h.num) = ({ f with e := eg } : Fr).cs u := by
    obtain ⟨g, sd, e, x, o⟩ := f
    cases sd <;> simp [Fr.cs, cellsB]
  have h1 := put_box h 0 (.int .i64 eg.h.k)
  have h2 := put_box h1 1 (.int .i64 eg.h.n)
  have h3 := put_box h2 2 (.string eg.h.s)
  have h4 := put_box h3 3 (.slice eg.h.a eg.h.m eg.h.c)
  have h5 := put_box h4 4 (.int .i64 eg.h.num)
  rw [e] at h5
  exact h5
/-- A node is cut out: what stands at its place now, the way there, the memory. -/
structure CutB (p : Nat) (t : Bt) (cm' : Int) (K : Nat → Prop) (L2 : List Nd) (w w5 : World) (v4 : Value) (c4 : List Fr) (t4 : Bt) : Prop where
  row : Ow wayS w5 v4 (waysC p c4)
  own : ∀ k, v4.ownBlock = some k → w.heap.size ≤ k
  lay : LayB w5 t4
  ctx : ∃ ua, CtxB w5 p t.list.length cm' c4 (.pointer ua)
  nd : (p :: (t4.blocks ++ blocksC c4)).Nodup
  steps : StepsB t4 c4
  bal : (bkB t4 c4).Bal
  list : ndsB (preC c4 ++ t4.list ++ postC c4) = L2
  rise : RisingN L2
  sub : ∀ k, k ∈ t4.blocks ++ blocksC c4 → k ∈ t.blocks
  mem : ∀ e ∈ preC c4 ++ t4.list ++ postC c4, Lies w5 K e.T e.tv ∧ KeyOk e.T
  only : Only (fun k => k = p ∨ k ∈ t.blocks) w w5
  len : (preC c4 ++ t4.list ++ postC c4).length + 1 = t.list.length
theorem CutB.clen {p : Nat} {t : Bt} {cm' : Int} {K : Nat → Prop} {L2 : List Nd} {w w5 : World} {v4 : Value} {c4 : List Fr} {t4 : Bt} (h : CutB p t cm' K L2 w w5 v4 c4 t4) : c4.length ≤ t.list.length := by
  have h1 := h.len
  have h2 := prepost_len c4
  simp only [List.length_append] at h1
  omega
/-- The tree's box behind the link has been written. -/
theorem CutB.mid {p : Nat} {t : Bt} {cm' : Int} {K : Nat → Prop} {L2 : List Nd} {w w5 w6 : World} {v4 : Value} {c4 : List Fr} {t4 : Bt} (h : CutB p t cm' K L2 w w5 v4 c4 t4) (hw6 : w6 = w5.setCell ⟨(linkC p c4).1, (linkC p c4).2, none⟩ (ptrB t4)) : ∃ u, w6.heap[p]? = some (topB p t.list.length cm' u) := by
  obtain ⟨ua, hctx⟩ := h.ctx
  obtain ⟨cs, ty, q1, q2, q3⟩ := hctx.link
  have hndc : (p :: blocksC c4).Nodup := by
    obtain ⟨n1, n2⟩ := List.nodup_cons.1 h.nd
    exact List.nodup_cons.2 ⟨fun hm => n1 (List.mem_append_right _ hm), (List.nodup_append.1 n2).2.1⟩
  have ho6 : Only (fun k => k = (linkC p c4).1) w5 w6 := by rw [hw6]; exact Only.set _ _ rfl
  have hc6 : CtxB w6 p t.list.length cm' c4 (ptrB t4) := q3 w6 _ (by rw [hw6]; exact put_box q1 _ _) (fun k hk hne => ho6.block k (by
    rcases hk with rfl | hk
    · exact hctx.lt.1
    · exact hctx.lt.2 k hk) hne) hndc
  exact hc6.top
/-- The way back, then: the tree without the key. -/
theorem CutB.back {p : Nat} {t : Bt} {cm cm' : Int} {K : Nat → Prop} {L2 : List Nd} {w w5 w6 w7 : World} {v4 : Value} {c4 : List Fr} {t4 : Bt} (h : CutB p t cm' K L2 w w5 v4 c4 t4) (hlt : ∀ k, k = p ∨ k ∈ t.blocks ∨ K k → k < w.heap.size) (hpt : p ∉ t.blocks) (hK : ∀ b, K b → b ≠ p ∧ b ∉ t.blocks) (hz : t.list.length ≤ 700000)
    (hle : cm ≤ cm') (hlow : LowI (cm' - cm) t.list.length) (hw6 : w6 = w5.setCell ⟨(linkC p c4).1, (linkC p c4).2, none⟩ (ptrB t4)) (hw7 : w7 = w6.setCell ⟨p, 2, none⟩ (.int .i64 ((t.list.length : Int) - 1))) :
    Calls Tryd.prog 55 #[v4] w7 fun en w' => (∃ u, en = .returned u) ∧ TurnT w p t cm K L2 w' := by
  obtain ⟨ua, hctx⟩ := h.ctx
  obtain ⟨cs, ty, q1, q2, q3⟩ := hctx.link
  have hndc : (p :: blocksC c4).Nodup := by
    obtain ⟨n1, n2⟩ := List.nodup_cons.1 h.nd
    exact List.nodup_cons.2 ⟨fun hm => n1 (List.mem_append_right _ hm), (List.nodup_append.1 n2).2.1⟩
  have hlm := link_mem p c4
  have ho6 : Only (fun k => k = (linkC p c4).1) w5 w6 := by rw [hw6]; exact Only.set _ _ rfl
  have hc6 : CtxB w6 p t.list.length cm' c4 (ptrB t4) := q3 w6 _ (by rw [hw6]; exact put_box q1 _ _) (fun k hk hne => ho6.block k (by
    rcases hk with rfl | hk
    · exact hctx.lt.1
    · exact hctx.lt.2 k hk) hne) hndc
  have hl6 : LayB w6 t4 := h.lay.kept ho6 (fun k hk e => by
    rcases hlm with e1 | e1
    · exact (List.nodup_cons.1 h.nd).1 (List.mem_append_left _ (by rw [← e1, ← e]; exact hk))
    · exact (List.nodup_append.1 (List.nodup_cons.1 h.nd).2).2.2 k hk _ e1 e)
  have ho7 : Only (fun k => k = p) w6 w7 := by rw [hw7]; exact Only.set _ _ rfl
  have hc7 : CtxB w7 p ((t.list.length : Int) - 1) cm' c4 (ptrB t4) := by rw [hw7]; exact hc6.keys (List.nodup_cons.1 hndc).1
  have hl7 : LayB w7 t4 := hl6.kept ho7 (fun k hk e => (List.nodup_cons.1 h.nd).1 (List.mem_append_left _ (e ▸ hk)))
  have hsub : ∀ k, k = p ∨ k ∈ t4.blocks ∨ k ∈ blocksC c4 → k = p ∨ k ∈ t.blocks := fun k hk => by
    rcases hk with e | e | e
    · exact Or.inl e
    · exact Or.inr (h.sub k (List.mem_append_left _ e))
    · exact Or.inr (h.sub k (List.mem_append_right _ e))
  have hlink : (linkC p c4).1 = p ∨ (linkC p c4).1 ∈ t.blocks := by
    rcases hlm with e | e
    · exact Or.inl e
    · exact Or.inr (h.sub _ (List.mem_append_right _ e))
  have ho57 : Only (fun k => k = p ∨ k ∈ t.blocks) w5 w7 := (ho6.mono (fun k hk => by subst hk; exact hlink)).trans ho7 (fun k hk => Or.inl (Or.inl hk))
  have hvb : ∀ g, v4.ownBlock = some g → ¬ (g = p ∨ g ∈ t.blocks) := fun g hg hh => by
    have h1 := h.own g hg
    have h2 := hlt g (by rcases hh with e | e; exact Or.inl e; exact Or.inr (Or.inl e))
    omega
  have hrow7 := h.row.kept ho57 (fun g hg hh => hvb g hg hh)
  have hfl : (fillB t4 c4).list.length ≤ 800000 := by
    have := h.len
    rw [fill_list]
    omega
  refine (backB_any p ((t.list.length : Int) - 1) cm' v4 c4 t4 w7 hrow7 hl7 hc7 h.nd h.steps hfl (by have := h.clen; omega) (fun g hg hh => hvb g hg (hsub g hh))).mono fun en w' hh => ?_
  obtain ⟨h1, h2, h3, h4⟩ := hh
  have ho5 : Only (fun k => k = p ∨ k ∈ t.blocks) w5 w' := ho57.trans (h4.mono hsub) (fun k hk => Or.inl hk)
  have how := h.only.trans ho5 (fun k hk => Or.inl hk)
  have hli := bk_list t4 c4
  have hbl := bk_blocks t4 c4
  have hbs : ∀ k ∈ (bkB t4 c4).blocks, k ∈ t.blocks := fun k hk => h.sub k ((List.Perm.mem_iff hbl).1 hk)
  have hlen : (((bkB t4 c4).list.length : Nat) : Int) = (t.list.length : Int) - 1 := by
    have := h.len
    rw [hli]
    omega
  refine ⟨h1, bkB t4 c4, cm', K, ⟨h2, by rw [hlen]; exact h3, (List.Perm.nodup_iff (hbl.cons p)).2 h.nd, h.bal, by rw [hli, h.list]; exact h.rise, fun e he => ?_, fun b hb => ?_⟩, by rw [hli]; exact h.list, how, fun k hk => Or.inl ?_, hle, hlow⟩
  · rw [hli] at he
    obtain ⟨m1, m2⟩ := h.mem e he
    exact ⟨m1.move (fun _ h => h) (fun b o u hb hc => ho5.cellS (fun e1 => by
      rcases e1 with e1 | e1
      · exact (hK b hb).1 e1
      · exact (hK b hb).2 e1) hc) _ _, m2⟩
  · exact ⟨Nat.lt_of_lt_of_le (hlt b (Or.inr (Or.inr hb))) how.size, (hK b hb).1, fun hm => (hK b hb).2 (hbs b hm)⟩
  · rcases hk with e | e | e
    · exact Or.inl e
    · exact Or.inr (Or.inl (hbs k e))
    · exact Or.inr (Or.inr e)
end Go.Proofs.YteklhipcojioaaaDoor
