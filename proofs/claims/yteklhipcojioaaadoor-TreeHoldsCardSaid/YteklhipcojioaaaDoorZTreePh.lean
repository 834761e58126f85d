/-
  The program's tree as the laws have it: made, told, counted; the number of a key.
-/
import Derived.Test.YteklhipcojioaaaDoorZTreePg
import Derived.LaidEqlPtr
namespace Go.Proofs.YteklhipcojioaaaDoor
open Go.RowKit Go.Deep Go.Maps Go.WideShapes

/-- A key that a tree may have. -/
structure KeyOk (T : Tm) : Prop where
  check : T.check = 0
  size : T.size ≤ 1000000
  short : T.Short
/-- At most 2 log2(n + 1). -/
def LowI (x : Int) (n : Nat) : Prop := 0 ≤ x ∧ 2 ^ x.toNat ≤ (n + 1) ^ 2
/-- The program's tree: its box at p, its nodes t, the parts of its keys in blocks of K. -/
structure TpB (w : World) (p : Nat) (t : Bt) (cm : Int) (K : Nat → Prop) : Prop where
  lay : LayB w t
  top : CtxB w p t.list.length cm [] (ptrB t)
  nd : (p :: t.blocks).Nodup
  bal : t.Bal
  rise : RisingN (ndsB t.list)
  keys : ∀ e ∈ t.list, Lies w K e.T e.tv ∧ KeyOk e.T
  kk : ∀ b, K b → b < w.heap.size ∧ b ≠ p ∧ b ∉ t.blocks
def TbP (w : World) (p : Nat) (S : Nat → Prop) (L : List Nd) (c h : Int) : Prop := ∃ t K, TpB w p t c K ∧ ndsB t.list = L ∧ t.ht = h ∧ ∀ k, S k ↔ k = p ∨ k ∈ t.blocks ∨ K k
/-- What a call leaves: a tree in memory of its own, the elder one or new. -/
def StT (Tb : World → Nat → (Nat → Prop) → List Nd → Int → Int → Prop) (w : World) (p : Nat) (S : Nat → Prop) (L : List Nd) (c h : Int) (w' : World) : Prop := ∃ S', Tb w' p S' L c h ∧ Only S w w' ∧ ∀ k, S' k → S k ∨ w.heap.size ≤ k
section
variable {w w' : World} {p : Nat} {t : Bt} {cm : Int} {K : Nat → Prop}
theorem TpB.kept {X : Nat → Prop} (h : TpB w p t cm K) (ho : Only X w w') (hX : ∀ k, k = p ∨ k ∈ t.blocks ∨ K k → ¬ X k) : TpB w' p t cm K :=
  ⟨h.lay.kept ho (fun k hk => hX k (Or.inr (Or.inl hk))), h.top.kept ho (fun k hk => hX k (by rcases hk with e | e; exact Or.inl e; cases e)), h.nd, h.bal, h.rise,
    fun e he => ⟨(h.keys e he).1.move (fun _ h => h) (fun b o u hb hc => ho.cellS (hX b (Or.inr (Or.inr hb))) hc) _ _, (h.keys e he).2⟩, fun b hb => ⟨Nat.lt_of_lt_of_le (h.kk b hb).1 ho.size, (h.kk b hb).2⟩⟩
theorem TpB.up (h : TpB w p t cm K) (hb : Below w.heap.size w w') : TpB w' p t cm K := h.kept (X := fun _ => False) (Only.up hb) (fun _ _ f => f)
theorem TpB.lt (h : TpB w p t cm K) : ∀ k, k = p ∨ k ∈ t.blocks ∨ K k → k < w.heap.size := fun k hk => by
  rcases hk with rfl | hk | hk
  · exact h.top.lt.1
  · exact h.lay.lt k hk
  · exact (h.kk k hk).1
theorem TpB.cells (h : TpB w p t cm K) : w.cell? ⟨p, 0, none⟩ = some (.pointer (some ⟨p, 0, none⟩)) ∧ w.cell? ⟨p, 1, none⟩ = some (ptrB t) ∧ w.cell? ⟨p, 2, none⟩ = some (.int .i64 t.list.length) ∧ w.cell? ⟨p, 3, none⟩ = some (.int .i64 cm) := by
  have h0 : w.heap[p]? = some (topB p t.list.length cm (ptrB t)) := h.top
  simp [World.cell?, h0, topB]
end
theorem TbP.kept {w w' : World} {p : Nat} {S X : Nat → Prop} {L : List Nd} {c h : Int} (ht : TbP w p S L c h) (ho : Only X w w') (hX : ∀ k, S k → ¬ X k) : TbP w' p S L c h := by
  obtain ⟨t, K, h1, h2, h3, h4⟩ := ht
  exact ⟨t, K, h1.kept ho (fun k hk => hX k ((h4 k).2 hk)), h2, h3, h4⟩
theorem TbP.lt {w : World} {p : Nat} {S : Nat → Prop} {L : List Nd} {c h : Int} (ht : TbP w p S L c h) : ∀ k, S k → k < w.heap.size := by
  obtain ⟨t, K, h1, h2, h3, h4⟩ := ht
  exact fun k hk => h1.lt k ((h4 k).1 hk)
/-- What is left behind a way down. -/
theorem DownB.tp {w w' : World} {p : Nat} {t : Bt} {cm : Int} {K : Nat → Prop} {T : Tm} {v : Value} {d : Bool} (h : TpB w p t cm K) (hd : DownB p t.list.length cm T t w v d w') : ∃ cm', TpB w' p t cm' K ∧ Only (fun k => k = p) w w' ∧ cm ≤ cm' ∧ LowI (cm' - cm) t.list.length ∧ (d = true → cm < cm') := by
  obtain ⟨c, t2, h1, h2, h3, h4, h5, h6, h7, h8, h9⟩ := hd
  subst h1
  obtain ⟨k1, k2⟩ := h8.fill h7
  have hp1 := fill_len h.bal
  have hlow := h.bal.low.1
  have ht2 := (fill_bal h.bal).pos
  have hle : (c.length : Int) + (if d = true then 1 else 0) ≤ (fillB t2 c).ht := by
    cases d with
    | false => rw [if_neg (by decide)]; omega
    | true =>
      obtain ⟨g, e, x, l, r, rfl, _⟩ := h3 rfl
      obtain ⟨b1, _, _, b4, b5⟩ := fill_bal h.bal
      have := b4.pos
      rw [ht_node] at hp1
      rw [if_pos rfl]
      omega
  have hge : (0 : Int) ≤ (if d = true then 1 else 0) := by split <;> decide
  refine ⟨_, ⟨k1, k2, h.nd, h.bal, h.rise, fun e he => ⟨(h.keys e he).1.move (fun _ h => h) (fun b o u hb hc => h9.cellS (h.kk b hb).2.1 hc) _ _, (h.keys e he).2⟩, fun b hb => ⟨Nat.lt_of_lt_of_le (h.kk b hb).1 h9.size, (h.kk b hb).2⟩⟩, h9, by omega, ⟨by omega, ?_⟩, fun e0 => by rw [if_pos e0]; omega⟩
  refine Nat.le_trans (Nat.pow_le_pow_right (by decide) ?_) hlow
  omega
theorem eql_selfT (p : Nat) : ∀ w : World, (binOp .eql 23 (.pointer (some ⟨p, 0, none⟩)) (.pointer (some ⟨p, 0, none⟩))).run Tryd.prog w = .ok (.bool true) w := fun w => by
  obtain ⟨i0, hi⟩ : ∃ i0, Tryd.prog.info? 45 = some i0 := Option.isSome_iff_exists.1 (by kernel_rfl)
  exact run_eql_ptr_same w _ Tryd.underlying23 hi
theorem madeT_any (p : Nat) (w : World) (c0 : w.cell? ⟨p, 0, none⟩ = some (.pointer (some ⟨p, 0, none⟩))) : Calls Tryd.prog 37 #[.pointer (some ⟨p, 0, none⟩)] w fun e w' => e = .returned (.bool true) ∧ w = w' := by
  have he := eql_selfT p
  go_enter Tryd.func37, Tryd.ntmps37
  go_wp2
  go_ret
  exact ⟨rfl, rfl⟩
theorem lenT_any {w : World} {p : Nat} {t : Bt} {cm : Int} {K : Nat → Prop} (h : TpB w p t cm K) : Calls Tryd.prog 13 #[.pointer (some ⟨p, 0, none⟩)] w fun e w' => e = .returned (.int .i64 t.list.length) ∧ w = w' := by
  obtain ⟨c0, c1, c2, c3⟩ := h.cells
  clear h
  go_enter Tryd.func13, Tryd.ntmps13
  go_wp2_with (go_at_call 37; refine (madeT_any _ _ c0).mono ?_; rintro e w2 ⟨rfl, rfl⟩)
  go_ret
  exact ⟨rfl, rfl⟩
theorem comparedT_any {w : World} {p : Nat} {t : Bt} {cm : Int} {K : Nat → Prop} (h : TpB w p t cm K) : Calls Tryd.prog 10 #[.pointer (some ⟨p, 0, none⟩)] w fun e w' => e = .returned (.int .i64 cm) ∧ w = w' := by
  obtain ⟨c0, c1, c2, c3⟩ := h.cells
  clear h
  go_enter Tryd.func10, Tryd.ntmps10
  go_wp2_with (go_at_call 37; refine (madeT_any _ _ c0).mono ?_; rintro e w2 ⟨rfl, rfl⟩)
  go_ret
  exact ⟨rfl, rfl⟩
theorem heightT_any {w : World} {p : Nat} {t : Bt} {cm : Int} {K : Nat → Prop} (h : TpB w p t cm K) : Calls Tryd.prog 14 #[.pointer (some ⟨p, 0, none⟩)] w fun e w' => e = .returned (.int .i64 t.ht) ∧ Below w.heap.size w w' := by
  obtain ⟨c0, c1, c2, c3⟩ := h.cells
  obtain ⟨tp, htp⟩ := ptrB_is t
  rw [htp] at c1
  have HT := Hid.mk (tallV_any t (.pointer tp) w h.lay htp)
  clear h htp
  go_enter Tryd.func14, Tryd.ntmps14
  go_wp2_with (first
    | (go_at_call 48; refine HT.out.mono ?_; rintro e w2 ⟨rfl, hb⟩; have HB := Hid.mk hb; clear hb)
    | (go_at_call 37; refine (madeT_any _ _ c0).mono ?_; rintro e w2 ⟨rfl, rfl⟩))
  go_ret
  exact ⟨rfl, HB.out⟩
set_option maxHeartbeats 4000000 in
theorem newT_any (w : World) : Calls Tryd.prog 8 #[] w fun e w' => ∃ p, e = .returned (.pointer (some ⟨p, 0, none⟩)) ∧ TpB w' p .nil 0 (fun _ => False) ∧ w.heap.size ≤ p ∧ Below w.heap.size w w' := by
  go_enter Tryd.func8, Tryd.ntmps8
  go_wp2
  go_ret
  refine ⟨w.heap.size, rfl, ⟨trivial, ?_, by simp [Bt.blocks], trivial, List.Pairwise.nil, fun e he => (by cases he), fun b hb => hb.elim⟩, Nat.le_refl _, ?_⟩
  · exact new_block w _
  · exact (Up.refl w).alloc.out
theorem Own.agg {w : World} {T : Tm} {lo hi : Nat} {v : Value} (h : Own w T lo hi v) : ∃ k n s a m c, v = .agg #[.int .i64 k, .int .i64 n, .string s, .slice a m c] := (Own.lies _ _ _ _ h).agg
/-- A box ahead of a term's own memory is written. -/
theorem own_set4 {w : World} {T : Tm} {lo hi lo' nb : Nat} {v v0 v1 v2 v3 : Value} (h : Own w T lo hi v) (hi2 : hi ≤ w.heap.size) (hn : nb < lo) (hl : lo' ≤ lo) : Own ((((w.setCell ⟨nb, 0, none⟩ v0).setCell ⟨nb, 1, none⟩ v1).setCell ⟨nb, 2, none⟩ v2).setCell ⟨nb, 3, none⟩ v3) T lo' ((((w.setCell ⟨nb, 0, none⟩ v0).setCell ⟨nb, 1, none⟩ v1).setCell ⟨nb, 2, none⟩ v2).setCell ⟨nb, 3, none⟩ v3).heap.size v := by
  have ho : Only (fun k => k = nb) w ((((w.setCell ⟨nb, 0, none⟩ v0).setCell ⟨nb, 1, none⟩ v1).setCell ⟨nb, 2, none⟩ v2).setCell ⟨nb, 3, none⟩ v3) := ((((Only.refl (fun k => k = nb) w).put rfl 0 v0).put rfl 1 v1).put rfl 2 v2).put rfl 3 v3
  exact Own.move _ _ _ _ _ _ hl (Nat.le_trans hi2 ho.size) (fun k hk hk2 => ho.block k (by omega) (by omega)) h
theorem own_zero (w : World) (lo hi : Nat) : Own w zeroTm lo hi (.agg #[.int .i64 0, .int .i64 0, .string ⟨#[]⟩, .slice none 0 0]) := Own.mk (l := []) ⟨by omega, by omega, by omega, by omega, (Nat.zero_le _ : 0 ≤ 9223372036854775807)⟩ ⟨[], ⟨rfl, Or.inl ⟨rfl, rfl⟩⟩, fun g hg => (by cases hg), by rw [Kids]⟩
set_option maxHeartbeats 4000000 in
set_option maxRecDepth 100000 in
/-- A node told: its key in new memory. -/
theorem tellB_any (g : Nat) (e : Ky) (h : Int) (u v : Value) (K : Nat → Prop) (w : World) (hg : w.heap[g]? = some (.cells (cellsB e h u v) 82)) (hk : Lies w K e.T e.tv) (ho : KeyOk e.T) :
    Calls Tryd.prog 75 #[.pointer (some ⟨g, 0, none⟩)] w fun en w' => ∃ tv, en = .returned (.tuple #[tv, .int .i64 e.h.num, .bool true]) ∧ (∃ lo, w.heap.size < lo ∧ Own w' e.T lo w'.heap.size tv) ∧ Below w.heap.size w w' := by
  obtain ⟨nb, hnb⟩ : ∃ nb, w.heap.size = nb := ⟨_, rfl⟩
  obtain ⟨W1, hW1⟩ : ∃ W1, w.alloc (.cells #[.int .i64 0, .int .i64 0, .string ⟨#[]⟩, .slice none 0 0] 32) = W1 := ⟨_, rfl⟩
  have hu : Up w W1 := by rw [← hW1]; exact (Up.refl w).alloc
  have hsz : W1.heap.size = nb + 1 := by rw [← hW1, World.size_alloc, hnb]
  have hbox : W1.heap[nb]? = some (.cells #[.int .i64 0, .int .i64 0, .string ⟨#[]⟩, .slice none 0 0] 32) := by rw [← hW1, ← hnb]; exact new_block w _
  have y0 : w.cell? ⟨g, 0, none⟩ = some (.int .i64 e.h.k) := by simp [World.cell?, hg, cellsB]
  have y1 : w.cell? ⟨g, 1, none⟩ = some (.int .i64 e.h.n) := by simp [World.cell?, hg, cellsB]
  have y2 : w.cell? ⟨g, 2, none⟩ = some (.string e.h.s) := by simp [World.cell?, hg, cellsB]
  have y3 : w.cell? ⟨g, 3, none⟩ = some (.slice e.h.a e.h.m e.h.c) := by simp [World.cell?, hg, cellsB]
  have y4 : w.cell? ⟨g, 4, none⟩ = some (.int .i64 e.h.num) := by simp [World.cell?, hg, cellsB]
  have HC := Hid.mk (fun (W : World) (hW : Below w.heap.size w W) => copyO_any e.T ho.size ho.short K (.agg #[.int .i64 e.h.k, .int .i64 e.h.n, .string e.h.s, .slice e.h.a e.h.m e.h.c]) W (hk.below hW))
  have HW := Hid.mk (And.intro hW1 (And.intro hnb (And.intro hbox hsz)))
  have HU := Hid.mk hu
  have HD : Up w W1.drew := hu.drew
  clear hu hbox hW1 hnb hg hk ho hsz
  go_enter Tryd.func75, Tryd.ntmps75
  go_upto_region 1 with fail
  rw [HW.out.1, HW.out.2.1]
  refine wp_region_held (S := Up w) (by kernel_rfl) ?_
  refine chain_take (i := 0) (d := 5) (v := .pointer (some ⟨g, 0, none⟩)) rfl rfl (by kernel_rfl) (by kernel_rfl) (by kernel_rfl) rfl (fun _ _ => rfl) (fun _ _ _ h => h) HD ?_
  simp only [Act.put, List.setIfInBounds_toArray, List.set_cons_zero, List.set_cons_succ]
  refine chain_take (i := 1) (d := 6) (v := .pointer (some ⟨g, 0, none⟩)) rfl rfl (by kernel_rfl) (by kernel_rfl) (by kernel_rfl) rfl (fun _ _ => (by go_simp)) (fun _ _ _ h => h) HD ?_
  simp only [Act.put, List.setIfInBounds_toArray, List.set_cons_zero, List.set_cons_succ]
  refine chain_take (i := 2) (d := 7) (v := .pointer (some ⟨g, 0, none⟩)) rfl rfl (by kernel_rfl) (by kernel_rfl) (by kernel_rfl) rfl (fun _ _ => (by go_simp)) (fun _ _ _ h => h) HD ?_
  simp only [Act.put, List.setIfInBounds_toArray, List.set_cons_zero, List.set_cons_succ]
  refine chain_take (i := 3) (d := 8) (v := .agg #[.int .i64 e.h.k, .int .i64 e.h.n, .string e.h.s, .slice e.h.a e.h.m e.h.c]) rfl rfl (by kernel_rfl) (by kernel_rfl) (by kernel_rfl) rfl (fun W h => (by have u0 := cell_below h.out _ _ _ y0; have u1 := cell_below h.out _ _ _ y1; have u2 := cell_below h.out _ _ _ y2; have u3 := cell_below h.out _ _ _ y3; go_simp)) (fun _ _ _ h => h) HD ?_
  simp only [Act.put, List.setIfInBounds_toArray, List.set_cons_zero, List.set_cons_succ]
  refine chain_take (i := 5) (d := 10) (v := .pointer (some ⟨g, 0, none⟩)) rfl rfl (by kernel_rfl) (by kernel_rfl) (by kernel_rfl) rfl (fun _ _ => rfl) (fun _ _ _ h => h) HD ?_
  simp only [Act.put, List.setIfInBounds_toArray, List.set_cons_zero, List.set_cons_succ]
  refine chain_take (i := 6) (d := 11) (v := .pointer (some ⟨g, 0, none⟩)) rfl rfl (by kernel_rfl) (by kernel_rfl) (by kernel_rfl) rfl (fun _ _ => (by go_simp)) (fun _ _ _ h => h) HD ?_
  simp only [Act.put, List.setIfInBounds_toArray, List.set_cons_zero, List.set_cons_succ]
  refine chain_take (i := 7) (d := 12) (v := .pointer (some ⟨g, 4, none⟩)) rfl rfl (by kernel_rfl) (by kernel_rfl) (by kernel_rfl) rfl (fun _ _ => (by go_simp)) (fun _ _ _ h => h) HD ?_
  simp only [Act.put, List.setIfInBounds_toArray, List.set_cons_zero, List.set_cons_succ]
  refine chain_take (i := 8) (d := 13) (v := .int .i64 e.h.num) rfl rfl (by kernel_rfl) (by kernel_rfl) (by kernel_rfl) rfl (fun W h => (by have u0 := cell_below h.out _ _ _ y4; go_simp)) (fun _ _ _ h => h) HD ?_
  simp only [Act.put, List.setIfInBounds_toArray, List.set_cons_zero, List.set_cons_succ]
  refine chain_call (i := 4) (d := 9) (f := 54) (args := #[.agg #[.int .i64 e.h.k, .int .i64 e.h.n, .string e.h.s, .slice e.h.a e.h.m e.h.c]]) (by kernel_rfl) rfl rfl rfl (by go_simp) ?_
  refine (HC.out _ HD.out).mono ?_
  rintro e w3 ⟨⟨tv, rfl, hly⟩, hb3⟩
  refine ⟨tv, rfl, HD.call hb3, ?_⟩
  simp only [Act.put, List.setIfInBounds_toArray, List.set_cons_zero, List.set_cons_succ]
  obtain ⟨tk, tn, ts, ta, tm, tc, rfl⟩ := hly.agg
  have hbx : w3.heap[nb]? = some (.cells #[.int .i64 0, .int .i64 0, .string ⟨#[]⟩, .slice none 0 0] 32) := (hb3.block nb (Array.getElem?_eq_some_iff.1 HW.out.2.2.1).1).trans HW.out.2.2.1
  obtain ⟨WF, hWF⟩ : ∃ WF, put4 w3 nb 0 (.int .i64 tk) (.int .i64 tn) (.string ts) (.slice ta tm tc) = WF := ⟨_, rfl⟩
  have HOF : Only (fun k => k = nb) w3 WF := by
    rw [← hWF]
    unfold put4
    exact ((((Only.refl (fun k => k = nb) w3).put rfl _ _).put rfl _ _).put rfl _ _).put rfl _ _
  have hF : WF.cell? ⟨nb, 0, none⟩ = some (.int .i64 tk) ∧ WF.cell? ⟨nb, 1, none⟩ = some (.int .i64 tn) ∧ WF.cell? ⟨nb, 2, none⟩ = some (.string ts) ∧ WF.cell? ⟨nb, 3, none⟩ = some (.slice ta tm tc) := by
    rw [← hWF]
    unfold put4
    have b := fun j => (by simp [World.cell?, hbx] : w3.cell? ⟨nb, j, none⟩ = (#[Value.int .i64 0, .int .i64 0, .string ⟨#[]⟩, .slice none 0 0] : Array Value)[j]?)
    exact stored4 (w := w3) (b 0) (b 1) (b 2) (b 3)
  have hUF : Up w WF := (HD.call hb3).out.trans (HOF.below (B := w.heap.size) (fun k hk => by rw [hk]; exact Nat.le_of_eq HW.out.2.1) (HD.call hb3).out.size)
  refine chain_skip (i := 9) (w' := WF) (by kernel_rfl) rfl rfl rfl (by rw [← hWF]; exact exec_store4 (w := w3) hbx (by decide) rfl rfl _ _ _ _) hUF ?_
  refine chain_value (i := 10) (d := 3) (v := .int .i64 e.h.num) (w' := WF) (by kernel_rfl) rfl rfl rfl rfl hUF ?_
  simp only [Act.put, List.setIfInBounds_toArray, List.set_cons_zero, List.set_cons_succ]
  refine chain_value (i := 11) (d := 4) (v := .bool true) (w' := WF) (by kernel_rfl) rfl rfl rfl rfl hUF ?_
  simp only [Act.put, List.setIfInBounds_toArray, List.set_cons_zero, List.set_cons_succ]
  refine wpAnyH_done (by kernel_rfl) ?_ _
  have HF := Hid.mk (And.intro hF (And.intro HOF hUF))
  have HLY := Hid.mk (show ∃ lo, w.heap.size < lo ∧ Own WF e.T lo WF.heap.size (.agg #[.int .i64 tk, .int .i64 tn, .string ts, .slice ta tm tc]) from (by
    have h5 := HW.out.2.2.2
    have h7 := HW.out.2.1
    have h6 : W1.drew.heap.size = W1.heap.size := rfl
    exact ⟨W1.drew.heap.size, by omega, Own.move _ _ _ _ _ _ (Nat.le_refl _) HOF.size (fun k hk hk2 => HOF.block k hk2 (by omega)) hly⟩))
  clear hF HOF hbx hWF HD y0 y1 y2 y3 y4 hly hUF hb3
  go_wp2
  exact ret3_at rfl rfl rfl rfl rfl HF.out.1.1 HF.out.1.2.1 HF.out.1.2.2.1 HF.out.1.2.2.2 ⟨_, rfl, HLY.out, HF.out.2.2⟩
end Go.Proofs.YteklhipcojioaaaDoor

/-
  The program's tree: the number of a key; the last key on a side.
-/
namespace Go.Proofs.YteklhipcojioaaaDoor
open Go.RowKit Go.Deep Go.Maps Go.WideShapes

theorem CtxB.split {w : World} {p : Nat} {n cm : Int} {t : Bt} {c : List Fr} (hl : LayB w (fillB t c)) (h : CtxB w p n cm [] (ptrB (fillB t c))) : LayB w t ∧ CtxB w p n cm c (ptrB t) := by
  induction c generalizing t with
  | nil => exact ⟨hl, h⟩
  | cons f c ih =>
    obtain ⟨h1, h2⟩ := ih (t := f.plug t) hl h
    rw [ptr_plug] at h2
    unfold Fr.plug at h1
    refine ⟨?_, ?_, ?_, h2⟩
    · split at h1
      · exact h1.2.2
      · exact h1.2.1
    · unfold Fr.cs
      split at h1
      · rename_i hs; rw [if_pos hs]; exact h1.1
      · rename_i hs; rw [if_neg hs]; exact h1.1
    · split at h1
      · exact h1.2.1
      · exact h1.2.2
/-- What a call that looks leaves of the tree. -/
def LookT (w : World) (p : Nat) (t : Bt) (cm : Int) (K : Nat → Prop) (w' : World) (found : Bool) : Prop := ∃ cm', TpB w' p t cm' K ∧ Only (fun k => k = p) w w' ∧ cm ≤ cm' ∧ LowI (cm' - cm) t.list.length ∧ (found = true → cm < cm')
theorem getN_here {A B : List Nd} {x : Nd} {T : Tm} (h : ∀ a ∈ A, a.1.cmp T < 0) (hx : x.1.cmp T = 0) : getN (A ++ x :: B) T = x.2 := by
  obtain ⟨h1, h2⟩ := isN_here (B := B) h hx
  unfold getN
  rw [if_pos h2, h1, (numN_here A B x).1]
set_option maxHeartbeats 4000000 in
set_option maxRecDepth 100000 in
theorem getT_any (p : Nat) (t : Bt) (cm : Int) (K F' : Nat → Prop) (T : Tm) (kv : Value) (w : World) (h : TpB w p t cm K) (hk : Lies w F' T kv) (hkp : ¬ F' p) (hz : t.list.length ≤ 800000) (hcm : 0 ≤ cm ∧ cm ≤ 1000000000000) :
    Calls Tryd.prog 21 #[.pointer (some ⟨p, 0, none⟩), kv] w fun e w' => e = .returned (.tuple #[.int .i64 (getN (ndsB t.list) T), .bool (isN (ndsB t.list) T)]) ∧ LookT w p t cm K w' (isN (ndsB t.list) T) := by
  obtain ⟨kk, kn, ks, ka, km, kc, rfl⟩ := hk.agg
  obtain ⟨nb, W1, hnb, hW1, hu, b0, b1, b2, b3⟩ := boxed_key w kk kn ks ka km kc
  have h1 := h.up hu
  obtain ⟨c0, _, _, _⟩ := h1.cells
  have HD := Hid.mk (downB_any p t.list.length cm T t K F' _ W1 h1.lay h1.top (List.nodup_cons.1 h.nd).1 (hk.below hu) hkp h.bal h.rise hz hcm (fun e he => (h1.keys e he).1) (fun hK => (h.kk p hK).2.1 rfl))
  have HT := Hid.mk h1
  have HU := Hid.mk hu
  have HW := Hid.mk (And.intro hW1 hnb)
  have HZ := Hid.mk hz
  clear h h1 hk hkp hz hcm hu hnb hW1
  go_enter Tryd.func21, Tryd.ntmps21
  go_upto_region 1 with fail
  rw [HW.out.1, HW.out.2]
  go_upto_region 4 with (first
    | (go_at_call 52; refine HD.out.mono ?_; rintro e w2 ⟨v, d, rfl, hd⟩; have HDD := Hid.mk hd; clear hd)
    | (go_at_call 37; refine (madeT_any _ _ c0).mono ?_; rintro e w2 ⟨rfl, rfl⟩))
  clear b0 b1 b2 b3 c0
  have HLK := Hid.mk (show LookT w p t cm K w2 d from by
    obtain ⟨cm', k1, k2, k3, k4, k5⟩ := DownB.tp HT.out HDD.out
    exact ⟨cm', k1, (Only.up (S := fun k => k = p) HU.out).trans k2 (fun k hk => Or.inl hk), k3, k4, k5⟩)
  obtain ⟨c, t2, d1, d2, d3, d4, d5, d6, d7, d8, d9⟩ := HDD.out
  cases d with
  | false =>
    obtain rfl := d4 rfl
    have HV := Hid.mk (show isN (ndsB t.list) T = false from d1 ▸ d2.none.2.2)
    clear d1 d2 d3 d4 d5 d6 d7 d8 d9
    go_wp2
    go_ret2
    have h0 : getN (ndsB t.list) T = 0 := by unfold getN; rw [HV.out]; rfl
    exact ⟨by rw [h0, HV.out]; rfl, by rw [HV.out]; exact HLK.out⟩
  | true =>
    obtain ⟨g, e, x, l, r, rfl, hcz⟩ := d3 rfl
    have hrise : RisingN (ndsB (Bt.node g e x l r).list) := fill_rising (c := c) (by rw [d1]; exact HT.out.rise)
    obtain ⟨k1, k2, k3⟩ := d2.here hrise hcz
    rw [d1] at k1
    have HV := Hid.mk (show isN (ndsB t.list) T = true ∧ getN (ndsB t.list) T = e.h.num from by
      rw [k1]
      exact ⟨(isN_here k2 k3).2, getN_here k2 k3⟩)
    have HL := Hid.mk (lastB_any p v c w2 d5 (by have := fill_cnt (.node g e x l r) c; rw [d1] at this; have := HZ.out; omega))
    obtain ⟨cs, ty, q1, q2, _⟩ := d8.link
    have lk : w2.cell? ⟨(linkC p c).1, (linkC p c).2, none⟩ = some (.pointer (some ⟨g, 0, none⟩)) := by simp only [World.cell?, q1]; exact q2
    have y4 : w2.cell? ⟨g, 4, none⟩ = some (.int .i64 e.h.num) := by simp [World.cell?, d7.1, cellsB]
    obtain ⟨Lb, hLb⟩ : ∃ Lb, (linkC p c).1 = Lb := ⟨_, rfl⟩
    obtain ⟨Lo', hLo⟩ : ∃ Lo', (linkC p c).2 = Lo' := ⟨_, rfl⟩
    rw [hLb, hLo] at lk HL
    clear hrise k1 k2 k3 d1 d2 d3 d4 d5 d6 d7 d8 d9 q1 q2 hLb hLo hcz
    go_wp2_with (go_at_call 53; refine HL.out.mono ?_; rintro en w3 ⟨rfl, rfl⟩)
    go_ret2
    exact ⟨by rw [HV.out.1, HV.out.2]; rfl, by rw [HV.out.1]; exact HLK.out⟩
end Go.Proofs.YteklhipcojioaaaDoor
