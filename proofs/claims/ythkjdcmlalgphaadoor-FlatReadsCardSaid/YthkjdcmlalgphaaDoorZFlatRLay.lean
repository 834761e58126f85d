/-
  The document's writer of flat words: a term is laid.
-/
import Derived.Test.YthkjdcmlalgphaaDoorZFlatNum
import Derived.Test.YthkjdcmlalgphaaDoorZFlatLay
namespace Go.Proofs.YthkjdcmlalgphaaDoor
open Go.RowKit Go.Deep

/-- The blocks that laying turns. -/
def TurnsR (xb : Nat) (rv : Value) (k : Nat) : Prop := k = xb ∨ rv.ownBlock = some k
/-- Since w0 nothing has been written but blocks of B; there is the document's table, and the box of the layer with its row of words. -/
structure LaR (B : Nat → Prop) (w0 w : World) (q xb : Nat) (L : List ByteArray) (vq rv : Value) (xs : List Int) : Prop where
  tab : RTab w q vq L
  box : w.heap[xb]? = some (.cells #[.pointer (some ⟨q, 0, none⟩), rv] 81)
  row : Wds w rv xs
  nm : ¬ MineR q vq xb
  nr : ∀ g, rv.ownBlock = some g → g ≠ xb ∧ ¬ MineR q vq g
  only : Only B w0 w
  mine : ∀ k, TurnsR xb rv k → B k ∨ w0.heap.size ≤ k
section
variable {B : Nat → Prop} {w0 w w1 w' : World} {q xb : Nat} {L : List ByteArray} {vq rv rv' : Value} {xs xs' : List Int}
theorem LaR.up (h : LaR B w0 w q xb L vq rv xs) (hb : Below w.heap.size w w') : LaR B w0 w' q xb L vq rv xs :=
  ⟨h.tab.up hb, (hb.block _ (Array.getElem?_eq_some_iff.1 h.box).1).trans h.box, h.row.up hb, h.nm, h.nr, h.only.call hb, h.mine⟩
theorem LaR.lt (h : LaR B w0 w q xb L vq rv xs) {k : Nat} (hk : TurnsR xb rv k) : k < w.heap.size := by
  rcases hk with rfl | hk
  · exact (Array.getElem?_eq_some_iff.1 h.box).1
  · exact h.row.block_lt hk
theorem LaR.base (h : LaR B w0 w q xb L vq rv xs) : LaR (TurnsR xb rv) w w q xb L vq rv xs := ⟨h.tab, h.box, h.row, h.nm, h.nr, Only.refl _ _, fun _ hk => Or.inl hk⟩
theorem LaR.back (h : LaR B w0 w q xb L vq rv xs) (h' : LaR (TurnsR xb rv) w w' q xb L vq rv' xs') : LaR B w0 w' q xb L vq rv' xs' :=
  ⟨h'.tab, h'.box, h'.row, h'.nm, h'.nr, h.only.trans h'.only (fun i hi => h.mine i hi), fun k hk => by
    rcases h'.mine k hk with hk | hk
    · exact h.mine k hk
    · exact Or.inr (Nat.le_trans h.only.size hk)⟩
theorem LaR.not_turns (h : LaR B w0 w q xb L vq rv xs) {b : Nat} (hb : ¬ B b) (hl : b < w0.heap.size) : ¬ TurnsR xb rv b := fun hk => (h.mine b hk).elim hb (fun hh => by omega)
theorem LaR.keep (h : LaR B w0 w q xb L vq rv xs) {b o : Nat} {u : Value} (hb : ¬ B b) (hc : w0.cell? ⟨b, o, none⟩ = some u) : w.cell? ⟨b, o, none⟩ = some u := by
  rw [World.cell?_of_block (w := w0) (a := ⟨b, o, none⟩) (h.only.block b (World.block_lt_of_cell? w0 ⟨b, o, none⟩ hc) hb)]
  exact hc
theorem LaR.cell (h : LaR B w0 w q xb L vq rv xs) : w.cell? ⟨xb, 0, none⟩ = some (.pointer (some ⟨q, 0, none⟩)) ∧ w.cell? ⟨xb, 1, none⟩ = some rv ∧ w.frozen? ⟨xb, 1, none⟩ = false := by
  have hb := h.box
  simp [World.cell?, World.frozen?, hb]
theorem set2_block {b : Nat} {u0 u1 v : Value} {t : TypeId} (h : w.heap[b]? = some (.cells #[u0, u1] t)) : (w.setCell ⟨b, 1, none⟩ v).heap[b]? = some (.cells #[u0, v] t) := by
  simp [World.setCell, Array.getElem?_modify, h]
theorem LaR.set {g n cap : Nat} (h : LaR B w0 w q xb L vq (.slice (some ⟨g, 0, none⟩) n cap) xs) (i : Nat) (x : Int) : LaR B w0 (w.setCell ⟨g, i, none⟩ (.int .u64 x)) q xb L vq (.slice (some ⟨g, 0, none⟩) n cap) (xs.set i x) := by
  have hg := h.nr g rfl
  have ho : Only (· = g) w (w.setCell ⟨g, i, none⟩ (.int .u64 x)) := Only.set w _ rfl
  exact ⟨h.tab.kept ho (fun k hk e => hg.2 (e ▸ hk)), ho.box h.box (fun e => hg.1 e.symm), h.row.set i x, h.nm, h.nr, h.only.trans ho (fun k hk => by subst hk; exact h.mine _ (Or.inr rfl)), h.mine⟩
theorem LaR.grown_box (h : LaR B w0 w q xb L vq rv xs) (hg : w.grownBy w1 rv.ownBlock) : w1.heap[xb]? = some (.cells #[.pointer (some ⟨q, 0, none⟩), rv] 81) :=
  (Only.grown (S := fun k => rv.ownBlock = some k) hg (fun _ hk => hk)).box h.box (fun e => (h.nr xb e).1 rfl)
theorem LaR.grow (h : LaR B w0 w q xb L vq rv xs) (hr : Wds w1 rv' xs') (hg : w.grownBy w1 rv.ownBlock) (ha : rv'.ownBlock = rv.ownBlock ∨ rv'.ownBlock = some w.heap.size) :
    LaR B w0 (w1.setCell ⟨xb, 1, none⟩ rv') q xb L vq rv' xs' := by
  have ho : Only (fun k => rv.ownBlock = some k) w w1 := Only.grown hg (fun k hk => hk)
  have ho2 : Only (· = xb) w1 (w1.setCell ⟨xb, 1, none⟩ rv') := Only.set w1 _ rfl
  have hlt := h.lt (k := xb) (Or.inl rfl)
  have hnew : ∀ g, rv'.ownBlock = some g → rv.ownBlock = some g ∨ w.heap.size ≤ g := by
    intro g hg'
    rcases ha with ha | ha
    · exact Or.inl (ha ▸ hg')
    · rw [ha] at hg'
      cases hg'
      exact Or.inr (Nat.le_refl _)
  have hT1 : RTab w1 q vq L := h.tab.kept ho (fun k hk e => (h.nr k e).2 hk)
  refine ⟨hT1.kept ho2 (fun k hk e => h.nm (e ▸ hk)), set2_block (h.grown_box hg), hr.kept ho2 (fun g hg' e => ?_), h.nm, fun g hg' => ?_, (h.only.trans ho (fun k hk => h.mine k (Or.inr hk))).trans ho2 (fun k hk => by subst hk; exact h.mine _ (Or.inl rfl)), fun k hk => ?_⟩
  · subst e
    rcases hnew _ hg' with e | e
    · exact (h.nr _ e).1 rfl
    · omega
  · rcases hnew _ hg' with e | e
    · exact h.nr _ e
    · exact ⟨by omega, fun hk => by have := h.tab.lt hk; omega⟩
  · rcases hk with hk | hk
    · exact h.mine k (Or.inl hk)
    · rcases hnew _ hk with e | e
      · exact h.mine k (Or.inr e)
      · exact Or.inr (Nat.le_trans h.only.size e)
theorem Only.cellS {S : Nat → Prop} (h : Only S w w') {b o : Nat} {u : Value} (hb : ¬ S b) (hc : w.cell? ⟨b, o, none⟩ = some u) : w'.cell? ⟨b, o, none⟩ = some u := by
  rw [World.cell?_of_block (w := w) (a := ⟨b, o, none⟩) (h.block b (World.block_lt_of_cell? w ⟨b, o, none⟩ hc) hb)]
  exact hc
theorem Only.grow {S : Nat → Prop} {row : Option Nat} (h : Only S w w1) (hg : w1.grownBy w' row) (hS : ∀ k, row = some k → S k) : Only S w w' := h.trans (Only.grown (S := S) hg hS) (fun _ h => Or.inl h)
end

set_option maxHeartbeats 8000000 in
set_option maxRecDepth 100000 in
theorem layR_any (T : Tm) : T.fits = true → ∀ (S B : Nat → Prop) (w0 : World) (q xb : Nat) (vq tv : Value), ¬ B xb ∨ True → (∀ b, S b → b < w0.heap.size ∧ ¬ B b) → Lies w0 S T tv →
    ∀ (w : World) (L : List ByteArray) (rv : Value) (xs : List Int), LaR B w0 w q xb L vq rv xs → xs.length + T.wordsR ≤ 1000000 →
    Calls Tryd.prog 46 #[.pointer (some ⟨xb, 0, none⟩), tv] w fun e w' => ∃ rv', e = .returned (.int .u64 (T.own L xs.length)) ∧ LaR B w0 w' q xb L vq rv' (xs ++ T.laid L xs.length) := by
  induction T using Tm.induct with
  | h k n s l ih0 =>
    intro hf S B w0 q xb vq tv _ hS hT w L rv xs h hsz
    have ih := Hid.mk ih0
    clear ih0
    obtain ⟨a, cap, rfl, hsm, hl⟩ := hT.out
    have hlaidlen := laid_length L (.mk k n s l) hf
    rw [fits_mk, Bool.and_eq_true] at hf
    obtain ⟨W0, hW0⟩ : ∃ W0, w.alloc (.cells #[.int .i64 k, .int .i64 n, .string s, .slice a l.length cap] 25) = W0 := ⟨_, rfl⟩
    have hb0 : Below w.heap.size w W0 := by rw [← hW0]; exact (Below.refl _ _).alloc (Nat.le_refl _) _
    have hbx : W0.heap[w.heap.size]? = some (.cells #[.int .i64 k, .int .i64 n, .string s, .slice a l.length cap] 25) := by rw [← hW0]; exact new_block _ _
    have hU := h.up hb0
    have ntb : ¬ TurnsR xb rv w.heap.size := fun hk => by have := h.lt hk; omega
    have hS0 : ∀ b, S b → b < W0.heap.size ∧ ¬ TurnsR xb rv b := fun b hb => ⟨Nat.lt_of_lt_of_le (hS b hb).1 hU.only.size, hU.not_turns (hS b hb).2 (hS b hb).1⟩
    have hl0 : Lst W0 S l a cap := hU.only.lst hS hl
    have hback := Hid.mk (fun (w' : World) (rv' : Value) (xs' : List Int) (h' : LaR (TurnsR xb rv) W0 w' q xb L vq rv' xs') => hU.back h')
    have h0 := Hid.mk hU.base
    obtain ⟨⟨t0, t1, t2, t3⟩, _⟩ := kept4 hbx (Below.refl _ _)
    obtain ⟨x0, x1, xf⟩ := h0.out.cell
    have HF := Hid.mk hf.1
    have HFs := Hid.mk hf.2
    have HS0 := Hid.mk hS0
    have HL := Hid.mk hl0
    have NTB := Hid.mk ntb
    have HTB := Hid.mk hbx
    have HZ := Hid.mk hsz
    have HLL := Hid.mk hlaidlen
    have HM := Hid.mk hsm
    have hpos : (0 : Int) ≤ xs.length := Int.natCast_nonneg _
    have hwpos := words_le (.mk k n s l)
    have HX := Hid.mk (show xs.length ≤ 1000000 by omega)
    clear hS hT hl hU h hS0 hl0 ntb hb0 hbx hsz hlaidlen hpos hwpos
    obtain ⟨ra, rcap, hrv⟩ := owns_slice h0.out.row
    subst hrv
    by_cases h7 : k = 7
    · subst h7
      clear hf hsm
      have hl64 : l.length ≤ 64 := by
        have := HF.out
        simp only [fitB, decide_eq_true_eq] at this
        omega
      have hpk := Hid.mk (fun w' => refpack_any 7 xs.length w' (by omega) (by have := HX.out; omega) (by omega) (by omega))
      have hpk0 := Hid.mk (fun w' => refpack_any 10 (l.length) w' (by omega) (by omega) (by omega) (by omega))
      obtain ⟨W1, hW1⟩ : ∃ W1, W0.alloc (.cells #[.int .u64 (Wd.packW 10 l.length)] 62) = W1 := ⟨_, rfl⟩
      have hb1 : Below W0.heap.size W0 W1 := by rw [← hW1]; exact (Below.refl _ _).alloc (Nat.le_refl _) _
      have cw : W1.cell? ⟨W0.heap.size, 0, none⟩ = some (.int .u64 (Wd.packW 10 l.length)) := by rw [← hW1]; exact new_cell _ _ _ _
      have h1 := h0.out.up hb1
      obtain ⟨rv4, w4, hr4, hR4, hg4, ha4⟩ := append_some W1 33 _ xs [Wd.packW 10 l.length] h1.row W0.heap.size 1 (fun j hj => by
        obtain rfl : j = 0 := by simp at hj; exact hj
        exact cw) (by have := HZ.out; have := HLL.out 0; simp only [List.length_singleton]; rw [laid_mk] at this; simp only [leadW, List.length_append, kids_length] at this; simp at this; omega)
      obtain ⟨xs4, hx4⟩ : ∃ xs4, xs ++ [Wd.packW 10 l.length] = xs4 := ⟨_, rfl⟩
      rw [hx4] at hR4
      obtain ⟨a4, cap4, rfl⟩ := owns_slice hR4
      have h4 := h1.grow hR4 hg4 ha4
      have hgb := h1.grown_box hg4
      obtain ⟨W4, hW4⟩ : ∃ W4, w4.setCell ⟨xb, 1, none⟩ (.slice a4 xs4.length cap4) = W4 := ⟨_, rfl⟩
      rw [hW4] at h4
      have hr4' : (Builtin.append_ #[33, 33] 33 #[.slice ra xs.length rcap, .slice (some ⟨W0.heap.size, 0, none⟩) 1 1]).run Tryd.prog W1 = .ok (.slice a4 xs4.length cap4) w4 := hr4
      have y1 : w4.cell? ⟨xb, 1, none⟩ = some (.slice ra xs.length rcap) := by simp [World.cell?, hgb]
      have yf : w4.frozen? ⟨xb, 1, none⟩ = false := by simp [World.frozen?, hgb]
      have HX4 : Hid (xs4 = xs ++ leadW 7 n l.length) := Hid.mk hx4.symm
      have H4 := Hid.mk h4
      obtain ⟨z0, z1, zf⟩ := h4.cell
      have s0 := h4.keep NTB.out t0
      have s1 := h4.keep NTB.out t1
      have s2 := h4.keep NTB.out t2
      have s3 := h4.keep NTB.out t3
      clear hr4 hR4 hg4 ha4 hgb h1 hx4 hb1 h4
      have hw1 : IntKind.i64.wrap ((xs.length : Int) + 1) = ((xs4.length : Nat) : Int) := by have := HX.out; rw [wrap_id (by omega) (by omega), HX4.out]; simp [leadW]
      go_enter Tryd.func46, Tryd.ntmps46
      go_upto_region 1 with fail
      try rw [hW0]
      clear hW0
      go_wp2_with (first
        | (go_at_call 66; refine (hpk0.out _).mono ?_; rintro e w8 ⟨rfl, rfl⟩)
        | (at_builtin; refine Lib.wpList_append_run _ rfl _ _ _ _ rfl _ _ rfl rfl _ _ hr4' ?_))
      have hn4 : xs4.length = xs.length + (leadW 7 n l.length).length := by rw [HX4.out, List.length_append]
      have HN4 := Hid.mk hn4
      have hsum : xs4.length + l.length ≤ 1000000 := by
        have h1 := HZ.out
        have h2 := HLL.out 0
        rw [laid_mk, List.length_append, List.length_append, kids_length] at h2
        omega
      have HS5 := Hid.mk hsum
      obtain ⟨rv5, w5, hr5, hR5, hg5, ha5⟩ := append_zeros W4.drew 33 _ _ (H4.out.up (Below.drew (Below.refl W4.heap.size W4))).row l.length hsum
      obtain ⟨xs5, hx5⟩ : ∃ xs5, xs4 ++ List.replicate l.length 0 = xs5 := ⟨_, rfl⟩
      rw [hx5] at hR5
      have HX5 := Hid.mk hx5
      clear hx5 hn4 hsum
      obtain ⟨a5, cap5, rfl⟩ := owns_slice hR5
      have h5 := (H4.out.up (Below.drew (Below.refl W4.heap.size W4))).grow hR5 hg5 ha5
      have hgb5 := (H4.out.up (Below.drew (Below.refl W4.heap.size W4))).grown_box hg5
      have nxb : ¬ (Value.slice a4 xs4.length cap4).ownBlock = some xb := fun e => (H4.out.nr xb e).1 rfl
      have ntb4 : ¬ (Value.slice a4 xs4.length cap4).ownBlock = some w.heap.size := fun e => by
        rcases H4.out.mine _ (Or.inr e) with hk | hk
        · exact NTB.out hk
        · have := (Array.getElem?_eq_some_iff.1 HTB.out).1
          omega
      have hgo5 : Only (fun k => (Value.slice a4 xs4.length cap4).ownBlock = some k) W4 w5 := (Only.refl _ W4).drew.grow hg5 (fun k hk => hk)
      have y51 : w5.cell? ⟨xb, 1, none⟩ = some (.slice a4 xs4.length cap4) := by simp [World.cell?, hgb5]
      have y5f : w5.frozen? ⟨xb, 1, none⟩ = false := by simp [World.frozen?, hgb5]
      refine wp_region_last (last := 11) (S := fun W => Only (fun k => (Value.slice a4 xs4.length cap4).ownBlock = some k) W4 W) (by kernel_rfl) ?_
      refine last_take (i := 0) (d := 88) (v := .pointer (some ⟨xb, 0, none⟩)) rfl rfl (by kernel_rfl) (by kernel_rfl) (by kernel_rfl) (by kernel_rfl) rfl (fun _ _ => rfl) (fun _ _ _ h => h) (Only.refl _ W4).drew ?_
      simp only [Act.put, List.setIfInBounds_toArray, List.set_cons_zero, List.set_cons_succ]
      refine last_take (i := 1) (d := 89) (v := .pointer (some ⟨xb, 0, none⟩)) rfl rfl (by kernel_rfl) (by kernel_rfl) (by kernel_rfl) (by kernel_rfl) rfl (fun _ _ => rfl) (fun _ _ _ h => h) (Only.refl _ W4).drew ?_
      simp only [Act.put, List.setIfInBounds_toArray, List.set_cons_zero, List.set_cons_succ]
      refine last_take (i := 2) (d := 90) (v := .pointer (some ⟨xb, 0, none⟩)) rfl rfl (by kernel_rfl) (by kernel_rfl) (by kernel_rfl) (by kernel_rfl) rfl (fun _ _ => (by go_simp)) (fun _ _ _ h => h) (Only.refl _ W4).drew ?_
      simp only [Act.put, List.setIfInBounds_toArray, List.set_cons_zero, List.set_cons_succ]
      refine last_take (i := 3) (d := 91) (v := .pointer (some ⟨xb, 1, none⟩)) rfl rfl (by kernel_rfl) (by kernel_rfl) (by kernel_rfl) (by kernel_rfl) rfl (fun _ _ => (by go_simp)) (fun _ _ _ h => h) (Only.refl _ W4).drew ?_
      simp only [Act.put, List.setIfInBounds_toArray, List.set_cons_zero, List.set_cons_succ]
      refine last_take (i := 4) (d := 92) (v := .slice a4 xs4.length cap4) rfl rfl (by kernel_rfl) (by kernel_rfl) (by kernel_rfl) (by kernel_rfl) rfl (fun W h => (by have u0 := Only.cellS h nxb z1; go_simp)) (fun _ _ _ h => h) (Only.refl _ W4).drew ?_
      simp only [Act.put, List.setIfInBounds_toArray, List.set_cons_zero, List.set_cons_succ]
      refine last_take (i := 5) (d := 93) (v := .pointer (some ⟨w.heap.size, 3, none⟩)) rfl rfl (by kernel_rfl) (by kernel_rfl) (by kernel_rfl) (by kernel_rfl) rfl (fun _ _ => (by go_simp)) (fun _ _ _ h => h) (Only.refl _ W4).drew ?_
      simp only [Act.put, List.setIfInBounds_toArray, List.set_cons_zero, List.set_cons_succ]
      refine last_take (i := 6) (d := 94) (v := .slice a l.length cap) rfl rfl (by kernel_rfl) (by kernel_rfl) (by kernel_rfl) (by kernel_rfl) rfl (fun W h => (by have u0 := Only.cellS h ntb4 s3; go_simp)) (fun _ _ _ h => h) (Only.refl _ W4).drew ?_
      simp only [Act.put, List.setIfInBounds_toArray, List.set_cons_zero, List.set_cons_succ]
      refine last_take (i := 7) (d := 95) (v := .int .i64 l.length) rfl rfl (by kernel_rfl) (by kernel_rfl) (by kernel_rfl) (by kernel_rfl) rfl (fun _ _ => (by go_simp)) (fun _ _ _ h => h) (Only.refl _ W4).drew ?_
      simp only [Act.put, List.setIfInBounds_toArray, List.set_cons_zero, List.set_cons_succ]
      refine last_value (i := 8) (d := 96) (v := .slice a5 xs5.length cap5) (w' := w5) (by kernel_rfl) rfl rfl rfl (exec_append rfl rfl hr5) (hgo5) ?_
      simp only [Act.put, List.setIfInBounds_toArray, List.set_cons_zero, List.set_cons_succ]
      refine last_value (i := 9) (d := 97) (v := .pointer (some ⟨xb, 0, none⟩)) (w' := w5) (by kernel_rfl) rfl rfl rfl (by go_simp) (hgo5) ?_
      simp only [Act.put, List.setIfInBounds_toArray, List.set_cons_zero, List.set_cons_succ]
      refine last_value (i := 10) (d := 98) (v := .pointer (some ⟨xb, 1, none⟩)) (w' := w5) (by kernel_rfl) rfl rfl rfl (by go_simp) (hgo5) ?_
      simp only [Act.put, List.setIfInBounds_toArray, List.set_cons_zero, List.set_cons_succ]
      refine last_store (w' := w5.setCell ⟨xb, 1, none⟩ (.slice a5 xs5.length cap5)) (by kernel_rfl) rfl rfl rfl (by go_simp) (by kernel_rfl) ?_
      obtain ⟨W5, hW5⟩ : ∃ W5, w5.setCell ⟨xb, 1, none⟩ (.slice a5 xs5.length cap5) = W5 := ⟨_, rfl⟩
      rw [hW5] at h5 ⊢
      have H5 := Hid.mk h5
      clear y51 y5f hr5 hR5 hg5 ha5 hgb5 hgo5 hW5 h5 nxb ntb4 z0 z1 zf s0 s1 s2 s3
      go_wp2
      go_loopw [12] (fun ii wr => ∃ (i : Nat) (rvi : Value) (ys : List Int), i ≤ l.length ∧ ii = .int .i64 i ∧ Hid (LaR (TurnsR xb (.slice ra xs.length rcap)) W0 wr q xb L vq rvi ys) ∧
        Hid (ys = xs4 ++ (kids L (l.take i) (xs4.length + l.length)).1 ++ List.replicate (l.length - i) 0 ++ (kids L (l.take i) (xs4.length + l.length)).2)) (fun ii _ => l.length - (intOf ii).toNat)
      case atStart =>
        refine ⟨0, _, xs5, Nat.zero_le _, rfl, H5, Hid.mk ?_⟩
        rw [List.take_zero, kids_nil, ← HX5.out]
        simp
      case round =>
        obtain ⟨i, rvi, ys, hi, rfl, hLi, hYi⟩ := hrel
        have hs5 := HS5.out
        have hn4 := HN4.out
        have r3 := hLi.out.keep NTB.out t3
        have r0 := hLi.out.keep NTB.out t0
        have hlen : ys.length = xs4.length + l.length + (kids L (l.take i) (xs4.length + l.length)).2.length := by
          have := congrArg List.length hYi.out
          rw [List.length_append, List.length_append, List.length_append, kids_length, List.length_replicate, List.length_take] at this
          omega
        by_cases hlt : i < l.length
        · obtain ⟨b, o, ha, hSb, hr⟩ := HL.out.some (by omega)
          subst ha
          obtain ⟨k', n', s', m', a', cap', hTt, c0, c1, c2, c3, hli⟩ := hr.part i hlt
          have nb := (HS0.out b hSb).2
          have c0 := hLi.out.keep nb c0
          have c1 := hLi.out.keep nb c1
          have c2 := hLi.out.keep nb c2
          have c3 := hLi.out.keep nb c3
          have hwi : IntKind.i64.wrap ((i : Int) + 1) = ((i + 1 : Nat) : Int) := by rw [wrap_id (by omega) (by omega)]; omega
          have hwj : IntKind.i64.wrap ((xs4.length : Int) + i) = ((xs4.length + i : Nat) : Int) := by rw [wrap_id (by omega) (by omega)]; omega
          have hsz6 : ys.length + l[i].wordsR ≤ 1000000 := by
            have h2 := HLL.out xs.length
            rw [laid_mk, List.length_append, List.length_append, kids_length, ← hn4] at h2
            have h3 := kids_le L l (xs4.length + l.length) (i + 1)
            rw [kids_take L l _ i hlt] at h3
            simp only [List.length_append] at h3
            have h4 := laid_length L l[i] (fitss_all HFs.out _ (List.getElem_mem hlt)) (xs4.length + l.length + (kids L (List.take i l) (xs4.length + l.length)).2.length)
            have h5 := HZ.out
            omega
          have hih := ih.out l[i] (List.getElem_mem hlt) (fitss_all HFs.out _ (List.getElem_mem hlt)) S _ W0 q xb vq _ (Or.inr trivial) HS0.out hli wr L rvi ys hLi.out hsz6
          have hkt := kids_take L l (xs4.length + l.length) i hlt
          obtain ⟨tt, htt⟩ : ∃ tt, l[i] = tt := ⟨_, rfl⟩
          simp only [htt] at hih hkt
          have HKT := Hid.mk hkt
          have HLN := Hid.mk hlen
          have HLT := Hid.mk hlt
          have HIH := Hid.mk hih
          have hle : decide ((i : Int) < l.length) = true := by rw [decide_eq_true_eq]; omega
          have hbd : xs4.length + i < (ys ++ tt.laid L ys.length).length := by rw [List.length_append]; omega
          have HBD := Hid.mk hbd
          clear hkt hlen hTt htt hli hsz6 hih hlt hs5 hn4 hbd
          go_wp2_with (first
            | (go_at_call 46; refine HIH.out.mono ?_; rintro e w7 ⟨rv7, rfl, h7⟩
               obtain ⟨ys7, hy7⟩ : ∃ ys7, ys ++ tt.laid L ys.length = ys7 := ⟨_, rfl⟩
               have hbd := HBD.out
               rw [hy7] at h7 hbd
               have HY7 := Hid.mk hy7
               obtain ⟨g7, cap7, rfl, hgc7⟩ : ∃ g7 cap7, rv7 = .slice (some ⟨g7, 0, none⟩) ys7.length cap7 ∧ ∃ u, w7.cell? ⟨g7, xs4.length + i, none⟩ = some u := by
                 rcases h7.row.shape with ⟨_, e⟩ | ⟨g', cap', e, _, _, _, hc⟩
                 · rw [e] at hbd; cases hbd
                 · exact ⟨g', cap', e, _, hc _ hbd⟩
               obtain ⟨u7, hgc7⟩ := hgc7
               have hgf7 := h7.row.frozen (xs4.length + i)
               obtain ⟨v0, v1, vf⟩ := h7.cell
               have h8 := h7.set (xs4.length + i) (tt.own L ys.length)
               have H8 := Hid.mk h8
               clear h7 h8 hy7))
          go_roundw
          case rel =>
            have hlt := HLT.out
            refine ⟨i + 1, _, _, by omega, by first | rfl | go_num, H8, Hid.mk ?_⟩
            have hKl : (kids L (l.take i) (xs4.length + l.length)).1.length = i := by
              rw [kids_length, List.length_take]
              omega
            rw [← HY7.out, HLN.out]
            conv => lhs; arg 1; arg 1; rw [hYi.out]
            rw [List.append_assoc, set_mid _ _ _ _ _ _ hlt hKl, HKT.out]
            try simp only [List.append_assoc]
          case measure =>
            have hlt := HLT.out
            simp [intOf]
            omega
        · obtain rfl : i = l.length := by omega
          have HY := Hid.mk hYi.out
          clear hlen hs5 hn4
          go_wp2_with (first
            | (go_at_call 66; refine (hpk.out _).mono ?_; rintro e w8 ⟨rfl, rfl⟩))
          go_ret
          refine ⟨rvi, ?_, ?_⟩
          · rw [own_mk, numF, if_neg (by decide), if_pos (by decide)]
            rfl
          · have hY := HY.out
            rw [List.take_length, Nat.sub_self] at hY
            rw [laid_mk, show xs ++ (leadW 7 n l.length ++ (kids L l (xs.length + (leadW 7 n l.length).length + l.length)).1 ++ (kids L l (xs.length + (leadW 7 n l.length).length + l.length)).2) = ys by rw [hY, ← HN4.out, HX4.out]; simp only [List.replicate_zero, List.append_nil, List.append_assoc]]
            exact hback.out _ _ _ hLi.out
    by_cases h5 : k = 5
    · subst h5
      clear hf hsm h7
      have hl64 : l.length ≤ 64 ∧ 0 ≤ n ∧ n ≤ 1073741824 := by
        have := HF.out
        simp only [fitB, decide_eq_true_eq] at this
        omega
      have e1 : IntKind.i64.wrap (128 * n) = n * 128 := by rw [wrap_id (by omega) (by omega)]; omega
      have e2 : IntKind.i64.wrap (n * 128 + (l.length : Int)) = n * 128 + l.length := wrap_id (by omega) (by omega)
      have hpk := Hid.mk (fun w' => refpack_any 5 xs.length w' (by omega) (by have := HX.out; omega) (by omega) (by omega))
      have hpk0 := Hid.mk (fun w' => refpack_any 11 (n * 128 + l.length) w' (by omega) (by omega) (by omega) (by omega))
      obtain ⟨W1, hW1⟩ : ∃ W1, W0.alloc (.cells #[.int .u64 (Wd.packW 11 (n * 128 + l.length))] 62) = W1 := ⟨_, rfl⟩
      have hb1 : Below W0.heap.size W0 W1 := by rw [← hW1]; exact (Below.refl _ _).alloc (Nat.le_refl _) _
      have cw : W1.cell? ⟨W0.heap.size, 0, none⟩ = some (.int .u64 (Wd.packW 11 (n * 128 + l.length))) := by rw [← hW1]; exact new_cell _ _ _ _
      have h1 := h0.out.up hb1
      obtain ⟨rv4, w4, hr4, hR4, hg4, ha4⟩ := append_some W1 33 _ xs [Wd.packW 11 (n * 128 + l.length)] h1.row W0.heap.size 1 (fun j hj => by
        obtain rfl : j = 0 := by simp at hj; exact hj
        exact cw) (by have := HZ.out; have := HLL.out 0; simp only [List.length_singleton]; rw [laid_mk] at this; simp only [leadW, List.length_append, kids_length] at this; simp at this; omega)
      obtain ⟨xs4, hx4⟩ : ∃ xs4, xs ++ [Wd.packW 11 (n * 128 + l.length)] = xs4 := ⟨_, rfl⟩
      rw [hx4] at hR4
      obtain ⟨a4, cap4, rfl⟩ := owns_slice hR4
      have h4 := h1.grow hR4 hg4 ha4
      have hgb := h1.grown_box hg4
      obtain ⟨W4, hW4⟩ : ∃ W4, w4.setCell ⟨xb, 1, none⟩ (.slice a4 xs4.length cap4) = W4 := ⟨_, rfl⟩
      rw [hW4] at h4
      have hr4' : (Builtin.append_ #[33, 33] 33 #[.slice ra xs.length rcap, .slice (some ⟨W0.heap.size, 0, none⟩) 1 1]).run Tryd.prog W1 = .ok (.slice a4 xs4.length cap4) w4 := hr4
      have y1 : w4.cell? ⟨xb, 1, none⟩ = some (.slice ra xs.length rcap) := by simp [World.cell?, hgb]
      have yf : w4.frozen? ⟨xb, 1, none⟩ = false := by simp [World.frozen?, hgb]
      have HX4 : Hid (xs4 = xs ++ leadW 5 n l.length) := Hid.mk hx4.symm
      have H4 := Hid.mk h4
      obtain ⟨z0, z1, zf⟩ := h4.cell
      have s0 := h4.keep NTB.out t0
      have s1 := h4.keep NTB.out t1
      have s2 := h4.keep NTB.out t2
      have s3 := h4.keep NTB.out t3
      clear hr4 hR4 hg4 ha4 hgb h1 hx4 hb1 h4
      have hw1 : IntKind.i64.wrap ((xs.length : Int) + 1) = ((xs4.length : Nat) : Int) := by have := HX.out; rw [wrap_id (by omega) (by omega), HX4.out]; simp [leadW]
      have HLB := Hid.mk hl64
      clear hl64
      go_enter Tryd.func46, Tryd.ntmps46
      go_upto_region 1 with fail
      try rw [hW0]
      clear hW0
      go_wp2_with (first
        | (go_at_call 66; refine (hpk0.out _).mono ?_; rintro e w8 ⟨rfl, rfl⟩)
        | (at_builtin; refine Lib.wpList_append_run _ rfl _ _ _ _ rfl _ _ rfl rfl _ _ hr4' ?_))
      have hn4 : xs4.length = xs.length + (leadW 5 n l.length).length := by rw [HX4.out, List.length_append]
      have HN4 := Hid.mk hn4
      have hsum : xs4.length + l.length ≤ 1000000 := by
        have h1 := HZ.out
        have h2 := HLL.out 0
        rw [laid_mk, List.length_append, List.length_append, kids_length] at h2
        omega
      have HS5 := Hid.mk hsum
      obtain ⟨rv5, w5, hr5, hR5, hg5, ha5⟩ := append_zeros W4.drew 33 _ _ (H4.out.up (Below.drew (Below.refl W4.heap.size W4))).row l.length hsum
      obtain ⟨xs5, hx5⟩ : ∃ xs5, xs4 ++ List.replicate l.length 0 = xs5 := ⟨_, rfl⟩
      rw [hx5] at hR5
      have HX5 := Hid.mk hx5
      clear hx5 hn4 hsum
      obtain ⟨a5, cap5, rfl⟩ := owns_slice hR5
      have h5 := (H4.out.up (Below.drew (Below.refl W4.heap.size W4))).grow hR5 hg5 ha5
      have hgb5 := (H4.out.up (Below.drew (Below.refl W4.heap.size W4))).grown_box hg5
      have nxb : ¬ (Value.slice a4 xs4.length cap4).ownBlock = some xb := fun e => (H4.out.nr xb e).1 rfl
      have ntb4 : ¬ (Value.slice a4 xs4.length cap4).ownBlock = some w.heap.size := fun e => by
        rcases H4.out.mine _ (Or.inr e) with hk | hk
        · exact NTB.out hk
        · have := (Array.getElem?_eq_some_iff.1 HTB.out).1
          omega
      have hgo5 : Only (fun k => (Value.slice a4 xs4.length cap4).ownBlock = some k) W4 w5 := (Only.refl _ W4).drew.grow hg5 (fun k hk => hk)
      have y51 : w5.cell? ⟨xb, 1, none⟩ = some (.slice a4 xs4.length cap4) := by simp [World.cell?, hgb5]
      have y5f : w5.frozen? ⟨xb, 1, none⟩ = false := by simp [World.frozen?, hgb5]
      refine wp_region_last (last := 11) (S := fun W => Only (fun k => (Value.slice a4 xs4.length cap4).ownBlock = some k) W4 W) (by kernel_rfl) ?_
      refine last_take (i := 0) (d := 88) (v := .pointer (some ⟨xb, 0, none⟩)) rfl rfl (by kernel_rfl) (by kernel_rfl) (by kernel_rfl) (by kernel_rfl) rfl (fun _ _ => rfl) (fun _ _ _ h => h) (Only.refl _ W4).drew ?_
      simp only [Act.put, List.setIfInBounds_toArray, List.set_cons_zero, List.set_cons_succ]
      refine last_take (i := 1) (d := 89) (v := .pointer (some ⟨xb, 0, none⟩)) rfl rfl (by kernel_rfl) (by kernel_rfl) (by kernel_rfl) (by kernel_rfl) rfl (fun _ _ => rfl) (fun _ _ _ h => h) (Only.refl _ W4).drew ?_
      simp only [Act.put, List.setIfInBounds_toArray, List.set_cons_zero, List.set_cons_succ]
      refine last_take (i := 2) (d := 90) (v := .pointer (some ⟨xb, 0, none⟩)) rfl rfl (by kernel_rfl) (by kernel_rfl) (by kernel_rfl) (by kernel_rfl) rfl (fun _ _ => (by go_simp)) (fun _ _ _ h => h) (Only.refl _ W4).drew ?_
      simp only [Act.put, List.setIfInBounds_toArray, List.set_cons_zero, List.set_cons_succ]
      refine last_take (i := 3) (d := 91) (v := .pointer (some ⟨xb, 1, none⟩)) rfl rfl (by kernel_rfl) (by kernel_rfl) (by kernel_rfl) (by kernel_rfl) rfl (fun _ _ => (by go_simp)) (fun _ _ _ h => h) (Only.refl _ W4).drew ?_
      simp only [Act.put, List.setIfInBounds_toArray, List.set_cons_zero, List.set_cons_succ]
      refine last_take (i := 4) (d := 92) (v := .slice a4 xs4.length cap4) rfl rfl (by kernel_rfl) (by kernel_rfl) (by kernel_rfl) (by kernel_rfl) rfl (fun W h => (by have u0 := Only.cellS h nxb z1; go_simp)) (fun _ _ _ h => h) (Only.refl _ W4).drew ?_
      simp only [Act.put, List.setIfInBounds_toArray, List.set_cons_zero, List.set_cons_succ]
      refine last_take (i := 5) (d := 93) (v := .pointer (some ⟨w.heap.size, 3, none⟩)) rfl rfl (by kernel_rfl) (by kernel_rfl) (by kernel_rfl) (by kernel_rfl) rfl (fun _ _ => (by go_simp)) (fun _ _ _ h => h) (Only.refl _ W4).drew ?_
      simp only [Act.put, List.setIfInBounds_toArray, List.set_cons_zero, List.set_cons_succ]
      refine last_take (i := 6) (d := 94) (v := .slice a l.length cap) rfl rfl (by kernel_rfl) (by kernel_rfl) (by kernel_rfl) (by kernel_rfl) rfl (fun W h => (by have u0 := Only.cellS h ntb4 s3; go_simp)) (fun _ _ _ h => h) (Only.refl _ W4).drew ?_
      simp only [Act.put, List.setIfInBounds_toArray, List.set_cons_zero, List.set_cons_succ]
      refine last_take (i := 7) (d := 95) (v := .int .i64 l.length) rfl rfl (by kernel_rfl) (by kernel_rfl) (by kernel_rfl) (by kernel_rfl) rfl (fun _ _ => (by go_simp)) (fun _ _ _ h => h) (Only.refl _ W4).drew ?_
      simp only [Act.put, List.setIfInBounds_toArray, List.set_cons_zero, List.set_cons_succ]
      refine last_value (i := 8) (d := 96) (v := .slice a5 xs5.length cap5) (w' := w5) (by kernel_rfl) rfl rfl rfl (exec_append rfl rfl hr5) (hgo5) ?_
      simp only [Act.put, List.setIfInBounds_toArray, List.set_cons_zero, List.set_cons_succ]
      refine last_value (i := 9) (d := 97) (v := .pointer (some ⟨xb, 0, none⟩)) (w' := w5) (by kernel_rfl) rfl rfl rfl (by go_simp) (hgo5) ?_
      simp only [Act.put, List.setIfInBounds_toArray, List.set_cons_zero, List.set_cons_succ]
      refine last_value (i := 10) (d := 98) (v := .pointer (some ⟨xb, 1, none⟩)) (w' := w5) (by kernel_rfl) rfl rfl rfl (by go_simp) (hgo5) ?_
      simp only [Act.put, List.setIfInBounds_toArray, List.set_cons_zero, List.set_cons_succ]
      refine last_store (w' := w5.setCell ⟨xb, 1, none⟩ (.slice a5 xs5.length cap5)) (by kernel_rfl) rfl rfl rfl (by go_simp) (by kernel_rfl) ?_
      obtain ⟨W5, hW5⟩ : ∃ W5, w5.setCell ⟨xb, 1, none⟩ (.slice a5 xs5.length cap5) = W5 := ⟨_, rfl⟩
      rw [hW5] at h5 ⊢
      have H5 := Hid.mk h5
      clear y51 y5f hr5 hR5 hg5 ha5 hgb5 hgo5 hW5 h5 nxb ntb4 z0 z1 zf s0 s1 s2 s3
      go_wp2
      go_loopw [12] (fun ii wr => ∃ (i : Nat) (rvi : Value) (ys : List Int), i ≤ l.length ∧ ii = .int .i64 i ∧ Hid (LaR (TurnsR xb (.slice ra xs.length rcap)) W0 wr q xb L vq rvi ys) ∧
        Hid (ys = xs4 ++ (kids L (l.take i) (xs4.length + l.length)).1 ++ List.replicate (l.length - i) 0 ++ (kids L (l.take i) (xs4.length + l.length)).2)) (fun ii _ => l.length - (intOf ii).toNat)
      case atStart =>
        refine ⟨0, _, xs5, Nat.zero_le _, rfl, H5, Hid.mk ?_⟩
        rw [List.take_zero, kids_nil, ← HX5.out]
        simp
      case round =>
        obtain ⟨i, rvi, ys, hi, rfl, hLi, hYi⟩ := hrel
        have hs5 := HS5.out
        have hn4 := HN4.out
        have r3 := hLi.out.keep NTB.out t3
        have r0 := hLi.out.keep NTB.out t0
        have hlen : ys.length = xs4.length + l.length + (kids L (l.take i) (xs4.length + l.length)).2.length := by
          have := congrArg List.length hYi.out
          rw [List.length_append, List.length_append, List.length_append, kids_length, List.length_replicate, List.length_take] at this
          omega
        by_cases hlt : i < l.length
        · obtain ⟨b, o, ha, hSb, hr⟩ := HL.out.some (by omega)
          subst ha
          obtain ⟨k', n', s', m', a', cap', hTt, c0, c1, c2, c3, hli⟩ := hr.part i hlt
          have nb := (HS0.out b hSb).2
          have c0 := hLi.out.keep nb c0
          have c1 := hLi.out.keep nb c1
          have c2 := hLi.out.keep nb c2
          have c3 := hLi.out.keep nb c3
          have hwi : IntKind.i64.wrap ((i : Int) + 1) = ((i + 1 : Nat) : Int) := by rw [wrap_id (by omega) (by omega)]; omega
          have hwj : IntKind.i64.wrap ((xs4.length : Int) + i) = ((xs4.length + i : Nat) : Int) := by rw [wrap_id (by omega) (by omega)]; omega
          have hsz6 : ys.length + l[i].wordsR ≤ 1000000 := by
            have h2 := HLL.out xs.length
            rw [laid_mk, List.length_append, List.length_append, kids_length, ← hn4] at h2
            have h3 := kids_le L l (xs4.length + l.length) (i + 1)
            rw [kids_take L l _ i hlt] at h3
            simp only [List.length_append] at h3
            have h4 := laid_length L l[i] (fitss_all HFs.out _ (List.getElem_mem hlt)) (xs4.length + l.length + (kids L (List.take i l) (xs4.length + l.length)).2.length)
            have h5 := HZ.out
            omega
          have hih := ih.out l[i] (List.getElem_mem hlt) (fitss_all HFs.out _ (List.getElem_mem hlt)) S _ W0 q xb vq _ (Or.inr trivial) HS0.out hli wr L rvi ys hLi.out hsz6
          have hkt := kids_take L l (xs4.length + l.length) i hlt
          obtain ⟨tt, htt⟩ : ∃ tt, l[i] = tt := ⟨_, rfl⟩
          simp only [htt] at hih hkt
          have HKT := Hid.mk hkt
          have HLN := Hid.mk hlen
          have HLT := Hid.mk hlt
          have HIH := Hid.mk hih
          have hle : decide ((i : Int) < l.length) = true := by rw [decide_eq_true_eq]; omega
          have hbd : xs4.length + i < (ys ++ tt.laid L ys.length).length := by rw [List.length_append]; omega
          have HBD := Hid.mk hbd
          clear hkt hlen hTt htt hli hsz6 hih hlt hs5 hn4 hbd
          go_wp2_with (first
            | (go_at_call 46; refine HIH.out.mono ?_; rintro e w7 ⟨rv7, rfl, h7⟩
               obtain ⟨ys7, hy7⟩ : ∃ ys7, ys ++ tt.laid L ys.length = ys7 := ⟨_, rfl⟩
               have hbd := HBD.out
               rw [hy7] at h7 hbd
               have HY7 := Hid.mk hy7
               obtain ⟨g7, cap7, rfl, hgc7⟩ : ∃ g7 cap7, rv7 = .slice (some ⟨g7, 0, none⟩) ys7.length cap7 ∧ ∃ u, w7.cell? ⟨g7, xs4.length + i, none⟩ = some u := by
                 rcases h7.row.shape with ⟨_, e⟩ | ⟨g', cap', e, _, _, _, hc⟩
                 · rw [e] at hbd; cases hbd
                 · exact ⟨g', cap', e, _, hc _ hbd⟩
               obtain ⟨u7, hgc7⟩ := hgc7
               have hgf7 := h7.row.frozen (xs4.length + i)
               obtain ⟨v0, v1, vf⟩ := h7.cell
               have h8 := h7.set (xs4.length + i) (tt.own L ys.length)
               have H8 := Hid.mk h8
               clear h7 h8 hy7))
          go_roundw
          case rel =>
            have hlt := HLT.out
            refine ⟨i + 1, _, _, by omega, by first | rfl | go_num, H8, Hid.mk ?_⟩
            have hKl : (kids L (l.take i) (xs4.length + l.length)).1.length = i := by
              rw [kids_length, List.length_take]
              omega
            rw [← HY7.out, HLN.out]
            conv => lhs; arg 1; arg 1; rw [hYi.out]
            rw [List.append_assoc, set_mid _ _ _ _ _ _ hlt hKl, HKT.out]
            try simp only [List.append_assoc]
          case measure =>
            have hlt := HLT.out
            simp [intOf]
            omega
        · obtain rfl : i = l.length := by omega
          have HY := Hid.mk hYi.out
          clear hlen hs5 hn4
          go_wp2_with (first
            | (go_at_call 66; refine (hpk.out _).mono ?_; rintro e w8 ⟨rfl, rfl⟩))
          go_ret
          refine ⟨rvi, ?_, ?_⟩
          · rw [own_mk, numF, if_neg (by decide), if_pos (by decide)]
            rfl
          · have hY := HY.out
            rw [List.take_length, Nat.sub_self] at hY
            rw [laid_mk, show xs ++ (leadW 5 n l.length ++ (kids L l (xs.length + (leadW 5 n l.length).length + l.length)).1 ++ (kids L l (xs.length + (leadW 5 n l.length).length + l.length)).2) = ys by rw [hY, ← HN4.out, HX4.out]; simp only [List.replicate_zero, List.append_nil, List.append_assoc]]
            exact hback.out _ _ _ hLi.out
    by_cases h9 : k = 9
    · subst h9
      clear hf hsm h7 h5
      have HLD := Hid.mk (show leadW 9 n l.length = [] from rfl)
      have hpk := Hid.mk (fun w' => refpack_any 9 xs.length w' (by omega) (by have := HX.out; omega) (by omega) (by omega))
      have HX4 := Hid.mk (show xs = xs ++ leadW 9 n l.length by rw [HLD.out, List.append_nil])
      have H4 := h0
      have z0 := x0
      have z1 := x1
      have zf := xf
      have s0 := t0
      have s1 := t1
      have s2 := t2
      have s3 := t3
      go_enter Tryd.func46, Tryd.ntmps46
      go_upto_region 1 with fail
      try rw [hW0]
      clear hW0
      go_wp2
      have hn4 : xs.length = xs.length + (leadW 9 n l.length).length := by rw [HLD.out]; rfl
      have HN4 := Hid.mk hn4
      have hsum : xs.length + l.length ≤ 1000000 := by
        have h1 := HZ.out
        have h2 := HLL.out 0
        rw [laid_mk, List.length_append, List.length_append, kids_length] at h2
        omega
      have HS5 := Hid.mk hsum
      obtain ⟨rv5, w5, hr5, hR5, hg5, ha5⟩ := append_zeros W0.drew 33 _ _ (H4.out.up (Below.drew (Below.refl W0.heap.size W0))).row l.length hsum
      obtain ⟨xs5, hx5⟩ : ∃ xs5, xs ++ List.replicate l.length 0 = xs5 := ⟨_, rfl⟩
      rw [hx5] at hR5
      have HX5 := Hid.mk hx5
      clear hx5 hn4 hsum
      obtain ⟨a5, cap5, rfl⟩ := owns_slice hR5
      have h5 := (H4.out.up (Below.drew (Below.refl W0.heap.size W0))).grow hR5 hg5 ha5
      have hgb5 := (H4.out.up (Below.drew (Below.refl W0.heap.size W0))).grown_box hg5
      have nxb : ¬ (Value.slice ra xs.length rcap).ownBlock = some xb := fun e => (H4.out.nr xb e).1 rfl
      have ntb4 : ¬ (Value.slice ra xs.length rcap).ownBlock = some w.heap.size := fun e => by
        rcases H4.out.mine _ (Or.inr e) with hk | hk
        · exact NTB.out hk
        · have := (Array.getElem?_eq_some_iff.1 HTB.out).1
          omega
      have hgo5 : Only (fun k => (Value.slice ra xs.length rcap).ownBlock = some k) W0 w5 := (Only.refl _ W0).drew.grow hg5 (fun k hk => hk)
      have y51 : w5.cell? ⟨xb, 1, none⟩ = some (.slice ra xs.length rcap) := by simp [World.cell?, hgb5]
      have y5f : w5.frozen? ⟨xb, 1, none⟩ = false := by simp [World.frozen?, hgb5]
      refine wp_region_last (last := 11) (S := fun W => Only (fun k => (Value.slice ra xs.length rcap).ownBlock = some k) W0 W) (by kernel_rfl) ?_
      refine last_take (i := 0) (d := 88) (v := .pointer (some ⟨xb, 0, none⟩)) rfl rfl (by kernel_rfl) (by kernel_rfl) (by kernel_rfl) (by kernel_rfl) rfl (fun _ _ => rfl) (fun _ _ _ h => h) (Only.refl _ W0).drew ?_
      simp only [Act.put, List.setIfInBounds_toArray, List.set_cons_zero, List.set_cons_succ]
      refine last_take (i := 1) (d := 89) (v := .pointer (some ⟨xb, 0, none⟩)) rfl rfl (by kernel_rfl) (by kernel_rfl) (by kernel_rfl) (by kernel_rfl) rfl (fun _ _ => rfl) (fun _ _ _ h => h) (Only.refl _ W0).drew ?_
      simp only [Act.put, List.setIfInBounds_toArray, List.set_cons_zero, List.set_cons_succ]
      refine last_take (i := 2) (d := 90) (v := .pointer (some ⟨xb, 0, none⟩)) rfl rfl (by kernel_rfl) (by kernel_rfl) (by kernel_rfl) (by kernel_rfl) rfl (fun _ _ => (by go_simp)) (fun _ _ _ h => h) (Only.refl _ W0).drew ?_
      simp only [Act.put, List.setIfInBounds_toArray, List.set_cons_zero, List.set_cons_succ]
      refine last_take (i := 3) (d := 91) (v := .pointer (some ⟨xb, 1, none⟩)) rfl rfl (by kernel_rfl) (by kernel_rfl) (by kernel_rfl) (by kernel_rfl) rfl (fun _ _ => (by go_simp)) (fun _ _ _ h => h) (Only.refl _ W0).drew ?_
      simp only [Act.put, List.setIfInBounds_toArray, List.set_cons_zero, List.set_cons_succ]
      refine last_take (i := 4) (d := 92) (v := .slice ra xs.length rcap) rfl rfl (by kernel_rfl) (by kernel_rfl) (by kernel_rfl) (by kernel_rfl) rfl (fun W h => (by have u0 := Only.cellS h nxb z1; go_simp)) (fun _ _ _ h => h) (Only.refl _ W0).drew ?_
      simp only [Act.put, List.setIfInBounds_toArray, List.set_cons_zero, List.set_cons_succ]
      refine last_take (i := 5) (d := 93) (v := .pointer (some ⟨w.heap.size, 3, none⟩)) rfl rfl (by kernel_rfl) (by kernel_rfl) (by kernel_rfl) (by kernel_rfl) rfl (fun _ _ => (by go_simp)) (fun _ _ _ h => h) (Only.refl _ W0).drew ?_
      simp only [Act.put, List.setIfInBounds_toArray, List.set_cons_zero, List.set_cons_succ]
      refine last_take (i := 6) (d := 94) (v := .slice a l.length cap) rfl rfl (by kernel_rfl) (by kernel_rfl) (by kernel_rfl) (by kernel_rfl) rfl (fun W h => (by have u0 := Only.cellS h ntb4 s3; go_simp)) (fun _ _ _ h => h) (Only.refl _ W0).drew ?_
      simp only [Act.put, List.setIfInBounds_toArray, List.set_cons_zero, List.set_cons_succ]
      refine last_take (i := 7) (d := 95) (v := .int .i64 l.length) rfl rfl (by kernel_rfl) (by kernel_rfl) (by kernel_rfl) (by kernel_rfl) rfl (fun _ _ => (by go_simp)) (fun _ _ _ h => h) (Only.refl _ W0).drew ?_
      simp only [Act.put, List.setIfInBounds_toArray, List.set_cons_zero, List.set_cons_succ]
      refine last_value (i := 8) (d := 96) (v := .slice a5 xs5.length cap5) (w' := w5) (by kernel_rfl) rfl rfl rfl (exec_append rfl rfl hr5) (hgo5) ?_
      simp only [Act.put, List.setIfInBounds_toArray, List.set_cons_zero, List.set_cons_succ]
      refine last_value (i := 9) (d := 97) (v := .pointer (some ⟨xb, 0, none⟩)) (w' := w5) (by kernel_rfl) rfl rfl rfl (by go_simp) (hgo5) ?_
      simp only [Act.put, List.setIfInBounds_toArray, List.set_cons_zero, List.set_cons_succ]
      refine last_value (i := 10) (d := 98) (v := .pointer (some ⟨xb, 1, none⟩)) (w' := w5) (by kernel_rfl) rfl rfl rfl (by go_simp) (hgo5) ?_
      simp only [Act.put, List.setIfInBounds_toArray, List.set_cons_zero, List.set_cons_succ]
      refine last_store (w' := w5.setCell ⟨xb, 1, none⟩ (.slice a5 xs5.length cap5)) (by kernel_rfl) rfl rfl rfl (by go_simp) (by kernel_rfl) ?_
      obtain ⟨W5, hW5⟩ : ∃ W5, w5.setCell ⟨xb, 1, none⟩ (.slice a5 xs5.length cap5) = W5 := ⟨_, rfl⟩
      rw [hW5] at h5 ⊢
      have H5 := Hid.mk h5
      clear y51 y5f hr5 hR5 hg5 ha5 hgb5 hgo5 hW5 h5 nxb ntb4 z0 z1 zf s0 s1 s2 s3
      go_wp2
      go_loopw [12] (fun ii wr => ∃ (i : Nat) (rvi : Value) (ys : List Int), i ≤ l.length ∧ ii = .int .i64 i ∧ Hid (LaR (TurnsR xb (.slice ra xs.length rcap)) W0 wr q xb L vq rvi ys) ∧
        Hid (ys = xs ++ (kids L (l.take i) (xs.length + l.length)).1 ++ List.replicate (l.length - i) 0 ++ (kids L (l.take i) (xs.length + l.length)).2)) (fun ii _ => l.length - (intOf ii).toNat)
      case atStart =>
        refine ⟨0, _, xs5, Nat.zero_le _, rfl, H5, Hid.mk ?_⟩
        rw [List.take_zero, kids_nil, ← HX5.out]
        simp
      case round =>
        obtain ⟨i, rvi, ys, hi, rfl, hLi, hYi⟩ := hrel
        have hs5 := HS5.out
        have hn4 := HN4.out
        have r3 := hLi.out.keep NTB.out t3
        have r0 := hLi.out.keep NTB.out t0
        have hlen : ys.length = xs.length + l.length + (kids L (l.take i) (xs.length + l.length)).2.length := by
          have := congrArg List.length hYi.out
          rw [List.length_append, List.length_append, List.length_append, kids_length, List.length_replicate, List.length_take] at this
          omega
        by_cases hlt : i < l.length
        · obtain ⟨b, o, ha, hSb, hr⟩ := HL.out.some (by omega)
          subst ha
          obtain ⟨k', n', s', m', a', cap', hTt, c0, c1, c2, c3, hli⟩ := hr.part i hlt
          have nb := (HS0.out b hSb).2
          have c0 := hLi.out.keep nb c0
          have c1 := hLi.out.keep nb c1
          have c2 := hLi.out.keep nb c2
          have c3 := hLi.out.keep nb c3
          have hwi : IntKind.i64.wrap ((i : Int) + 1) = ((i + 1 : Nat) : Int) := by rw [wrap_id (by omega) (by omega)]; omega
          have hwj : IntKind.i64.wrap ((xs.length : Int) + i) = ((xs.length + i : Nat) : Int) := by rw [wrap_id (by omega) (by omega)]; omega
          have hsz6 : ys.length + l[i].wordsR ≤ 1000000 := by
            have h2 := HLL.out xs.length
            rw [laid_mk, List.length_append, List.length_append, kids_length, HLD.out] at h2; simp only [List.length_nil, Nat.add_zero] at h2
            have h3 := kids_le L l (xs.length + l.length) (i + 1)
            rw [kids_take L l _ i hlt] at h3
            simp only [List.length_append] at h3
            have h4 := laid_length L l[i] (fitss_all HFs.out _ (List.getElem_mem hlt)) (xs.length + l.length + (kids L (List.take i l) (xs.length + l.length)).2.length)
            have h5 := HZ.out
            omega
          have hih := ih.out l[i] (List.getElem_mem hlt) (fitss_all HFs.out _ (List.getElem_mem hlt)) S _ W0 q xb vq _ (Or.inr trivial) HS0.out hli wr L rvi ys hLi.out hsz6
          have hkt := kids_take L l (xs.length + l.length) i hlt
          obtain ⟨tt, htt⟩ : ∃ tt, l[i] = tt := ⟨_, rfl⟩
          simp only [htt] at hih hkt
          have HKT := Hid.mk hkt
          have HLN := Hid.mk hlen
          have HLT := Hid.mk hlt
          have HIH := Hid.mk hih
          have hle : decide ((i : Int) < l.length) = true := by rw [decide_eq_true_eq]; omega
          have hbd : xs.length + i < (ys ++ tt.laid L ys.length).length := by rw [List.length_append]; omega
          have HBD := Hid.mk hbd
          clear hkt hlen hTt htt hli hsz6 hih hlt hs5 hn4 hbd
          go_wp2_with (first
            | (go_at_call 46; refine HIH.out.mono ?_; rintro e w7 ⟨rv7, rfl, h7⟩
               obtain ⟨ys7, hy7⟩ : ∃ ys7, ys ++ tt.laid L ys.length = ys7 := ⟨_, rfl⟩
               have hbd := HBD.out
               rw [hy7] at h7 hbd
               have HY7 := Hid.mk hy7
               obtain ⟨g7, cap7, rfl, hgc7⟩ : ∃ g7 cap7, rv7 = .slice (some ⟨g7, 0, none⟩) ys7.length cap7 ∧ ∃ u, w7.cell? ⟨g7, xs.length + i, none⟩ = some u := by
                 rcases h7.row.shape with ⟨_, e⟩ | ⟨g', cap', e, _, _, _, hc⟩
                 · rw [e] at hbd; cases hbd
                 · exact ⟨g', cap', e, _, hc _ hbd⟩
               obtain ⟨u7, hgc7⟩ := hgc7
               have hgf7 := h7.row.frozen (xs.length + i)
               obtain ⟨v0, v1, vf⟩ := h7.cell
               have h8 := h7.set (xs.length + i) (tt.own L ys.length)
               have H8 := Hid.mk h8
               clear h7 h8 hy7))
          go_roundw
          case rel =>
            have hlt := HLT.out
            refine ⟨i + 1, _, _, by omega, by first | rfl | go_num, H8, Hid.mk ?_⟩
            have hKl : (kids L (l.take i) (xs.length + l.length)).1.length = i := by
              rw [kids_length, List.length_take]
              omega
            rw [← HY7.out, HLN.out]
            conv => lhs; arg 1; arg 1; rw [hYi.out]
            rw [List.append_assoc, set_mid _ _ _ _ _ _ hlt hKl, HKT.out]
            try simp only [List.append_assoc]
          case measure =>
            have hlt := HLT.out
            simp [intOf]
            omega
        · obtain rfl : i = l.length := by omega
          have HY := Hid.mk hYi.out
          clear hlen hs5 hn4
          go_wp2_with (first
            | (go_at_call 66; refine (hpk.out _).mono ?_; rintro e w8 ⟨rfl, rfl⟩))
          go_ret
          refine ⟨rvi, ?_, ?_⟩
          · rw [own_mk, numF, if_neg (by decide), if_pos (by decide)]
            rfl
          · have hY := HY.out
            rw [List.take_length, Nat.sub_self] at hY
            rw [laid_mk, show xs ++ (leadW 9 n l.length ++ (kids L l (xs.length + (leadW 9 n l.length).length + l.length)).1 ++ (kids L l (xs.length + (leadW 9 n l.length).length + l.length)).2) = ys by rw [hY, HLD.out]; simp only [List.replicate_zero, List.append_nil, List.append_assoc, List.nil_append, List.length_nil, Nat.add_zero]]
            exact hback.out _ _ _ hLi.out
    by_cases h2 : k = 2
    · subst h2
      clear hf hsm h7 h5 h9
      obtain rfl : l = [] := List.eq_nil_of_length_eq_zero (fit_noL HF.out rfl)
      simp only [List.length_nil] at hW0 t3
      have HLD := Hid.mk (show leadW 2 n ([] : List Tm).length = [] from rfl)
      have hpb : -1 ≤ posI s L ∧ posI s L ≤ 4096 := by
        have hlen := h0.out.tab.few
        unfold posI
        cases hp : pos s L with
        | none => simp
        | some i =>
          obtain ⟨h1, _⟩ := pos_some hp
          simp only
          omega
      have hpk := Hid.mk (fun w' => refpack_any 2 (posI s L) w' (by omega) (by omega) (by omega) (by omega))
      clear hpb
      have HX4 := Hid.mk (show xs = xs ++ leadW 2 n ([] : List Tm).length by rw [HLD.out, List.append_nil])
      have H4 := h0
      have z0 := x0
      have z1 := x1
      have zf := xf
      have s0 := t0
      have s1 := t1
      have s2 := t2
      have s3 := t3
      go_enter Tryd.func46, Tryd.ntmps46
      go_upto_region 1 with fail
      try rw [hW0]
      clear hW0
      go_wp2
      have hd0 := h0.out.up (Below.drew (Below.refl W0.heap.size W0))
      refine wp_region_held (S := fun _ => True) (by kernel_rfl) ?_
      refine chain_take (i := 0) (d := 27) (v := .pointer (some ⟨xb, 0, none⟩)) rfl rfl (by kernel_rfl) (by kernel_rfl) (by kernel_rfl) rfl (fun _ _ => rfl) (fun _ _ _ h => h) trivial ?_
      simp only [Act.put, List.setIfInBounds_toArray, List.set_cons_zero, List.set_cons_succ]
      refine chain_take (i := 1) (d := 28) (v := .pointer (some ⟨xb, 0, none⟩)) rfl rfl (by kernel_rfl) (by kernel_rfl) (by kernel_rfl) rfl (fun _ _ => (by go_simp)) (fun _ _ _ h => h) trivial ?_
      simp only [Act.put, List.setIfInBounds_toArray, List.set_cons_zero, List.set_cons_succ]
      refine chain_take (i := 2) (d := 29) (v := .pointer (some ⟨xb, 0, none⟩)) rfl rfl (by kernel_rfl) (by kernel_rfl) (by kernel_rfl) rfl (fun _ _ => (by go_simp)) (fun _ _ _ h => h) trivial ?_
      simp only [Act.put, List.setIfInBounds_toArray, List.set_cons_zero, List.set_cons_succ]
      refine chain_take (i := 4) (d := 31) (v := .pointer (some ⟨w.heap.size, 2, none⟩)) rfl rfl (by kernel_rfl) (by kernel_rfl) (by kernel_rfl) rfl (fun _ _ => (by go_simp)) (fun _ _ _ h => h) trivial ?_
      simp only [Act.put, List.setIfInBounds_toArray, List.set_cons_zero, List.set_cons_succ]
      refine chain_pair (i := 3) (j := 5) (d := 30) (e := 32) (u := .pointer (some ⟨q, 0, none⟩)) (v := .string s) (by kernel_rfl) rfl rfl rfl rfl (by decide) (by decide) (by kernel_rfl) (by kernel_rfl) rfl rfl rfl rfl (by go_simp) (by go_simp) (by go_simp) (by go_simp) trivial ?_
      simp only [Act.put, List.setIfInBounds_toArray, List.set_cons_zero, List.set_cons_succ]
      refine chain_call (i := 6) (d := 33) (f := 59) (args := #[.pointer (some ⟨q, 0, none⟩), .string s]) (by kernel_rfl) rfl rfl rfl (by go_simp) ?_
      refine (findR_any q vq L s _ hd0.tab).mono ?_
      rintro e w1 ⟨rfl, rfl⟩
      refine ⟨.int .i64 (posI s L), rfl, trivial, ?_⟩
      simp only [Act.put, List.setIfInBounds_toArray, List.set_cons_zero, List.set_cons_succ]
      refine chain_take (i := 7) (d := 5) (v := .int .i64 (posI s L)) rfl rfl (by kernel_rfl) (by kernel_rfl) (by kernel_rfl) rfl (fun _ _ => rfl) (fun _ _ _ h => h) trivial ?_
      simp only [Act.put, List.setIfInBounds_toArray, List.set_cons_zero, List.set_cons_succ]
      refine wpAnyH_done (by kernel_rfl) ?_ _
      obtain ⟨W4, hW4⟩ : ∃ W4, W0.drew = W4 := ⟨_, rfl⟩
      rw [hW4] at hd0
      first | rw [show ({ heap := W0.heap, tape := W0.tape, drawn := W0.drawn + 1, os := W0.os, output := W0.output } : World) = W4 from hW4] | rw [hW4]
      have H4 := Hid.mk hd0
      obtain ⟨z0, z1, zf⟩ := hd0.cell
      have s0 := hd0.keep NTB.out t0
      have s1 := hd0.keep NTB.out t1
      have s2 := hd0.keep NTB.out t2
      have s3 := hd0.keep NTB.out t3
      clear hd0 x0 x1 xf hW4
      go_wp2
      have hn4 : xs.length = xs.length + (leadW 2 n ([] : List Tm).length).length := by rw [HLD.out]; rfl
      have HN4 := Hid.mk hn4
      have hsum : xs.length + ([] : List Tm).length ≤ 1000000 := by
        have h1 := HZ.out
        have h2 := HLL.out 0
        rw [laid_mk, List.length_append, List.length_append, kids_length] at h2
        omega
      have HS5 := Hid.mk hsum
      obtain ⟨rv5, w5, hr5, hR5, hg5, ha5⟩ := append_zeros W4.drew 33 _ _ (H4.out.up (Below.drew (Below.refl W4.heap.size W4))).row ([] : List Tm).length hsum
      obtain ⟨xs5, hx5⟩ : ∃ xs5, xs ++ List.replicate ([] : List Tm).length 0 = xs5 := ⟨_, rfl⟩
      rw [hx5] at hR5
      have HX5 := Hid.mk hx5
      clear hx5 hn4 hsum
      obtain ⟨a5, cap5, rfl⟩ := owns_slice hR5
      have h5 := (H4.out.up (Below.drew (Below.refl W4.heap.size W4))).grow hR5 hg5 ha5
      have hgb5 := (H4.out.up (Below.drew (Below.refl W4.heap.size W4))).grown_box hg5
      have nxb : ¬ (Value.slice ra xs.length rcap).ownBlock = some xb := fun e => (H4.out.nr xb e).1 rfl
      have ntb4 : ¬ (Value.slice ra xs.length rcap).ownBlock = some w.heap.size := fun e => by
        rcases H4.out.mine _ (Or.inr e) with hk | hk
        · exact NTB.out hk
        · have := (Array.getElem?_eq_some_iff.1 HTB.out).1
          omega
      have hgo5 : Only (fun k => (Value.slice ra xs.length rcap).ownBlock = some k) W4 w5 := (Only.refl _ W4).drew.grow hg5 (fun k hk => hk)
      have y51 : w5.cell? ⟨xb, 1, none⟩ = some (.slice ra xs.length rcap) := by simp [World.cell?, hgb5]
      have y5f : w5.frozen? ⟨xb, 1, none⟩ = false := by simp [World.frozen?, hgb5]
      refine wp_region_last (last := 11) (S := fun W => Only (fun k => (Value.slice ra xs.length rcap).ownBlock = some k) W4 W) (by kernel_rfl) ?_
      refine last_take (i := 0) (d := 88) (v := .pointer (some ⟨xb, 0, none⟩)) rfl rfl (by kernel_rfl) (by kernel_rfl) (by kernel_rfl) (by kernel_rfl) rfl (fun _ _ => rfl) (fun _ _ _ h => h) (Only.refl _ W4).drew ?_
      simp only [Act.put, List.setIfInBounds_toArray, List.set_cons_zero, List.set_cons_succ]
      refine last_take (i := 1) (d := 89) (v := .pointer (some ⟨xb, 0, none⟩)) rfl rfl (by kernel_rfl) (by kernel_rfl) (by kernel_rfl) (by kernel_rfl) rfl (fun _ _ => rfl) (fun _ _ _ h => h) (Only.refl _ W4).drew ?_
      simp only [Act.put, List.setIfInBounds_toArray, List.set_cons_zero, List.set_cons_succ]
      refine last_take (i := 2) (d := 90) (v := .pointer (some ⟨xb, 0, none⟩)) rfl rfl (by kernel_rfl) (by kernel_rfl) (by kernel_rfl) (by kernel_rfl) rfl (fun _ _ => (by go_simp)) (fun _ _ _ h => h) (Only.refl _ W4).drew ?_
      simp only [Act.put, List.setIfInBounds_toArray, List.set_cons_zero, List.set_cons_succ]
      refine last_take (i := 3) (d := 91) (v := .pointer (some ⟨xb, 1, none⟩)) rfl rfl (by kernel_rfl) (by kernel_rfl) (by kernel_rfl) (by kernel_rfl) rfl (fun _ _ => (by go_simp)) (fun _ _ _ h => h) (Only.refl _ W4).drew ?_
      simp only [Act.put, List.setIfInBounds_toArray, List.set_cons_zero, List.set_cons_succ]
      refine last_take (i := 4) (d := 92) (v := .slice ra xs.length rcap) rfl rfl (by kernel_rfl) (by kernel_rfl) (by kernel_rfl) (by kernel_rfl) rfl (fun W h => (by have u0 := Only.cellS h nxb z1; go_simp)) (fun _ _ _ h => h) (Only.refl _ W4).drew ?_
      simp only [Act.put, List.setIfInBounds_toArray, List.set_cons_zero, List.set_cons_succ]
      refine last_take (i := 5) (d := 93) (v := .pointer (some ⟨w.heap.size, 3, none⟩)) rfl rfl (by kernel_rfl) (by kernel_rfl) (by kernel_rfl) (by kernel_rfl) rfl (fun _ _ => (by go_simp)) (fun _ _ _ h => h) (Only.refl _ W4).drew ?_
      simp only [Act.put, List.setIfInBounds_toArray, List.set_cons_zero, List.set_cons_succ]
      refine last_take (i := 6) (d := 94) (v := .slice a ([] : List Tm).length cap) rfl rfl (by kernel_rfl) (by kernel_rfl) (by kernel_rfl) (by kernel_rfl) rfl (fun W h => (by have u0 := Only.cellS h ntb4 s3; go_simp)) (fun _ _ _ h => h) (Only.refl _ W4).drew ?_
      simp only [Act.put, List.setIfInBounds_toArray, List.set_cons_zero, List.set_cons_succ]
      refine last_take (i := 7) (d := 95) (v := .int .i64 ([] : List Tm).length) rfl rfl (by kernel_rfl) (by kernel_rfl) (by kernel_rfl) (by kernel_rfl) rfl (fun _ _ => (by go_simp)) (fun _ _ _ h => h) (Only.refl _ W4).drew ?_
      simp only [Act.put, List.setIfInBounds_toArray, List.set_cons_zero, List.set_cons_succ]
      refine last_value (i := 8) (d := 96) (v := .slice a5 xs5.length cap5) (w' := w5) (by kernel_rfl) rfl rfl rfl (exec_append rfl rfl hr5) (hgo5) ?_
      simp only [Act.put, List.setIfInBounds_toArray, List.set_cons_zero, List.set_cons_succ]
      refine last_value (i := 9) (d := 97) (v := .pointer (some ⟨xb, 0, none⟩)) (w' := w5) (by kernel_rfl) rfl rfl rfl (by go_simp) (hgo5) ?_
      simp only [Act.put, List.setIfInBounds_toArray, List.set_cons_zero, List.set_cons_succ]
      refine last_value (i := 10) (d := 98) (v := .pointer (some ⟨xb, 1, none⟩)) (w' := w5) (by kernel_rfl) rfl rfl rfl (by go_simp) (hgo5) ?_
      simp only [Act.put, List.setIfInBounds_toArray, List.set_cons_zero, List.set_cons_succ]
      refine last_store (w' := w5.setCell ⟨xb, 1, none⟩ (.slice a5 xs5.length cap5)) (by kernel_rfl) rfl rfl rfl (by go_simp) (by kernel_rfl) ?_
      obtain ⟨W5, hW5⟩ : ∃ W5, w5.setCell ⟨xb, 1, none⟩ (.slice a5 xs5.length cap5) = W5 := ⟨_, rfl⟩
      rw [hW5] at h5 ⊢
      have H5 := Hid.mk h5
      clear y51 y5f hr5 hR5 hg5 ha5 hgb5 hgo5 hW5 h5 nxb ntb4 z0 z1 zf s0 s1 s2 s3
      go_wp2
      go_loopw [12] (fun ii wr => ∃ (i : Nat) (rvi : Value) (ys : List Int), i ≤ ([] : List Tm).length ∧ ii = .int .i64 i ∧ Hid (LaR (TurnsR xb (.slice ra xs.length rcap)) W0 wr q xb L vq rvi ys) ∧
        Hid (ys = xs ++ (kids L (([] : List Tm).take i) (xs.length + ([] : List Tm).length)).1 ++ List.replicate (([] : List Tm).length - i) 0 ++ (kids L (([] : List Tm).take i) (xs.length + ([] : List Tm).length)).2)) (fun ii _ => ([] : List Tm).length - (intOf ii).toNat)
      case atStart =>
        refine ⟨0, _, xs5, Nat.zero_le _, rfl, H5, Hid.mk ?_⟩
        rw [List.take_zero, kids_nil, ← HX5.out]
        simp
      case round =>
        obtain ⟨i, rvi, ys, hi, rfl, hLi, hYi⟩ := hrel
        have hs5 := HS5.out
        have hn4 := HN4.out
        have r3 := hLi.out.keep NTB.out t3
        have r0 := hLi.out.keep NTB.out t0
        have hlen : ys.length = xs.length + ([] : List Tm).length + (kids L (([] : List Tm).take i) (xs.length + ([] : List Tm).length)).2.length := by
          have := congrArg List.length hYi.out
          rw [List.length_append, List.length_append, List.length_append, kids_length, List.length_replicate, List.length_take] at this
          omega
        obtain rfl : i = 0 := by simpa using hi
        have HY := Hid.mk hYi.out
        clear hlen hs5 hn4
        go_wp2_with (first
          | (go_at_call 66; refine (hpk.out _).mono ?_; rintro e w8 ⟨rfl, rfl⟩))
        go_ret
        refine ⟨rvi, ?_, ?_⟩
        · rw [own_mk, numF, if_pos rfl]
          rfl
        · have hY := HY.out
          rw [List.take_zero] at hY
          rw [laid_mk, show xs ++ (leadW 2 n ([] : List Tm).length ++ (kids L [] (xs.length + (leadW 2 n ([] : List Tm).length).length + ([] : List Tm).length)).1 ++ (kids L [] (xs.length + (leadW 2 n ([] : List Tm).length).length + ([] : List Tm).length)).2) = ys by rw [hY, HLD.out]; simp only [List.replicate_zero, List.append_nil, List.append_assoc, List.nil_append, List.length_nil, Nat.add_zero, Nat.sub_self]]
          exact hback.out _ _ _ hLi.out
    · have hb : hasL k = false := by simp [hasL]; omega
      clear hf hsm h7 h5 h9
      obtain rfl : l = [] := List.eq_nil_of_length_eq_zero (fit_noL HF.out hb)
      simp only [List.length_nil] at hW0 t3
      simp only [hasL, decide_eq_false_iff_not] at hb
      have k5 : (k == 5) = false := by simp; omega
      have k7 : (k == 7) = false := by simp; omega
      have k9 : (k == 9) = false := by simp; omega
      have k2 : (k == 2) = false := by simp; omega
      have HLD := Hid.mk (show leadW k n ([] : List Tm).length = [] by unfold leadW; rw [if_neg (by omega), if_neg (by omega)])
      have hpk := Hid.mk (fun w' => refpack_any k n w' HM.out.n0 HM.out.n1 HM.out.k0 HM.out.k1)
      have HB := Hid.mk hb
      have HK2 := Hid.mk h2
      clear hb h2
      have HX4 := Hid.mk (show xs = xs ++ leadW k n ([] : List Tm).length by rw [HLD.out, List.append_nil])
      have H4 := h0
      have z0 := x0
      have z1 := x1
      have zf := xf
      have s0 := t0
      have s1 := t1
      have s2 := t2
      have s3 := t3
      go_enter Tryd.func46, Tryd.ntmps46
      go_upto_region 1 with fail
      try rw [hW0]
      clear hW0
      go_wp2
      have hn4 : xs.length = xs.length + (leadW k n ([] : List Tm).length).length := by rw [HLD.out]; rfl
      have HN4 := Hid.mk hn4
      have hsum : xs.length + ([] : List Tm).length ≤ 1000000 := by
        have h1 := HZ.out
        have h2 := HLL.out 0
        rw [laid_mk, List.length_append, List.length_append, kids_length] at h2
        omega
      have HS5 := Hid.mk hsum
      obtain ⟨rv5, w5, hr5, hR5, hg5, ha5⟩ := append_zeros W0.drew 33 _ _ (H4.out.up (Below.drew (Below.refl W0.heap.size W0))).row ([] : List Tm).length hsum
      obtain ⟨xs5, hx5⟩ : ∃ xs5, xs ++ List.replicate ([] : List Tm).length 0 = xs5 := ⟨_, rfl⟩
      rw [hx5] at hR5
      have HX5 := Hid.mk hx5
      clear hx5 hn4 hsum
      obtain ⟨a5, cap5, rfl⟩ := owns_slice hR5
      have h5 := (H4.out.up (Below.drew (Below.refl W0.heap.size W0))).grow hR5 hg5 ha5
      have hgb5 := (H4.out.up (Below.drew (Below.refl W0.heap.size W0))).grown_box hg5
      have nxb : ¬ (Value.slice ra xs.length rcap).ownBlock = some xb := fun e => (H4.out.nr xb e).1 rfl
      have ntb4 : ¬ (Value.slice ra xs.length rcap).ownBlock = some w.heap.size := fun e => by
        rcases H4.out.mine _ (Or.inr e) with hk | hk
        · exact NTB.out hk
        · have := (Array.getElem?_eq_some_iff.1 HTB.out).1
          omega
      have hgo5 : Only (fun k => (Value.slice ra xs.length rcap).ownBlock = some k) W0 w5 := (Only.refl _ W0).drew.grow hg5 (fun k hk => hk)
      have y51 : w5.cell? ⟨xb, 1, none⟩ = some (.slice ra xs.length rcap) := by simp [World.cell?, hgb5]
      have y5f : w5.frozen? ⟨xb, 1, none⟩ = false := by simp [World.frozen?, hgb5]
      refine wp_region_last (last := 11) (S := fun W => Only (fun k => (Value.slice ra xs.length rcap).ownBlock = some k) W0 W) (by kernel_rfl) ?_
      refine last_take (i := 0) (d := 88) (v := .pointer (some ⟨xb, 0, none⟩)) rfl rfl (by kernel_rfl) (by kernel_rfl) (by kernel_rfl) (by kernel_rfl) rfl (fun _ _ => rfl) (fun _ _ _ h => h) (Only.refl _ W0).drew ?_
      simp only [Act.put, List.setIfInBounds_toArray, List.set_cons_zero, List.set_cons_succ]
      refine last_take (i := 1) (d := 89) (v := .pointer (some ⟨xb, 0, none⟩)) rfl rfl (by kernel_rfl) (by kernel_rfl) (by kernel_rfl) (by kernel_rfl) rfl (fun _ _ => rfl) (fun _ _ _ h => h) (Only.refl _ W0).drew ?_
      simp only [Act.put, List.setIfInBounds_toArray, List.set_cons_zero, List.set_cons_succ]
      refine last_take (i := 2) (d := 90) (v := .pointer (some ⟨xb, 0, none⟩)) rfl rfl (by kernel_rfl) (by kernel_rfl) (by kernel_rfl) (by kernel_rfl) rfl (fun _ _ => (by go_simp)) (fun _ _ _ h => h) (Only.refl _ W0).drew ?_
      simp only [Act.put, List.setIfInBounds_toArray, List.set_cons_zero, List.set_cons_succ]
      refine last_take (i := 3) (d := 91) (v := .pointer (some ⟨xb, 1, none⟩)) rfl rfl (by kernel_rfl) (by kernel_rfl) (by kernel_rfl) (by kernel_rfl) rfl (fun _ _ => (by go_simp)) (fun _ _ _ h => h) (Only.refl _ W0).drew ?_
      simp only [Act.put, List.setIfInBounds_toArray, List.set_cons_zero, List.set_cons_succ]
      refine last_take (i := 4) (d := 92) (v := .slice ra xs.length rcap) rfl rfl (by kernel_rfl) (by kernel_rfl) (by kernel_rfl) (by kernel_rfl) rfl (fun W h => (by have u0 := Only.cellS h nxb z1; go_simp)) (fun _ _ _ h => h) (Only.refl _ W0).drew ?_
      simp only [Act.put, List.setIfInBounds_toArray, List.set_cons_zero, List.set_cons_succ]
      refine last_take (i := 5) (d := 93) (v := .pointer (some ⟨w.heap.size, 3, none⟩)) rfl rfl (by kernel_rfl) (by kernel_rfl) (by kernel_rfl) (by kernel_rfl) rfl (fun _ _ => (by go_simp)) (fun _ _ _ h => h) (Only.refl _ W0).drew ?_
      simp only [Act.put, List.setIfInBounds_toArray, List.set_cons_zero, List.set_cons_succ]
      refine last_take (i := 6) (d := 94) (v := .slice a ([] : List Tm).length cap) rfl rfl (by kernel_rfl) (by kernel_rfl) (by kernel_rfl) (by kernel_rfl) rfl (fun W h => (by have u0 := Only.cellS h ntb4 s3; go_simp)) (fun _ _ _ h => h) (Only.refl _ W0).drew ?_
      simp only [Act.put, List.setIfInBounds_toArray, List.set_cons_zero, List.set_cons_succ]
      refine last_take (i := 7) (d := 95) (v := .int .i64 ([] : List Tm).length) rfl rfl (by kernel_rfl) (by kernel_rfl) (by kernel_rfl) (by kernel_rfl) rfl (fun _ _ => (by go_simp)) (fun _ _ _ h => h) (Only.refl _ W0).drew ?_
      simp only [Act.put, List.setIfInBounds_toArray, List.set_cons_zero, List.set_cons_succ]
      refine last_value (i := 8) (d := 96) (v := .slice a5 xs5.length cap5) (w' := w5) (by kernel_rfl) rfl rfl rfl (exec_append rfl rfl hr5) (hgo5) ?_
      simp only [Act.put, List.setIfInBounds_toArray, List.set_cons_zero, List.set_cons_succ]
      refine last_value (i := 9) (d := 97) (v := .pointer (some ⟨xb, 0, none⟩)) (w' := w5) (by kernel_rfl) rfl rfl rfl (by go_simp) (hgo5) ?_
      simp only [Act.put, List.setIfInBounds_toArray, List.set_cons_zero, List.set_cons_succ]
      refine last_value (i := 10) (d := 98) (v := .pointer (some ⟨xb, 1, none⟩)) (w' := w5) (by kernel_rfl) rfl rfl rfl (by go_simp) (hgo5) ?_
      simp only [Act.put, List.setIfInBounds_toArray, List.set_cons_zero, List.set_cons_succ]
      refine last_store (w' := w5.setCell ⟨xb, 1, none⟩ (.slice a5 xs5.length cap5)) (by kernel_rfl) rfl rfl rfl (by go_simp) (by kernel_rfl) ?_
      obtain ⟨W5, hW5⟩ : ∃ W5, w5.setCell ⟨xb, 1, none⟩ (.slice a5 xs5.length cap5) = W5 := ⟨_, rfl⟩
      rw [hW5] at h5 ⊢
      have H5 := Hid.mk h5
      clear y51 y5f hr5 hR5 hg5 ha5 hgb5 hgo5 hW5 h5 nxb ntb4 z0 z1 zf s0 s1 s2 s3
      go_wp2
      go_loopw [12] (fun ii wr => ∃ (i : Nat) (rvi : Value) (ys : List Int), i ≤ ([] : List Tm).length ∧ ii = .int .i64 i ∧ Hid (LaR (TurnsR xb (.slice ra xs.length rcap)) W0 wr q xb L vq rvi ys) ∧
        Hid (ys = xs ++ (kids L (([] : List Tm).take i) (xs.length + ([] : List Tm).length)).1 ++ List.replicate (([] : List Tm).length - i) 0 ++ (kids L (([] : List Tm).take i) (xs.length + ([] : List Tm).length)).2)) (fun ii _ => ([] : List Tm).length - (intOf ii).toNat)
      case atStart =>
        refine ⟨0, _, xs5, Nat.zero_le _, rfl, H5, Hid.mk ?_⟩
        rw [List.take_zero, kids_nil, ← HX5.out]
        simp
      case round =>
        obtain ⟨i, rvi, ys, hi, rfl, hLi, hYi⟩ := hrel
        have hs5 := HS5.out
        have hn4 := HN4.out
        have r3 := hLi.out.keep NTB.out t3
        have r0 := hLi.out.keep NTB.out t0
        have hlen : ys.length = xs.length + ([] : List Tm).length + (kids L (([] : List Tm).take i) (xs.length + ([] : List Tm).length)).2.length := by
          have := congrArg List.length hYi.out
          rw [List.length_append, List.length_append, List.length_append, kids_length, List.length_replicate, List.length_take] at this
          omega
        obtain rfl : i = 0 := by simpa using hi
        have HY := Hid.mk hYi.out
        clear hlen hs5 hn4
        go_wp2_with (first
          | (go_at_call 66; refine (hpk.out _).mono ?_; rintro e w8 ⟨rfl, rfl⟩))
        go_ret
        refine ⟨rvi, ?_, ?_⟩
        · rw [own_mk, numF, if_neg HK2.out, if_neg (by have hb := HB.out; simp [hasL]; omega)]
          rfl
        · have hY := HY.out
          rw [List.take_zero] at hY
          rw [laid_mk, show xs ++ (leadW k n ([] : List Tm).length ++ (kids L [] (xs.length + (leadW k n ([] : List Tm).length).length + ([] : List Tm).length)).1 ++ (kids L [] (xs.length + (leadW k n ([] : List Tm).length).length + ([] : List Tm).length)).2) = ys by rw [hY, HLD.out]; simp only [List.replicate_zero, List.append_nil, List.append_assoc, List.nil_append, List.length_nil, Nat.add_zero, Nat.sub_self]]
          exact hback.out _ _ _ hLi.out
end Go.Proofs.YthkjdcmlalgphaaDoor
