/-
  The closure that lays a term.
-/
import Derived.Test.YthkjdcmlalgphaaDoorZFlatRow
import Derived.Deep.RegionWith
import Derived.Deep.LoopGhost
import Derived.Deep.Cut
namespace Go.Proofs.YthkjdcmlalgphaaDoor
open Go.RowKit Go.Deep

/-- What the closure that lays terms stands on. -/
structure LayC (B : Nat → Prop) (w0 : World) (p fb ab lb : Nat) : Prop where
  self : w0.cell? ⟨fb, 0, none⟩ = some (.func (.func 40) #[] #[.pointer (some ⟨ab, 0, none⟩), .pointer (some ⟨lb, 0, none⟩), .pointer (some ⟨fb, 0, none⟩)])
  tabp : w0.cell? ⟨ab, 0, none⟩ = some (.pointer (some ⟨p, 0, none⟩))
  words : WordTab w0
  nfb : ¬ B fb
  nab : ¬ B ab
  nw : ¬ B 1

/-- The blocks that laying turns. -/
def Turns (p bm lb : Nat) (v rv : Value) (k : Nat) : Prop := Mine p bm v k ∨ k = lb ∨ rv.ownBlock = some k
theorem Lay.lt' {B : Nat → Prop} {w0 w : World} {p bm lb : Nat} {L : List ByteArray} {v rv : Value} {xs : List Int} (h : Lay B w0 w p bm lb L v rv xs) {k : Nat} (hk : Turns p bm lb v rv k) : k < w.heap.size := by
  rcases hk with hk | rfl | hk
  · exact h.tab.lt hk
  · exact h.lt
  · exact h.row.block_lt hk
/-- From here on. -/
theorem Lay.base {B : Nat → Prop} {w0 w : World} {p bm lb : Nat} {L : List ByteArray} {v rv : Value} {xs : List Int} (h : Lay B w0 w p bm lb L v rv xs) : Lay (Turns p bm lb v rv) w w p bm lb L v rv xs :=
  ⟨h.tab, h.box, h.row, h.nm, h.nr, Only.refl _ _, fun _ hk => Or.inl hk⟩
theorem Lay.back {B : Nat → Prop} {w0 w w' : World} {p bm lb : Nat} {L L' : List ByteArray} {v rv v' rv' : Value} {xs xs' : List Int} (h : Lay B w0 w p bm lb L v rv xs) (h' : Lay (Turns p bm lb v rv) w w' p bm lb L' v' rv' xs') : Lay B w0 w' p bm lb L' v' rv' xs' :=
  ⟨h'.tab, h'.box, h'.row, h'.nm, h'.nr, h.only.trans h'.only (fun i hi => h.mine i hi), fun k hk => by
    rcases h'.mine k hk with hk | hk
    · exact h.mine k hk
    · exact Or.inr (Nat.le_trans h.only.size hk)⟩
theorem Lay.not_turns {B : Nat → Prop} {w0 w : World} {p bm lb : Nat} {L : List ByteArray} {v rv : Value} {xs : List Int} (h : Lay B w0 w p bm lb L v rv xs) {b : Nat} (hb : ¬ B b) (hl : b < w0.heap.size) : ¬ Turns p bm lb v rv b := fun hk => (h.mine b hk).elim hb (fun hh => by omega)
theorem LayC.base {B : Nat → Prop} {w0 w : World} {p bm fb ab lb : Nat} {L : List ByteArray} {v rv : Value} {xs : List Int} (h : LayC B w0 p fb ab lb) (hl : Lay B w0 w p bm lb L v rv xs) : LayC (Turns p bm lb v rv) w p fb ab lb :=
  ⟨hl.keep h.nfb h.self, hl.keep h.nab h.tabp, h.words.kept hl.only h.nw, hl.not_turns h.nfb (World.block_lt_of_cell? w0 ⟨fb, 0, none⟩ h.self), hl.not_turns h.nab (World.block_lt_of_cell? w0 ⟨ab, 0, none⟩ h.tabp), hl.not_turns h.nw h.words.size⟩

theorem set_mid (A K Z : List Int) (m i : Nat) (x : Int) (hi : i < m) (hK : K.length = i) : (A ++ K ++ List.replicate (m - i) 0 ++ Z).set (A.length + i) x = A ++ (K ++ [x]) ++ List.replicate (m - (i + 1)) 0 ++ Z := by
  obtain ⟨d, hd⟩ : ∃ d, m - i = d + 1 := ⟨m - i - 1, by omega⟩
  rw [hd, show m - (i + 1) = d by omega, List.replicate_succ]
  have e : A.length + i = (A ++ K).length := by rw [List.length_append, hK]
  rw [e, List.append_assoc (A ++ K), List.set_append_right _ _ (Nat.le_refl _), Nat.sub_self]
  simp
theorem exec_append {P : Program} {ev : Operand → Value} {w w' : World} {s x : Operand} {t tn ty : TypeId} {vs vx v' : Value} {ps : String} {af : Array Edge} {dst : Option Tmp} (hs : ev s = vs) (hx : ev x = vx) (hr : (Builtin.append_ #[t, tn] ty #[vs, vx]).run P w = .ok v' w') :
    (execOp ev ⟨dst, .call { callee := .builtin .append, args := #[s, x], argTypes := #[t, tn] }, ty, ps, af, none⟩).run P w = .ok (.value v') w' := by
  unfold execOp
  simp only [resolve, invoke, builtin, Sem.run_bind, Sem.run_pure, Result.andThen_ok, List.map_toArray, List.map_cons, List.map_nil, hs, hx, hr]

def layErr (b : Bool) : Int := if b = true then 0 else 8
/-- The number, where there is one. -/
theorem numP_ok {L L1 : List ByteArray} {k n nn : Int} {s : ByteArray} {l : List Tm} {p : Nat} (h : numP L k n s p = (nn, 0, L1)) (hf : fitB k n s.size l.length = true) :
    (Tm.mk k n s l).nums L = numss l L1 ∧ (∀ F p', p' = p → Ext L1 F → (Tm.mk k n s l).own F p' = Wd.packW k nn) ∧ (nn ≤ 4096 ∨ nn ≤ p ∨ nn = n) ∧ (0 ≤ nn ∨ nn = n) ∨ L.length > 4096 := by
  by_cases h2 : k = 2
  · subst h2
    rw [numP, if_pos rfl] at h
    simp only [Prod.mk.injEq] at h
    obtain ⟨h1, h3, h4⟩ := h
    have hl := fit_noL hf rfl
    obtain rfl : l = [] := List.eq_nil_of_length_eq_zero hl
    have hle : (put L s).1 ≤ L.length := by
      rcases put_cases L s with ⟨i, _, hp, e⟩ | ⟨_, _, e⟩ | ⟨e', _, _, e⟩
      · rw [e]; obtain ⟨hp, _⟩ := pos_some hp; simp only; omega
      · rw [e]; exact Nat.le_refl _
      · rw [e]; exact Nat.zero_le _
    by_cases hL : L.length > 4096
    · exact Or.inr hL
    · refine Or.inl ⟨?_, fun F p' _ hF => ?_, Or.inl (by omega), Or.inl (by omega)⟩
      · rw [nums_atom, numss_nil, ← h4]
        have : (put L s).2.1 = 0 := by omega
        simp [this]
      · rw [own_mk, numF, if_pos rfl, ← h1, put_posI (by omega) (h4 ▸ hF)]
  · rw [numP, if_neg h2] at h
    simp only [Prod.mk.injEq] at h
    obtain ⟨h1, _, rfl⟩ := h
    refine Or.inl ⟨nums_other h2 _ _ _ _, fun F p' hp _ => ?_, ?_, ?_⟩
    · subst hp
      rw [own_mk, numF, if_neg h2, ← h1]
    · rw [← h1]
      split <;> omega
    · rw [← h1]
      split <;> omega
theorem numP_bad {L L1 : List ByteArray} {k n nn e : Int} {s : ByteArray} {l : List Tm} {p : Nat} (h : numP L k n s p = (nn, e, L1)) (he : e ≠ 0) (hf : fitB k n s.size l.length = true) : e = 8 ∧ (Tm.mk k n s l).nums L = (false, L1) := by
  by_cases h2 : k = 2
  · subst h2
    rw [numP, if_pos rfl] at h
    simp only [Prod.mk.injEq] at h
    obtain ⟨_, h3, h4⟩ := h
    have hs : s.size ≤ 64 := by
      simp only [fitB, decide_eq_true_eq] at hf
      omega
    rcases put_cases L s with ⟨i, _, hp, e'⟩ | ⟨_, _, e'⟩ | ⟨e'', h0, h8, e'⟩
    · rw [e'] at h3; simp at h3; omega
    · rw [e'] at h3; simp at h3; omega
    · refine ⟨?_, ?_⟩
      · rw [← h3, e']
        simp [h8 hs]
      · rw [nums_atom, ← h4]
        simp [e', h0]
  · rw [numP, if_neg h2] at h
    simp only [Prod.mk.injEq] at h
    omega
set_option maxHeartbeats 4000000 in
set_option maxRecDepth 100000 in
theorem lay_any (T : Tm) : T.fits = true → ∀ (S B : Nat → Prop) (w0 : World) (p bm lb fb ab : Nat) (tv : Value), LayC B w0 p fb ab lb → (∀ b, S b → b < w0.heap.size ∧ ¬ B b) → Lies w0 S T tv →
    ∀ (w : World) (L : List ByteArray) (v rv : Value) (xs : List Int) (at_ : Nat), Lay B w0 w p bm lb L v rv xs → at_ < xs.length → xs.length + T.wordsR ≤ 1000000 →
    Calls Tryd.prog 40 #[.int .i64 at_, tv, .pointer (some ⟨ab, 0, none⟩), .pointer (some ⟨lb, 0, none⟩), .pointer (some ⟨fb, 0, none⟩)] w fun e w' =>
      ∃ v' rv' xs', e = .returned (.int .i64 (layErr (T.nums L).1)) ∧ Lay B w0 w' p bm lb (T.nums L).2 v' rv' xs' ∧ ((T.nums L).1 = true → ∀ F, Ext (T.nums L).2 F → xs' = xs.set at_ (T.own F xs.length) ++ T.laid F xs.length) := by
  induction T using Tm.induct with
  | h k n s l ih0 =>
    intro hf S B w0 p bm lb fb ab tv hC hS hT w L v rv xs at_ h hat hsz
    have ih := Hid.mk ih0
    clear ih0
    obtain ⟨a, cap, rfl, hsm, hl⟩ := hT.out
    have hwr := wordsR_mk k n s l
    have hlaidlen := fun F => laid_length F (.mk k n s l) hf
    rw [fits_mk, Bool.and_eq_true] at hf
    obtain ⟨W0, hW0⟩ : ∃ W0, w.alloc (.cells #[.int .i64 k, .int .i64 n, .string s, .slice a l.length cap] 25) = W0 := ⟨_, rfl⟩
    have hb0 : Below w.heap.size w W0 := by rw [← hW0]; exact (Below.refl _ _).alloc (Nat.le_refl _) _
    have hbx : W0.heap[w.heap.size]? = some (.cells #[.int .i64 k, .int .i64 n, .string s, .slice a l.length cap] 25) := by rw [← hW0]; exact new_block _ _
    have hU := h.up hb0
    have ntb : ¬ Turns p bm lb v rv w.heap.size := fun hk => by have := h.lt' hk; omega
    have hC0 := hC.base hU
    have hS0 : ∀ b, S b → b < W0.heap.size ∧ ¬ Turns p bm lb v rv b := fun b hb => ⟨Nat.lt_of_lt_of_le (hS b hb).1 hU.only.size, hU.not_turns (hS b hb).2 (hS b hb).1⟩
    have hl0 : Lst W0 S l a cap := by
      have := hU.lies hS hT
      obtain ⟨a', cap', e, _, h'⟩ := this.out
      simp only [Value.agg.injEq, Array.mk.injEq, List.cons.injEq, Value.slice.injEq, true_and, and_true] at e
      obtain ⟨rfl, rfl⟩ := e
      exact h'
    have hback := Hid.mk (fun (w' : World) (L' : List ByteArray) (v' rv' : Value) (xs' : List Int) (h' : Lay (Turns p bm lb v rv) W0 w' p bm lb L' v' rv' xs') => hU.back h')
    have h0 := Hid.mk hU.base
    obtain ⟨⟨t0, t1, t2, t3⟩, _⟩ := kept4 hbx (Below.refl _ _)
    have cl := h0.out.cell.1
    have ca := hC0.tabp
    obtain ⟨ra, rcap, hrv⟩ := owns_slice h0.out.row
    obtain ⟨nn, ee, L1, hP⟩ : ∃ nn ee L1, numP L k n s xs.length = (nn, ee, L1) := ⟨_, _, _, rfl⟩
    have hnum := number_any p bm v L k n s a l.length cap xs.length W0 h0.out.tab (by have := hf.1; simp only [fitB, decide_eq_true_eq] at this; unfold maxLen; omega)
    rw [hP] at hnum
    have hnum := Hid.mk hnum
    have hL4 : L.length ≤ 4096 := h.tab.good.few
    have HF := Hid.mk hf.1
    have HFs := Hid.mk hf.2
    have HZ := Hid.mk hsz
    have HA := Hid.mk hat
    have HM := Hid.mk hsm
    have HW := Hid.mk hwr
    have HLL := Hid.mk hlaidlen
    have HC := Hid.mk hC0
    have HS0 := Hid.mk hS0
    have HL := Hid.mk hl0
    have NTB := Hid.mk ntb
    have HTB := Hid.mk hbx
    clear hS hT hC hU hC0 hS0 hl0 hl ntb hb0 hbx hat hsz hsm hwr hlaidlen h
    by_cases he : ee = 0
    · subst he
      have hpk := (numP_ok hP hf.1).resolve_right (by omega)
      obtain ⟨hN, hO, hn1, hn2⟩ := hpk
      have hnb : -9223372036854775808 ≤ nn ∧ nn ≤ 9223372036854775807 := by
        have h1 := HM.out.n0
        have h2 := HM.out.n1
        have h3 := HZ.out
        have h4 := words_le (.mk k n s l)
        omega
      rw [hN]
      have HO := Hid.mk hO
      have HNB := Hid.mk hnb
      clear hN hO hn1 hn2 hnb hP hf hL4
      subst hrv
      go_enter Tryd.func40, Tryd.ntmps40
      go_upto_region 1 with fail
      try rw [hW0]
      clear hW0
      go_wp2_with (first
        | (go_at_call 41; refine hnum.out.mono ?_; rintro e w1 ⟨rfl, hl1⟩))
      obtain ⟨v1, h1⟩ := h0.out.intern hl1
      obtain ⟨g, rfl⟩ : ∃ g, ra = some ⟨g, 0, none⟩ := by
        rcases h1.row.shape with ⟨_, e⟩ | ⟨g, cap', e, _⟩
        · have := HA.out; rw [e] at this; cases this
        · cases e; exact ⟨g, rfl⟩
      have hgc : ∃ u, w1.cell? ⟨g, at_, none⟩ = some u := by
        rcases h1.row.shape with ⟨e, _⟩ | ⟨g', cap', e, _, _, _, hc⟩
        · cases e
        · cases e; exact ⟨_, hc at_ HA.out⟩
      obtain ⟨u, hgc⟩ := hgc
      have hgf := h1.row.frozen at_
      have hpk := Hid.mk (fun w' ht => packF_any k nn w' ht HNB.out.1 HNB.out.2 HM.out.k0 HM.out.k1)
      have hlead := Hid.mk (fun w' ht => lead_any k n s a l.length cap w' ht HF.out)
      have hw1 := Hid.mk (HC.out.words.kept h1.only HC.out.nw)
      have cl1 := h1.cell.1
      have t01 := h1.keep NTB.out t0
      have HA2 : at_ < xs.length := HA.out
      clear cl ca t0 t1 t2 t3 hl1 hnum
      have H1 := Hid.mk h1
      clear h1
      have hgl : lb ≠ g := fun e => (H1.out.nr g rfl).1 e.symm
      have hgt : w.heap.size ≠ g := fun e => NTB.out (Or.inr (Or.inr (by rw [e]; rfl)))
      refine wp_region_held (S := Only (fun k => k = g) w1) (by kernel_rfl) ?_
      refine chain_take (i := 0) (d := 25) (v := .slice (some ⟨g, 0, none⟩) xs.length rcap) rfl rfl (by kernel_rfl) (by kernel_rfl) (by kernel_rfl) rfl (fun W h => (by have u0 := Only.cell h (by omega) cl1; go_simp)) (fun _ _ _ h => h) (Only.refl _ w1).drew ?_
      simp only [Act.put, List.setIfInBounds_toArray, List.set_cons_zero, List.set_cons_succ]
      refine chain_take (i := 1) (d := 26) (v := .int .i64 at_) rfl rfl (by kernel_rfl) (by kernel_rfl) (by kernel_rfl) rfl (fun _ _ => rfl) (fun _ _ _ h => h) (Only.refl _ w1).drew ?_
      simp only [Act.put, List.setIfInBounds_toArray, List.set_cons_zero, List.set_cons_succ]
      refine chain_take (i := 2) (d := 27) (v := .pointer (some ⟨w.heap.size, 0, none⟩)) rfl rfl (by kernel_rfl) (by kernel_rfl) (by kernel_rfl) rfl (fun _ _ => (by go_simp)) (fun _ _ _ h => h) (Only.refl _ w1).drew ?_
      simp only [Act.put, List.setIfInBounds_toArray, List.set_cons_zero, List.set_cons_succ]
      refine chain_take (i := 3) (d := 28) (v := .int .i64 k) rfl rfl (by kernel_rfl) (by kernel_rfl) (by kernel_rfl) rfl (fun W h => (by have u0 := Only.cell h (by omega) t01; go_simp)) (fun _ _ _ h => h) (Only.refl _ w1).drew ?_
      simp only [Act.put, List.setIfInBounds_toArray, List.set_cons_zero, List.set_cons_succ]
      refine chain_take (i := 4) (d := 29) (v := .int .i64 nn) rfl rfl (by kernel_rfl) (by kernel_rfl) (by kernel_rfl) rfl (fun _ _ => rfl) (fun _ _ _ h => h) (Only.refl _ w1).drew ?_
      simp only [Act.put, List.setIfInBounds_toArray, List.set_cons_zero, List.set_cons_succ]
      refine chain_call (i := 5) (d := 30) (f := 42) (args := #[.int .i64 k, .int .i64 nn]) (by kernel_rfl) rfl rfl rfl (by go_simp) ?_
      refine (hpk.out _ (hw1.out.below (Below.drew (Below.refl _ _)))).mono ?_
      rintro e w2 ⟨rfl, hb2⟩
      refine ⟨.int .u64 (Wd.packW k nn), rfl, ((Only.refl _ w1).drew.call hb2), ?_⟩
      simp only [Act.put, List.setIfInBounds_toArray, List.set_cons_zero, List.set_cons_succ]
      refine chain_take (i := 6) (d := 31) (v := .pointer (some ⟨g, at_, none⟩)) rfl rfl (by kernel_rfl) (by kernel_rfl) (by kernel_rfl) rfl (fun _ _ => (by go_simp)) (fun _ _ _ h => h) ((Only.refl _ w1).drew.call hb2) ?_
      simp only [Act.put, List.setIfInBounds_toArray, List.set_cons_zero, List.set_cons_succ]
      refine chain_skip (i := 7) (w' := w2.setCell ⟨g, at_, none⟩ (.int .u64 (Wd.packW k nn))) (by kernel_rfl) rfl rfl rfl ((by have hbb := Below.trans (Below.drew (Below.refl w1.heap.size w1)) hb2; have c := cell_below hbb _ _ _ hgc; have f := (H1.out.up hbb).row.frozen at_; go_simp)) (Only.put (S := fun k => k = g) (p := g) ((Only.refl _ w1).drew.call hb2) rfl _ _) ?_
      refine wpAnyH_done (by kernel_rfl) ?_ _
      have h2 := (H1.out.up (Below.trans (Below.drew (Below.refl w1.heap.size w1)) hb2)).set at_ (Wd.packW k nn)
      obtain ⟨W2, hW2⟩ : ∃ W2, w2.setCell ⟨g, at_, none⟩ (.int .u64 (Wd.packW k nn)) = W2 := ⟨_, rfl⟩
      rw [hW2] at h2 ⊢
      have hz2 : (xs.set at_ (Wd.packW k nn)).length = xs.length := List.length_set
      have cl2 := h2.cell.1
      have hbx2 := HTB.out
      obtain ⟨⟨t0, t1, t2, t3⟩, _⟩ := kept4 HTB.out (Below.refl _ _)
      have t0 := h2.keep NTB.out t0
      have t1 := h2.keep NTB.out t1
      have t2 := h2.keep NTB.out t2
      have t3 := h2.keep NTB.out t3
      have hw2 := Hid.mk (HC.out.words.kept h2.only HC.out.nw)
      have H2 := Hid.mk h2
      clear h2 hW2 hb2 hgl hgt H1 hw1 cl1 t01 hgc hgf hpk w2 hbx2
      go_wp2
      have hlb := (show leadW k n l.length = [] ∨ ∃ x, leadW k n l.length = [x] by unfold leadW; split; exact Or.inr ⟨_, rfl⟩; split; exact Or.inr ⟨_, rfl⟩; exact Or.inl rfl)
      have hll : (leadW k n l.length).length ≤ 1 := by
        rcases hlb with e | ⟨x, e⟩
        · rw [e]; exact Nat.zero_le _
        · rw [e]; exact Nat.le_refl _
      clear hlb
      have hzz := HZ.out
      have hll2 := HLL.out [] 0
      rw [laid_mk, List.length_append, List.length_append, kids_length] at hll2
      have hsum : xs.length + (leadW k n l.length).length + l.length ≤ 1000000 := by omega
      clear hll hzz hll2
      have HSUM := Hid.mk hsum
      clear hsum
      have C0 := Hid.mk cl2
      refine wp_region_held (S := fun _ => True) (by kernel_rfl) ?_
      refine chain_load_call (i := 0) (j := 1) (k := 2) (d := 32) (e := 33) (r := 34) (u := .slice (some ⟨g, 0, none⟩) xs.length rcap) (v := .agg #[.int .i64 k, .int .i64 n, .string s, .slice a l.length cap]) (f := 43) (args := #[.agg #[.int .i64 k, .int .i64 n, .string s, .slice a l.length cap]])
        (by kernel_rfl) rfl rfl rfl rfl rfl rfl (by decide) (by decide) (by decide) (by decide) (by kernel_rfl) (by kernel_rfl) (by kernel_rfl) (by kernel_rfl) rfl rfl rfl rfl rfl rfl (fun _ => rfl) (by go_simp) (by go_simp) (by go_simp) (by go_simp) (by go_simp) (by go_simp) trivial ?_
      refine (hlead.out _ (hw2.out.below (Below.drew (Below.refl _ _)))).mono ?_
      rintro e w3 ⟨⟨lv, rfl, hlv⟩, hb3⟩
      refine ⟨lv, rfl, trivial, (by have c := cell_below (Below.trans (Below.drew (Below.refl W2.heap.size W2)) hb3) _ _ _ cl2; go_simp), ?_⟩
      simp only [Act.put, List.setIfInBounds_toArray, List.set_cons_zero, List.set_cons_succ]
      have h3 := H2.out.up (Below.trans (Below.drew (Below.refl W2.heap.size W2)) hb3)
      obtain ⟨rv4, w4, hr4, hR4, hg4, ha4⟩ := append_lead w3 33 _ lv _ _ h3.row hlv (by rw [hz2]; have := HSUM.out; omega)
      obtain ⟨xs4, hx4⟩ : ∃ xs4, xs.set at_ (Wd.packW k nn) ++ leadW k n l.length = xs4 := ⟨_, rfl⟩
      have hn4 : xs4.length = xs.length + (leadW k n l.length).length := by rw [← hx4, List.length_append, hz2]
      rw [hx4] at hR4
      have HX4 := Hid.mk hx4
      have HN4 := Hid.mk hn4
      clear hx4 hn4
      obtain ⟨a4, cap4, rfl⟩ := owns_slice hR4
      have h4 := h3.grow hR4 hg4 ha4
      have hgb := h3.grown_box hg4
      refine chain_value (i := 3) (d := 35) (v := .slice a4 xs4.length cap4) (w' := w4) (by kernel_rfl) rfl rfl rfl (exec_append rfl rfl hr4) trivial ?_
      simp only [Act.put, List.setIfInBounds_toArray, List.set_cons_zero, List.set_cons_succ]
      refine chain_skip (i := 4) (w' := w4.setCell ⟨lb, 0, none⟩ (.slice a4 xs4.length cap4)) (by kernel_rfl) rfl rfl rfl ((by obtain ⟨c, f⟩ := hgb; go_simp)) trivial ?_
      refine wpAnyH_done (by kernel_rfl) ?_ _
      obtain ⟨W4, hW4⟩ : ∃ W4, w4.setCell ⟨lb, 0, none⟩ (.slice a4 xs4.length cap4) = W4 := ⟨_, rfl⟩
      rw [hW4] at h4 ⊢
      clear hW4 hr4 hR4 hg4 ha4 hgb h3 hlv hb3 cl2 t0 t1 t2 t3 hlead hw2 C0 H2 hz2
      obtain ⟨rv5, w5, hr5, hR5, hg5, ha5⟩ := append_zeros W4 33 _ _ h4.row l.length (by rw [HN4.out]; exact HSUM.out)
      obtain ⟨xs5, hx5⟩ : ∃ xs5, xs4 ++ List.replicate l.length 0 = xs5 := ⟨_, rfl⟩
      rw [hx5] at hR5
      have HX5 := Hid.mk hx5
      clear hx5
      obtain ⟨a5, cap5, rfl⟩ := owns_slice hR5
      have h5 := h4.grow hR5 hg5 ha5
      obtain ⟨cb5, fb5⟩ := h4.grown_box hg5
      obtain ⟨W5, hW5⟩ : ∃ W5, w5.setCell ⟨lb, 0, none⟩ (.slice a5 xs5.length cap5) = W5 := ⟨_, rfl⟩
      rw [hW5] at h5
      have cl4 := h4.cell.1
      obtain ⟨⟨t0, t1, t2, t3⟩, _⟩ := kept4 HTB.out (Below.refl _ _)
      have t34 := h4.keep NTB.out t3
      have t35 := h5.keep NTB.out t3
      have H5 := Hid.mk h5
      have H4 := Hid.mk h4
      clear t0 t1 t2 t3 h5 h4 hR5 hg5 ha5
      go_wp2_with (first | (at_builtin; refine Lib.wpList_append_run _ rfl _ _ _ _ rfl _ _ rfl rfl _ _ hr5 ?_))
      have hcn : ∀ (i : Nat), i < l.length → (numss (l.take (i + 1)) L1).1 = false → (numss l L1).1 = false ∧ (numss l L1).2 = (numss (l.take (i + 1)) L1).2 := fun i _ h => by
        rw [numss_take_no l L1 (i + 1) h]
        exact ⟨h, rfl⟩
      have HCN := Hid.mk hcn
      clear hcn hr5 hW5 cb5 fb5 cl4 t34 H4
      go_loopw [46] (fun ii wr => ∃ (i : Nat) (Li : List ByteArray) (vi rvi : Value) (ys : List Int), i ≤ l.length ∧ ii = .int .i64 i ∧ Hid (Lay (Turns p bm lb v (.slice (some ⟨g, 0, none⟩) xs.length rcap)) W0 wr p bm lb Li vi rvi ys) ∧ Hid ((numss (l.take i) L1).1 = true ∧ Li = (numss (l.take i) L1).2) ∧
        Hid (∀ F, Ext Li F → ys = xs4 ++ (kids F (l.take i) (xs4.length + l.length)).1 ++ List.replicate (l.length - i) 0 ++ (kids F (l.take i) (xs4.length + l.length)).2)) (fun ii _ => l.length - (intOf ii).toNat)
      case atStart =>
        refine ⟨0, L1, v1, _, xs5, Nat.zero_le _, rfl, H5, Hid.mk ⟨by rw [List.take_zero, numss_nil], by rw [List.take_zero, numss_nil]⟩, Hid.mk fun F _ => ?_⟩
        rw [List.take_zero, kids_nil, ← HX5.out]
        simp
      case round =>
        obtain ⟨i, Li, vi, rvi, ys, hi, rfl, hLi, hNi, hYi⟩ := hrel
        have hs5 := HSUM.out
        have hn4 := HN4.out
        have hlen : ∀ F, Ext Li F → ys.length = xs4.length + l.length + (kids F (l.take i) (xs4.length + l.length)).2.length := fun F hF => by
          have := congrArg List.length (hYi.out F hF)
          rw [List.length_append, List.length_append, List.length_append, kids_length, List.length_replicate, List.length_take] at this
          omega
        by_cases hlt : i < l.length
        · obtain ⟨b, o, ha, hSb, hr⟩ := HL.out.some (by omega)
          subst ha
          obtain ⟨k', n', s', m', a', cap', hTt, c0, c1, c2, c3, hli⟩ := hr.part i hlt
          have nb := (HS0.out b hSb).2
          have c0 := hLi.out.keep nb c0
          have c1 := hLi.out.keep nb c1
          have c2 := hLi.out.keep nb c2
          have c3 := hLi.out.keep nb c3
          have hwi : IntKind.i64.wrap ((i : Int) + 1) = ((i + 1 : Nat) : Int) := by rw [wrap_id (by omega) (by omega)]; omega
          have hwj : IntKind.i64.wrap ((xs4.length : Int) + i) = ((xs4.length + i : Nat) : Int) := by rw [wrap_id (by omega) (by omega)]; omega
          obtain ⟨W6, hW6⟩ : ∃ W6, wr.alloc (.cells #[.int .i64 k', .int .i64 n', .string s', .slice a' m'.length cap'] 25) = W6 := ⟨_, rfl⟩
          have hb6 : Below wr.heap.size wr W6 := by rw [← hW6]; exact (Below.refl _ _).alloc (Nat.le_refl _) _
          have hbx6 : W6.heap[wr.heap.size]? = some (.cells #[.int .i64 k', .int .i64 n', .string s', .slice a' m'.length cap'] 25) := by rw [← hW6]; exact new_block _ _
          obtain ⟨⟨d0, d1, d2, d3⟩, _⟩ := kept4 hbx6 (Below.refl _ _)
          have hL6 := hLi.out.up hb6
          have cf6 := hL6.keep HC.out.nfb HC.out.self
          have hsz6 : ys.length + l[i].wordsR ≤ 1000000 := by
            have h1 := hlen Li (Ext.refl _)
            have h2 := HLL.out Li xs.length
            rw [laid_mk, List.length_append, List.length_append, kids_length, ← hn4] at h2
            have h3 := kids_le Li l (xs4.length + l.length) (i + 1)
            rw [kids_take Li l _ i hlt] at h3
            simp only [List.length_append] at h3
            have h4 := laid_length Li l[i] (fitss_all HFs.out _ (List.getElem_mem hlt)) (xs4.length + l.length + (kids Li (List.take i l) (xs4.length + l.length)).2.length)
            have h5 := HZ.out
            omega
          have hih := ih.out l[i] (List.getElem_mem hlt) (fitss_all HFs.out _ (List.getElem_mem hlt)) S _ W0 p bm lb fb ab _ HC.out HS0.out hli W6 Li vi rvi ys (xs4.length + i) hL6 (by have := hlen Li (Ext.refl _); omega) hsz6
          have hnt := numss_take l L1 i hlt hNi.out.1
          rw [← hNi.out.2] at hnt
          obtain ⟨tt, htt⟩ : ∃ tt, l[i] = tt := ⟨_, rfl⟩
          have hkt := fun F => kids_take F l (xs4.length + l.length) i hlt
          simp only [htt] at hih hkt hnt
          have HIH := Hid.mk hih
          have HKT := Hid.mk hkt
          have HNT := Hid.mk hnt
          have HLN := Hid.mk hlen
          have HI := Hid.mk hi
          have HS5 := Hid.mk hs5
          have HN6 := Hid.mk hn4
          have HLT := Hid.mk hlt
          have hle : decide ((i : Int) < l.length) = true := by rw [decide_eq_true_eq]; omega
          clear hih hkt hnt hlen hi hs5 hn4 hTt htt hli hsz6 hL6 hb6 hbx6
          cases hbt : (tt.nums Li).1 with
          | true =>
            have HB := Hid.mk hbt
            have hih := HIH.out
            rw [hbt, show layErr true = 0 from rfl] at hih
            have HIH := Hid.mk hih
            clear hih hbt
            go_wp2_with (first
              | (go_at_call 40; refine HIH.out.mono ?_; rintro e w7 ⟨v7, rv7, ys7, rfl, h7, hy7⟩; have H7 := Hid.mk h7; clear h7))
            go_roundw
            case rel =>
              have hlt := HLT.out
              refine ⟨i + 1, _, v7, rv7, ys7, by omega, by first | rfl | go_num, H7, Hid.mk ⟨by rw [HNT.out, HB.out], by rw [HNT.out]⟩, Hid.mk fun F hF => ?_⟩
              have hF' := (Ext.nums tt Li).trans hF
              have hlen := HLN.out F hF'
              have e1 := hy7 trivial F hF
              have hKl : (kids F (l.take i) (xs4.length + l.length)).1.length = i := by
                rw [kids_length, List.length_take]
                omega
              rw [e1, hlen]
              conv => lhs; arg 1; arg 1; rw [hYi.out F hF']
              rw [set_mid _ _ _ _ _ _ hlt hKl, HKT.out F]
              simp only [List.append_assoc]
            case measure =>
              have hlt := HLT.out
              simp [intOf]
              omega
          | false =>
            have HB := Hid.mk hbt
            have hih := HIH.out
            rw [hbt, show layErr false = 8 from rfl] at hih
            have HIH := Hid.mk hih
            clear hih hbt
            go_wp2_with (first
              | (go_at_call 40; refine HIH.out.mono ?_; rintro e w7 ⟨v7, rv7, ys7, rfl, h7, hy7⟩; have H7 := Hid.mk h7; clear h7))
            go_ret
            have hcn := HCN.out i HLT.out (by rw [HNT.out]; exact HB.out)
            rw [HNT.out] at hcn
            rw [hcn.1, hcn.2]
            exact ⟨v7, rv7, ys7, rfl, hback.out _ _ _ _ _ H7.out, fun h => by cases h⟩
        · obtain rfl : i = l.length := by omega
          have hN := hNi.out
          rw [List.take_length] at hN
          have HI := Hid.mk hi
          have HS5 := Hid.mk hs5
          have HN6 := Hid.mk hn4
          clear hlen hi hs5 hn4
          go_wp2
          go_ret
          obtain ⟨hN1, hN2⟩ := hN
          subst hN2
          rw [hN1]
          refine ⟨vi, rvi, ys, rfl, hback.out _ _ _ _ _ hLi.out, fun _ F hF => ?_⟩
          rw [hYi.out F hF, List.take_length, Nat.sub_self, HO.out F _ rfl ((Ext.numss l L1).trans hF), laid_mk, ← HX4.out]
          rw [HX4.out, HN4.out]
          simp only [List.replicate_zero, List.append_nil, List.append_assoc]
          rw [← HX4.out]
          simp only [List.append_assoc]
    · obtain ⟨rfl, hN⟩ := numP_bad hP he hf.1
      rw [hN]
      clear hN he hP hf hL4
      subst hrv
      go_enter Tryd.func40, Tryd.ntmps40
      go_upto_region 1 with fail
      try rw [hW0]
      clear hW0
      go_wp2_with (first
        | (go_at_call 41; refine hnum.out.mono ?_; rintro e w1 ⟨rfl, hl1⟩))
      go_ret
      obtain ⟨v1, h1⟩ := h0.out.intern hl1
      exact ⟨v1, _, xs, rfl, hback.out _ _ _ _ _ h1, fun h => by cases h⟩
end Go.Proofs.YthkjdcmlalgphaaDoor
