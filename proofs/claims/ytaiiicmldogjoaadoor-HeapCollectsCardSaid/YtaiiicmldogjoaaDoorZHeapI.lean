/-
  What building a term of a word stands on: the words that are counted, the parts, what is written where.
-/
import Derived.Test.YtaiiicmldogjoaaDoorZHeapH
namespace Go.Proofs.YtaiiicmldogjoaaDoor
open Go.RowKit Go.Deep Go.Maps Go.WideShapes

/-- How many words are boxed for a term itself. -/
def boxL (k : Int) (m : Nat) : Nat := if k = 9 then 2 else if hasL k = true then 1 + m else 0
theorem wr_split {k n : Int} {s : ByteArray} {l : List Tm} (hf : fitB k n s.size l.length = true) : (Tm.mk k n s l).wordsR - 1 = boxL k l.length + (wordsRs l - l.length) := by
  rw [wordsR_mk]
  simp only [fitB, decide_eq_true_eq] at hf
  by_cases hk : hasL k = true
  · rw [if_pos hk]
    rw [hasL_iff] at hk
    rcases hk with rfl | rfl | rfl
    · simp [ownW, boxL, hasL]; omega
    · simp [ownW, boxL, hasL]; omega
    · simp [ownW, boxL]; omega
  · rw [if_neg hk]
    rw [hasL_iff] at hk
    have hl : l = [] := List.eq_nil_of_length_eq_zero (by omega)
    subst hl
    rw [wordsRs, boxL, if_neg (by omega), if_neg (by rw [hasL_iff]; exact hk), ownW]
    simp; omega
theorem lead_boxL {k n : Int} {m : Nat} (hk : hasL k = true) (hf : fitB k n 0 m = true) : (leadW k n m).length + m = boxL k m := by
  rw [hasL_iff] at hk
  simp only [fitB, decide_eq_true_eq] at hf
  rcases hk with rfl | rfl | rfl
  · simp [leadW, boxL, hasL]
  · simp [leadW, boxL, hasL]
  · simp [leadW, boxL]; omega
theorem wordsR_one (T : Tm) : 1 ≤ T.wordsR := by
  induction T using Tm.induct with
  | h k n s l ih =>
    rw [wordsR_mk]
    have h1 : 1 ≤ ownW k := by unfold ownW; split <;> omega
    split
    · have : ∀ (r : List Tm), (∀ t ∈ r, t ∈ l) → 0 ≤ wordsRs r := by
        intro r
        induction r with
        | nil => intro _; rw [wordsRs]; exact Int.le_refl _
        | cons t r ihr =>
          intro hr
          rw [wordsRs]
          have h2 := ih t (hr t (List.mem_cons_self ..))
          have h3 := ihr fun x hx => hr x (List.mem_cons_of_mem _ hx)
          omega
      have := this l fun _ h => h
      omega
    · omega
theorem wordsRs_len : ∀ (l : List Tm), (l.length : Int) ≤ wordsRs l
  | [] => by rw [wordsRs]; exact Int.le_refl _
  | t :: r => by
    rw [wordsRs, List.length_cons]
    have h1 := wordsR_one t
    have h2 := wordsRs_len r
    omega

theorem wordsRs_append : ∀ (l r : List Tm), wordsRs (l ++ r) = wordsRs l + wordsRs r
  | [], r => by rw [wordsRs]; simp
  | t :: l, r => by rw [List.cons_append, wordsRs, wordsRs, wordsRs_append l r]; omega
/-- The words of a term's parts, and their terms. -/
theorem den_parts {L : List ByteArray} {xs ks : List Int} {k n : Int} {s : ByteArray} {l : List Tm} {x : Int} (h : Den L xs ks (.mk k n s l) x) : ∃ ys, Dens L xs ks l ys ∧ (∀ y ∈ ys, 0 ≤ y ∧ y < 18446744073709551616) ∧
    (∀ (hb p bm : Nat) (v : Value) (M : Nat) (wv kv : Value) (w : World), Hea w hb p bm v L M wv kv xs ks →
      Calls Tryd.prog 40 #[.pointer (some ⟨hb, 0, none⟩), .int .u64 x] w fun e w' => ∃ a cap, e = .returned (.slice a l.length cap) ∧ Sl w' ys a cap wv.ownBlock ∧ Below w.heap.size w w') := by
  obtain ⟨m, hpk, _⟩ := den_pk h
  obtain ⟨_, _, _, _, _, _, f7, f8⟩ := hpk.facts
  have rng : ∀ {l : List Tm} {ys : List Int}, Dens L xs ks l ys → ∀ y ∈ ys, 0 ≤ y ∧ y < 18446744073709551616 := fun hd y hy => by
    obtain ⟨t, _, ht⟩ := hd.mem y hy
    cases t with
    | mk k n s l =>
      obtain ⟨m, hp, _⟩ := den_pk ht
      exact ⟨hp.facts.2.2.2.2.2.2.1, hp.facts.2.2.2.2.2.2.2⟩
  by_cases hk : hasL k = true
  · obtain ⟨k', n', s', l', ys, e, hw, hp, hx, hd⟩ := den_box h (by rw [hpk.boxed]; exact hk)
    cases e
    refine ⟨ys, hd, rng hd, fun hb p bm v M wv kv w hH => ?_⟩
    have := parts_boxed hb p bm v L M wv kv xs ks x k n _ ys w hH hw hx
    rw [hd.length] at this
    exact this
  · have hf := h
    rw [den_mk] at hf
    have hl := fit_noL hf.1 (by simpa using hk)
    obtain rfl := List.eq_nil_of_length_eq_zero hl
    refine ⟨[], by rw [dens_nil], fun y hy => (by cases hy), fun hb p bm v M wv kv w hH => ?_⟩
    refine (parts_plain hb x w f7 f8 (by rw [hpk.boxed]; simpa using hk)).mono fun e w' ⟨he, hw⟩ => ?_
    subst hw
    exact ⟨none, 0, he, Sl.none w _, Below.refl _ _⟩
theorem den_boxN {L : List ByteArray} {xs ks : List Int} {k n : Int} {s : ByteArray} {l : List Tm} {x : Int} (h : Den L xs ks (.mk k n s l) x) (hb p bm : Nat) (v : Value) (M : Nat) (wv kv : Value) (w : World) (hH : Hea w hb p bm v L M wv kv xs ks) :
    Calls Tryd.prog 47 #[.pointer (some ⟨hb, 0, none⟩), .int .u64 x] w fun e w' => ∃ a cap, e = .returned (.slice a (boxL k l.length) cap) ∧ Below w.heap.size w w' := by
  obtain ⟨m, hpk, _⟩ := den_pk h
  obtain ⟨_, _, _, _, _, _, f7, f8⟩ := hpk.facts
  by_cases hk : hasL k = true
  · obtain ⟨k', n', s', l', ys, e, hw, hp, hx, hd⟩ := den_box h (by rw [hpk.boxed]; exact hk)
    cases e
    refine (box_boxed hb p bm v L M wv kv xs ks x k n _ ys w hH hw hx).mono fun e w' ⟨a, cap, he, hr⟩ => ?_
    rw [List.length_append, lead_boxL hk hx.fit, hd.length] at he
    exact ⟨a, cap, he, hr.below⟩
  · refine (box_plain hb x w f7 f8 (by rw [hpk.boxed]; simpa using hk)).mono fun e w' ⟨he, hw⟩ => ?_
    subst hw
    refine ⟨none, 0, ?_, Below.refl _ _⟩
    have h9 : k ≠ 9 := fun e => by subst e; exact hk (by simp [hasL])
    rw [boxL, if_neg h9, if_neg hk]
    exact he

/-- What a call that fills four cells of a block, and counts in another, has written. -/
structure Kc (b o wb : Nat) (w w' : World) : Prop where
  only : Only (fun k => k = b ∨ k = wb) w w'
  rest : ∀ j, (j < o ∨ o + 4 ≤ j) → w'.cell? ⟨b, j, none⟩ = w.cell? ⟨b, j, none⟩
  frz : ∀ j, w'.frozen? ⟨b, j, none⟩ = w.frozen? ⟨b, j, none⟩
  frw : ∀ j, w'.frozen? ⟨wb, j, none⟩ = w.frozen? ⟨wb, j, none⟩
def LiesAt (w : World) (S : Nat → Prop) (T : Tm) (b o : Nat) : Prop := ∃ v0 v1 v2 v3, w.cell? ⟨b, o, none⟩ = some v0 ∧ w.cell? ⟨b, o + 1, none⟩ = some v1 ∧ w.cell? ⟨b, o + 2, none⟩ = some v2 ∧ w.cell? ⟨b, o + 3, none⟩ = some v3 ∧ Lies w S T (.agg #[v0, v1, v2, v3])
/-- Four cells that may be written. -/
structure Free (w : World) (b o : Nat) : Prop where
  cell : ∃ u0 u1 u2 u3, w.cell? ⟨b, o, none⟩ = some u0 ∧ w.cell? ⟨b, o + 1, none⟩ = some u1 ∧ w.cell? ⟨b, o + 2, none⟩ = some u2 ∧ w.cell? ⟨b, o + 3, none⟩ = some u3
  frz : w.frozen? ⟨b, o, none⟩ = false ∧ w.frozen? ⟨b, o + 1, none⟩ = false ∧ w.frozen? ⟨b, o + 2, none⟩ = false ∧ w.frozen? ⟨b, o + 3, none⟩ = false
theorem termInfoH : (Tryd.prog.info? 42).map (fun i => (i.zero, i.size, i.bytes)) = some (some (.agg #[.int .i64 0, .int .i64 0, .string ByteArray.empty, .slice none 0 0]), 4, 56) := by kernel_rfl
theorem made_terms (m : Nat) (hm : m ≤ 1000) : ∃ Mz : Array Value, Mz.size = m * 4 ∧ ∀ W : World, (Instr.makeSlice 40 (.int .i64 (m : Int)) (.int .i64 (m : Int))).run Tryd.prog W = .ok (.slice (some ⟨W.heap.size, 0, none⟩) m m) (W.alloc (.cells Mz 42)) := by
  have hi := termInfoH
  cases hq : Tryd.prog.info? 42 with
  | none => rw [hq] at hi; cases hi
  | some i =>
    rw [hq] at hi
    simp only [Option.map_some, Option.some.injEq, Prod.mk.injEq] at hi
    obtain ⟨hz, hs, hb⟩ := hi
    refine ⟨madeCells (Value.agg #[.int .i64 0, .int .i64 0, .string ByteArray.empty, .slice none 0 0]).cells (((m : Nat) : Int).toNat * i.size), ?_, fun W => ?_⟩
    · rw [size_madeCells, hs]; simp
    · have h := run_make (P := Tryd.prog) W 40 42 i _ Tryd.underlying40 hq hz .i64 .i64 (m : Int) (m : Int) (by omega) (by omega) (by rw [hb]; omega) (by omega)
      simpa using h
theorem Free.row {w : World} {nb m : Nat} {Mz : Array Value} {t : TypeId} (h : w.heap[nb]? = some (.cells Mz t)) (hs : Mz.size = m * 4) {i : Nat} (hi : i < m) : Free w nb (i * 4) := by
  refine ⟨⟨Mz[i * 4]'(by omega), Mz[i * 4 + 1]'(by omega), Mz[i * 4 + 2]'(by omega), Mz[i * 4 + 3]'(by omega), ?_⟩, ?_⟩
  · have hc : ∀ j (hj : j < Mz.size), w.cell? ⟨nb, j, none⟩ = some Mz[j] := fun j hj => by simp [World.cell?, h, hj]
    exact ⟨hc _ _, hc _ _, hc _ _, hc _ _⟩
  · simp [World.frozen?, h]
section
variable {b o wb : Nat} {w w' w1 : World}
theorem Free.lt (h : Free w b o) : b < w.heap.size := by
  obtain ⟨u0, _, _, _, c, _⟩ := h.cell
  exact World.block_lt_of_cell? w ⟨b, o, none⟩ c
theorem Kc.refl (b o wb : Nat) (w : World) : Kc b o wb w w := ⟨Only.refl _ _, fun _ _ => rfl, fun _ => rfl, fun _ => rfl⟩
theorem Kc.trans (h : Kc b o wb w w1) (k : Kc b o wb w1 w') : Kc b o wb w w' :=
  ⟨h.only.trans k.only fun _ h => Or.inl h, fun j hj => (k.rest j hj).trans (h.rest j hj), fun j => (k.frz j).trans (h.frz j), fun j => (k.frw j).trans (h.frw j)⟩
theorem Kc.up (hb : Below w.heap.size w w') (hl : b < w.heap.size) (hw : wb < w.heap.size) : Kc b o wb w w' :=
  ⟨Only.up hb, fun j _ => hb.cell (p := ⟨b, j, none⟩) hl, fun j => hb.frozen (p := ⟨b, j, none⟩) hl, fun j => hb.frozen (p := ⟨wb, j, none⟩) hw⟩
theorem Kc.then_ (h : Kc b o wb w w1) (hb : Below w1.heap.size w1 w') (hl : b < w1.heap.size) (hw : wb < w1.heap.size) : Kc b o wb w w' := h.trans (Kc.up hb hl hw)
theorem Kc.count (h : Kc b o wb w w1) (hn : b ≠ wb) (v : Value) : Kc b o wb w (w1.setCell ⟨wb, 0, none⟩ v) :=
  ⟨h.only.trans (Only.set w1 (S := fun k => k = wb) v rfl) fun _ e => Or.inl (Or.inr e), fun j hj => (World.cell?_setCell_other w1 ⟨wb, 0, none⟩ ⟨b, j, none⟩ v (by first | (simp; done) | (intro e; simp at e; exact hn e.1.symm) | (intro e; simp at e; exact hn e.1))).trans (h.rest j hj),
    fun j => by rw [World.frozen?_setCell]; exact h.frz j, fun j => by rw [World.frozen?_setCell]; exact h.frw j⟩
/-- One of the four cells written. -/
theorem Kc.put (h : Kc b o wb w w1) (_ : b ≠ wb) (i : Nat) (hi : o ≤ i ∧ i < o + 4) (v : Value) : Kc b o wb w (w1.setCell ⟨b, i, none⟩ v) :=
  ⟨h.only.trans (Only.set w1 (S := fun k => k = b) v rfl) fun _ e => Or.inl (Or.inl e), fun j hj => (World.cell?_setCell_other w1 ⟨b, i, none⟩ ⟨b, j, none⟩ v (by first | (simp; done) | (simp; omega))).trans (h.rest j hj),
    fun j => by rw [World.frozen?_setCell]; exact h.frz j, fun j => by rw [World.frozen?_setCell]; exact h.frw j⟩
theorem Kc.below {B : Nat} (h : Kc b o wb w w') (h1 : B ≤ b) (h2 : B ≤ wb) (hB : B ≤ w.heap.size) : Below B w w' := h.only.below (fun k hk => by rcases hk with rfl | rfl <;> assumption) hB
/-- Four cells written. -/
theorem put4_cells {u0 u1 u2 u3 v0 v1 v2 v3 : Value} (h0 : w.cell? ⟨b, o, none⟩ = some u0) (h1 : w.cell? ⟨b, o + 1, none⟩ = some u1) (h2 : w.cell? ⟨b, o + 2, none⟩ = some u2) (h3 : w.cell? ⟨b, o + 3, none⟩ = some u3) :
    let w' := (((w.setCell ⟨b, o, none⟩ v0).setCell ⟨b, o + 1, none⟩ v1).setCell ⟨b, o + 2, none⟩ v2).setCell ⟨b, o + 3, none⟩ v3
    w'.cell? ⟨b, o, none⟩ = some v0 ∧ w'.cell? ⟨b, o + 1, none⟩ = some v1 ∧ w'.cell? ⟨b, o + 2, none⟩ = some v2 ∧ w'.cell? ⟨b, o + 3, none⟩ = some v3 := by
  have e0 := World.cell?_setCell_same w ⟨b, o, none⟩ v0 h0
  have e1 := World.cell?_setCell_same (w.setCell ⟨b, o, none⟩ v0) ⟨b, o + 1, none⟩ v1 ((World.cell?_setCell_other w _ _ _ (by simp)).trans h1)
  have e2 := World.cell?_setCell_same ((w.setCell ⟨b, o, none⟩ v0).setCell ⟨b, o + 1, none⟩ v1) ⟨b, o + 2, none⟩ v2 ((World.cell?_setCell_other _ _ _ _ (by simp)).trans ((World.cell?_setCell_other w _ _ _ (by simp)).trans h2))
  have e3 := World.cell?_setCell_same (((w.setCell ⟨b, o, none⟩ v0).setCell ⟨b, o + 1, none⟩ v1).setCell ⟨b, o + 2, none⟩ v2) ⟨b, o + 3, none⟩ v3 ((World.cell?_setCell_other _ _ _ _ (by simp)).trans ((World.cell?_setCell_other _ _ _ _ (by simp)).trans ((World.cell?_setCell_other w _ _ _ (by simp)).trans h3)))
  refine ⟨?_, ?_, ?_, e3⟩
  · exact (World.cell?_setCell_other _ _ _ _ (by simp)).trans ((World.cell?_setCell_other _ _ _ _ (by simp)).trans ((World.cell?_setCell_other _ _ _ _ (by simp)).trans e0))
  · exact (World.cell?_setCell_other _ _ _ _ (by simp)).trans ((World.cell?_setCell_other _ _ _ _ (by simp)).trans e1)
  · exact (World.cell?_setCell_other _ _ _ _ (by simp)).trans e2
theorem put4_other {v0 v1 v2 v3 : Value} {d j : Nat} (hn : b ≠ d) : ((((w.setCell ⟨b, o, none⟩ v0).setCell ⟨b, o + 1, none⟩ v1).setCell ⟨b, o + 2, none⟩ v2).setCell ⟨b, o + 3, none⟩ v3).cell? ⟨d, j, none⟩ = w.cell? ⟨d, j, none⟩ := by
  have e : ∀ (w : World) (i : Nat) (v : Value), (w.setCell ⟨b, i, none⟩ v).cell? ⟨d, j, none⟩ = w.cell? ⟨d, j, none⟩ := fun w i v => World.cell?_setCell_other w ⟨b, i, none⟩ ⟨d, j, none⟩ v (by intro e; cases e; exact hn rfl)
  rw [e, e, e, e]
theorem Kc.put4 (h : Kc b o wb w w1) (hn : b ≠ wb) (v0 v1 v2 v3 : Value) : Kc b o wb w ((((w1.setCell ⟨b, o, none⟩ v0).setCell ⟨b, o + 1, none⟩ v1).setCell ⟨b, o + 2, none⟩ v2).setCell ⟨b, o + 3, none⟩ v3) :=
  (((h.put hn o (by omega) v0).put hn (o + 1) (by omega) v1).put hn (o + 2) (by omega) v2).put hn (o + 3) (by omega) v3
theorem Kc.onto {b' o' : Nat} (h : Kc b o wb w w1) (k : Kc b' o' wb w1 w') (hp : (b' = b ∧ o' = o) ∨ w.heap.size ≤ b') (hb : b < w.heap.size) (hn : b ≠ wb) : Kc b o wb w w' := by
  rcases hp with ⟨rfl, rfl⟩ | hp
  · exact h.trans k
  · have hl := Nat.lt_of_lt_of_le hb h.only.size
    have hblk := k.only.block b hl (fun hk => by rcases hk with e | e; omega; exact hn e)
    refine ⟨h.only.trans k.only fun i hi => ?_, fun j hj => ?_, fun j => ?_, fun j => (k.frw j).trans (h.frw j)⟩
    · rcases hi with e | e
      · exact Or.inr (by omega)
      · exact Or.inl (Or.inr e)
    · exact (World.cell?_of_block (w := w1) (a := ⟨b, j, none⟩) hblk).trans (h.rest j hj)
    · exact (World.frozen?_of_block (w := w1) (a := ⟨b, j, none⟩) hblk).trans (h.frz j)
theorem Kc.beside {nb : Nat} (h : Kc b o wb w w1) (k : Only (fun i => i = nb ∨ i = wb) w1 w') (hf : ∀ j, w'.frozen? ⟨wb, j, none⟩ = w1.frozen? ⟨wb, j, none⟩) (hp : w.heap.size ≤ nb) (hb : b < w.heap.size) (hn : b ≠ wb) : Kc b o wb w w' := by
  have hl := Nat.lt_of_lt_of_le hb h.only.size
  have hblk := k.block b hl (fun hk => by rcases hk with e | e; omega; exact hn e)
  refine ⟨h.only.trans k fun i hi => ?_, fun j hj => ?_, fun j => ?_, fun j => (hf j).trans (h.frw j)⟩
  · rcases hi with e | e
    · exact Or.inr (by omega)
    · exact Or.inl (Or.inr e)
  · exact (World.cell?_of_block (w := w1) (a := ⟨b, j, none⟩) hblk).trans (h.rest j hj)
  · exact (World.frozen?_of_block (w := w1) (a := ⟨b, j, none⟩) hblk).trans (h.frz j)
theorem LiesAt.move {S S' : Nat → Prop} {T : Tm} (h : LiesAt w S T b o) (hS : ∀ k, S k → S' k) (hc : ∀ j, j < 4 → w'.cell? ⟨b, o + j, none⟩ = w.cell? ⟨b, o + j, none⟩) (hw : ∀ k i v, S k → w.cell? ⟨k, i, none⟩ = some v → w'.cell? ⟨k, i, none⟩ = some v) : LiesAt w' S' T b o := by
  obtain ⟨v0, v1, v2, v3, c0, c1, c2, c3, hl⟩ := h
  exact ⟨v0, v1, v2, v3, (hc 0 (by decide)).trans c0, (hc 1 (by decide)).trans c1, (hc 2 (by decide)).trans c2, (hc 3 (by decide)).trans c3, hl.move hS hw _ _⟩
theorem Free.move (h : Free w b o) (hc : ∀ j, j < 4 → w'.cell? ⟨b, o + j, none⟩ = w.cell? ⟨b, o + j, none⟩) (hf : ∀ j, w'.frozen? ⟨b, j, none⟩ = w.frozen? ⟨b, j, none⟩) : Free w' b o := by
  obtain ⟨⟨u0, u1, u2, u3, c0, c1, c2, c3⟩, f0, f1, f2, f3⟩ := h
  exact ⟨⟨u0, u1, u2, u3, (hc 0 (by decide)).trans c0, (hc 1 (by decide)).trans c1, (hc 2 (by decide)).trans c2, (hc 3 (by decide)).trans c3⟩, (hf _).trans f0, (hf _).trans f1, (hf _).trans f2, (hf _).trans f3⟩
theorem fit_small {k n : Int} {s : ByteArray} {m : Nat} (h : fitB k n s.size m = true) : Small k n s := by
  simp only [fitB, decide_eq_true_eq] at h
  exact ⟨by omega, by omega, by omega, by omega, by omega⟩
end
end Go.Proofs.YtaiiicmldogjoaaDoor
