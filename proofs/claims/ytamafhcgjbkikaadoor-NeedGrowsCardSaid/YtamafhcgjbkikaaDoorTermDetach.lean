/-
  A term is detached, in place, from the memory that it shares with others: what has become of memory then, and how one part behind the other comes to that.
-/
import Derived.Test.YtamafhcgjbkikaaDoorTermClone
import Derived.Test.YtamafhcgjbkikaaDoorTermOwn
import Derived.Deep.RegionWith
import Derived.Deep.LoopGhost
namespace Go.Proofs.YtamafhcgjbkikaaDoor
open Go.RowKit Go.Deep

/-- Nothing that was there is other than it was, but for four cells of one block; and there is the term now, all its rows new. -/
structure Done (w : World) (pb po : Nat) (T : Tm) (w' : World) : Prop where
  os : w'.os = w.os
  tape : w'.tape = w.tape
  output : w'.output = w.output
  size : w.heap.size ≤ w'.heap.size
  other : ∀ k, k < w.heap.size → k ≠ pb → w'.heap[k]? = w.heap[k]?
  row : ∃ (c c' : Array Value) (t : TypeId), w.heap[pb]? = some (.cells c t (0, 0)) ∧ w'.heap[pb]? = some (.cells c' t (0, 0)) ∧ c'.size = c.size ∧ ∀ j, (j < po ∨ po + 4 ≤ j) → c'[j]? = c[j]?
  term : ∃ v0 v1 v2 v3, w'.cell? ⟨pb, po, none⟩ = some v0 ∧ w'.cell? ⟨pb, po + 1, none⟩ = some v1 ∧ w'.cell? ⟨pb, po + 2, none⟩ = some v2 ∧ w'.cell? ⟨pb, po + 3, none⟩ = some v3 ∧ Own w' T w.heap.size w'.heap.size (.agg #[v0, v1, v2, v3])

theorem Done.keep {w w' : World} {pb po j : Nat} {T : Tm} (h : Done w pb po T w') (hj : j < po ∨ po + 4 ≤ j) : w'.cell? ⟨pb, j, none⟩ = w.cell? ⟨pb, j, none⟩ := by
  obtain ⟨c, c', t, h1, h2, _, h4⟩ := h.row
  rw [cell_of_row w pb j c t (0, 0) h1, cell_of_row w' pb j c' t (0, 0) h2, h4 j hj]
theorem Done.far {w w' : World} {pb po : Nat} {T : Tm} (h : Done w pb po T w') {b o : Nat} {v : Value} (hb : b ≠ pb) (hc : w.cell? ⟨b, o, none⟩ = some v) : w'.cell? ⟨b, o, none⟩ = some v := by
  rw [World.cell?_of_block (w := w) (a := ⟨b, o, none⟩) (h.other b (World.block_lt_of_cell? w ⟨b, o, none⟩ hc) hb)]
  exact hc

/-- A row of which the first parts are new, each in a stretch of memory of its own. -/
structure Mix (w : World) (S : Nat → Prop) (nb cap : Nat) (l : List Tm) (j : Nat) : Prop where
  all : ∀ i (hi : i < l.length), ∃ v0 v1 v2 v3, w.cell? ⟨nb, i * 4, none⟩ = some v0 ∧ w.cell? ⟨nb, i * 4 + 1, none⟩ = some v1 ∧ w.cell? ⟨nb, i * 4 + 2, none⟩ = some v2 ∧ w.cell? ⟨nb, i * 4 + 3, none⟩ = some v3 ∧
    (j ≤ i → Lies w S l[i] (.agg #[v0, v1, v2, v3]))
  kids : ∃ xs, xs.length = j * 4 ∧ (∀ p u, xs[p]? = some u → w.cell? ⟨nb, p, none⟩ = some u) ∧ Kids w (l.take j) (nb + 1) w.heap.size (some nb) xs
  block : ∃ cur, w.heap[nb]? = some (.cells cur 24 (0, 0)) ∧ cur.size = cap * 4
  up : nb + 1 ≤ w.heap.size

theorem Mix.step {w w' : World} {S : Nat → Prop} {nb cap n₀ j : Nat} {l : List Tm} (h : Mix w S nb cap l j) (hj : j < l.length) (hS : ∀ b, S b → b < n₀) (hn : n₀ ≤ nb) (hnb : nb < w.heap.size) (hd : Done w nb (j * 4) l[j] w') : Mix w' S nb cap l (j + 1) := by
  refine ⟨fun i hi => ?_, ?_, ?_, by have := hd.size; omega⟩
  · rcases Nat.lt_trichotomy i j with hij | hij | hij
    · obtain ⟨v0, v1, v2, v3, c0, c1, c2, c3, hl⟩ := h.all i hi
      exact ⟨v0, v1, v2, v3, (hd.keep (by omega)).trans c0, (hd.keep (by omega)).trans c1, (hd.keep (by omega)).trans c2, (hd.keep (by omega)).trans c3, fun e => by omega⟩
    · subst hij
      obtain ⟨v0, v1, v2, v3, c0, c1, c2, c3, hl⟩ := hd.term
      exact ⟨v0, v1, v2, v3, c0, c1, c2, c3, fun e => by omega⟩
    · obtain ⟨v0, v1, v2, v3, c0, c1, c2, c3, hl⟩ := h.all i hi
      refine ⟨v0, v1, v2, v3, (hd.keep (by omega)).trans c0, (hd.keep (by omega)).trans c1, (hd.keep (by omega)).trans c2, (hd.keep (by omega)).trans c3, fun _ => ?_⟩
      exact (hl (by omega)).move (fun _ h => h) (fun b o v hb hc => hd.far (by have := hS b hb; omega) hc) _ _
  · obtain ⟨xs, x1, x2, x3⟩ := h.kids
    obtain ⟨v0, v1, v2, v3, c0, c1, c2, c3, hl⟩ := hd.term
    have hk := Kids.snoc (t := l[j]) hd.size (fun g hg => by cases hg; omega) hl h.up (Kids.move (w' := w') (Nat.le_refl _) (Nat.le_refl _) (fun k h1 h2 h3 => hd.other k h2 (by omega)) (fun g hg => Or.inl hg) x3)
    refine ⟨xs ++ [v0, v1, v2, v3], by simp [x1]; omega, fun p u hu => ?_, ?_⟩
    · by_cases hp : p < xs.length
      · rw [List.getElem?_append_left hp] at hu
        exact (hd.keep (by omega)).trans (x2 p u hu)
      · rw [List.getElem?_append_right (by omega)] at hu
        obtain ⟨q, hq⟩ : ∃ q, p = j * 4 + q := ⟨p - j * 4, by omega⟩
        subst hq
        rw [x1, Nat.add_sub_cancel_left] at hu
        match q, hu with
        | 0, hu => simp at hu; subst hu; exact c0
        | 1, hu => simp at hu; subst hu; exact c1
        | 2, hu => simp at hu; subst hu; exact c2
        | 3, hu => simp at hu; subst hu; exact c3
        | q + 4, hu => simp at hu
    · rw [List.take_add_one, List.getElem?_eq_getElem hj]
      exact hk
  · obtain ⟨cur, b1, b2⟩ := h.block
    obtain ⟨c, c', t, r1, r2, r3, _⟩ := hd.row
    rw [b1] at r1
    simp only [Option.some.injEq, Obj.cells.injEq, and_true] at r1
    obtain ⟨rfl, rfl⟩ := r1
    exact ⟨c', r2, r3.trans b2⟩

theorem set_same {c : Array Value} {o : Nat} {v : Value} (h : c[o]? = some v) : c.setIfInBounds o v = c := by
  obtain ⟨hlt, hc⟩ := Array.getElem?_eq_some_iff.1 h
  apply Array.ext
  · simp
  · intro i h1 h2
    rw [Array.getElem_setIfInBounds]
    split
    · rename_i hi
      subst hi
      exact hc.symm
    · rfl

/-- A store of what is there changes nothing. -/
theorem setCell_id {w : World} {b o : Nat} {v : Value} (h : w.cell? ⟨b, o, none⟩ = some v) : w.setCell ⟨b, o, none⟩ v = w := by
  have key : ∀ h', h' = w.heap → ({ w with heap := h' } : World) = w := by
    rintro _ rfl
    rfl
  refine key _ ?_
  unfold World.cell? at h
  split at h
  · rename_i c e f hb
    have h' : c[o]? = some v := h
    obtain ⟨hltb, hcb⟩ := Array.getElem?_eq_some_iff.1 hb
    apply Array.ext
    · simp
    · intro i h1 h2
      rw [Array.getElem_modify]
      split
      · rename_i hi
        have hi' : b = i := hi
        subst hi'
        have hcb' : w.heap[b] = .cells c e f := hcb
        rw [hcb']
        show Obj.cells (c.setIfInBounds o v) e f = Obj.cells c e f
        rw [set_same h']
      · rfl
  · cases h

/-- The last part, too, is detached: the whole is. -/
theorem done_step {wr w5 w6 wq w' : World} {S : Nat → Prop} {n₀ qb qo nb m cap : Nat} {k n : Int} {s : ByteArray} {l : List Tm} {c : Array Value} {t : TypeId} (hlen : l.length = m + 1) (hcap : m + 1 ≤ cap) (hcap2 : cap ≤ 9223372036854775807) (hsm : Small k n s)
    (hc : wr.heap[qb]? = some (.cells c t (0, 0))) (c0 : c[qo]? = some (.int .i64 k)) (c1 : c[qo + 1]? = some (.int .i64 n)) (c2 : c[qo + 2]? = some (.string s)) (c3 : qo + 3 < c.size)
    (h5 : Below wr.heap.size wr w5) (h6 : Below w5.heap.size w5 w6) (hnb : w5.heap.size ≤ nb) (hnb6 : nb < w6.heap.size)
    (hos : wq.os = w6.os) (htape : wq.tape = w6.tape) (hout : wq.output = w6.output) (hsz : w6.heap.size ≤ wq.heap.size)
    (hq : ∀ j, j < w6.heap.size → j ≠ nb → wq.heap[j]? = (w6.setCell ⟨qb, qo + 3, none⟩ (.slice (some ⟨nb, 0, none⟩) (m + 1) cap)).heap[j]?) (hmix : Mix wq S nb cap l m) (hS : ∀ b, S b → b < n₀) (hn : n₀ ≤ nb)
    (hd : Done wq nb (m * 4) (l[m]'(by omega)) w') : Done wr qb qo (.mk k n s l) w' := by
  have z5 := h5.size
  have z6 := h6.size
  have hlt : qb < wr.heap.size := (Array.getElem?_eq_some_iff.1 hc).1
  have e6 : w6.heap[qb]? = some (.cells c t (0, 0)) := (h6.block _ (by omega)).trans ((h5.block _ hlt).trans hc)
  have e7 : (w6.setCell ⟨qb, qo + 3, none⟩ (.slice (some ⟨nb, 0, none⟩) (m + 1) cap)).heap[qb]? = some (.cells (c.setIfInBounds (qo + 3) (.slice (some ⟨nb, 0, none⟩) (m + 1) cap)) t (0, 0)) := by
    simp [World.setCell, Array.getElem?_modify, e6]
  have e' : w'.heap[qb]? = some (.cells (c.setIfInBounds (qo + 3) (.slice (some ⟨nb, 0, none⟩) (m + 1) cap)) t (0, 0)) := (hd.other qb (by omega) (by omega)).trans ((hq qb (by omega) (by omega)).trans e7)
  have hmix' := hmix.step (by omega) hS hn (by omega) hd
  refine ⟨hd.os.trans (hos.trans (h6.os.trans h5.os)), hd.tape.trans (htape.trans (h6.tape.trans h5.tape)), hd.output.trans (hout.trans (h6.output.trans h5.output)), by have := hd.size; omega, ?_, ?_, ?_⟩
  · intro j hj hne
    rw [hd.other j (by omega) (by omega), hq j (by omega) (by omega), Below.heap_setCell _ _ _ _ hne, h6.block j (by omega), h5.block j hj]
  · refine ⟨c, _, t, hc, e', by simp, fun j hj => ?_⟩
    rw [Array.getElem?_setIfInBounds_ne (by omega)]
  · have cell : ∀ j, w'.cell? ⟨qb, j, none⟩ = (c.setIfInBounds (qo + 3) (.slice (some ⟨nb, 0, none⟩) (m + 1) cap))[j]? := fun j => cell_of_row w' qb j _ t (0, 0) e'
    refine ⟨_, _, _, _, (cell _).trans ((Array.getElem?_setIfInBounds_ne (by omega)).trans c0), (cell _).trans ((Array.getElem?_setIfInBounds_ne (by omega)).trans c1), (cell _).trans ((Array.getElem?_setIfInBounds_ne (by omega)).trans c2),
      (cell _).trans (by rw [Array.getElem?_setIfInBounds_self_of_lt c3]), ?_⟩
    obtain ⟨xs, x1, x2, x3⟩ := hmix'.kids
    obtain ⟨cur, b1, b2⟩ := hmix'.block
    rw [← hlen] at x1
    have hxs : cur.toList.take (l.length * 4) = xs := by
      rw [← x1]
      apply List.ext_getElem?
      intro p
      rw [List.getElem?_take]
      split
      · rename_i hp
        have h1 := List.getElem?_eq_getElem hp
        have h2 := x2 p _ h1
        rw [cell_of_row w' nb p cur 24 (0, 0) b1] at h2
        rw [h1]
        simpa using h2
      · rw [List.getElem?_eq_none (by omega)]
    rw [← hlen]
    refine Own.mk hsm ⟨xs, ⟨x1, Or.inr ⟨nb, cap, cur, rfl, by omega, b1, by omega, hcap2, b2, hxs⟩⟩, fun g hg => (by cases hg; show nb < _; have := hd.size; omega), ?_⟩
    rw [← hlen, List.take_length] at x3
    exact Kids.move (by omega) (Nat.le_refl _) (fun _ _ _ _ => rfl) (fun g hg => Or.inl hg) x3

end Go.Proofs.YtamafhcgjbkikaaDoor
