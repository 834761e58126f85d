/-
  A term is detached, in place, from the memory that it shares with others: what has become of memory then, and how one part behind the other comes to that.
-/
import Derived.Test.YtnelefokpopfdaaDoorTermClone
import Derived.Deep.RegionWith
import Derived.Deep.LoopGhost
namespace Go.Proofs.YtnelefokpopfdaaDoor
open Go.RowKit Go.Deep

/-- Nothing that was there is other than it was, but for four cells of one block; and there is the term now, all its rows new. -/
structure Done (w : World) (pb po : Nat) (T : Tm) (w' : World) : Prop where
  os : w'.os = w.os
  tape : w'.tape = w.tape
  output : w'.output = w.output
  size : w.heap.size ≤ w'.heap.size
  other : ∀ k, k < w.heap.size → k ≠ pb → w'.heap[k]? = w.heap[k]?
  row : ∃ (c c' : Array Value) (t : TypeId), w.heap[pb]? = some (.cells c t (0, 0)) ∧ w'.heap[pb]? = some (.cells c' t (0, 0)) ∧ c'.size = c.size ∧ ∀ j, (j < po ∨ po + 4 ≤ j) → c'[j]? = c[j]?
  term : ∃ v0 v1 v2 v3, w'.cell? ⟨pb, po, none⟩ = some v0 ∧ w'.cell? ⟨pb, po + 1, none⟩ = some v1 ∧ w'.cell? ⟨pb, po + 2, none⟩ = some v2 ∧ w'.cell? ⟨pb, po + 3, none⟩ = some v3 ∧ Lies w' (fun b => w.heap.size ≤ b) T (.agg #[v0, v1, v2, v3])

theorem Done.keep {w w' : World} {pb po j : Nat} {T : Tm} (h : Done w pb po T w') (hj : j < po ∨ po + 4 ≤ j) : w'.cell? ⟨pb, j, none⟩ = w.cell? ⟨pb, j, none⟩ := by
  obtain ⟨c, c', t, h1, h2, _, h4⟩ := h.row
  rw [cell_of_row w pb j c t (0, 0) h1, cell_of_row w' pb j c' t (0, 0) h2, h4 j hj]
theorem Done.far {w w' : World} {pb po : Nat} {T : Tm} (h : Done w pb po T w') {b o : Nat} {v : Value} (hb : b ≠ pb) (hc : w.cell? ⟨b, o, none⟩ = some v) : w'.cell? ⟨b, o, none⟩ = some v := by
  rw [World.cell?_of_block (w := w) (a := ⟨b, o, none⟩) (h.other b (World.block_lt_of_cell? w ⟨b, o, none⟩ hc) hb)]
  exact hc

/-- A row of which the first parts are new. -/
def Mix (w : World) (S : Nat → Prop) (nb : Nat) (l : List Tm) (j : Nat) : Prop :=
  ∀ i (hi : i < l.length), ∃ v0 v1 v2 v3, w.cell? ⟨nb, i * 4, none⟩ = some v0 ∧ w.cell? ⟨nb, i * 4 + 1, none⟩ = some v1 ∧ w.cell? ⟨nb, i * 4 + 2, none⟩ = some v2 ∧ w.cell? ⟨nb, i * 4 + 3, none⟩ = some v3 ∧
    Lies w (if i < j then (fun b => nb < b) else S) l[i] (.agg #[v0, v1, v2, v3])

theorem Mix.step {w w' : World} {S : Nat → Prop} {nb n₀ j : Nat} {l : List Tm} (h : Mix w S nb l j) (hj : j < l.length) (hS : ∀ b, S b → b < n₀) (hn : n₀ ≤ nb) (hnb : nb < w.heap.size) (hd : Done w nb (j * 4) l[j] w') : Mix w' S nb l (j + 1) := by
  intro i hi
  rcases Nat.lt_trichotomy i j with hij | hij | hij
  · obtain ⟨v0, v1, v2, v3, c0, c1, c2, c3, hl⟩ := h i hi
    rw [if_pos hij] at hl
    refine ⟨v0, v1, v2, v3, (hd.keep (by omega)).trans c0, (hd.keep (by omega)).trans c1, (hd.keep (by omega)).trans c2, (hd.keep (by omega)).trans c3, ?_⟩
    rw [if_pos (by omega)]
    exact hl.move (fun _ h => h) (fun b o v hb hc => hd.far (by omega) hc) _ _
  · subst hij
    obtain ⟨v0, v1, v2, v3, c0, c1, c2, c3, hl⟩ := hd.term
    refine ⟨v0, v1, v2, v3, c0, c1, c2, c3, ?_⟩
    rw [if_pos (by omega)]
    exact hl.wider (fun b hb => by omega)
  · obtain ⟨v0, v1, v2, v3, c0, c1, c2, c3, hl⟩ := h i hi
    rw [if_neg (by omega)] at hl
    refine ⟨v0, v1, v2, v3, (hd.keep (by omega)).trans c0, (hd.keep (by omega)).trans c1, (hd.keep (by omega)).trans c2, (hd.keep (by omega)).trans c3, ?_⟩
    rw [if_neg (by omega)]
    exact hl.move (fun _ h => h) (fun b o v hb hc => hd.far (by have := hS b hb; omega) hc) _ _

theorem set_same {c : Array Value} {o : Nat} {v : Value} (h : c[o]? = some v) : c.setIfInBounds o v = c := by
  obtain ⟨hlt, hc⟩ := Array.getElem?_eq_some_iff.1 h
  apply Array.ext
  · simp
  · intro i h1 h2
    rw [Array.getElem_setIfInBounds]
    split
    · rename_i hi
      subst hi
      exact hc.symm
    · rfl

/-- A store of what is there changes nothing. -/
theorem setCell_id {w : World} {b o : Nat} {v : Value} (h : w.cell? ⟨b, o, none⟩ = some v) : w.setCell ⟨b, o, none⟩ v = w := by
  have key : ∀ h', h' = w.heap → ({ w with heap := h' } : World) = w := by
    rintro _ rfl
    rfl
  refine key _ ?_
  unfold World.cell? at h
  split at h
  · rename_i c e f hb
    have h' : c[o]? = some v := h
    obtain ⟨hltb, hcb⟩ := Array.getElem?_eq_some_iff.1 hb
    apply Array.ext
    · simp
    · intro i h1 h2
      rw [Array.getElem_modify]
      split
      · rename_i hi
        have hi' : b = i := hi
        subst hi'
        have hcb' : w.heap[b] = .cells c e f := hcb
        rw [hcb']
        show Obj.cells (c.setIfInBounds o v) e f = Obj.cells c e f
        rw [set_same h']
      · rfl
  · cases h

/-- The last part, too, is detached: the whole is. -/
theorem done_step {wr w5 w6 wq w' : World} {S : Nat → Prop} {n₀ qb qo nb m cap : Nat} {k n : Int} {s : ByteArray} {l : List Tm} {c : Array Value} {t : TypeId} (hlen : l.length = m + 1) (hcap : m + 1 ≤ cap) (hcap2 : cap ≤ 9223372036854775807) (hsm : Small k n s)
    (hc : wr.heap[qb]? = some (.cells c t (0, 0))) (c0 : c[qo]? = some (.int .i64 k)) (c1 : c[qo + 1]? = some (.int .i64 n)) (c2 : c[qo + 2]? = some (.string s)) (c3 : qo + 3 < c.size)
    (h5 : Below wr.heap.size wr w5) (h6 : Below w5.heap.size w5 w6) (hnb : w5.heap.size ≤ nb) (hnb6 : nb < w6.heap.size)
    (hos : wq.os = w6.os) (htape : wq.tape = w6.tape) (hout : wq.output = w6.output) (hsz : w6.heap.size ≤ wq.heap.size)
    (hq : ∀ j, j < w6.heap.size → j ≠ nb → wq.heap[j]? = (w6.setCell ⟨qb, qo + 3, none⟩ (.slice (some ⟨nb, 0, none⟩) (m + 1) cap)).heap[j]?) (hmix : Mix wq S nb l m) (hS : ∀ b, S b → b < n₀) (hn : n₀ ≤ nb)
    (hd : Done wq nb (m * 4) (l[m]'(by omega)) w') : Done wr qb qo (.mk k n s l) w' := by
  have z5 := h5.size
  have z6 := h6.size
  have hlt : qb < wr.heap.size := (Array.getElem?_eq_some_iff.1 hc).1
  have e6 : w6.heap[qb]? = some (.cells c t (0, 0)) := (h6.block _ (by omega)).trans ((h5.block _ hlt).trans hc)
  have e7 : (w6.setCell ⟨qb, qo + 3, none⟩ (.slice (some ⟨nb, 0, none⟩) (m + 1) cap)).heap[qb]? = some (.cells (c.setIfInBounds (qo + 3) (.slice (some ⟨nb, 0, none⟩) (m + 1) cap)) t (0, 0)) := by
    simp [World.setCell, Array.getElem?_modify, e6]
  have e' : w'.heap[qb]? = some (.cells (c.setIfInBounds (qo + 3) (.slice (some ⟨nb, 0, none⟩) (m + 1) cap)) t (0, 0)) := (hd.other qb (by omega) (by omega)).trans ((hq qb (by omega) (by omega)).trans e7)
  have hmix' := hmix.step (by omega) hS hn (by omega) hd
  refine ⟨hd.os.trans (hos.trans (h6.os.trans h5.os)), hd.tape.trans (htape.trans (h6.tape.trans h5.tape)), hd.output.trans (hout.trans (h6.output.trans h5.output)), by have := hd.size; omega, ?_, ?_, ?_⟩
  · intro j hj hne
    rw [hd.other j (by omega) (by omega), hq j (by omega) (by omega), Below.heap_setCell _ _ _ _ hne, h6.block j (by omega), h5.block j hj]
  · refine ⟨c, _, t, hc, e', by simp, fun j hj => ?_⟩
    rw [Array.getElem?_setIfInBounds_ne (by omega)]
  · have cell : ∀ j, w'.cell? ⟨qb, j, none⟩ = (c.setIfInBounds (qo + 3) (.slice (some ⟨nb, 0, none⟩) (m + 1) cap))[j]? := fun j => cell_of_row w' qb j _ t (0, 0) e'
    refine ⟨_, _, _, _, (cell _).trans ((Array.getElem?_setIfInBounds_ne (by omega)).trans c0), (cell _).trans ((Array.getElem?_setIfInBounds_ne (by omega)).trans c1), (cell _).trans ((Array.getElem?_setIfInBounds_ne (by omega)).trans c2),
      (cell _).trans (by rw [Array.getElem?_setIfInBounds_self_of_lt c3]), ?_⟩
    have hL := Lies.mk (w := w') (S := fun b => wr.heap.size ≤ b) (k := k) (n := n) (s := s) (l := l) (a := some ⟨nb, 0, none⟩) (cap := cap) hsm ⟨by omega, hcap2, Or.inr ⟨_, rfl, fun _ => ⟨by show wr.heap.size ≤ nb; omega, rfl⟩, Row.of fun i hi => ?_⟩⟩
    · rwa [hlen] at hL
    · obtain ⟨v0, v1, v2, v3, d0, d1, d2, d3, hl⟩ := hmix' i hi
      rw [if_pos (by omega)] at hl
      show ∃ v0 v1 v2 v3, w'.cell? ⟨nb, 0 + i * 4, none⟩ = some v0 ∧ w'.cell? ⟨nb, 0 + i * 4 + 1, none⟩ = some v1 ∧ w'.cell? ⟨nb, 0 + i * 4 + 2, none⟩ = some v2 ∧ w'.cell? ⟨nb, 0 + i * 4 + 3, none⟩ = some v3 ∧ _
      rw [Nat.zero_add]
      exact ⟨v0, v1, v2, v3, d0, d1, d2, d3, hl.wider (fun b hb => by omega)⟩

end Go.Proofs.YtnelefokpopfdaaDoor
