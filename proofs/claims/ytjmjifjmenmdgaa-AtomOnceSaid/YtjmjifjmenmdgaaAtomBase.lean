/-
  Which blocks a call has written; a row of texts; a table of atoms in memory.
-/
import Derived.Test.YtjmjifjmenmdgaaAtomPlain
import Derived.Test.YtjmjifjmenmdgaaKitChain
import Derived.Maps.AppendAt
import Derived.Maps.OwnSet
import Derived.Deep.Slices
import Derived.Deep.Fields
namespace Go.Proofs.Ytjmjifjmenmdgaa
open Go.RowKit Go.Deep Go.Maps Go.WideShapes

/-- Of what was there nothing has been written but blocks of S. -/
structure Only (S : Nat → Prop) (w w' : World) : Prop where
  os : w'.os = w.os
  tape : w'.tape = w.tape
  output : w'.output = w.output
  size : w.heap.size ≤ w'.heap.size
  block : ∀ k, k < w.heap.size → ¬ S k → w'.heap[k]? = w.heap[k]?
theorem Only.refl (S : Nat → Prop) (w : World) : Only S w w := ⟨rfl, rfl, rfl, Nat.le_refl _, fun _ _ _ => rfl⟩
theorem Only.trans {S S' : Nat → Prop} {a b c : World} (h : Only S a b) (k : Only S' b c) (hS : ∀ i, S' i → S i ∨ a.heap.size ≤ i) : Only S a c :=
  ⟨k.os.trans h.os, k.tape.trans h.tape, k.output.trans h.output, Nat.le_trans h.size k.size, fun i hi hn => (k.block i (Nat.lt_of_lt_of_le hi h.size) (fun hs => (hS i hs).elim hn (fun hh => by omega))).trans (h.block i hi hn)⟩
theorem Only.up {S : Nat → Prop} {w w' : World} (h : Below w.heap.size w w') : Only S w w' := ⟨h.os, h.tape, h.output, h.size, fun k hk _ => h.block k hk⟩
theorem Only.mono {S S' : Nat → Prop} {w w' : World} (h : Only S w w') (hS : ∀ k, S k → S' k) : Only S' w w' := ⟨h.os, h.tape, h.output, h.size, fun k hk hn => h.block k hk (fun hs => hn (hS k hs))⟩
theorem Only.grown {S : Nat → Prop} {w w' : World} {row : Option Nat} (h : w.grownBy w' row) (hS : ∀ k, row = some k → S k) : Only S w w' :=
  ⟨h.os, h.tape, h.output, h.size, fun k hk hn => h.block k hk (fun e => hn (hS k e.symm))⟩
theorem Only.set {S : Nat → Prop} (w : World) {p j : Nat} (v : Value) (hp : S p) : Only S w (w.setCell ⟨p, j, none⟩ v) :=
  ⟨rfl, rfl, rfl, by simp [World.setCell], fun k _ hn => Below.heap_setCell _ _ _ _ (fun e => hn (by rw [e]; exact hp))⟩
theorem Only.below {S : Nat → Prop} {w w' : World} {B : Nat} (h : Only S w w') (hS : ∀ k, S k → B ≤ k) (hB : B ≤ w.heap.size) : Below B w w' :=
  ⟨h.os, h.tape, h.output, h.size, fun k hk => h.block k (by omega) (fun hs => by have := hS k hs; omega)⟩
theorem Only.box {S : Nat → Prop} {w w' : World} {k : Nat} {o : Obj} (h : Only S w w') (hk : w.heap[k]? = some o) (hn : ¬ S k) : w'.heap[k]? = some o := (h.block k (Array.getElem?_eq_some_iff.1 hk).1 hn).trans hk
theorem Only.nothing {w w' : World} (h : Only (fun _ => False) w w') : Below w.heap.size w w' := ⟨h.os, h.tape, h.output, h.size, fun k hk => h.block k hk (fun f => f)⟩

/-- A row of texts of the call's own. -/
abbrev Texts (w : World) (v : Value) (L : List ByteArray) : Prop := w.ownsRow 0 9 1 v L.length (L.map .string)
theorem Texts.block_lt {w : World} {v : Value} {L : List ByteArray} (h : Texts w v L) {g : Nat} (hg : v.ownBlock = some g) : g < w.heap.size := by
  rcases h.2 with ⟨rfl, _⟩ | ⟨b, cap, cur, rfl, _, hb, _⟩
  · cases hg
  · cases hg
    exact (Array.getElem?_eq_some_iff.1 hb).1
theorem Texts.kept {S : Nat → Prop} {w w' : World} {v : Value} {L : List ByteArray} (h : Texts w v L) (ho : Only S w w') (hS : ∀ g, v.ownBlock = some g → ¬ S g) : Texts w' v L := by
  obtain ⟨h1, h2⟩ := h
  refine ⟨h1, ?_⟩
  rcases h2 with h2 | ⟨b, cap, cur, rfl, hb, hh, hr⟩
  · exact Or.inl h2
  · exact Or.inr ⟨b, cap, cur, rfl, hb, ho.box hh (hS b rfl), hr⟩
/-- What a row of texts is, written out. -/
theorem Texts.shape {w : World} {v : Value} {L : List ByteArray} (h : Texts w v L) :
    (v = .slice none 0 0 ∧ L = []) ∨ ∃ g cap, v = .slice (some ⟨g, 0, none⟩) L.length cap ∧ L.length ≤ cap ∧ cap ≤ maxLen ∧ ∀ j (hj : j < L.length), w.cell? ⟨g, j, none⟩ = some (.string L[j]) := by
  obtain ⟨_, h2⟩ := h
  rcases h2 with ⟨rfl, h2⟩ | ⟨g, cap, cur, rfl, _, hh, hn, hm, hs, hx⟩
  · exact Or.inl ⟨rfl, List.eq_nil_of_length_eq_zero h2⟩
  · refine Or.inr ⟨g, cap, rfl, hn, hm, fun j hj => ?_⟩
    have e : cur.toList[j]? = some (.string L[j]) := by
      have : (cur.toList.take (L.length * 1))[j]? = (L.map Value.string)[j]? := by rw [hx]
      rw [List.getElem?_take, if_pos (by omega)] at this
      rw [this]
      simp [hj]
    simp only [World.cell?, hh]
    simpa using e
theorem Texts.nil (w : World) : Texts w (.slice none 0 0) [] := ⟨rfl, Or.inl ⟨rfl, rfl⟩⟩
/-- .. in one form, the row's address where there is one. -/
theorem Texts.at_ {w : World} {v : Value} {L : List ByteArray} (h : Texts w v L) (h0 : 0 < L.length) :
    ∃ g cap, v = .slice (some ⟨g, 0, none⟩) L.length cap ∧ ∀ j (hj : j < L.length), w.cell? ⟨g, j, none⟩ = some (.string L[j]) := by
  rcases h.shape with ⟨_, rfl⟩ | ⟨g, cap, hv, _, _, hc⟩
  · cases h0
  · exact ⟨g, cap, hv, hc⟩
theorem Texts.slice {w : World} {v : Value} {L : List ByteArray} (h : Texts w v L) : ∃ a cap, v = .slice a L.length cap := by
  rcases h.shape with ⟨rfl, rfl⟩ | ⟨g, cap, hv, _, _, hc⟩
  · exact ⟨none, 0, rfl⟩
  · exact ⟨_, cap, hv⟩

/-- A table of atoms: its box at p, its map at bm, its texts' row v. -/
structure Tab (w : World) (p bm : Nat) (v : Value) (L : List ByteArray) : Prop where
  box : w.heap[p]? = some (.cells #[.pointer (some ⟨p, 0, none⟩), .map (some bm), v, .int .i64 (sizes L)] 37)
  map : ∃ D : DataW Unit, w.ownsMap Try.prog 9 (plainElem Try.prog 3) bm L.length D ∧ MapOk D L
  row : Texts w v L
  ne : bm ≠ p
  np : v.ownBlock ≠ some p
  nb : v.ownBlock ≠ some bm
  good : Good L
/-- The blocks that a table has. -/
def Mine (p bm : Nat) (v : Value) (k : Nat) : Prop := k = p ∨ k = bm ∨ v.ownBlock = some k
theorem Tab.lt {w : World} {p bm : Nat} {v : Value} {L : List ByteArray} (h : Tab w p bm v L) {k : Nat} (hk : Mine p bm v k) : k < w.heap.size := by
  rcases hk with rfl | rfl | hk
  · exact (Array.getElem?_eq_some_iff.1 h.box).1
  · obtain ⟨D, hD, _⟩ := h.map
    exact hD.lt
  · exact h.row.block_lt hk
theorem ownsMap_same {w w' : World} {b n : Nat} {D : DataW Unit} {k : TypeId} {R : Value → Option (DataW Unit × List MemPlace)} (h : w.ownsMap Try.prog k R b n D) (hb : w'.heap[b]? = w.heap[b]?) : w'.ownsMap Try.prog k R b n D := by
  obtain ⟨es, clock, h1, h2⟩ := h
  exact ⟨es, clock, hb.trans h1, h2⟩
theorem Tab.kept {S : Nat → Prop} {w w' : World} {p bm : Nat} {v : Value} {L : List ByteArray} (h : Tab w p bm v L) (ho : Only S w w') (hS : ∀ k, Mine p bm v k → ¬ S k) : Tab w' p bm v L := by
  refine ⟨ho.box h.box (hS p (Or.inl rfl)), ?_, h.row.kept ho (fun g hg => hS g (Or.inr (Or.inr hg))), h.ne, h.np, h.nb, h.good⟩
  obtain ⟨D, hD, hM⟩ := h.map
  exact ⟨D, ownsMap_same hD (ho.block bm hD.lt (hS bm (Or.inr (Or.inl rfl)))), hM⟩
theorem Tab.up {w w' : World} {p bm : Nat} {v : Value} {L : List ByteArray} (h : Tab w p bm v L) (hb : Below w.heap.size w w') : Tab w' p bm v L :=
  h.kept (S := fun _ => False) (Only.up hb) (fun _ _ f => f)
theorem Tab.cells {w : World} {p bm : Nat} {v : Value} {L : List ByteArray} (h : Tab w p bm v L) :
    (w.cell? ⟨p, 0, none⟩ = some (.pointer (some ⟨p, 0, none⟩)) ∧ w.cell? ⟨p, 1, none⟩ = some (.map (some bm)) ∧ w.cell? ⟨p, 2, none⟩ = some v ∧ w.cell? ⟨p, 3, none⟩ = some (.int .i64 (sizes L))) ∧
      w.frozen? ⟨p, 2, none⟩ = false ∧ w.frozen? ⟨p, 3, none⟩ = false := by
  have h' := h.box
  simp [World.cell?, World.frozen?, h']
theorem Tab.cell0 {w : World} {p bm : Nat} {v : Value} {L : List ByteArray} (h : Tab w p bm v L) : w.cell? ⟨p, 0, none⟩ = some (.pointer (some ⟨p, 0, none⟩)) := h.cells.1.1

end Go.Proofs.Ytjmjifjmenmdgaa
