/-
  Rows of words: a call's own ones, those that came in; words appended.
-/
import Derived.Test.YtgfelddgiabeoaaKitOnly
import Derived.Lib.AppendZerosOnto
import Derived.OwnWalk
namespace Go.Proofs.Ytgfelddgiabeoaa
open Go.RowKit Go.Deep Go.Maps Go.WideShapes Go.ChangeShapes

/-- .. and of nothing. -/
theorem run_append_own_none {P : Program} (w : World) (base : Nat) (t ty e : TypeId) (i : TypeInfo) (size : Nat) (ht : P.underlying t = some (.slice e)) (hi : P.info? e = some i)
    (v : Value) (n : Nat) (xs : List Value) (hown : w.ownsRow base e size v n xs) :
    (Builtin.append_ #[t, t] ty #[v, .slice none 0 0]).run P w = .ok v w := by
  obtain ⟨a, cap, rfl⟩ := owns_slice hown
  have hcap : n ≤ cap := by
    rcases hown.2 with ⟨h, h'⟩ | ⟨g, cap', cur, h, _, _, hc, _⟩
    · omega
    · cases h; exact hc
  cases a with
  | none => simp [Builtin.append_, run_underlying ht, sizeOf, typeInfo, hi, Builtin.lenOf, Builtin.firstCells, hcap]
  | some a => simp [Builtin.append_, run_underlying ht, sizeOf, typeInfo, hi, Builtin.lenOf, Builtin.firstCells, hcap, storeCells]
/-- A row of words of the call's own. -/
abbrev Wds (w : World) (v : Value) (xs : List Int) : Prop := w.ownsRow 0 74 1 v xs.length (xs.map (.int .u64))
theorem Wds.shape {w : World} {v : Value} {xs : List Int} (h : Wds w v xs) :
    (v = .slice none 0 0 ∧ xs = []) ∨ ∃ g cap, v = .slice (some ⟨g, 0, none⟩) xs.length cap ∧ xs.length ≤ cap ∧ cap ≤ maxLen ∧ g < w.heap.size ∧ ∀ j (hj : j < xs.length), w.cell? ⟨g, j, none⟩ = some (.int .u64 xs[j]) := by
  obtain ⟨_, h2⟩ := h
  rcases h2 with ⟨rfl, h2⟩ | ⟨g, cap, cur, rfl, _, hh, hn, hm, hs, hx⟩
  · exact Or.inl ⟨rfl, List.eq_nil_of_length_eq_zero h2⟩
  · refine Or.inr ⟨g, cap, rfl, hn, hm, (Array.getElem?_eq_some_iff.1 hh).1, fun j hj => ?_⟩
    have e : cur.toList[j]? = some (.int .u64 xs[j]) := by
      have : (cur.toList.take (xs.length * 1))[j]? = (xs.map (Value.int .u64))[j]? := by rw [hx]
      rw [List.getElem?_take, if_pos (by omega)] at this
      rw [this]
      simp [hj]
    simp only [World.cell?, hh]
    simpa using e
theorem Wds.block_lt {w : World} {v : Value} {xs : List Int} (h : Wds w v xs) {g : Nat} (hg : v.ownBlock = some g) : g < w.heap.size := by
  rcases h.2 with ⟨rfl, _⟩ | ⟨b, cap, cur, rfl, _, hb, _⟩
  · cases hg
  · cases hg
    exact (Array.getElem?_eq_some_iff.1 hb).1
theorem Wds.kept {S : Nat → Prop} {w w' : World} {v : Value} {xs : List Int} (h : Wds w v xs) (ho : Only S w w') (hS : ∀ g, v.ownBlock = some g → ¬ S g) : Wds w' v xs := by
  obtain ⟨h1, h2⟩ := h
  refine ⟨h1, ?_⟩
  rcases h2 with h2 | ⟨b, cap, cur, rfl, hb, hh, hr⟩
  · exact Or.inl h2
  · exact Or.inr ⟨b, cap, cur, rfl, hb, ho.box hh (hS b rfl), hr⟩
theorem Wds.up {w w' : World} {v : Value} {xs : List Int} (h : Wds w v xs) (hb : Below w.heap.size w w') : Wds w' v xs := h.kept (S := fun _ => False) (Only.up hb) (fun _ _ f => f)
/-- A word put at a place. -/
theorem Wds.set {w : World} {g n cap : Nat} {xs : List Int} (h : Wds w (.slice (some ⟨g, 0, none⟩) n cap) xs) (i : Nat) (x : Int) : Wds (w.setCell ⟨g, i, none⟩ (.int .u64 x)) (.slice (some ⟨g, 0, none⟩) n cap) (xs.set i x) := by
  obtain ⟨h1, h2⟩ := h
  refine ⟨by simp, ?_⟩
  rcases h2 with ⟨h2, _⟩ | ⟨b, cap', cur, hv, hb, hh, hn, hm, hs, hx⟩
  · cases h2
  · cases hv
    refine Or.inr ⟨g, cap, cur.setIfInBounds i (.int .u64 x), by simp, hb, ?_, by simpa using hn, hm, by simpa using hs, ?_⟩
    · simp [World.setCell, Array.getElem?_modify, hh]
    · rw [Array.toList_setIfInBounds, List.length_set, List.map_set, ← hx, List.take_set]
theorem Wds.frozen {w : World} {g n cap : Nat} {xs : List Int} (h : Wds w (.slice (some ⟨g, 0, none⟩) n cap) xs) (i : Nat) : w.frozen? ⟨g, i, none⟩ = false := by
  rcases h.2 with ⟨h2, _⟩ | ⟨b, cap', cur, hv, hb, hh, hn, hm, hs, hx⟩
  · cases h2
  · cases hv
    simp [World.frozen?, hh]
theorem wordInfo : (Try.prog.info? 74).map (fun i => (i.zero, i.size, i.bytes)) = some (some (.int .u64 0), 1, 8) := by kernel_rfl
/-- Words that came in. -/
structure Wrd (w : World) (xs : List Int) (a : Option Addr) (cap : Nat) : Prop where
  len : xs.length ≤ cap ∧ cap ≤ 9223372036854775807
  rng : ∀ x ∈ xs, 0 ≤ x ∧ x < 18446744073709551616
  cells : 0 < xs.length → ∃ b o, a = some ⟨b, o, none⟩ ∧ ∀ j (h : j < xs.length), w.cell? ⟨b, o + j, none⟩ = some (.int .u64 xs[j])
/-- Words that lie behind an address. -/
def Cel (w : World) (xs : List Int) (a : Option Addr) : Prop := 0 < xs.length → ∃ b o, a = some ⟨b, o, none⟩ ∧ ∀ j (h : j < xs.length), w.cell? ⟨b, o + j, none⟩ = some (.int .u64 xs[j])
theorem Cel.up {w w' : World} {xs : List Int} {a : Option Addr} (h : Cel w xs a) (hb : Below w.heap.size w w') : Cel w' xs a := fun h0 => by
  obtain ⟨b, o, e, hc⟩ := h h0
  exact ⟨b, o, e, fun j hj => cell_below hb _ _ _ (hc j hj)⟩
theorem Wds.cel {w : World} {v : Value} {xs : List Int} (h : Wds w v xs) : ∃ a cap, v = .slice a xs.length cap ∧ xs.length ≤ cap ∧ cap ≤ maxLen ∧ Cel w xs a := by
  rcases h.shape with ⟨rfl, rfl⟩ | ⟨g, cap, rfl, h1, h2, _, hc⟩
  · exact ⟨none, 0, rfl, Nat.le_refl _, Nat.zero_le _, fun h => by cases h⟩
  · exact ⟨_, cap, rfl, h1, h2, fun _ => ⟨g, 0, rfl, fun j hj => by rw [Nat.zero_add]; exact hc j hj⟩⟩
theorem Wrd.cel {w : World} {xs : List Int} {a : Option Addr} {cap : Nat} (h : Wrd w xs a cap) : Cel w xs a := h.cells
theorem Wds.celA {w : World} {a : Option Addr} {n cap : Nat} {xs : List Int} (h : Wds w (.slice a n cap) xs) : Cel w xs a := by
  obtain ⟨a', cap', he, _, _, hc⟩ := h.cel
  simp only [Value.slice.injEq] at he
  rw [he.1]; exact hc
/-- A block with words in it, beside a table. -/
theorem cel_at {w : World} {g : Nat} {xs : List Int} {t : TypeId} (h : w.heap[g]? = some (.cells (xs.map (Value.int .u64)).toArray t)) : Cel w xs (some ⟨g, 0, none⟩) := fun _ =>
  ⟨g, 0, rfl, fun j hj => by simp [World.cell?, h, hj]⟩
theorem Wrd.lt {w : World} {xs : List Int} {la : Option Addr} {cap : Nat} (h : Wrd w xs la cap) (h0 : 0 < xs.length) {ad : Addr} (e : la = some ad) : ad.block < w.heap.size := by
  obtain ⟨b, o, e', hc⟩ := h.cells h0
  rw [e] at e'
  cases e'
  have := World.block_lt_of_cell? w _ (hc 0 h0)
  exact this
theorem Wrd.only {P : Nat → Prop} {w w' : World} {xs : List Int} {la : Option Addr} {cap : Nat} (h : Wrd w xs la cap) (o : Only P w w') (hS : ∀ ad, la = some ad → 0 < xs.length → ¬ P ad.block) : Wrd w' xs la cap :=
  ⟨h.len, h.rng, fun h0 => by
    obtain ⟨b, oo, e, hc⟩ := h.cells h0
    exact ⟨b, oo, e, fun j hj => o.cellS (hS _ e h0) (hc j hj)⟩⟩
theorem Wrd.below {w w' : World} {xs : List Int} {la : Option Addr} {lcap : Nat} (h : Wrd w xs la lcap) (hb : Below w.heap.size w w') : Wrd w' xs la lcap :=
  ⟨h.len, h.rng, fun h0 => by
    obtain ⟨b, o, e, hc⟩ := h.cells h0
    exact ⟨b, o, e, fun j hj => cell_below hb _ _ _ (hc j hj)⟩⟩
theorem Wds.wrd {w : World} {rv : Value} {xs : List Int} (h : Wds w rv xs) (hr : ∀ x ∈ xs, 0 ≤ x ∧ x < 18446744073709551616) : ∃ a cap, rv = .slice a xs.length cap ∧ Wrd w xs a cap := by
  rcases h.shape with ⟨rfl, rfl⟩ | ⟨g, cap, rfl, h1, h2, _, hc⟩
  · exact ⟨none, 0, rfl, ⟨⟨Nat.le_refl _, Nat.zero_le _⟩, hr, fun h => by cases h⟩⟩
  · exact ⟨_, cap, rfl, ⟨⟨h1, by rw [maxLen] at h2; omega⟩, hr, fun _ => ⟨g, 0, rfl, fun j hj => by rw [Nat.zero_add]; exact hc j hj⟩⟩⟩
end Go.Proofs.Ytgfelddgiabeoaa
