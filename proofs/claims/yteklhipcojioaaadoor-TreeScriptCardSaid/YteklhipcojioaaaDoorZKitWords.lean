/-
  Rows of words: a call's own ones, those that came in; words appended.
-/
import Derived.Test.YteklhipcojioaaaDoorZKitRegion
import Derived.Lib.AppendZerosOnto
import Derived.OwnWalk
namespace Go.Proofs.YteklhipcojioaaaDoor
open Go.RowKit Go.Deep Go.Maps Go.WideShapes Go.ChangeShapes

/-- .. and of nothing. -/
theorem run_append_own_none {P : Program} (w : World) (base : Nat) (t ty e : TypeId) (i : TypeInfo) (size : Nat) (ht : P.underlying t = some (.slice e)) (hi : P.info? e = some i)
    (v : Value) (n : Nat) (xs : List Value) (hown : w.ownsRow base e size v n xs) :
    (Builtin.append_ #[t, t] ty #[v, .slice none 0 0]).run P w = .ok v w := by
  obtain ⟨a, cap, rfl⟩ := owns_slice hown
  have hcap : n ≤ cap := by
    rcases hown.2 with ⟨h, h'⟩ | ⟨g, cap', cur, h, _, _, hc, _⟩
    · omega
    · cases h; exact hc
  cases a with
  | none => simp [Builtin.append_, run_underlying ht, sizeOf, typeInfo, hi, Builtin.lenOf, Builtin.firstCells, hcap]
  | some a => simp [Builtin.append_, run_underlying ht, sizeOf, typeInfo, hi, Builtin.lenOf, Builtin.firstCells, hcap, storeCells]
/-- Words that came in. -/
structure Wrd (w : World) (xs : List Int) (a : Option Addr) (cap : Nat) : Prop where
  len : xs.length ≤ cap ∧ cap ≤ 9223372036854775807
  rng : ∀ x ∈ xs, 0 ≤ x ∧ x < 18446744073709551616
  cells : 0 < xs.length → ∃ b o, a = some ⟨b, o, none⟩ ∧ ∀ j (h : j < xs.length), w.cell? ⟨b, o + j, none⟩ = some (.int .u64 xs[j])
/-- Words that lie behind an address. -/
def Cel (w : World) (xs : List Int) (a : Option Addr) : Prop := 0 < xs.length → ∃ b o, a = some ⟨b, o, none⟩ ∧ ∀ j (h : j < xs.length), w.cell? ⟨b, o + j, none⟩ = some (.int .u64 xs[j])
theorem Cel.up {w w' : World} {xs : List Int} {a : Option Addr} (h : Cel w xs a) (hb : Below w.heap.size w w') : Cel w' xs a := fun h0 => by
  obtain ⟨b, o, e, hc⟩ := h h0
  exact ⟨b, o, e, fun j hj => cell_below hb _ _ _ (hc j hj)⟩
theorem Wrd.cel {w : World} {xs : List Int} {a : Option Addr} {cap : Nat} (h : Wrd w xs a cap) : Cel w xs a := h.cells
/-- A block with words in it, beside a table. -/
theorem cel_at {w : World} {g : Nat} {xs : List Int} {t : TypeId} (h : w.heap[g]? = some (.cells (xs.map (Value.int .u64)).toArray t)) : Cel w xs (some ⟨g, 0, none⟩) := fun _ =>
  ⟨g, 0, rfl, fun j hj => by simp [World.cell?, h, hj]⟩
theorem Wrd.lt {w : World} {xs : List Int} {la : Option Addr} {cap : Nat} (h : Wrd w xs la cap) (h0 : 0 < xs.length) {ad : Addr} (e : la = some ad) : ad.block < w.heap.size := by
  obtain ⟨b, o, e', hc⟩ := h.cells h0
  rw [e] at e'
  cases e'
  have := World.block_lt_of_cell? w _ (hc 0 h0)
  exact this
theorem Wrd.only {P : Nat → Prop} {w w' : World} {xs : List Int} {la : Option Addr} {cap : Nat} (h : Wrd w xs la cap) (o : Only P w w') (hS : ∀ ad, la = some ad → 0 < xs.length → ¬ P ad.block) : Wrd w' xs la cap :=
  ⟨h.len, h.rng, fun h0 => by
    obtain ⟨b, oo, e, hc⟩ := h.cells h0
    exact ⟨b, oo, e, fun j hj => o.cellS (hS _ e h0) (hc j hj)⟩⟩
theorem Wrd.below {w w' : World} {xs : List Int} {la : Option Addr} {lcap : Nat} (h : Wrd w xs la lcap) (hb : Below w.heap.size w w') : Wrd w' xs la lcap :=
  ⟨h.len, h.rng, fun h0 => by
    obtain ⟨b, o, e, hc⟩ := h.cells h0
    exact ⟨b, o, e, fun j hj => cell_below hb _ _ _ (hc j hj)⟩⟩
end Go.Proofs.YteklhipcojioaaaDoor
