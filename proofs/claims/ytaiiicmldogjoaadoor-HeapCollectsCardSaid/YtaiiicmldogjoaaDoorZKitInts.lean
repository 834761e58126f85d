/-
  Rows of numbers held side by side.
-/
import Derived.Test.YtaiiicmldogjoaaDoorZKitRegion
import Derived.Test.YtaiiicmldogjoaaDoorZKitLast
namespace Go.Proofs.YtaiiicmldogjoaaDoor
open Go.RowKit Go.Deep

/-- A row of numbers of a call's own. -/
abbrev Nums (w : World) (v : Value) (xs : List Int) : Prop := w.ownsRow 0 3 1 v xs.length (xs.map (.int .i64))
theorem Nums.shape {w : World} {v : Value} {xs : List Int} (h : Nums w v xs) :
    (v = .slice none 0 0 ∧ xs = []) ∨ ∃ g cap, v = .slice (some ⟨g, 0, none⟩) xs.length cap ∧ xs.length ≤ cap ∧ cap ≤ maxLen ∧ g < w.heap.size ∧ ∀ j (hj : j < xs.length), w.cell? ⟨g, j, none⟩ = some (.int .i64 xs[j]) := by
  obtain ⟨_, h2⟩ := h
  rcases h2 with ⟨rfl, h2⟩ | ⟨g, cap, cur, rfl, _, hh, hn, hm, hs, hx⟩
  · exact Or.inl ⟨rfl, List.eq_nil_of_length_eq_zero h2⟩
  · refine Or.inr ⟨g, cap, rfl, hn, hm, (Array.getElem?_eq_some_iff.1 hh).1, fun j hj => ?_⟩
    have e : cur.toList[j]? = some (.int .i64 xs[j]) := by
      have : (cur.toList.take (xs.length * 1))[j]? = (xs.map (Value.int .i64))[j]? := by rw [hx]
      rw [List.getElem?_take, if_pos (by omega)] at this
      rw [this]
      simp [hj]
    simp only [World.cell?, hh]
    simpa using e
/-- Numbers that lie behind an address. -/
def CelI (w : World) (xs : List Int) (a : Option Addr) : Prop := 0 < xs.length → ∃ b o, a = some ⟨b, o, none⟩ ∧ ∀ j (h : j < xs.length), w.cell? ⟨b, o + j, none⟩ = some (.int .i64 xs[j])
theorem CelI.up {w w' : World} {xs : List Int} {a : Option Addr} (h : CelI w xs a) (hb : Below w.heap.size w w') : CelI w' xs a := fun h0 => by
  obtain ⟨b, o, e, hc⟩ := h h0
  exact ⟨b, o, e, fun j hj => cell_below hb _ _ _ (hc j hj)⟩
theorem Nums.cel {w : World} {v : Value} {xs : List Int} (h : Nums w v xs) : ∃ a cap, v = .slice a xs.length cap ∧ CelI w xs a := by
  rcases h.shape with ⟨rfl, rfl⟩ | ⟨g, cap, rfl, h1, h2, _, hc⟩
  · exact ⟨none, 0, rfl, fun h => by cases h⟩
  · exact ⟨_, cap, rfl, fun _ => ⟨g, 0, rfl, fun j hj => by rw [Nat.zero_add]; exact hc j hj⟩⟩
theorem celI_at {w : World} {g : Nat} {xs : List Int} {t : TypeId} (h : w.heap[g]? = some (.cells (xs.map (Value.int .i64)).toArray t)) : CelI w xs (some ⟨g, 0, none⟩) := fun _ =>
  ⟨g, 0, rfl, fun j hj => by simp [World.cell?, h, hj]⟩

end Go.Proofs.YtaiiicmldogjoaaDoor
