/-
  Rows of kinds: a call's own ones, zeros appended, one put at a place.
-/
import Derived.Test.YtaiiicmldogjoaaDoorZFlatRow
namespace Go.Proofs.YtaiiicmldogjoaaDoor
open Go.RowKit Go.Deep Go.Maps Go.WideShapes Go.ChangeShapes

/-- A row of kinds of the call's own. -/
abbrev Kds (w : World) (v : Value) (xs : List Int) : Prop := w.ownsRow 0 5 1 v xs.length (xs.map (.int .u8))
theorem Kds.shape {w : World} {v : Value} {xs : List Int} (h : Kds w v xs) :
    (v = .slice none 0 0 ∧ xs = []) ∨ ∃ g cap, v = .slice (some ⟨g, 0, none⟩) xs.length cap ∧ xs.length ≤ cap ∧ cap ≤ maxLen ∧ g < w.heap.size ∧ ∀ j (hj : j < xs.length), w.cell? ⟨g, j, none⟩ = some (.int .u8 xs[j]) := by
  obtain ⟨_, h2⟩ := h
  rcases h2 with ⟨rfl, h2⟩ | ⟨g, cap, cur, rfl, _, hh, hn, hm, hs, hx⟩
  · exact Or.inl ⟨rfl, List.eq_nil_of_length_eq_zero h2⟩
  · refine Or.inr ⟨g, cap, rfl, hn, hm, (Array.getElem?_eq_some_iff.1 hh).1, fun j hj => ?_⟩
    have e : cur.toList[j]? = some (.int .u8 xs[j]) := by
      have : (cur.toList.take (xs.length * 1))[j]? = (xs.map (Value.int .u8))[j]? := by rw [hx]
      rw [List.getElem?_take, if_pos (by omega)] at this
      rw [this]
      simp [hj]
    simp only [World.cell?, hh]
    simpa using e
theorem Kds.block_lt {w : World} {v : Value} {xs : List Int} (h : Kds w v xs) {g : Nat} (hg : v.ownBlock = some g) : g < w.heap.size := by
  rcases h.2 with ⟨rfl, _⟩ | ⟨b, cap, cur, rfl, _, hb, _⟩
  · cases hg
  · cases hg
    exact (Array.getElem?_eq_some_iff.1 hb).1
theorem Kds.kept {S : Nat → Prop} {w w' : World} {v : Value} {xs : List Int} (h : Kds w v xs) (ho : Only S w w') (hS : ∀ g, v.ownBlock = some g → ¬ S g) : Kds w' v xs := by
  obtain ⟨h1, h2⟩ := h
  refine ⟨h1, ?_⟩
  rcases h2 with h2 | ⟨b, cap, cur, rfl, hb, hh, hr⟩
  · exact Or.inl h2
  · exact Or.inr ⟨b, cap, cur, rfl, hb, ho.box hh (hS b rfl), hr⟩
theorem Kds.up {w w' : World} {v : Value} {xs : List Int} (h : Kds w v xs) (hb : Below w.heap.size w w') : Kds w' v xs := h.kept (S := fun _ => False) (Only.up hb) (fun _ _ f => f)
/-- A kind put at a place. -/
theorem Kds.set {w : World} {g n cap : Nat} {xs : List Int} (h : Kds w (.slice (some ⟨g, 0, none⟩) n cap) xs) (i : Nat) (x : Int) : Kds (w.setCell ⟨g, i, none⟩ (.int .u8 x)) (.slice (some ⟨g, 0, none⟩) n cap) (xs.set i x) := by
  obtain ⟨h1, h2⟩ := h
  refine ⟨by simp, ?_⟩
  rcases h2 with ⟨h2, _⟩ | ⟨b, cap', cur, hv, hb, hh, hn, hm, hs, hx⟩
  · cases h2
  · cases hv
    refine Or.inr ⟨g, cap, cur.setIfInBounds i (.int .u8 x), by simp, hb, ?_, by simpa using hn, hm, by simpa using hs, ?_⟩
    · simp [World.setCell, Array.getElem?_modify, hh]
    · rw [Array.toList_setIfInBounds, List.length_set, List.map_set, ← hx, List.take_set]
theorem Kds.frozen {w : World} {g n cap : Nat} {xs : List Int} (h : Kds w (.slice (some ⟨g, 0, none⟩) n cap) xs) (i : Nat) : w.frozen? ⟨g, i, none⟩ = false := by
  rcases h.2 with ⟨h2, _⟩ | ⟨b, cap', cur, hv, hb, hh, hn, hm, hs, hx⟩
  · cases h2
  · cases hv
    simp [World.frozen?, hh]
theorem kindInfo : (Tryd.prog.info? 5).map (fun i => (i.zero, i.size, i.bytes)) = some (some (.int .u8 0), 1, 1) := by kernel_rfl
theorem zero_kinds (m : Nat) : (Builtin.zeroCells (Value.int .u8 0).cells m).toList = (List.replicate m (0 : Int)).map (.int .u8) := by
  apply List.ext_getElem?
  intro j
  by_cases hj : j < m
  · simp [Builtin.zeroCells, Value.cells, hj, Nat.mod_one]
  · simp [Builtin.zeroCells, Value.cells, hj]
/-- Zeros appended to a row of kinds. -/
theorem append_kzeros (w : World) (ty : TypeId) (v : Value) (xs : List Int) (h : Kds w v xs) (m : Nat) (hm : xs.length + m ≤ 1000000) :
    ∃ v' w', (Builtin.append_ #[26, 3] ty #[v, .int .i64 m]).run Tryd.prog w = .ok v' w' ∧ Kds w' v' (xs ++ List.replicate m 0) ∧ w.grownBy w' v.ownBlock ∧ (v'.ownBlock = v.ownBlock ∨ v'.ownBlock = some w.heap.size) := by
  have hi := kindInfo
  cases hq : Tryd.prog.info? 5 with
  | none => rw [hq] at hi; cases hi
  | some i =>
    rw [hq] at hi
    simp only [Option.map_some, Option.some.injEq, Prod.mk.injEq] at hi
    obtain ⟨hz, hs, hb⟩ := hi
    obtain ⟨v', w', hr, ho, hg, ha⟩ := run_append_own_zeros w 0 26 3 ty 5 i _ .i64 .i64 1 1 Tryd.underlying26 Tryd.underlying3 hq hz hs hb rfl (by decide) v xs.length _ h m _ (zero_kinds m)
      (fun u hu => by obtain ⟨x, _, rfl⟩ := List.mem_map.1 hu; rfl) (by unfold maxLen; omega) (by omega) (Nat.zero_le _)
    refine ⟨v', w', hr, ?_, hg, ha⟩
    unfold Kds
    rw [List.length_append, List.length_replicate, List.map_append]
    exact ho
end Go.Proofs.YtaiiicmldogjoaaDoor
