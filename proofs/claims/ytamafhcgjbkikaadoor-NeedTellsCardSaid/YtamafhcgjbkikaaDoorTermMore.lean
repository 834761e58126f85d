/-
  Copies of terms, how long a list is, and its items.
-/
import Derived.Test.YtamafhcgjbkikaaDoorTermDetachWalk
import Derived.Laws.EntriesVeiled
namespace Go.Proofs.YtamafhcgjbkikaaDoor
open Go.RowKit Go.Deep

/-- What lies, lies in blocks that there are. -/
theorem Lies.inside {w : World} {S : Nat → Prop} (T : Tm) : ∀ v, Lies w S T v → Lies w (fun b => S b ∧ b < w.heap.size) T v := by
  induction T using Tm.induct with
  | h k n s l ih =>
    intro v h
    obtain ⟨a, cap, rfl, h1, h2, h3, h4⟩ := h.out
    refine Lies.mk h1 ⟨h2, h3, ?_⟩
    rcases h4 with h4 | ⟨p, rfl, hs, hr⟩
    · exact Or.inl h4
    · refine Or.inr ⟨p, rfl, fun hn => ⟨⟨(hs hn).1, ?_⟩, (hs hn).2⟩, Row.of fun i hi => ?_⟩
      · obtain ⟨v0, v1, v2, v3, c0, _⟩ := hr.at 0 (List.length_pos_iff.2 hn)
        exact World.block_lt_of_cell? w ⟨p.block, p.off + 0 * 4, none⟩ c0
      · obtain ⟨v0, v1, v2, v3, c0, c1, c2, c3, hl⟩ := hr.at i hi
        exact ⟨v0, v1, v2, v3, c0, c1, c2, c3, ih _ (List.getElem_mem hi) _ hl⟩

/-- A term has been made, all its rows new. -/
def MadeC (w : World) (T : Tm) (e : Ending) (w' : World) : Prop := ∃ v, e = .returned v ∧ Lies w' (fun b => w.heap.size ≤ b) T v
/-- .. each part in memory of its own. -/
def MadeO (w : World) (T : Tm) (e : Ending) (w' : World) : Prop := ∃ v, e = .returned v ∧ Own w' T w.heap.size w'.heap.size v

theorem Done.below {w w' : World} {pb po B : Nat} {T : Tm} (h : Done w pb po T w') (hB : B ≤ pb) (hw : B ≤ w.heap.size) : Below B w w' := ⟨h.os, h.tape, h.output, h.size, fun k hk => h.other k (by omega) (by omega)⟩

end Go.Proofs.YtamafhcgjbkikaaDoor
