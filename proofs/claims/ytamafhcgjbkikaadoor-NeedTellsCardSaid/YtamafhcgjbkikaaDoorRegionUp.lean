/-
  Regions that draw their order and only read: a variable of four cells.
-/
import Derived.Test.YtamafhcgjbkikaaDoorTermAwake
import Derived.Test.YtamafhcgjbkikaaDoorKitRegion
namespace Go.Proofs.YtamafhcgjbkikaaDoor
open Go.RowKit Go.Deep

/-- Memory has only been added to since W, in which four cells of b hold a term's. -/
theorem Up.four {W w : World} (h : Up W w) {b : Nat} {v0 v1 v2 v3 : Value} {t : TypeId} (hb : W.heap[b]? = some (.cells #[v0, v1, v2, v3] t)) :
    w.cell? ⟨b, 0, none⟩ = some v0 ∧ w.cell? ⟨b, 1, none⟩ = some v1 ∧ w.cell? ⟨b, 2, none⟩ = some v2 ∧ w.cell? ⟨b, 3, none⟩ = some v3 := (kept4 hb h.out).1

end Go.Proofs.YtamafhcgjbkikaaDoor
