/-
  strings.Clone and slices.Clone, as the program's copies call them.
-/
import Derived.Test.YtnelefokpopfdaaDoorTermCheck
import Derived.Test.YtnelefokpopfdaaDoorTermCopy
import Derived.Shelf.Pu.Clone
namespace Go.Proofs.YtnelefokpopfdaaDoor
open Go.RowKit Go.Deep Go.Shelf

/-- A slice in new memory, with these cells. -/
def RowMade (w : World) (n : Nat) (xs : List Value) (e : Ending) (w' : World) : Prop := ∃ sv, e = .returned sv ∧ w'.ownsRow w.heap.size 24 4 sv n xs

end Go.Proofs.YtnelefokpopfdaaDoor
