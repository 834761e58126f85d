/-
  strings.Clone and slices.Clone, as the program's copies call them.
-/
import Derived.Test.YtnelefokpopfdaaTermCheck
import Derived.Test.YtnelefokpopfdaaTermCopy
import Derived.Shelf.Pu.Clone
namespace Go.Proofs.Ytnelefokpopfdaa
open Go.RowKit Go.Deep Go.Shelf

/-- A slice in new memory, with these cells. -/
def RowMade (w : World) (n : Nat) (xs : List Value) (e : Ending) (w' : World) : Prop := ∃ sv, e = .returned sv ∧ w'.ownsRow w.heap.size 35 4 sv n xs

end Go.Proofs.Ytnelefokpopfdaa
