/-
  strings.Clone and slices.Clone, as the program's copies call them.
-/
import Derived.Test.YtamafhcgjbkikaaDoorTermCheck
import Derived.Test.YtamafhcgjbkikaaDoorTermCopy
import Derived.Shelf.Pu.Clone
namespace Go.Proofs.YtamafhcgjbkikaaDoor
open Go.RowKit Go.Deep Go.Shelf

/-- A slice in new memory, with these cells. -/
def RowMade (w : World) (n : Nat) (xs : List Value) (e : Ending) (w' : World) : Prop := ∃ sv, e = .returned sv ∧ w'.ownsRow w.heap.size 24 4 sv n xs

end Go.Proofs.YtamafhcgjbkikaaDoor
