/-
  Whether two terms are the same, by the document.
-/
import Derived.Test.YteklhipcojioaaaDoorZTermSame
import Derived.StillTailTactics
namespace Go.Proofs.YteklhipcojioaaaDoor
open Go.RowKit Go.Deep

end Go.Proofs.YteklhipcojioaaaDoor
