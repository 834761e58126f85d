/-
  TermChecks: what the statement says, of every input.
-/
import Derived.Test.YteklhipcojioaaaDoorZTermSameP
import Derived.Test.YteklhipcojioaaaDoorZTermRefSame
import Derived.Test.YteklhipcojioaaaDoorZRegionUp
import Derived.Test.YteklhipcojioaaaDoorZFloats
import Derived.Deep.RegionHeld3
import Derived.Deep.DeepCutAuto
namespace Go.Proofs.YteklhipcojioaaaDoor
open Go.RowKit Go.Deep

theorem Own.is {w : World} {T : Tm} {lo hi : Nat} {v : Value} (h : Own w T lo hi v) : Is w T v := (Own.lies T lo hi v h).is

/-- A pointer to a variable that holds a term. -/
def Var (w : World) (T : Tm) (lo : Nat) (p : Value) : Prop := ∃ b k n s sl, p = .pointer (some ⟨b, 0, none⟩) ∧ lo ≤ b ∧ w.heap[b]? = some (.cells #[.int .i64 k, .int .i64 n, .string s, sl] 24) ∧ Is w T (.agg #[.int .i64 k, .int .i64 n, .string s, sl])

end Go.Proofs.YteklhipcojioaaaDoor
