/-
  Whether two terms are the same, as the program tells it.
-/
import Derived.Test.YteklhipcojioaaaDoorZTermBoth
import Derived.Test.YteklhipcojioaaaDoorZTermSame
import Derived.Test.YteklhipcojioaaaDoorZTermMore
import Derived.StillTailTactics
import Derived.Test.YteklhipcojioaaaDoorZRegionUp
import Derived.Test.YteklhipcojioaaaDoorZFloats
import Derived.Deep.RegionHeld3
import Derived.Deep.DeepCutAuto
namespace Go.Proofs.YteklhipcojioaaaDoor
open Go.RowKit Go.Deep Go.Shelf

attribute [local go_sem] Oper.semAt_some

theorem load_bool {w : World} {b : Nat} {v : Value} (h : w.cell? ⟨b, 0, none⟩ = some v) : (loadVar 4 ⟨b, 0, none⟩).run Tryd.prog w = .ok v w := by
  have hagg : (isAgg 4).run Tryd.prog w = .ok false w := by
    unfold isAgg
    rw [Sem.run_bind, run_underlying Tryd.underlying4 w]
    simp
  simp [loadVar, Sem.run_bind, hagg, h]
theorem results_bool {w : World} {fn : Func} {p : Tmp} (h : fn.results = #[.cell p 4]) (tmps : Array Value) {b : Nat} (hp : tmps.getD p undef = .pointer (some ⟨b, 0, none⟩)) {v : Value} (c : w.cell? ⟨b, 0, none⟩ = some v) :
    (results fn tmps).run Tryd.prog w = .ok v w := by
  have hp' : tmps[p]?.getD undef = .pointer (some ⟨b, 0, none⟩) := by simpa using hp
  simp [results, h, hp', asAddr, load_bool c]

end Go.Proofs.YteklhipcojioaaaDoor

/-
  Whether two terms are the same, by the document.
-/
namespace Go.Proofs.YteklhipcojioaaaDoor
open Go.RowKit Go.Deep

end Go.Proofs.YteklhipcojioaaaDoor

/-
  TermChecks: what the statement says, of every input.
-/
namespace Go.Proofs.YteklhipcojioaaaDoor
open Go.RowKit Go.Deep

theorem Own.is {w : World} {T : Tm} {lo hi : Nat} {v : Value} (h : Own w T lo hi v) : Is w T v := (Own.lies T lo hi v h).is

/-- A pointer to a variable that holds a term. -/
def Var (w : World) (T : Tm) (lo : Nat) (p : Value) : Prop := ∃ b k n s sl, p = .pointer (some ⟨b, 0, none⟩) ∧ lo ≤ b ∧ w.heap[b]? = some (.cells #[.int .i64 k, .int .i64 n, .string s, sl] 24) ∧ Is w T (.agg #[.int .i64 k, .int .i64 n, .string s, sl])

end Go.Proofs.YteklhipcojioaaaDoor
