/-
  TermChecks: what the statement says, of every input.
-/
import Derived.Test.YtnnoclddemackaaGreatDoorZTermSameP
import Derived.Test.YtnnoclddemackaaGreatDoorZTermSame
import Derived.Test.YtnnoclddemackaaGreatDoorZRegionUp
import Derived.Test.YtnnoclddemackaaGreatDoorZFloats
import Derived.Deep.RegionHeld3
import Derived.Deep.DeepCutAuto
namespace Go.Proofs.YtnnoclddemackaaGreatDoor
open Go.RowKit Go.Deep

theorem Own.is {w : World} {T : Tm} {lo hi : Nat} {v : Value} (h : Own w T lo hi v) : Is w T v := (Own.lies T lo hi v h).is

theorem sameSelf (T : Tm) (hsz : T.size ≤ 1000000) (S S' : Nat → Prop) (v u : Value) (w : World) (hv : Lies w S T v) (hu : Lies w S' T u) :
    Calls Tryz.prog 22 #[v, u] w fun e w' => e = .returned (.bool true) ∧ Below w.heap.size w w' := by
  have h := sameP_any T T hsz S S' v u w hv hu
  rwa [eqB_refl] at h

/-- A pointer to a variable that holds a term. -/
def Var (w : World) (T : Tm) (lo : Nat) (p : Value) : Prop := ∃ b k n s sl, p = .pointer (some ⟨b, 0, none⟩) ∧ lo ≤ b ∧ w.heap[b]? = some (.cells #[.int .i64 k, .int .i64 n, .string s, sl] 24) ∧ Is w T (.agg #[.int .i64 k, .int .i64 n, .string s, sl])

end Go.Proofs.YtnnoclddemackaaGreatDoor
