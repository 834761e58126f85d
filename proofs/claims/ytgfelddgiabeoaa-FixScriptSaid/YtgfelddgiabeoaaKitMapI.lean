/-
  Maps whose keys are numbers.
-/
import Derived.Test.YtgfelddgiabeoaaKitOnly
import Derived.Maps.OwnOps
import Derived.Lib.SlKeysI
namespace Go.Proofs.Ytgfelddgiabeoaa
open Go.RowKit Go.Deep Go.Maps Go.WideShapes

/-- A number as a map's key. -/
def keyI (k : Int) : Lit := .int .i64 k
theorem keyI_inj {a b : Int} (h : keyI a = keyI b) : a = b := by simpa [keyI] using h
theorem keyI_lit (k : Int) : Go.WideAt.IsKeyLit (keyI k) := by simp [keyI, Go.WideAt.IsKeyLit]
/-- A number of the range of int. -/
def In64 (n : Int) : Prop := -9223372036854775808 ≤ n ∧ n ≤ 9223372036854775807
theorem key_int {n : Int} (h : In64 n) : keyOf Try.prog 3 (.int .i64 n) = some (keyI n) := keyOf_int_mk Try.underlying3 (WalkArith.wf_i64 h)
theorem keyedI : Keyed Try.prog 3 := int_keyed Try.underlying3
/-- A map of as many entries as it has. -/
theorem ownsMap_tight {H : Type} {w : World} {k : TypeId} {R : Value → Option (DataW H × List MemPlace)} {b n : Nat} {D : DataW H} (h : w.ownsMap Try.prog k R b n D) : w.ownsMap Try.prog k R b (Maps.size D) D := by
  obtain ⟨es, clock, hb, F, _, rfl⟩ := h
  exact ⟨es, clock, hb, F, by simp [Maps.size, Go.length_sorted], rfl⟩

end Go.Proofs.Ytgfelddgiabeoaa
