/-
  Whether two terms are the same, field by field.
-/
import Derived.Test.YtnelefokpopfdaaDoorTermReads
import Derived.Deep.RegionWith
namespace Go.Proofs.YtnelefokpopfdaaDoor
open Go.RowKit Go.Deep

theorem bytes_toList {a b : ByteArray} (h : a.toList = b.toList) : a = b := by
  rw [ByteArray.toList_eq, ByteArray.toList_eq] at h
  exact WideShapes.bytes_inj h

/-- Are two terms the same? -/
noncomputable def eqB (a b : Tm) : Bool := @decide (a = b) (Classical.propDecidable _)
noncomputable def eqL (a b : List Tm) : Bool := @decide (a = b) (Classical.propDecidable _)
theorem eqB_iff {a b : Tm} : eqB a b = true ↔ a = b := @decide_eq_true_iff _ (Classical.propDecidable _)
theorem eqL_iff {a b : List Tm} : eqL a b = true ↔ a = b := @decide_eq_true_iff _ (Classical.propDecidable _)
theorem eqB_refl (a : Tm) : eqB a a = true := eqB_iff.2 rfl
theorem eqL_refl (a : List Tm) : eqL a a = true := eqL_iff.2 rfl
theorem eqB_no {a b : Tm} (h : a ≠ b) : eqB a b = false := by
  cases he : eqB a b
  · rfl
  · exact absurd (eqB_iff.1 he) h
theorem eqL_no {a b : List Tm} (h : a ≠ b) : eqL a b = false := by
  cases he : eqL a b
  · rfl
  · exact absurd (eqL_iff.1 he) h

end Go.Proofs.YtnelefokpopfdaaDoor
