/-
  Whether two terms are the same, as the program tells it.
-/
import Derived.Test.YtnbekfpkmebmbaaGreatDoorZTermBoth
import Derived.Test.YtnbekfpkmebmbaaGreatDoorZTermSame
import Derived.Test.YtnbekfpkmebmbaaGreatDoorZTermMore
namespace Go.Proofs.YtnbekfpkmebmbaaGreatDoor
open Go.RowKit Go.Deep Go.Shelf

attribute [local go_sem] Oper.semAt_some

theorem load_bool {w : World} {b : Nat} {v : Value} (h : w.cell? ⟨b, 0, none⟩ = some v) : (loadVar 4 ⟨b, 0, none⟩).run Tryz.prog w = .ok v w := by
  have hagg : (isAgg 4).run Tryz.prog w = .ok false w := by
    unfold isAgg
    rw [Sem.run_bind, run_underlying Tryz.underlying4 w]
    simp
  simp [loadVar, Sem.run_bind, hagg, h]
theorem results_bool {w : World} {fn : Func} {p : Tmp} (h : fn.results = #[.cell p 4]) (tmps : Array Value) {b : Nat} (hp : tmps.getD p undef = .pointer (some ⟨b, 0, none⟩)) {v : Value} (c : w.cell? ⟨b, 0, none⟩ = some v) :
    (results fn tmps).run Tryz.prog w = .ok v w := by
  have hp' : tmps[p]?.getD undef = .pointer (some ⟨b, 0, none⟩) := by simpa using hp
  simp [results, h, hp', asAddr, load_bool c]

end Go.Proofs.YtnbekfpkmebmbaaGreatDoor
