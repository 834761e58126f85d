/-
  Blocks of a set are as they were.
-/
import Derived.Test.YtgfelddgiabeoaaKitOnly
namespace Go.Proofs.Ytgfelddgiabeoaa
open Go.RowKit Go.Deep Go.WideShapes

/-- Blocks of F are as they were. -/
def Kf (F : Nat → Prop) (w w' : World) : Prop := Only (fun k => ¬ F k) w w'
theorem Kf.refl (F : Nat → Prop) (w : World) : Kf F w w := Only.refl _ _
theorem Kf.drew {F : Nat → Prop} {w w' : World} (h : Kf F w w') : Kf F w w'.drew := Only.drew h
theorem Kf.trans {F : Nat → Prop} {w w1 w2 : World} (h : Kf F w w1) (k : Kf F w1 w2) : Kf F w w2 := Only.trans h k (fun _ hi => Or.inl hi)
theorem Kf.up {F : Nat → Prop} {w w' : World} (h : Below w.heap.size w w') : Kf F w w' := Only.up h
theorem Kf.cell {F : Nat → Prop} {w w' : World} (h : Kf F w w') {b o : Nat} {u : Value} (hb : F b) (hc : w.cell? ⟨b, o, none⟩ = some u) : w'.cell? ⟨b, o, none⟩ = some u := Only.cellS h (fun hn => hn hb) hc

/-- The class of worlds of a drawn region, made smaller further on. -/
theorem chain_class {P : Program} {md : Region.Mode} {ops : Array Oper} {Q : Exit → Act → World → Prop} {S S' : World → Prop} (hS : ∀ w, S' w → S w) : ∀ (fuel : Nat) {listed : Array Bool} {a : Act} {w : World}, wpAnyH P md ops Q S' fuel listed a w → wpAnyH P md ops Q S fuel listed a w
  | 0, _, _, _, h => h
  | fuel + 1, _, _, _, h => ⟨h.1, fun i hi => wpOp_mono (fun _ _ h' => ⟨hS _ h'.1, chain_class hS fuel h'.2⟩) (h.2 i hi)⟩

end Go.Proofs.Ytgfelddgiabeoaa
