/-
  Regions that draw their order and only read, their callees adding to memory: one walk in the text's order, in whatever world of a class.
-/
import Derived.Test.YtamafhcgjbkikaaDoorKitBase
import Derived.Deep.Quiet
import Derived.Deep.QuietTactic
namespace Go.Proofs.YtamafhcgjbkikaaDoor
open Go.RowKit Go.Deep

/-- The walk of a region's operations, closed to Lean's reckoning: 'refine' would unfold it, operation by operation. -/
structure WQ (P : Program) (ops : Array Oper) (C : World → Prop) (Q : Act → Prop) (l : List Oper) (a : Act) : Prop where
  out : wpQuiet P ops C Q l a

section
variable {P : Program} {ops : Array Oper} {C : World → Prop} {Q : Act → Prop} {a : Act} {o : Oper} {rest : List Oper} {v : Value}

theorem quiet_nil (h : Q a) : WQ P ops C Q [] a := ⟨h⟩
theorem quiet_not (hw : Region.wanted o (yielded ops a.tmps) = false) (hn : WQ P ops C Q rest (a.put o.dst undef)) : WQ P ops C Q (o :: rest) a := by
  refine ⟨?_⟩
  rw [wpQuiet, if_neg (by rw [hw]; exact Bool.false_ne_true)]
  exact hn.out
theorem quiet_value (hw : Region.wanted o (yielded ops a.tmps) = true) (h : ∀ w, C w → (execOp a.eval o).run P w = .ok (.value v) w) (hn : WQ P ops C Q rest (a.put o.dst v)) : WQ P ops C Q (o :: rest) a := by
  refine ⟨?_⟩
  rw [wpQuiet, if_pos hw]
  refine ⟨v, fun w hC => ?_, hn.out⟩
  unfold Oper.quietAt
  rw [h w hC]
  exact ⟨rfl, rfl⟩
theorem quiet_call {f : FuncId} {args : Array Value} (hw : Region.wanted o (yielded ops a.tmps) = true) (h : ∀ w, (execOp a.eval o).run P w = .ok (.enter f args) w)
    (hc : ∀ w, C w → Calls P f args w fun e w' => e = .returned v ∧ C w') (hn : WQ P ops C Q rest (a.put o.dst v)) : WQ P ops C Q (o :: rest) a := by
  refine ⟨?_⟩
  rw [wpQuiet, if_pos hw]
  refine ⟨v, fun w hC => ?_, hn.out⟩
  unfold Oper.quietAt
  rw [h w]
  exact ⟨rfl, hc w hC⟩
end

/-- A region that only reads, its callees adding to memory. -/
theorem region_up {P : Program} {W : World} {id : Nat} {Q : Exit → Act → World → Prop} {a : Act} {w : World} {l : List Oper} (hm : P.follows .mixedOrders = true) (hB : Region.lexB .any l.toArray = true) (hup : Up W w)
    (h : WQ P l.toArray (Up W) (fun a' => ∀ w', Up W w' → Q .normal a' w') l a) : (Code.region id l.toArray true).wp P Q a w :=
  wp_region_quiet (C := Up W) hm hB hup.drew (by simpa using h.out)

theorem bcell {W w1 : World} (hb : Below W.heap.size W w1) : (∀ b o, b < W.heap.size → w1.cell? ⟨b, o, none⟩ = W.cell? ⟨b, o, none⟩) ∧ (∀ b o, b < W.heap.size → w1.frozen? ⟨b, o, none⟩ = W.frozen? ⟨b, o, none⟩) :=
  ⟨fun b o h => hb.cell (p := ⟨b, o, none⟩) h, fun b o h => hb.frozen (p := ⟨b, o, none⟩) h⟩

theorem Up.set {w W : World} {a : Addr} {v : Value} (h : Up w W) (hb : w.heap.size ≤ a.block) : Up w (W.setCell a v) := h.out.setCell hb v

end Go.Proofs.YtamafhcgjbkikaaDoor
