/-
  Small facts that every layer uses: a cell that stays, a new block, memory that is only added to.
-/
import Derived.Test.YtamafhcgjbkikaaDoorRows
import Derived.WalkKit
import Derived.WalkSpells
import Derived.WalkLawsBesides
import Derived.OpenShut
import Derived.Deep.Slices
import Derived.Lib.Hide
namespace Go.Proofs.YtamafhcgjbkikaaDoor
open Go.RowKit Go.Deep

section
variable {w w' : World}
theorem _root_.Go.RowKit.Hid.mk {p : Prop} (h : p) : Hid p := h

theorem cell_below (hb : Below w.heap.size w w') (b o : Nat) (v : Value) (h : w.cell? ⟨b, o, none⟩ = some v) : w'.cell? ⟨b, o, none⟩ = some v := by
  rw [hb.cell (p := ⟨b, o, none⟩) (World.block_lt_of_cell? w ⟨b, o, none⟩ h)]
  exact h

/-- A cell of a new block. -/
theorem new_cell (w : World) (c : Array Value) (t : TypeId) (j : Nat) : (w.alloc (.cells c t)).cell? ⟨w.heap.size, j, none⟩ = c[j]? := by
  show (match (w.heap.push (Obj.cells c t))[w.heap.size]? with | some (.cells c _ _) => if (none : Option Nat).isSome then none else c[j]? | _ => none) = _
  simp

theorem new_block (w : World) (o : Obj) : (w.alloc o).heap[w.heap.size]? = some o := heap_alloc_new w o

theorem new_block1 (w : World) (o o' : Obj) : ((w.alloc o).alloc o').heap[w.heap.size]? = some o := (Below.heap_alloc _ _ _ (by simp)).trans (heap_alloc_new w o)

theorem new_block2 (w : World) (o o' : Obj) : ((w.alloc o).alloc o').heap[w.heap.size + 1]? = some o' := by
  have := heap_alloc_new (w.alloc o) o'
  rwa [World.size_alloc] at this

theorem size_setCell' (w : World) (a : Addr) (v : Value) : (w.setCell a v).heap.size = w.heap.size := by simp [World.setCell]

theorem wrap_id {x : Int} (h0 : -9223372036854775808 ≤ x) (h1 : x ≤ 9223372036854775807) : IntKind.i64.wrap x = x := by
  rw [IntKind.wrap_i64]
  omega

theorem ret_int {a b : Int} (h : a = b) : Ending.returned (.int .i64 a) = .returned (.int .i64 b) := by rw [h]

theorem ret_bool {a b : Bool} (h : a = b) : Ending.returned (.bool a) = .returned (.bool b) := by rw [h]

theorem ret_val {a b : Value} (h : a = b) : Ending.returned a = .returned b := by rw [h]

/-- Memory has only been added to. -/
def Up (w w' : World) : Prop := Below w.heap.size w w'

theorem Up.refl (w : World) : Up w w := Below.refl _ _

theorem Up.out {w w' : World} (h : Up w w') : Below w.heap.size w w' := h

theorem Up.call {w W w' : World} (h : Up w W) (hb : Below W.heap.size W w') : Up w w' := h.out.trans (hb.mono h.out.size)

theorem Up.alloc {w W : World} {o : Obj} (h : Up w W) : Up w (W.alloc o) := Below.alloc h h.out.size _

theorem Up.drew {w W : World} (h : Up w W) : Up w W.drew := Below.drew h
end

end Go.Proofs.YtamafhcgjbkikaaDoor
