/-
  Which terms may be, as the program tells it: each part fits, and they have no more words than may be.
-/
import Derived.Test.YtnelefokpopfdaaTermWords
import Derived.Scope
namespace Go.Proofs.Ytnelefokpopfdaa
open Go.RowKit Go.Deep Go.Shelf

attribute [local go_sem] Oper.semAt_some

/-- Does a part fit? -/
def fitP (p : Sh) : Bool := fitB p.1 p.2.1 p.2.2.1.size p.2.2.2
def fitAll (l : List Sh) : Bool := l.all fitP
theorem fitAll_append (a b : List Sh) : fitAll (a ++ b) = (fitAll a && fitAll b) := by simp [fitAll]
/-- The length's word. -/
def longE (q : Int) : Int := if 65536 < q then 3 else 0
/-- What Check tells. -/
def Tm.check (T : Tm) : Int := if fitAll T.pre = true then longE T.words else 2
theorem longE_no {q : Int} (h : ¬ 65536 < q) : longE q = 0 := if_neg h
theorem longE_yes {q : Int} (h : 65536 < q) : longE q = 3 := if_pos h
theorem fitAll_prefix {a b : List Sh} (h : a <+: b) (ha : fitAll a = false) : fitAll b = false := by
  obtain ⟨c, rfl⟩ := h
  rw [fitAll_append, ha]
  rfl

/-- Three boxes more. -/
theorem new_block3 (w : World) (o o' o'' : Obj) : (((w.alloc o).alloc o').alloc o'').heap[w.heap.size + 2]? = some o'' := by
  have := heap_alloc_new ((w.alloc o).alloc o') o''
  rwa [World.size_alloc, World.size_alloc] at this
theorem old_block {w : World} {k : Nat} {o : Obj} (h : w.heap[k]? = some o) (o' : Obj) : (w.alloc o').heap[k]? = some o :=
  (Below.heap_alloc _ _ _ (Array.getElem?_eq_some_iff.1 h).1).trans h

end Go.Proofs.Ytnelefokpopfdaa
