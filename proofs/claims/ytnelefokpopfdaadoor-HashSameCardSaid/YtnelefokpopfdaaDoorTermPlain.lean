/-
  Terms made outright: numbers, atoms, tuples, the empty list; the document's check.
-/
import Derived.Test.YtnelefokpopfdaaDoorTermRef2
import Derived.Test.YtnelefokpopfdaaDoorTermSame
import Derived.Test.YtnelefokpopfdaaDoorTermClone
namespace Go.Proofs.YtnelefokpopfdaaDoor
open Go.RowKit Go.Deep

/-- The return of a term that has just been made. -/
theorem ret_fresh {fn : Func} {R : Ending → World → Prop} {a : Act} {p : Tmp} {w : World} {v0 v1 v2 v3 : Value} {t : TypeId} (h : fn.results = #[.cell p 24]) (hp : a.tmps.getD p undef = .pointer (some ⟨w.heap.size, 0, none⟩)) (hd : a.defers = [])
    (hR : R (.returned (.agg #[v0, v1, v2, v3])) (w.alloc (.cells #[v0, v1, v2, v3] t))) : bodyPost Tryd.prog fn R .ret a (w.alloc (.cells #[v0, v1, v2, v3] t)) :=
  bodyPost_ret (results_term h _ hp (new_cell w _ _ 0) (new_cell w _ _ 1) (new_cell w _ _ 2) (new_cell w _ _ 3)) hd hR

theorem num_any (n : Int) (w : World) : Calls Tryd.prog 15 #[.int .i64 n] w fun e w' => e = .returned (.agg #[.int .i64 1, .int .i64 n, .string ⟨#[]⟩, .slice none 0 0]) ∧ Below w.heap.size w w' := by
  go_enter Tryd.func15, Tryd.ntmps15
  go_wp2
  exact ret_fresh rfl rfl rfl ⟨rfl, (Below.refl _ _).alloc (Nat.le_refl _) _⟩
theorem sym_any (s : ByteArray) (w : World) : Calls Tryd.prog 12 #[.string s] w fun e w' => e = .returned (.agg #[.int .i64 2, .int .i64 0, .string s, .slice none 0 0]) ∧ Below w.heap.size w w' := by
  go_enter Tryd.func12, Tryd.ntmps12
  go_wp2
  exact ret_fresh rfl rfl rfl ⟨rfl, (Below.refl _ _).alloc (Nat.le_refl _) _⟩
theorem none_any  (w : World) : Calls Tryd.prog 16 #[] w fun e w' => e = .returned (.agg #[.int .i64 8, .int .i64 0, .string ⟨#[]⟩, .slice none 0 0]) ∧ Below w.heap.size w w' := by
  go_enter Tryd.func16, Tryd.ntmps16
  go_wp2
  exact ret_fresh rfl rfl rfl ⟨rfl, (Below.refl _ _).alloc (Nat.le_refl _) _⟩
theorem tup_any (a : Option Addr) (len cap : Nat) (w : World) : Calls Tryd.prog 13 #[.slice a len cap] w fun e w' => e = .returned (.agg #[.int .i64 7, .int .i64 0, .string ⟨#[]⟩, .slice a len cap]) ∧ Below w.heap.size w w' := by
  go_enter Tryd.func13, Tryd.ntmps13
  go_wp2
  exact ret_fresh rfl rfl rfl ⟨rfl, (Below.refl _ _).alloc (Nat.le_refl _) _⟩
end Go.Proofs.YtnelefokpopfdaaDoor
