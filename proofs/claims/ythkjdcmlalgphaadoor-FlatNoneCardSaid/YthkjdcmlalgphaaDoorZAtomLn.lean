/-
  AtomNone returns true: tables that nobody made.
-/
import Derived.Test.YthkjdcmlalgphaaDoorZAtomN
namespace Go.Proofs.YthkjdcmlalgphaaDoor
open Go.RowKit Go.Deep Go.Maps Go.WideShapes Go.WideMaps

theorem cell_is {w : World} {b j : Nat} {c : Array Value} {t : TypeId} {v : Value} (h : w.heap[b]? = some (.cells c t)) (hj : c[j]? = some v) : w.cell? ⟨b, j, none⟩ = some v := by simp [World.cell?, h, hj]
/-- No table, or one that nobody made. -/
def NoTab (w : World) (v : Value) : Prop := v = .pointer none ∨ ∃ p, v = .pointer (some ⟨p, 0, none⟩) ∧ w.cell? ⟨p, 0, none⟩ = some (.pointer none)
theorem made_not {v : Value} {w : World} (h : NoTab w v) : Calls Tryd.prog 56 #[v] w fun e w' => e = .returned (.bool false) ∧ w = w' := by
  rcases h with rfl | ⟨p, rfl, hc⟩
  · exact made_nil w
  · exact made_zero p w hc
theorem intern_not {v : Value} {w : World} (s : ByteArray) (h : NoTab w v) : Calls Tryd.prog 35 #[v, .string s] w fun e w' => e = .returned (.tuple #[.int .i64 0, .int .i64 1]) ∧ w = w' := by
  have H := Hid.mk h
  clear h
  go_enter Tryd.func35, Tryd.ntmps35
  go_wp2_with (first | (go_at_call 56; refine (made_not H.out).mono ?_; rintro e w1 ⟨rfl, rfl⟩))
  go_ret2
  exact ⟨rfl, rfl⟩
theorem name_not {v : Value} {w : World} (n : Int) (h : NoTab w v) : Calls Tryd.prog 61 #[v, .int .i64 n] w fun e w' => e = .returned (.tuple #[.string ⟨#[]⟩, .int .i64 1]) ∧ w = w' := by
  have H := Hid.mk h
  clear h
  go_enter Tryd.func61, Tryd.ntmps61
  go_wp2_with (first | (go_at_call 56; refine (made_not H.out).mono ?_; rintro e w1 ⟨rfl, rfl⟩))
  go_ret2
  exact ⟨rfl, rfl⟩
theorem all_not {v : Value} {w : World} (h : NoTab w v) : Calls Tryd.prog 47 #[v] w fun e w' => e = .returned (.slice none 0 0) ∧ w = w' := by
  have H := Hid.mk h
  clear h
  go_enter Tryd.func47, Tryd.ntmps47
  go_wp2_with (first | (go_at_call 56; refine (made_not H.out).mono ?_; rintro e w1 ⟨rfl, rfl⟩))
  go_ret
  exact ⟨rfl, rfl⟩

end Go.Proofs.YthkjdcmlalgphaaDoor
