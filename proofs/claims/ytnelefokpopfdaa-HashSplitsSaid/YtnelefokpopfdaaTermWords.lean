/-
  How many words a term has: the sum over its parts.
-/
import Derived.Test.YtnelefokpopfdaaTermInto
import Derived.Shelf.RegionOpen
namespace Go.Proofs.Ytnelefokpopfdaa
open Go.RowKit Go.Deep Go.Shelf

attribute [local go_sem] Oper.semAt_some

/-- The words of parts. -/
def sumW : List Sh → Int
  | [] => 0
  | p :: r => ownW p.1 + sumW r
theorem sumW_append (a b : List Sh) : sumW (a ++ b) = sumW a + sumW b := by
  induction a with
  | nil => simp [sumW]
  | cons x a ih => simp only [List.cons_append, sumW, ih]; omega
theorem ownW_range (k : Int) : 1 ≤ ownW k ∧ ownW k ≤ 2 := by unfold ownW; split <;> omega
theorem sumW_range (a : List Sh) : 0 ≤ sumW a ∧ sumW a ≤ 2 * a.length := by
  induction a with
  | nil => simp [sumW]
  | cons x a ih =>
    have := ownW_range x.1
    simp only [sumW, List.length_cons]
    omega
theorem pre_length (T : Tm) : T.pre.length ≤ T.size := by
  induction T using Tm.induct with
  | h k n s l ih =>
    rw [Tm.pre_mk, Tm.size_mk]
    split
    · have : (pres l).length ≤ sizes l := by
        induction l with
        | nil => simp [pres]
        | cons t r ihr =>
          have h1 := ih t (by simp)
          have h2 := ihr (fun t ht => ih t (List.mem_cons_of_mem _ ht))
          simp only [pres, sizes, List.length_append]
          omega
      simp only [List.length_cons]
      omega
    · simp

/-- How many words a term has. -/
def Tm.words (T : Tm) : Int := sumW T.pre

end Go.Proofs.Ytnelefokpopfdaa
