/-
  The table of shapes, and what the functions that read it come to.
-/
import Derived.Test.YtnelefokpopfdaaTermReads
namespace Go.Proofs.Ytnelefokpopfdaa
open Go.RowKit Go.Deep

/-- The table of shapes: least and most of N, bytes of S, fewest and most of L, words. -/
def shp (k j : Nat) : Int :=
  match j with
  | 0 => if k = 1 then -576460752303423488 else 0
  | 1 => if k = 1 then 576460752303423487 else if k = 3 ∨ k = 4 ∨ k = 5 ∨ k = 6 then 1073741824 else 0
  | 2 => if k = 2 then 64 else 0
  | 3 => if k = 9 then 2 else 0
  | 4 => if k = 5 ∨ k = 7 then 64 else if k = 9 then 2 else 0
  | _ => if k = 5 ∨ k = 7 then 2 else if k = 0 then 0 else 1

/-- Is there such a kind? -/
def knownK (k : Int) : Bool := decide (0 < k ∧ k < 10)
/-- Its words, without those of the parts; does it have parts? -/
def ownW (k : Int) : Int := if k = 5 ∨ k = 7 then 2 else 1
def hasL (k : Int) : Bool := decide (k = 5 ∨ k = 7 ∨ k = 9)
/-- May a term be, but for its parts? -/
def fitB (k n : Int) (s len : Nat) : Bool :=
  decide ((k = 1 ∧ -576460752303423488 ≤ n ∧ n ≤ 576460752303423487 ∧ s = 0 ∧ len = 0) ∨ (k = 2 ∧ n = 0 ∧ s ≤ 64 ∧ len = 0) ∨ ((k = 3 ∨ k = 4 ∨ k = 6) ∧ 0 ≤ n ∧ n ≤ 1073741824 ∧ s = 0 ∧ len = 0) ∨
    (k = 5 ∧ 0 ≤ n ∧ n ≤ 1073741824 ∧ s = 0 ∧ len ≤ 64) ∨ (k = 7 ∧ n = 0 ∧ s = 0 ∧ len ≤ 64) ∨ (k = 8 ∧ n = 0 ∧ s = 0 ∧ len = 0) ∨ (k = 9 ∧ n = 0 ∧ s = 0 ∧ len = 2))

theorem known_is (k : Int) : knownK k = true ↔ 0 < k ∧ k < 10 := by simp [knownK]
theorem known_not (k : Int) : knownK k = false ↔ ¬ (0 < k ∧ k < 10) := by simp [knownK]

theorem hasL_is (k : Int) : hasL k = true ↔ k = 5 ∨ k = 7 ∨ k = 9 := by simp [hasL]
theorem hasL_not (k : Int) : hasL k = false ↔ ¬ (k = 5 ∨ k = 7 ∨ k = 9) := by simp [hasL]

/-- The parts that count. -/
def insV (k : Int) (a : Option Addr) (len cap : Nat) : Value := if hasL k = true then .slice a len cap else .slice none 0 0
theorem insV_yes {k : Int} (h : hasL k = true) (a : Option Addr) (len cap : Nat) : insV k a len cap = .slice a len cap := by rw [insV, if_pos h]
theorem insV_no {k : Int} (h : hasL k = false) (a : Option Addr) (len cap : Nat) : insV k a len cap = .slice none 0 0 := by rw [insV, h]; rfl
theorem ret_val {a b : Value} (h : a = b) : Ending.returned a = .returned b := by rw [h]

end Go.Proofs.Ytnelefokpopfdaa
