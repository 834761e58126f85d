/-
  The parts of a term, one behind the other, each ahead of its own parts: what the iterator over them hands to a loop's body.
-/
import Derived.Test.YtnelefokpopfdaaTermShape
import Derived.Test.YtnelefokpopfdaaRangeCells
import Derived.Sort.LoopGhostIn
namespace Go.Proofs.Ytnelefokpopfdaa
open Go.RowKit Go.Deep

attribute [local go_sem] Oper.semAt_some

theorem round_wide {m m' : Nat} {P : Program} {l : Nat} {f : FuncId} {tmps : Array Value} {assign body : Code} {w : World} {R : Ending → World → Prop}
    (h : RoundIn Fence.wide m P l f tmps assign body w R) : RoundIn Fence.wide m' P l f tmps assign body w R := ⟨h.1, fun c cs _ => h.2 c cs (fun d hd => by cases hd)⟩
theorem yield_wide {m : Nat} (m' : Nat) {P : Program} {l : Nat} {args : Array Value} {W : World} {R : Ending → World → Prop} (h : YieldAt Fence.wide m P l args W R) : YieldAt Fence.wide m' P l args W R := by
  obtain ⟨fn, tmps, assign, body, hy, hR⟩ := h
  exact ⟨fn, tmps, assign, body, hy, round_wide hR⟩

/-- A part, as a body is handed it. -/
structure PV where
  k : Int
  n : Int
  s : ByteArray
  a : Option Addr
  len : Nat
  cap : Nat
  ok : Small k n s
  fit : len ≤ 9223372036854775807

/-- What of a part is looked at. -/
abbrev Sh := Int × Int × ByteArray × Nat
def PV.sh (p : PV) : Sh := (p.k, p.n, p.s, p.len)

mutual
/-- A term, and all that is inside, each part ahead of its own. -/
def Tm.pre : Tm → List Sh
  | .mk k n s l => (k, n, s, l.length) :: (if hasL k = true then pres l else [])
def pres : List Tm → List Sh
  | [] => []
  | t :: r => t.pre ++ pres r
end
theorem Tm.pre_mk (k n : Int) (s : ByteArray) (l : List Tm) : (Tm.mk k n s l).pre = (k, n, s, l.length) :: (if hasL k = true then pres l else []) := by rw [Tm.pre]
theorem pres_take (l : List Tm) (i : Nat) (hi : i < l.length) : pres (l.take (i + 1)) = pres (l.take i) ++ l[i].pre := by
  induction l generalizing i with
  | nil => cases hi
  | cons t r ih =>
    cases i with
    | zero => simp [pres]
    | succ i =>
      have := ih i (by simpa using hi)
      simp only [List.take_succ_cons, pres, List.getElem_cons_succ, this, List.append_assoc]
theorem pres_prefix (l : List Tm) (i : Nat) : pres (l.take i) <+: pres l := by
  induction l generalizing i with
  | nil => simp
  | cons t r ih =>
    cases i with
    | zero => simp [pres]
    | succ i =>
      simp only [List.take_succ_cons, pres]
      exact List.prefix_append_right_inj _ |>.2 (ih i)

theorem Spares.step {n₀ B : Nat} {W X Y : World} (h : Spares n₀ B W X) (hb : Below W.heap.size X Y) (hn : n₀ ≤ W.heap.size) : Spares n₀ B W Y :=
  ⟨h.low.trans (hb.mono hn), fun k hB hk => (hb.block k hk).trans (h.same k hB hk)⟩

section
variable {S : Nat → Prop} {n₀ B : Nat}
theorem Lies.spared {W W' : World} {T : Tm} {v : Value} (h : Lies W S T v) (hS : ∀ b, S b → b < n₀) (hb : Below n₀ W W') : Lies W' S T v :=
  h.move (fun _ h => h) (fun b o v hs hc => by rw [hb.cell (p := ⟨b, o, none⟩) (hS b hs)]; exact hc) _ _
end

theorem Row.spared {S : Nat → Prop} {n₀ : Nat} {W X Y : World} {l : List Tm} {b o : Nat} (h : Row X S l b o) (hb : S b) (hS : ∀ b, S b → b < n₀) (hx : Below n₀ W X) (hy : Below n₀ W Y) : Row Y S l b o :=
  h.move (fun _ h => h) (fun b o v hs hc => by
    rw [hy.cell (p := ⟨b, o, none⟩) (hS b hs), ← hx.cell (p := ⟨b, o, none⟩) (hS b hs)]
    exact hc) (fun _ => hb)

end Go.Proofs.Ytnelefokpopfdaa
