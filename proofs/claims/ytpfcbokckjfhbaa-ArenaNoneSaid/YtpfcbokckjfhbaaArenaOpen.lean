/-
  The calls of a script, and the steps of an arena's life, as they come in.
-/
import Derived.Test.YtpfcbokckjfhbaaArenaB
import Derived.Test.YtpfcbokckjfhbaaKitOpen
import Derived.Deep.Strs
namespace Go.Proofs.Ytpfcbokckjfhbaa
open Go.RowKit Go.Deep Go.ChangeShapes Go.WideShapes

/-- A call of a script. -/
structure Ac where
  k : Int
  n : Int
  l : List Int
/-- .. in memory. -/
def AcOk (w : World) (A : Ac) (us : List Value) : Prop := ∃ la lcap, us = [.int .i64 A.k, .int .i64 A.n, .slice la A.l.length lcap] ∧ Wrd w A.l la lcap ∧ (la = none → lcap = 0) ∧ In64 A.k ∧ In64 A.n
/-- A step of an arena's life. -/
structure Sp where
  k : Int
  i : Int
  s : Int
def SpOk (A : Sp) (us : List Value) : Prop := us = [.int .i64 A.k, .int .i64 A.i, .int .i64 A.s] ∧ In64 A.k ∧ In64 A.i ∧ In64 A.s

theorem list_three {α : Type} {l : List α} (h : l.length = 3) : ∃ a b c, l = [a, b, c] := by
  match l, h with
  | [a, b, c], _ => exact ⟨a, b, c, rfl⟩
theorem cells_act : Try.prog.cellsOf 33 = 3 := by kernel_rfl
theorem cells_step : Try.prog.cellsOf 59 = 3 := by kernel_rfl
theorem cells_int1 : Try.prog.cellsOf 3 = 1 := by kernel_rfl
theorem cells_words1 : Try.prog.cellsOf 31 = 1 := by kernel_rfl
section
variable {H : Type} {enc : TypeId × Value → H} {w : World} {base : Nat} {spare : Nat → Bool} {held : Bool}
theorem trod_act (fuel : Nat) (cs : List Value) (x : DataW H × List MemPlace) (h : DataW.trod enc Try.prog w base spare held fuel 33 cs = some x) : ∃ A, cs.length = 3 ∧ AcOk w A cs := by
  obtain ⟨xs, n, hn, _, hlen, hxl, hg⟩ := DataW.trod_struct Try.underlying33 h
  rw [cells_act] at hlen
  obtain ⟨c0, c1, c2, rfl⟩ := list_three hlen
  obtain ⟨y0, y1, y2, rfl⟩ := list_three (l := xs) hxl
  have g0 : DataW.trod enc Try.prog w base spare held n 3 (([c0, c1, c2].drop 0).take (Try.prog.cellsOf 3)) = some y0 := hg 0 _ rfl
  have g1 : DataW.trod enc Try.prog w base spare held n 3 (([c0, c1, c2].drop 1).take (Try.prog.cellsOf 3)) = some y1 := hg 1 _ rfl
  have g2 : DataW.trod enc Try.prog w base spare held n 31 (([c0, c1, c2].drop 2).take (Try.prog.cellsOf 31)) = some y2 := hg 2 _ rfl
  rw [cells_int1] at g0 g1
  rw [cells_words1] at g2
  obtain ⟨k, e0, _, wk⟩ := DataW.trod_int Try.underlying3 g0
  obtain ⟨m, e1, _, wm⟩ := DataW.trod_int Try.underlying3 g1
  obtain ⟨l, a, cap, e2, hl, hn'⟩ := trod_words g2
  have b0 := bounds_i64 wk
  have b1 := bounds_i64 wm
  have f0 : c0 = .int .i64 k := by simpa using e0
  have f1 : c1 = .int .i64 m := by simpa using e1
  have f2 : c2 = .slice a l.length cap := by simpa using e2
  subst f0 f1 f2
  exact ⟨⟨k, m, l⟩, rfl, a, cap, rfl, hl, hn', (show In64 k from ⟨b0.1, by omega⟩), (show In64 m from ⟨b1.1, by omega⟩)⟩
theorem trod_step (fuel : Nat) (cs : List Value) (x : DataW H × List MemPlace) (h : DataW.trod enc Try.prog w base spare held fuel 59 cs = some x) : ∃ A, cs.length = 3 ∧ SpOk A cs := by
  obtain ⟨xs, n, hn, _, hlen, hxl, hg⟩ := DataW.trod_struct Try.underlying59 h
  rw [cells_step] at hlen
  obtain ⟨c0, c1, c2, rfl⟩ := list_three hlen
  obtain ⟨y0, y1, y2, rfl⟩ := list_three (l := xs) hxl
  have g0 : DataW.trod enc Try.prog w base spare held n 3 (([c0, c1, c2].drop 0).take (Try.prog.cellsOf 3)) = some y0 := hg 0 _ rfl
  have g1 : DataW.trod enc Try.prog w base spare held n 3 (([c0, c1, c2].drop 1).take (Try.prog.cellsOf 3)) = some y1 := hg 1 _ rfl
  have g2 : DataW.trod enc Try.prog w base spare held n 3 (([c0, c1, c2].drop 2).take (Try.prog.cellsOf 3)) = some y2 := hg 2 _ rfl
  rw [cells_int1] at g0 g1 g2
  obtain ⟨k, e0, _, wk⟩ := DataW.trod_int Try.underlying3 g0
  obtain ⟨m, e1, _, wm⟩ := DataW.trod_int Try.underlying3 g1
  obtain ⟨s, e2, _, ws⟩ := DataW.trod_int Try.underlying3 g2
  have b0 := bounds_i64 wk
  have b1 := bounds_i64 wm
  have b2 := bounds_i64 ws
  have f0 : c0 = .int .i64 k := by simpa using e0
  have f1 : c1 = .int .i64 m := by simpa using e1
  have f2 : c2 = .int .i64 s := by simpa using e2
  subst f0 f1 f2
  exact ⟨⟨k, m, s⟩, rfl, rfl, (show In64 k from ⟨b0.1, by omega⟩), (show In64 m from ⟨b1.1, by omega⟩), (show In64 s from ⟨b2.1, by omega⟩)⟩
theorem open_acts {r : Reach} {b0 : Nat} {v : Value} {d : DataW H} {p : List MemPlace} (hv : Value.okWide Try.prog w r b0 22 v) (h : DataW.Trod enc Try.prog w base spare held 22 v d p) :
    ∃ (L : List Ac) (a : Option Addr) (cap : Nat), v = .slice a L.length cap ∧ L.length ≤ cap ∧ cap ≤ maxLen ∧ Els w 3 (AcOk w) L a :=
  open_rows Try.underlying22 cells_act (by decide) (AcOk w) trod_act hv h
theorem open_steps {r : Reach} {b0 : Nat} {v : Value} {d : DataW H} {p : List MemPlace} (hv : Value.okWide Try.prog w r b0 55 v) (h : DataW.Trod enc Try.prog w base spare held 55 v d p) :
    ∃ (L : List Sp) (a : Option Addr) (cap : Nat), v = .slice a L.length cap ∧ L.length ≤ cap ∧ cap ≤ maxLen ∧ Els w 3 SpOk L a :=
  open_rows Try.underlying55 cells_step (by decide) SpOk trod_step hv h
end
end Go.Proofs.Ytpfcbokckjfhbaa
