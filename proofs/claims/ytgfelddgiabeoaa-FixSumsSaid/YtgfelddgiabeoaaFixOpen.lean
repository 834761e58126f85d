/-
  The calls of a script, as they come in.
-/
import Derived.Test.YtgfelddgiabeoaaKitMapI
import Derived.Test.YtgfelddgiabeoaaKitOpen
import Derived.Deep.Strs
namespace Go.Proofs.Ytgfelddgiabeoaa
open Go.RowKit Go.Deep Go.ChangeShapes Go.WideShapes

/-- A call of a script. -/
structure Ac12 where
  k : Int
  n : Int
/-- .. in memory. -/
def Ac12Ok (A : Ac12) (us : List Value) : Prop := us = [.int .i64 A.k, .int .i64 A.n] ∧ In64 A.k ∧ In64 A.n
theorem list_two12 {α : Type} {l : List α} (h : l.length = 2) : ∃ a b, l = [a, b] := by
  match l, h with
  | [a, b], _ => exact ⟨a, b, rfl⟩
theorem cells_act12 : Try.prog.cellsOf 31 = 2 := by kernel_rfl
theorem cells_int12 : Try.prog.cellsOf 3 = 1 := by kernel_rfl
section
variable {H : Type} {enc : TypeId × Value → H} {w : World} {base : Nat} {spare : Nat → Bool} {held : Bool}
theorem trod_act12 (fuel : Nat) (cs : List Value) (x : DataW H × List MemPlace) (h : DataW.trod enc Try.prog w base spare held fuel 31 cs = some x) : ∃ A, cs.length = 2 ∧ Ac12Ok A cs := by
  obtain ⟨xs, n, hn, _, hlen, hxl, hg⟩ := DataW.trod_struct Try.underlying31 h
  rw [cells_act12] at hlen
  obtain ⟨c0, c1, rfl⟩ := list_two12 hlen
  obtain ⟨y0, y1, rfl⟩ := list_two12 (l := xs) hxl
  have g0 : DataW.trod enc Try.prog w base spare held n 3 (([c0, c1].drop 0).take (Try.prog.cellsOf 3)) = some y0 := hg 0 _ rfl
  have g1 : DataW.trod enc Try.prog w base spare held n 3 (([c0, c1].drop 1).take (Try.prog.cellsOf 3)) = some y1 := hg 1 _ rfl
  rw [cells_int12] at g0 g1
  obtain ⟨k, e0, _, wk⟩ := DataW.trod_int Try.underlying3 g0
  obtain ⟨m, e1, _, wm⟩ := DataW.trod_int Try.underlying3 g1
  have b0 := bounds_i64 wk
  have b1 := bounds_i64 wm
  have f0 : c0 = .int .i64 k := by simpa using e0
  have f1 : c1 = .int .i64 m := by simpa using e1
  subst f0 f1
  exact ⟨⟨k, m⟩, rfl, rfl, (show In64 k from ⟨b0.1, by omega⟩), (show In64 m from ⟨b1.1, by omega⟩)⟩
theorem open_acts12 {r : Reach} {b0 : Nat} {v : Value} {d : DataW H} {p : List MemPlace} (hv : Value.okWide Try.prog w r b0 22 v) (h : DataW.Trod enc Try.prog w base spare held 22 v d p) :
    ∃ (L : List Ac12) (a : Option Addr) (cap : Nat), v = .slice a L.length cap ∧ L.length ≤ cap ∧ cap ≤ maxLen ∧ Els w 2 Ac12Ok L a :=
  open_rows Try.underlying22 cells_act12 (by decide) Ac12Ok trod_act12 hv h
end
/-- The calls that came in, in a later world. -/
theorem Els.call12 {w w' : World} {L : List Ac12} {a : Option Addr} (h : Els w 2 Ac12Ok L a) (hb : Below w.heap.size w w') {i : Nat} (hi : i < L.length) : ∃ b o, a = some ⟨b, o, none⟩ ∧
    w'.cell? ⟨b, o + i * 2, none⟩ = some (.int .i64 L[i].k) ∧ w'.cell? ⟨b, o + i * 2 + 1, none⟩ = some (.int .i64 L[i].n) ∧ In64 L[i].k ∧ In64 L[i].n := by
  obtain ⟨b, o, e, hlt, hat⟩ := h.at_ (by omega)
  obtain ⟨us, hus, ⟨rfl, h1, h2⟩, hc⟩ := hat i hi
  have z0 := cell_below hb _ _ _ (hc 0 (by simp))
  have z1 := cell_below hb _ _ _ (hc 1 (by simp))
  exact ⟨b, o, e, by simpa using z0, by simpa [Nat.add_assoc] using z1, h1, h2⟩

end Go.Proofs.Ytgfelddgiabeoaa
