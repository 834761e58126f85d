/-
  Regions that draw their order and only read: a variable of four cells.
-/
import Derived.Test.YteklhipcojioaaaDoorZTermMore
import Derived.Test.YteklhipcojioaaaDoorZKitRegion
import Derived.Test.YteklhipcojioaaaDoorZFloats
namespace Go.Proofs.YteklhipcojioaaaDoor
open Go.RowKit Go.Deep

/-- Memory has only been added to since W, in which four cells of b hold a term's. -/
theorem Up.four {W w : World} (h : Up W w) {b : Nat} {v0 v1 v2 v3 : Value} {t : TypeId} (hb : W.heap[b]? = some (.cells #[v0, v1, v2, v3] t)) :
    w.cell? ⟨b, 0, none⟩ = some v0 ∧ w.cell? ⟨b, 1, none⟩ = some v1 ∧ w.cell? ⟨b, 2, none⟩ = some v2 ∧ w.cell? ⟨b, 3, none⟩ = some v3 := (kept4 hb h.out).1

end Go.Proofs.YteklhipcojioaaaDoor

/-
  Regions that draw their order: a term is stored.
-/
namespace Go.Proofs.YteklhipcojioaaaDoor
open Go.RowKit Go.Deep

/-- A term is stored into a row of cells. -/
theorem exec_store4 {w : World} {b off : Nat} {c : Array Value} {t : TypeId} (h : w.heap[b]? = some (.cells c t (0, 0))) (hs : off + 3 < c.size) {ev : Operand → Value} {p q : Operand} {k n : Int} {s : ByteArray} {a : Option Addr} {m cap : Nat} (hp : ev p = .pointer (some ⟨b, off, none⟩))
    (hq : ev q = .agg #[.int .i64 k, .int .i64 n, .string s, .slice a m cap]) (ty : TypeId) (ps : String) (af : Array Edge) (dst : Option Tmp) : (execOp ev ⟨dst, .store 32 p q, ty, ps, af, none⟩).run Tryd.prog w = .ok .skip (put4 w b off (.int .i64 k) (.int .i64 n) (.string s) (.slice a m cap)) := by
  have hc : ∀ j, w.cell? ⟨b, j, none⟩ = c[j]? := fun j => cell_of_row w b j c t (0, 0) h
  have c0 : w.cell? ⟨b, off, none⟩ = some c[off] := (hc _).trans (Array.getElem?_eq_getElem (by omega))
  have c1 : w.cell? ⟨b, off + 1, none⟩ = some c[off + 1] := (hc _).trans (Array.getElem?_eq_getElem (by omega))
  have c2 : w.cell? ⟨b, off + 2, none⟩ = some c[off + 2] := (hc _).trans (Array.getElem?_eq_getElem (by omega))
  have c3 : w.cell? ⟨b, off + 3, none⟩ = some c[off + 3] := (hc _).trans (Array.getElem?_eq_getElem (by omega))
  have hf : ∀ j, w.frozen? ⟨b, j, none⟩ = false := fun j => by simp [World.frozen?, h]
  have f0 := hf off
  have f1 := hf (off + 1)
  have f2 := hf (off + 2)
  have f3 := hf (off + 3)
  clear hc hf h
  unfold put4
  go_simp

end Go.Proofs.YteklhipcojioaaaDoor
