/-
  The calls of a script, and rows of truths, as they come in.
-/
import Derived.Test.YteklhipcojioaaaDoorZTreeLs
import Derived.Test.YteklhipcojioaaaDoorZTermOpen
import Derived.Test.YteklhipcojioaaaDoorZKitOpen
import Derived.Deep.Strs
namespace Go.Proofs.YteklhipcojioaaaDoor
open Go.RowKit Go.Deep Go.ChangeShapes Go.WideShapes

theorem list_three11 {α : Type} {l : List α} (h : l.length = 3) : ∃ a b c, l = [a, b, c] := by
  match l, h with
  | [a, b, c], _ => exact ⟨a, b, c, rfl⟩
theorem cells_act11 : Tryd.prog.cellsOf 34 = 6 := by kernel_rfl
theorem cells_term11 : Tryd.prog.cellsOf 32 = 4 := by kernel_rfl
theorem cells_int11 : Tryd.prog.cellsOf 3 = 1 := by kernel_rfl
theorem list_six {α : Type} {l : List α} (h : l.length = 6) : ∃ a b c d e f, l = [a, b, c, d, e, f] := by
  match l, h with
  | [a, b, c, d, e, f], _ => exact ⟨a, b, c, d, e, f, rfl⟩
section
variable {H : Type} {enc : TypeId × Value → H} {w : World} {base : Nat} {spare : Nat → Bool} {held : Bool}
theorem trod_act11 (fuel : Nat) (cs : List Value) (x : DataW H × List MemPlace) (h : DataW.trod enc Tryd.prog w base spare held fuel 34 cs = some x) : ∃ A : Ac11, cs.length = 6 ∧ (cs = ac11S.enc A ∧ ∃ T, Lies w (fun b => b < w.heap.size) T A.h.tv) := by
  obtain ⟨xs, n, hn, _, hlen, hxl, hg⟩ := DataW.trod_struct Tryd.underlying34 h
  rw [cells_act11] at hlen
  obtain ⟨c0, c1, c2, c3, c4, c5, rfl⟩ := list_six hlen
  obtain ⟨y0, y1, y2, rfl⟩ := list_three11 (l := xs) hxl
  have g0 : DataW.trod enc Tryd.prog w base spare held n 3 (([c0, c1, c2, c3, c4, c5].drop 0).take (Tryd.prog.cellsOf 3)) = some y0 := hg 0 _ rfl
  have g1 : DataW.trod enc Tryd.prog w base spare held n 3 (([c0, c1, c2, c3, c4, c5].drop 1).take (Tryd.prog.cellsOf 3)) = some y1 := hg 1 _ rfl
  have g2 : DataW.trod enc Tryd.prog w base spare held n 32 (([c0, c1, c2, c3, c4, c5].drop 2).take (Tryd.prog.cellsOf 32)) = some y2 := hg 2 _ rfl
  rw [cells_int11] at g0 g1
  rw [cells_term11] at g2
  obtain ⟨k, e0, _, _⟩ := DataW.trod_int Tryd.underlying3 g0
  obtain ⟨m, e1, _, _⟩ := DataW.trod_int Tryd.underlying3 g1
  obtain ⟨T, v0, v1, v2, v3, hc, hl⟩ := trod_term n _ _ g2
  obtain ⟨kk, kn, ks, ka, km, kc, he⟩ := hl.agg
  have f0 : c0 = .int .i64 k := by simpa using e0
  have f1 : c1 = .int .i64 m := by simpa using e1
  simp only [Value.agg.injEq, List.drop_succ_cons, List.drop_zero, List.take_succ_cons, List.take_zero, List.cons.injEq, and_true, Array.mk.injEq] at hc he
  obtain ⟨rfl, rfl, rfl, rfl⟩ := hc
  obtain ⟨rfl, rfl, rfl, rfl⟩ := he
  subst f0 f1
  exact ⟨⟨k, m, ⟨kk, kn, ks, ka, km, kc⟩⟩, rfl, rfl, T, (hl.inside T _).wider (fun b hb => hb.2)⟩
set_option maxRecDepth 100000 in
theorem open_acts11 {r : Reach} {b0 : Nat} {v : Value} {d : DataW H} {p : List MemPlace} (hv : Value.okWide Tryd.prog w r b0 22 v) (h : DataW.Trod enc Tryd.prog w base spare held 22 v d p) :
    ∃ (L : List Ac11) (a : Option Addr) (cap : Nat), v = .slice a L.length cap ∧ Cs ac11S w L a ∧ ∀ x ∈ L, ∃ T, Lies w (fun b => b < w.heap.size) T x.h.tv := by
  obtain ⟨L, a, cap, h1, _, _, h2⟩ := open_rows (k := 6) Tryd.underlying22 cells_act11 (by decide) (fun A us => us = ac11S.enc A ∧ ∃ T, Lies w (fun b => b < w.heap.size) T A.h.tv) trod_act11 hv h
  refine ⟨L, a, cap, h1, fun h0 => ?_, fun x hx => ?_⟩
  · obtain ⟨b, o, ha, _, hel⟩ := h2.at_ h0
    refine ⟨b, o, ha, fun i x hi j u hj => ?_⟩
    obtain ⟨hlt, rfl⟩ := List.getElem?_eq_some_iff.1 hi
    obtain ⟨us, _, hg, hc⟩ := hel i hlt
    obtain ⟨rfl, _⟩ := hg
    obtain ⟨hjl, rfl⟩ := List.getElem?_eq_some_iff.1 hj
    exact hc j hjl
  · obtain ⟨i, hi, rfl⟩ := List.mem_iff_getElem.1 hx
    obtain ⟨b, o, _, _, hel⟩ := h2.at_ (by omega)
    obtain ⟨us, _, hg, _⟩ := hel i hi
    exact hg.2
end
end Go.Proofs.YteklhipcojioaaaDoor
