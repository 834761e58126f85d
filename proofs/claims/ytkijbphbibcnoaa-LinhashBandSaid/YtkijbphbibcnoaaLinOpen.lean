/-
  The calls of a script, and the steps of a law, as they come in.
-/
import Derived.Test.YtkijbphbibcnoaaLinLs
import Derived.Test.YtkijbphbibcnoaaLinLb
import Derived.Test.YtkijbphbibcnoaaKitOpen
import Derived.Deep.Strs
namespace Go.Proofs.Ytkijbphbibcnoaa
open Go.RowKit Go.Deep Go.ChangeShapes Go.WideShapes

/-- What came in, in the words of a sort of elements. -/
theorem els_cs {α : Type} (s : Srt α) {P : α → Prop} {w : World} {L : List α} {a : Option Addr} (h : Els w s.k (fun x us => us = s.enc x ∧ P x) L a) : Cs s w L a ∧ ∀ x ∈ L, P x := by
  have key : ∀ i (hi : i < L.length), P L[i] := fun i hi => by
    obtain ⟨b, o, _, _, hel⟩ := h.at_ (by omega)
    obtain ⟨us, _, hg, _⟩ := hel i hi
    exact hg.2
  refine ⟨fun h0 => ?_, fun x hx => ?_⟩
  · obtain ⟨b, o, ha, _, hel⟩ := h.at_ h0
    refine ⟨b, o, ha, fun i x hi j u hj => ?_⟩
    obtain ⟨hlt, rfl⟩ := List.getElem?_eq_some_iff.1 hi
    obtain ⟨us, _, hg, hc⟩ := hel i hlt
    obtain ⟨rfl, _⟩ := hg
    obtain ⟨hjl, rfl⟩ := List.getElem?_eq_some_iff.1 hj
    exact hc j hjl
  · obtain ⟨i, hi, rfl⟩ := List.mem_iff_getElem.1 hx
    exact key i hi
theorem list_three {α : Type} {l : List α} (h : l.length = 3) : ∃ a b c, l = [a, b, c] := by
  match l, h with
  | [a, b, c], _ => exact ⟨a, b, c, rfl⟩
theorem cells_act : Try.prog.cellsOf 34 = 3 := by kernel_rfl
theorem cells_step : Try.prog.cellsOf 59 = 3 := by kernel_rfl
theorem cells_int1 : Try.prog.cellsOf 3 = 1 := by kernel_rfl
theorem cells_u32 : Try.prog.cellsOf 32 = 1 := by kernel_rfl
theorem cells_bool : Try.prog.cellsOf 4 = 1 := by kernel_rfl
section
variable {H : Type} {enc : TypeId × Value → H} {w : World} {base : Nat} {spare : Nat → Bool} {held : Bool}
theorem trod_act (fuel : Nat) (cs : List Value) (x : DataW H × List MemPlace) (h : DataW.trod enc Try.prog w base spare held fuel 34 cs = some x) : ∃ A, cs.length = 3 ∧ (cs = acS.enc A ∧ A.h < 4294967296) := by
  obtain ⟨xs, n, hn, _, hlen, hxl, hg⟩ := DataW.trod_struct Try.underlying34 h
  rw [cells_act] at hlen
  obtain ⟨c0, c1, c2, rfl⟩ := list_three hlen
  obtain ⟨y0, y1, y2, rfl⟩ := list_three (l := xs) hxl
  have g0 : DataW.trod enc Try.prog w base spare held n 3 (([c0, c1, c2].drop 0).take (Try.prog.cellsOf 3)) = some y0 := hg 0 _ rfl
  have g1 : DataW.trod enc Try.prog w base spare held n 3 (([c0, c1, c2].drop 1).take (Try.prog.cellsOf 3)) = some y1 := hg 1 _ rfl
  have g2 : DataW.trod enc Try.prog w base spare held n 32 (([c0, c1, c2].drop 2).take (Try.prog.cellsOf 32)) = some y2 := hg 2 _ rfl
  rw [cells_int1] at g0 g1
  rw [cells_u32] at g2
  obtain ⟨k, e0, _, _⟩ := DataW.trod_int Try.underlying3 g0
  obtain ⟨m, e1, _, _⟩ := DataW.trod_int Try.underlying3 g1
  obtain ⟨s, e2, _, ws⟩ := DataW.trod_int Try.underlying32 g2
  have b2 := bounds_u32 ws
  obtain ⟨s, rfl⟩ := Int.eq_ofNat_of_zero_le b2.1
  have f0 : c0 = .int .i64 k := by simpa using e0
  have f1 : c1 = .int .i64 m := by simpa using e1
  have f2 : c2 = .int .u32 s := by simpa using e2
  subst f0 f1 f2
  exact ⟨⟨k, m, s⟩, rfl, rfl, (show s < 4294967296 by omega)⟩
theorem trod_step (fuel : Nat) (cs : List Value) (x : DataW H × List MemPlace) (h : DataW.trod enc Try.prog w base spare held fuel 59 cs = some x) : ∃ A, cs.length = 3 ∧ (cs = stS.enc A ∧ A.h < 4294967296) := by
  obtain ⟨xs, n, hn, _, hlen, hxl, hg⟩ := DataW.trod_struct Try.underlying59 h
  rw [cells_step] at hlen
  obtain ⟨c0, c1, c2, rfl⟩ := list_three hlen
  obtain ⟨y0, y1, y2, rfl⟩ := list_three (l := xs) hxl
  have g0 : DataW.trod enc Try.prog w base spare held n 4 (([c0, c1, c2].drop 0).take (Try.prog.cellsOf 4)) = some y0 := hg 0 _ rfl
  have g1 : DataW.trod enc Try.prog w base spare held n 3 (([c0, c1, c2].drop 1).take (Try.prog.cellsOf 3)) = some y1 := hg 1 _ rfl
  have g2 : DataW.trod enc Try.prog w base spare held n 32 (([c0, c1, c2].drop 2).take (Try.prog.cellsOf 32)) = some y2 := hg 2 _ rfl
  rw [cells_bool] at g0
  rw [cells_int1] at g1
  rw [cells_u32] at g2
  obtain ⟨k, e0, _⟩ := DataW.trod_bool Try.underlying4 g0
  obtain ⟨m, e1, _, _⟩ := DataW.trod_int Try.underlying3 g1
  obtain ⟨s, e2, _, ws⟩ := DataW.trod_int Try.underlying32 g2
  have b2 := bounds_u32 ws
  obtain ⟨s, rfl⟩ := Int.eq_ofNat_of_zero_le b2.1
  have f0 : c0 = .bool k := by simpa using e0
  have f1 : c1 = .int .i64 m := by simpa using e1
  have f2 : c2 = .int .u32 s := by simpa using e2
  subst f0 f1 f2
  exact ⟨⟨k, m, s⟩, rfl, rfl, (show s < 4294967296 by omega)⟩
set_option maxRecDepth 100000 in
theorem open_acts {r : Reach} {b0 : Nat} {v : Value} {d : DataW H} {p : List MemPlace} (hv : Value.okWide Try.prog w r b0 22 v) (h : DataW.Trod enc Try.prog w base spare held 22 v d p) :
    ∃ (L : List Ac) (a : Option Addr) (cap : Nat), v = .slice a L.length cap ∧ Cs acS w L a ∧ ∀ x ∈ L, x.h < 4294967296 := by
  obtain ⟨L, a, cap, h1, _, _, h2⟩ := open_rows (k := 3) Try.underlying22 cells_act (by decide) (fun A us => us = acS.enc A ∧ A.h < 4294967296) trod_act hv h
  obtain ⟨h3, h4⟩ := els_cs acS (P := fun A => A.h < 4294967296) h2
  exact ⟨L, a, cap, h1, h3, h4⟩
set_option maxRecDepth 100000 in
theorem open_steps {r : Reach} {b0 : Nat} {v : Value} {d : DataW H} {p : List MemPlace} (hv : Value.okWide Try.prog w r b0 56 v) (h : DataW.Trod enc Try.prog w base spare held 56 v d p) :
    ∃ (L : List Stp) (a : Option Addr) (cap : Nat), v = .slice a L.length cap ∧ Cs stS w L a ∧ ∀ x ∈ L, x.h < 4294967296 := by
  obtain ⟨L, a, cap, h1, _, _, h2⟩ := open_rows (k := 3) Try.underlying56 cells_step (by decide) (fun A us => us = stS.enc A ∧ A.h < 4294967296) trod_step hv h
  obtain ⟨h3, h4⟩ := els_cs stS (P := fun A => A.h < 4294967296) h2
  exact ⟨L, a, cap, h1, h3, h4⟩
end
end Go.Proofs.Ytkijbphbibcnoaa
