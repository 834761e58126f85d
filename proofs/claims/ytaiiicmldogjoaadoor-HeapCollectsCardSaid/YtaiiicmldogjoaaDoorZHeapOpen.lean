/-
  Rows of numbers that came in as arguments, and rows of such rows.
-/
import Derived.Test.YtaiiicmldogjoaaDoorZTermOpen
import Derived.Test.YtaiiicmldogjoaaDoorZKitOpen
import Derived.Test.YtaiiicmldogjoaaDoorZHeapLn
namespace Go.Proofs.YtaiiicmldogjoaaDoor
open Go.RowKit Go.Deep Go.ChangeShapes Go.WideShapes

section
variable {H : Type} {enc : TypeId × Value → H} {w : World} {base : Nat} {spare : Nat → Bool} {held : Bool}

theorem cells_row : Tryd.prog.cellsOf 66 = 1 := by kernel_rfl
set_option maxRecDepth 100000 in
theorem trod_nums {fuel : Nat} {cs : List Value} {x : DataW H × List MemPlace} (hf : DataW.trod enc Tryd.prog w base spare held fuel 66 cs = some x) :
    ∃ (xs : List Int) (a : Option Addr) (cap : Nat), cs = [.slice a xs.length cap] ∧ CelI w xs a := by
  rcases open_ints Tryd.underlying66 Tryd.underlying3 cells_int hf with ⟨hc, _⟩ | ⟨a', len', cap', zs, hc, _, hle, hm, hz, _, hcell, hw⟩
  · exact ⟨[], none, 0, hc, fun h => absurd h (Nat.lt_irrefl _)⟩
  · have hlz : len' ≤ zs.length := by rw [hz]; split <;> omega
    have hlb : (zs.take len').length = len' := by rw [List.length_take]; omega
    refine ⟨zs.take len', some a', cap', by rw [hlb]; exact hc, fun h0 => ?_⟩
    rw [hlb] at h0
    have hs := spot_free (a := a') (by simpa [Addr.add] using hcell 0 (by omega))
    obtain ⟨b, o, sp⟩ := a'
    simp only at hs
    subst hs
    refine ⟨b, o, rfl, fun j hj => ?_⟩
    have hj' : j < len' := by rw [hlb] at hj; exact hj
    have hcj := hcell j (by omega)
    rw [add_plain] at hcj
    rw [hcj]
    simp [List.getD, show j < zs.length by omega]
set_option maxRecDepth 100000 in
theorem open_nums {r : Reach} {b0 : Nat} {v : Value} {d : DataW H} {p : List MemPlace} (hv : Value.okWide Tryd.prog w r b0 66 v) (h : DataW.Trod enc Tryd.prog w base spare held 66 v d p) :
    ∃ (xs : List Int) (a : Option Addr) (cap : Nat), v = .slice a xs.length cap ∧ CelI w xs a := by
  obtain ⟨a, len, cap, rfl⟩ := okWide_slice Tryd.underlying66 hv
  obtain ⟨fuel, hf⟩ := h
  obtain ⟨xs, a', cap', hc, h1⟩ := trod_nums hf
  have hc' : Value.slice a len cap = .slice a' xs.length cap' := by simpa [Value.cells] using hc
  exact ⟨xs, a', cap', hc', h1⟩
/-- What a cell of a row of rows holds. -/
def RowOk (w : World) (xs : List Int) (us : List Value) : Prop := ∃ ia ic, us = [.slice ia xs.length ic] ∧ CelI w xs ia
set_option maxRecDepth 100000 in
theorem open_numrows {r : Reach} {b0 : Nat} {v : Value} {d : DataW H} {p : List MemPlace} (hv : Value.okWide Tryd.prog w r b0 65 v) (h : DataW.Trod enc Tryd.prog w base spare held 65 v d p) :
    ∃ (L : List (List Int)) (a : Option Addr) (cap : Nat), v = .slice a L.length cap ∧ RowsIn w L a := by
  obtain ⟨L, a, cap, h1, _, _, h2⟩ := open_rows (k := 1) Tryd.underlying65 cells_row (by decide) (RowOk w) (fun n cs x hx => by
    obtain ⟨xs, ia, ic, rfl, hc⟩ := trod_nums hx
    exact ⟨xs, rfl, ia, ic, rfl, hc⟩) hv h
  refine ⟨L, a, cap, h1, fun i hi => ?_⟩
  obtain ⟨b, o, ha, _, hel⟩ := h2.at_ (by omega)
  obtain ⟨us, hl, ⟨ia, ic, rfl, hc⟩, hcell⟩ := hel i hi
  refine ⟨b, o, ia, ic, ha, ?_, hc⟩
  have := hcell 0 (by simp)
  simpa using this
end
end Go.Proofs.YtaiiicmldogjoaaDoor
