/-
  The two laid tables hold what the program's text lays; a world for the witness; a slice of words that a call is handed.
-/
import Derived.Test.YtaiiicmldogjoaaDoorZKitOpen
import Derived.Test.YtaiiicmldogjoaaDoorZTermTab
import Derived.Test.YtaiiicmldogjoaaDoorZFlatRd
import Derived.Deep.Slices
import Derived.Deep.Fields
import Derived.Stop.LaidErr
import Derived.LaidSub
import Derived.MakeChecks
import Derived.Lay
namespace Go.Proofs.YtaiiicmldogjoaaDoor
open Go.ChangeShapes Go.WideShapes Go.ChangeAt Go.RowKit Go.Deep

theorem gNumbers : Tryd.prog.globalNamed "tenure/word.numbers" = some 1 := by kernel_rfl
theorem gNumbersType : (Tryd.prog.globals[1]?).map (·.type) = some 126 := by kernel_rfl
theorem cellsBounds : Tryd.prog.cellsOf 125 = 2 := by kernel_rfl

def wordParts : List (DataW Unit) := match (Rows.laid_tenure_word_numbers : DataW Unit) with | .agg l => l | _ => []
theorem wordParts_is : (Rows.laid_tenure_word_numbers : DataW Unit) = .agg wordParts := rfl
theorem wordParts_at (i : Nat) (hi : i < 12) : wordParts[i]? = some (.agg [.lit (.int .i64 (Wd.lo i)), .lit (.int .i64 (Wd.hi i))]) := by
  rcases i with _ | _ | _ | _ | _ | _ | _ | _ | _ | _ | _ | _ | i
  all_goals first | rfl | omega
theorem cell_of_take2 {cs : List Value} {i o : Nat} {v : Value} (ho : o < 2) (h : (((cs.drop (i * 2)).take 2).drop o).take 1 = [v]) : cs[i * 2 + o]? = some v := by
  have := congrArg (·[0]?) h
  rw [List.drop_take] at this
  simpa [List.getElem?_take, List.getElem?_drop, Nat.sub_pos_of_lt ho] using this

abbrev two : List (String × DataW Unit) := [("tenure/word.numbers", Rows.laid_tenure_word_numbers), ("tenure/term.shapes", Rows.laid_tenure_term_shapes)]
theorem two_plain (W : World) : laidMetH Tryd.prog two W = laidMet Tryd.prog two W := Go.MakeChecks.laidMetH_plain _ _ _ (by kernel_rfl)
/-- What the row's list gives: the table's cells hold the bounds. -/
theorem word_tab2 {W : World} (h : laidMetH Tryd.prog two W) : WordTab W := by
  rw [two_plain] at h
  obtain ⟨ps, ⟨g', t', cs, fuel, p, q, hg', ht', hvar, hd, _, _⟩, _⟩ := h
  obtain rfl := Option.some.inj (gNumbers.symm.trans hg')
  obtain rfl := Option.some.inj (gNumbersType.symm.trans ht')
  rw [wordParts_is] at hd
  obtain ⟨xs, m, _, ex, _, hl, hel⟩ := DataW.trod_array Tryd.underlying126 hd
  have hx : wordParts = xs.map (·.1) := by
    have := congrArg Prod.fst ex
    simpa using this
  have both : ∀ i : Nat, i < 12 → cs.toList[i * 2 + 0]? = some (.int .i64 (Wd.lo i)) ∧ cs.toList[i * 2 + 1]? = some (.int .i64 (Wd.hi i)) := by
    intro i hi
    have e := wordParts_at i hi
    rw [hx, List.getElem?_map, Option.map_eq_some_iff] at e
    obtain ⟨x, hxi, hx1⟩ := e
    have ht := hel i hi
    rw [hxi] at ht
    obtain ⟨y0, y1, n, rfl, _, t0, t1⟩ := trod_struct2 Tryd.underlying125 ht
    rw [cells_int, cellsBounds] at t0 t1
    obtain ⟨z0, c0, rfl, _⟩ := DataW.trod_int Tryd.underlying3 t0
    obtain ⟨z1, c1, rfl, _⟩ := DataW.trod_int Tryd.underlying3 t1
    simp only [DataW.agg.injEq, List.cons.injEq, DataW.lit.injEq, Lit.int.injEq, true_and, and_true] at hx1
    obtain ⟨rfl, rfl⟩ := hx1
    exact ⟨cell_of_take2 (by omega) c0, cell_of_take2 (by omega) c1⟩
  have cell := fun i => World.var?_cell gNumbers hvar i
  refine ⟨fun k hk => ?_, fun k hk => ?_, ?_⟩
  · rw [cell (k * 2)]
    simpa using (both k hk).1
  · rw [cell (k * 2 + 1)]
    simpa using (both k hk).2
  · have e := cell 0
    have b := (both 0 (by omega)).1
    refine World.block_lt_of_cell? W ⟨1, 0, none⟩ (u := .int .i64 (Wd.lo (0 : Nat))) ?_
    rw [e]
    simpa using b
theorem shape_tab2 {W : World} (h : laidMetH Tryd.prog two W) : ShapeTab W := by
  rw [two_plain] at h
  refine shape_tab ?_
  rw [Go.MakeChecks.laidMetH_plain _ _ _ (by kernel_rfl)]
  exact laidMet.tail h
noncomputable def laidWorld2 (os : Os) : World := World.laidAll Tryd.prog os two
theorem laid_met2 (os : Os) (args : Array Value) : laidMet Tryd.prog two ((laidWorld2 os).forCall (fun _ _ => 0) ⟨#[], args, []⟩).memory := laidMet_laidAll args (by kernel_rfl) (by kernel_rfl)

section
variable {H : Type} {enc : TypeId × Value → H} {w : World} {base : Nat} {spare : Nat → Bool} {held : Bool}
end
end Go.Proofs.YtaiiicmldogjoaaDoor
