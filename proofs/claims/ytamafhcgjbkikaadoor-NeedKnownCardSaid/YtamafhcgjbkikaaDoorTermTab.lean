/-
  The table of shapes lies in memory as the program's text lays it.
-/
import Derived.Test.YtamafhcgjbkikaaDoorLawEnd
import Derived.Test.YtamafhcgjbkikaaDoorTermShape
import Derived.Test.YtamafhcgjbkikaaDoorTermOpen
namespace Go.Proofs.YtamafhcgjbkikaaDoor
open Go.ChangeShapes Go.WideShapes Go.ChangeAt Go.RowKit

theorem gShapes : Tryd.prog.globalNamed "tenure/term.shapes" = some 1 := by kernel_rfl
theorem gShapesType : (Tryd.prog.globals[1]?).map (·.type) = some 68 := by kernel_rfl
theorem cellsShape : Tryd.prog.cellsOf 67 = 6 := by kernel_rfl

def shapeParts : List (DataW Unit) := match (Rows.laid_tenure_term_shapes : DataW Unit) with | .agg l => l | _ => []
theorem shapeParts_is : (Rows.laid_tenure_term_shapes : DataW Unit) = .agg shapeParts := rfl
theorem shapeParts_at (i : Nat) (hi : i < 10) : shapeParts[i]? = some (.agg ((List.range 6).map fun j => .lit (.int .i64 (shp i j)))) := by
  rcases i with _ | _ | _ | _ | _ | _ | _ | _ | _ | _ | i
  all_goals first | rfl | omega

theorem cell_of_take6 {cs : List Value} {i o : Nat} {v : Value} (ho : o < 6) (h : (((cs.drop (i * 6)).take 6).drop o).take 1 = [v]) : cs[i * 6 + o]? = some v := by
  have := congrArg (·[0]?) h
  rw [List.drop_take] at this
  simpa [List.getElem?_take, List.getElem?_drop, Nat.sub_pos_of_lt ho] using this

/-- What the row's list gives: the table's cells. -/
theorem shape_tab {W : World} (h : laidMetH Tryd.prog [("tenure/term.shapes", Rows.laid_tenure_term_shapes)] W) : ShapeTab W := by
  obtain ⟨ps, ⟨g', t', cs, fuel, p, q, hg', ht', hvar, hd, _, _⟩, _⟩ := (show laidMet Tryd.prog [("tenure/term.shapes", Rows.laid_tenure_term_shapes)] W from h)
  obtain rfl := Option.some.inj (gShapes.symm.trans hg')
  obtain rfl := Option.some.inj (gShapesType.symm.trans ht')
  rw [shapeParts_is] at hd
  obtain ⟨xs, m, _, ex, _, hl, hel⟩ := DataW.trod_array Tryd.underlying68 hd
  have hx : shapeParts = xs.map (·.1) := by
    have := congrArg Prod.fst ex
    simpa using this
  have all : ∀ i j : Nat, i < 10 → j < 6 → cs.toList[i * 6 + j]? = some (.int .i64 (shp i j)) := by
    intro i j hi hj
    have e := shapeParts_at i hi
    rw [hx, List.getElem?_map, Option.map_eq_some_iff] at e
    obtain ⟨x, hxi, hx1⟩ := e
    have ht := hel i hi
    rw [hxi] at ht
    obtain ⟨ys, n, _, hy, _, hyl, hf⟩ := DataW.trod_struct Tryd.underlying67 ht
    rw [hy] at hx1
    simp only [DataW.agg.injEq] at hx1
    have hyl' : ys.length = 6 := hyl
    have hyj : ys[j]? = some (ys[j]'(by omega)) := List.getElem?_eq_getElem (by omega)
    have hval : (ys[j]'(by omega)).1 = .lit (.int .i64 (shp i j)) := by
      have := congrArg (·[j]?) hx1
      simp only [List.getElem?_map, hyj, Option.map_some] at this
      rw [List.getElem?_range hj] at this
      simpa using this
    have key : ∀ (f : Field), #[f][0]? = some f → DataW.trod (fun _ => ()) Tryd.prog W 0 (fun _ => true) false n 3 (((cs.toList.drop (i * 6)).take 6).drop j |>.take (Tryd.prog.cellsOf 3)) = some (ys[j]'(by omega)) := fun f _ => by
      rw [← hyj]
      rw [cellsShape] at hf
      rcases j with _ | _ | _ | _ | _ | _ | j
      · exact hf 0 _ rfl
      · exact hf 1 _ rfl
      · exact hf 2 _ rfl
      · exact hf 3 _ rfl
      · exact hf 4 _ rfl
      · exact hf 5 _ rfl
      · omega
    rw [cells_int] at key
    obtain ⟨z, hc, hz, _⟩ := DataW.trod_int Tryd.underlying3 (key default rfl)
    rw [hz] at hval
    simp only [DataW.lit.injEq, Lit.int.injEq, true_and] at hval
    subst hval
    exact cell_of_take6 hj hc
  have cell := fun i => World.var?_cell gShapes hvar i
  refine ⟨fun k j hk hj => ?_, ?_⟩
  · rw [cell (k * 6 + j)]
    simpa using all k j hk hj
  · refine World.block_lt_of_cell? W ⟨1, 0, none⟩ (u := .int .i64 (shp 0 0)) ?_
    rw [cell 0]
    simpa using all 0 0 (by omega) (by omega)

end Go.Proofs.YtamafhcgjbkikaaDoor
