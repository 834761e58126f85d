/-
  The two laid tables hold what the program's text lays; a world for the witness.
-/
import Derived.Test.YtamafhcgjbkikaaDoorTermTab
import Derived.Test.YtamafhcgjbkikaaDoorNeedA
import Derived.Deep.Slices
import Derived.Deep.Fields
import Derived.Stop.LaidErr
import Derived.LaidSub
import Derived.MakeChecks
import Derived.Lay
namespace Go.Proofs.YtamafhcgjbkikaaDoor
open Go.ChangeShapes Go.WideShapes Go.ChangeAt Go.RowKit Go.Deep

theorem gKinds : Tryd.prog.globalNamed "tenure/need.kinds" = some 0 := by kernel_rfl
theorem gKindsType : (Tryd.prog.globals[0]?).map (·.type) = some 51 := by kernel_rfl
theorem cellsNeeds : Tryd.prog.cellsOf 50 = 3 := by kernel_rfl
theorem cellsBool : Tryd.prog.cellsOf 4 = 1 := by kernel_rfl

def kindParts : List (DataW Unit) := match (Rows.laid_tenure_need_kinds : DataW Unit) with | .agg l => l | _ => []
theorem kindParts_is : (Rows.laid_tenure_need_kinds : DataW Unit) = .agg kindParts := rfl
theorem kindParts_at (i : Nat) (hi : i < 5) : kindParts[i]? = some (.agg [.lit (.int .i64 (tableN i)), .lit (.int .i64 (nodeN i)), .lit (.bool (hashB i))]) := by
  rcases i with _ | _ | _ | _ | _ | i
  all_goals first | rfl | omega
theorem cell_of_take3 {cs : List Value} {i o : Nat} {v : Value} (ho : o < 3) (h : (((cs.drop (i * 3)).take 3).drop o).take 1 = [v]) : cs[i * 3 + o]? = some v := by
  have := congrArg (·[0]?) h
  rw [List.drop_take] at this
  simpa [List.getElem?_take, List.getElem?_drop, Nat.sub_pos_of_lt ho] using this

abbrev both13 : List (String × DataW Unit) := [("tenure/term.shapes", Rows.laid_tenure_term_shapes), ("tenure/need.kinds", Rows.laid_tenure_need_kinds)]
theorem both13_plain (W : World) : laidMetH Tryd.prog both13 W = laidMet Tryd.prog both13 W := Go.MakeChecks.laidMetH_plain _ _ _ (by kernel_rfl)
theorem kind_tab {W : World} (h : laidMet Tryd.prog [("tenure/need.kinds", Rows.laid_tenure_need_kinds)] W) : KindTab W := by
  obtain ⟨ps, ⟨g', t', cs, fuel, p, q, hg', ht', hvar, hd, _, _⟩, _⟩ := h
  obtain rfl := Option.some.inj (gKinds.symm.trans hg')
  obtain rfl := Option.some.inj (gKindsType.symm.trans ht')
  rw [kindParts_is] at hd
  obtain ⟨xs, m, _, ex, _, hl, hel⟩ := DataW.trod_array Tryd.underlying51 hd
  have hx : kindParts = xs.map (·.1) := by
    have := congrArg Prod.fst ex
    simpa using this
  have all : ∀ i : Nat, i < 5 → cs.toList[i * 3 + 0]? = some (.int .i64 (tableN i)) ∧ cs.toList[i * 3 + 1]? = some (.int .i64 (nodeN i)) ∧ cs.toList[i * 3 + 2]? = some (.bool (hashB i)) := by
    intro i hi
    have e := kindParts_at i hi
    rw [hx, List.getElem?_map, Option.map_eq_some_iff] at e
    obtain ⟨x, hxi, hx1⟩ := e
    have ht := hel i hi
    rw [hxi] at ht
    obtain ⟨ys, n, _, hy, _, hyl, hf⟩ := DataW.trod_struct Tryd.underlying50 ht
    rw [hy] at hx1
    simp only [DataW.agg.injEq] at hx1
    have hyl' : ys.length = 3 := hyl
    obtain ⟨y0, y1, y2, rfl⟩ : ∃ a b c, ys = [a, b, c] := by
      match ys, hyl' with
      | [a, b, c], _ => exact ⟨a, b, c, rfl⟩
    have t0 := hf 0 _ rfl
    have t1 := hf 1 _ rfl
    have t2 := hf 2 _ rfl
    rw [cellsNeeds] at t0 t1 t2
    have t0' : DataW.trod (fun _ => ()) Tryd.prog W 0 (fun _ => true) false n 3 (((cs.toList.drop (i * 3)).take 3).drop 0 |>.take (Tryd.prog.cellsOf 3)) = some y0 := t0
    have t1' : DataW.trod (fun _ => ()) Tryd.prog W 0 (fun _ => true) false n 3 (((cs.toList.drop (i * 3)).take 3).drop 1 |>.take (Tryd.prog.cellsOf 3)) = some y1 := t1
    have t2' : DataW.trod (fun _ => ()) Tryd.prog W 0 (fun _ => true) false n 4 (((cs.toList.drop (i * 3)).take 3).drop 2 |>.take (Tryd.prog.cellsOf 4)) = some y2 := t2
    rw [cells_int] at t0' t1'
    rw [cellsBool] at t2'
    obtain ⟨z0, c0, e0, _⟩ := DataW.trod_int Tryd.underlying3 t0'
    obtain ⟨z1, c1, e1, _⟩ := DataW.trod_int Tryd.underlying3 t1'
    obtain ⟨z2, c2, e2⟩ := DataW.trod_bool Tryd.underlying4 t2'
    subst e0 e1
    simp only [List.map_cons, List.map_nil, List.cons.injEq, and_true, DataW.lit.injEq, Lit.int.injEq, true_and] at hx1
    obtain ⟨rfl, rfl, hx2⟩ := hx1
    refine ⟨cell_of_take3 (by omega) c0, cell_of_take3 (by omega) c1, ?_⟩
    have c2' := cell_of_take3 (by omega) c2
    subst e2
    simp only [DataW.lit.injEq, Lit.bool.injEq] at hx2
    first
      | (rw [hx2]; exact c2')
      | (rw [← hx2]; exact c2')
  have cell := fun i => World.var?_cell gKinds hvar i
  refine ⟨fun k hk => ?_, fun k hk => ?_, fun k hk => ?_, ?_⟩
  · rw [cell (k * 3)]
    simpa using (all k hk).1
  · rw [cell (k * 3 + 1)]
    simpa using (all k hk).2.1
  · rw [cell (k * 3 + 2)]
    simpa using (all k hk).2.2
  · refine World.block_lt_of_cell? W ⟨0, 0, none⟩ (u := .int .i64 (tableN (0 : Nat))) ?_
    rw [cell 0]
    simpa using (all 0 (by omega)).1
theorem laidMet.head13 {P : Program} {x : String × DataW Unit} {r : List (String × DataW Unit)} {w : World} (h : laidMet P (x :: r) w) : laidMet P [x] w := by
  obtain ⟨ps, hv, hnd, hrows⟩ := h
  obtain ⟨n, d⟩ := x
  obtain ⟨g, t, cs, fuel, p, q, h1, h2, h3, h4, hq, rfl⟩ := hv
  refine ⟨MemPlace.row ⟨g, 0, none⟩ cs.size ++ p ++ [], ⟨g, t, cs, fuel, p, [], h1, h2, h3, h4, rfl, rfl⟩, ?_, fun b off hm => hrows b off (List.mem_append_left _ (by simpa using hm))⟩
  rw [List.append_nil]
  exact List.Nodup.sublist (List.sublist_append_left _ _) hnd
/-- What the row's list gives: both tables. -/
theorem tabs13 {W : World} (h : laidMetH Tryd.prog both13 W) : Tabs W := by
  rw [both13_plain] at h
  refine ⟨shape_tab ?_, kind_tab (laidMet.tail h)⟩
  rw [Go.MakeChecks.laidMetH_plain _ _ _ (by kernel_rfl)]
  exact laidMet.head13 h
noncomputable def laidWorld2 (os : Os) : World := World.laidAll Tryd.prog os both13
theorem laid_met13 (os : Os) (args : Array Value) : laidMet Tryd.prog both13 ((laidWorld2 os).forCall (fun _ _ => 0) ⟨#[], args, []⟩).memory := laidMet_laidAll args (by kernel_rfl) (by kernel_rfl)
end Go.Proofs.YtamafhcgjbkikaaDoor
