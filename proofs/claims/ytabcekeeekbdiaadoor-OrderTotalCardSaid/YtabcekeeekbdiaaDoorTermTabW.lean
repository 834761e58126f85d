/-
  What is of every statement of this seat alike: where the call has only added to memory, and has returned true, the row's end is met.
-/
import Derived.Test.YtabcekeeekbdiaaDoorCards
import Derived.Test.YtabcekeeekbdiaaDoorTie
import Derived.WalkKit
import Derived.ProofKit
import Derived.OpenShut
import Derived.Deep.DeepHandedRow
import Derived.Lib.LaidTab
import Derived.Test.YtabcekeeekbdiaaDoorTermShape
import Derived.Test.YtabcekeeekbdiaaDoorTermOpen
namespace Go.Proofs.YtabcekeeekbdiaaDoor
open Go.ChangeShapes Go.WideShapes Go.ChangeAt Go.RowKit

theorem own : ownKnob Tryd.prog.godebug = none := by kernel_rfl
theorem laidOut : laidOutB Tryd.prog = true := by kernel_rfl

theorem trodAll_below {H : Type} {enc : TypeId × Value → H} {W W' : World} (hb : Below W.heap.size W W') :
    ∀ (ts : List TypeId) (vs : List Value) (ds : List (DataW H)) (ps : List MemPlace), (ts.all fun t => Tryd.prog.readableRec t && decide (t < Tryd.prog.types.size)) = true →
      DataW.TrodAll enc Tryd.prog W 0 (fun _ => true) true ts vs ds ps → (∀ x ∈ ps, x.block < W.heap.size) → DataW.TrodAll enc Tryd.prog W' 0 (fun b => decide (b < W.heap.size)) true ts vs ds ps := by
  intro ts
  induction ts with
  | nil =>
    intro vs ds ps _ h _
    cases vs <;> cases ds <;> simp_all [DataW.TrodAll]
  | cons t ts ih =>
    intro vs ds ps hr h hlt
    obtain ⟨v, vs', d, ds', p, q, rfl, rfl, rfl, h0, r0⟩ := trodAll_cons h
    simp only [List.all_cons, Bool.and_eq_true, decide_eq_true_eq] at hr
    exact trodAll_cons_mk (Below.trod laidOut hr.1.1 hr.1.2 h0 hb (fun x hx => hlt x (List.mem_append_left _ hx))) (ih _ _ _ hr.2 r0 (fun x hx => hlt x (List.mem_append_right _ hx)))

/-- A law that returned true, and only added to memory. -/
theorem law_post {H : Type} {enc : TypeId × Value → H} {f : Func} {s : ChangeSpec} {W W' : World} {args : Array Value} {ds gs : List (DataW H)} {before : List MemPlace}
    (hres : f.resultTypes = #[4]) (hv : s.vars = []) (hr : (f.params.toList.all fun t => Tryd.prog.readableRec t && decide (t < Tryd.prog.types.size)) = true)
    (hs : s.fn H ds = { results := [.lit (.bool true)], args := ds })
    (hW : DataW.Whole enc Tryd.prog f.params.toList s.vars false W args.toList ds gs before) (hb : Below W.heap.size W W') :
    s.post enc Tryd.prog f false true false false W args (.bool true) W' := by
  have hlt : ∀ p ∈ before, p.block < W.heap.size := fun p hp => hW.lt p hp
  have hW' := hW
  obtain ⟨p, q, hA, hV, rfl, hfz, hnd⟩ := hW
  rw [hv] at hV
  obtain ⟨rfl, rfl⟩ := trodVars_none hV
  have e : s.fn H (ds ++ []) = { results := [.lit (.bool true)], args := ds } := by rw [List.append_nil]; exact hs
  refine ⟨ds, [], _, [], p, [], hW', ?_, ?_, ?_, hb.frame _, fun h => by cases h⟩
  · rw [e, hres]
    exact trodAll_cons_mk (shut_bool Tryd.underlying4 _) trodAll_mk0
  · rw [e]
    exact trodAll_below hb _ _ _ _ hr hA (fun x hx => hlt x (List.mem_append_left _ hx))
  · rw [e, hv]
    rfl

end Go.Proofs.YtabcekeeekbdiaaDoor

/-
  The table of shapes lies in memory as the program's text lays it.
-/
namespace Go.Proofs.YtabcekeeekbdiaaDoor
open Go.ChangeShapes Go.WideShapes Go.ChangeAt Go.RowKit

theorem gShapes : Tryd.prog.globalNamed "tenure/term.shapes" = some 0 := by kernel_rfl
theorem gShapesType : (Tryd.prog.globals[0]?).map (·.type) = some 60 := by kernel_rfl
theorem cellsShape : Tryd.prog.cellsOf 59 = 6 := by kernel_rfl

def shapeParts : List (DataW Unit) := match (Rows.laid_tenure_term_shapes : DataW Unit) with | .agg l => l | _ => []
theorem shapeParts_is : (Rows.laid_tenure_term_shapes : DataW Unit) = .agg shapeParts := rfl
theorem shapeParts_at (i : Nat) (hi : i < 10) : shapeParts[i]? = some (.agg ((List.range 6).map fun j => .lit (.int .i64 (shp i j)))) := by
  rcases i with _ | _ | _ | _ | _ | _ | _ | _ | _ | _ | i
  all_goals first | rfl | omega

theorem cell_of_take6 {cs : List Value} {i o : Nat} {v : Value} (ho : o < 6) (h : (((cs.drop (i * 6)).take 6).drop o).take 1 = [v]) : cs[i * 6 + o]? = some v := by
  have := congrArg (·[0]?) h
  rw [List.drop_take] at this
  simpa [List.getElem?_take, List.getElem?_drop, Nat.sub_pos_of_lt ho] using this

/-- What the row's list gives: the table's cells. -/
theorem shape_tab {W : World} (h : laidMetH Tryd.prog [("tenure/term.shapes", Rows.laid_tenure_term_shapes)] W) : ShapeTab W := by
  obtain ⟨ps, ⟨g', t', cs, fuel, p, q, hg', ht', hvar, hd, _, _⟩, _⟩ := (show laidMet Tryd.prog [("tenure/term.shapes", Rows.laid_tenure_term_shapes)] W from h)
  obtain rfl := Option.some.inj (gShapes.symm.trans hg')
  obtain rfl := Option.some.inj (gShapesType.symm.trans ht')
  rw [shapeParts_is] at hd
  obtain ⟨xs, m, _, ex, _, hl, hel⟩ := DataW.trod_array Tryd.underlying60 hd
  have hx : shapeParts = xs.map (·.1) := by
    have := congrArg Prod.fst ex
    simpa using this
  have all : ∀ i j : Nat, i < 10 → j < 6 → cs.toList[i * 6 + j]? = some (.int .i64 (shp i j)) := by
    intro i j hi hj
    have e := shapeParts_at i hi
    rw [hx, List.getElem?_map, Option.map_eq_some_iff] at e
    obtain ⟨x, hxi, hx1⟩ := e
    have ht := hel i hi
    rw [hxi] at ht
    obtain ⟨ys, n, _, hy, _, hyl, hf⟩ := DataW.trod_struct Tryd.underlying59 ht
    rw [hy] at hx1
    simp only [DataW.agg.injEq] at hx1
    have hyl' : ys.length = 6 := hyl
    have hyj : ys[j]? = some (ys[j]'(by omega)) := List.getElem?_eq_getElem (by omega)
    have hval : (ys[j]'(by omega)).1 = .lit (.int .i64 (shp i j)) := by
      have := congrArg (·[j]?) hx1
      simp only [List.getElem?_map, hyj, Option.map_some] at this
      rw [List.getElem?_range hj] at this
      simpa using this
    have key : ∀ (f : Field), #[f][0]? = some f → DataW.trod (fun _ => ()) Tryd.prog W 0 (fun _ => true) false n 3 (((cs.toList.drop (i * 6)).take 6).drop j |>.take (Tryd.prog.cellsOf 3)) = some (ys[j]'(by omega)) := fun f _ => by
      rw [← hyj]
      rw [cellsShape] at hf
      rcases j with _ | _ | _ | _ | _ | _ | j
      · exact hf 0 _ rfl
      · exact hf 1 _ rfl
      · exact hf 2 _ rfl
      · exact hf 3 _ rfl
      · exact hf 4 _ rfl
      · exact hf 5 _ rfl
      · omega
    rw [cells_int] at key
    obtain ⟨z, hc, hz, _⟩ := DataW.trod_int Tryd.underlying3 (key default rfl)
    rw [hz] at hval
    simp only [DataW.lit.injEq, Lit.int.injEq, true_and] at hval
    subst hval
    exact cell_of_take6 hj hc
  have cell := fun i => World.var?_cell gShapes hvar i
  refine ⟨fun k j hk hj => ?_, ?_⟩
  · rw [cell (k * 6 + j)]
    simpa using all k j hk hj
  · refine World.block_lt_of_cell? W ⟨0, 0, none⟩ (u := .int .i64 (shp 0 0)) ?_
    rw [cell 0]
    simpa using all 0 0 (by omega) (by omega)

end Go.Proofs.YtabcekeeekbdiaaDoor

/-
  A world for the witness: the settled one, the table holding what its initialiser lays.
-/
namespace Go.Proofs.YtabcekeeekbdiaaDoor
open Go.ChangeShapes Go.WideShapes Go.ChangeAt Go.RowKit
noncomputable def laidWorld (os : Os) : World :=
  { World.holding Tryd.prog os ⟨#[], #[], []⟩ with heap := (World.holding Tryd.prog os ⟨#[], #[], []⟩).heap.modify 0 fun
      | .cells _ t frozen => .cells #[.int .i64 0, .int .i64 0, .int .i64 0, .int .i64 0, .int .i64 0, .int .i64 0, .int .i64 (-576460752303423488), .int .i64 576460752303423487, .int .i64 0, .int .i64 0, .int .i64 0, .int .i64 1, .int .i64 0, .int .i64 0, .int .i64 64, .int .i64 0, .int .i64 0, .int .i64 1, .int .i64 0, .int .i64 1073741824, .int .i64 0, .int .i64 0, .int .i64 0, .int .i64 1, .int .i64 0, .int .i64 1073741824, .int .i64 0, .int .i64 0, .int .i64 0, .int .i64 1, .int .i64 0, .int .i64 1073741824, .int .i64 0, .int .i64 0, .int .i64 64, .int .i64 2, .int .i64 0, .int .i64 1073741824, .int .i64 0, .int .i64 0, .int .i64 0, .int .i64 1, .int .i64 0, .int .i64 0, .int .i64 0, .int .i64 0, .int .i64 64, .int .i64 2, .int .i64 0, .int .i64 0, .int .i64 0, .int .i64 0, .int .i64 0, .int .i64 1, .int .i64 0, .int .i64 0, .int .i64 0, .int .i64 2, .int .i64 2, .int .i64 1] t frozen
      | o => o }
end Go.Proofs.YtabcekeeekbdiaaDoor
