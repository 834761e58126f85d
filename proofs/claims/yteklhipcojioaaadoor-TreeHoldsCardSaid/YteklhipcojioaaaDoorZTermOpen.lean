/-
  What a call is handed as a term, or as a list of terms, lies in memory as one.
-/
import Derived.Test.YteklhipcojioaaaDoorZKitBase
import Derived.Deep.Slices
import Derived.Deep.Fields
import Derived.Test.YteklhipcojioaaaDoorZLawEnd
namespace Go.Proofs.YteklhipcojioaaaDoor
open Go.RowKit Go.Deep Go.ChangeShapes Go.WideShapes

theorem cells_term : Tryd.prog.cellsOf 32 = 4 := by kernel_rfl
theorem cells_int : Tryd.prog.cellsOf 3 = 1 := by kernel_rfl
theorem cells_string : Tryd.prog.cellsOf 9 = 1 := by kernel_rfl
theorem cells_slice : Tryd.prog.cellsOf 30 = 1 := by kernel_rfl

section
variable {H : Type} {enc : TypeId × Value → H} {w : World} {base : Nat} {spare : Nat → Bool} {held : Bool}

theorem list_four {α : Type} {l : List α} (h : l.length = 4) : ∃ a b c d, l = [a, b, c, d] := by
  match l, h with
  | [a, b, c, d], _ => exact ⟨a, b, c, d, rfl⟩

theorem spot_none {w : World} {a : Addr} {v : Value} (h : w.cell? (a.add (0 * 4)) = some v) : a.spot = none := by
  have hs : (a.add (0 * 4)).spot = a.spot := by unfold Addr.add; simp
  unfold World.cell? at h
  rw [hs] at h
  rcases hsp : a.spot with _ | s
  · rfl
  · exfalso
    rw [hsp] at h
    split at h <;> simp at h

/-- Terms side by side: from each one's reading. -/
theorem trod_terms_of (n : Nat) (ih : ∀ (cs : List Value) (x : DataW H × List MemPlace), DataW.trod enc Tryd.prog w base spare held n 32 cs = some x → ∃ T v0 v1 v2 v3, cs = [v0, v1, v2, v3] ∧ Lies w (fun _ => True) T (.agg #[v0, v1, v2, v3]))
    {cs : List Value} {x : DataW H × List MemPlace} (h : DataW.trod enc Tryd.prog w base spare held (n + 1) 30 cs = some x) : ∃ l a cap, cs = [.slice a (List.length l) cap] ∧ Lst w (fun _ => True) l a cap := by
  rcases DataW.trod_slice Tryd.underlying30 h with ⟨rfl, _⟩ | ⟨a, len, cap, elems, rest, n', hn, rfl, _, _, hle, hm, hlen, hel, _⟩
  · exact ⟨[], none, 0, rfl, Nat.le_refl _, by simp, Or.inl ⟨rfl, rfl, rfl⟩⟩
  · obtain rfl : n' = n := by omega
    have key : ∀ i : Fin len, ∃ T v0 v1 v2 v3, w.cell? (a.add (i.1 * 4)) = some v0 ∧ w.cell? (a.add (i.1 * 4 + 1)) = some v1 ∧ w.cell? (a.add (i.1 * 4 + 2)) = some v2 ∧ w.cell? (a.add (i.1 * 4 + 3)) = some v3 ∧ Lies w (fun _ => True) T (.agg #[v0, v1, v2, v3]) := by
      intro i
      have h1 := hel i.1 i.2
      rw [List.getElem?_eq_getElem (by omega), cells_term, Option.bind_eq_some_iff] at h1
      obtain ⟨cs', hc, ht⟩ := h1
      obtain ⟨T, v0, v1, v2, v3, rfl, hL⟩ := ih _ _ ht
      obtain ⟨_, _, hat⟩ := World.cells?_some hc
      have c0 := hat 0 (by omega)
      have c1 := hat 1 (by omega)
      have c2 := hat 2 (by omega)
      have c3 := hat 3 (by omega)
      rw [Go.Deep.add_add] at c0 c1 c2 c3
      exact ⟨T, v0, v1, v2, v3, c0, c1, c2, c3, hL⟩
    obtain ⟨f, hf⟩ := Classical.axiomOfChoice key
    refine ⟨List.ofFn f, some a, cap, by simp, by simpa using hle, hm, Or.inr ⟨a, rfl, fun hne => ⟨trivial, ?_⟩, Row.of fun i hi => ?_⟩⟩
    · have hpos : 0 < len := by
        rcases Nat.eq_zero_or_pos len with rfl | h
        · simp at hne
        · exact h
      obtain ⟨v0, _, _, _, c0, _⟩ := hf ⟨0, hpos⟩
      exact spot_none c0
    · have hi' : i < len := by simpa using hi
      obtain ⟨v0, v1, v2, v3, c0, c1, c2, c3, hL⟩ := hf ⟨i, hi'⟩
      obtain ⟨_, _, _, _, z0, _⟩ := hf ⟨0, by omega⟩
      have hsp := spot_none z0
      obtain ⟨b, o, sp⟩ := a
      obtain rfl : sp = none := hsp
      simp only [WideShapes.add_plain] at c0 c1 c2 c3
      exact ⟨v0, v1, v2, v3, c0, c1, c2, c3, by simpa using hL⟩

theorem trod_term (fuel : Nat) : ∀ (cs : List Value) (x : DataW H × List MemPlace), DataW.trod enc Tryd.prog w base spare held fuel 32 cs = some x →
    ∃ T v0 v1 v2 v3, cs = [v0, v1, v2, v3] ∧ Lies w (fun _ => True) T (.agg #[v0, v1, v2, v3]) := by
  induction fuel using Nat.strongRecOn with
  | ind fuel ih =>
    intro cs x h
    obtain ⟨xs, n, hn, _, hlen, hxl, hg⟩ := DataW.trod_struct Tryd.underlying32 h
    rw [cells_term] at hlen
    obtain ⟨c0, c1, c2, c3, rfl⟩ := list_four hlen
    obtain ⟨y0, y1, y2, y3, rfl⟩ := list_four (l := xs) hxl
    have g0 : DataW.trod enc Tryd.prog w base spare held n 3 (([c0, c1, c2, c3].drop 0).take (Tryd.prog.cellsOf 3)) = some y0 := hg 0 _ rfl
    have g1 : DataW.trod enc Tryd.prog w base spare held n 3 (([c0, c1, c2, c3].drop 1).take (Tryd.prog.cellsOf 3)) = some y1 := hg 1 _ rfl
    have g2 : DataW.trod enc Tryd.prog w base spare held n 9 (([c0, c1, c2, c3].drop 2).take (Tryd.prog.cellsOf 9)) = some y2 := hg 2 _ rfl
    have g3 : DataW.trod enc Tryd.prog w base spare held n 30 (([c0, c1, c2, c3].drop 3).take (Tryd.prog.cellsOf 30)) = some y3 := hg 3 _ rfl
    rw [cells_int] at g0 g1
    rw [cells_string] at g2
    rw [cells_slice] at g3
    obtain ⟨k, e0, _, wk⟩ := DataW.trod_int Tryd.underlying3 g0
    obtain ⟨m, e1, _, wm⟩ := DataW.trod_int Tryd.underlying3 g1
    obtain ⟨s, e2, _, hs⟩ := DataW.trod_string Tryd.underlying9 g2
    have b0 := bounds_i64 wk
    have b1 := bounds_i64 wm
    obtain ⟨n', rfl⟩ : ∃ n', n = n' + 1 := by
      cases n with
      | zero => simp [DataW.trod] at g3
      | succ n' => exact ⟨n', rfl⟩
    obtain ⟨l, a, cap, e3, hl⟩ := trod_terms_of n' (fun cs x h => ih n' (by omega) cs x h) g3
    have f0 : c0 = .int .i64 k := by simpa using e0
    have f1 : c1 = .int .i64 m := by simpa using e1
    have f2 : c2 = .string s := by simpa using e2
    have f3 : c3 = .slice a l.length cap := by simpa using e3
    subst f0 f1 f2 f3
    exact ⟨.mk k m s l, _, _, _, _, rfl, Lies.mk ⟨b0.1, by omega, b1.1, by omega, by unfold maxLen at hs; omega⟩ hl⟩

set_option maxRecDepth 100000 in
theorem open_term {r : Reach} {b0 : Nat} {v : Value} {d : DataW H} {p : List MemPlace} (hv : Value.okWide Tryd.prog w r b0 32 v) (h : DataW.Trod enc Tryd.prog w base spare held 32 v d p) : ∃ T, Lies w (fun _ => True) T v := by
  obtain ⟨cs, rfl, _⟩ := okWide_struct Tryd.underlying32 hv
  obtain ⟨fuel, hf⟩ := h
  obtain ⟨T, v0, v1, v2, v3, hc, hL⟩ := trod_term fuel _ _ hf
  obtain ⟨l⟩ := cs
  have : l = [v0, v1, v2, v3] := hc
  subst this
  exact ⟨T, hL⟩

set_option maxRecDepth 100000 in
theorem open_terms {r : Reach} {b0 : Nat} {v : Value} {d : DataW H} {p : List MemPlace} (hv : Value.okWide Tryd.prog w r b0 30 v) (h : DataW.Trod enc Tryd.prog w base spare held 30 v d p) :
    ∃ l a cap, v = .slice a (List.length l) cap ∧ Lst w (fun _ => True) l a cap := by
  obtain ⟨a, len, cap, rfl⟩ := okWide_slice Tryd.underlying30 hv
  obtain ⟨fuel, hf⟩ := h
  cases fuel with
  | zero => simp [DataW.trod] at hf
  | succ n =>
    obtain ⟨l, a', cap', hc, hl⟩ := trod_terms_of n (trod_term n) hf
    have hc' : Value.slice a len cap = .slice a' l.length cap' := by simpa [Value.cells] using hc
    exact ⟨l, a', cap', hc', hl⟩

end
end Go.Proofs.YteklhipcojioaaaDoor

/-
  The table of shapes lies in memory as the program's text lays it.
-/
namespace Go.Proofs.YteklhipcojioaaaDoor
open Go.ChangeShapes Go.WideShapes Go.ChangeAt Go.RowKit

theorem gShapes : Tryd.prog.globalNamed "tenure/term.shapes" = some 0 := by kernel_rfl
theorem gShapesType : (Tryd.prog.globals[0]?).map (·.type) = some 102 := by kernel_rfl
theorem cellsShape : Tryd.prog.cellsOf 101 = 6 := by kernel_rfl

def shapeParts : List (DataW Unit) := match (Rows.laid_tenure_term_shapes : DataW Unit) with | .agg l => l | _ => []
theorem shapeParts_is : (Rows.laid_tenure_term_shapes : DataW Unit) = .agg shapeParts := rfl
theorem shapeParts_at (i : Nat) (hi : i < 10) : shapeParts[i]? = some (.agg ((List.range 6).map fun j => .lit (.int .i64 (shp i j)))) := by
  rcases i with _ | _ | _ | _ | _ | _ | _ | _ | _ | _ | i
  all_goals first | rfl | omega

theorem cell_of_take6 {cs : List Value} {i o : Nat} {v : Value} (ho : o < 6) (h : (((cs.drop (i * 6)).take 6).drop o).take 1 = [v]) : cs[i * 6 + o]? = some v := by
  have := congrArg (·[0]?) h
  rw [List.drop_take] at this
  simpa [List.getElem?_take, List.getElem?_drop, Nat.sub_pos_of_lt ho] using this

/-- What the row's list gives: the table's cells. -/
theorem shape_tab {W : World} (h : laidMetH Tryd.prog [("tenure/term.shapes", Rows.laid_tenure_term_shapes)] W) : ShapeTab W := by
  obtain ⟨ps, ⟨g', t', cs, fuel, p, q, hg', ht', hvar, hd, _, _⟩, _⟩ := (show laidMet Tryd.prog [("tenure/term.shapes", Rows.laid_tenure_term_shapes)] W from h)
  obtain rfl := Option.some.inj (gShapes.symm.trans hg')
  obtain rfl := Option.some.inj (gShapesType.symm.trans ht')
  rw [shapeParts_is] at hd
  obtain ⟨xs, m, _, ex, _, hl, hel⟩ := DataW.trod_array Tryd.underlying102 hd
  have hx : shapeParts = xs.map (·.1) := by
    have := congrArg Prod.fst ex
    simpa using this
  have all : ∀ i j : Nat, i < 10 → j < 6 → cs.toList[i * 6 + j]? = some (.int .i64 (shp i j)) := by
    intro i j hi hj
    have e := shapeParts_at i hi
    rw [hx, List.getElem?_map, Option.map_eq_some_iff] at e
    obtain ⟨x, hxi, hx1⟩ := e
    have ht := hel i hi
    rw [hxi] at ht
    obtain ⟨ys, n, _, hy, _, hyl, hf⟩ := DataW.trod_struct Tryd.underlying101 ht
    rw [hy] at hx1
    simp only [DataW.agg.injEq] at hx1
    have hyl' : ys.length = 6 := hyl
    have hyj : ys[j]? = some (ys[j]'(by omega)) := List.getElem?_eq_getElem (by omega)
    have hval : (ys[j]'(by omega)).1 = .lit (.int .i64 (shp i j)) := by
      have := congrArg (·[j]?) hx1
      simp only [List.getElem?_map, hyj, Option.map_some] at this
      rw [List.getElem?_range hj] at this
      simpa using this
    have key : ∀ (f : Field), #[f][0]? = some f → DataW.trod (fun _ => ()) Tryd.prog W 0 (fun _ => true) false n 3 (((cs.toList.drop (i * 6)).take 6).drop j |>.take (Tryd.prog.cellsOf 3)) = some (ys[j]'(by omega)) := fun f _ => by
      rw [← hyj]
      rw [cellsShape] at hf
      rcases j with _ | _ | _ | _ | _ | _ | j
      · exact hf 0 _ rfl
      · exact hf 1 _ rfl
      · exact hf 2 _ rfl
      · exact hf 3 _ rfl
      · exact hf 4 _ rfl
      · exact hf 5 _ rfl
      · omega
    rw [cells_int] at key
    obtain ⟨z, hc, hz, _⟩ := DataW.trod_int Tryd.underlying3 (key default rfl)
    rw [hz] at hval
    simp only [DataW.lit.injEq, Lit.int.injEq, true_and] at hval
    subst hval
    exact cell_of_take6 hj hc
  have cell := fun i => World.var?_cell gShapes hvar i
  refine ⟨fun k j hk hj => ?_, ?_⟩
  · rw [cell (k * 6 + j)]
    simpa using all k j hk hj
  · refine World.block_lt_of_cell? W ⟨0, 0, none⟩ (u := .int .i64 (shp 0 0)) ?_
    rw [cell 0]
    simpa using all 0 0 (by omega) (by omega)

end Go.Proofs.YteklhipcojioaaaDoor

/-
  A world for the witness: the settled one, the table holding what its initialiser lays.
-/
namespace Go.Proofs.YteklhipcojioaaaDoor
open Go.ChangeShapes Go.WideShapes Go.ChangeAt Go.RowKit
noncomputable def laidWorld (os : Os) : World :=
  { World.holding Tryd.prog os ⟨#[], #[], []⟩ with heap := (World.holding Tryd.prog os ⟨#[], #[], []⟩).heap.modify 0 fun
      | .cells _ t frozen => .cells #[.int .i64 0, .int .i64 0, .int .i64 0, .int .i64 0, .int .i64 0, .int .i64 0, .int .i64 (-576460752303423488), .int .i64 576460752303423487, .int .i64 0, .int .i64 0, .int .i64 0, .int .i64 1, .int .i64 0, .int .i64 0, .int .i64 64, .int .i64 0, .int .i64 0, .int .i64 1, .int .i64 0, .int .i64 1073741824, .int .i64 0, .int .i64 0, .int .i64 0, .int .i64 1, .int .i64 0, .int .i64 1073741824, .int .i64 0, .int .i64 0, .int .i64 0, .int .i64 1, .int .i64 0, .int .i64 1073741824, .int .i64 0, .int .i64 0, .int .i64 64, .int .i64 2, .int .i64 0, .int .i64 1073741824, .int .i64 0, .int .i64 0, .int .i64 0, .int .i64 1, .int .i64 0, .int .i64 0, .int .i64 0, .int .i64 0, .int .i64 64, .int .i64 2, .int .i64 0, .int .i64 0, .int .i64 0, .int .i64 0, .int .i64 0, .int .i64 1, .int .i64 0, .int .i64 0, .int .i64 0, .int .i64 2, .int .i64 2, .int .i64 1] t frozen
      | o => o }
end Go.Proofs.YteklhipcojioaaaDoor
