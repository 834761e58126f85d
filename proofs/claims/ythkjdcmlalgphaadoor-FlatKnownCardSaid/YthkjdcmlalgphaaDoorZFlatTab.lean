/-
  The two laid tables hold what the program's text lays; a world for the witness; a slice of words that a call is handed.
-/
import Derived.Test.YthkjdcmlalgphaaDoorZTermTab
import Derived.Test.YthkjdcmlalgphaaDoorZFlatRd
import Derived.Deep.Slices
import Derived.Deep.Fields
import Derived.Stop.LaidErr
import Derived.LaidSub
import Derived.MakeChecks
import Derived.Lay
namespace Go.Proofs.YthkjdcmlalgphaaDoor
open Go.ChangeShapes Go.WideShapes Go.ChangeAt Go.RowKit Go.Deep

theorem gNumbers : Tryd.prog.globalNamed "tenure/word.numbers" = some 1 := by kernel_rfl
theorem gNumbersType : (Tryd.prog.globals[1]?).map (·.type) = some 135 := by kernel_rfl
theorem cellsBounds : Tryd.prog.cellsOf 134 = 2 := by kernel_rfl

def wordParts : List (DataW Unit) := match (Rows.laid_tenure_word_numbers : DataW Unit) with | .agg l => l | _ => []
theorem wordParts_is : (Rows.laid_tenure_word_numbers : DataW Unit) = .agg wordParts := rfl
theorem wordParts_at (i : Nat) (hi : i < 12) : wordParts[i]? = some (.agg [.lit (.int .i64 (Wd.lo i)), .lit (.int .i64 (Wd.hi i))]) := by
  rcases i with _ | _ | _ | _ | _ | _ | _ | _ | _ | _ | _ | _ | i
  all_goals first | rfl | omega
theorem cell_of_take2 {cs : List Value} {i o : Nat} {v : Value} (ho : o < 2) (h : (((cs.drop (i * 2)).take 2).drop o).take 1 = [v]) : cs[i * 2 + o]? = some v := by
  have := congrArg (·[0]?) h
  rw [List.drop_take] at this
  simpa [List.getElem?_take, List.getElem?_drop, Nat.sub_pos_of_lt ho] using this

abbrev two : List (String × DataW Unit) := [("tenure/word.numbers", Rows.laid_tenure_word_numbers), ("tenure/term.shapes", Rows.laid_tenure_term_shapes)]
theorem two_plain (W : World) : laidMetH Tryd.prog two W = laidMet Tryd.prog two W := Go.MakeChecks.laidMetH_plain _ _ _ (by kernel_rfl)
/-- What the row's list gives: the table's cells hold the bounds. -/
theorem word_tab2 {W : World} (h : laidMetH Tryd.prog two W) : WordTab W := by
  rw [two_plain] at h
  obtain ⟨ps, ⟨g', t', cs, fuel, p, q, hg', ht', hvar, hd, _, _⟩, _⟩ := h
  obtain rfl := Option.some.inj (gNumbers.symm.trans hg')
  obtain rfl := Option.some.inj (gNumbersType.symm.trans ht')
  rw [wordParts_is] at hd
  obtain ⟨xs, m, _, ex, _, hl, hel⟩ := DataW.trod_array Tryd.underlying135 hd
  have hx : wordParts = xs.map (·.1) := by
    have := congrArg Prod.fst ex
    simpa using this
  have both : ∀ i : Nat, i < 12 → cs.toList[i * 2 + 0]? = some (.int .i64 (Wd.lo i)) ∧ cs.toList[i * 2 + 1]? = some (.int .i64 (Wd.hi i)) := by
    intro i hi
    have e := wordParts_at i hi
    rw [hx, List.getElem?_map, Option.map_eq_some_iff] at e
    obtain ⟨x, hxi, hx1⟩ := e
    have ht := hel i hi
    rw [hxi] at ht
    obtain ⟨y0, y1, n, rfl, _, t0, t1⟩ := trod_struct2 Tryd.underlying134 ht
    rw [cells_int, cellsBounds] at t0 t1
    obtain ⟨z0, c0, rfl, _⟩ := DataW.trod_int Tryd.underlying3 t0
    obtain ⟨z1, c1, rfl, _⟩ := DataW.trod_int Tryd.underlying3 t1
    simp only [DataW.agg.injEq, List.cons.injEq, DataW.lit.injEq, Lit.int.injEq, true_and, and_true] at hx1
    obtain ⟨rfl, rfl⟩ := hx1
    exact ⟨cell_of_take2 (by omega) c0, cell_of_take2 (by omega) c1⟩
  have cell := fun i => World.var?_cell gNumbers hvar i
  refine ⟨fun k hk => ?_, fun k hk => ?_, ?_⟩
  · rw [cell (k * 2)]
    simpa using (both k hk).1
  · rw [cell (k * 2 + 1)]
    simpa using (both k hk).2
  · have e := cell 0
    have b := (both 0 (by omega)).1
    refine World.block_lt_of_cell? W ⟨1, 0, none⟩ (u := .int .i64 (Wd.lo (0 : Nat))) ?_
    rw [e]
    simpa using b
theorem shape_tab2 {W : World} (h : laidMetH Tryd.prog two W) : ShapeTab W := by
  rw [two_plain] at h
  refine shape_tab ?_
  rw [Go.MakeChecks.laidMetH_plain _ _ _ (by kernel_rfl)]
  exact laidMet.tail h
noncomputable def laidWorld2 (os : Os) : World := World.laidAll Tryd.prog os two
theorem laid_met2 (os : Os) (args : Array Value) : laidMet Tryd.prog two ((laidWorld2 os).forCall (fun _ _ => 0) ⟨#[], args, []⟩).memory := laidMet_laidAll args (by kernel_rfl) (by kernel_rfl)

theorem cells_word : Tryd.prog.cellsOf 62 = 1 := by kernel_rfl
section
variable {H : Type} {enc : TypeId × Value → H} {w : World} {base : Nat} {spare : Nat → Bool} {held : Bool}
set_option maxRecDepth 100000 in
theorem open_words {r : Reach} {b0 : Nat} {v : Value} {d : DataW H} {p : List MemPlace} (hv : Value.okWide Tryd.prog w r b0 33 v) (h : DataW.Trod enc Tryd.prog w base spare held 33 v d p) :
    ∃ (xs : List Int) (a : Option Addr) (cap : Nat), v = .slice a xs.length cap ∧ Wrd w xs a cap ∧ (a = none → cap = 0) := by
  obtain ⟨a, len, cap, rfl⟩ := okWide_slice Tryd.underlying33 hv
  obtain ⟨fuel, hf⟩ := h
  rcases open_ints Tryd.underlying33 Tryd.underlying62 cells_word hf with ⟨hc, _⟩ | ⟨a', len', cap', zs, hc, _, hle, hm, hz, _, hcell, hw⟩
  · have hc' : Value.slice a len cap = .slice none 0 0 := by simpa [Value.cells] using hc
    obtain ⟨rfl, rfl, rfl⟩ := by simpa using hc'
    exact ⟨[], none, 0, rfl, ⟨⟨Nat.le_refl _, Nat.zero_le _⟩, fun x hx => (by cases hx), fun h => absurd h (Nat.lt_irrefl _)⟩, fun _ => rfl⟩
  · have hc' : Value.slice a len cap = .slice (some a') len' cap' := by simpa [Value.cells] using hc
    obtain ⟨rfl, rfl, rfl⟩ := by simpa using hc'
    have hlz : len ≤ zs.length := by rw [hz]; split <;> omega
    have hlb : (zs.take len).length = len := by rw [List.length_take]; omega
    have hspot : 0 < zs.length → a'.spot = none := fun h0 => by
      have hc0 := hcell 0 h0
      have hs : (a'.add 0).spot = a'.spot := by unfold Addr.add; simp
      unfold World.cell? at hc0
      rw [hs] at hc0
      rcases hsp : a'.spot with _ | s
      · rfl
      · exfalso
        rw [hsp] at hc0
        split at hc0 <;> simp at hc0
    refine ⟨zs.take len, some a', cap, by rw [hlb], ⟨by rw [hlb]; exact ⟨hle, by unfold maxLen at hm; omega⟩, fun x hx => ?_, fun h0 => ?_⟩, fun h => by cases h⟩
    · have hb := bounds_u64 (hw x (List.mem_of_mem_take hx))
      omega
    · rw [hlb] at h0
      have hs := hspot (by omega)
      obtain ⟨b, o, sp⟩ := a'
      simp only at hs
      subst hs
      refine ⟨b, o, rfl, fun j hj => ?_⟩
      have hj' : j < len := by rw [hlb] at hj; exact hj
      have hcj := hcell j (by omega)
      rw [add_plain] at hcj
      rw [hcj]
      simp [List.getD, show j < zs.length by omega]
end
end Go.Proofs.YthkjdcmlalgphaaDoor
