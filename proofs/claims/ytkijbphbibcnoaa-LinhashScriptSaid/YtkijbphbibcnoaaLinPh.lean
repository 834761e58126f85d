/-
  slices' Delete of one item of a row.
-/
import Derived.Test.YtkijbphbibcnoaaLinPg
import Derived.Test.YtkijbphbibcnoaaKitDel
namespace Go.Proofs.Ytkijbphbibcnoaa
open Go.RowKit Go.Deep Go.Maps Go.WideShapes

set_option maxHeartbeats 4000000 in
set_option maxRecDepth 100000 in
theorem delete_any (g cap : Nat) (R : List It) (i : Nat) (hi : i < R.length) (w : World) (h : Its w (.slice (some ⟨g, 0, none⟩) R.length cap) R) (hl : R.length ≤ 1000000) :
    Calls Try.prog 42 #[.slice (some ⟨g, 0, none⟩) R.length cap, .int .i64 i, .int .i64 ((i + 1 : Nat) : Int)] w fun e w' =>
      (∃ m, e = .returned (.slice (some ⟨g, 0, none⟩) m cap) ∧ Its w' (.slice (some ⟨g, 0, none⟩) m cap) (R.take i ++ R.drop (i + 1))) ∧ Only (fun k => k = g) w w' := by
  obtain ⟨m, hm⟩ : ∃ m, R.length = m + 1 := ⟨R.length - 1, by omega⟩
  obtain ⟨_, _, e, hcap, hmx, hx1, hx2⟩ := h.cells
  simp only [Value.slice.injEq, true_and] at e
  obtain ⟨rfl, rfl⟩ := e
  clear hx1 hx2
  rw [hm] at hcap
  have htk := h.take i (by omega)
  have hcel := its_cel h
  -- what is moved up
  obtain ⟨dA, hdA⟩ : ∃ dA : Addr, (if cap = i + 1 then some ⟨g, 0, none⟩ else some ⟨g, (i + 1) * 2, none⟩) = some dA := by
    by_cases e : cap = i + 1
    · exact ⟨_, by rw [if_pos e]⟩
    · exact ⟨_, by rw [if_neg e]⟩
  have hsl := fun W => slice_from g R.length cap (i + 1) (by omega) W
  have hdc := fun (W : World) (hW : Below w.heap.size w W) => drop_cs (k := i + 1) (hcel.up hW) (by omega : R.length ≤ cap)
  rw [hdA] at hsl hdc
  have hdl : (R.drop (i + 1)).length = m - i := by rw [List.length_drop]; omega
  have hA := fun (W : World) (hW : Below w.heap.size w W) => append_fits itS W 43 (R.take i) (R.drop (i + 1)) (htk.up hW) dA (cap - (i + 1)) (hdc W hW) (by rw [hdl]; omega)
  rw [hdl] at hA
  have HA := Hid.mk hA
  have HSL := Hid.mk hsl
  have HM := Hid.mk (And.intro hm (And.intro hi (And.intro hcap (And.intro hl hmx))))
  rw [hm]
  rw [hm, show m + 1 - (i + 1) = m - i by omega] at HSL
  have k1 : ((i : Int) == ((i + 1 : Nat) : Int)) = false := by simp; omega
  have k2 : (i : Int) ≤ cap := by omega
  have k3 : ((m : Int) + 1) ≤ cap := by omega
  have k4 : (cap : Int) ≤ 9223372036854775807 := by unfold maxLen at hmx; omega
  have k5 : (i : Int) ≤ m := by omega
  clear hA hsl hdc htk hcel h hm hi hl hcap hmx hdA hdl
  go_enter Try.func42, Try.ntmps42
  go_upto_region 5 with fail
  obtain ⟨w9, hr9, hi9, ho9, hz9⟩ := HA.out { w with drawn := w.drawn + 1 } (Up.refl w).drew.out
  have hO9 : Only (fun k => k = g) w w9 := (Only.up (Up.refl w).drew.out).trans ho9 (fun _ h => Or.inl h)
  obtain ⟨w8, hcl, hi8, ho8, hz8⟩ := hi9.clear (by have := HM.out; omega) (fun u hu => by
    have : u = .int .u32 0 ∨ u = .int .i64 0 := by simpa [itS, Value.cells] using hu
    rcases this with rfl | rfl <;> rfl)
  have HE := Hid.mk (And.intro (show Its w8 (.slice (some ⟨g, 0, none⟩) (i + (m - i)) cap) (R.take i ++ R.drop (i + 1)) from hi8) (hO9.trans ho8 (fun _ h => Or.inl h)))
  have him : i + (m - i) = m := by have := HM.out; omega
  rw [him] at hr9 hcl HE
  have hcl2 : ∀ ty c, (Builtin.clear_ #[43] ty #[.slice (some ⟨g, m * 2, none⟩) 1 c]).run Try.prog w9 = .ok (.tuple #[]) w8 := hcl
  clear hcl hi9 ho9 hz9 hi8 ho8 hz8 him HA
  refine wp_region_held (S := Only (fun k => k = g) w) (by kernel_rfl) ?_
  refine chain_take (i := 0) (d := 20) (v := .slice (some ⟨g, 0, none⟩) (m + 1) cap) rfl rfl (by kernel_rfl) (by kernel_rfl) (by kernel_rfl) rfl (fun _ _ => rfl) (fun _ _ _ h => h) (Only.refl _ w).drew ?_
  simp only [Act.put, List.setIfInBounds_toArray, List.set_cons_zero, List.set_cons_succ]
  refine chain_take (i := 1) (d := 21) (v := .int .i64 i) rfl rfl (by kernel_rfl) (by kernel_rfl) (by kernel_rfl) rfl (fun _ _ => rfl) (fun _ _ _ h => h) (Only.refl _ w).drew ?_
  simp only [Act.put, List.setIfInBounds_toArray, List.set_cons_zero, List.set_cons_succ]
  refine chain_take (i := 2) (d := 22) (v := .slice (some ⟨g, 0, none⟩) i cap) rfl rfl (by kernel_rfl) (by kernel_rfl) (by kernel_rfl) rfl (fun _ _ => (by go_simp)) (fun _ _ _ h => h) (Only.refl _ w).drew ?_
  simp only [Act.put, List.setIfInBounds_toArray, List.set_cons_zero, List.set_cons_succ]
  refine chain_take (i := 3) (d := 23) (v := .slice (some ⟨g, 0, none⟩) (m + 1) cap) rfl rfl (by kernel_rfl) (by kernel_rfl) (by kernel_rfl) rfl (fun _ _ => rfl) (fun _ _ _ h => h) (Only.refl _ w).drew ?_
  simp only [Act.put, List.setIfInBounds_toArray, List.set_cons_zero, List.set_cons_succ]
  refine chain_take (i := 4) (d := 24) (v := .int .i64 ((i + 1 : Nat) : Int)) rfl rfl (by kernel_rfl) (by kernel_rfl) (by kernel_rfl) rfl (fun _ _ => rfl) (fun _ _ _ h => h) (Only.refl _ w).drew ?_
  simp only [Act.put, List.setIfInBounds_toArray, List.set_cons_zero, List.set_cons_succ]
  refine chain_take (i := 5) (d := 25) (v := .slice (some dA) (m - i) (cap - (i + 1))) rfl rfl (by kernel_rfl) (by kernel_rfl) (by kernel_rfl) rfl (fun W _ => exec_slice_low rfl rfl (HSL.out W)) (fun _ _ _ h => h) (Only.refl _ w).drew ?_
  simp only [Act.put, List.setIfInBounds_toArray, List.set_cons_zero, List.set_cons_succ]
  refine chain_value (i := 6) (d := 26) (v := _) (w' := w9) (by kernel_rfl) rfl rfl rfl (exec_append rfl rfl hr9) hO9 ?_
  simp only [Act.put, List.setIfInBounds_toArray, List.set_cons_zero, List.set_cons_succ]
  refine chain_take (i := 7) (d := 0) (v := .slice (some ⟨g, 0, none⟩) m cap) rfl rfl (by kernel_rfl) (by kernel_rfl) (by kernel_rfl) rfl (fun _ _ => rfl) (fun _ _ _ h => h) hO9 ?_
  simp only [Act.put, List.setIfInBounds_toArray, List.set_cons_zero, List.set_cons_succ]
  refine wpAnyH_done (by kernel_rfl) ?_ _
  clear hr9 hO9
  go_wp2
  go_ret
  exact ⟨⟨_, rfl, HE.out.1⟩, HE.out.2⟩
end Go.Proofs.Ytkijbphbibcnoaa
