/-
  The program's reader: its state, and its small steps.
-/
import Derived.Test.YtnbekfpkmebmbaaGreatDoorZTextW5
import Derived.Test.YtnbekfpkmebmbaaGreatDoorZTextNext
import Derived.Test.YtnbekfpkmebmbaaGreatDoorZFloats
import Derived.Deep.LoopGhost
namespace Go.Proofs.YtnbekfpkmebmbaaGreatDoor
open Go.RowKit Go.Deep

/-- A reader at block p: of the text s, at i, g terms begun, within d brackets. -/
def RdP (w : World) (p : Nat) (s : List UInt8) (i g d : Nat) : Prop := w.heap[p]? = some (.cells #[.string (tx s), .int .i64 i, .int .i64 g, .int .i64 d] 33)
theorem RdP.cells {w : World} {p : Nat} {s : List UInt8} {i g d : Nat} (h : RdP w p s i g d) :
    (w.cell? ⟨p, 0, none⟩ = some (.string (tx s)) ∧ w.cell? ⟨p, 1, none⟩ = some (.int .i64 i) ∧ w.cell? ⟨p, 2, none⟩ = some (.int .i64 g) ∧ w.cell? ⟨p, 3, none⟩ = some (.int .i64 d)) ∧
      w.frozen? ⟨p, 0, none⟩ = false ∧ w.frozen? ⟨p, 1, none⟩ = false ∧ w.frozen? ⟨p, 2, none⟩ = false ∧ w.frozen? ⟨p, 3, none⟩ = false := by
  have h' : w.heap[p]? = _ := h
  simp [World.cell?, World.frozen?, h']
theorem RdP.lt {w : World} {p : Nat} {s : List UInt8} {i g d : Nat} (h : RdP w p s i g d) : p < w.heap.size := (Array.getElem?_eq_some_iff.1 (show w.heap[p]? = _ from h)).1
theorem RdP.up {w w' : World} {p : Nat} {s : List UInt8} {i g d : Nat} (h : RdP w p s i g d) (hb : Below w.heap.size w w') : RdP w' p s i g d := (hb.block _ h.lt).trans h
theorem RdP.at {w : World} {p : Nat} {s : List UInt8} {i g d : Nat} (h : RdP w p s i g d) (j : Nat) : RdP (w.setCell ⟨p, 1, none⟩ (.int .i64 j)) p s j g d := by
  have h' : w.heap[p]? = _ := h
  simp [RdP, World.setCell, Array.getElem?_modify, h']
theorem RdP.begun {w : World} {p : Nat} {s : List UInt8} {i g d : Nat} (h : RdP w p s i g d) (j : Nat) : RdP (w.setCell ⟨p, 2, none⟩ (.int .i64 j)) p s i j d := by
  have h' : w.heap[p]? = _ := h
  simp [RdP, World.setCell, Array.getElem?_modify, h']
theorem RdP.deep {w : World} {p : Nat} {s : List UInt8} {i g d : Nat} (h : RdP w p s i g d) (j : Nat) : RdP (w.setCell ⟨p, 3, none⟩ (.int .i64 j)) p s i g j := by
  have h' : w.heap[p]? = _ := h
  simp [RdP, World.setCell, Array.getElem?_modify, h']

/-- Of what was there nothing has been written but the reader. -/
structure Mv (p : Nat) (w w' : World) : Prop where
  os : w'.os = w.os
  tape : w'.tape = w.tape
  output : w'.output = w.output
  size : w.heap.size ≤ w'.heap.size
  block : ∀ k, k < w.heap.size → k ≠ p → w'.heap[k]? = w.heap[k]?
theorem Mv.refl (p : Nat) (w : World) : Mv p w w := ⟨rfl, rfl, rfl, Nat.le_refl _, fun _ _ _ => rfl⟩
theorem Mv.trans {p : Nat} {a b c : World} (h : Mv p a b) (k : Mv p b c) : Mv p a c :=
  ⟨k.os.trans h.os, k.tape.trans h.tape, k.output.trans h.output, Nat.le_trans h.size k.size, fun i hi hn => (k.block i (Nat.lt_of_lt_of_le hi h.size) hn).trans (h.block i hi hn)⟩
theorem Mv.up {p : Nat} {w w' : World} (h : Below w.heap.size w w') : Mv p w w' := ⟨h.os, h.tape, h.output, h.size, fun k hk _ => h.block k hk⟩
theorem Mv.set {p j : Nat} {a w : World} {v : Value} (h : Mv p a w) : Mv p a (w.setCell ⟨p, j, none⟩ v) :=
  ⟨h.os, h.tape, h.output, by rw [size_setCell']; exact h.size, fun k hk hn => (Below.heap_setCell _ _ _ _ hn).trans (h.block k hk hn)⟩
theorem Mv.drew {p : Nat} {a w : World} (h : Mv p a w) : Mv p a w.drew := ⟨h.os, h.tape, h.output, h.size, h.block⟩
theorem Mv.below {p B : Nat} {w w' : World} (h : Mv p w w') (h1 : B ≤ p) (h2 : B ≤ w.heap.size) : Below B w w' := ⟨h.os, h.tape, h.output, h.size, fun k hk => h.block k (by omega) (by omega)⟩
theorem Mv.wld {p : Nat} {w w' : World} (h : Mv p w w') (hw : Wld w) (hp : 6 ≤ p) : Wld w' := hw.from (h.below hp hw.size) (Nat.le_refl _)
theorem Mv.box {p k : Nat} {w w' : World} {o : Obj} (h : Mv p w w') (hk : w.heap[k]? = some o) (hn : k ≠ p) : w'.heap[k]? = some o := (h.block k (Array.getElem?_eq_some_iff.1 hk).1 hn).trans hk

/-- A text is refused. -/
def fault4 : Ending := .panicked [{ v := .iface 31 (.int .i64 4), recovered := false }]

theorem must_yes (w : World) : Calls Tryz.prog 20 #[.bool true] w fun e w' => e = .returned (.tuple #[]) ∧ w = w' := by
  go_enter Tryz.func20, Tryz.ntmps20
  go_wp2
  go_end0
  exact ⟨rfl, rfl⟩
theorem must_no (w : World) : Calls Tryz.prog 20 #[.bool false] w fun e w' => e = fault4 ∧ w = w' := by
  go_enter Tryz.func20, Tryz.ntmps20
  go_wp2
  exact ⟨rfl, rfl, rfl⟩
theorem must_any (b : Bool) (w : World) : Calls Tryz.prog 20 #[.bool b] w fun e w' => ((b = true ∧ e = .returned (.tuple #[])) ∨ (b = false ∧ e = fault4)) ∧ w = w' := by
  cases b
  · exact (must_no w).mono fun e w' h => ⟨Or.inr ⟨rfl, h.1⟩, h.2⟩
  · exact (must_yes w).mono fun e w' h => ⟨Or.inl ⟨rfl, h.1⟩, h.2⟩
theorem tooLong_any (p : Nat) (s : List UInt8) (i g d : Nat) (w : World) (h : RdP w p s i g d) (hg : g ≤ 65536) :
    Calls Tryz.prog 21 #[.pointer (some ⟨p, 0, none⟩)] w fun e w' => e = .returned (.bool false) ∧ w = w' := by
  obtain ⟨⟨c0, c1, c2, c3⟩, _⟩ := h.cells
  go_enter Tryz.func21, Tryz.ntmps21
  go_wp2
  go_ret
  exact ⟨ret_bool (by simp; omega), rfl⟩

theorem peek_any (p : Nat) (s : List UInt8) (i g d : Nat) (w : World) (h : RdP w p s i g d) (hi : i ≤ s.length) :
    Calls Tryz.prog 47 #[.pointer (some ⟨p, 0, none⟩)] w fun e w' => e = .returned (.int .u8 ((s.drop i).headD 0).toNat) ∧ Below w.heap.size w w' := by
  obtain ⟨⟨c0, c1, c2, c3⟩, _⟩ := h.cells
  have hsz := tx_size s
  by_cases hlt : i < s.length
  · have hlt' : i < (tx s).size := by omega
    have hx : (tx s)[i]'hlt' = s[i] := rfl
    have hd : (s.drop i).headD 0 = s[i] := by rw [List.drop_eq_getElem_cons hlt]; rfl
    have he : ((i : Int) == s.length) = false := by rw [beq_eq_false_iff_ne]; omega
    rw [hd]
    generalize s[i] = x at hx
    go_enter Tryz.func47, Tryz.ntmps47
    go_wp2
    refine region_up (W := w) (by kernel_rfl) (by kernel_rfl) (Up.refl _) ?_
    refine quiet_value (v := .pointer (some ⟨p, 0, none⟩)) rfl (fun _ _ => rfl) ?_
    simp only [Act.put, List.setIfInBounds_toArray, List.set_cons_zero, List.set_cons_succ]
    refine quiet_value (v := .pointer (some ⟨p, 0, none⟩)) rfl (fun _ _ => (by go_simp)) ?_
    simp only [Act.put, List.setIfInBounds_toArray, List.set_cons_zero, List.set_cons_succ]
    refine quiet_value (v := .pointer (some ⟨p, 1, none⟩)) rfl (fun _ _ => (by go_simp)) ?_
    simp only [Act.put, List.setIfInBounds_toArray, List.set_cons_zero, List.set_cons_succ]
    refine quiet_value (v := .int .i64 i) rfl (fun W h => (by have u0 := cell_below h.out _ _ _ c1; go_simp)) ?_
    simp only [Act.put, List.setIfInBounds_toArray, List.set_cons_zero, List.set_cons_succ]
    refine quiet_value (v := .pointer (some ⟨p, 0, none⟩)) rfl (fun _ _ => rfl) ?_
    simp only [Act.put, List.setIfInBounds_toArray, List.set_cons_zero, List.set_cons_succ]
    refine quiet_value (v := .pointer (some ⟨p, 0, none⟩)) rfl (fun _ _ => (by go_simp)) ?_
    simp only [Act.put, List.setIfInBounds_toArray, List.set_cons_zero, List.set_cons_succ]
    refine quiet_value (v := .pointer (some ⟨p, 0, none⟩)) rfl (fun _ _ => (by go_simp)) ?_
    simp only [Act.put, List.setIfInBounds_toArray, List.set_cons_zero, List.set_cons_succ]
    refine quiet_value (v := .string (tx s)) rfl (fun W h => (by have u0 := cell_below h.out _ _ _ c0; go_simp)) ?_
    simp only [Act.put, List.setIfInBounds_toArray, List.set_cons_zero, List.set_cons_succ]
    refine quiet_value (v := .int .i64 s.length) rfl (fun _ _ => (by go_simp)) ?_
    simp only [Act.put, List.setIfInBounds_toArray, List.set_cons_zero, List.set_cons_succ]
    refine quiet_value (v := .bool false) rfl (fun _ _ => (by go_simp)) ?_
    simp only [Act.put, List.setIfInBounds_toArray, List.set_cons_zero, List.set_cons_succ]
    refine quiet_nil ?_
    intro w1 hw1
    obtain ⟨⟨c0, c1, c2, c3⟩, _⟩ := (h.up hw1).cells
    go_wp2
    refine region_up (W := w1) (by kernel_rfl) (by kernel_rfl) (Up.refl _) ?_
    refine quiet_value (v := .pointer (some ⟨p, 0, none⟩)) rfl (fun _ _ => rfl) ?_
    simp only [Act.put, List.setIfInBounds_toArray, List.set_cons_zero, List.set_cons_succ]
    refine quiet_value (v := .pointer (some ⟨p, 0, none⟩)) rfl (fun _ _ => (by go_simp)) ?_
    simp only [Act.put, List.setIfInBounds_toArray, List.set_cons_zero, List.set_cons_succ]
    refine quiet_value (v := .pointer (some ⟨p, 0, none⟩)) rfl (fun _ _ => (by go_simp)) ?_
    simp only [Act.put, List.setIfInBounds_toArray, List.set_cons_zero, List.set_cons_succ]
    refine quiet_value (v := .string (tx s)) rfl (fun W h => (by have u0 := cell_below h.out _ _ _ c0; go_simp)) ?_
    simp only [Act.put, List.setIfInBounds_toArray, List.set_cons_zero, List.set_cons_succ]
    refine quiet_value (v := .pointer (some ⟨p, 0, none⟩)) rfl (fun _ _ => rfl) ?_
    simp only [Act.put, List.setIfInBounds_toArray, List.set_cons_zero, List.set_cons_succ]
    refine quiet_value (v := .pointer (some ⟨p, 0, none⟩)) rfl (fun _ _ => (by go_simp)) ?_
    simp only [Act.put, List.setIfInBounds_toArray, List.set_cons_zero, List.set_cons_succ]
    refine quiet_value (v := .pointer (some ⟨p, 1, none⟩)) rfl (fun _ _ => (by go_simp)) ?_
    simp only [Act.put, List.setIfInBounds_toArray, List.set_cons_zero, List.set_cons_succ]
    refine quiet_value (v := .int .i64 i) rfl (fun W h => (by have u0 := cell_below h.out _ _ _ c1; go_simp)) ?_
    simp only [Act.put, List.setIfInBounds_toArray, List.set_cons_zero, List.set_cons_succ]
    refine quiet_value (v := .int .u8 x.toNat) rfl (fun _ _ => (by go_simp)) ?_
    simp only [Act.put, List.setIfInBounds_toArray, List.set_cons_zero, List.set_cons_succ]
    refine quiet_value (v := .int .u8 x.toNat) rfl (fun _ _ => rfl) ?_
    simp only [Act.put, List.setIfInBounds_toArray, List.set_cons_zero, List.set_cons_succ]
    refine quiet_nil ?_
    intro w4 hw4
    go_wp2
    go_ret
    exact ⟨rfl, hw1.call hw4⟩
  · obtain rfl : i = s.length := by omega
    rw [List.drop_length]
    go_enter Tryz.func47, Tryz.ntmps47
    go_wp2
    refine region_up (W := w) (by kernel_rfl) (by kernel_rfl) (Up.refl _) ?_
    refine quiet_value (v := .pointer (some ⟨p, 0, none⟩)) rfl (fun _ _ => rfl) ?_
    simp only [Act.put, List.setIfInBounds_toArray, List.set_cons_zero, List.set_cons_succ]
    refine quiet_value (v := .pointer (some ⟨p, 0, none⟩)) rfl (fun _ _ => (by go_simp)) ?_
    simp only [Act.put, List.setIfInBounds_toArray, List.set_cons_zero, List.set_cons_succ]
    refine quiet_value (v := .pointer (some ⟨p, 1, none⟩)) rfl (fun _ _ => (by go_simp)) ?_
    simp only [Act.put, List.setIfInBounds_toArray, List.set_cons_zero, List.set_cons_succ]
    refine quiet_value (v := .int .i64 s.length) rfl (fun W h => (by have u0 := cell_below h.out _ _ _ c1; go_simp)) ?_
    simp only [Act.put, List.setIfInBounds_toArray, List.set_cons_zero, List.set_cons_succ]
    refine quiet_value (v := .pointer (some ⟨p, 0, none⟩)) rfl (fun _ _ => rfl) ?_
    simp only [Act.put, List.setIfInBounds_toArray, List.set_cons_zero, List.set_cons_succ]
    refine quiet_value (v := .pointer (some ⟨p, 0, none⟩)) rfl (fun _ _ => (by go_simp)) ?_
    simp only [Act.put, List.setIfInBounds_toArray, List.set_cons_zero, List.set_cons_succ]
    refine quiet_value (v := .pointer (some ⟨p, 0, none⟩)) rfl (fun _ _ => (by go_simp)) ?_
    simp only [Act.put, List.setIfInBounds_toArray, List.set_cons_zero, List.set_cons_succ]
    refine quiet_value (v := .string (tx s)) rfl (fun W h => (by have u0 := cell_below h.out _ _ _ c0; go_simp)) ?_
    simp only [Act.put, List.setIfInBounds_toArray, List.set_cons_zero, List.set_cons_succ]
    refine quiet_value (v := .int .i64 s.length) rfl (fun _ _ => (by go_simp)) ?_
    simp only [Act.put, List.setIfInBounds_toArray, List.set_cons_zero, List.set_cons_succ]
    refine quiet_value (v := .bool true) rfl (fun _ _ => (by go_simp)) ?_
    simp only [Act.put, List.setIfInBounds_toArray, List.set_cons_zero, List.set_cons_succ]
    refine quiet_nil ?_
    intro w1 hw1
    go_wp2
    go_ret
    exact ⟨rfl, hw1⟩

theorem next_no (p : Nat) (s : List UInt8) (g d : Nat) (w : World) (h : RdP w p s s.length g d) :
    Calls Tryz.prog 90 #[.pointer (some ⟨p, 0, none⟩)] w fun e w' => e = fault4 ∧ Mv p w w' := by
  obtain ⟨⟨c0, c1, c2, c3⟩, _⟩ := h.cells
  have hsz := tx_size s
  go_enter Tryz.func90, Tryz.ntmps90
  go_wp2
  refine wp_region_held (S := Up w) (by kernel_rfl) ?_
  refine chain_take (i := 0) (d := 3) (v := .pointer (some ⟨p, 0, none⟩)) rfl rfl (by kernel_rfl) (by kernel_rfl) (by kernel_rfl) rfl (fun _ _ => rfl) (fun _ _ _ h => h) (Up.refl w).drew ?_
  simp only [Act.put, List.setIfInBounds_toArray, List.set_cons_zero, List.set_cons_succ]
  refine chain_take (i := 1) (d := 4) (v := .pointer (some ⟨p, 0, none⟩)) rfl rfl (by kernel_rfl) (by kernel_rfl) (by kernel_rfl) rfl (fun _ _ => (by go_simp)) (fun _ _ _ h => h) (Up.refl w).drew ?_
  simp only [Act.put, List.setIfInBounds_toArray, List.set_cons_zero, List.set_cons_succ]
  refine chain_take (i := 2) (d := 5) (v := .pointer (some ⟨p, 1, none⟩)) rfl rfl (by kernel_rfl) (by kernel_rfl) (by kernel_rfl) rfl (fun _ _ => (by go_simp)) (fun _ _ _ h => h) (Up.refl w).drew ?_
  simp only [Act.put, List.setIfInBounds_toArray, List.set_cons_zero, List.set_cons_succ]
  refine chain_take (i := 3) (d := 6) (v := .int .i64 s.length) rfl rfl (by kernel_rfl) (by kernel_rfl) (by kernel_rfl) rfl (fun W h => (by have u0 := cell_below h.out _ _ _ c1; go_simp)) (fun _ _ _ h => h) (Up.refl w).drew ?_
  simp only [Act.put, List.setIfInBounds_toArray, List.set_cons_zero, List.set_cons_succ]
  refine chain_take (i := 4) (d := 7) (v := .pointer (some ⟨p, 0, none⟩)) rfl rfl (by kernel_rfl) (by kernel_rfl) (by kernel_rfl) rfl (fun _ _ => rfl) (fun _ _ _ h => h) (Up.refl w).drew ?_
  simp only [Act.put, List.setIfInBounds_toArray, List.set_cons_zero, List.set_cons_succ]
  refine chain_take (i := 5) (d := 8) (v := .pointer (some ⟨p, 0, none⟩)) rfl rfl (by kernel_rfl) (by kernel_rfl) (by kernel_rfl) rfl (fun _ _ => (by go_simp)) (fun _ _ _ h => h) (Up.refl w).drew ?_
  simp only [Act.put, List.setIfInBounds_toArray, List.set_cons_zero, List.set_cons_succ]
  refine chain_take (i := 6) (d := 9) (v := .pointer (some ⟨p, 0, none⟩)) rfl rfl (by kernel_rfl) (by kernel_rfl) (by kernel_rfl) rfl (fun _ _ => (by go_simp)) (fun _ _ _ h => h) (Up.refl w).drew ?_
  simp only [Act.put, List.setIfInBounds_toArray, List.set_cons_zero, List.set_cons_succ]
  refine chain_take (i := 7) (d := 10) (v := .string (tx s)) rfl rfl (by kernel_rfl) (by kernel_rfl) (by kernel_rfl) rfl (fun W h => (by have u0 := cell_below h.out _ _ _ c0; go_simp)) (fun _ _ _ h => h) (Up.refl w).drew ?_
  simp only [Act.put, List.setIfInBounds_toArray, List.set_cons_zero, List.set_cons_succ]
  refine chain_take (i := 8) (d := 11) (v := .int .i64 s.length) rfl rfl (by kernel_rfl) (by kernel_rfl) (by kernel_rfl) rfl (fun _ _ => (by go_simp)) (fun _ _ _ h => h) (Up.refl w).drew ?_
  simp only [Act.put, List.setIfInBounds_toArray, List.set_cons_zero, List.set_cons_succ]
  refine chain_take (i := 9) (d := 12) (v := .bool false) rfl rfl (by kernel_rfl) (by kernel_rfl) (by kernel_rfl) rfl (fun _ _ => (by go_simp)) (fun _ _ _ h => h) (Up.refl w).drew ?_
  simp only [Act.put, List.setIfInBounds_toArray, List.set_cons_zero, List.set_cons_succ]
  refine chain_dies (i := 10) (d := 13) (f := 20) (args := #[.bool false]) (by kernel_rfl) rfl rfl rfl (by go_simp) ?_
  refine (must_no _).mono ?_
  rintro e w1 ⟨rfl, rfl⟩
  refine ⟨_, rfl, ?_⟩
  exact ⟨rfl, rfl, Mv.up (Up.refl w).drew⟩

theorem nextP_any (p : Nat) (s : List UInt8) (i g d : Nat) (w : World) (h : RdP w p s i g d) (hlt : i < s.length) (hs : s.length ≤ 1000000000) :
    Calls Tryz.prog 90 #[.pointer (some ⟨p, 0, none⟩)] w fun e w' => e = .returned (.int .u8 s[i].toNat) ∧ RdP w' p s (i + 1) g d ∧ Mv p w w' := by
  obtain ⟨⟨c0, c1, c2, c3⟩, f0, f1, f2, f3⟩ := h.cells
  have hsz := tx_size s
  have hlt' : i < (tx s).size := by omega
  have hx : (tx s)[i]'hlt' = s[i] := rfl
  generalize s[i] = x at *
  have hwi : IntKind.i64.wrap (i : Int) = i := wrap_id (by omega) (by omega)
  go_enter Tryz.func90, Tryz.ntmps90
  go_wp2
  refine wp_region_held (S := Up w) (by kernel_rfl) ?_
  refine chain_take (i := 0) (d := 3) (v := .pointer (some ⟨p, 0, none⟩)) rfl rfl (by kernel_rfl) (by kernel_rfl) (by kernel_rfl) rfl (fun _ _ => rfl) (fun _ _ _ h => h) (Up.refl w).drew ?_
  simp only [Act.put, List.setIfInBounds_toArray, List.set_cons_zero, List.set_cons_succ]
  refine chain_take (i := 1) (d := 4) (v := .pointer (some ⟨p, 0, none⟩)) rfl rfl (by kernel_rfl) (by kernel_rfl) (by kernel_rfl) rfl (fun _ _ => (by go_simp)) (fun _ _ _ h => h) (Up.refl w).drew ?_
  simp only [Act.put, List.setIfInBounds_toArray, List.set_cons_zero, List.set_cons_succ]
  refine chain_take (i := 2) (d := 5) (v := .pointer (some ⟨p, 1, none⟩)) rfl rfl (by kernel_rfl) (by kernel_rfl) (by kernel_rfl) rfl (fun _ _ => (by go_simp)) (fun _ _ _ h => h) (Up.refl w).drew ?_
  simp only [Act.put, List.setIfInBounds_toArray, List.set_cons_zero, List.set_cons_succ]
  refine chain_take (i := 3) (d := 6) (v := .int .i64 i) rfl rfl (by kernel_rfl) (by kernel_rfl) (by kernel_rfl) rfl (fun W h => (by have u0 := cell_below h.out _ _ _ c1; go_simp)) (fun _ _ _ h => h) (Up.refl w).drew ?_
  simp only [Act.put, List.setIfInBounds_toArray, List.set_cons_zero, List.set_cons_succ]
  refine chain_take (i := 4) (d := 7) (v := .pointer (some ⟨p, 0, none⟩)) rfl rfl (by kernel_rfl) (by kernel_rfl) (by kernel_rfl) rfl (fun _ _ => rfl) (fun _ _ _ h => h) (Up.refl w).drew ?_
  simp only [Act.put, List.setIfInBounds_toArray, List.set_cons_zero, List.set_cons_succ]
  refine chain_take (i := 5) (d := 8) (v := .pointer (some ⟨p, 0, none⟩)) rfl rfl (by kernel_rfl) (by kernel_rfl) (by kernel_rfl) rfl (fun _ _ => (by go_simp)) (fun _ _ _ h => h) (Up.refl w).drew ?_
  simp only [Act.put, List.setIfInBounds_toArray, List.set_cons_zero, List.set_cons_succ]
  refine chain_take (i := 6) (d := 9) (v := .pointer (some ⟨p, 0, none⟩)) rfl rfl (by kernel_rfl) (by kernel_rfl) (by kernel_rfl) rfl (fun _ _ => (by go_simp)) (fun _ _ _ h => h) (Up.refl w).drew ?_
  simp only [Act.put, List.setIfInBounds_toArray, List.set_cons_zero, List.set_cons_succ]
  refine chain_take (i := 7) (d := 10) (v := .string (tx s)) rfl rfl (by kernel_rfl) (by kernel_rfl) (by kernel_rfl) rfl (fun W h => (by have u0 := cell_below h.out _ _ _ c0; go_simp)) (fun _ _ _ h => h) (Up.refl w).drew ?_
  simp only [Act.put, List.setIfInBounds_toArray, List.set_cons_zero, List.set_cons_succ]
  refine chain_take (i := 8) (d := 11) (v := .int .i64 s.length) rfl rfl (by kernel_rfl) (by kernel_rfl) (by kernel_rfl) rfl (fun _ _ => (by go_simp)) (fun _ _ _ h => h) (Up.refl w).drew ?_
  simp only [Act.put, List.setIfInBounds_toArray, List.set_cons_zero, List.set_cons_succ]
  refine chain_take (i := 9) (d := 12) (v := .bool true) rfl rfl (by kernel_rfl) (by kernel_rfl) (by kernel_rfl) rfl (fun _ _ => (by go_simp)) (fun _ _ _ h => h) (Up.refl w).drew ?_
  simp only [Act.put, List.setIfInBounds_toArray, List.set_cons_zero, List.set_cons_succ]
  refine chain_call (i := 10) (d := 13) (f := 20) (args := #[.bool true]) (by kernel_rfl) rfl rfl rfl (by go_simp) ?_
  refine (must_yes _).mono ?_
  rintro e w1 ⟨rfl, rfl⟩
  refine ⟨.tuple #[], rfl, (Up.refl w).drew, ?_⟩
  simp only [Act.put, List.setIfInBounds_toArray, List.set_cons_zero, List.set_cons_succ]
  refine wpAnyH_done (by kernel_rfl) ?_ _
  obtain ⟨⟨c0, c1, c2, c3⟩, f0, f1, f2, f3⟩ := (h.up (Up.refl w).drew).cells
  go_wp2
  obtain ⟨W5, hW5⟩ : ∃ W5, (w.setCell ⟨p, 1, none⟩ (.int .i64 (i + 1))).drew = W5 := ⟨_, rfl⟩
  have hR5 : RdP W5 p s (i + 1) g d := by rw [← hW5]; exact h.at (i + 1)
  have hM5 : Mv p w W5 := by rw [← hW5]; exact (Mv.refl p w).set.drew
  rw [hW5]
  clear c0 c1 c2 c3 f0 f1 f2 f3 hW5
  obtain ⟨⟨c0, c1, c2, c3⟩, _⟩ := hR5.cells
  refine region_up (W := W5) (by kernel_rfl) (by kernel_rfl) (Up.refl _) ?_
  refine quiet_value (v := .pointer (some ⟨p, 0, none⟩)) rfl (fun _ _ => rfl) ?_
  simp only [Act.put, List.setIfInBounds_toArray, List.set_cons_zero, List.set_cons_succ]
  refine quiet_value (v := .pointer (some ⟨p, 0, none⟩)) rfl (fun _ _ => (by go_simp)) ?_
  simp only [Act.put, List.setIfInBounds_toArray, List.set_cons_zero, List.set_cons_succ]
  refine quiet_value (v := .pointer (some ⟨p, 0, none⟩)) rfl (fun _ _ => (by go_simp)) ?_
  simp only [Act.put, List.setIfInBounds_toArray, List.set_cons_zero, List.set_cons_succ]
  refine quiet_value (v := .string (tx s)) rfl (fun W h => (by have u0 := cell_below h.out _ _ _ c0; go_simp)) ?_
  simp only [Act.put, List.setIfInBounds_toArray, List.set_cons_zero, List.set_cons_succ]
  refine quiet_value (v := .pointer (some ⟨p, 0, none⟩)) rfl (fun _ _ => rfl) ?_
  simp only [Act.put, List.setIfInBounds_toArray, List.set_cons_zero, List.set_cons_succ]
  refine quiet_value (v := .pointer (some ⟨p, 0, none⟩)) rfl (fun _ _ => (by go_simp)) ?_
  simp only [Act.put, List.setIfInBounds_toArray, List.set_cons_zero, List.set_cons_succ]
  refine quiet_value (v := .pointer (some ⟨p, 1, none⟩)) rfl (fun _ _ => (by go_simp)) ?_
  simp only [Act.put, List.setIfInBounds_toArray, List.set_cons_zero, List.set_cons_succ]
  refine quiet_value (v := .int .i64 ((i + 1 : Nat) : Int)) rfl (fun W h => (by have u0 := cell_below h.out _ _ _ c1; go_simp)) ?_
  simp only [Act.put, List.setIfInBounds_toArray, List.set_cons_zero, List.set_cons_succ]
  refine quiet_value (v := .int .i64 i) rfl (fun _ _ => (by go_simp)) ?_
  simp only [Act.put, List.setIfInBounds_toArray, List.set_cons_zero, List.set_cons_succ]
  refine quiet_value (v := .int .u8 x.toNat) rfl (fun _ _ => (by go_simp)) ?_
  simp only [Act.put, List.setIfInBounds_toArray, List.set_cons_zero, List.set_cons_succ]
  refine quiet_value (v := .int .u8 x.toNat) rfl (fun _ _ => rfl) ?_
  simp only [Act.put, List.setIfInBounds_toArray, List.set_cons_zero, List.set_cons_succ]
  refine quiet_nil ?_
  intro w6 hw6
  go_wp2
  go_ret
  exact ⟨rfl, hR5.up hw6, hM5.trans (Mv.up hw6)⟩

theorem hasPrefix_strip (q : List UInt8) : ∀ r : List UInt8, Lib.hasPrefix r q = (strip q r).isSome := by
  intro r
  unfold Lib.hasPrefix
  induction q generalizing r with
  | nil => simp [strip]
  | cons a q ih =>
    cases r with
    | nil => simp [strip]
    | cons b r =>
      rw [strip]
      simp only [List.isPrefixOf]
      by_cases h : a = b
      · rw [if_pos h, ← ih]
        simp [h]
      · rw [if_neg h]
        simp [h]
theorem tx_head (s : List UInt8) (m : Nat) : (tx s).extract 0 m = tx (s.take m) := by
  have := tx_part s 0 m
  rwa [Nat.zero_add, List.drop_zero] at this
theorem strip_take {q s : List UInt8} (_ : q.length ≤ s.length) : (strip q s).isSome = decide (s.take q.length = q) := by
  rw [Bool.eq_iff_iff, decide_eq_true_eq, Option.isSome_iff_exists]
  constructor
  · rintro ⟨r, hr⟩
    rw [strip_some hr, List.take_left]
  · intro he
    have := List.take_append_drop q.length s
    rw [he] at this
    exact ⟨_, by rw [← this]; exact strip_app _ _⟩
set_option maxHeartbeats 1000000 in
theorem prefixIn_any (s q : List UInt8) (_ : s.length ≤ 1000000000) (_ : q.length ≤ 1000000000) (w : World) : Calls Tryz.prog 87 #[.string (tx s), .string (tx q)] w fun e w' => e = .returned (.bool (strip q s).isSome) ∧ Below w.heap.size w w' := by
  have hsz := tx_size s
  have hqz := tx_size q
  by_cases hlt : q.length ≤ s.length
  · have h1 : ((s.length : Int) ≥ q.length) := by omega
    have hex := tx_head s q.length
    have hr := strip_take hlt
    by_cases he : s.take q.length = q
    · rw [hr, decide_eq_true he]
      go_enter Tryz.func87, Tryz.ntmps87
      go_wp2
      go_ret
      exact ⟨rfl, Below.refl _ _⟩
    · rw [hr, decide_eq_false he]
      have he2 : ¬ (tx (s.take q.length)).toList = (tx q).toList := by rw [tx_toList, tx_toList]; exact he
      have he3 := Hid.mk (show ((tx (s.take q.length)).toList == (tx q).toList) = false by simpa using he2)
      go_enter Tryz.func87, Tryz.ntmps87
      go_wp2
      go_ret
      exact ⟨ret_bool he3.out, Below.refl _ _⟩
  · have hr : (strip q s).isSome = false := by
      cases h : strip q s with
      | none => rfl
      | some r =>
        have := congrArg List.length (strip_some h)
        rw [List.length_append] at this
        omega
    have hlt2 : ((s.length : Int) < q.length) := by omega
    rw [hr]
    go_enter Tryz.func87, Tryz.ntmps87
    go_wp2
    all_goals go_ret
    all_goals exact ⟨rfl, Below.refl _ _⟩
theorem prefix_any (s q : List UInt8) (hs : s.length ≤ 1000000000) (hq : q.length ≤ 1000000000) (w : World) : Calls Tryz.prog 60 #[.string (tx s), .string (tx q)] w fun e w' => e = .returned (.bool (strip q s).isSome) ∧ Below w.heap.size w w' := by
  go_enter Tryz.func60, Tryz.ntmps60
  go_wp2_with (go_at_call 87; refine (prefixIn_any s q hs hq _).mono ?_; rintro e w1 ⟨rfl, hb⟩)
  go_ret
  exact ⟨rfl, hb⟩

theorem skip_none (p : Nat) (s q : List UInt8) (i g d : Nat) (w : World) (h : RdP w p s i g d) (hi : i ≤ s.length) (hs : s.length ≤ 1000000000) (hq : q.length ≤ 1000) (hn : strip q (s.drop i) = none) :
    Calls Tryz.prog 40 #[.pointer (some ⟨p, 0, none⟩), .string (tx q)] w fun e w' => e = .returned (.bool false) ∧ Below w.heap.size w w' := by
  obtain ⟨⟨c0, c1, c2, c3⟩, f0, f1, f2, f3⟩ := h.cells
  have hsz := tx_size s
  have hqz := tx_size q
  go_enter Tryz.func40, Tryz.ntmps40
  go_wp2
  have hpf := fun w1 => prefix_any (s.drop i) q (by rw [List.length_drop]; omega) (by omega) w1
  rw [hn] at hpf
  have hex := tx_part s i (s.length - i)
  rw [show i + (s.length - i) = s.length by omega, List.take_of_length_le (by rw [List.length_drop]; exact Nat.le_refl _)] at hex
  refine wp_region_held (S := Up w) (by kernel_rfl) ?_
  refine chain_take (i := 0) (d := 5) (v := .pointer (some ⟨p, 0, none⟩)) rfl rfl (by kernel_rfl) (by kernel_rfl) (by kernel_rfl) rfl (fun _ _ => rfl) (fun _ _ _ h => h) (Up.refl w).drew ?_
  simp only [Act.put, List.setIfInBounds_toArray, List.set_cons_zero, List.set_cons_succ]
  refine chain_take (i := 1) (d := 6) (v := .pointer (some ⟨p, 0, none⟩)) rfl rfl (by kernel_rfl) (by kernel_rfl) (by kernel_rfl) rfl (fun _ _ => (by go_simp)) (fun _ _ _ h => h) (Up.refl w).drew ?_
  simp only [Act.put, List.setIfInBounds_toArray, List.set_cons_zero, List.set_cons_succ]
  refine chain_take (i := 2) (d := 7) (v := .pointer (some ⟨p, 0, none⟩)) rfl rfl (by kernel_rfl) (by kernel_rfl) (by kernel_rfl) rfl (fun _ _ => (by go_simp)) (fun _ _ _ h => h) (Up.refl w).drew ?_
  simp only [Act.put, List.setIfInBounds_toArray, List.set_cons_zero, List.set_cons_succ]
  refine chain_take (i := 3) (d := 8) (v := .string (tx s)) rfl rfl (by kernel_rfl) (by kernel_rfl) (by kernel_rfl) rfl (fun W h => (by have u0 := cell_below h.out _ _ _ c0; go_simp)) (fun _ _ _ h => h) (Up.refl w).drew ?_
  simp only [Act.put, List.setIfInBounds_toArray, List.set_cons_zero, List.set_cons_succ]
  refine chain_take (i := 4) (d := 9) (v := .pointer (some ⟨p, 0, none⟩)) rfl rfl (by kernel_rfl) (by kernel_rfl) (by kernel_rfl) rfl (fun _ _ => rfl) (fun _ _ _ h => h) (Up.refl w).drew ?_
  simp only [Act.put, List.setIfInBounds_toArray, List.set_cons_zero, List.set_cons_succ]
  refine chain_take (i := 5) (d := 10) (v := .pointer (some ⟨p, 0, none⟩)) rfl rfl (by kernel_rfl) (by kernel_rfl) (by kernel_rfl) rfl (fun _ _ => (by go_simp)) (fun _ _ _ h => h) (Up.refl w).drew ?_
  simp only [Act.put, List.setIfInBounds_toArray, List.set_cons_zero, List.set_cons_succ]
  refine chain_take (i := 6) (d := 11) (v := .pointer (some ⟨p, 1, none⟩)) rfl rfl (by kernel_rfl) (by kernel_rfl) (by kernel_rfl) rfl (fun _ _ => (by go_simp)) (fun _ _ _ h => h) (Up.refl w).drew ?_
  simp only [Act.put, List.setIfInBounds_toArray, List.set_cons_zero, List.set_cons_succ]
  refine chain_take (i := 7) (d := 12) (v := .int .i64 i) rfl rfl (by kernel_rfl) (by kernel_rfl) (by kernel_rfl) rfl (fun W h => (by have u0 := cell_below h.out _ _ _ c1; go_simp)) (fun _ _ _ h => h) (Up.refl w).drew ?_
  simp only [Act.put, List.setIfInBounds_toArray, List.set_cons_zero, List.set_cons_succ]
  refine chain_take (i := 8) (d := 13) (v := .string (tx (s.drop i))) rfl rfl (by kernel_rfl) (by kernel_rfl) (by kernel_rfl) rfl (fun _ _ => (by go_simp)) (fun _ _ _ h => h) (Up.refl w).drew ?_
  simp only [Act.put, List.setIfInBounds_toArray, List.set_cons_zero, List.set_cons_succ]
  refine chain_take (i := 9) (d := 14) (v := .string (tx q)) rfl rfl (by kernel_rfl) (by kernel_rfl) (by kernel_rfl) rfl (fun _ _ => rfl) (fun _ _ _ h => h) (Up.refl w).drew ?_
  simp only [Act.put, List.setIfInBounds_toArray, List.set_cons_zero, List.set_cons_succ]
  refine chain_call (i := 10) (d := 15) (f := 60) (args := #[.string (tx (s.drop i)), .string (tx q)]) (by kernel_rfl) rfl rfl rfl (by go_simp) ?_
  refine (hpf w.drew).mono ?_
  rintro e w1 ⟨rfl, hb1⟩
  refine ⟨.bool false, rfl, (Up.refl w).drew.call hb1, ?_⟩
  simp only [Act.put, List.setIfInBounds_toArray, List.set_cons_zero, List.set_cons_succ]
  refine chain_take (i := 11) (d := 16) (v := .bool true) rfl rfl (by kernel_rfl) (by kernel_rfl) (by kernel_rfl) rfl (fun _ _ => (by go_simp)) (fun _ _ _ h => h) ((Up.refl w).drew.call hb1) ?_
  simp only [Act.put, List.setIfInBounds_toArray, List.set_cons_zero, List.set_cons_succ]
  refine wpAnyH_done (by kernel_rfl) ?_ _
  go_wp2
  go_ret
  exact ⟨rfl, (Up.refl w).drew.call hb1⟩

theorem strip_len {q s r : List UInt8} (h : strip q s = some r) : s.length = q.length + r.length := by
  rw [strip_some h, List.length_append]
set_option maxHeartbeats 1000000 in
theorem skip_yes (p : Nat) (s q : List UInt8) (i g d : Nat) (r : List UInt8) (w : World) (h : RdP w p s i g d) (hi : i ≤ s.length) (hs : s.length ≤ 1000000000) (hn : strip q (s.drop i) = some r) :
    Calls Tryz.prog 40 #[.pointer (some ⟨p, 0, none⟩), .string (tx q)] w fun e w' => e = .returned (.bool true) ∧ RdP w' p s (i + q.length) g d ∧ Mv p w w' := by
  obtain ⟨⟨c0, c1, c2, c3⟩, f0, f1, f2, f3⟩ := h.cells
  have hsz := tx_size s
  have hqz := tx_size q
  have hle := strip_len hn
  rw [List.length_drop] at hle
  have hpf := fun w1 => prefix_any (s.drop i) q (by rw [List.length_drop]; omega) (by omega) w1
  rw [hn] at hpf
  have hex := tx_part s i (s.length - i)
  rw [show i + (s.length - i) = s.length by omega, List.take_of_length_le (by rw [List.length_drop]; exact Nat.le_refl _)] at hex
  have hw1 : IntKind.i64.wrap ((i : Int) + q.length) = i + q.length := wrap_id (by omega) (by omega)
  go_enter Tryz.func40, Tryz.ntmps40
  go_wp2
  refine wp_region_held (S := Up w) (by kernel_rfl) ?_
  refine chain_take (i := 0) (d := 5) (v := .pointer (some ⟨p, 0, none⟩)) rfl rfl (by kernel_rfl) (by kernel_rfl) (by kernel_rfl) rfl (fun _ _ => rfl) (fun _ _ _ h => h) (Up.refl w).drew ?_
  simp only [Act.put, List.setIfInBounds_toArray, List.set_cons_zero, List.set_cons_succ]
  refine chain_take (i := 1) (d := 6) (v := .pointer (some ⟨p, 0, none⟩)) rfl rfl (by kernel_rfl) (by kernel_rfl) (by kernel_rfl) rfl (fun _ _ => (by go_simp)) (fun _ _ _ h => h) (Up.refl w).drew ?_
  simp only [Act.put, List.setIfInBounds_toArray, List.set_cons_zero, List.set_cons_succ]
  refine chain_take (i := 2) (d := 7) (v := .pointer (some ⟨p, 0, none⟩)) rfl rfl (by kernel_rfl) (by kernel_rfl) (by kernel_rfl) rfl (fun _ _ => (by go_simp)) (fun _ _ _ h => h) (Up.refl w).drew ?_
  simp only [Act.put, List.setIfInBounds_toArray, List.set_cons_zero, List.set_cons_succ]
  refine chain_take (i := 3) (d := 8) (v := .string (tx s)) rfl rfl (by kernel_rfl) (by kernel_rfl) (by kernel_rfl) rfl (fun W h => (by have u0 := cell_below h.out _ _ _ c0; go_simp)) (fun _ _ _ h => h) (Up.refl w).drew ?_
  simp only [Act.put, List.setIfInBounds_toArray, List.set_cons_zero, List.set_cons_succ]
  refine chain_take (i := 4) (d := 9) (v := .pointer (some ⟨p, 0, none⟩)) rfl rfl (by kernel_rfl) (by kernel_rfl) (by kernel_rfl) rfl (fun _ _ => rfl) (fun _ _ _ h => h) (Up.refl w).drew ?_
  simp only [Act.put, List.setIfInBounds_toArray, List.set_cons_zero, List.set_cons_succ]
  refine chain_take (i := 5) (d := 10) (v := .pointer (some ⟨p, 0, none⟩)) rfl rfl (by kernel_rfl) (by kernel_rfl) (by kernel_rfl) rfl (fun _ _ => (by go_simp)) (fun _ _ _ h => h) (Up.refl w).drew ?_
  simp only [Act.put, List.setIfInBounds_toArray, List.set_cons_zero, List.set_cons_succ]
  refine chain_take (i := 6) (d := 11) (v := .pointer (some ⟨p, 1, none⟩)) rfl rfl (by kernel_rfl) (by kernel_rfl) (by kernel_rfl) rfl (fun _ _ => (by go_simp)) (fun _ _ _ h => h) (Up.refl w).drew ?_
  simp only [Act.put, List.setIfInBounds_toArray, List.set_cons_zero, List.set_cons_succ]
  refine chain_take (i := 7) (d := 12) (v := .int .i64 i) rfl rfl (by kernel_rfl) (by kernel_rfl) (by kernel_rfl) rfl (fun W h => (by have u0 := cell_below h.out _ _ _ c1; go_simp)) (fun _ _ _ h => h) (Up.refl w).drew ?_
  simp only [Act.put, List.setIfInBounds_toArray, List.set_cons_zero, List.set_cons_succ]
  refine chain_take (i := 8) (d := 13) (v := .string (tx (s.drop i))) rfl rfl (by kernel_rfl) (by kernel_rfl) (by kernel_rfl) rfl (fun _ _ => (by go_simp)) (fun _ _ _ h => h) (Up.refl w).drew ?_
  simp only [Act.put, List.setIfInBounds_toArray, List.set_cons_zero, List.set_cons_succ]
  refine chain_take (i := 9) (d := 14) (v := .string (tx q)) rfl rfl (by kernel_rfl) (by kernel_rfl) (by kernel_rfl) rfl (fun _ _ => rfl) (fun _ _ _ h => h) (Up.refl w).drew ?_
  simp only [Act.put, List.setIfInBounds_toArray, List.set_cons_zero, List.set_cons_succ]
  refine chain_call (i := 10) (d := 15) (f := 60) (args := #[.string (tx (s.drop i)), .string (tx q)]) (by kernel_rfl) rfl rfl rfl (by go_simp) ?_
  refine (hpf w.drew).mono ?_
  rintro e w1 ⟨rfl, hb1⟩
  refine ⟨.bool true, rfl, (Up.refl w).drew.call hb1, ?_⟩
  simp only [Act.put, List.setIfInBounds_toArray, List.set_cons_zero, List.set_cons_succ]
  refine chain_take (i := 11) (d := 16) (v := .bool false) rfl rfl (by kernel_rfl) (by kernel_rfl) (by kernel_rfl) rfl (fun _ _ => (by go_simp)) (fun _ _ _ h => h) ((Up.refl w).drew.call hb1) ?_
  simp only [Act.put, List.setIfInBounds_toArray, List.set_cons_zero, List.set_cons_succ]
  refine wpAnyH_done (by kernel_rfl) ?_ _
  have hu1 := (Up.refl w).drew.call hb1
  obtain ⟨⟨c0, c1, c2, c3⟩, f0, f1, f2, f3⟩ := (h.up hu1).cells
  go_wp2
  go_ret
  exact ⟨rfl, (h.up hu1).at (i + q.length), (Mv.up hu1).set⟩

end Go.Proofs.YtnbekfpkmebmbaaGreatDoor

/-
  The program's reader: what must be next, and runs of bytes of a sort.
-/
namespace Go.Proofs.YtnbekfpkmebmbaaGreatDoor
open Go.RowKit Go.Deep

theorem want_yes (p : Nat) (s q : List UInt8) (i g d : Nat) (r : List UInt8) (w : World) (h : RdP w p s i g d) (hi : i ≤ s.length) (hs : s.length ≤ 1000000000) (hn : strip q (s.drop i) = some r) :
    Calls Tryz.prog 63 #[.pointer (some ⟨p, 0, none⟩), .string (tx q)] w fun e w' => (∃ u, e = .returned u) ∧ RdP w' p s (i + q.length) g d ∧ Mv p w w' := by
  go_enter Tryz.func63, Tryz.ntmps63
  go_wp2_with (first
    | (go_at_call 40; refine (skip_yes p s q i g d r _ h hi hs hn).mono ?_; rintro e w1 ⟨rfl, h1, k1⟩)
    | (go_at_call 20; refine (must_yes _).mono ?_; rintro e w2 ⟨rfl, rfl⟩))
  go_end0
  exact ⟨⟨_, rfl⟩, h1, k1⟩
theorem want_no (p : Nat) (s q : List UInt8) (i g d : Nat) (w : World) (h : RdP w p s i g d) (hi : i ≤ s.length) (hs : s.length ≤ 1000000000) (hq : q.length ≤ 1000) (hn : strip q (s.drop i) = none) :
    Calls Tryz.prog 63 #[.pointer (some ⟨p, 0, none⟩), .string (tx q)] w fun e w' => e = fault4 ∧ Mv p w w' := by
  go_enter Tryz.func63, Tryz.ntmps63
  go_wp2_with (first
    | (go_at_call 40; refine (skip_none p s q i g d _ h hi hs hq hn).mono ?_; rintro e w1 ⟨rfl, hb1⟩)
    | (go_at_call 20; refine (must_no _).mono ?_; rintro e w2 ⟨rfl, rfl⟩; unfold fault4))
  exact ⟨rfl, rfl, Mv.up hb1⟩

theorem span_at (pr : UInt8 → Bool) (h0 : pr 0 = false) (q : List UInt8) : ∀ k, k ≤ (q.takeWhile pr).length → pr ((q.drop k).headD 0) = decide (k < (q.takeWhile pr).length) := by
  induction q with
  | nil => intro k hk; simp at hk; subst hk; simpa using h0
  | cons c q ih =>
    intro k hk
    rw [List.takeWhile_cons] at hk ⊢
    cases hc : pr c with
    | true =>
      rw [hc, if_pos rfl] at hk
      rw [if_pos rfl]
      cases k with
      | zero => simp [hc]
      | succ k =>
        rw [List.drop_succ_cons, ih k (by simpa using hk)]
        simp
    | false =>
      rw [hc, if_neg (by simp)] at hk
      rw [if_neg (by simp)]
      simp at hk
      subst hk
      simp [hc]
theorem dig0 : isDig 0 = false := by decide
theorem wd0 : isWd 0 = false := by decide

set_option maxHeartbeats 1000000 in
theorem spanDigit_any (p : Nat) (s : List UInt8) (i g d : Nat) (w : World) (h : RdP w p s i g d) (hi : i ≤ s.length) (hs : s.length ≤ 1000000000) :
    Calls Tryz.prog 71 #[.pointer (some ⟨p, 0, none⟩), .func (.func 95) #[] #[]] w fun e w' => (∃ u, e = .returned u) ∧ RdP w' p s (i + ((s.drop i).takeWhile isDig).length) g d ∧ Mv p w w' := by
  have hsp := Hid.mk (span_at isDig dig0 (s.drop i))
  have hml : ((s.drop i).takeWhile isDig).length ≤ s.length - i := by
    have := (List.takeWhile_sublist isDig (l := s.drop i)).length_le
    rwa [List.length_drop] at this
  generalize ((s.drop i).takeWhile isDig).length = m at *
  go_enter Tryz.func71, Tryz.ntmps71
  go_wp2
  go_loopg [8] m (fun q _ wr => ∃ k : Nat, Hid (k + q = m) ∧ RdP wr p s (i + k) g d ∧ Mv p w wr)
  case atStart => exact ⟨0, Hid.mk (by omega), h, Mv.refl _ _⟩
  case round =>
    obtain ⟨k, hkm, hR, hM⟩ := hrel
    have hk1 := hkm.out
    have hat := hsp.out k (by omega)
    rw [show (s.drop i).drop k = s.drop (i + k) by rw [List.drop_drop]] at hat
    have hik : i + k ≤ s.length := by omega
    have hpk := fun w1 h => peek_any p s (i + k) g d w1 h hik
    obtain ⟨c, hc⟩ : ∃ c, (s.drop (i + k)).headD 0 = c := ⟨_, rfl⟩
    rw [hc] at hpk hat
    have hpk := Hid.mk hpk
    clear hc
    obtain ⟨⟨c0, c1, c2, c3⟩, f0, f1, f2, f3⟩ := hR.cells
    by_cases hlt : k < m
    · rw [decide_eq_true hlt] at hat
      have hwi : IntKind.i64.wrap (((i + k : Nat) : Int) + 1) = ((i + (k + 1) : Nat) : Int) := by rw [wrap_id] <;> omega
      clear hk1
      go_wp2_with (first
        | (go_at_call 47; refine (hpk.out _ hR).mono ?_; rintro e w1 ⟨rfl, hb1⟩; obtain ⟨⟨c0, c1, c2, c3⟩, f0, f1, f2, f3⟩ := (hR.up hb1).cells)
        | (go_at_call 95; refine (digit_any _ _).mono ?_; rintro e w2 ⟨rfl, rfl⟩; rw [hat]))
      go_roundg (gk - 1)
      case measure => have := hkm.out; omega
      case rel => exact ⟨k + 1, Hid.mk (by have := hkm.out; omega), (hR.up hb1).at (i + (k + 1)), (hM.trans (Mv.up hb1)).set⟩
    · obtain rfl : k = m := by omega
      rw [decide_eq_false hlt] at hat
      clear hk1
      go_wp2_with (first
        | (go_at_call 47; refine (hpk.out _ hR).mono ?_; rintro e w1 ⟨rfl, hb1⟩)
        | (go_at_call 95; refine (digit_any _ _).mono ?_; rintro e w2 ⟨rfl, rfl⟩; rw [hat]))
      go_end0
      exact ⟨⟨_, rfl⟩, hR.up hb1, hM.trans (Mv.up hb1)⟩

set_option maxHeartbeats 1000000 in
theorem spanLetter_any (p : Nat) (s : List UInt8) (i g d : Nat) (w : World) (h : RdP w p s i g d) (hi : i ≤ s.length) (hs : s.length ≤ 1000000000) :
    Calls Tryz.prog 71 #[.pointer (some ⟨p, 0, none⟩), .func (.func 72) #[] #[]] w fun e w' => (∃ u, e = .returned u) ∧ RdP w' p s (i + ((s.drop i).takeWhile isWd).length) g d ∧ Mv p w w' := by
  have hsp := Hid.mk (span_at isWd wd0 (s.drop i))
  have hml : ((s.drop i).takeWhile isWd).length ≤ s.length - i := by
    have := (List.takeWhile_sublist isWd (l := s.drop i)).length_le
    rwa [List.length_drop] at this
  generalize ((s.drop i).takeWhile isWd).length = m at *
  go_enter Tryz.func71, Tryz.ntmps71
  go_wp2
  go_loopg [8] m (fun q _ wr => ∃ k : Nat, Hid (k + q = m) ∧ RdP wr p s (i + k) g d ∧ Mv p w wr)
  case atStart => exact ⟨0, Hid.mk (by omega), h, Mv.refl _ _⟩
  case round =>
    obtain ⟨k, hkm, hR, hM⟩ := hrel
    have hk1 := hkm.out
    have hat := hsp.out k (by omega)
    rw [show (s.drop i).drop k = s.drop (i + k) by rw [List.drop_drop]] at hat
    have hik : i + k ≤ s.length := by omega
    have hpk := fun w1 h => peek_any p s (i + k) g d w1 h hik
    obtain ⟨c, hc⟩ : ∃ c, (s.drop (i + k)).headD 0 = c := ⟨_, rfl⟩
    rw [hc] at hpk hat
    have hpk := Hid.mk hpk
    clear hc
    obtain ⟨⟨c0, c1, c2, c3⟩, f0, f1, f2, f3⟩ := hR.cells
    by_cases hlt : k < m
    · rw [decide_eq_true hlt] at hat
      have hwi : IntKind.i64.wrap (((i + k : Nat) : Int) + 1) = ((i + (k + 1) : Nat) : Int) := by rw [wrap_id] <;> omega
      clear hk1
      go_wp2_with (first
        | (go_at_call 47; refine (hpk.out _ hR).mono ?_; rintro e w1 ⟨rfl, hb1⟩; obtain ⟨⟨c0, c1, c2, c3⟩, f0, f1, f2, f3⟩ := (hR.up hb1).cells)
        | (go_at_call 72; refine (letter_any _ _).mono ?_; rintro e w2 ⟨rfl, rfl⟩; rw [hat]))
      go_roundg (gk - 1)
      case measure => have := hkm.out; omega
      case rel => exact ⟨k + 1, Hid.mk (by have := hkm.out; omega), (hR.up hb1).at (i + (k + 1)), (hM.trans (Mv.up hb1)).set⟩
    · obtain rfl : k = m := by omega
      rw [decide_eq_false hlt] at hat
      clear hk1
      go_wp2_with (first
        | (go_at_call 47; refine (hpk.out _ hR).mono ?_; rintro e w1 ⟨rfl, hb1⟩)
        | (go_at_call 72; refine (letter_any _ _).mono ?_; rintro e w2 ⟨rfl, rfl⟩; rw [hat]))
      go_end0
      exact ⟨⟨_, rfl⟩, hR.up hb1, hM.trans (Mv.up hb1)⟩

end Go.Proofs.YtnbekfpkmebmbaaGreatDoor
