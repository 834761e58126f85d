/-
  The reader of the document's answers: terms with commas between, up to an end.
-/
import Derived.Test.YtnbekfpkmebmbaaGreatDoorZTextEo
import Derived.Test.YtnbekfpkmebmbaaGreatDoorZTextStarts
import Derived.Test.YtnbekfpkmebmbaaGreatDoorZTextR9
import Derived.Lib.AppendZeros
namespace Go.Proofs.YtnbekfpkmebmbaaGreatDoor
open Go.RowKit Go.Deep

theorem startsE_any (p : Nat) (s q : List UInt8) (i : Nat) (bad : Bool) (w : World) (h : Rd w p s i bad) (hs : s.length ≤ 1000000000) (hi : bad = false → i ≤ s.length) (hq : q.length ≤ 1000) :
    Calls Tryz.prog 29 #[.pointer (some ⟨p, 0, none⟩), .string (tx q)] w fun e w' => e = .returned (.bool (!bad && goesOn s i q)) ∧ Below w.heap.size w w' := by
  cases bad
  · exact starts_any p s q i false w h hs (hi rfl) hq
  · obtain ⟨⟨c0, c1, c2⟩, _⟩ := h.cells
    clear hi
    go_enter Tryz.func29, Tryz.ntmps29
    go_upto_region 1 with fail
    refine region_up (W := w) (by kernel_rfl) (by kernel_rfl) (Up.refl _) ?_
    refine quiet_value (v := .pointer (some ⟨p, 0, none⟩)) rfl (fun _ _ => rfl) ?_
    simp only [Act.put, List.setIfInBounds_toArray, List.set_cons_zero, List.set_cons_succ]
    refine quiet_value (v := .pointer (some ⟨p, 0, none⟩)) rfl (fun _ _ => (by go_simp)) ?_
    simp only [Act.put, List.setIfInBounds_toArray, List.set_cons_zero, List.set_cons_succ]
    refine quiet_value (v := .pointer (some ⟨p, 2, none⟩)) rfl (fun _ _ => (by go_simp)) ?_
    simp only [Act.put, List.setIfInBounds_toArray, List.set_cons_zero, List.set_cons_succ]
    refine quiet_value (v := .bool true) rfl (fun W h => (by have u0 := cell_below h.out _ _ _ c2; go_simp)) ?_
    simp only [Act.put, List.setIfInBounds_toArray, List.set_cons_zero, List.set_cons_succ]
    refine quiet_value (v := .bool false) rfl (fun _ _ => (by go_simp)) ?_
    simp only [Act.put, List.setIfInBounds_toArray, List.set_cons_zero, List.set_cons_succ]
    refine quiet_value (v := .bool false) rfl (fun _ _ => rfl) ?_
    simp only [Act.put, List.setIfInBounds_toArray, List.set_cons_zero, List.set_cons_succ]
    refine quiet_not rfl ?_
    simp only [Act.put, List.setIfInBounds_toArray, List.set_cons_zero, List.set_cons_succ]
    refine quiet_not rfl ?_
    simp only [Act.put, List.setIfInBounds_toArray, List.set_cons_zero, List.set_cons_succ]
    refine quiet_not rfl ?_
    simp only [Act.put, List.setIfInBounds_toArray, List.set_cons_zero, List.set_cons_succ]
    refine quiet_not rfl ?_
    simp only [Act.put, List.setIfInBounds_toArray, List.set_cons_zero, List.set_cons_succ]
    refine quiet_not rfl ?_
    simp only [Act.put, List.setIfInBounds_toArray, List.set_cons_zero, List.set_cons_succ]
    refine quiet_not rfl ?_
    simp only [Act.put, List.setIfInBounds_toArray, List.set_cons_zero, List.set_cons_succ]
    refine quiet_not rfl ?_
    simp only [Act.put, List.setIfInBounds_toArray, List.set_cons_zero, List.set_cons_succ]
    refine quiet_not rfl ?_
    simp only [Act.put, List.setIfInBounds_toArray, List.set_cons_zero, List.set_cons_succ]
    refine quiet_not rfl ?_
    simp only [Act.put, List.setIfInBounds_toArray, List.set_cons_zero, List.set_cons_succ]
    refine quiet_not rfl ?_
    simp only [Act.put, List.setIfInBounds_toArray, List.set_cons_zero, List.set_cons_succ]
    refine quiet_not rfl ?_
    simp only [Act.put, List.setIfInBounds_toArray, List.set_cons_zero, List.set_cons_succ]
    refine quiet_not rfl ?_
    simp only [Act.put, List.setIfInBounds_toArray, List.set_cons_zero, List.set_cons_succ]
    refine quiet_not rfl ?_
    simp only [Act.put, List.setIfInBounds_toArray, List.set_cons_zero, List.set_cons_succ]
    refine quiet_value (v := .bool false) rfl (fun _ _ => (by go_simp)) ?_
    simp only [Act.put, List.setIfInBounds_toArray, List.set_cons_zero, List.set_cons_succ]
    refine quiet_value (v := .bool false) rfl (fun _ _ => rfl) ?_
    simp only [Act.put, List.setIfInBounds_toArray, List.set_cons_zero, List.set_cons_succ]
    refine quiet_not rfl ?_
    simp only [Act.put, List.setIfInBounds_toArray, List.set_cons_zero, List.set_cons_succ]
    refine quiet_not rfl ?_
    simp only [Act.put, List.setIfInBounds_toArray, List.set_cons_zero, List.set_cons_succ]
    refine quiet_not rfl ?_
    simp only [Act.put, List.setIfInBounds_toArray, List.set_cons_zero, List.set_cons_succ]
    refine quiet_not rfl ?_
    simp only [Act.put, List.setIfInBounds_toArray, List.set_cons_zero, List.set_cons_succ]
    refine quiet_not rfl ?_
    simp only [Act.put, List.setIfInBounds_toArray, List.set_cons_zero, List.set_cons_succ]
    refine quiet_not rfl ?_
    simp only [Act.put, List.setIfInBounds_toArray, List.set_cons_zero, List.set_cons_succ]
    refine quiet_not rfl ?_
    simp only [Act.put, List.setIfInBounds_toArray, List.set_cons_zero, List.set_cons_succ]
    refine quiet_not rfl ?_
    simp only [Act.put, List.setIfInBounds_toArray, List.set_cons_zero, List.set_cons_succ]
    refine quiet_not rfl ?_
    simp only [Act.put, List.setIfInBounds_toArray, List.set_cons_zero, List.set_cons_succ]
    refine quiet_not rfl ?_
    simp only [Act.put, List.setIfInBounds_toArray, List.set_cons_zero, List.set_cons_succ]
    refine quiet_not rfl ?_
    simp only [Act.put, List.setIfInBounds_toArray, List.set_cons_zero, List.set_cons_succ]
    refine quiet_not rfl ?_
    simp only [Act.put, List.setIfInBounds_toArray, List.set_cons_zero, List.set_cons_succ]
    refine quiet_not rfl ?_
    simp only [Act.put, List.setIfInBounds_toArray, List.set_cons_zero, List.set_cons_succ]
    refine quiet_not rfl ?_
    simp only [Act.put, List.setIfInBounds_toArray, List.set_cons_zero, List.set_cons_succ]
    refine quiet_not rfl ?_
    simp only [Act.put, List.setIfInBounds_toArray, List.set_cons_zero, List.set_cons_succ]
    refine quiet_not rfl ?_
    simp only [Act.put, List.setIfInBounds_toArray, List.set_cons_zero, List.set_cons_succ]
    refine quiet_not rfl ?_
    simp only [Act.put, List.setIfInBounds_toArray, List.set_cons_zero, List.set_cons_succ]
    refine quiet_not rfl ?_
    simp only [Act.put, List.setIfInBounds_toArray, List.set_cons_zero, List.set_cons_succ]
    refine quiet_value (v := .bool false) rfl (fun _ _ => (by go_simp)) ?_
    simp only [Act.put, List.setIfInBounds_toArray, List.set_cons_zero, List.set_cons_succ]
    refine quiet_value (v := .bool false) rfl (fun _ _ => rfl) ?_
    simp only [Act.put, List.setIfInBounds_toArray, List.set_cons_zero, List.set_cons_succ]
    refine quiet_nil ?_
    intro w3 hw3
    go_wp2
    go_ret
    exact ⟨rfl, hw3.out⟩
/-- A text has been eaten, or none. -/
def EatO (q : List UInt8) (s : List UInt8) (i : Nat) (b : Bool) (j : Nat) (c : Bool) : Prop :=
  (c = false ∧ b = false ∧ j = i + q.length ∧ j ≤ s.length ∧ strip q (s.drop i) = some (s.drop j)) ∨ (c = true ∧ j = i ∧ (b = true ∨ strip q (s.drop i) = none))
theorem eatO_any (p : Nat) (s q : List UInt8) (i : Nat) (b : Bool) (w : World) (h : Rd w p s i b) (hs : s.length ≤ 1000000) (hi : i ≤ s.length + 1) (hq : q.length ≤ 1000) (hq0 : q ≠ []) :
    Calls Tryz.prog 31 #[.pointer (some ⟨p, 0, none⟩), .string (tx q)] w fun e w' => e = .returned (.tuple #[]) ∧ Mv p w w' ∧ ∃ j c, Rd w' p s j c ∧ EatO q s i b j c :=
  (eat_any p s q i b w h hs hi hq hq0).mono (by
    rintro e w' ⟨rfl, m, ⟨h1, h2, h3, h4⟩ | ⟨h1, h2⟩⟩
    · exact ⟨rfl, m, _, _, h4, Or.inl ⟨rfl, h1, rfl, h3, h2⟩⟩
    · exact ⟨rfl, m, _, _, h2, Or.inr ⟨rfl, rfl, h1⟩⟩)
theorem goes_is {s q : List UInt8} {i : Nat} : goesOn s i q = (strip q (s.drop i)).isSome := by
  cases h : goesOn s i q
  · rw [goes_no h]; rfl
  · rw [(goes_strip h).1]; rfl
/-- What term says at a good place. -/
def RTE (s : List UInt8) (P : Rdr) (N : Nat) : Prop := ∀ (p i : Nat) (w : World), Rd w p s i false → i ≤ s.length → s.length - i < N →
  Calls Tryz.prog 10 #[.pointer (some ⟨p, 0, none⟩)] w (Out p s i w (P (s.drop i)))
/-- Terms with commas between, up to an end. -/
def amF (P : Rdr) (e : UInt8) : Nat → List UInt8 → Option (List Tm × List UInt8)
  | 0, _ => none
  | g + 1, q => match P q with
    | none => none
    | some (t, r) => match strip [e] r with
      | some x => some ([t], x)
      | none => match strip [44] r with
        | none => none
        | some y => match amF P e g y with
          | none => none
          | some (l, z) => some (t :: l, z)
def amP (P : Rdr) (e : UInt8) (q : List UInt8) : Option (List Tm × List UInt8) := match strip [e] q with
  | some r => some ([], r)
  | none => amF P e (q.length + 1) q
theorem strip_oneE {a b : UInt8} {q r : List UInt8} (h : strip [a] q = some r) (hab : a ≠ b) : strip [b] q = none := by
  obtain rfl := strip_some h
  rw [List.singleton_append, strip1, if_neg (fun e => hab e.symm)]
theorem amF_items {P : Rdr} {e : UInt8} (he : e ≠ 44) : ∀ (g n : Nat) (q : List UInt8), amF P e g q = match itemsP P false g n q with
    | none => none
    | some (l, x) => match strip [e] x with
      | none => none
      | some r => some (l, r)
  | 0, n, q => by rw [amF, itemsP]
  | g + 1, n, q => by
    rw [amF, itemsP, if_neg (by simp)]
    cases hP : P q with
    | none => rfl
    | some tr =>
      obtain ⟨t, r⟩ := tr
      simp only
      cases h1 : strip [e] r with
      | some x =>
        rw [strip_oneE h1 he]
        simp only [h1]
      | none =>
        cases h2 : strip [44] r with
        | none => simp only [h1]
        | some y =>
          simp only
          rw [amF_items he g (n + 1) y]
          cases itemsP P false g (n + 1) y with
          | none => rfl
          | some lx =>
            obtain ⟨l, x⟩ := lx
            simp only
            cases strip [e] x <;> rfl
theorem itemsP_n {P : Rdr} : ∀ (g n m : Nat) (q : List UInt8), itemsP P false g n q = itemsP P false g m q
  | 0, n, m, q => by rw [itemsP, itemsP]
  | g + 1, n, m, q => by
    rw [itemsP, itemsP, if_neg (by simp), if_neg (by simp)]
    cases P q with
    | none => rfl
    | some tr =>
      simp only
      cases strip [44] tr.2 with
      | none => rfl
      | some x => simp only [itemsP_n g (n + 1) (m + 1) x]
theorem tup_am (P : Rdr) (q : List UInt8) : tupP P false q = (amP P 125 q).map fun x => (.mk 7 0 ⟨#[]⟩ x.1, x.2) := by
  rw [tupP, amP]
  cases strip [125] q with
  | some r => rfl
  | none =>
    simp only
    rw [amF_items (by decide) _ 0 q]
    cases itemsP P false (q.length + 1) 0 q with
    | none => rfl
    | some lx =>
      simp only
      cases strip [125] lx.2 <;> rfl
/-- A term's text is not empty, and begins as it must. -/
theorem snd_pos {P : Rdr} (hS : Snd false P) {q r : List UInt8} {T : Tm} (h : P q = some (T, r)) : r.length < q.length := by
  obtain ⟨h1, _⟩ := hS q T r h
  obtain ⟨c, x, h2, _⟩ := text_first T
  rw [h1, h2]
  simp
  omega
theorem snd_no62 {P : Rdr} (hS : Snd false P) {q : List UInt8} : P (62 :: q) = none := by
  cases h : P (62 :: q) with
  | none => rfl
  | some x =>
    obtain ⟨T, r⟩ := x
    obtain ⟨h1, _⟩ := hS _ T r h
    obtain ⟨c, y, h2, h3⟩ := text_first T
    rw [h2] at h1
    obtain rfl := (List.cons.inj h1).1
    exact absurd (by decide) h3
/-- One more term in a row. -/
theorem itm_append {base lo : Nat} {L : List Tm} {W V : World} {sv : Value} {T : Tm} {k n : Int} {ss : ByteArray} {a : Option Addr} {m c : Nat} (hV : W.alloc (.cells #[.int .i64 k, .int .i64 n, .string ss, .slice a m c] 24) = V) (hI : Itm base L sv W)
    (hT : Lies W (fun b => lo ≤ b) T (.agg #[.int .i64 k, .int .i64 n, .string ss, .slice a m c])) (hlo : base ≤ lo) (hg : ∀ g, sv.ownBlock = some g → g < lo) (hbase : base ≤ W.heap.size) (hl : L.length ≤ 1000000) (ty : TypeId) :
    ∃ v' w', (Builtin.append_ #[22, 22] ty #[sv, .slice (some ⟨W.heap.size, 0, none⟩) 1 1]).run Tryz.prog V = .ok v' w' ∧ Itm base (L ++ [T]) v' w' ∧ V.grownBy w' sv.ownBlock := by
  obtain ⟨xs, hx1, hx2⟩ := hI
  obtain ⟨i0, hi0, hz0, hz1, hby⟩ := info_at termInfo
  subst hV
  have hx := hx1.alloc (.cells #[.int .i64 k, .int .i64 n, .string ss, .slice a m c] 24)
  obtain ⟨v', w', hr, ho, hgr, _, hat⟩ := run_append_own_at (P := Tryz.prog) (W.alloc (.cells #[.int .i64 k, .int .i64 n, .string ss, .slice a m c] 24)) base 22 ty 24 i0 _ 4 56 Tryz.underlying22 hi0 hz0 hz1 hby rfl (by decide) sv L.length xs hx ⟨W.heap.size, 0, none⟩ 1 1 [.int .i64 k, .int .i64 n, .string ss, .slice a m c] rfl
    (cells_new _ _ _) (fun x hx => by simp at hx; rcases hx with rfl | rfl | rfl | rfl <;> rfl) (by unfold maxLen; omega) (by omega) (by simp; omega)
  exact ⟨v', w', hr, Itm.add hx1 hx2 hT hlo hg ho hgr hat, hgr⟩
end Go.Proofs.YtnbekfpkmebmbaaGreatDoor

/-
  The reader of the document's answers: among.
-/
namespace Go.Proofs.YtnbekfpkmebmbaaGreatDoor
open Go.RowKit Go.Deep

theorem grown_rd {p j : Nat} {s : List UInt8} {b : Bool} {w W V w' : World} {row : Option Nat} {o : Obj} (hV : W.alloc o = V) (hR : Rd W p s j b) (hM : Mv p w W) (hp : p < w.heap.size) (hrow : ∀ k, row = some k → w.heap.size ≤ k) (hg : V.grownBy w' row) : Rd w' p s j b ∧ Mv p w w' := by
  have hb : Below W.heap.size W V := by rw [← hV]; exact (Up.refl W).alloc.out
  have hR2 := hR.below hb
  have hM2 := hM.trans (Mv.up hb)
  refine ⟨(hg.block p hR2.lt (fun e => by have := hrow p e.symm; omega)).trans hR2, ⟨hg.os.trans hM2.os, hg.tape.trans hM2.tape, hg.output.trans hM2.output, Nat.le_trans hM2.size hg.size, fun k h1 h2 => ?_⟩⟩
  exact (hg.block k (Nat.lt_of_lt_of_le h1 hM2.size) (fun e => by have := hrow k e.symm; omega)).trans (hM2.block k h1 h2)
def AmOut (p : Nat) (s : List UInt8) (i : Nat) (w : World) (o : Option (List Tm × List UInt8)) (e : Ending) (w' : World) : Prop :=
  Mv p w w' ∧ ∃ (L : List Tm) (a : Option Addr) (cap j : Nat) (b : Bool), e = .returned (.slice a L.length cap) ∧ Lst w' (fun k => w.heap.size ≤ k) L a cap ∧ Rd w' p s j b ∧ i ≤ j ∧ j ≤ s.length + 1 ∧ L.length ≤ s.length + 1 ∧ ((b = false ∧ j ≤ s.length ∧ o = some (L, s.drop j)) ∨ (b = true ∧ o = none))
/-- What is still to come, L being there. -/
def AmTo (P : Rdr) (e : UInt8) (s : List UInt8) (j : Nat) (b : Bool) (L : List Tm) (Tot : Option (List Tm × List UInt8)) : Prop :=
  (b = false ∧ j ≤ s.length ∧ ∃ f, (s.drop j).length < f ∧ Tot = (amF P e f (s.drop j)).map fun x => (L ++ x.1, x.2)) ∨ (b = true ∧ Tot = none)
/-- A term, and no end behind it: what is still to come. -/
theorem am_next {P : Rdr} (hS : Snd false P) {e : UInt8} {s : List UInt8} {j j2 j5 : Nat} {b2 c5 : Bool} {L : List Tm} {T : Tm} {Tot : Option (List Tm × List UInt8)} (h : AmTo P e s j false L Tot)
    (ho : (b2 = false ∧ j2 ≤ s.length ∧ P (s.drop j) = some (T, s.drop j2)) ∨ (b2 = true ∧ P (s.drop j) = none)) (hst : (!b2 && goesOn s j2 [e]) = false) (hE : EatO [44] s j2 b2 j5 c5) :
    AmTo P e s j5 c5 (L ++ [T]) Tot ∧ (c5 = false → j < j5) := by
  rcases h with ⟨_, hj, f, hf, hT⟩ | ⟨hc, _⟩
  · cases f with
    | zero => omega
    | succ f =>
      rw [amF] at hT
      rcases ho with ⟨rfl, h2, hP⟩ | ⟨rfl, hP⟩
      · have hlt := snd_pos hS hP
        rw [List.length_drop, List.length_drop] at hlt
        have hg : strip [e] (s.drop j2) = none := by
          have h3 := hst
          rw [Bool.not_false, Bool.true_and, goes_is] at h3
          cases hh : strip [e] (s.drop j2) with
          | none => rfl
          | some x => rw [hh] at h3; cases h3
        rw [hP] at hT
        simp only [hg] at hT
        rcases hE with ⟨rfl, _, rfl, h5, h6⟩ | ⟨rfl, rfl, h6⟩
        · rw [h6] at hT
          simp only at hT
          refine ⟨Or.inl ⟨rfl, h5, f, ?_, ?_⟩, fun _ => by simp; omega⟩
          · rw [List.length_drop] at hf ⊢
            simp
            omega
          · rw [hT]
            cases amF P e f (s.drop (j2 + [44].length)) with
            | none => rfl
            | some x => simp
        · rw [h6.resolve_left (by decide)] at hT
          exact ⟨Or.inr ⟨rfl, hT⟩, fun h => by cases h⟩
      · rw [hP] at hT
        rcases hE with ⟨_, hc, _⟩ | ⟨rfl, rfl, _⟩
        · cases hc
        · exact ⟨Or.inr ⟨rfl, hT⟩, fun h => by cases h⟩
  · cases hc
/-- A term, and the end behind it. -/
theorem am_end {P : Rdr} {e : UInt8} {s : List UInt8} {j j2 j5 : Nat} {b2 c5 : Bool} {L : List Tm} {T : Tm} {Tot : Option (List Tm × List UInt8)} (h : AmTo P e s j false L Tot)
    (ho : (b2 = false ∧ j2 ≤ s.length ∧ P (s.drop j) = some (T, s.drop j2)) ∨ (b2 = true ∧ P (s.drop j) = none)) (hst : (!b2 && goesOn s j2 [e]) = true) (hE : EatO [e] s j2 b2 j5 c5) :
    c5 = false ∧ j5 ≤ s.length ∧ j2 ≤ j5 ∧ Tot = some (L ++ [T], s.drop j5) := by
  rcases h with ⟨_, hj, f, hf, hT⟩ | ⟨hc, _⟩
  · cases f with
    | zero => omega
    | succ f =>
      rw [amF] at hT
      rcases ho with ⟨rfl, h2, hP⟩ | ⟨rfl, hP⟩
      · rw [hP] at hT
        rw [Bool.not_false, Bool.true_and, goes_is] at hst
        rcases hE with ⟨rfl, _, rfl, h5, h6⟩ | ⟨rfl, rfl, h6⟩
        · simp only [h6] at hT
          exact ⟨rfl, h5, by omega, by rw [hT]; rfl⟩
        · rw [h6.resolve_left (by decide)] at hst
          cases hst
      · cases hst
  · cases hc

set_option maxRecDepth 100000 in
set_option maxHeartbeats 4000000 in
theorem amongE_any (s : List UInt8) (hs : s.length ≤ 200000) (P : Rdr) (N : Nat) (hP : RTE s P N) (hS : Snd false P) (e : UInt8) (p i : Nat) (w : World) (h : Rd w p s i false) (hi : i ≤ s.length) (hN : s.length - i < N) :
    Calls Tryz.prog 32 #[.pointer (some ⟨p, 0, none⟩), .string (tx [e])] w (AmOut p s i w (amP P e (s.drop i))) := by
  have hlt := h.lt
  have hsH := Hid.mk hs
  have hiH := Hid.mk hi
  have hNH := Hid.mk hN
  have hSH := Hid.mk hS
  obtain ⟨Tot, hTot⟩ : ∃ Tot, amP P e (s.drop i) = Tot := ⟨_, rfl⟩
  have HTot := Hid.mk hTot
  rw [hTot]
  obtain ⟨st0, hst0⟩ : ∃ st0, (!false && goesOn s i [e]) = st0 := ⟨_, rfl⟩
  have HST0 := Hid.mk hst0
  have hs1 := Hid.mk (startsE_any p s [e] i false w h (by omega) (fun _ => hi) (by simp))
  rw [hst0] at hs1
  have hst := Hid.mk (fun j b w1 h1 (hj : b = false → j ≤ s.length) => startsE_any p s [e] j b w1 h1 (by omega) hj (by simp))
  have heE := Hid.mk (fun j b w1 h1 (hj : j ≤ s.length + 1) => eatO_any p s [e] j b w1 h1 (by omega) hj (by simp) (by simp))
  have heC : Hid (∀ (j : Nat) (b : Bool) (w1 : World), Rd w1 p s j b → j ≤ s.length + 1 → Calls Tryz.prog 31 #[.pointer (some ⟨p, 0, none⟩), .string ⟨#[44]⟩] w1 fun e w' => e = .returned (.tuple #[]) ∧ Mv p w1 w' ∧ ∃ j1 c, Rd w' p s j1 c ∧ EatO [44] s j b j1 c) := Hid.mk (fun j b w1 h1 hj => eatO_any p s [44] j b w1 h1 (by omega) hj (by simp) (by simp))
  clear hs hi hN hS hTot hst0
  go_enter Tryz.func32, Tryz.ntmps32
  go_wp2_with (first
    | (go_at_call 29; refine hs1.out.mono ?_; rintro e1 w1 ⟨rfl, hb1⟩; have R1 := h.below hb1; have B1 := Hid.mk hb1; clear hb1)
    | (go_at_call 31; refine (heE.out i false _ R1 (by have := hiH.out; omega)).mono ?_; rintro e2 w2 ⟨rfl, m2, j2, c2, R2, hE2⟩; have M2 := Hid.mk m2; have E2 := Hid.mk hE2; clear m2 hE2))
  · go_ret
    have h1 : st0 = true := by first | assumption | simp_all
    have h2 := HST0.out
    rw [h1, Bool.not_false, Bool.true_and, goes_is] at h2
    refine ⟨(Mv.up B1.out).trans M2.out, [], none, 0, j2, c2, rfl, ⟨Nat.le_refl _, by omega, Or.inl ⟨rfl, rfl, rfl⟩⟩, R2, ?_⟩
    rcases E2.out with ⟨rfl, _, rfl, h5, h6⟩ | ⟨rfl, rfl, h6⟩
    · exact ⟨by omega, by omega, by simp, Or.inl ⟨rfl, h5, by rw [← HTot.out, amP, h6]⟩⟩
    · rw [h6.resolve_left (by decide)] at h2
      cases h2
  · have h1 : st0 = false := by first | assumption | simp_all
    have h2 := HST0.out
    rw [h1, Bool.not_false, Bool.true_and, goes_is] at h2
    have hno : strip [e] (s.drop i) = none := by
      cases hh : strip [e] (s.drop i) with
      | none => rfl
      | some x => rw [hh] at h2; cases h2
    have hA0 := Hid.mk (show AmTo P e s i false [] Tot from Or.inl ⟨rfl, hiH.out, _, Nat.lt_succ_self _, by rw [← HTot.out, amP, hno]; cases amF P e ((s.drop i).length + 1) (s.drop i) <;> simp⟩)
    clear h2 hno hs1
    subst h1
    go_loopg [5] (s.length + 1 - i) (fun g ov wr => ∃ (j : Nat) (b : Bool) (L : List Tm), Hid ((b = false ∧ j + g = s.length + 1) ∨ b = true) ∧ Hid (i ≤ j ∧ j ≤ s.length + 1 ∧ (b = false → L.length ≤ j)) ∧ Itm w.heap.size L ov wr ∧ Rd wr p s j b ∧ Mv p w wr ∧ Hid (AmTo P e s j b L Tot))
    case atStart => exact ⟨i, false, [], Hid.mk (Or.inl ⟨rfl, by have := hiH.out; omega⟩), Hid.mk ⟨Nat.le_refl _, by have := hiH.out; omega, fun _ => by simp⟩, Itm.start _ _, R1, Mv.up B1.out, hA0⟩
    case round =>
      clear R1 hA0 h
      obtain ⟨j, b, L, hm, hj, hI, hR, hM, hA⟩ := hrel
      obtain ⟨⟨c0, c1, c2⟩, f0, f1, f2⟩ := hR.cells
      cases b
      · have hjl := Hid.mk (show j ≤ s.length by rcases hA.out with ⟨_, h1, _⟩ | ⟨h1, _⟩; exact h1; cases h1)
        have hT1 := Hid.mk (hP p j wr hR hjl.out (by have := hj.out; have := hNH.out; omega))
        have hIH := Hid.mk hI
        have hMH := Hid.mk hM
        have hLl := Hid.mk (show L.length ≤ 1000000 by have := hj.out.2.2 (by simp); have := hjl.out; have := hsH.out; omega)
        clear hI hM hR
        go_wp2_with (first
          | (go_at_call 10
             (with_reducible refine hT1.out.mono ?_)
             rintro e2 w2 ⟨m2, T, v, j2, b2, rfl, hT, R2, hij, hj2, ho⟩
             obtain ⟨kk, nn, ss, aa, mm, cc, rfl⟩ := hT.agg
             obtain ⟨V, hV⟩ : ∃ V, w2.alloc (.cells #[.int .i64 kk, .int .i64 nn, .string ss, .slice aa mm cc] 24) = V := ⟨_, rfl⟩
             obtain ⟨v', w3, hr, hI3, hg3⟩ := itm_append hV (hIH.out.mv m2 hlt) hT (hMH.out.size) (fun g hg => (hIH.out.own g hg).2) (Nat.le_trans hMH.out.size m2.size) hLl.out 22
             obtain ⟨R3, M3⟩ := grown_rd hV R2 (hMH.out.trans m2) hlt (fun k hk => (hIH.out.own k hk).1) hg3
             obtain ⟨st, hst1⟩ : ∃ st, (!b2 && goesOn s j2 [e]) = st := ⟨_, rfl⟩
             have hs2 := Hid.mk (hst.out j2 b2 w3 R3 (fun hb => by rcases ho with ⟨_, h1, _⟩ | ⟨h1, _⟩; exact h1; rw [hb] at h1; cases h1))
             rw [hst1] at hs2
             have HI3 := Hid.mk hI3; have HM3 := Hid.mk M3; have HO := Hid.mk ho; have HST := Hid.mk hst1; have HJ2 := Hid.mk (show j ≤ j2 ∧ j2 ≤ s.length + 1 from ⟨hij, hj2⟩)
             clear hT m2 R2 hI3 hg3 M3 ho hst1 hij hj2 c0 c1 c2 f0 f1 f2)
          | (at_builtin; refine Lib.wpList_append_run _ rfl _ _ _ _ rfl _ _ rfl rfl _ _ hr ?_)
          | (go_at_call 29
             (with_reducible refine hs2.out.mono ?_)
             rintro e4 w4 ⟨rfl, hb4⟩
             have R4 := R3.below hb4; have HI4 := Hid.mk (HI3.out.mv (Mv.up hb4) hlt); have HM4 := Hid.mk (HM3.out.trans (Mv.up hb4))
             clear hb4)
          | (go_at_call 31
             (with_reducible refine (heE.out j2 b2 _ R4 HJ2.out.2).mono ?_)
             rintro e5 w5 ⟨rfl, m5, j5, c5, R5, hE5⟩
             have HI5 := Hid.mk (HI4.out.mv m5 hlt); have HM5 := Hid.mk (HM4.out.trans m5); have E5 := Hid.mk hE5
             clear m5 hE5)
          | (go_at_call 31
             (with_reducible refine (heC.out j2 b2 _ R4 HJ2.out.2).mono ?_)
             rintro e5 w5 ⟨rfl, m5, j5, c5, R5, hE5⟩
             have HI5 := Hid.mk (HI4.out.mv m5 hlt); have HM5 := Hid.mk (HM4.out.trans m5); have E5 := Hid.mk hE5
             clear m5 hE5))
        · have h1 : st = true := by first | assumption | simp_all
          have h2 := HST.out
          rw [h1] at h2
          obtain ⟨rfl, h3, h4, h5⟩ := am_end hA.out HO.out h2 E5.out
          obtain ⟨a, cap, rfl, hl⟩ := HI5.out.out
          go_ret
          exact ⟨HM5.out, L ++ [T], a, cap, j5, false, rfl, hl, R5, by have := hj.out; have := HJ2.out; omega, by omega, by have := hj.out.2.2 (by simp); have := hjl.out; simp; omega, Or.inl ⟨rfl, h3, h5⟩⟩
        · have h1 : st = false := by first | assumption | simp_all
          have h2 := HST.out
          rw [h1] at h2
          have hn := am_next hSH.out hA.out HO.out h2 E5.out
          have hjj : j2 ≤ j5 ∧ j5 ≤ s.length + 1 := by
            have := HJ2.out
            rcases E5.out with ⟨_, _, h3, h4, _⟩ | ⟨_, h3, _⟩ <;> (try simp at h3) <;> omega
          have HN1 := Hid.mk hn.1
          have hn2 := hn.2
          have HJ5 := Hid.mk hjj
          clear hn hjj h2 h1
          cases c5
          · have h6 := hn2 rfl
            have HL6 := Hid.mk (show j < j5 from h6)
            clear hn2 h6
            go_roundg (s.length + 1 - j5)
            case measure =>
              have := HL6.out
              have := HJ5.out
              rcases hm.out with ⟨_, h7⟩ | h7
              · have h8 : j5 ≤ s.length := by rcases HN1.out with ⟨_, h1, _⟩ | ⟨h1, _⟩; exact h1; cases h1
                omega
              · cases h7
            case rel =>
              exact ⟨j5, false, L ++ [T], Hid.mk (Or.inl ⟨rfl, by have := HJ5.out; omega⟩), Hid.mk ⟨by have := HJ5.out; have := HJ2.out; have := hj.out; omega, HJ5.out.2, fun _ => by have := HL6.out; have := hj.out.2.2 (by simp); simp; omega⟩, HI5.out, R5, HM5.out, HN1⟩
          · clear hn2
            go_roundg 0
            case measure =>
              rcases hm.out with ⟨_, h7⟩ | h7
              · have := hjl.out; omega
              · cases h7
            case rel =>
              exact ⟨j5, true, L ++ [T], Hid.mk (Or.inr rfl), Hid.mk ⟨by have := HJ5.out; have := HJ2.out; have := hj.out; omega, HJ5.out.2, fun h => by cases h⟩, HI5.out, R5, HM5.out, HN1⟩
      · go_wp2
        go_ret
        rcases hA.out with ⟨h1, _⟩ | ⟨_, h1⟩
        · cases h1
        · exact ⟨hM, [], none, 0, j, true, rfl, ⟨Nat.le_refl _, by omega, Or.inl ⟨rfl, rfl, rfl⟩⟩, hR, hj.out.1, hj.out.2.1, by simp, Or.inr ⟨rfl, h1⟩⟩
end Go.Proofs.YtnbekfpkmebmbaaGreatDoor

/-
  The reader of the document's answers: a list.
-/
namespace Go.Proofs.YtnbekfpkmebmbaaGreatDoor
open Go.RowKit Go.Deep

/-- While a list is read: the reader's box, the answer's, the end's, and the terms so far. -/
structure LS (p : Nat) (w W : World) (t B : Nat) (s : List UInt8) (j : Nat) (b : Bool) (L : List Tm) (lv : Value) (c : Array Value) : Prop where
  rd : Rd W p s j b
  mv : Mv p w W
  box : W.heap[w.heap.size]? = some zeroTerm
  tb : W.heap[t]? = some (.cells c 24)
  itm : Itm B L lv W
  size : B ≤ W.heap.size
theorem LS.call {p : Nat} {w W W' : World} {t B : Nat} {s : List UInt8} {j j' : Nat} {b b' : Bool} {L : List Tm} {lv : Value} {c : Array Value} (h : LS p w W t B s j b L lv c) (hp : p < w.heap.size ∧ w.heap.size < t ∧ t < B) (m : Mv p W W') (r : Rd W' p s j' b') : LS p w W' t B s j' b' L lv c :=
  ⟨r, h.mv.trans m, m.box h.box (by omega), m.box h.tb (by omega), h.itm.mv m (by omega), Nat.le_trans h.size m.size⟩
theorem LS.up {p : Nat} {w W W' : World} {t B : Nat} {s : List UInt8} {j : Nat} {b : Bool} {L : List Tm} {lv : Value} {c : Array Value} (h : LS p w W t B s j b L lv c) (hp : p < w.heap.size ∧ w.heap.size < t ∧ t < B) (hb : Below W.heap.size W W') : LS p w W' t B s j b L lv c :=
  h.call hp (Mv.up hb) (h.rd.below hb)
theorem LS.app {p : Nat} {w W V : World} {t B lo : Nat} {s : List UInt8} {j : Nat} {b : Bool} {L : List Tm} {lv : Value} {c : Array Value} (h : LS p w W t B s j b L lv c) (hp : p < w.heap.size ∧ w.heap.size < t ∧ t < B) {T : Tm} {k n : Int} {ss : ByteArray} {a : Option Addr} {m cc : Nat} (hV : W.alloc (.cells #[.int .i64 k, .int .i64 n, .string ss, .slice a m cc] 24) = V)
    (hT : Lies W (fun b => lo ≤ b) T (.agg #[.int .i64 k, .int .i64 n, .string ss, .slice a m cc])) (hlo : B ≤ lo) (hg : ∀ g, lv.ownBlock = some g → g < lo) (hl : L.length ≤ 1000000) (ty : TypeId) :
    ∃ v' w', (Builtin.append_ #[22, 22] ty #[lv, .slice (some ⟨W.heap.size, 0, none⟩) 1 1]).run Tryz.prog V = .ok v' w' ∧ LS p w w' t B s j b (L ++ [T]) v' c := by
  obtain ⟨v', w', hr, hI, hgr⟩ := itm_append hV h.itm hT hlo hg h.size hl ty
  have hb : Below W.heap.size W V := by rw [← hV]; exact (Up.refl W).alloc.out
  have hu := h.up hp hb
  have hrow : ∀ k, lv.ownBlock = some k → B ≤ k := fun k hk => (h.itm.own k hk).1
  have hbk : ∀ k, k < V.heap.size → k < B → w'.heap[k]? = V.heap[k]? := fun k h1 h2 => hgr.block k h1 (fun e => by have := hrow k e.symm; omega)
  refine ⟨v', w', hr, ⟨(hbk p hu.rd.lt (by omega)).trans hu.rd, ⟨hgr.os.trans hu.mv.os, hgr.tape.trans hu.mv.tape, hgr.output.trans hu.mv.output, Nat.le_trans hu.mv.size hgr.size, fun k h1 h2 => (hbk k (Nat.lt_of_lt_of_le h1 hu.mv.size) (by omega)).trans (hu.mv.block k h1 h2)⟩, ?_, ?_, hI, Nat.le_trans hu.size hgr.size⟩⟩
  · exact (hbk _ (Array.getElem?_eq_some_iff.1 hu.box).1 (by omega)).trans hu.box
  · exact (hbk _ (Array.getElem?_eq_some_iff.1 hu.tb).1 (by omega)).trans hu.tb
theorem LS.put {p : Nat} {w W W' : World} {t B : Nat} {s : List UInt8} {j : Nat} {b : Bool} {L : List Tm} {lv : Value} {u0 u1 u2 u3 v0 v1 v2 v3 : Value} (h : LS p w W t B s j b L lv #[u0, u1, u2, u3]) (hp : p < w.heap.size ∧ w.heap.size < t ∧ t < B)
    (hW : ((((W.setCell ⟨t, 0, none⟩ v0).setCell ⟨t, 1, none⟩ v1).setCell ⟨t, 2, none⟩ v2).setCell ⟨t, 3, none⟩ v3) = W') : LS p w W' t B s j b L lv #[v0, v1, v2, v3] := by
  subst hW
  have hk : ∀ k, k ≠ t → ((((W.setCell ⟨t, 0, none⟩ v0).setCell ⟨t, 1, none⟩ v1).setCell ⟨t, 2, none⟩ v2).setCell ⟨t, 3, none⟩ v3).heap[k]? = W.heap[k]? := fun k h1 => set4_heap _ _ _ _ _ _ _ h1
  refine ⟨(hk p (by omega)).trans h.rd, ?_, (hk _ (by omega)).trans h.box, set4_block h.tb, ?_, by rw [set4_size]; exact h.size⟩
  · exact Mv.beside h.mv (by omega)
  · have hbt : Below t W ((((W.setCell ⟨t, 0, none⟩ v0).setCell ⟨t, 1, none⟩ v1).setCell ⟨t, 2, none⟩ v2).setCell ⟨t, 3, none⟩ v3) := Below.set4 (Below.refl _ _) (Nat.le_refl _)
    exact h.itm.mv (p := t) ⟨hbt.os, hbt.tape, hbt.output, by rw [set4_size]; exact Nat.le_refl _, fun k _ h2 => hk k h2⟩ (by omega)
theorem LS.worse {p : Nat} {w W W' : World} {t B : Nat} {s : List UInt8} {j : Nat} {b : Bool} {L : List Tm} {lv : Value} {c : Array Value} (h : LS p w W t B s j b L lv c) (hp : p < w.heap.size ∧ w.heap.size < t ∧ t < B) (hW : W.setCell ⟨p, 2, none⟩ (.bool true) = W') : LS p w W' t B s j true L lv c := by
  subst hW
  exact h.call hp (Mv.refl p W).set h.rd.worse

/-- What is still to come of a list's terms, L being there. -/
def ItTo (P : Rdr) (s : List UInt8) (j : Nat) (b : Bool) (L : List Tm) (Tot : Option (List Tm × List UInt8)) : Prop :=
  (b = false ∧ j ≤ s.length ∧ ∃ f, (s.drop j).length < f ∧ Tot = (itemsP P false f 0 (s.drop j)).map fun x => (L ++ x.1, x.2)) ∨ (b = true ∧ Tot = none)
/-- All terms have been read, or it is bad. -/
def ItFin (s : List UInt8) (j : Nat) (b : Bool) (L : List Tm) (Tot : Option (List Tm × List UInt8)) : Prop :=
  (b = false ∧ j ≤ s.length ∧ Tot = some (L, s.drop j)) ∨ (b = true ∧ Tot = none)
theorem it_next {P : Rdr} (hS : Snd false P) {s : List UInt8} {j j2 j5 : Nat} {b2 c5 : Bool} {L : List Tm} {T : Tm} {Tot : Option (List Tm × List UInt8)} (h : ItTo P s j false L Tot)
    (ho : (b2 = false ∧ j2 ≤ s.length ∧ P (s.drop j) = some (T, s.drop j2)) ∨ (b2 = true ∧ P (s.drop j) = none)) (hst : (!b2 && goesOn s j2 [44]) = true) (hE : EatO [44] s j2 b2 j5 c5) :
    c5 = false ∧ ItTo P s j5 false (L ++ [T]) Tot ∧ j < j5 ∧ j5 ≤ s.length := by
  rcases h with ⟨_, hj, f, hf, hT⟩ | ⟨hc, _⟩
  · cases f with
    | zero => omega
    | succ f =>
      rw [itemsP, if_neg (by simp)] at hT
      rcases ho with ⟨rfl, h2, hP⟩ | ⟨rfl, hP⟩
      · have hlt := snd_pos hS hP
        rw [List.length_drop, List.length_drop] at hlt
        rw [Bool.not_false, Bool.true_and, goes_is] at hst
        rcases hE with ⟨rfl, _, rfl, h5, h6⟩ | ⟨rfl, rfl, h6⟩
        · rw [hP] at hT
          simp only [h6] at hT
          refine ⟨rfl, Or.inl ⟨rfl, h5, f, ?_, ?_⟩, by simp; omega, h5⟩
          · rw [List.length_drop] at hf ⊢
            simp
            omega
          · rw [hT, itemsP_n f 1 0]
            cases itemsP P false f 0 (s.drop (j2 + [44].length)) with
            | none => rfl
            | some x => simp
        · rw [h6.resolve_left (by decide)] at hst
          cases hst
      · cases hst
  · cases hc
theorem it_end {P : Rdr} {s : List UInt8} {j j2 : Nat} {b2 : Bool} {L : List Tm} {T : Tm} {Tot : Option (List Tm × List UInt8)} (h : ItTo P s j false L Tot)
    (ho : (b2 = false ∧ j2 ≤ s.length ∧ P (s.drop j) = some (T, s.drop j2)) ∨ (b2 = true ∧ P (s.drop j) = none)) (hst : (!b2 && goesOn s j2 [44]) = false) : ItFin s j2 b2 (L ++ [T]) Tot := by
  rcases h with ⟨_, hj, f, hf, hT⟩ | ⟨hc, _⟩
  · cases f with
    | zero => omega
    | succ f =>
      rw [itemsP, if_neg (by simp)] at hT
      rcases ho with ⟨rfl, h2, hP⟩ | ⟨rfl, hP⟩
      · have hno : strip [44] (s.drop j2) = none := by
          rw [Bool.not_false, Bool.true_and, goes_is] at hst
          cases hh : strip [44] (s.drop j2) with
          | none => rfl
          | some x => rw [hh] at hst; cases hst
        rw [hP] at hT
        simp only [hno] at hT
        exact Or.inl ⟨rfl, h2, by rw [hT]; rfl⟩
      · rw [hP] at hT
        exact Or.inr ⟨rfl, hT⟩
  · cases hc
/-- A list without a bar. -/
theorem lst_a {P : Rdr} {s : List UInt8} {i jx j8 : Nat} {bx c8 : Bool} {L : List Tm} (hq : strip [93] (s.drop i) = none) (hF : ItFin s jx bx L (itemsP P false ((s.drop i).length + 1) 0 (s.drop i))) (hst : (!bx && goesOn s jx [124]) = false) (hE : EatO [93] s jx bx j8 c8) :
    (c8 = false ∧ j8 ≤ s.length ∧ lstP P (s.drop i) = some (conses L (.mk 8 0 ⟨#[]⟩ []), s.drop j8)) ∨ (c8 = true ∧ lstP P (s.drop i) = none) := by
  unfold lstP
  simp only [hq]
  rcases hF with ⟨rfl, h1, h2⟩ | ⟨rfl, h2⟩
  · have hno : strip [124] (s.drop jx) = none := by
      rw [Bool.not_false, Bool.true_and, goes_is] at hst
      cases hh : strip [124] (s.drop jx) with
      | none => rfl
      | some x => rw [hh] at hst; cases hst
    rcases hE with ⟨rfl, _, _, h5, h6⟩ | ⟨rfl, rfl, h6⟩
    · exact Or.inl ⟨rfl, h5, by simp only [h2, endP, hno, h6]⟩
    · exact Or.inr ⟨rfl, by simp only [h2, endP, hno, h6.resolve_left (by decide)]⟩
  · rcases hE with ⟨_, hc, _⟩ | ⟨rfl, rfl, h6⟩
    · cases hc
    · exact Or.inr ⟨rfl, by simp only [h2]⟩
theorem bar_good {s : List UInt8} {jx j3 : Nat} {bx c3 : Bool} (hst : (!bx && goesOn s jx [124]) = true) (hE : EatO [124] s jx bx j3 c3) : c3 = false ∧ bx = false ∧ j3 = jx + 1 ∧ j3 ≤ s.length ∧ strip [124] (s.drop jx) = some (s.drop j3) := by
  rcases hE with ⟨rfl, rfl, rfl, h5, h6⟩ | ⟨rfl, rfl, h6⟩
  · exact ⟨rfl, rfl, rfl, h5, h6⟩
  · rcases h6 with rfl | h6
    · cases hst
    · rw [goes_is, h6] at hst
      cases bx <;> cases hst
/-- A list with a bar. -/
theorem lst_b {P : Rdr} {s : List UInt8} {i jx j3 j4 j8 : Nat} {bx c3 b4 c8 : Bool} {L : List Tm} {T : Tm} (hq : strip [93] (s.drop i) = none) (hF : ItFin s jx bx L (itemsP P false ((s.drop i).length + 1) 0 (s.drop i))) (hst : (!bx && goesOn s jx [124]) = true) (hB : EatO [124] s jx bx j3 c3)
    (ho : (b4 = false ∧ j4 ≤ s.length ∧ P (s.drop j3) = some (T, s.drop j4)) ∨ (b4 = true ∧ P (s.drop j3) = none)) (hk : ¬ (T.kd = 8 ∨ T.kd = 9)) (hE : EatO [93] s j4 b4 j8 c8) :
    (c8 = false ∧ j8 ≤ s.length ∧ lstP P (s.drop i) = some (conses L T, s.drop j8)) ∨ (c8 = true ∧ lstP P (s.drop i) = none) := by
  obtain ⟨_, rfl, _, _, h7⟩ := bar_good hst hB
  unfold lstP
  simp only [hq]
  rcases hF with ⟨_, h1, h2⟩ | ⟨hc, h2⟩
  · rcases ho with ⟨rfl, h3, hP⟩ | ⟨rfl, hP⟩
    · rcases hE with ⟨rfl, _, _, h5, h6⟩ | ⟨rfl, rfl, h6⟩
      · exact Or.inl ⟨rfl, h5, by simp only [h2, endP, h7, hP, if_neg hk, h6]⟩
      · exact Or.inr ⟨rfl, by simp only [h2, endP, h7, hP, if_neg hk, h6.resolve_left (by decide)]⟩
    · rcases hE with ⟨_, hc, _⟩ | ⟨rfl, rfl, h6⟩
      · cases hc
      · exact Or.inr ⟨rfl, by simp only [h2, endP, h7, hP]⟩
  · cases hc
theorem lst_c {P : Rdr} {s : List UInt8} {i jx j3 j4 j8 : Nat} {bx c3 b4 c8 : Bool} {L : List Tm} {T : Tm} (hq : strip [93] (s.drop i) = none) (hF : ItFin s jx bx L (itemsP P false ((s.drop i).length + 1) 0 (s.drop i))) (hst : (!bx && goesOn s jx [124]) = true) (hB : EatO [124] s jx bx j3 c3)
    (ho : (b4 = false ∧ j4 ≤ s.length ∧ P (s.drop j3) = some (T, s.drop j4)) ∨ (b4 = true ∧ P (s.drop j3) = none)) (hk : T.kd = 8 ∨ T.kd = 9) (hE : EatO [93] s j4 true j8 c8) : c8 = true ∧ lstP P (s.drop i) = none := by
  obtain ⟨_, rfl, _, _, h7⟩ := bar_good hst hB
  have hc8 : c8 = true := by
    rcases hE with ⟨_, hc, _⟩ | ⟨rfl, _, _⟩
    · cases hc
    · rfl
  refine ⟨hc8, ?_⟩
  unfold lstP
  simp only [hq]
  rcases hF with ⟨_, h1, h2⟩ | ⟨hc, h2⟩
  · rcases ho with ⟨rfl, h3, hP⟩ | ⟨rfl, hP⟩
    · simp only [h2, endP, h7, hP, if_pos hk]
    · simp only [h2, endP, h7, hP]
  · cases hc
end Go.Proofs.YtnbekfpkmebmbaaGreatDoor
