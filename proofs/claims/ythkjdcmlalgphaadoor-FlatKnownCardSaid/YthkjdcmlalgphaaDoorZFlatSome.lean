/-
  The closure that reads so many parts.
-/
import Derived.Test.YthkjdcmlalgphaaDoorZFlatRd
import Derived.Test.YthkjdcmlalgphaaDoorZKitLast
import Derived.Deep.RegionWith
namespace Go.Proofs.YthkjdcmlalgphaaDoor
open Go.RowKit Go.Deep

theorem goes_append_none {P : Int → Nat → Option (Tm × Nat)} : ∀ (a b : List Int) (i : Nat), goes P a i = none → goes P (a ++ b) i = none
  | [], b, i, h => by cases h
  | w :: r, b, i, h => by
    rw [List.cons_append, goes]
    rw [goes] at h
    cases hp : P w i with
    | none => rfl
    | some x =>
      obtain ⟨t, j⟩ := x
      rw [hp] at h
      simp only at h ⊢
      cases hg : goes P r j with
      | none => rw [goes_append_none r b j hg]
      | some y =>
        obtain ⟨ts, k⟩ := y
        rw [hg] at h
        cases h
theorem goes_snoc {P : Int → Nat → Option (Tm × Nat)} : ∀ (a : List Int) (w : Int) (i : Nat) (ts : List Tm) (j : Nat), goes P a i = some (ts, j) → goes P (a ++ [w]) i = (P w j).map fun x => (ts ++ [x.1], x.2)
  | [], w, i, ts, j, h => by
    simp only [goes, Option.some.injEq, Prod.mk.injEq] at h
    obtain ⟨rfl, rfl⟩ := h
    rw [List.nil_append, goes]
    cases P w i <;> rfl
  | x :: r, w, i, ts, j, h => by
    rw [goes] at h
    rw [List.cons_append, goes]
    cases hp : P x i with
    | none => rw [hp] at h; cases h
    | some y =>
      obtain ⟨t, i'⟩ := y
      rw [hp] at h
      simp only at h ⊢
      cases hg : goes P r i' with
      | none => rw [hg] at h; cases h
      | some z =>
        obtain ⟨ts', j'⟩ := z
        rw [hg] at h
        simp only [Option.some.injEq, Prod.mk.injEq] at h
        obtain ⟨rfl, rfl⟩ := h
        rw [goes_snoc r w i' ts' j' hg]
        cases P w j' <;> rfl

theorem goes_le {P : Int → Nat → Option (Tm × Nat)} (hP : ∀ w i t j, P w i = some (t, j) → i ≤ j) : ∀ (a : List Int) (i : Nat) (ts : List Tm) (j : Nat), goes P a i = some (ts, j) → i ≤ j
  | [], i, ts, j, h => by
    simp only [goes, Option.some.injEq, Prod.mk.injEq] at h
    omega
  | x :: r, i, ts, j, h => by
    rw [goes] at h
    cases hp : P x i with
    | none => rw [hp] at h; cases h
    | some y =>
      obtain ⟨t, i'⟩ := y
      rw [hp] at h
      simp only at h
      cases hg : goes P r i' with
      | none => rw [hg] at h; cases h
      | some z =>
        obtain ⟨ts', j'⟩ := z
        rw [hg] at h
        simp only [Option.some.injEq, Prod.mk.injEq] at h
        have h1 := hP _ _ _ _ hp
        have h2 := goes_le hP r i' ts' j' hg
        omega
theorem oneR_le (F : List ByteArray) (xs : List Int) : ∀ (f : Nat) (w : Int) (i : Nat) (t : Tm) (j : Nat), oneR F xs f w i = some (t, j) → i ≤ j := by
  intro f
  induction f with
  | zero => intro w i t j h; cases h
  | succ f ih =>
    intro w i t j h
    rw [oneR] at h
    split at h
    · cases h
    · split at h
      · rw [Option.map_eq_some_iff] at h
        obtain ⟨_, _, h⟩ := h
        simp only [Prod.mk.injEq] at h
        omega
      · split at h
        · cases h
        · split at h
          · cases h
          · rename_i hh n m hhead
            split at h
            · cases h
            · rename_i ps q hs
              simp only [Option.some.injEq, Prod.mk.injEq] at h
              rw [someR] at hs
              split at hs
              · cases hs
              · have := goes_le ih _ _ _ _ hs
                omega

/-- What the closures that read stand on. -/
structure RdCtx (w0 : World) (p bm : Nat) (v : Value) (L : List ByteArray) (xs : List Int) (la : Option Addr) (lcap ab atb lb ob sb : Nat) : Prop where
  tab : Tab w0 p bm v L
  words : WordTab w0
  wrd : Wrd w0 xs la lcap
  cab : w0.cell? ⟨ab, 0, none⟩ = some (.pointer (some ⟨p, 0, none⟩))
  clb : w0.cell? ⟨lb, 0, none⟩ = some (.slice la xs.length lcap)
  cob : w0.cell? ⟨ob, 0, none⟩ = some (.func (.func 69) #[] #[.pointer (some ⟨ab, 0, none⟩), .pointer (some ⟨atb, 0, none⟩), .pointer (some ⟨lb, 0, none⟩), .pointer (some ⟨sb, 0, none⟩)])
  csb : w0.cell? ⟨sb, 0, none⟩ = some (.func (.func 68) #[] #[.pointer (some ⟨lb, 0, none⟩), .pointer (some ⟨atb, 0, none⟩), .pointer (some ⟨ob, 0, none⟩)])
  ne : ab ≠ atb ∧ lb ≠ atb ∧ ob ≠ atb ∧ sb ≠ atb ∧ 1 ≠ atb ∧ ¬ Mine p bm v atb
  nw : ∀ b o, 0 < xs.length → la = some ⟨b, o, none⟩ → b ≠ atb
  lt : atb < w0.heap.size
  few : xs.length ≤ 100000
/-- Since w0 but the place that reading has come to nothing has been written. -/
structure RdW (w0 w : World) (atb i : Nat) : Prop where
  only : Only (fun k => k = atb) w0 w
  box : w.heap[atb]? = some (.cells #[.int .i64 i] 3)
theorem RdW.up {w0 w w' : World} {atb i : Nat} (h : RdW w0 w atb i) (hb : Below w.heap.size w w') : RdW w0 w' atb i := ⟨h.only.call hb, (hb.block _ (Array.getElem?_eq_some_iff.1 h.box).1).trans h.box⟩
theorem RdW.cell {w0 w : World} {atb i : Nat} (h : RdW w0 w atb i) : w.cell? ⟨atb, 0, none⟩ = some (.int .i64 i) ∧ w.frozen? ⟨atb, 0, none⟩ = false := by
  have hb := h.box
  simp [World.cell?, World.frozen?, hb]
theorem RdW.at {w0 w : World} {atb i : Nat} (h : RdW w0 w atb i) (j : Nat) : RdW w0 (w.setCell ⟨atb, 0, none⟩ (.int .i64 j)) atb j := ⟨h.only.put (p := atb) rfl _ _, set1_block h.box⟩
/-- What has been read: a term; so many. -/
def OneV (atb len : Nat) (w w' : World) (o : Option (Tm × Nat)) (tv : Value) (ok : Bool) : Prop := match o with
  | none => ok = false
  | some (t, j) => ok = true ∧ j ≤ len ∧ w'.heap[atb]? = some (.cells #[.int .i64 j] 3) ∧ Lies w' (fun b => w.heap.size ≤ b) t tv
def SomeV (atb len : Nat) (w w' : World) (o : Option (List Tm × Nat)) (a : Option Addr) (m c : Nat) (ok : Bool) : Prop := match o with
  | none => ok = false
  | some (ts, j) => ok = true ∧ j ≤ len ∧ w'.heap[atb]? = some (.cells #[.int .i64 j] 3) ∧ m = ts.length ∧ Lst w' (fun b => w.heap.size ≤ b) ts a c

/-- Terms in a row of their own. -/
def MixQ (w : World) (nb : Nat) (ts : List Tm) : Prop :=
  ∀ j (hl : j < ts.length), ∃ v0 v1 v2 v3, w.cell? ⟨nb, j * 4, none⟩ = some v0 ∧ w.cell? ⟨nb, j * 4 + 1, none⟩ = some v1 ∧ w.cell? ⟨nb, j * 4 + 2, none⟩ = some v2 ∧ w.cell? ⟨nb, j * 4 + 3, none⟩ = some v3 ∧ Lies w (fun b => nb < b) ts[j] (.agg #[v0, v1, v2, v3])
theorem MixQ.keep {w w' : World} {nb atb : Nat} {ts : List Tm} (h : MixQ w nb ts) (ho : Only (fun k => k = atb) w w') (ha : atb < nb) : MixQ w' nb ts := by
  intro j hl
  obtain ⟨u0, u1, u2, u3, d0, d1, d2, d3, hL⟩ := h j hl
  exact ⟨u0, u1, u2, u3, ho.cell (by omega) d0, ho.cell (by omega) d1, ho.cell (by omega) d2, ho.cell (by omega) d3, hL.move (fun b hb => hb) (fun b o v hb hc => ho.cell (by omega) hc) _ _⟩
theorem MixQ.put {w w5 : World} {nb atb : Nat} {ts : List Tm} {t : Tm} {c : Array Value} {ty : TypeId} {v0 v1 v2 v3 : Value} (h : MixQ w nb ts) (ho : Only (fun k => k = atb) w w5) (ha : atb < nb) (hc : w5.heap[nb]? = some (.cells c ty (0, 0))) (hs : (ts.length + 1) * 4 ≤ c.size) (hnb : nb < w.heap.size)
    (hv : Lies w5 (fun b => w.heap.size ≤ b) t (.agg #[v0, v1, v2, v3])) : MixQ (put4 w5 nb (ts.length * 4) v0 v1 v2 v3) nb (ts ++ [t]) := by
  obtain ⟨⟨e0, e1, e2, e3⟩, eo⟩ := put4_cell (o := ts.length * 4) (v0 := v0) (v1 := v1) (v2 := v2) (v3 := v3) hc (by omega)
  have far : ∀ (b o : Nat) (v : Value), nb < b → w5.cell? ⟨b, o, none⟩ = some v → (put4 w5 nb (ts.length * 4) v0 v1 v2 v3).cell? ⟨b, o, none⟩ = some v := fun b o v hb hc => by
    rw [World.cell?_of_block (w := w5) (a := ⟨b, o, none⟩) (put4_heap _ _ _ _ _ _ _ _ (by show b ≠ nb; omega))]
    exact hc
  have h5 := h.keep ho ha
  intro j hl
  rw [List.length_append, List.length_singleton] at hl
  by_cases hij : j = ts.length
  · subst hij
    refine ⟨v0, v1, v2, v3, e0, e1, e2, e3, ?_⟩
    have e : (ts ++ [t])[ts.length]'(by simp) = t := by simp
    rw [e]
    exact hv.move (fun b hb => by omega) (fun b o v hb hc => far b o v (by omega) hc) _ _
  · obtain ⟨u0, u1, u2, u3, d0, d1, d2, d3, hL⟩ := h5 j (by omega)
    refine ⟨u0, u1, u2, u3, (eo _ (by omega)).trans d0, (eo _ (by omega)).trans d1, (eo _ (by omega)).trans d2, (eo _ (by omega)).trans d3, ?_⟩
    have e : (ts ++ [t])[j]'(by simp; omega) = ts[j]'(by omega) := List.getElem_append_left (by omega)
    rw [e]
    exact hL.move (fun b hb => hb) (fun b o v hb hc => far b o v hb hc) _ _
theorem MixQ.lst {w : World} {nb c : Nat} {ts : List Tm} {S : Nat → Prop} (h : MixQ w nb ts) (hS : ∀ b, nb ≤ b → S b) (hl : ts.length ≤ c) (hc : c ≤ 9223372036854775807) : Lst w S ts (some ⟨nb, 0, none⟩) c :=
  ⟨hl, hc, Or.inr ⟨_, rfl, fun _ => ⟨hS _ (Nat.le_refl _), rfl⟩, Row.of fun i hi => by
    obtain ⟨u0, u1, u2, u3, d0, d1, d2, d3, hL⟩ := h i hi
    show ∃ v0 v1 v2 v3, w.cell? ⟨nb, 0 + i * 4, none⟩ = some v0 ∧ w.cell? ⟨nb, 0 + i * 4 + 1, none⟩ = some v1 ∧ w.cell? ⟨nb, 0 + i * 4 + 2, none⟩ = some v2 ∧ w.cell? ⟨nb, 0 + i * 4 + 3, none⟩ = some v3 ∧ _
    rw [Nat.zero_add]
    exact ⟨u0, u1, u2, u3, d0, d1, d2, d3, hL.wider (fun b hb => hS b (by omega))⟩⟩⟩

/-- What reading one term comes to, of a given depth. -/
def OneC (w0 : World) (L : List ByteArray) (xs : List Int) (ab atb lb sb f : Nat) : Prop :=
  ∀ (w : World) (i : Nat) (x : Int), RdW w0 w atb i → i ≤ xs.length → 0 ≤ x → x < 18446744073709551616 → xs.length < f + i →
    Calls Tryd.prog 69 #[.int .u64 x, .pointer (some ⟨ab, 0, none⟩), .pointer (some ⟨atb, 0, none⟩), .pointer (some ⟨lb, 0, none⟩), .pointer (some ⟨sb, 0, none⟩)] w fun e w' =>
      ∃ (k' n' : Int) (s' : ByteArray) (a' : Option Addr) (m' c' : Nat) (ok : Bool), e = .returned (.tuple #[.agg #[.int .i64 k', .int .i64 n', .string s', .slice a' m' c'], .bool ok]) ∧ Only (fun k => k = atb) w w' ∧
        OneV atb xs.length w w' (oneR L xs f x i) (.agg #[.int .i64 k', .int .i64 n', .string s', .slice a' m' c']) ok

set_option maxHeartbeats 4000000 in
set_option maxRecDepth 100000 in
theorem some_of {w0 : World} {p bm : Nat} {v : Value} {L : List ByteArray} {xs : List Int} {la : Option Addr} {lcap ab atb lb ob sb : Nat} (hC : RdCtx w0 p bm v L xs la lcap ab atb lb ob sb) (f : Nat) (hone : OneC w0 L xs ab atb lb sb f) :
    ∀ (w : World) (i m : Nat), RdW w0 w atb i → i ≤ xs.length → m ≤ 1000 → (m = 0 ∨ xs.length < f + (i + m)) →
      Calls Tryd.prog 68 #[.int .i64 m, .pointer (some ⟨lb, 0, none⟩), .pointer (some ⟨atb, 0, none⟩), .pointer (some ⟨ob, 0, none⟩)] w fun e w' =>
        ∃ (a' : Option Addr) (m' c' : Nat) (ok : Bool), e = .returned (.tuple #[.slice a' m' c', .bool ok]) ∧ Only (fun k => k = atb) w w' ∧ SomeV atb xs.length w w' (someR (oneR L xs f) xs m i) a' m' c' ok := by
  intro w i m hw hi hm hfu
  have hone := Hid.mk hone
  have HC := Hid.mk hC
  have clb := hw.only.cell hC.ne.2.1 hC.clb
  have cob := hw.only.cell hC.ne.2.2.1 hC.cob
  obtain ⟨cat, fat⟩ := hw.cell
  have hfew := hC.few
  have hwd : IntKind.i64.wrap ((xs.length : Int) - i) = (xs.length : Int) - i := wrap_id (by omega) (by omega)
  by_cases hlen : xs.length < i + m
  · have e1 : someR (oneR L xs f) xs m i = none := by rw [someR, if_pos hlen]
    have hd : decide ((xs.length : Int) - i < m) = true := by rw [decide_eq_true_eq]; omega
    rw [e1]
    have HW := Hid.mk hw
    clear hw hi hm hfu hlen hC e1 hfew
    go_enter Tryd.func68, Tryd.ntmps68
    go_wp2
    go_ret2
    exact ⟨_, _, _, _, rfl, Only.refl _ _, rfl⟩
  · have hd : decide ((xs.length : Int) - i < m) = false := by rw [decide_eq_false_iff_not]; omega
    have e1 : someR (oneR L xs f) xs m i = goes (oneR L xs f) ((xs.drop i).take m) (i + m) := by rw [someR, if_neg hlen]
    rw [e1]
    have hwa : IntKind.i64.wrap ((i : Int) + m) = (i : Int) + m := wrap_id (by omega) (by omega)
    obtain ⟨i0, hi0, hz0, hz1, hby⟩ := info_at termInfo
    obtain ⟨M, hM⟩ : ∃ M, M = madeCells (Value.agg #[.int .i64 0, .int .i64 0, .string ByteArray.empty, .slice none 0 0]).cells (((m : Nat) : Int).toNat * i0.size) := ⟨_, rfl⟩
    have hMs : M.size = m * 4 := by rw [hM, size_madeCells, hz1]; simp
    have hmk : ∀ W : World, (Instr.makeSlice 23 (.int .i64 (m : Int)) (.int .i64 (m : Int))).run Tryd.prog W = .ok (.slice (some ⟨W.heap.size, 0, none⟩) m m) (W.alloc (.cells M 25)) := fun W => by
      have h := run_make (P := Tryd.prog) W 23 25 i0 _ Tryd.underlying23 hi0 hz0 .i64 .i64 (m : Int) (m : Int) (by omega) (by omega) (by rw [hby]; omega) (by omega)
      rw [← hM] at h
      simpa using h
    have hM' := Hid.mk hMs
    have HW := Hid.mk hw
    have HB := Hid.mk (show i ≤ xs.length ∧ m ≤ 1000 ∧ ¬ xs.length < i + m ∧ xs.length ≤ 100000 from ⟨hi, hm, hlen, hfew⟩)
    have HFu := Hid.mk hfu
    have hcp := hC.wrd.len
    have hs1 : (0 : Int) ≤ i ∧ (i : Int) ≤ (i : Int) + m ∧ (i : Int) + m ≤ lcap := by omega
    clear hM hMs hw hC e1 hfu
    go_enter Tryd.func68, Tryd.ntmps68
    go_wp2
    obtain ⟨wa, hwa2⟩ : ∃ wa, (if lcap = i then la else Option.map (fun x => x.add i) la) = wa := ⟨_, rfl⟩
    refine wp_region_held (S := Up w) (by kernel_rfl) ?_
    refine chain_take (i := 0) (d := 19) (v := .slice la xs.length lcap) rfl rfl (by kernel_rfl) (by kernel_rfl) (by kernel_rfl) rfl (fun W h => (by have u0 := cell_below h.out _ _ _ clb; go_simp)) (fun _ _ _ h => h) (Up.refl w).drew ?_
    simp only [Act.put, List.setIfInBounds_toArray, List.set_cons_zero, List.set_cons_succ]
    refine chain_take (i := 1) (d := 20) (v := .int .i64 i) rfl rfl (by kernel_rfl) (by kernel_rfl) (by kernel_rfl) rfl (fun W h => (by have u0 := cell_below h.out _ _ _ cat; go_simp)) (fun _ _ _ h => h) (Up.refl w).drew ?_
    simp only [Act.put, List.setIfInBounds_toArray, List.set_cons_zero, List.set_cons_succ]
    refine chain_take (i := 2) (d := 21) (v := .int .i64 i) rfl rfl (by kernel_rfl) (by kernel_rfl) (by kernel_rfl) rfl (fun W h => (by have u0 := cell_below h.out _ _ _ cat; go_simp)) (fun _ _ _ h => h) (Up.refl w).drew ?_
    simp only [Act.put, List.setIfInBounds_toArray, List.set_cons_zero, List.set_cons_succ]
    refine chain_take (i := 3) (d := 22) (v := .int .i64 m) rfl rfl (by kernel_rfl) (by kernel_rfl) (by kernel_rfl) rfl (fun _ _ => rfl) (fun _ _ _ h => h) (Up.refl w).drew ?_
    simp only [Act.put, List.setIfInBounds_toArray, List.set_cons_zero, List.set_cons_succ]
    refine chain_take (i := 4) (d := 23) (v := .int .i64 ((i : Int) + m)) rfl rfl (by kernel_rfl) (by kernel_rfl) (by kernel_rfl) rfl (fun _ _ => (by go_simp)) (fun _ _ _ h => h) (Up.refl w).drew ?_
    simp only [Act.put, List.setIfInBounds_toArray, List.set_cons_zero, List.set_cons_succ]
    refine chain_take (i := 5) (d := 24) (v := .slice wa m (lcap - i)) rfl rfl (by kernel_rfl) (by kernel_rfl) (by kernel_rfl) rfl (fun _ _ => (by go_simp; omega)) (fun _ _ _ h => h) (Up.refl w).drew ?_
    simp only [Act.put, List.setIfInBounds_toArray, List.set_cons_zero, List.set_cons_succ]
    refine chain_take (i := 6) (d := 25) (v := .int .i64 m) rfl rfl (by kernel_rfl) (by kernel_rfl) (by kernel_rfl) rfl (fun _ _ => rfl) (fun _ _ _ h => h) (Up.refl w).drew ?_
    simp only [Act.put, List.setIfInBounds_toArray, List.set_cons_zero, List.set_cons_succ]
    refine chain_take (i := 8) (d := 7) (v := .slice wa m (lcap - i)) rfl rfl (by kernel_rfl) (by kernel_rfl) (by kernel_rfl) rfl (fun _ _ => rfl) (fun _ _ _ h => h) (Up.refl w).drew ?_
    simp only [Act.put, List.setIfInBounds_toArray, List.set_cons_zero, List.set_cons_succ]
    refine chain_value (i := 7) (d := 26) (v := .slice (some ⟨w.heap.size, 0, none⟩) m m) (w' := w.drew.alloc (.cells M 25)) (by kernel_rfl) rfl rfl rfl (by go_simp) ((Up.refl w).drew.alloc) ?_
    simp only [Act.put, List.setIfInBounds_toArray, List.set_cons_zero, List.set_cons_succ]
    refine chain_take (i := 9) (d := 8) (v := .slice (some ⟨w.heap.size, 0, none⟩) m m) rfl rfl (by kernel_rfl) (by kernel_rfl) (by kernel_rfl) rfl (fun _ _ => rfl) (fun _ _ _ h => h) ((Up.refl w).drew.alloc) ?_
    simp only [Act.put, List.setIfInBounds_toArray, List.set_cons_zero, List.set_cons_succ]
    refine wpAnyH_done (by kernel_rfl) ?_ _
    obtain ⟨nb, hnb⟩ : ∃ nb, w.heap.size = nb := ⟨_, rfl⟩
    obtain ⟨W1, hW1⟩ : ∃ W1, w.drew.alloc (.cells M 25) = W1 := ⟨_, rfl⟩
    have hb1 : Below w.heap.size w W1 := by rw [← hW1]; exact (Below.drew (Below.refl _ _)).alloc (Nat.le_refl _) _
    have hnew : W1.heap[nb]? = some (.cells M 25 (0, 0)) := by rw [← hW1, ← hnb]; exact new_block w.drew _
    have hz1' : W1.heap.size = nb + 1 := by rw [← hW1, ← hnb]; exact World.size_alloc _ _
    rw [hW1, hnb]
    have h1 := HW.out.up hb1
    have h2 : RdW w0 (W1.setCell ⟨atb, 0, none⟩ (.int .i64 ((i : Int) + m))) atb (i + m) := by
      have := h1.at (i + m)
      rwa [Int.natCast_add] at this
    obtain ⟨cat1, fat1⟩ := h1.cell
    obtain ⟨W2, hW2⟩ : ∃ W2, W1.setCell ⟨atb, 0, none⟩ (.int .i64 ((i : Int) + m)) = W2 := ⟨_, rfl⟩
    rw [hW2] at h2
    have hlt := HC.out.lt
    have hwz := HW.out.only.size
    have hne : atb ≠ nb := by omega
    have hnew2 : W2.heap[nb]? = some (.cells M 25 (0, 0)) := by rw [← hW2, Below.heap_setCell _ _ _ _ (Ne.symm hne)]; exact hnew
    have ho2 : Only (fun k => k = atb) w W2 := by rw [← hW2]; exact Only.put (S := fun k => k = atb) (p := atb) (Only.up hb1) rfl _ _
    have hz2' : W2.heap.size = nb + 1 := by rw [← hW2, size_setCell', hz1']
    have hwc : ∀ j, j < m → ∃ b o, wa = some ⟨b, o, none⟩ ∧ b ≠ atb ∧ ∃ hj : i + j < xs.length, w0.cell? ⟨b, o + j, none⟩ = some (.int .u64 xs[i + j]) := fun j hj => by
      have hB := HB.out
      obtain ⟨b, o, e, hc⟩ := HC.out.wrd.cells (by omega)
      have hcl := HC.out.wrd.len
      rw [if_neg (by omega), e] at hwa2
      refine ⟨b, o + i, ?_, HC.out.nw b o (by omega) e, by omega, ?_⟩
      · rw [← hwa2]
        simp [Addr.add_lit]
      · have := hc (i + j) (by omega)
        rw [show o + i + j = o + (i + j) by omega]
        exact this
    have HWC := Hid.mk hwc
    have H2 := Hid.mk h2
    have HN2 := Hid.mk hnew2
    have HO2 := Hid.mk ho2
    have HNB := Hid.mk hnb
    have HZ2 := Hid.mk hz2'
    have HAL := Hid.mk (show atb < nb by omega)
    have hwim : IntKind.i64.wrap ((i : Int) + m) = (i : Int) + m := hwa
    have cob2 := (h2.only.cell HC.out.ne.2.2.1 HC.out.cob)
    clear hwc h2 hnew hnew2 ho2 hnb hz1' hz2' hb1 hlt hwz hW1 h1 hmk clb cob cat fat hwa2 hs1 hcp hlen hfew hi hm
    go_wp2
    go_loopw [32] (fun ii wr => ∃ (j q : Nat) (ts : List Tm) (c : Array Value), ii = .int .i64 j ∧ j ≤ m ∧ Hid (RdW w0 wr atb q) ∧ Hid (q ≤ xs.length ∧ i + m ≤ q ∧ ts.length = j) ∧ Hid (goes (oneR L xs f) (((xs.drop i).take m).take j) (i + m) = some (ts, q)) ∧
      Hid (wr.heap[nb]? = some (.cells c 25 (0, 0)) ∧ c.size = m * 4) ∧ Hid (MixQ wr nb ts) ∧ Hid (Only (fun k => k = atb) w wr)) (fun ii _ => m - (intOf ii).toNat)
    case atStart =>
      refine ⟨0, i + m, [], M, rfl, Nat.zero_le _, H2, Hid.mk ⟨by have := HB.out; omega, Nat.le_refl _, rfl⟩, Hid.mk rfl, Hid.mk ⟨HN2.out, hM'.out⟩, Hid.mk (fun j hj => by cases hj), HO2⟩
    case round =>
      obtain ⟨j, q, ts, c, rfl, hj, hR, hQ, hG, hN, hX, hO⟩ := hrel
      by_cases hlt : j < m
      · obtain ⟨b, o, rfl, hba, hjx, hcw⟩ := HWC.out j hlt
        have cw := hR.out.only.cell hba hcw
        have cobr := hR.out.only.cell HC.out.ne.2.2.1 HC.out.cob
        have hxr := HC.out.wrd.rng _ (List.getElem_mem hjx)
        have hws : ((xs.drop i).take m).take (j + 1) = ((xs.drop i).take m).take j ++ [xs[i + j]] := by
          have e : ((xs.drop i).take m)[j]? = some xs[i + j] := by
            rw [List.getElem?_take, if_pos hlt, List.getElem?_drop, List.getElem?_eq_getElem hjx]
          exact List.take_succ_eq_append_getElem (l := (xs.drop i).take m) (i := j) (by rw [List.length_take, List.length_drop]; omega) |>.trans (by rw [show ((xs.drop i).take m)[j]'(by rw [List.length_take, List.length_drop]; omega) = xs[i + j] from Option.some.inj ((List.getElem?_eq_getElem _).symm.trans e)])
        have hgs := goes_snoc (P := oneR L xs f) _ xs[i + j] (i + m) ts q hG.out
        rw [← hws] at hgs
        have hgn : goes (oneR L xs f) (((xs.drop i).take m).take (j + 1)) (i + m) = none → goes (oneR L xs f) ((xs.drop i).take m) (i + m) = none := fun h => by
          have := goes_append_none (((xs.drop i).take m).take (j + 1)) (((xs.drop i).take m).drop (j + 1)) (i + m) h
          rwa [List.take_append_drop] at this
        have hcall := hone.out wr q xs[i + j] hR.out hQ.out.1 hxr.1 hxr.2 (by have := hQ.out; have := HFu.out; omega)
        obtain ⟨x, hx⟩ : ∃ x, xs[i + j] = x := ⟨_, rfl⟩
        rw [hx] at cw hcall hgs
        have HCall := Hid.mk hcall
        have HGS := Hid.mk hgs
        have HGN := Hid.mk hgn
        have HLT := Hid.mk hlt
        have hwj : IntKind.i64.wrap ((j : Int) + 1) = ((j + 1 : Nat) : Int) := by have := HB.out; rw [wrap_id (by omega) (by omega)]; omega
        have hle : decide ((j : Int) < m) = true := by rw [decide_eq_true_eq]; omega
        have hnbz : nb < wr.heap.size := (Array.getElem?_eq_some_iff.1 hN.out.1).1
        have hnba : nb ≠ atb := by have := HAL.out; omega
        have hz4 : j * 4 + 3 < m * 4 := by omega
        have hz40 : j * 4 < m * 4 ∧ j * 4 + 1 < m * 4 ∧ j * 4 + 2 < m * 4 := by omega
        have HZ4 := Hid.mk hz4
        have HZ5 := Hid.mk hz40
        have HNZ := Hid.mk hnbz
        have HNA := Hid.mk hnba
        clear hcall hgs hgn hws hjx hcw hxr hx hlt hnbz hz4 hz40
        cases hP : oneR L xs f x q with
        | none =>
          have hcall := HCall.out
          rw [hP] at hcall
          have HCall := Hid.mk hcall
          have HP := Hid.mk hP
          clear hcall hP
          go_wp2_with (first
            | (go_at_call 69; refine HCall.out.mono ?_; rintro e w5 ⟨k5, n5, s5, a5, m5, c5, ok5, rfl, ho5, hv5⟩; obtain rfl : ok5 = false := hv5; have HO5 := Hid.mk ho5; clear ho5))
          go_ret2
          refine ⟨none, 0, 0, false, by rfl, (hO.out.trans HO5.out (fun k hk => Or.inl hk)).call ((Below.refl _ _).alloc (Nat.le_refl _) _), ?_⟩
          have h1 := HGS.out
          rw [HP.out] at h1
          rw [HGN.out h1]
          rfl
        | some tq =>
          obtain ⟨t5, q5⟩ := tq
          have hcall := HCall.out
          rw [hP] at hcall
          have HCall := Hid.mk hcall
          have HP := Hid.mk hP
          clear hcall hP
          go_wp2_with (
               go_at_call 69; refine HCall.out.mono ?_; rintro e w5 ⟨k5, n5, s5, a5, m5, c5, ok5, rfl, ho5, hv5⟩; obtain ⟨rfl, hq5, hb5, hl5⟩ := hv5
               obtain ⟨W6, hW6⟩ : ∃ W6, w5.alloc (.cells #[.int .i64 k5, .int .i64 n5, .string s5, .slice a5 m5 c5] 25) = W6 := ⟨_, rfl⟩
               have hb6 : Below w5.heap.size w5 W6 := by rw [← hW6]; exact (Below.refl _ _).alloc (Nat.le_refl _) _
               have hx6 : W6.heap[w5.heap.size]? = some (.cells #[.int .i64 k5, .int .i64 n5, .string s5, .slice a5 m5 c5] 25) := by rw [← hW6]; exact new_block _ _
               obtain ⟨⟨q0, q1, q2, q3⟩, _⟩ := kept4 hx6 (Below.refl _ _)
               have ho6 := ho5.call hb6
               have en := ho6.box hN.out.1 HNA.out
               have frn : ∀ j, W6.frozen? ⟨nb, j, none⟩ = false := fun j => (by simp [World.frozen?, en])
               have isn : ∀ j, j < m * 4 → ∃ u, W6.cell? ⟨nb, j, none⟩ = some u := fun j hj => ⟨_, (cell_of_row W6 nb j c 25 (0, 0) en).trans (Array.getElem?_eq_getElem (by rw [hN.out.2]; exact hj))⟩
               obtain ⟨z0, y0⟩ := isn (j * 4) HZ5.out.1
               obtain ⟨z1, y1⟩ := isn (j * 4 + 1) HZ5.out.2.1
               obtain ⟨z2, y2⟩ := isn (j * 4 + 2) HZ5.out.2.2
               obtain ⟨z3, y3⟩ := isn (j * 4 + 3) HZ4.out
               have fr0 := frn (j * 4)
               have fr1 := frn (j * 4 + 1)
               have fr2 := frn (j * 4 + 2)
               have fr3 := frn (j * 4 + 3)
               have hw5z : nb ≠ w5.heap.size := by have h1 := HNZ.out; have h2 := ho5.size; omega
               have HO5 := Hid.mk ho6
               have HV5 := Hid.mk (show q5 ≤ xs.length ∧ W6.heap[atb]? = some (.cells #[.int .i64 q5] 3) ∧ Lies W6 (fun b => wr.heap.size ≤ b) t5 (.agg #[.int .i64 k5, .int .i64 n5, .string s5, .slice a5 m5 c5]) from ⟨hq5, (hb6.block _ (Array.getElem?_eq_some_iff.1 hb5).1).trans hb5, hl5.below hb6⟩)
               have HEN := Hid.mk en
               clear isn frn ho5 hb5 hl5 hq5 hb6 hx6 ho6 en)
          go_roundw
          case rel =>
            have hlt := HLT.out
            have hQ' := hQ.out
            have h1 := HGS.out
            rw [HP.out] at h1
            have hqq := oneR_le L xs f _ _ _ _ HP.out
            have hput := hX.out.put HO5.out HAL.out HEN.out (by rw [hN.out.2, hQ'.2.2]; omega) HNZ.out HV5.out.2.2
            rw [hQ'.2.2] at hput
            have hOn : Only (fun k => k = atb) w (put4 W6 nb (j * 4) (.int .i64 k5) (.int .i64 n5) (.string s5) (.slice a5 m5 c5)) := by
              have hg := HNB.out
              have h2 := hO.out.trans HO5.out (fun k hk => Or.inl hk)
              refine h2.trans (S' := fun k => k = nb) ?_ (fun k hk => Or.inr (by omega))
              exact (((Only.set (S := fun k => k = nb) _ _ rfl).put rfl _ _).put rfl _ _).put rfl _ _
            have hRn : RdW w0 (put4 W6 nb (j * 4) (.int .i64 k5) (.int .i64 n5) (.string s5) (.slice a5 m5 c5)) atb q5 :=
              ⟨HW.out.only.trans hOn (fun k hk => Or.inl hk), (put4_heap _ _ _ _ _ _ _ _ (fun e => HNA.out e.symm)).trans HV5.out.2.1⟩
            exact ⟨j + 1, q5, ts ++ [t5], _, by first | rfl | go_num, by omega, Hid.mk hRn, Hid.mk ⟨HV5.out.1, by omega, by rw [List.length_append, hQ'.2.2]; rfl⟩, Hid.mk h1, Hid.mk ⟨put4_block HEN.out, by simpa using hN.out.2⟩, Hid.mk hput, Hid.mk hOn⟩
          case measure =>
            have hlt := HLT.out
            simp [intOf]
            omega
      · obtain rfl : j = m := by omega
        have HG := Hid.mk hG.out
        go_wp2
        go_ret2
        have hg := hG.out
        have hB := HB.out
        rw [List.take_of_length_le (by rw [List.length_take]; omega)] at hg
        refine ⟨_, _, _, _, rfl, hO.out, ?_⟩
        rw [hg]
        exact ⟨rfl, hQ.out.1, hR.out.box, hQ.out.2.2.symm, hX.out.lst (fun b hb => by have := HNB.out; omega) (by rw [hQ.out.2.2]; exact Nat.le_refl _) (by omega)⟩
end Go.Proofs.YthkjdcmlalgphaaDoor

/-
  The closure that reads one term.
-/
namespace Go.Proofs.YthkjdcmlalgphaaDoor
open Go.RowKit Go.Deep

theorem Only.new4 {S : Nat → Prop} {w w1 : World} {b : Nat} (h : Only S w w1) (hb : w.heap.size ≤ b) (v0 v1 v2 v3 : Value) : Only S w ((((w1.setCell ⟨b, 0, none⟩ v0).setCell ⟨b, 1, none⟩ v1).setCell ⟨b, 2, none⟩ v2).setCell ⟨b, 3, none⟩ v3) :=
  h.trans (S' := fun k => k = b) ((((Only.set (S := fun k => k = b) w1 v0 rfl).put rfl 1 v1).put rfl 2 v2).put rfl 3 v3) (fun k hk => Or.inr (by omega))
theorem boxedB_is (x : Int) : Wd.boxedB x = hasL (Wd.kd x) := by
  unfold Wd.boxedB hasL Wd.kd
  rw [Bool.eq_iff_iff, decide_eq_true_eq, decide_eq_true_eq]
  omega

def mkO (k n : Int) (o : Option (List Tm × Nat)) : Option (Tm × Nat) := match o with
  | none => none
  | some (ps, j) => some (.mk k n ⟨#[]⟩ ps, j)
theorem headR_bd {k : Int} {xs : List Int} {i h m : Nat} {n : Int} (hh : headR k xs i = some (h, n, m)) (hi : i ≤ xs.length) : i + h ≤ xs.length ∧ m ≤ 200 ∧ 1 ≤ h + m ∧ h ≤ 1 ∧ 0 ≤ n ∧ n ≤ 1073741824 := by
  rw [headR] at hh
  split at hh
  · simp only [Option.some.injEq, Prod.mk.injEq] at hh
    omega
  · split at hh
    · cases hh
    · rename_i y hy
      obtain ⟨hlt, _⟩ := List.getElem?_eq_some_iff.1 hy
      split at hh
      · rename_i h7
        have h2 := unN_rng y 10 h7.2 (Or.inl rfl)
        have h3 : Wd.unN y ≤ 64 := by
          have hu : Wd.unB y = true := by
            by_cases hu : Wd.unB y = true
            · exact hu
            · have := h7.2; rw [Wd.unK, if_neg hu] at this; omega
          have ho := (Wd.okB_iff _ _).1 hu
          have h8 := h7.2
          rw [Wd.unK, if_pos hu] at h8
          rw [Wd.unN, if_pos hu]
          rw [h8, show Wd.hi 10 = 64 from rfl] at ho
          exact ho.2.2.2.1
        simp only [Option.some.injEq, Prod.mk.injEq] at hh
        omega
      · split at hh
        · rename_i h5
          have h2 := unN_rng y 11 h5.2 (Or.inr rfl)
          simp only [Option.some.injEq, Prod.mk.injEq] at hh
          omega
        · cases hh

set_option maxHeartbeats 4000000 in
set_option maxRecDepth 100000 in
theorem one_any {w0 : World} {p bm : Nat} {v : Value} {L : List ByteArray} {xs : List Int} {la : Option Addr} {lcap ab atb lb ob sb : Nat} (hC : RdCtx w0 p bm v L xs la lcap ab atb lb ob sb) : ∀ f, OneC w0 L xs ab atb lb sb f := by
  intro f
  induction f with
  | zero => intro w i x _ hi _ _ hfu; omega
  | succ f ih =>
    intro w i x hw hi hx0 hx1 hfu
    have hsome := Hid.mk (some_of hC f ih)
    clear ih
    have HC := Hid.mk hC
    have hfew := hC.few
    obtain ⟨W0, hW0⟩ : ∃ W0, w.alloc (.cells #[.int .i64 0, .int .i64 0, .string ⟨#[]⟩, .slice none 0 0] 25) = W0 := ⟨_, rfl⟩
    have hb0 : Below w.heap.size w W0 := by rw [← hW0]; exact (Below.refl _ _).alloc (Nat.le_refl _) _
    have hz0 : W0.heap.size = w.heap.size + 1 := by rw [← hW0]; simp
    have hbx : W0.heap[w.heap.size]? = some (.cells #[.int .i64 0, .int .i64 0, .string ⟨#[]⟩, .slice none 0 0] 25) := by rw [← hW0]; exact new_block _ _
    have hwz := hw.only.size
    have hlta := hC.lt
    have h0 := hw.up hb0
    have hw0 := hC.words.kept h0.only (fun e => hC.ne.2.2.2.2.1 e)
    have hun := unpack_any x W0 hw0 hx0 hx1
    have hbox := Hid.mk (fun w' => boxed_any x w' hx0 hx1)
    have HW := Hid.mk hw
    have H0 := Hid.mk h0
    have HB0 := Hid.mk hb0
    have HBX := Hid.mk hbx
    have HZ0 := Hid.mk hz0
    have HI := Hid.mk (show i ≤ xs.length ∧ xs.length ≤ 100000 ∧ xs.length < f + 1 + i ∧ atb < w.heap.size from ⟨hi, hfew, hfu, by omega⟩)
    have HX := Hid.mk (show 0 ≤ x ∧ x < 18446744073709551616 from ⟨hx0, hx1⟩)
    obtain ⟨⟨t0, t1, t2, t3⟩, f0, f1, f2, f3⟩ := kept4 hbx (Below.refl _ _)
    clear hw h0 hb0 hbx hz0 hwz hlta hi hfew hfu hx0 hx1 hw0 hC
    cases hub : Wd.unB x with
    | false =>
      have e1 : oneR L xs (f + 1) x i = none := by rw [oneR, if_pos hub]
      rw [e1]
      have k1 : Wd.unK x = 0 := by rw [Wd.unK, hub]; rfl
      have k2 : Wd.unN x = 0 := by rw [Wd.unN, hub]; rfl
      have k3 : Wd.unE x = 4 := by rw [Wd.unE, hub]; rfl
      rw [k1, k2, k3] at hun
      have hun := Hid.mk hun
      clear e1 k1 k2 k3 hub
      go_enter Tryd.func69, Tryd.ntmps69
      go_upto_region 1 with fail
      try rw [hW0]
      clear hW0
      go_wp2_with (go_at_call 70; refine hun.out.mono ?_; rintro e w1 ⟨rfl, hb1⟩; obtain ⟨⟨q0, q1, q2, q3⟩, r0, r1, r2, r3⟩ := kept4 HBX.out hb1; have HL := Hid.mk hb1; clear hb1)
      exact ret2_stored rfl rfl rfl rfl q0 q1 q2 q3 ⟨_, _, _, _, _, _, _, rfl, ((Only.up HB0.out).call HL.out).new4 (Nat.le_refl _) _ _ _ _, rfl⟩
    | true =>
      have hok := (Wd.okB_iff _ _).1 hub
      have k1 : Wd.unK x = Wd.kd x := by rw [Wd.unK, hub]; rfl
      have k2 : Wd.unN x = Wd.nm x := by rw [Wd.unN, hub]; rfl
      have k3 : Wd.unE x = 0 := by rw [Wd.unE, hub]; rfl
      have hbd := Wd.nm_bd x
      rw [k1, k2, k3] at hun
      have hun := Hid.mk hun
      have hbi := boxedB_is x
      have HLO := Hid.mk (fun e : Wd.kd x = 2 => (by rw [e] at hok; rw [show Wd.lo 2 = 0 from rfl] at hok; exact hok.2.2.1 : 0 ≤ Wd.nm x))
      have HK := Hid.mk (show 0 ≤ Wd.kd x ∧ Wd.kd x < 12 from ⟨hok.1, hok.2.1⟩)
      have HN := Hid.mk hbd
      cases hl : hasL (Wd.kd x) with
      | false =>
        have e1 : oneR L xs (f + 1) x i = (plainR L (Wd.kd x) (Wd.nm x)).map fun t => (t, i) := by rw [oneR, if_neg (by rw [hub]; simp), if_pos hl]
        rw [e1]
        rw [hbi, hl] at hbox
        obtain ⟨K, hK⟩ : ∃ K, Wd.kd x = K := ⟨_, rfl⟩
        obtain ⟨N, hN⟩ : ∃ N, Wd.nm x = N := ⟨_, rfl⟩
        rw [hK, hN] at hun HLO ⊢
        rw [hN] at HN
        rw [hK] at HK
        clear e1 k1 k2 k3 hbi hbd hok hub hl hK hN
        go_enter Tryd.func69, Tryd.ntmps69
        go_upto_region 1 with fail
        try rw [hW0]
        clear hW0
        go_wp2_with (first
          | (go_at_call 70; refine hun.out.mono ?_; rintro e w1 ⟨rfl, hb1⟩; have hu1 : Up W0 w1 := hb1; have h1 := H0.out.up hb1; have cab := h1.only.cell HC.out.ne.1 HC.out.cab; have H1 := Hid.mk h1; clear h1 hb1)
          | (go_at_call 71; refine (hbox.out _).mono ?_; rintro e w2 ⟨rfl, rfl⟩)
          | (go_at_call 72; refine (plain_any p bm v L K N _ (HC.out.tab.kept H1.out.only (fun k hk e => HC.out.ne.2.2.2.2.2 (e ▸ hk))) HK.out.1 (by have := HK.out.2; omega) (by have := HN.out; omega) (by have := HN.out; omega) HLO.out).mono ?_; rintro e w3 ⟨k5, n5, s5, a5, m5, c5, ok5, rfl, hp3, hb3⟩; have hu3 := hu1.call hb3; obtain ⟨⟨q0, q1, q2, q3⟩, r0, r1, r2, r3⟩ := kept4 HBX.out hu3.out; have HL := Hid.mk hu3; have HP := Hid.mk hp3; have H3 := Hid.mk (H1.out.up hb3); clear hb3 hp3))
        refine ret2_stored rfl rfl rfl rfl q0 q1 q2 q3 ⟨_, _, _, _, _, _, _, rfl, ((Only.up HB0.out).call HL.out.out).new4 (Nat.le_refl _) _ _ _ _, ?_⟩
        obtain ⟨hp1, hp2⟩ := HP.out
        subst hp1
        cases hpl : plainR L K N with
        | none => rfl
        | some t =>
          refine ⟨rfl, HI.out.1, ?_, ?_⟩
          · rw [set4_heap _ _ _ _ _ _ _ (by have := HI.out; omega)]
            exact H3.out.box
          · exact (hp2 t hpl).move (fun b hb => hb.elim) (fun b o u hb hc => hb.elim) _ _
      | true =>
        rw [hbi, hl] at hbox
        by_cases hni : Wd.nm x = i
        · cases hhd : headR (Wd.kd x) xs i with
          | none =>
            have e1 : oneR L xs (f + 1) x i = none := by rw [oneR, if_neg (by rw [hub]; simp), if_neg (by rw [hl]; simp), if_neg (by simpa using hni), hhd]
            rw [e1]
            have hcl := HC.out.wrd.len
            have hir := HI.out
            obtain ⟨wa, hwa2⟩ : ∃ wa, (if lcap = i then la else Option.map (fun x => x.add i) la) = wa := ⟨_, rfl⟩
            have hwc : ∀ w', Only (fun k => k = atb) w0 w' → ∀ h : i < xs.length, ∃ b o, wa = some ⟨b, o, none⟩ ∧ w'.cell? ⟨b, o, none⟩ = some (.int .u64 xs[i]) := fun w' ho h => by
              obtain ⟨b, o, e, hc⟩ := HC.out.wrd.cells (by omega)
              rw [if_neg (by omega), e] at hwa2
              refine ⟨b, o + i, ?_, ho.cell (HC.out.nw b o (by omega) e) (hc i h)⟩
              rw [← hwa2]
              simp [Addr.add_lit]
            have hhead := fun w' (ho : Only (fun k => k = atb) w0 w') => headOf_any (Wd.kd x) xs i wa (lcap - i) w' (HC.out.words.kept ho (fun e => HC.out.ne.2.2.2.2.1 e)) hir.1 (by omega) HC.out.wrd.rng (hwc w' ho)
            have hs1 : (0 : Int) ≤ i ∧ (i : Int) ≤ xs.length := by omega
            obtain ⟨K, hK⟩ : ∃ K, Wd.kd x = K := ⟨_, rfl⟩
            rw [hK, hni] at hun
            rw [hK] at HK hhead
            rw [show HeadV (headR K xs i) = (0, 0, 0, false) by rw [← hK, hhd]; rfl] at hhead
            have HHead := Hid.mk hhead
            have hwi : IntKind.i64.wrap (i : Int) = (i : Int) := wrap_id (by omega) (by omega)
            clear e1 k1 k2 k3 hbi hbd hok hub hl hK hni hhead hhd hwc hir hcl
            go_enter Tryd.func69, Tryd.ntmps69
            go_upto_region 1 with fail
            try rw [hW0]
            clear hW0
            go_wp2_with (first
              | (go_at_call 70; refine hun.out.mono ?_; rintro e w1 ⟨rfl, hb1⟩; have h1 := H0.out.up hb1; have cat := h1.cell.1; have clb := h1.only.cell HC.out.ne.2.1 HC.out.clb; have hu1 : Up W0 w1 := hb1; have H1 := Hid.mk h1; clear h1 hb1)
              | (go_at_call 71; refine (hbox.out _).mono ?_; rintro e w2 ⟨rfl, rfl⟩)
              | (go_at_call 73; refine (HHead.out _ H1.out.only).mono ?_; rintro e w3 ⟨rfl, hb3⟩
                 obtain ⟨W3, hW3⟩ : ∃ W3, w3.alloc (.cells #[.int .i64 0, .int .i64 0, .int .i64 0] 116) = W3 := ⟨_, rfl⟩
                 have hu3 : Up W0 W3 := (by rw [← hW3]; exact (hu1.call hb3).alloc)
                 have h3 : RdW w0 W3 atb i := (by rw [← hW3]; exact (H1.out.up hb3).up ((Below.refl _ _).alloc (Nat.le_refl _) _))
                 have hx3 : W3.heap[w3.heap.size]? = some (.cells #[.int .i64 0, .int .i64 0, .int .i64 0] 116) := (by rw [← hW3]; exact new_block _ _)
                 have y0 : W3.cell? ⟨w3.heap.size, 0, none⟩ = some (.int .i64 0) := (by simp [World.cell?, hx3])
                 have z0 : W3.frozen? ⟨w3.heap.size, 0, none⟩ = false := (by simp [World.frozen?, hx3])
                 have s0 := setCell_id y0
                 have y1 : W3.cell? ⟨w3.heap.size, 1, none⟩ = some (.int .i64 0) := (by simp [World.cell?, hx3])
                 have z1 : W3.frozen? ⟨w3.heap.size, 1, none⟩ = false := (by simp [World.frozen?, hx3])
                 have s1 := setCell_id y1
                 have y2 : W3.cell? ⟨w3.heap.size, 2, none⟩ = some (.int .i64 0) := (by simp [World.cell?, hx3])
                 have z2 : W3.frozen? ⟨w3.heap.size, 2, none⟩ = false := (by simp [World.frozen?, hx3])
                 have s2 := setCell_id y2
                 obtain ⟨cat3, fat3⟩ := h3.cell
                 obtain ⟨W4, hW4⟩ : ∃ W4, W3.setCell ⟨atb, 0, none⟩ (.int .i64 (i : Int)) = W4 := ⟨_, rfl⟩
                 have h4 : RdW w0 W4 atb (i + 0) := (by have := h3.at (i + 0); rw [show ((i + 0 : Nat) : Int) = (i : Int) from rfl] at this; rwa [hW4] at this)
                 have hne3 : w3.heap.size ≠ atb := (by have h1 := (H1.out.up hb3).only.size; have h2 := HC.out.lt; omega)
                 have hx4 : W4.heap[w3.heap.size]? = some (.cells #[.int .i64 0, .int .i64 0, .int .i64 0] 116) := (by rw [← hW4, Below.heap_setCell _ _ _ _ hne3]; exact hx3)
                 have g0 : W3.cell? ⟨w3.heap.size, 0, none⟩ = some (.int .i64 0) := (by simp [World.cell?, hx3])
                 have g1 : W4.cell? ⟨w3.heap.size, 1, none⟩ = some (.int .i64 0) := (by simp [World.cell?, hx4])
                 have g2 : W4.cell? ⟨w3.heap.size, 2, none⟩ = some (.int .i64 0) := (by simp [World.cell?, hx4])
                 have csb := h4.only.cell HC.out.ne.2.2.2.1 HC.out.csb
                 have ho4 : Only (fun k => k = atb) w W4 := (by rw [← hW4]; exact Only.put (S := fun k => k = atb) (p := atb) ((Only.up HB0.out).call hu3.out) rfl _ _)
                 have hx5 : W4.heap[w.heap.size]? = some (.cells #[.int .i64 0, .int .i64 0, .string ⟨#[]⟩, .slice none 0 0] 25) := (by rw [← hW4, Below.heap_setCell _ _ _ _ (show w.heap.size ≠ atb by have := HI.out; omega)]; exact (hu3.out.block _ (Array.getElem?_eq_some_iff.1 HBX.out).1).trans HBX.out)
                 have H4 := Hid.mk h4
                 have HO4 := Hid.mk ho4
                 have HX5 := Hid.mk hx5
                 have HU3 := Hid.mk hu3.out.size
                 have HZ4 := Hid.mk (show w3.heap.size < W4.heap.size from (Array.getElem?_eq_some_iff.1 hx4).1)
                 obtain ⟨⟨q0, q1, q2, q3⟩, r0, r1, r2, r3⟩ := kept4 hx5 (Below.refl _ _)
                 clear hb3 hu3 h3 hx3 h4 hx4 ho4 hx5))
            exact ret2_stored rfl rfl rfl rfl q0 q1 q2 q3 ⟨_, _, _, _, _, _, _, rfl, HO4.out.new4 (Nat.le_refl _) _ _ _ _, rfl⟩
          | some hnm =>
            obtain ⟨hh, nn, mm⟩ := hnm
            have hbnd := headR_bd hhd HI.out.1
            have e1 : oneR L xs (f + 1) x i = mkO (Wd.kd x) nn (someR (oneR L xs f) xs mm (i + hh)) := by rw [oneR, if_neg (by rw [hub]; simp), if_neg (by rw [hl]; simp), if_neg (by simpa using hni), hhd]; rfl
            rw [e1]
            have hcl := HC.out.wrd.len
            have hir := HI.out
            obtain ⟨wa, hwa2⟩ : ∃ wa, (if lcap = i then la else Option.map (fun x => x.add i) la) = wa := ⟨_, rfl⟩
            have hwc : ∀ w', Only (fun k => k = atb) w0 w' → ∀ h : i < xs.length, ∃ b o, wa = some ⟨b, o, none⟩ ∧ w'.cell? ⟨b, o, none⟩ = some (.int .u64 xs[i]) := fun w' ho h => by
              obtain ⟨b, o, e, hc⟩ := HC.out.wrd.cells (by omega)
              rw [if_neg (by omega), e] at hwa2
              refine ⟨b, o + i, ?_, ho.cell (HC.out.nw b o (by omega) e) (hc i h)⟩
              rw [← hwa2]
              simp [Addr.add_lit]
            have hhead := fun w' (ho : Only (fun k => k = atb) w0 w') => headOf_any (Wd.kd x) xs i wa (lcap - i) w' (HC.out.words.kept ho (fun e => HC.out.ne.2.2.2.2.1 e)) hir.1 (by omega) HC.out.wrd.rng (hwc w' ho)
            have hs1 : (0 : Int) ≤ i ∧ (i : Int) ≤ xs.length := by omega
            obtain ⟨K, hK⟩ : ∃ K, Wd.kd x = K := ⟨_, rfl⟩
            rw [hK, hni] at hun
            rw [hK] at HK hhead
            rw [show HeadV (headR K xs i) = (hh, nn, mm, true) by rw [← hK, hhd]; rfl] at hhead
            have HHead := Hid.mk hhead
            have hwi : IntKind.i64.wrap ((i : Int) + hh) = (i : Int) + hh := wrap_id (by omega) (by omega)
            have HSome := Hid.mk (fun W4 h4 => hsome.out W4 (i + hh) mm h4 hbnd.1 (by omega) (by omega))
            have HBN := Hid.mk hbnd
            rw [hK]
            clear e1 k1 k2 k3 hbi hbd hok hub hl hK hni hhead hhd hwc hir hcl hbnd
            go_enter Tryd.func69, Tryd.ntmps69
            go_upto_region 1 with fail
            try rw [hW0]
            clear hW0
            go_wp2_with (first
              | (go_at_call 70; refine hun.out.mono ?_; rintro e w1 ⟨rfl, hb1⟩; have h1 := H0.out.up hb1; have cat := h1.cell.1; have clb := h1.only.cell HC.out.ne.2.1 HC.out.clb; have hu1 : Up W0 w1 := hb1; have H1 := Hid.mk h1; clear h1 hb1)
              | (go_at_call 71; refine (hbox.out _).mono ?_; rintro e w2 ⟨rfl, rfl⟩)
              | (go_at_call 73; refine (HHead.out _ H1.out.only).mono ?_; rintro e w3 ⟨rfl, hb3⟩
                 obtain ⟨W3, hW3⟩ : ∃ W3, w3.alloc (.cells #[.int .i64 hh, .int .i64 nn, .int .i64 mm] 116) = W3 := ⟨_, rfl⟩
                 have hu3 : Up W0 W3 := (by rw [← hW3]; exact (hu1.call hb3).alloc)
                 have h3 : RdW w0 W3 atb i := (by rw [← hW3]; exact (H1.out.up hb3).up ((Below.refl _ _).alloc (Nat.le_refl _) _))
                 have hx3 : W3.heap[w3.heap.size]? = some (.cells #[.int .i64 hh, .int .i64 nn, .int .i64 mm] 116) := (by rw [← hW3]; exact new_block _ _)
                 obtain ⟨cat3, fat3⟩ := h3.cell
                 obtain ⟨W4, hW4⟩ : ∃ W4, W3.setCell ⟨atb, 0, none⟩ (.int .i64 ((i : Int) + hh)) = W4 := ⟨_, rfl⟩
                 have h4 : RdW w0 W4 atb (i + hh) := (by have := h3.at (i + hh); rw [Int.natCast_add] at this; rwa [hW4] at this)
                 have hne3 : w3.heap.size ≠ atb := (by have h1 := (H1.out.up hb3).only.size; have h2 := HC.out.lt; omega)
                 have hx4 : W4.heap[w3.heap.size]? = some (.cells #[.int .i64 hh, .int .i64 nn, .int .i64 mm] 116) := (by rw [← hW4, Below.heap_setCell _ _ _ _ hne3]; exact hx3)
                 have g0 : W3.cell? ⟨w3.heap.size, 0, none⟩ = some (.int .i64 hh) := (by simp [World.cell?, hx3])
                 have g1 : W4.cell? ⟨w3.heap.size, 1, none⟩ = some (.int .i64 nn) := (by simp [World.cell?, hx4])
                 have g2 : W4.cell? ⟨w3.heap.size, 2, none⟩ = some (.int .i64 mm) := (by simp [World.cell?, hx4])
                 have csb := h4.only.cell HC.out.ne.2.2.2.1 HC.out.csb
                 have ho4 : Only (fun k => k = atb) w W4 := (by rw [← hW4]; exact Only.put (S := fun k => k = atb) (p := atb) ((Only.up HB0.out).call hu3.out) rfl _ _)
                 have hx5 : W4.heap[w.heap.size]? = some (.cells #[.int .i64 0, .int .i64 0, .string ⟨#[]⟩, .slice none 0 0] 25) := (by rw [← hW4, Below.heap_setCell _ _ _ _ (show w.heap.size ≠ atb by have := HI.out; omega)]; exact (hu3.out.block _ (Array.getElem?_eq_some_iff.1 HBX.out).1).trans HBX.out)
                 have H4 := Hid.mk h4
                 have HO4 := Hid.mk ho4
                 have HX5 := Hid.mk hx5
                 have HU3 := Hid.mk hu3.out.size
                 have HZ4 := Hid.mk (show w3.heap.size < W4.heap.size from (Array.getElem?_eq_some_iff.1 hx4).1)
                 obtain ⟨⟨q0, q1, q2, q3⟩, r0, r1, r2, r3⟩ := kept4 hx5 (Below.refl _ _)
                 clear hb3 hu3 h3 hx3 h4 hx4 ho4 hx5)
              | (go_at_call 68; refine HSome.out W4 H4.out |>.mono ?_; rintro e w6 ⟨a6, m6, c6, ok6, rfl, ho6, hv6⟩
                 have hx6 := ho6.box HX5.out (by have := HI.out; omega)
                 have hx7 := ho6.cell hne3 g1
                 obtain ⟨⟨p0, p1, p2, p3⟩, s0, s1, s2, s3⟩ := kept4 hx6 (Below.refl _ _)
                 have HO6 := Hid.mk ho6
                 have HV6 := Hid.mk hv6
                 clear ho6 hv6 hx6))
            refine ret2_stored rfl rfl rfl rfl p0 p1 p2 p3 ⟨_, _, _, _, _, _, _, rfl, (HO4.out.trans HO6.out (fun k hk => Or.inl hk)).new4 (Nat.le_refl _) _ _ _ _, ?_⟩
            have hv := HV6.out
            cases hsr : someR (oneR L xs f) xs mm (i + hh) with
            | none => rw [hsr] at hv; exact hv
            | some psj =>
              obtain ⟨ps, j⟩ := psj
              rw [hsr] at hv
              obtain ⟨hv1, hv2, hv3, hv4, hv5⟩ := hv
              subst hv4
              refine ⟨hv1, hv2, ?_, ?_⟩
              · rw [set4_heap _ _ _ _ _ _ _ (by have := HI.out; omega)]
                exact hv3
              · refine Lies.mk (l := ps) ⟨by have := HK.out; omega, by have := HK.out; omega, by have := HBN.out; omega, by have := HBN.out; omega, by decide⟩ ?_
                have hz4 := HO4.out.size
                have hz3 := HZ4.out
                have hz5 := HU3.out
                have hz0 := HZ0.out
                have hgt : w.heap.size < W4.heap.size := (Array.getElem?_eq_some_iff.1 HX5.out).1
                exact hv5.move (fun b hb => by omega) (fun b o u hb hc => by
                  rw [World.cell?_of_block (w := w6) (a := ⟨b, o, none⟩) (set4_heap _ _ _ _ _ _ _ (by show b ≠ w.heap.size; omega))]
                  exact hc)
        · have e1 : oneR L xs (f + 1) x i = none := by rw [oneR, if_neg (by rw [hub]; simp), if_neg (by rw [hl]; simp), if_pos hni]
          rw [e1]
          obtain ⟨K, hK⟩ : ∃ K, Wd.kd x = K := ⟨_, rfl⟩
          obtain ⟨N, hN⟩ : ∃ N, Wd.nm x = N := ⟨_, rfl⟩
          rw [hK, hN] at hun HLO
          rw [hN] at HN
          rw [hN] at hni
          rw [hK] at HK
          have hne : (N == (i : Int)) = false := by simpa using hni
          clear e1 k1 k2 k3 hbi hbd hok hub hl hK hN hni
          go_enter Tryd.func69, Tryd.ntmps69
          go_upto_region 1 with fail
          try rw [hW0]
          clear hW0
          go_wp2_with (first
            | (go_at_call 70; refine hun.out.mono ?_; rintro e w1 ⟨rfl, hb1⟩; have h1 := H0.out.up hb1; have cat := h1.cell.1; obtain ⟨⟨q0, q1, q2, q3⟩, r0, r1, r2, r3⟩ := kept4 HBX.out hb1; have HL := Hid.mk hb1; clear h1 hb1)
            | (go_at_call 71; refine (hbox.out _).mono ?_; rintro e w2 ⟨rfl, rfl⟩))
          exact ret2_stored rfl rfl rfl rfl q0 q1 q2 q3 ⟨_, _, _, _, _, _, _, rfl, ((Only.up HB0.out).call HL.out).new4 (Nat.le_refl _) _ _ _ _, rfl⟩
end Go.Proofs.YthkjdcmlalgphaaDoor
