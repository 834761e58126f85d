/-
  Rows of numbers held side by side.
-/
import Derived.Test.YtgfelddgiabeoaaKitWords
import Derived.Test.YtgfelddgiabeoaaKitLast
namespace Go.Proofs.Ytgfelddgiabeoaa
open Go.RowKit Go.Deep

/-- A row of numbers of a call's own. -/
abbrev Nums (w : World) (v : Value) (xs : List Int) : Prop := w.ownsRow 0 3 1 v xs.length (xs.map (.int .i64))
theorem Nums.shape {w : World} {v : Value} {xs : List Int} (h : Nums w v xs) :
    (v = .slice none 0 0 ∧ xs = []) ∨ ∃ g cap, v = .slice (some ⟨g, 0, none⟩) xs.length cap ∧ xs.length ≤ cap ∧ cap ≤ maxLen ∧ g < w.heap.size ∧ ∀ j (hj : j < xs.length), w.cell? ⟨g, j, none⟩ = some (.int .i64 xs[j]) := by
  obtain ⟨_, h2⟩ := h
  rcases h2 with ⟨rfl, h2⟩ | ⟨g, cap, cur, rfl, _, hh, hn, hm, hs, hx⟩
  · exact Or.inl ⟨rfl, List.eq_nil_of_length_eq_zero h2⟩
  · refine Or.inr ⟨g, cap, rfl, hn, hm, (Array.getElem?_eq_some_iff.1 hh).1, fun j hj => ?_⟩
    have e : cur.toList[j]? = some (.int .i64 xs[j]) := by
      have : (cur.toList.take (xs.length * 1))[j]? = (xs.map (Value.int .i64))[j]? := by rw [hx]
      rw [List.getElem?_take, if_pos (by omega)] at this
      rw [this]
      simp [hj]
    simp only [World.cell?, hh]
    simpa using e
/-- Numbers that lie behind an address. -/
def CelI (w : World) (xs : List Int) (a : Option Addr) : Prop := 0 < xs.length → ∃ b o, a = some ⟨b, o, none⟩ ∧ ∀ j (h : j < xs.length), w.cell? ⟨b, o + j, none⟩ = some (.int .i64 xs[j])
theorem CelI.up {w w' : World} {xs : List Int} {a : Option Addr} (h : CelI w xs a) (hb : Below w.heap.size w w') : CelI w' xs a := fun h0 => by
  obtain ⟨b, o, e, hc⟩ := h h0
  exact ⟨b, o, e, fun j hj => cell_below hb _ _ _ (hc j hj)⟩
theorem Nums.cel {w : World} {v : Value} {xs : List Int} (h : Nums w v xs) : ∃ a cap, v = .slice a xs.length cap ∧ CelI w xs a := by
  rcases h.shape with ⟨rfl, rfl⟩ | ⟨g, cap, rfl, h1, h2, _, hc⟩
  · exact ⟨none, 0, rfl, fun h => by cases h⟩
  · exact ⟨_, cap, rfl, fun _ => ⟨g, 0, rfl, fun j hj => by rw [Nat.zero_add]; exact hc j hj⟩⟩
theorem celI_at {w : World} {g : Nat} {xs : List Int} {t : TypeId} (h : w.heap[g]? = some (.cells (xs.map (Value.int .i64)).toArray t)) : CelI w xs (some ⟨g, 0, none⟩) := fun _ =>
  ⟨g, 0, rfl, fun j hj => by simp [World.cell?, h, hj]⟩

set_option maxHeartbeats 2000000 in
theorem sameInts_any (xs ys : List Int) (a b : Option Addr) (ca cb : Nat) (w : World) (hx : CelI w xs a) (hy : CelI w ys b) (hl : xs.length ≤ 1000000) :
    Calls Try.prog 13 #[.slice a xs.length ca, .slice b ys.length cb] w fun e w' => e = .returned (.bool (decide (xs = ys))) ∧ Below w.heap.size w w' := by
  by_cases hn : xs.length = ys.length
  · have h1 : ((xs.length : Int) == ys.length) = true := by simp [hn]
    have hn' := Hid.mk hn
    have HX := Hid.mk hx
    have HY := Hid.mk hy
    have HL := Hid.mk hl
    rw [← hn]
    clear h1 hn hx hy hl
    go_enter Try.func13, Try.ntmps13
    go_wp2
    go_loopw [5] (fun ii wr => ∃ (i : Nat), i ≤ xs.length ∧ ii = .int .i64 i ∧ Hid (∀ j (h1 : j < i) (h2 : j < xs.length) (h3 : j < ys.length), xs[j] = ys[j]) ∧ Hid (Below w.heap.size w wr)) (fun ii _ => xs.length - (intOf ii).toNat)
    case atStart => exact ⟨0, Nat.zero_le _, rfl, Hid.mk (fun j h => by omega), Hid.mk (Below.refl _ _)⟩
    case round =>
      obtain ⟨i, hi, rfl, hE, hB⟩ := hrel
      by_cases hlt : i < xs.length
      · have hlt2 : i < ys.length := by rw [← hn'.out]; exact hlt
        obtain ⟨b1, o1, rfl, hc1⟩ := (HX.out.up hB.out) (by omega)
        obtain ⟨b2, o2, rfl, hc2⟩ := (HY.out.up hB.out) (by omega)
        have c1 := hc1 i hlt
        have c2 := hc2 i hlt2
        have hwi : IntKind.i64.wrap ((i : Int) + 1) = ((i + 1 : Nat) : Int) := by have := HL.out; rw [wrap_id (by omega) (by omega)]; omega
        by_cases hxy : xs[i] = ys[i]
        · have hE2 : Hid (∀ j (h1 : j < i + 1) (h2 : j < xs.length) (h3 : j < ys.length), xs[j] = ys[j]) := Hid.mk (fun j h1 h2 h3 => by
            by_cases hj : j = i
            · subst hj; exact hxy
            · exact hE.out j (by omega) h2 h3)
          rw [← hxy] at c2
          generalize xs[i] = x at *
          have HB := Hid.mk (show i < xs.length from hlt)
          have hil : (i : Int) < xs.length := by omega
          clear hc1 hc2 hxy hlt2
          go_wp2
          refine region_up (W := wr) (by kernel_rfl) (by kernel_rfl) (Up.refl _) ?_
          refine quiet_value (v := .slice (some ⟨b1, o1, none⟩) xs.length ca) rfl (fun _ _ => rfl) ?_
          simp only [Act.put, List.setIfInBounds_toArray, List.set_cons_zero, List.set_cons_succ]
          refine quiet_value (v := .int .i64 i) rfl (fun _ _ => rfl) ?_
          simp only [Act.put, List.setIfInBounds_toArray, List.set_cons_zero, List.set_cons_succ]
          refine quiet_value (v := .pointer (some ⟨b1, o1 + i, none⟩)) rfl (fun _ _ => (by go_simp)) ?_
          simp only [Act.put, List.setIfInBounds_toArray, List.set_cons_zero, List.set_cons_succ]
          refine quiet_value (v := .int .i64 x) rfl (fun W h => (by have u0 := cell_below h.out _ _ _ c1; go_simp)) ?_
          simp only [Act.put, List.setIfInBounds_toArray, List.set_cons_zero, List.set_cons_succ]
          refine quiet_value (v := .slice (some ⟨b2, o2, none⟩) xs.length cb) rfl (fun _ _ => rfl) ?_
          simp only [Act.put, List.setIfInBounds_toArray, List.set_cons_zero, List.set_cons_succ]
          refine quiet_value (v := .int .i64 i) rfl (fun _ _ => rfl) ?_
          simp only [Act.put, List.setIfInBounds_toArray, List.set_cons_zero, List.set_cons_succ]
          refine quiet_value (v := .pointer (some ⟨b2, o2 + i, none⟩)) rfl (fun _ _ => (by go_simp)) ?_
          simp only [Act.put, List.setIfInBounds_toArray, List.set_cons_zero, List.set_cons_succ]
          refine quiet_value (v := .int .i64 x) rfl (fun W h => (by have u0 := cell_below h.out _ _ _ c2; go_simp)) ?_
          simp only [Act.put, List.setIfInBounds_toArray, List.set_cons_zero, List.set_cons_succ]
          refine quiet_value (v := .bool false) rfl (fun _ _ => (by go_simp)) ?_
          simp only [Act.put, List.setIfInBounds_toArray, List.set_cons_zero, List.set_cons_succ]
          refine quiet_nil ?_
          intro w' hw'
          go_wp2
          go_roundw
          case rel => exact ⟨i + 1, HB.out, by first | rfl | go_num, hE2, Hid.mk (hB.out.trans (hw'.out.mono hB.out.size))⟩
          case measure =>
            have := HB.out
            simp [intOf]
            omega
        · have hne : ¬ xs = ys := fun e => hxy (by subst e; rfl)
          have hxb : (xs[i] != ys[i]) = true := by simpa using hxy
          generalize xs[i] = x at *
          generalize ys[i] = y at *
          have hil : (i : Int) < xs.length := by omega
          have HNE := Hid.mk hne
          clear hc1 hc2 hlt2 hne
          go_wp2
          refine region_up (W := wr) (by kernel_rfl) (by kernel_rfl) (Up.refl _) ?_
          refine quiet_value (v := .slice (some ⟨b1, o1, none⟩) xs.length ca) rfl (fun _ _ => rfl) ?_
          simp only [Act.put, List.setIfInBounds_toArray, List.set_cons_zero, List.set_cons_succ]
          refine quiet_value (v := .int .i64 i) rfl (fun _ _ => rfl) ?_
          simp only [Act.put, List.setIfInBounds_toArray, List.set_cons_zero, List.set_cons_succ]
          refine quiet_value (v := .pointer (some ⟨b1, o1 + i, none⟩)) rfl (fun _ _ => (by go_simp)) ?_
          simp only [Act.put, List.setIfInBounds_toArray, List.set_cons_zero, List.set_cons_succ]
          refine quiet_value (v := .int .i64 x) rfl (fun W h => (by have u0 := cell_below h.out _ _ _ c1; go_simp)) ?_
          simp only [Act.put, List.setIfInBounds_toArray, List.set_cons_zero, List.set_cons_succ]
          refine quiet_value (v := .slice (some ⟨b2, o2, none⟩) xs.length cb) rfl (fun _ _ => rfl) ?_
          simp only [Act.put, List.setIfInBounds_toArray, List.set_cons_zero, List.set_cons_succ]
          refine quiet_value (v := .int .i64 i) rfl (fun _ _ => rfl) ?_
          simp only [Act.put, List.setIfInBounds_toArray, List.set_cons_zero, List.set_cons_succ]
          refine quiet_value (v := .pointer (some ⟨b2, o2 + i, none⟩)) rfl (fun _ _ => (by go_simp)) ?_
          simp only [Act.put, List.setIfInBounds_toArray, List.set_cons_zero, List.set_cons_succ]
          refine quiet_value (v := .int .i64 y) rfl (fun W h => (by have u0 := cell_below h.out _ _ _ c2; go_simp)) ?_
          simp only [Act.put, List.setIfInBounds_toArray, List.set_cons_zero, List.set_cons_succ]
          refine quiet_value (v := .bool true) rfl (fun _ _ => (by go_simp)) ?_
          simp only [Act.put, List.setIfInBounds_toArray, List.set_cons_zero, List.set_cons_succ]
          refine quiet_nil ?_
          intro w' hw'
          go_wp2
          go_ret
          exact ⟨ret_bool (decide_eq_false HNE.out).symm, hB.out.trans (hw'.out.mono hB.out.size)⟩
      · obtain rfl : i = xs.length := by omega
        have he : xs = ys := List.ext_getElem hn'.out (fun j h1 h2 => hE.out j h1 h1 h2)
        have HE := Hid.mk he
        clear he
        go_wp2
        go_ret
        exact ⟨ret_bool (decide_eq_true HE.out).symm, hB.out⟩
  · have hne : ¬ xs = ys := fun e => hn (by rw [e])
    rw [decide_eq_false hne]
    have h1 : ((xs.length : Int) == ys.length) = false := by simp; omega
    have h2 : ¬ ((xs.length : Int) = ys.length) := by omega
    clear hx hy hl hne
    go_enter Try.func13, Try.ntmps13
    go_wp2
    go_ret
    exact ⟨rfl, Below.refl _ _⟩

end Go.Proofs.Ytgfelddgiabeoaa
