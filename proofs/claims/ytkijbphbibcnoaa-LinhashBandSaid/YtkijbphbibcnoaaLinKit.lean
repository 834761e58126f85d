/-
  Items in memory: rows of them, rows of such rows; two lists of them compared, one written over.
-/
import Derived.Test.YtkijbphbibcnoaaKitGrid
import Derived.Test.YtkijbphbibcnoaaKitLast
import Derived.Test.YtkijbphbibcnoaaLinPlain
import Derived.Laws.StructEq
import Derived.Deep.Cut
import Derived.Deep.RegionWith
import Derived.Deep.LoopGhost
namespace Go.Proofs.Ytkijbphbibcnoaa
open Go.RowKit Go.Deep Go.Maps Go.WideShapes

theorem it_one : ∀ (x : It) (u : Value), u ∈ [Value.int .u32 x.1, .int .i64 x.2] → u.oneCell' = true := fun x u hu => by
  simp only [List.mem_cons, List.not_mem_nil, or_false] at hu
  rcases hu with rfl | rfl <;> rfl
def itS : Srt It := { t := 54, st := 43, k := 2, enc := fun x => [.int .u32 x.1, .int .i64 x.2], z := .agg #[.int .u32 0, .int .i64 0], bytes := 16, und := Try.underlying43, info := by kernel_rfl, zc := rfl, pos := by decide, few := by decide, len := fun _ => rfl, one := it_one }
def rwS : Srt Sl := sliceSrt 43 37 Try.underlying37 (by kernel_rfl)
theorem outR : Outer itS rwS := outer_slice itS _ _ _ _
abbrev Its (w : World) (v : Value) (l : List It) : Prop := Ow itS w v l
abbrev CelT (w : World) (l : List It) (a : Option Addr) : Prop := Cs itS w l a
theorem CelT.item {w : World} {l : List It} {a : Option Addr} (h : CelT w l a) {i : Nat} (hi : i < l.length) : ∃ b o, a = some ⟨b, o, none⟩ ∧ w.cell? ⟨b, o + i * 2, none⟩ = some (.int .u32 l[i].1) ∧ w.cell? ⟨b, o + i * 2 + 1, none⟩ = some (.int .i64 l[i].2) := by
  obtain ⟨b, o, e, hc⟩ := h.at_ hi
  have h0 := hc 0 _ rfl
  have h1 := hc 1 _ rfl
  exact ⟨b, o, e, h0, h1⟩
theorem Its.slice {w : World} {v : Value} {l : List It} (h : Its w v l) : ∃ a cap, v = .slice a l.length cap ∧ CelT w l a := let ⟨a, cap, h1, _, _, _, h2⟩ := h.cells; ⟨a, cap, h1, h2⟩

set_option maxHeartbeats 2000000 in
theorem sameItems_any (l m : List It) (a b : Option Addr) (ca cb : Nat) (w : World) (hx : CelT w l a) (hy : CelT w m b) (hl : l.length ≤ 100000000) :
    Calls Try.prog 27 #[.slice a l.length ca, .slice b m.length cb] w fun e w' => e = .returned (.bool (decide (l = m))) ∧ Below w.heap.size w w' := by
  by_cases hn : l.length = m.length
  · have hn' := Hid.mk hn
    have HX := Hid.mk hx
    have HY := Hid.mk hy
    have HL := Hid.mk hl
    rw [← hn]
    clear hn hx hy hl
    go_enter Try.func27, Try.ntmps27
    go_wp2
    go_loopw [5] (fun ii wr => ∃ (i : Nat), i ≤ l.length ∧ ii = .int .i64 i ∧ Hid (∀ j (_ : j < i) (h2 : j < l.length) (h3 : j < m.length), l[j] = m[j]) ∧ Hid (Below w.heap.size w wr)) (fun ii _ => l.length - (intOf ii).toNat)
    case atStart => exact ⟨0, Nat.zero_le _, rfl, Hid.mk (fun j h => by omega), Hid.mk (Below.refl _ _)⟩
    case round =>
      obtain ⟨i, hi, rfl, hE, hB⟩ := hrel
      by_cases hlt : i < l.length
      · have hlt2 : i < m.length := by rw [← hn'.out]; exact hlt
        obtain ⟨b1, o1, rfl, c0, c1⟩ := CelT.item (HX.out.up hB.out) hlt
        obtain ⟨b2, o2, rfl, d0, d1⟩ := CelT.item (HY.out.up hB.out) hlt2
        have hwi : IntKind.i64.wrap ((i : Int) + 1) = ((i + 1 : Nat) : Int) := by have := HL.out; rw [wrap_id (by omega) (by omega)]; omega
        have hE2 : Hid (l[i] = m[i] → ∀ j (_ : j < i + 1) (h2 : j < l.length) (h3 : j < m.length), l[j] = m[j]) := Hid.mk (fun e j h1 h2 h3 => by
          by_cases hj : j = i
          · subst hj; exact e
          · exact hE.out j (by omega) h2 h3)
        have hne : Hid (l[i] ≠ m[i] → decide (l = m) = false) := Hid.mk (fun e => decide_eq_false (fun e2 => e (by subst e2; rfl)))
        have HI := Hid.mk hlt
        have hil : (i : Int) < l.length := by omega
        generalize l[i] = x at *
        generalize m[i] = y at *
        obtain ⟨x0, x1⟩ := x
        obtain ⟨y0, y1⟩ := y
        simp only at c0 c1 d0 d1
        clear hlt2 hlt
        go_upto_region 6 with fail
        refine region_up (W := wr) (by kernel_rfl) (by kernel_rfl) (Up.refl _) ?_
        refine quiet_value (v := .slice (some ⟨b1, o1, none⟩) l.length ca) rfl (fun _ _ => rfl) ?_
        simp only [Act.put, List.setIfInBounds_toArray, List.set_cons_zero, List.set_cons_succ]
        refine quiet_value (v := .int .i64 i) rfl (fun _ _ => rfl) ?_
        simp only [Act.put, List.setIfInBounds_toArray, List.set_cons_zero, List.set_cons_succ]
        refine quiet_value (v := .pointer (some ⟨b1, o1 + i * 2, none⟩)) rfl (fun _ _ => (by go_simp)) ?_
        simp only [Act.put, List.setIfInBounds_toArray, List.set_cons_zero, List.set_cons_succ]
        refine quiet_value (v := .agg #[.int .u32 x0, .int .i64 x1]) rfl (fun W h => (by have u0 := cell_below h.out _ _ _ c0; have u1 := cell_below h.out _ _ _ c1; go_simp)) ?_
        simp only [Act.put, List.setIfInBounds_toArray, List.set_cons_zero, List.set_cons_succ]
        refine quiet_value (v := .slice (some ⟨b2, o2, none⟩) l.length cb) rfl (fun _ _ => rfl) ?_
        simp only [Act.put, List.setIfInBounds_toArray, List.set_cons_zero, List.set_cons_succ]
        refine quiet_value (v := .int .i64 i) rfl (fun _ _ => rfl) ?_
        simp only [Act.put, List.setIfInBounds_toArray, List.set_cons_zero, List.set_cons_succ]
        refine quiet_value (v := .pointer (some ⟨b2, o2 + i * 2, none⟩)) rfl (fun _ _ => (by go_simp)) ?_
        simp only [Act.put, List.setIfInBounds_toArray, List.set_cons_zero, List.set_cons_succ]
        refine quiet_value (v := .agg #[.int .u32 y0, .int .i64 y1]) rfl (fun W h => (by have u0 := cell_below h.out _ _ _ d0; have u1 := cell_below h.out _ _ _ d1; go_simp)) ?_
        simp only [Act.put, List.setIfInBounds_toArray, List.set_cons_zero, List.set_cons_succ]
        refine quiet_value (v := .bool (!((x0 : Int) == y0 && x1 == y1))) rfl (fun _ _ => (by go_simp; (by_cases e1 : (x0 : Int) = y0 <;> by_cases e2 : x1 = y1 <;> simp [e1, e2]))) ?_
        simp only [Act.put, List.setIfInBounds_toArray, List.set_cons_zero, List.set_cons_succ]
        refine quiet_nil ?_
        intro w2 hw2
        have HW2 := Hid.mk (hB.out.trans (hw2.out.mono hB.out.size))
        clear hw2 c0 c1 d0 d1
        by_cases he : ((x0 : Nat), x1) = (y0, y1)
        · have hb : (!((x0 : Int) == y0 && x1 == y1)) = false := by
            simp only [Prod.mk.injEq] at he
            simp [he.1, he.2]
          have HE := Hid.mk (hE2.out he)
          rw [hb]
          clear he hne hE2 hb
          go_wp2
          go_roundw
          case rel => exact ⟨i + 1, HI.out, by first | rfl | go_num, HE, HW2⟩
          case measure => have h1 : i < l.length := HI.out; simp [intOf]; omega
        · have hb : (!((x0 : Int) == y0 && x1 == y1)) = true := by
            simp only [Prod.mk.injEq] at he
            by_cases e : x0 = y0
            · have : x1 ≠ y1 := fun e' => he ⟨e, e'⟩
              simp [e, this]
            · have : (x0 : Int) ≠ y0 := by omega
              simp [this]
          have hf := hne.out he
          rw [hb]
          clear he hne hE2 hb
          go_wp2
          go_ret
          exact ⟨ret_bool hf.symm, HW2.out⟩
      · obtain rfl : i = l.length := by omega
        clear hlt
        have he : l = m := List.ext_getElem hn'.out fun j h1 h2 => hE.out j h1 h1 h2
        go_wp2
        go_ret
        exact ⟨ret_bool (decide_eq_true he).symm, hB.out⟩
  · have h1 : ((l.length : Int) == m.length) = false := by simp; omega
    have hf : decide (l = m) = false := decide_eq_false fun e => hn (by rw [e])
    have HF := Hid.mk hf
    clear hx hy hl hf
    go_enter Try.func27, Try.ntmps27
    go_wp2
    go_ret
    exact ⟨ret_bool HF.out.symm, Below.refl _ _⟩
end Go.Proofs.Ytkijbphbibcnoaa
