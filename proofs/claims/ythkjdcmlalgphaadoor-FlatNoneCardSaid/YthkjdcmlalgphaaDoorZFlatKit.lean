/-
  LongTexts, Atoms and SameAtoms.
-/
import Derived.Test.YthkjdcmlalgphaaDoorZFlatRRead
import Derived.Test.YthkjdcmlalgphaaDoorZAtomW
namespace Go.Proofs.YthkjdcmlalgphaaDoor
open Go.RowKit Go.Deep Go.Maps Go.WideShapes Go.WideMaps

theorem longTexts_any (l : List ByteArray) (a : Option Addr) (cap : Nat) (most : Int) (w : World) (hl : Str w l a cap) :
    Calls Tryd.prog 8 #[.slice a l.length cap, .int .i64 most] w fun e w' => Told ((l.length : Int) ≤ most ∧ ∀ j (h : j < l.length), l[j].size ≤ 100) e ∧ w = w' := by
  have HS := Hid.mk hl
  have HLen := Hid.mk hl.len
  clear hl
  go_enter Tryd.func8, Tryd.ntmps8
  go_wp2
  go_loop [5] (fun ii => ∃ i : Nat, i ≤ l.length ∧ ii = .int .i64 i ∧ Hid (∀ j (h : j < l.length), j < i → l[j].size ≤ 100)) (fun ii => l.length - (intOf ii).toNat)
  case atStart => exact ⟨0, Nat.zero_le _, rfl, Hid.mk (fun j _ h => by omega)⟩
  case round =>
    obtain ⟨i, hi, rfl, hE⟩ := hrel
    by_cases hlt : i < l.length
    · obtain ⟨b, o, rfl, hc⟩ := HS.out.now (Below.refl _ _) i hlt
      have hci := hc i hlt
      have hwi : IntKind.i64.wrap ((i : Int) + 1) = ((i + 1 : Nat) : Int) := by have := HLen.out; rw [maxLen] at this; rw [wrap_id (by omega) (by omega)]; omega
      clear hc
      by_cases h100 : 100 < l[i].size
      · have e3 : decide ((100 : Int) < l[i].size) = true := by rw [decide_eq_true_eq]; omega
        have e4 : decide (100 < l[i].size) = true := by rw [decide_eq_true_eq]; exact h100
        clear h100
        generalize l[i] = x at *
        go_wp2
        go_ret
        exact ⟨Told.yes, rfl⟩
      · have e3 : decide ((100 : Int) < l[i].size) = false := by rw [decide_eq_false_iff_not]; omega
        have e4 : decide (100 < l[i].size) = false := by rw [decide_eq_false_iff_not]; exact h100
        have hE2 : Hid (∀ j (h : j < l.length), j < i + 1 → l[j].size ≤ 100) := Hid.mk (fun j h1 h2 => by
          by_cases hj : j = i
          · subst hj; omega
          · exact hE.out j h1 (by omega))
        have HL := Hid.mk (show i < l.length from hlt)
        clear h100
        generalize l[i] = x at *
        go_wp2
        go_round
        case rel => exact ⟨i + 1, HL.out, by first | rfl | go_num, hE2⟩
        case measure =>
          have h1 : i < l.length := HL.out
          simp [intOf]
          omega
    · obtain rfl : i = l.length := by omega
      by_cases hm : most < l.length
      · have e5 : decide (most < (l.length : Int)) = true := by rw [decide_eq_true_eq]; exact hm
        clear hm
        go_wp2
        go_ret
        exact ⟨Told.yes, rfl⟩
      · have e5 : decide (most < (l.length : Int)) = false := by rw [decide_eq_false_iff_not]; exact hm
        have HM := Hid.mk (show (l.length : Int) ≤ most by omega)
        clear hm
        go_wp2
        go_ret
        exact ⟨Told.no ⟨HM.out, fun j h => hE.out j h h⟩, rfl⟩

set_option maxHeartbeats 1000000 in
theorem atoms_any (l : List ByteArray) (a : Option Addr) (cap : Nat) (w : World) (hl : Str w l a cap) (hs : ∀ j (h : j < l.length), l[j].size ≤ 100) :
    Calls Tryd.prog 10 #[.slice a l.length cap] w fun e w' => ∃ (q : Nat) (L : List ByteArray), e = .returned (.tuple #[.pointer (some ⟨w.heap.size + 1, 0, none⟩), .pointer (some ⟨q, 0, none⟩)]) ∧ Two w.heap.size w w' (w.heap.size + 1) w.heap.size q L L ∧ Nub L := by
  have HS := Hid.mk hl
  have HLen := Hid.mk hl.len
  have H100 := Hid.mk hs
  clear hl hs
  go_enter Tryd.func10, Tryd.ntmps10
  go_wp2_with (go_at_call 25; refine (now_made _).mono ?_; rintro e w1 ⟨rfl, h⟩; have T0 := Hid.mk (Two.made h); clear h)
  go_loopw [6] (fun ii wr => ∃ (i : Nat) (L : List ByteArray), i ≤ l.length ∧ ii = .int .i64 i ∧ Hid (Two w.heap.size w wr (w.heap.size + 1) w.heap.size w1.heap.size L L ∧ Nub L)) (fun ii _ => l.length - (intOf ii).toNat)
  case atStart => exact ⟨0, [], Nat.zero_le _, rfl, Hid.mk ⟨T0.out, Nub.nil⟩⟩
  case round =>
    obtain ⟨i, L, hi, rfl, hT⟩ := hrel
    by_cases hlt : i < l.length
    · obtain ⟨b, o, rfl, hc⟩ := HS.out.now hT.out.1.below i hlt
      have hci := hc i hlt
      have hsz := Hid.mk (H100.out i hlt)
      have hwi : IntKind.i64.wrap ((i : Int) + 1) = ((i + 1 : Nat) : Int) := by have := HLen.out; rw [maxLen] at this; rw [wrap_id (by omega) (by omega)]; omega
      clear hc
      have hce := Hid.mk (fun w' hb => HS.out.cell (w' := w') hb i hlt)
      obtain ⟨x, hx⟩ : ∃ x, l[i] = x := ⟨_, rfl⟩
      rw [hx] at hci hsz hce
      have HL := Hid.mk hlt
      clear hx
      go_wp2_with (first
        | (go_at_call 35; refine (hT.out.1.intern x (by have := hsz.out; rw [maxLen]; omega)).mono ?_; rintro e w2 ⟨rfl, h⟩; have T2 := Hid.mk h; clear h; have hc2 := hce.out _ T2.out.below)
        | (go_at_call 36; refine (T2.out.internR x (by have := hsz.out; omega)).mono ?_; rintro e w3 ⟨rfl, h⟩; have T3 := Hid.mk h; clear h))
      go_roundw
      case rel => exact ⟨i + 1, _, HL.out, by first | rfl | go_num, Hid.mk ⟨T3.out, hT.out.2.put x⟩⟩
      case measure =>
        have h1 : i < l.length := HL.out
        simp [intOf]
        omega
    · obtain rfl : i = l.length := by omega
      go_wp2
      go_ret2
      exact ⟨_, L, rfl, hT.out.1, hT.out.2⟩

set_option maxHeartbeats 1000000 in
theorem sameAtoms_any (p bm q : Nat) (v vr : Value) (L : List ByteArray) (w : World) (h : Tab w p bm v L) (hr : RTab w q vr L) :
    Calls Tryd.prog 15 #[.pointer (some ⟨p, 0, none⟩), .pointer (some ⟨q, 0, none⟩)] w fun e w' => e = .returned (.bool true) ∧ Below w.heap.size w w' := by
  have HA := Hid.mk (all_any p bm v L w h)
  have HR := Hid.mk hr
  have HF := Hid.mk hr.few
  obtain ⟨a', cap', hv'⟩ := hr.row.slice
  subst hv'
  clear h hr
  go_enter Tryd.func15, Tryd.ntmps15
  go_wp2_with (
    go_at_call 47
    refine HA.out.mono ?_
    rintro e w1 ⟨v1, rfl, ht1, _, hb1⟩
    obtain ⟨a, cap, rfl⟩ := ht1.slice
    have cq := (HR.out.up hb1).cell.1
    have HT := Hid.mk ht1
    have HB1 := Hid.mk hb1
    clear ht1 hb1)
  go_loopw [6] (fun ii wr => ∃ i : Nat, i ≤ L.length ∧ ii = .int .i64 i ∧ Hid (Below w1.heap.size w1 wr)) (fun ii _ => L.length - (intOf ii).toNat)
  case atStart => exact ⟨0, Nat.zero_le _, rfl, Hid.mk (Below.refl _ _)⟩
  case round =>
    obtain ⟨i, hi, rfl, hb⟩ := hrel
    by_cases hlt : i < L.length
    · obtain ⟨g, c1, hv, hc⟩ := HT.out.at_ (by omega)
      obtain ⟨g', c1', hv', hc'⟩ := ((HR.out.up HB1.out).up hb.out).row.at_ (by omega)
      simp only [Value.slice.injEq, true_and] at hv hv'
      obtain ⟨rfl, rfl⟩ := hv
      obtain ⟨rfl, rfl⟩ := hv'
      have hci := cell_below hb.out _ _ _ (hc i hlt)
      have hci' := hc' i hlt
      have hcq := cell_below hb.out _ _ _ cq
      have hwi : IntKind.i64.wrap ((i : Int) + 1) = ((i + 1 : Nat) : Int) := by have := HF.out; rw [wrap_id (by omega) (by omega)]; omega
      clear hc hc'
      obtain ⟨x, hx⟩ : ∃ x, L[i] = x := ⟨_, rfl⟩
      rw [hx] at hci hci'
      have heq := bytesA_eq x
      have Hlt := Hid.mk hlt
      clear hx
      go_wp2
      refine region_up (W := wr) (by kernel_rfl) (by kernel_rfl) (Up.refl _) ?_
      refine quiet_value (v := .slice (some ⟨g, 0, none⟩) L.length cap) rfl (fun _ _ => rfl) ?_
      simp only [Act.put, List.setIfInBounds_toArray, List.set_cons_zero, List.set_cons_succ]
      refine quiet_value (v := .int .i64 i) rfl (fun _ _ => rfl) ?_
      simp only [Act.put, List.setIfInBounds_toArray, List.set_cons_zero, List.set_cons_succ]
      refine quiet_value (v := .pointer (some ⟨g, i, none⟩)) rfl (fun _ _ => (by go_simp)) ?_
      simp only [Act.put, List.setIfInBounds_toArray, List.set_cons_zero, List.set_cons_succ]
      refine quiet_value (v := .string x) rfl (fun W h => (by have u0 := cell_below h.out _ _ _ hci; go_simp)) ?_
      simp only [Act.put, List.setIfInBounds_toArray, List.set_cons_zero, List.set_cons_succ]
      refine quiet_value (v := .pointer (some ⟨q, 0, none⟩)) rfl (fun _ _ => rfl) ?_
      simp only [Act.put, List.setIfInBounds_toArray, List.set_cons_zero, List.set_cons_succ]
      refine quiet_value (v := .pointer (some ⟨q, 0, none⟩)) rfl (fun _ _ => (by go_simp)) ?_
      simp only [Act.put, List.setIfInBounds_toArray, List.set_cons_zero, List.set_cons_succ]
      refine quiet_value (v := .pointer (some ⟨q, 0, none⟩)) rfl (fun _ _ => (by go_simp)) ?_
      simp only [Act.put, List.setIfInBounds_toArray, List.set_cons_zero, List.set_cons_succ]
      refine quiet_value (v := .slice (some ⟨g', 0, none⟩) L.length cap') rfl (fun W h => (by have u0 := cell_below h.out _ _ _ hcq; go_simp)) ?_
      simp only [Act.put, List.setIfInBounds_toArray, List.set_cons_zero, List.set_cons_succ]
      refine quiet_value (v := .int .i64 i) rfl (fun _ _ => rfl) ?_
      simp only [Act.put, List.setIfInBounds_toArray, List.set_cons_zero, List.set_cons_succ]
      refine quiet_value (v := .pointer (some ⟨g', i, none⟩)) rfl (fun _ _ => (by go_simp)) ?_
      simp only [Act.put, List.setIfInBounds_toArray, List.set_cons_zero, List.set_cons_succ]
      refine quiet_value (v := .string x) rfl (fun W h => (by have u0 := cell_below h.out _ _ _ hci'; go_simp)) ?_
      simp only [Act.put, List.setIfInBounds_toArray, List.set_cons_zero, List.set_cons_succ]
      refine quiet_value (v := .bool false) rfl (fun _ _ => (by go_simp)) ?_
      simp only [Act.put, List.setIfInBounds_toArray, List.set_cons_zero, List.set_cons_succ]
      refine quiet_nil ?_
      intro w2 hw2
      have HW := Hid.mk hw2
      clear hw2
      go_wp2
      go_roundw
      case rel => exact ⟨i + 1, Hlt.out, by first | rfl | go_num, Hid.mk (hb.out.trans (HW.out.out.mono hb.out.size))⟩
      case measure =>
        have h1 : i < L.length := Hlt.out
        simp [intOf]
        omega
    · go_wp2
      go_ret
      exact ⟨rfl, HB1.out.trans (hb.out.mono HB1.out.size)⟩
end Go.Proofs.YthkjdcmlalgphaaDoor
