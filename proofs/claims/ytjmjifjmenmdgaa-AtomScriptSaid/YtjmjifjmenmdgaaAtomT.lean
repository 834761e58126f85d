/-
  Whether a table tells just what the document's has.
-/
import Derived.Test.YtjmjifjmenmdgaaAtomS
namespace Go.Proofs.Ytjmjifjmenmdgaa
open Go.RowKit Go.Deep Go.Maps Go.WideShapes Go.WideMaps

theorem len_up (p bm : Nat) (v : Value) (L : List ByteArray) (w : World) (h : Tab w p bm v L) :
    Calls Try.prog 16 #[.pointer (some ⟨p, 0, none⟩)] w fun e w' => e = .returned (.int .i64 L.length) ∧ Below w.heap.size w w' :=
  (len_any p bm v L w h).mono fun e w' h => ⟨h.1, by rw [← h.2]; exact Below.refl _ _⟩
theorem texts_up {w w' : World} {v : Value} {L : List ByteArray} (h : Texts w v L) (hb : Up w w') : Texts w' v L := ownsRow_up h hb.out
theorem hGle {w w1 : World} {n cap : Nat} {g : Nat} (hb : Below w.heap.size w w1) (h : ∀ k, (Value.slice (some ⟨g, 0, none⟩) n cap).ownBlock = some k → w1.heap.size ≤ k) : w.heap.size ≤ g := Nat.le_trans hb.size (h g rfl)

theorem name_at (p bm : Nat) (v : Value) (L : List ByteArray) (i : Nat) (w : World) (h : Tab w p bm v L) (hi : i < L.length) :
    Calls Try.prog 15 #[.pointer (some ⟨p, 0, none⟩), .int .i64 i] w fun e w' => e = .returned (.tuple #[.string L[i], .int .i64 0]) ∧ Below w.heap.size w w' :=
  (name_any p bm v L i w h).mono fun e w' hh => by
    obtain ⟨⟨j, hj, hij, he⟩ | ⟨hn, _⟩, hb⟩ := hh
    · obtain rfl : i = j := by omega
      exact ⟨he, hb⟩
    · omega
theorem name_out (p bm : Nat) (v : Value) (L : List ByteArray) (n : Int) (w : World) (h : Tab w p bm v L) (hn : n < 0 ∨ (L.length : Int) ≤ n) :
    Calls Try.prog 15 #[.pointer (some ⟨p, 0, none⟩), .int .i64 n] w fun e w' => e = .returned (.tuple #[.string ⟨#[]⟩, .int .i64 5]) ∧ Below w.heap.size w w' :=
  (name_any p bm v L n w h).mono fun e w' hh => by
    obtain ⟨⟨j, hj, hij, he⟩ | ⟨_, he⟩, hb⟩ := hh
    · omega
    · exact ⟨he, hb⟩

set_option maxRecDepth 100000 in
set_option maxHeartbeats 4000000 in
theorem tells_any (p bm q : Nat) (v vr : Value) (L : List ByteArray) (n : Int) (s : ByteArray) (w : World) (hT : Tab w p bm v L) (hR : RTab w q vr L) (hs : s.size ≤ maxLen) :
    Calls Try.prog 11 #[.pointer (some ⟨p, 0, none⟩), .pointer (some ⟨q, 0, none⟩), .int .i64 n, .string s] w fun e w' => e = .returned (.bool true) ∧ Below w.heap.size w w' := by
  obtain ⟨ar, capr, hvr⟩ := hR.row.slice
  subst hvr
  obtain ⟨cr, _⟩ := hR.cell
  have hL := Hid.mk hR.few
  have hT := Hid.mk hT
  have hR := Hid.mk hR
  have hF := Hid.mk (fun w h => findT_any p bm v L s w h hs)
  have hG := Hid.mk (fun w h => findR_any q (.slice ar L.length capr) L s w h)
  by_cases hn : 0 ≤ n ∧ n < L.length
  · obtain ⟨j, rfl⟩ := Int.eq_ofNat_of_zero_le hn.1
    have hj : j < L.length := by omega
    obtain ⟨gr, cr', hvr, hcr⟩ := hR.out.row.at_ (by omega)
    simp only [Value.slice.injEq, true_and] at hvr
    obtain ⟨rfl, rfl⟩ := hvr
    have hcx := hcr j hj
    have hN := Hid.mk (fun w h => name_at p bm v L j w h hj)
    obtain ⟨X, hX⟩ : ∃ X, L[j] = X := ⟨_, rfl⟩
    rw [hX] at hcx hN
    obtain ⟨E, hE⟩ : ∃ E : Int, E = 0 := ⟨_, rfl⟩
    clear hcr hX hn hs
    cases hps : pos s L with
    | some k =>
      rw [hps] at hF
      have hpi : posI s L = k := by rw [posI, hps]
      rw [hpi] at hG
      simp only [Option.getD_some, Option.isSome_some] at hF
      clear hps hpi
      go_enter Try.func11, Try.ntmps11
      go_wp2_with (first
        | (go_at_call 15; refine (hN.out _ hT.out).mono ?_; rintro e w1 ⟨rfl, hb1⟩; have hT1 := Hid.mk (hT.out.up hb1); have hR1 := Hid.mk (hR.out.up hb1); have hB1 := Hid.mk hb1; obtain ⟨cr1, _⟩ := hR1.out.cell; have hcx1 := cell_below hb1 _ _ _ hcx; clear hb1)
        | (go_at_call 14; refine (hF.out _ hT1.out).mono ?_; rintro e w9 ⟨rfl, rfl⟩)
        | (go_at_call 23; refine (hG.out _ hR1.out).mono ?_; rintro e w9 ⟨rfl, rfl⟩)
        | (go_at_call 17; refine (all_any _ _ _ _ _ hT1.out).mono ?_; rintro e w2 ⟨va, rfl, hta, hga, hb2⟩; obtain ⟨aa, capa, rfl⟩ := Texts.slice hta; have hT2 := Hid.mk (hT1.out.up hb2); have hR2 := Hid.mk (hR1.out.up hb2); have hB2 := Hid.mk hb2; obtain ⟨cr2, _⟩ := hR2.out.cell; have hA2 := Hid.mk hta; have hGa := Hid.mk hga; clear hb2 hta hga))
      refine region_up (W := w2) (by kernel_rfl) (by kernel_rfl) (Up.refl _) ?_
      refine quiet_value (v := .string X) rfl (fun _ _ => rfl) ?_
      simp only [Act.put, List.setIfInBounds_toArray, List.set_cons_zero, List.set_cons_succ]
      refine quiet_value (v := .string X) rfl (fun _ _ => rfl) ?_
      simp only [Act.put, List.setIfInBounds_toArray, List.set_cons_zero, List.set_cons_succ]
      refine quiet_value (v := .bool false) rfl (fun _ _ => (by go_simp)) ?_
      simp only [Act.put, List.setIfInBounds_toArray, List.set_cons_zero, List.set_cons_succ]
      refine quiet_value (v := .bool false) rfl (fun _ _ => rfl) ?_
      simp only [Act.put, List.setIfInBounds_toArray, List.set_cons_zero, List.set_cons_succ]
      refine quiet_value (v := .int .i64 0) rfl (fun _ _ => rfl) ?_
      simp only [Act.put, List.setIfInBounds_toArray, List.set_cons_zero, List.set_cons_succ]
      refine quiet_value (v := .int .i64 0) rfl (fun _ _ => rfl) ?_
      simp only [Act.put, List.setIfInBounds_toArray, List.set_cons_zero, List.set_cons_succ]
      refine quiet_value (v := .bool false) rfl (fun _ _ => (by go_simp)) ?_
      simp only [Act.put, List.setIfInBounds_toArray, List.set_cons_zero, List.set_cons_succ]
      refine quiet_value (v := .bool false) rfl (fun _ _ => rfl) ?_
      simp only [Act.put, List.setIfInBounds_toArray, List.set_cons_zero, List.set_cons_succ]
      refine quiet_value (v := .bool false) rfl (fun _ _ => rfl) ?_
      simp only [Act.put, List.setIfInBounds_toArray, List.set_cons_zero, List.set_cons_succ]
      refine quiet_value (v := .bool true) rfl (fun _ _ => rfl) ?_
      simp only [Act.put, List.setIfInBounds_toArray, List.set_cons_zero, List.set_cons_succ]
      refine quiet_value (v := .int .i64 (k : Nat)) rfl (fun _ _ => rfl) ?_
      simp only [Act.put, List.setIfInBounds_toArray, List.set_cons_zero, List.set_cons_succ]
      refine quiet_value (v := .bool true) rfl (fun _ _ => (by go_simp)) ?_
      simp only [Act.put, List.setIfInBounds_toArray, List.set_cons_zero, List.set_cons_succ]
      refine quiet_value (v := .bool false) rfl (fun _ _ => (by go_simp)) ?_
      simp only [Act.put, List.setIfInBounds_toArray, List.set_cons_zero, List.set_cons_succ]
      refine quiet_value (v := .bool false) rfl (fun _ _ => rfl) ?_
      simp only [Act.put, List.setIfInBounds_toArray, List.set_cons_zero, List.set_cons_succ]
      refine quiet_value (v := .bool false) rfl (fun _ _ => rfl) ?_
      simp only [Act.put, List.setIfInBounds_toArray, List.set_cons_zero, List.set_cons_succ]
      refine quiet_value (v := .bool true) rfl (fun _ _ => rfl) ?_
      simp only [Act.put, List.setIfInBounds_toArray, List.set_cons_zero, List.set_cons_succ]
      refine quiet_value (v := .bool true) rfl (fun _ _ => rfl) ?_
      simp only [Act.put, List.setIfInBounds_toArray, List.set_cons_zero, List.set_cons_succ]
      refine quiet_value (v := .int .i64 (k : Nat)) rfl (fun _ _ => rfl) ?_
      simp only [Act.put, List.setIfInBounds_toArray, List.set_cons_zero, List.set_cons_succ]
      refine quiet_value (v := .int .i64 (k : Nat)) rfl (fun _ _ => rfl) ?_
      simp only [Act.put, List.setIfInBounds_toArray, List.set_cons_zero, List.set_cons_succ]
      refine quiet_value (v := .bool false) rfl (fun _ _ => (by go_simp)) ?_
      simp only [Act.put, List.setIfInBounds_toArray, List.set_cons_zero, List.set_cons_succ]
      refine quiet_value (v := .bool false) rfl (fun _ _ => rfl) ?_
      simp only [Act.put, List.setIfInBounds_toArray, List.set_cons_zero, List.set_cons_succ]
      refine quiet_value (v := .bool false) rfl (fun _ _ => rfl) ?_
      simp only [Act.put, List.setIfInBounds_toArray, List.set_cons_zero, List.set_cons_succ]
      refine quiet_value (v := .bool false) rfl (fun _ _ => rfl) ?_
      simp only [Act.put, List.setIfInBounds_toArray, List.set_cons_zero, List.set_cons_succ]
      refine quiet_value (v := .bool true) rfl (fun _ _ => rfl) ?_
      simp only [Act.put, List.setIfInBounds_toArray, List.set_cons_zero, List.set_cons_succ]
      refine quiet_value (v := .bool false) rfl (fun _ _ => (by go_simp)) ?_
      simp only [Act.put, List.setIfInBounds_toArray, List.set_cons_zero, List.set_cons_succ]
      refine quiet_value (v := .bool false) rfl (fun _ _ => rfl) ?_
      simp only [Act.put, List.setIfInBounds_toArray, List.set_cons_zero, List.set_cons_succ]
      refine quiet_not rfl ?_
      simp only [Act.put, List.setIfInBounds_toArray, List.set_cons_zero, List.set_cons_succ]
      refine quiet_not rfl ?_
      simp only [Act.put, List.setIfInBounds_toArray, List.set_cons_zero, List.set_cons_succ]
      refine quiet_value (v := .bool false) rfl (fun _ _ => rfl) ?_
      simp only [Act.put, List.setIfInBounds_toArray, List.set_cons_zero, List.set_cons_succ]
      refine quiet_value (v := .bool false) rfl (fun _ _ => rfl) ?_
      simp only [Act.put, List.setIfInBounds_toArray, List.set_cons_zero, List.set_cons_succ]
      refine quiet_value (v := .bool false) rfl (fun _ _ => rfl) ?_
      simp only [Act.put, List.setIfInBounds_toArray, List.set_cons_zero, List.set_cons_succ]
      refine quiet_value (v := .pointer (some ⟨p, 0, none⟩)) rfl (fun _ _ => rfl) ?_
      simp only [Act.put, List.setIfInBounds_toArray, List.set_cons_zero, List.set_cons_succ]
      refine quiet_call (v := .int .i64 L.length) rfl (fun W => (by go_simp)) (fun W h => (len_up p bm v L W (hT2.out.up h)).mono fun e w' ⟨he, hb⟩ => ⟨he, h.call hb⟩) ?_
      simp only [Act.put, List.setIfInBounds_toArray, List.set_cons_zero, List.set_cons_succ]
      refine quiet_value (v := .pointer (some ⟨q, 0, none⟩)) rfl (fun _ _ => rfl) ?_
      simp only [Act.put, List.setIfInBounds_toArray, List.set_cons_zero, List.set_cons_succ]
      refine quiet_value (v := .pointer (some ⟨q, 0, none⟩)) rfl (fun _ _ => (by go_simp)) ?_
      simp only [Act.put, List.setIfInBounds_toArray, List.set_cons_zero, List.set_cons_succ]
      refine quiet_value (v := .pointer (some ⟨q, 0, none⟩)) rfl (fun _ _ => (by go_simp)) ?_
      simp only [Act.put, List.setIfInBounds_toArray, List.set_cons_zero, List.set_cons_succ]
      refine quiet_value (v := .slice (some ⟨gr, 0, none⟩) L.length capr) rfl (fun W h => (by have u0 := cell_below h.out _ _ _ cr2; go_simp)) ?_
      simp only [Act.put, List.setIfInBounds_toArray, List.set_cons_zero, List.set_cons_succ]
      refine quiet_value (v := .int .i64 L.length) rfl (fun _ _ => (by go_simp)) ?_
      simp only [Act.put, List.setIfInBounds_toArray, List.set_cons_zero, List.set_cons_succ]
      refine quiet_value (v := .bool false) rfl (fun _ _ => (by go_simp)) ?_
      simp only [Act.put, List.setIfInBounds_toArray, List.set_cons_zero, List.set_cons_succ]
      refine quiet_value (v := .bool false) rfl (fun _ _ => rfl) ?_
      simp only [Act.put, List.setIfInBounds_toArray, List.set_cons_zero, List.set_cons_succ]
      refine quiet_value (v := .bool false) rfl (fun _ _ => rfl) ?_
      simp only [Act.put, List.setIfInBounds_toArray, List.set_cons_zero, List.set_cons_succ]
      refine quiet_value (v := .slice aa L.length capa) rfl (fun _ _ => rfl) ?_
      simp only [Act.put, List.setIfInBounds_toArray, List.set_cons_zero, List.set_cons_succ]
      refine quiet_value (v := .pointer (some ⟨q, 0, none⟩)) rfl (fun _ _ => rfl) ?_
      simp only [Act.put, List.setIfInBounds_toArray, List.set_cons_zero, List.set_cons_succ]
      refine quiet_value (v := .pointer (some ⟨q, 0, none⟩)) rfl (fun _ _ => (by go_simp)) ?_
      simp only [Act.put, List.setIfInBounds_toArray, List.set_cons_zero, List.set_cons_succ]
      refine quiet_value (v := .pointer (some ⟨q, 0, none⟩)) rfl (fun _ _ => (by go_simp)) ?_
      simp only [Act.put, List.setIfInBounds_toArray, List.set_cons_zero, List.set_cons_succ]
      refine quiet_value (v := .slice (some ⟨gr, 0, none⟩) L.length capr) rfl (fun W h => (by have u0 := cell_below h.out _ _ _ cr2; go_simp)) ?_
      simp only [Act.put, List.setIfInBounds_toArray, List.set_cons_zero, List.set_cons_succ]
      refine quiet_call (v := .bool true) rfl (fun W => (by go_simp)) (fun W h => (sameTexts_any (.slice aa L.length capa) (.slice (some ⟨gr, 0, none⟩) L.length capr) L W (texts_up hA2.out h) (texts_up hR2.out.row h) hL.out).mono fun e w' ⟨he, hb⟩ => ⟨he, h.call hb⟩) ?_
      simp only [Act.put, List.setIfInBounds_toArray, List.set_cons_zero, List.set_cons_succ]
      refine quiet_value (v := .bool false) rfl (fun _ _ => (by go_simp)) ?_
      simp only [Act.put, List.setIfInBounds_toArray, List.set_cons_zero, List.set_cons_succ]
      refine quiet_value (v := .bool false) rfl (fun _ _ => rfl) ?_
      simp only [Act.put, List.setIfInBounds_toArray, List.set_cons_zero, List.set_cons_succ]
      refine quiet_nil ?_
      intro w3 hw3
      have hW3 := Hid.mk hw3
      clear hw3
      go_wp2
      go_loopw [17] (fun ii wr => ∃ (i : Nat) (xs : List Value), i ≤ L.length ∧ ii = .int .i64 i ∧ wr.ownsRow 0 9 1 (.slice aa L.length capa) L.length xs ∧ Hid (xs.length = L.length) ∧ Below w.heap.size w wr) (fun ii _ => L.length - (intOf ii).toNat)
      case atStart => exact ⟨0, _, Nat.zero_le _, rfl, ownsRow_up hA2.out hW3.out.out, Hid.mk (by simp), (hB1.out.trans (hB2.out.mono hB1.out.size)).trans (hW3.out.out.mono (Nat.le_trans hB1.out.size hB2.out.size))⟩
      case round =>
        obtain ⟨i, xs, hi, rfl, ho, hxl, hb⟩ := hrel
        by_cases hlt : i < L.length
        · obtain ⟨g, cg, hv, _⟩ := hA2.out.at_ (by omega)
          simp only [Value.slice.injEq, true_and] at hv
          obtain ⟨rfl, rfl⟩ := hv
          have hcl : wr.cell? ⟨g, i, none⟩ = some (xs[i]'(by rw [hxl.out]; exact hlt)) := by
            rw [ho.cellAt i (by omega)]; exact List.getElem?_eq_getElem _
          have hfr := ho.frozenAt i
          have hwi : IntKind.i64.wrap ((i : Int) + 1) = ((i + 1 : Nat) : Int) := by have := hL.out; rw [wrap_id (by omega) (by omega)]; omega
          have HO := Hid.mk ho
          have HB := Hid.mk hb
          have HL := Hid.mk hlt
          clear ho hb
          go_wp2
          go_roundw
          case rel => exact ⟨i + 1, _, HL.out, by first | rfl | go_num, (HO.out.stored i (.string ⟨#[120]⟩)).1, Hid.mk (by rw [List.length_set]; exact hxl.out), HB.out.setCell (hGle hB1.out hGa.out) _⟩
          case measure =>
            have h1 : i < L.length := HL.out
            simp [intOf]
            omega
        · go_wp2
          go_ret
          exact ⟨rfl, hb⟩
    | none =>
      rw [hps] at hF
      have hpi : posI s L = -1 := by rw [posI, hps]
      rw [hpi] at hG
      simp only [Option.getD_none, Option.isSome_none] at hF
      clear hps hpi
      go_enter Try.func11, Try.ntmps11
      go_wp2_with (first
        | (go_at_call 15; refine (hN.out _ hT.out).mono ?_; rintro e w1 ⟨rfl, hb1⟩; have hT1 := Hid.mk (hT.out.up hb1); have hR1 := Hid.mk (hR.out.up hb1); have hB1 := Hid.mk hb1; obtain ⟨cr1, _⟩ := hR1.out.cell; have hcx1 := cell_below hb1 _ _ _ hcx; clear hb1)
        | (go_at_call 14; refine (hF.out _ hT1.out).mono ?_; rintro e w9 ⟨rfl, rfl⟩)
        | (go_at_call 23; refine (hG.out _ hR1.out).mono ?_; rintro e w9 ⟨rfl, rfl⟩)
        | (go_at_call 17; refine (all_any _ _ _ _ _ hT1.out).mono ?_; rintro e w2 ⟨va, rfl, hta, hga, hb2⟩; obtain ⟨aa, capa, rfl⟩ := Texts.slice hta; have hT2 := Hid.mk (hT1.out.up hb2); have hR2 := Hid.mk (hR1.out.up hb2); have hB2 := Hid.mk hb2; obtain ⟨cr2, _⟩ := hR2.out.cell; have hA2 := Hid.mk hta; have hGa := Hid.mk hga; clear hb2 hta hga))
      refine region_up (W := w2) (by kernel_rfl) (by kernel_rfl) (Up.refl _) ?_
      refine quiet_value (v := .string X) rfl (fun _ _ => rfl) ?_
      simp only [Act.put, List.setIfInBounds_toArray, List.set_cons_zero, List.set_cons_succ]
      refine quiet_value (v := .string X) rfl (fun _ _ => rfl) ?_
      simp only [Act.put, List.setIfInBounds_toArray, List.set_cons_zero, List.set_cons_succ]
      refine quiet_value (v := .bool false) rfl (fun _ _ => (by go_simp)) ?_
      simp only [Act.put, List.setIfInBounds_toArray, List.set_cons_zero, List.set_cons_succ]
      refine quiet_value (v := .bool false) rfl (fun _ _ => rfl) ?_
      simp only [Act.put, List.setIfInBounds_toArray, List.set_cons_zero, List.set_cons_succ]
      refine quiet_value (v := .int .i64 0) rfl (fun _ _ => rfl) ?_
      simp only [Act.put, List.setIfInBounds_toArray, List.set_cons_zero, List.set_cons_succ]
      refine quiet_value (v := .int .i64 0) rfl (fun _ _ => rfl) ?_
      simp only [Act.put, List.setIfInBounds_toArray, List.set_cons_zero, List.set_cons_succ]
      refine quiet_value (v := .bool false) rfl (fun _ _ => (by go_simp)) ?_
      simp only [Act.put, List.setIfInBounds_toArray, List.set_cons_zero, List.set_cons_succ]
      refine quiet_value (v := .bool false) rfl (fun _ _ => rfl) ?_
      simp only [Act.put, List.setIfInBounds_toArray, List.set_cons_zero, List.set_cons_succ]
      refine quiet_value (v := .bool false) rfl (fun _ _ => rfl) ?_
      simp only [Act.put, List.setIfInBounds_toArray, List.set_cons_zero, List.set_cons_succ]
      refine quiet_value (v := .bool false) rfl (fun _ _ => rfl) ?_
      simp only [Act.put, List.setIfInBounds_toArray, List.set_cons_zero, List.set_cons_succ]
      refine quiet_value (v := .int .i64 (-1)) rfl (fun _ _ => rfl) ?_
      simp only [Act.put, List.setIfInBounds_toArray, List.set_cons_zero, List.set_cons_succ]
      refine quiet_value (v := .bool false) rfl (fun _ _ => (by go_simp)) ?_
      simp only [Act.put, List.setIfInBounds_toArray, List.set_cons_zero, List.set_cons_succ]
      refine quiet_value (v := .bool false) rfl (fun _ _ => (by go_simp)) ?_
      simp only [Act.put, List.setIfInBounds_toArray, List.set_cons_zero, List.set_cons_succ]
      refine quiet_value (v := .bool false) rfl (fun _ _ => rfl) ?_
      simp only [Act.put, List.setIfInBounds_toArray, List.set_cons_zero, List.set_cons_succ]
      refine quiet_value (v := .bool false) rfl (fun _ _ => rfl) ?_
      simp only [Act.put, List.setIfInBounds_toArray, List.set_cons_zero, List.set_cons_succ]
      refine quiet_value (v := .bool false) rfl (fun _ _ => rfl) ?_
      simp only [Act.put, List.setIfInBounds_toArray, List.set_cons_zero, List.set_cons_succ]
      refine quiet_value (v := .bool false) rfl (fun _ _ => rfl) ?_
      simp only [Act.put, List.setIfInBounds_toArray, List.set_cons_zero, List.set_cons_succ]
      refine quiet_not rfl ?_
      simp only [Act.put, List.setIfInBounds_toArray, List.set_cons_zero, List.set_cons_succ]
      refine quiet_not rfl ?_
      simp only [Act.put, List.setIfInBounds_toArray, List.set_cons_zero, List.set_cons_succ]
      refine quiet_not rfl ?_
      simp only [Act.put, List.setIfInBounds_toArray, List.set_cons_zero, List.set_cons_succ]
      refine quiet_value (v := .bool false) rfl (fun _ _ => rfl) ?_
      simp only [Act.put, List.setIfInBounds_toArray, List.set_cons_zero, List.set_cons_succ]
      refine quiet_value (v := .bool false) rfl (fun _ _ => rfl) ?_
      simp only [Act.put, List.setIfInBounds_toArray, List.set_cons_zero, List.set_cons_succ]
      refine quiet_value (v := .bool false) rfl (fun _ _ => rfl) ?_
      simp only [Act.put, List.setIfInBounds_toArray, List.set_cons_zero, List.set_cons_succ]
      refine quiet_value (v := .bool false) rfl (fun _ _ => rfl) ?_
      simp only [Act.put, List.setIfInBounds_toArray, List.set_cons_zero, List.set_cons_succ]
      refine quiet_value (v := .bool true) rfl (fun _ _ => (by go_simp)) ?_
      simp only [Act.put, List.setIfInBounds_toArray, List.set_cons_zero, List.set_cons_succ]
      refine quiet_value (v := .bool true) rfl (fun _ _ => rfl) ?_
      simp only [Act.put, List.setIfInBounds_toArray, List.set_cons_zero, List.set_cons_succ]
      refine quiet_value (v := .int .i64 0) rfl (fun _ _ => rfl) ?_
      simp only [Act.put, List.setIfInBounds_toArray, List.set_cons_zero, List.set_cons_succ]
      refine quiet_value (v := .bool false) rfl (fun _ _ => (by go_simp)) ?_
      simp only [Act.put, List.setIfInBounds_toArray, List.set_cons_zero, List.set_cons_succ]
      refine quiet_value (v := .bool false) rfl (fun _ _ => rfl) ?_
      simp only [Act.put, List.setIfInBounds_toArray, List.set_cons_zero, List.set_cons_succ]
      refine quiet_value (v := .bool false) rfl (fun _ _ => rfl) ?_
      simp only [Act.put, List.setIfInBounds_toArray, List.set_cons_zero, List.set_cons_succ]
      refine quiet_value (v := .bool false) rfl (fun _ _ => rfl) ?_
      simp only [Act.put, List.setIfInBounds_toArray, List.set_cons_zero, List.set_cons_succ]
      refine quiet_value (v := .pointer (some ⟨p, 0, none⟩)) rfl (fun _ _ => rfl) ?_
      simp only [Act.put, List.setIfInBounds_toArray, List.set_cons_zero, List.set_cons_succ]
      refine quiet_call (v := .int .i64 L.length) rfl (fun W => (by go_simp)) (fun W h => (len_up p bm v L W (hT2.out.up h)).mono fun e w' ⟨he, hb⟩ => ⟨he, h.call hb⟩) ?_
      simp only [Act.put, List.setIfInBounds_toArray, List.set_cons_zero, List.set_cons_succ]
      refine quiet_value (v := .pointer (some ⟨q, 0, none⟩)) rfl (fun _ _ => rfl) ?_
      simp only [Act.put, List.setIfInBounds_toArray, List.set_cons_zero, List.set_cons_succ]
      refine quiet_value (v := .pointer (some ⟨q, 0, none⟩)) rfl (fun _ _ => (by go_simp)) ?_
      simp only [Act.put, List.setIfInBounds_toArray, List.set_cons_zero, List.set_cons_succ]
      refine quiet_value (v := .pointer (some ⟨q, 0, none⟩)) rfl (fun _ _ => (by go_simp)) ?_
      simp only [Act.put, List.setIfInBounds_toArray, List.set_cons_zero, List.set_cons_succ]
      refine quiet_value (v := .slice (some ⟨gr, 0, none⟩) L.length capr) rfl (fun W h => (by have u0 := cell_below h.out _ _ _ cr2; go_simp)) ?_
      simp only [Act.put, List.setIfInBounds_toArray, List.set_cons_zero, List.set_cons_succ]
      refine quiet_value (v := .int .i64 L.length) rfl (fun _ _ => (by go_simp)) ?_
      simp only [Act.put, List.setIfInBounds_toArray, List.set_cons_zero, List.set_cons_succ]
      refine quiet_value (v := .bool false) rfl (fun _ _ => (by go_simp)) ?_
      simp only [Act.put, List.setIfInBounds_toArray, List.set_cons_zero, List.set_cons_succ]
      refine quiet_value (v := .bool false) rfl (fun _ _ => rfl) ?_
      simp only [Act.put, List.setIfInBounds_toArray, List.set_cons_zero, List.set_cons_succ]
      refine quiet_value (v := .bool false) rfl (fun _ _ => rfl) ?_
      simp only [Act.put, List.setIfInBounds_toArray, List.set_cons_zero, List.set_cons_succ]
      refine quiet_value (v := .slice aa L.length capa) rfl (fun _ _ => rfl) ?_
      simp only [Act.put, List.setIfInBounds_toArray, List.set_cons_zero, List.set_cons_succ]
      refine quiet_value (v := .pointer (some ⟨q, 0, none⟩)) rfl (fun _ _ => rfl) ?_
      simp only [Act.put, List.setIfInBounds_toArray, List.set_cons_zero, List.set_cons_succ]
      refine quiet_value (v := .pointer (some ⟨q, 0, none⟩)) rfl (fun _ _ => (by go_simp)) ?_
      simp only [Act.put, List.setIfInBounds_toArray, List.set_cons_zero, List.set_cons_succ]
      refine quiet_value (v := .pointer (some ⟨q, 0, none⟩)) rfl (fun _ _ => (by go_simp)) ?_
      simp only [Act.put, List.setIfInBounds_toArray, List.set_cons_zero, List.set_cons_succ]
      refine quiet_value (v := .slice (some ⟨gr, 0, none⟩) L.length capr) rfl (fun W h => (by have u0 := cell_below h.out _ _ _ cr2; go_simp)) ?_
      simp only [Act.put, List.setIfInBounds_toArray, List.set_cons_zero, List.set_cons_succ]
      refine quiet_call (v := .bool true) rfl (fun W => (by go_simp)) (fun W h => (sameTexts_any (.slice aa L.length capa) (.slice (some ⟨gr, 0, none⟩) L.length capr) L W (texts_up hA2.out h) (texts_up hR2.out.row h) hL.out).mono fun e w' ⟨he, hb⟩ => ⟨he, h.call hb⟩) ?_
      simp only [Act.put, List.setIfInBounds_toArray, List.set_cons_zero, List.set_cons_succ]
      refine quiet_value (v := .bool false) rfl (fun _ _ => (by go_simp)) ?_
      simp only [Act.put, List.setIfInBounds_toArray, List.set_cons_zero, List.set_cons_succ]
      refine quiet_value (v := .bool false) rfl (fun _ _ => rfl) ?_
      simp only [Act.put, List.setIfInBounds_toArray, List.set_cons_zero, List.set_cons_succ]
      refine quiet_nil ?_
      intro w3 hw3
      have hW3 := Hid.mk hw3
      clear hw3
      go_wp2
      go_loopw [17] (fun ii wr => ∃ (i : Nat) (xs : List Value), i ≤ L.length ∧ ii = .int .i64 i ∧ wr.ownsRow 0 9 1 (.slice aa L.length capa) L.length xs ∧ Hid (xs.length = L.length) ∧ Below w.heap.size w wr) (fun ii _ => L.length - (intOf ii).toNat)
      case atStart => exact ⟨0, _, Nat.zero_le _, rfl, ownsRow_up hA2.out hW3.out.out, Hid.mk (by simp), (hB1.out.trans (hB2.out.mono hB1.out.size)).trans (hW3.out.out.mono (Nat.le_trans hB1.out.size hB2.out.size))⟩
      case round =>
        obtain ⟨i, xs, hi, rfl, ho, hxl, hb⟩ := hrel
        by_cases hlt : i < L.length
        · obtain ⟨g, cg, hv, _⟩ := hA2.out.at_ (by omega)
          simp only [Value.slice.injEq, true_and] at hv
          obtain ⟨rfl, rfl⟩ := hv
          have hcl : wr.cell? ⟨g, i, none⟩ = some (xs[i]'(by rw [hxl.out]; exact hlt)) := by
            rw [ho.cellAt i (by omega)]; exact List.getElem?_eq_getElem _
          have hfr := ho.frozenAt i
          have hwi : IntKind.i64.wrap ((i : Int) + 1) = ((i + 1 : Nat) : Int) := by have := hL.out; rw [wrap_id (by omega) (by omega)]; omega
          have HO := Hid.mk ho
          have HB := Hid.mk hb
          have HL := Hid.mk hlt
          clear ho hb
          go_wp2
          go_roundw
          case rel => exact ⟨i + 1, _, HL.out, by first | rfl | go_num, (HO.out.stored i (.string ⟨#[120]⟩)).1, Hid.mk (by rw [List.length_set]; exact hxl.out), HB.out.setCell (hGle hB1.out hGa.out) _⟩
          case measure =>
            have h1 : i < L.length := HL.out
            simp [intOf]
            omega
        · go_wp2
          go_ret
          exact ⟨rfl, hb⟩
  · have hN := Hid.mk (fun w h => name_out p bm v L n w h (by omega))
    have hcx := True.intro
    obtain ⟨X, hX⟩ : ∃ X : ByteArray, X = ⟨#[]⟩ := ⟨_, rfl⟩
    by_cases h0 : n < 0
    · clear hn hs
      cases hps : pos s L with
      | some k =>
        rw [hps] at hF
        have hpi : posI s L = k := by rw [posI, hps]
        rw [hpi] at hG
        simp only [Option.getD_some, Option.isSome_some] at hF
        clear hps hpi
        go_enter Try.func11, Try.ntmps11
        go_wp2_with (first
          | (go_at_call 15; refine (hN.out _ hT.out).mono ?_; rintro e w1 ⟨rfl, hb1⟩; have hT1 := Hid.mk (hT.out.up hb1); have hR1 := Hid.mk (hR.out.up hb1); have hB1 := Hid.mk hb1; obtain ⟨cr1, _⟩ := hR1.out.cell; have hcx1 := True.intro; clear hb1)
          | (go_at_call 14; refine (hF.out _ hT1.out).mono ?_; rintro e w9 ⟨rfl, rfl⟩)
          | (go_at_call 23; refine (hG.out _ hR1.out).mono ?_; rintro e w9 ⟨rfl, rfl⟩)
          | (go_at_call 17; refine (all_any _ _ _ _ _ hT1.out).mono ?_; rintro e w2 ⟨va, rfl, hta, hga, hb2⟩; obtain ⟨aa, capa, rfl⟩ := Texts.slice hta; have hT2 := Hid.mk (hT1.out.up hb2); have hR2 := Hid.mk (hR1.out.up hb2); have hB2 := Hid.mk hb2; obtain ⟨cr2, _⟩ := hR2.out.cell; have hA2 := Hid.mk hta; have hGa := Hid.mk hga; clear hb2 hta hga))
        refine region_up (W := w2) (by kernel_rfl) (by kernel_rfl) (Up.refl _) ?_
        refine quiet_value (v := .string ⟨#[]⟩) rfl (fun _ _ => rfl) ?_
        simp only [Act.put, List.setIfInBounds_toArray, List.set_cons_zero, List.set_cons_succ]
        refine quiet_value (v := .string ⟨#[]⟩) rfl (fun _ _ => rfl) ?_
        simp only [Act.put, List.setIfInBounds_toArray, List.set_cons_zero, List.set_cons_succ]
        refine quiet_value (v := .bool false) rfl (fun _ _ => (by go_simp)) ?_
        simp only [Act.put, List.setIfInBounds_toArray, List.set_cons_zero, List.set_cons_succ]
        refine quiet_value (v := .bool false) rfl (fun _ _ => rfl) ?_
        simp only [Act.put, List.setIfInBounds_toArray, List.set_cons_zero, List.set_cons_succ]
        refine quiet_value (v := .int .i64 5) rfl (fun _ _ => rfl) ?_
        simp only [Act.put, List.setIfInBounds_toArray, List.set_cons_zero, List.set_cons_succ]
        refine quiet_value (v := .int .i64 5) rfl (fun _ _ => rfl) ?_
        simp only [Act.put, List.setIfInBounds_toArray, List.set_cons_zero, List.set_cons_succ]
        refine quiet_value (v := .bool false) rfl (fun _ _ => (by go_simp)) ?_
        simp only [Act.put, List.setIfInBounds_toArray, List.set_cons_zero, List.set_cons_succ]
        refine quiet_value (v := .bool false) rfl (fun _ _ => rfl) ?_
        simp only [Act.put, List.setIfInBounds_toArray, List.set_cons_zero, List.set_cons_succ]
        refine quiet_value (v := .bool false) rfl (fun _ _ => rfl) ?_
        simp only [Act.put, List.setIfInBounds_toArray, List.set_cons_zero, List.set_cons_succ]
        refine quiet_value (v := .bool true) rfl (fun _ _ => rfl) ?_
        simp only [Act.put, List.setIfInBounds_toArray, List.set_cons_zero, List.set_cons_succ]
        refine quiet_value (v := .int .i64 (k : Nat)) rfl (fun _ _ => rfl) ?_
        simp only [Act.put, List.setIfInBounds_toArray, List.set_cons_zero, List.set_cons_succ]
        refine quiet_value (v := .bool true) rfl (fun _ _ => (by go_simp)) ?_
        simp only [Act.put, List.setIfInBounds_toArray, List.set_cons_zero, List.set_cons_succ]
        refine quiet_value (v := .bool false) rfl (fun _ _ => (by go_simp)) ?_
        simp only [Act.put, List.setIfInBounds_toArray, List.set_cons_zero, List.set_cons_succ]
        refine quiet_value (v := .bool false) rfl (fun _ _ => rfl) ?_
        simp only [Act.put, List.setIfInBounds_toArray, List.set_cons_zero, List.set_cons_succ]
        refine quiet_value (v := .bool false) rfl (fun _ _ => rfl) ?_
        simp only [Act.put, List.setIfInBounds_toArray, List.set_cons_zero, List.set_cons_succ]
        refine quiet_value (v := .bool true) rfl (fun _ _ => rfl) ?_
        simp only [Act.put, List.setIfInBounds_toArray, List.set_cons_zero, List.set_cons_succ]
        refine quiet_value (v := .bool true) rfl (fun _ _ => rfl) ?_
        simp only [Act.put, List.setIfInBounds_toArray, List.set_cons_zero, List.set_cons_succ]
        refine quiet_value (v := .int .i64 (k : Nat)) rfl (fun _ _ => rfl) ?_
        simp only [Act.put, List.setIfInBounds_toArray, List.set_cons_zero, List.set_cons_succ]
        refine quiet_value (v := .int .i64 (k : Nat)) rfl (fun _ _ => rfl) ?_
        simp only [Act.put, List.setIfInBounds_toArray, List.set_cons_zero, List.set_cons_succ]
        refine quiet_value (v := .bool false) rfl (fun _ _ => (by go_simp)) ?_
        simp only [Act.put, List.setIfInBounds_toArray, List.set_cons_zero, List.set_cons_succ]
        refine quiet_value (v := .bool false) rfl (fun _ _ => rfl) ?_
        simp only [Act.put, List.setIfInBounds_toArray, List.set_cons_zero, List.set_cons_succ]
        refine quiet_value (v := .bool false) rfl (fun _ _ => rfl) ?_
        simp only [Act.put, List.setIfInBounds_toArray, List.set_cons_zero, List.set_cons_succ]
        refine quiet_value (v := .bool false) rfl (fun _ _ => rfl) ?_
        simp only [Act.put, List.setIfInBounds_toArray, List.set_cons_zero, List.set_cons_succ]
        refine quiet_value (v := .bool true) rfl (fun _ _ => rfl) ?_
        simp only [Act.put, List.setIfInBounds_toArray, List.set_cons_zero, List.set_cons_succ]
        refine quiet_value (v := .bool false) rfl (fun _ _ => (by go_simp)) ?_
        simp only [Act.put, List.setIfInBounds_toArray, List.set_cons_zero, List.set_cons_succ]
        refine quiet_value (v := .bool false) rfl (fun _ _ => rfl) ?_
        simp only [Act.put, List.setIfInBounds_toArray, List.set_cons_zero, List.set_cons_succ]
        refine quiet_not rfl ?_
        simp only [Act.put, List.setIfInBounds_toArray, List.set_cons_zero, List.set_cons_succ]
        refine quiet_not rfl ?_
        simp only [Act.put, List.setIfInBounds_toArray, List.set_cons_zero, List.set_cons_succ]
        refine quiet_value (v := .bool false) rfl (fun _ _ => rfl) ?_
        simp only [Act.put, List.setIfInBounds_toArray, List.set_cons_zero, List.set_cons_succ]
        refine quiet_value (v := .bool false) rfl (fun _ _ => rfl) ?_
        simp only [Act.put, List.setIfInBounds_toArray, List.set_cons_zero, List.set_cons_succ]
        refine quiet_value (v := .bool false) rfl (fun _ _ => rfl) ?_
        simp only [Act.put, List.setIfInBounds_toArray, List.set_cons_zero, List.set_cons_succ]
        refine quiet_value (v := .pointer (some ⟨p, 0, none⟩)) rfl (fun _ _ => rfl) ?_
        simp only [Act.put, List.setIfInBounds_toArray, List.set_cons_zero, List.set_cons_succ]
        refine quiet_call (v := .int .i64 L.length) rfl (fun W => (by go_simp)) (fun W h => (len_up p bm v L W (hT2.out.up h)).mono fun e w' ⟨he, hb⟩ => ⟨he, h.call hb⟩) ?_
        simp only [Act.put, List.setIfInBounds_toArray, List.set_cons_zero, List.set_cons_succ]
        refine quiet_value (v := .pointer (some ⟨q, 0, none⟩)) rfl (fun _ _ => rfl) ?_
        simp only [Act.put, List.setIfInBounds_toArray, List.set_cons_zero, List.set_cons_succ]
        refine quiet_value (v := .pointer (some ⟨q, 0, none⟩)) rfl (fun _ _ => (by go_simp)) ?_
        simp only [Act.put, List.setIfInBounds_toArray, List.set_cons_zero, List.set_cons_succ]
        refine quiet_value (v := .pointer (some ⟨q, 0, none⟩)) rfl (fun _ _ => (by go_simp)) ?_
        simp only [Act.put, List.setIfInBounds_toArray, List.set_cons_zero, List.set_cons_succ]
        refine quiet_value (v := .slice ar L.length capr) rfl (fun W h => (by have u0 := cell_below h.out _ _ _ cr2; go_simp)) ?_
        simp only [Act.put, List.setIfInBounds_toArray, List.set_cons_zero, List.set_cons_succ]
        refine quiet_value (v := .int .i64 L.length) rfl (fun _ _ => (by go_simp)) ?_
        simp only [Act.put, List.setIfInBounds_toArray, List.set_cons_zero, List.set_cons_succ]
        refine quiet_value (v := .bool false) rfl (fun _ _ => (by go_simp)) ?_
        simp only [Act.put, List.setIfInBounds_toArray, List.set_cons_zero, List.set_cons_succ]
        refine quiet_value (v := .bool false) rfl (fun _ _ => rfl) ?_
        simp only [Act.put, List.setIfInBounds_toArray, List.set_cons_zero, List.set_cons_succ]
        refine quiet_value (v := .bool false) rfl (fun _ _ => rfl) ?_
        simp only [Act.put, List.setIfInBounds_toArray, List.set_cons_zero, List.set_cons_succ]
        refine quiet_value (v := .slice aa L.length capa) rfl (fun _ _ => rfl) ?_
        simp only [Act.put, List.setIfInBounds_toArray, List.set_cons_zero, List.set_cons_succ]
        refine quiet_value (v := .pointer (some ⟨q, 0, none⟩)) rfl (fun _ _ => rfl) ?_
        simp only [Act.put, List.setIfInBounds_toArray, List.set_cons_zero, List.set_cons_succ]
        refine quiet_value (v := .pointer (some ⟨q, 0, none⟩)) rfl (fun _ _ => (by go_simp)) ?_
        simp only [Act.put, List.setIfInBounds_toArray, List.set_cons_zero, List.set_cons_succ]
        refine quiet_value (v := .pointer (some ⟨q, 0, none⟩)) rfl (fun _ _ => (by go_simp)) ?_
        simp only [Act.put, List.setIfInBounds_toArray, List.set_cons_zero, List.set_cons_succ]
        refine quiet_value (v := .slice ar L.length capr) rfl (fun W h => (by have u0 := cell_below h.out _ _ _ cr2; go_simp)) ?_
        simp only [Act.put, List.setIfInBounds_toArray, List.set_cons_zero, List.set_cons_succ]
        refine quiet_call (v := .bool true) rfl (fun W => (by go_simp)) (fun W h => (sameTexts_any (.slice aa L.length capa) (.slice ar L.length capr) L W (texts_up hA2.out h) (texts_up hR2.out.row h) hL.out).mono fun e w' ⟨he, hb⟩ => ⟨he, h.call hb⟩) ?_
        simp only [Act.put, List.setIfInBounds_toArray, List.set_cons_zero, List.set_cons_succ]
        refine quiet_value (v := .bool false) rfl (fun _ _ => (by go_simp)) ?_
        simp only [Act.put, List.setIfInBounds_toArray, List.set_cons_zero, List.set_cons_succ]
        refine quiet_value (v := .bool false) rfl (fun _ _ => rfl) ?_
        simp only [Act.put, List.setIfInBounds_toArray, List.set_cons_zero, List.set_cons_succ]
        refine quiet_nil ?_
        intro w3 hw3
        have hW3 := Hid.mk hw3
        clear hw3
        go_wp2
        go_loopw [17] (fun ii wr => ∃ (i : Nat) (xs : List Value), i ≤ L.length ∧ ii = .int .i64 i ∧ wr.ownsRow 0 9 1 (.slice aa L.length capa) L.length xs ∧ Hid (xs.length = L.length) ∧ Below w.heap.size w wr) (fun ii _ => L.length - (intOf ii).toNat)
        case atStart => exact ⟨0, _, Nat.zero_le _, rfl, ownsRow_up hA2.out hW3.out.out, Hid.mk (by simp), (hB1.out.trans (hB2.out.mono hB1.out.size)).trans (hW3.out.out.mono (Nat.le_trans hB1.out.size hB2.out.size))⟩
        case round =>
          obtain ⟨i, xs, hi, rfl, ho, hxl, hb⟩ := hrel
          by_cases hlt : i < L.length
          · obtain ⟨g, cg, hv, _⟩ := hA2.out.at_ (by omega)
            simp only [Value.slice.injEq, true_and] at hv
            obtain ⟨rfl, rfl⟩ := hv
            have hcl : wr.cell? ⟨g, i, none⟩ = some (xs[i]'(by rw [hxl.out]; exact hlt)) := by
              rw [ho.cellAt i (by omega)]; exact List.getElem?_eq_getElem _
            have hfr := ho.frozenAt i
            have hwi : IntKind.i64.wrap ((i : Int) + 1) = ((i + 1 : Nat) : Int) := by have := hL.out; rw [wrap_id (by omega) (by omega)]; omega
            have HO := Hid.mk ho
            have HB := Hid.mk hb
            have HL := Hid.mk hlt
            clear ho hb
            go_wp2
            go_roundw
            case rel => exact ⟨i + 1, _, HL.out, by first | rfl | go_num, (HO.out.stored i (.string ⟨#[120]⟩)).1, Hid.mk (by rw [List.length_set]; exact hxl.out), HB.out.setCell (hGle hB1.out hGa.out) _⟩
            case measure =>
              have h1 : i < L.length := HL.out
              simp [intOf]
              omega
          · go_wp2
            go_ret
            exact ⟨rfl, hb⟩
      | none =>
        rw [hps] at hF
        have hpi : posI s L = -1 := by rw [posI, hps]
        rw [hpi] at hG
        simp only [Option.getD_none, Option.isSome_none] at hF
        clear hps hpi
        go_enter Try.func11, Try.ntmps11
        go_wp2_with (first
          | (go_at_call 15; refine (hN.out _ hT.out).mono ?_; rintro e w1 ⟨rfl, hb1⟩; have hT1 := Hid.mk (hT.out.up hb1); have hR1 := Hid.mk (hR.out.up hb1); have hB1 := Hid.mk hb1; obtain ⟨cr1, _⟩ := hR1.out.cell; have hcx1 := True.intro; clear hb1)
          | (go_at_call 14; refine (hF.out _ hT1.out).mono ?_; rintro e w9 ⟨rfl, rfl⟩)
          | (go_at_call 23; refine (hG.out _ hR1.out).mono ?_; rintro e w9 ⟨rfl, rfl⟩)
          | (go_at_call 17; refine (all_any _ _ _ _ _ hT1.out).mono ?_; rintro e w2 ⟨va, rfl, hta, hga, hb2⟩; obtain ⟨aa, capa, rfl⟩ := Texts.slice hta; have hT2 := Hid.mk (hT1.out.up hb2); have hR2 := Hid.mk (hR1.out.up hb2); have hB2 := Hid.mk hb2; obtain ⟨cr2, _⟩ := hR2.out.cell; have hA2 := Hid.mk hta; have hGa := Hid.mk hga; clear hb2 hta hga))
        refine region_up (W := w2) (by kernel_rfl) (by kernel_rfl) (Up.refl _) ?_
        refine quiet_value (v := .string ⟨#[]⟩) rfl (fun _ _ => rfl) ?_
        simp only [Act.put, List.setIfInBounds_toArray, List.set_cons_zero, List.set_cons_succ]
        refine quiet_value (v := .string ⟨#[]⟩) rfl (fun _ _ => rfl) ?_
        simp only [Act.put, List.setIfInBounds_toArray, List.set_cons_zero, List.set_cons_succ]
        refine quiet_value (v := .bool false) rfl (fun _ _ => (by go_simp)) ?_
        simp only [Act.put, List.setIfInBounds_toArray, List.set_cons_zero, List.set_cons_succ]
        refine quiet_value (v := .bool false) rfl (fun _ _ => rfl) ?_
        simp only [Act.put, List.setIfInBounds_toArray, List.set_cons_zero, List.set_cons_succ]
        refine quiet_value (v := .int .i64 5) rfl (fun _ _ => rfl) ?_
        simp only [Act.put, List.setIfInBounds_toArray, List.set_cons_zero, List.set_cons_succ]
        refine quiet_value (v := .int .i64 5) rfl (fun _ _ => rfl) ?_
        simp only [Act.put, List.setIfInBounds_toArray, List.set_cons_zero, List.set_cons_succ]
        refine quiet_value (v := .bool false) rfl (fun _ _ => (by go_simp)) ?_
        simp only [Act.put, List.setIfInBounds_toArray, List.set_cons_zero, List.set_cons_succ]
        refine quiet_value (v := .bool false) rfl (fun _ _ => rfl) ?_
        simp only [Act.put, List.setIfInBounds_toArray, List.set_cons_zero, List.set_cons_succ]
        refine quiet_value (v := .bool false) rfl (fun _ _ => rfl) ?_
        simp only [Act.put, List.setIfInBounds_toArray, List.set_cons_zero, List.set_cons_succ]
        refine quiet_value (v := .bool false) rfl (fun _ _ => rfl) ?_
        simp only [Act.put, List.setIfInBounds_toArray, List.set_cons_zero, List.set_cons_succ]
        refine quiet_value (v := .int .i64 (-1)) rfl (fun _ _ => rfl) ?_
        simp only [Act.put, List.setIfInBounds_toArray, List.set_cons_zero, List.set_cons_succ]
        refine quiet_value (v := .bool false) rfl (fun _ _ => (by go_simp)) ?_
        simp only [Act.put, List.setIfInBounds_toArray, List.set_cons_zero, List.set_cons_succ]
        refine quiet_value (v := .bool false) rfl (fun _ _ => (by go_simp)) ?_
        simp only [Act.put, List.setIfInBounds_toArray, List.set_cons_zero, List.set_cons_succ]
        refine quiet_value (v := .bool false) rfl (fun _ _ => rfl) ?_
        simp only [Act.put, List.setIfInBounds_toArray, List.set_cons_zero, List.set_cons_succ]
        refine quiet_value (v := .bool false) rfl (fun _ _ => rfl) ?_
        simp only [Act.put, List.setIfInBounds_toArray, List.set_cons_zero, List.set_cons_succ]
        refine quiet_value (v := .bool false) rfl (fun _ _ => rfl) ?_
        simp only [Act.put, List.setIfInBounds_toArray, List.set_cons_zero, List.set_cons_succ]
        refine quiet_value (v := .bool false) rfl (fun _ _ => rfl) ?_
        simp only [Act.put, List.setIfInBounds_toArray, List.set_cons_zero, List.set_cons_succ]
        refine quiet_not rfl ?_
        simp only [Act.put, List.setIfInBounds_toArray, List.set_cons_zero, List.set_cons_succ]
        refine quiet_not rfl ?_
        simp only [Act.put, List.setIfInBounds_toArray, List.set_cons_zero, List.set_cons_succ]
        refine quiet_not rfl ?_
        simp only [Act.put, List.setIfInBounds_toArray, List.set_cons_zero, List.set_cons_succ]
        refine quiet_value (v := .bool false) rfl (fun _ _ => rfl) ?_
        simp only [Act.put, List.setIfInBounds_toArray, List.set_cons_zero, List.set_cons_succ]
        refine quiet_value (v := .bool false) rfl (fun _ _ => rfl) ?_
        simp only [Act.put, List.setIfInBounds_toArray, List.set_cons_zero, List.set_cons_succ]
        refine quiet_value (v := .bool false) rfl (fun _ _ => rfl) ?_
        simp only [Act.put, List.setIfInBounds_toArray, List.set_cons_zero, List.set_cons_succ]
        refine quiet_value (v := .bool false) rfl (fun _ _ => rfl) ?_
        simp only [Act.put, List.setIfInBounds_toArray, List.set_cons_zero, List.set_cons_succ]
        refine quiet_value (v := .bool true) rfl (fun _ _ => (by go_simp)) ?_
        simp only [Act.put, List.setIfInBounds_toArray, List.set_cons_zero, List.set_cons_succ]
        refine quiet_value (v := .bool true) rfl (fun _ _ => rfl) ?_
        simp only [Act.put, List.setIfInBounds_toArray, List.set_cons_zero, List.set_cons_succ]
        refine quiet_value (v := .int .i64 0) rfl (fun _ _ => rfl) ?_
        simp only [Act.put, List.setIfInBounds_toArray, List.set_cons_zero, List.set_cons_succ]
        refine quiet_value (v := .bool false) rfl (fun _ _ => (by go_simp)) ?_
        simp only [Act.put, List.setIfInBounds_toArray, List.set_cons_zero, List.set_cons_succ]
        refine quiet_value (v := .bool false) rfl (fun _ _ => rfl) ?_
        simp only [Act.put, List.setIfInBounds_toArray, List.set_cons_zero, List.set_cons_succ]
        refine quiet_value (v := .bool false) rfl (fun _ _ => rfl) ?_
        simp only [Act.put, List.setIfInBounds_toArray, List.set_cons_zero, List.set_cons_succ]
        refine quiet_value (v := .bool false) rfl (fun _ _ => rfl) ?_
        simp only [Act.put, List.setIfInBounds_toArray, List.set_cons_zero, List.set_cons_succ]
        refine quiet_value (v := .pointer (some ⟨p, 0, none⟩)) rfl (fun _ _ => rfl) ?_
        simp only [Act.put, List.setIfInBounds_toArray, List.set_cons_zero, List.set_cons_succ]
        refine quiet_call (v := .int .i64 L.length) rfl (fun W => (by go_simp)) (fun W h => (len_up p bm v L W (hT2.out.up h)).mono fun e w' ⟨he, hb⟩ => ⟨he, h.call hb⟩) ?_
        simp only [Act.put, List.setIfInBounds_toArray, List.set_cons_zero, List.set_cons_succ]
        refine quiet_value (v := .pointer (some ⟨q, 0, none⟩)) rfl (fun _ _ => rfl) ?_
        simp only [Act.put, List.setIfInBounds_toArray, List.set_cons_zero, List.set_cons_succ]
        refine quiet_value (v := .pointer (some ⟨q, 0, none⟩)) rfl (fun _ _ => (by go_simp)) ?_
        simp only [Act.put, List.setIfInBounds_toArray, List.set_cons_zero, List.set_cons_succ]
        refine quiet_value (v := .pointer (some ⟨q, 0, none⟩)) rfl (fun _ _ => (by go_simp)) ?_
        simp only [Act.put, List.setIfInBounds_toArray, List.set_cons_zero, List.set_cons_succ]
        refine quiet_value (v := .slice ar L.length capr) rfl (fun W h => (by have u0 := cell_below h.out _ _ _ cr2; go_simp)) ?_
        simp only [Act.put, List.setIfInBounds_toArray, List.set_cons_zero, List.set_cons_succ]
        refine quiet_value (v := .int .i64 L.length) rfl (fun _ _ => (by go_simp)) ?_
        simp only [Act.put, List.setIfInBounds_toArray, List.set_cons_zero, List.set_cons_succ]
        refine quiet_value (v := .bool false) rfl (fun _ _ => (by go_simp)) ?_
        simp only [Act.put, List.setIfInBounds_toArray, List.set_cons_zero, List.set_cons_succ]
        refine quiet_value (v := .bool false) rfl (fun _ _ => rfl) ?_
        simp only [Act.put, List.setIfInBounds_toArray, List.set_cons_zero, List.set_cons_succ]
        refine quiet_value (v := .bool false) rfl (fun _ _ => rfl) ?_
        simp only [Act.put, List.setIfInBounds_toArray, List.set_cons_zero, List.set_cons_succ]
        refine quiet_value (v := .slice aa L.length capa) rfl (fun _ _ => rfl) ?_
        simp only [Act.put, List.setIfInBounds_toArray, List.set_cons_zero, List.set_cons_succ]
        refine quiet_value (v := .pointer (some ⟨q, 0, none⟩)) rfl (fun _ _ => rfl) ?_
        simp only [Act.put, List.setIfInBounds_toArray, List.set_cons_zero, List.set_cons_succ]
        refine quiet_value (v := .pointer (some ⟨q, 0, none⟩)) rfl (fun _ _ => (by go_simp)) ?_
        simp only [Act.put, List.setIfInBounds_toArray, List.set_cons_zero, List.set_cons_succ]
        refine quiet_value (v := .pointer (some ⟨q, 0, none⟩)) rfl (fun _ _ => (by go_simp)) ?_
        simp only [Act.put, List.setIfInBounds_toArray, List.set_cons_zero, List.set_cons_succ]
        refine quiet_value (v := .slice ar L.length capr) rfl (fun W h => (by have u0 := cell_below h.out _ _ _ cr2; go_simp)) ?_
        simp only [Act.put, List.setIfInBounds_toArray, List.set_cons_zero, List.set_cons_succ]
        refine quiet_call (v := .bool true) rfl (fun W => (by go_simp)) (fun W h => (sameTexts_any (.slice aa L.length capa) (.slice ar L.length capr) L W (texts_up hA2.out h) (texts_up hR2.out.row h) hL.out).mono fun e w' ⟨he, hb⟩ => ⟨he, h.call hb⟩) ?_
        simp only [Act.put, List.setIfInBounds_toArray, List.set_cons_zero, List.set_cons_succ]
        refine quiet_value (v := .bool false) rfl (fun _ _ => (by go_simp)) ?_
        simp only [Act.put, List.setIfInBounds_toArray, List.set_cons_zero, List.set_cons_succ]
        refine quiet_value (v := .bool false) rfl (fun _ _ => rfl) ?_
        simp only [Act.put, List.setIfInBounds_toArray, List.set_cons_zero, List.set_cons_succ]
        refine quiet_nil ?_
        intro w3 hw3
        have hW3 := Hid.mk hw3
        clear hw3
        go_wp2
        go_loopw [17] (fun ii wr => ∃ (i : Nat) (xs : List Value), i ≤ L.length ∧ ii = .int .i64 i ∧ wr.ownsRow 0 9 1 (.slice aa L.length capa) L.length xs ∧ Hid (xs.length = L.length) ∧ Below w.heap.size w wr) (fun ii _ => L.length - (intOf ii).toNat)
        case atStart => exact ⟨0, _, Nat.zero_le _, rfl, ownsRow_up hA2.out hW3.out.out, Hid.mk (by simp), (hB1.out.trans (hB2.out.mono hB1.out.size)).trans (hW3.out.out.mono (Nat.le_trans hB1.out.size hB2.out.size))⟩
        case round =>
          obtain ⟨i, xs, hi, rfl, ho, hxl, hb⟩ := hrel
          by_cases hlt : i < L.length
          · obtain ⟨g, cg, hv, _⟩ := hA2.out.at_ (by omega)
            simp only [Value.slice.injEq, true_and] at hv
            obtain ⟨rfl, rfl⟩ := hv
            have hcl : wr.cell? ⟨g, i, none⟩ = some (xs[i]'(by rw [hxl.out]; exact hlt)) := by
              rw [ho.cellAt i (by omega)]; exact List.getElem?_eq_getElem _
            have hfr := ho.frozenAt i
            have hwi : IntKind.i64.wrap ((i : Int) + 1) = ((i + 1 : Nat) : Int) := by have := hL.out; rw [wrap_id (by omega) (by omega)]; omega
            have HO := Hid.mk ho
            have HB := Hid.mk hb
            have HL := Hid.mk hlt
            clear ho hb
            go_wp2
            go_roundw
            case rel => exact ⟨i + 1, _, HL.out, by first | rfl | go_num, (HO.out.stored i (.string ⟨#[120]⟩)).1, Hid.mk (by rw [List.length_set]; exact hxl.out), HB.out.setCell (hGle hB1.out hGa.out) _⟩
            case measure =>
              have h1 : i < L.length := HL.out
              simp [intOf]
              omega
          · go_wp2
            go_ret
            exact ⟨rfl, hb⟩
    · have h1 : (L.length : Int) ≤ n := by omega
      clear hn hs
      cases hps : pos s L with
      | some k =>
        rw [hps] at hF
        have hpi : posI s L = k := by rw [posI, hps]
        rw [hpi] at hG
        simp only [Option.getD_some, Option.isSome_some] at hF
        clear hps hpi
        go_enter Try.func11, Try.ntmps11
        go_wp2_with (first
          | (go_at_call 15; refine (hN.out _ hT.out).mono ?_; rintro e w1 ⟨rfl, hb1⟩; have hT1 := Hid.mk (hT.out.up hb1); have hR1 := Hid.mk (hR.out.up hb1); have hB1 := Hid.mk hb1; obtain ⟨cr1, _⟩ := hR1.out.cell; have hcx1 := True.intro; clear hb1)
          | (go_at_call 14; refine (hF.out _ hT1.out).mono ?_; rintro e w9 ⟨rfl, rfl⟩)
          | (go_at_call 23; refine (hG.out _ hR1.out).mono ?_; rintro e w9 ⟨rfl, rfl⟩)
          | (go_at_call 17; refine (all_any _ _ _ _ _ hT1.out).mono ?_; rintro e w2 ⟨va, rfl, hta, hga, hb2⟩; obtain ⟨aa, capa, rfl⟩ := Texts.slice hta; have hT2 := Hid.mk (hT1.out.up hb2); have hR2 := Hid.mk (hR1.out.up hb2); have hB2 := Hid.mk hb2; obtain ⟨cr2, _⟩ := hR2.out.cell; have hA2 := Hid.mk hta; have hGa := Hid.mk hga; clear hb2 hta hga))
        refine region_up (W := w2) (by kernel_rfl) (by kernel_rfl) (Up.refl _) ?_
        refine quiet_value (v := .string ⟨#[]⟩) rfl (fun _ _ => rfl) ?_
        simp only [Act.put, List.setIfInBounds_toArray, List.set_cons_zero, List.set_cons_succ]
        refine quiet_value (v := .string ⟨#[]⟩) rfl (fun _ _ => rfl) ?_
        simp only [Act.put, List.setIfInBounds_toArray, List.set_cons_zero, List.set_cons_succ]
        refine quiet_value (v := .bool false) rfl (fun _ _ => (by go_simp)) ?_
        simp only [Act.put, List.setIfInBounds_toArray, List.set_cons_zero, List.set_cons_succ]
        refine quiet_value (v := .bool false) rfl (fun _ _ => rfl) ?_
        simp only [Act.put, List.setIfInBounds_toArray, List.set_cons_zero, List.set_cons_succ]
        refine quiet_value (v := .int .i64 5) rfl (fun _ _ => rfl) ?_
        simp only [Act.put, List.setIfInBounds_toArray, List.set_cons_zero, List.set_cons_succ]
        refine quiet_value (v := .int .i64 5) rfl (fun _ _ => rfl) ?_
        simp only [Act.put, List.setIfInBounds_toArray, List.set_cons_zero, List.set_cons_succ]
        refine quiet_value (v := .bool false) rfl (fun _ _ => (by go_simp)) ?_
        simp only [Act.put, List.setIfInBounds_toArray, List.set_cons_zero, List.set_cons_succ]
        refine quiet_value (v := .bool false) rfl (fun _ _ => rfl) ?_
        simp only [Act.put, List.setIfInBounds_toArray, List.set_cons_zero, List.set_cons_succ]
        refine quiet_value (v := .bool false) rfl (fun _ _ => rfl) ?_
        simp only [Act.put, List.setIfInBounds_toArray, List.set_cons_zero, List.set_cons_succ]
        refine quiet_value (v := .bool true) rfl (fun _ _ => rfl) ?_
        simp only [Act.put, List.setIfInBounds_toArray, List.set_cons_zero, List.set_cons_succ]
        refine quiet_value (v := .int .i64 (k : Nat)) rfl (fun _ _ => rfl) ?_
        simp only [Act.put, List.setIfInBounds_toArray, List.set_cons_zero, List.set_cons_succ]
        refine quiet_value (v := .bool true) rfl (fun _ _ => (by go_simp)) ?_
        simp only [Act.put, List.setIfInBounds_toArray, List.set_cons_zero, List.set_cons_succ]
        refine quiet_value (v := .bool false) rfl (fun _ _ => (by go_simp)) ?_
        simp only [Act.put, List.setIfInBounds_toArray, List.set_cons_zero, List.set_cons_succ]
        refine quiet_value (v := .bool false) rfl (fun _ _ => rfl) ?_
        simp only [Act.put, List.setIfInBounds_toArray, List.set_cons_zero, List.set_cons_succ]
        refine quiet_value (v := .bool false) rfl (fun _ _ => rfl) ?_
        simp only [Act.put, List.setIfInBounds_toArray, List.set_cons_zero, List.set_cons_succ]
        refine quiet_value (v := .bool true) rfl (fun _ _ => rfl) ?_
        simp only [Act.put, List.setIfInBounds_toArray, List.set_cons_zero, List.set_cons_succ]
        refine quiet_value (v := .bool true) rfl (fun _ _ => rfl) ?_
        simp only [Act.put, List.setIfInBounds_toArray, List.set_cons_zero, List.set_cons_succ]
        refine quiet_value (v := .int .i64 (k : Nat)) rfl (fun _ _ => rfl) ?_
        simp only [Act.put, List.setIfInBounds_toArray, List.set_cons_zero, List.set_cons_succ]
        refine quiet_value (v := .int .i64 (k : Nat)) rfl (fun _ _ => rfl) ?_
        simp only [Act.put, List.setIfInBounds_toArray, List.set_cons_zero, List.set_cons_succ]
        refine quiet_value (v := .bool false) rfl (fun _ _ => (by go_simp)) ?_
        simp only [Act.put, List.setIfInBounds_toArray, List.set_cons_zero, List.set_cons_succ]
        refine quiet_value (v := .bool false) rfl (fun _ _ => rfl) ?_
        simp only [Act.put, List.setIfInBounds_toArray, List.set_cons_zero, List.set_cons_succ]
        refine quiet_value (v := .bool false) rfl (fun _ _ => rfl) ?_
        simp only [Act.put, List.setIfInBounds_toArray, List.set_cons_zero, List.set_cons_succ]
        refine quiet_value (v := .bool false) rfl (fun _ _ => rfl) ?_
        simp only [Act.put, List.setIfInBounds_toArray, List.set_cons_zero, List.set_cons_succ]
        refine quiet_value (v := .bool true) rfl (fun _ _ => rfl) ?_
        simp only [Act.put, List.setIfInBounds_toArray, List.set_cons_zero, List.set_cons_succ]
        refine quiet_value (v := .bool false) rfl (fun _ _ => (by go_simp)) ?_
        simp only [Act.put, List.setIfInBounds_toArray, List.set_cons_zero, List.set_cons_succ]
        refine quiet_value (v := .bool false) rfl (fun _ _ => rfl) ?_
        simp only [Act.put, List.setIfInBounds_toArray, List.set_cons_zero, List.set_cons_succ]
        refine quiet_not rfl ?_
        simp only [Act.put, List.setIfInBounds_toArray, List.set_cons_zero, List.set_cons_succ]
        refine quiet_not rfl ?_
        simp only [Act.put, List.setIfInBounds_toArray, List.set_cons_zero, List.set_cons_succ]
        refine quiet_value (v := .bool false) rfl (fun _ _ => rfl) ?_
        simp only [Act.put, List.setIfInBounds_toArray, List.set_cons_zero, List.set_cons_succ]
        refine quiet_value (v := .bool false) rfl (fun _ _ => rfl) ?_
        simp only [Act.put, List.setIfInBounds_toArray, List.set_cons_zero, List.set_cons_succ]
        refine quiet_value (v := .bool false) rfl (fun _ _ => rfl) ?_
        simp only [Act.put, List.setIfInBounds_toArray, List.set_cons_zero, List.set_cons_succ]
        refine quiet_value (v := .pointer (some ⟨p, 0, none⟩)) rfl (fun _ _ => rfl) ?_
        simp only [Act.put, List.setIfInBounds_toArray, List.set_cons_zero, List.set_cons_succ]
        refine quiet_call (v := .int .i64 L.length) rfl (fun W => (by go_simp)) (fun W h => (len_up p bm v L W (hT2.out.up h)).mono fun e w' ⟨he, hb⟩ => ⟨he, h.call hb⟩) ?_
        simp only [Act.put, List.setIfInBounds_toArray, List.set_cons_zero, List.set_cons_succ]
        refine quiet_value (v := .pointer (some ⟨q, 0, none⟩)) rfl (fun _ _ => rfl) ?_
        simp only [Act.put, List.setIfInBounds_toArray, List.set_cons_zero, List.set_cons_succ]
        refine quiet_value (v := .pointer (some ⟨q, 0, none⟩)) rfl (fun _ _ => (by go_simp)) ?_
        simp only [Act.put, List.setIfInBounds_toArray, List.set_cons_zero, List.set_cons_succ]
        refine quiet_value (v := .pointer (some ⟨q, 0, none⟩)) rfl (fun _ _ => (by go_simp)) ?_
        simp only [Act.put, List.setIfInBounds_toArray, List.set_cons_zero, List.set_cons_succ]
        refine quiet_value (v := .slice ar L.length capr) rfl (fun W h => (by have u0 := cell_below h.out _ _ _ cr2; go_simp)) ?_
        simp only [Act.put, List.setIfInBounds_toArray, List.set_cons_zero, List.set_cons_succ]
        refine quiet_value (v := .int .i64 L.length) rfl (fun _ _ => (by go_simp)) ?_
        simp only [Act.put, List.setIfInBounds_toArray, List.set_cons_zero, List.set_cons_succ]
        refine quiet_value (v := .bool false) rfl (fun _ _ => (by go_simp)) ?_
        simp only [Act.put, List.setIfInBounds_toArray, List.set_cons_zero, List.set_cons_succ]
        refine quiet_value (v := .bool false) rfl (fun _ _ => rfl) ?_
        simp only [Act.put, List.setIfInBounds_toArray, List.set_cons_zero, List.set_cons_succ]
        refine quiet_value (v := .bool false) rfl (fun _ _ => rfl) ?_
        simp only [Act.put, List.setIfInBounds_toArray, List.set_cons_zero, List.set_cons_succ]
        refine quiet_value (v := .slice aa L.length capa) rfl (fun _ _ => rfl) ?_
        simp only [Act.put, List.setIfInBounds_toArray, List.set_cons_zero, List.set_cons_succ]
        refine quiet_value (v := .pointer (some ⟨q, 0, none⟩)) rfl (fun _ _ => rfl) ?_
        simp only [Act.put, List.setIfInBounds_toArray, List.set_cons_zero, List.set_cons_succ]
        refine quiet_value (v := .pointer (some ⟨q, 0, none⟩)) rfl (fun _ _ => (by go_simp)) ?_
        simp only [Act.put, List.setIfInBounds_toArray, List.set_cons_zero, List.set_cons_succ]
        refine quiet_value (v := .pointer (some ⟨q, 0, none⟩)) rfl (fun _ _ => (by go_simp)) ?_
        simp only [Act.put, List.setIfInBounds_toArray, List.set_cons_zero, List.set_cons_succ]
        refine quiet_value (v := .slice ar L.length capr) rfl (fun W h => (by have u0 := cell_below h.out _ _ _ cr2; go_simp)) ?_
        simp only [Act.put, List.setIfInBounds_toArray, List.set_cons_zero, List.set_cons_succ]
        refine quiet_call (v := .bool true) rfl (fun W => (by go_simp)) (fun W h => (sameTexts_any (.slice aa L.length capa) (.slice ar L.length capr) L W (texts_up hA2.out h) (texts_up hR2.out.row h) hL.out).mono fun e w' ⟨he, hb⟩ => ⟨he, h.call hb⟩) ?_
        simp only [Act.put, List.setIfInBounds_toArray, List.set_cons_zero, List.set_cons_succ]
        refine quiet_value (v := .bool false) rfl (fun _ _ => (by go_simp)) ?_
        simp only [Act.put, List.setIfInBounds_toArray, List.set_cons_zero, List.set_cons_succ]
        refine quiet_value (v := .bool false) rfl (fun _ _ => rfl) ?_
        simp only [Act.put, List.setIfInBounds_toArray, List.set_cons_zero, List.set_cons_succ]
        refine quiet_nil ?_
        intro w3 hw3
        have hW3 := Hid.mk hw3
        clear hw3
        go_wp2
        go_loopw [17] (fun ii wr => ∃ (i : Nat) (xs : List Value), i ≤ L.length ∧ ii = .int .i64 i ∧ wr.ownsRow 0 9 1 (.slice aa L.length capa) L.length xs ∧ Hid (xs.length = L.length) ∧ Below w.heap.size w wr) (fun ii _ => L.length - (intOf ii).toNat)
        case atStart => exact ⟨0, _, Nat.zero_le _, rfl, ownsRow_up hA2.out hW3.out.out, Hid.mk (by simp), (hB1.out.trans (hB2.out.mono hB1.out.size)).trans (hW3.out.out.mono (Nat.le_trans hB1.out.size hB2.out.size))⟩
        case round =>
          obtain ⟨i, xs, hi, rfl, ho, hxl, hb⟩ := hrel
          by_cases hlt : i < L.length
          · obtain ⟨g, cg, hv, _⟩ := hA2.out.at_ (by omega)
            simp only [Value.slice.injEq, true_and] at hv
            obtain ⟨rfl, rfl⟩ := hv
            have hcl : wr.cell? ⟨g, i, none⟩ = some (xs[i]'(by rw [hxl.out]; exact hlt)) := by
              rw [ho.cellAt i (by omega)]; exact List.getElem?_eq_getElem _
            have hfr := ho.frozenAt i
            have hwi : IntKind.i64.wrap ((i : Int) + 1) = ((i + 1 : Nat) : Int) := by have := hL.out; rw [wrap_id (by omega) (by omega)]; omega
            have HO := Hid.mk ho
            have HB := Hid.mk hb
            have HL := Hid.mk hlt
            clear ho hb
            go_wp2
            go_roundw
            case rel => exact ⟨i + 1, _, HL.out, by first | rfl | go_num, (HO.out.stored i (.string ⟨#[120]⟩)).1, Hid.mk (by rw [List.length_set]; exact hxl.out), HB.out.setCell (hGle hB1.out hGa.out) _⟩
            case measure =>
              have h1 : i < L.length := HL.out
              simp [intOf]
              omega
          · go_wp2
            go_ret
            exact ⟨rfl, hb⟩
      | none =>
        rw [hps] at hF
        have hpi : posI s L = -1 := by rw [posI, hps]
        rw [hpi] at hG
        simp only [Option.getD_none, Option.isSome_none] at hF
        clear hps hpi
        go_enter Try.func11, Try.ntmps11
        go_wp2_with (first
          | (go_at_call 15; refine (hN.out _ hT.out).mono ?_; rintro e w1 ⟨rfl, hb1⟩; have hT1 := Hid.mk (hT.out.up hb1); have hR1 := Hid.mk (hR.out.up hb1); have hB1 := Hid.mk hb1; obtain ⟨cr1, _⟩ := hR1.out.cell; have hcx1 := True.intro; clear hb1)
          | (go_at_call 14; refine (hF.out _ hT1.out).mono ?_; rintro e w9 ⟨rfl, rfl⟩)
          | (go_at_call 23; refine (hG.out _ hR1.out).mono ?_; rintro e w9 ⟨rfl, rfl⟩)
          | (go_at_call 17; refine (all_any _ _ _ _ _ hT1.out).mono ?_; rintro e w2 ⟨va, rfl, hta, hga, hb2⟩; obtain ⟨aa, capa, rfl⟩ := Texts.slice hta; have hT2 := Hid.mk (hT1.out.up hb2); have hR2 := Hid.mk (hR1.out.up hb2); have hB2 := Hid.mk hb2; obtain ⟨cr2, _⟩ := hR2.out.cell; have hA2 := Hid.mk hta; have hGa := Hid.mk hga; clear hb2 hta hga))
        refine region_up (W := w2) (by kernel_rfl) (by kernel_rfl) (Up.refl _) ?_
        refine quiet_value (v := .string ⟨#[]⟩) rfl (fun _ _ => rfl) ?_
        simp only [Act.put, List.setIfInBounds_toArray, List.set_cons_zero, List.set_cons_succ]
        refine quiet_value (v := .string ⟨#[]⟩) rfl (fun _ _ => rfl) ?_
        simp only [Act.put, List.setIfInBounds_toArray, List.set_cons_zero, List.set_cons_succ]
        refine quiet_value (v := .bool false) rfl (fun _ _ => (by go_simp)) ?_
        simp only [Act.put, List.setIfInBounds_toArray, List.set_cons_zero, List.set_cons_succ]
        refine quiet_value (v := .bool false) rfl (fun _ _ => rfl) ?_
        simp only [Act.put, List.setIfInBounds_toArray, List.set_cons_zero, List.set_cons_succ]
        refine quiet_value (v := .int .i64 5) rfl (fun _ _ => rfl) ?_
        simp only [Act.put, List.setIfInBounds_toArray, List.set_cons_zero, List.set_cons_succ]
        refine quiet_value (v := .int .i64 5) rfl (fun _ _ => rfl) ?_
        simp only [Act.put, List.setIfInBounds_toArray, List.set_cons_zero, List.set_cons_succ]
        refine quiet_value (v := .bool false) rfl (fun _ _ => (by go_simp)) ?_
        simp only [Act.put, List.setIfInBounds_toArray, List.set_cons_zero, List.set_cons_succ]
        refine quiet_value (v := .bool false) rfl (fun _ _ => rfl) ?_
        simp only [Act.put, List.setIfInBounds_toArray, List.set_cons_zero, List.set_cons_succ]
        refine quiet_value (v := .bool false) rfl (fun _ _ => rfl) ?_
        simp only [Act.put, List.setIfInBounds_toArray, List.set_cons_zero, List.set_cons_succ]
        refine quiet_value (v := .bool false) rfl (fun _ _ => rfl) ?_
        simp only [Act.put, List.setIfInBounds_toArray, List.set_cons_zero, List.set_cons_succ]
        refine quiet_value (v := .int .i64 (-1)) rfl (fun _ _ => rfl) ?_
        simp only [Act.put, List.setIfInBounds_toArray, List.set_cons_zero, List.set_cons_succ]
        refine quiet_value (v := .bool false) rfl (fun _ _ => (by go_simp)) ?_
        simp only [Act.put, List.setIfInBounds_toArray, List.set_cons_zero, List.set_cons_succ]
        refine quiet_value (v := .bool false) rfl (fun _ _ => (by go_simp)) ?_
        simp only [Act.put, List.setIfInBounds_toArray, List.set_cons_zero, List.set_cons_succ]
        refine quiet_value (v := .bool false) rfl (fun _ _ => rfl) ?_
        simp only [Act.put, List.setIfInBounds_toArray, List.set_cons_zero, List.set_cons_succ]
        refine quiet_value (v := .bool false) rfl (fun _ _ => rfl) ?_
        simp only [Act.put, List.setIfInBounds_toArray, List.set_cons_zero, List.set_cons_succ]
        refine quiet_value (v := .bool false) rfl (fun _ _ => rfl) ?_
        simp only [Act.put, List.setIfInBounds_toArray, List.set_cons_zero, List.set_cons_succ]
        refine quiet_value (v := .bool false) rfl (fun _ _ => rfl) ?_
        simp only [Act.put, List.setIfInBounds_toArray, List.set_cons_zero, List.set_cons_succ]
        refine quiet_not rfl ?_
        simp only [Act.put, List.setIfInBounds_toArray, List.set_cons_zero, List.set_cons_succ]
        refine quiet_not rfl ?_
        simp only [Act.put, List.setIfInBounds_toArray, List.set_cons_zero, List.set_cons_succ]
        refine quiet_not rfl ?_
        simp only [Act.put, List.setIfInBounds_toArray, List.set_cons_zero, List.set_cons_succ]
        refine quiet_value (v := .bool false) rfl (fun _ _ => rfl) ?_
        simp only [Act.put, List.setIfInBounds_toArray, List.set_cons_zero, List.set_cons_succ]
        refine quiet_value (v := .bool false) rfl (fun _ _ => rfl) ?_
        simp only [Act.put, List.setIfInBounds_toArray, List.set_cons_zero, List.set_cons_succ]
        refine quiet_value (v := .bool false) rfl (fun _ _ => rfl) ?_
        simp only [Act.put, List.setIfInBounds_toArray, List.set_cons_zero, List.set_cons_succ]
        refine quiet_value (v := .bool false) rfl (fun _ _ => rfl) ?_
        simp only [Act.put, List.setIfInBounds_toArray, List.set_cons_zero, List.set_cons_succ]
        refine quiet_value (v := .bool true) rfl (fun _ _ => (by go_simp)) ?_
        simp only [Act.put, List.setIfInBounds_toArray, List.set_cons_zero, List.set_cons_succ]
        refine quiet_value (v := .bool true) rfl (fun _ _ => rfl) ?_
        simp only [Act.put, List.setIfInBounds_toArray, List.set_cons_zero, List.set_cons_succ]
        refine quiet_value (v := .int .i64 0) rfl (fun _ _ => rfl) ?_
        simp only [Act.put, List.setIfInBounds_toArray, List.set_cons_zero, List.set_cons_succ]
        refine quiet_value (v := .bool false) rfl (fun _ _ => (by go_simp)) ?_
        simp only [Act.put, List.setIfInBounds_toArray, List.set_cons_zero, List.set_cons_succ]
        refine quiet_value (v := .bool false) rfl (fun _ _ => rfl) ?_
        simp only [Act.put, List.setIfInBounds_toArray, List.set_cons_zero, List.set_cons_succ]
        refine quiet_value (v := .bool false) rfl (fun _ _ => rfl) ?_
        simp only [Act.put, List.setIfInBounds_toArray, List.set_cons_zero, List.set_cons_succ]
        refine quiet_value (v := .bool false) rfl (fun _ _ => rfl) ?_
        simp only [Act.put, List.setIfInBounds_toArray, List.set_cons_zero, List.set_cons_succ]
        refine quiet_value (v := .pointer (some ⟨p, 0, none⟩)) rfl (fun _ _ => rfl) ?_
        simp only [Act.put, List.setIfInBounds_toArray, List.set_cons_zero, List.set_cons_succ]
        refine quiet_call (v := .int .i64 L.length) rfl (fun W => (by go_simp)) (fun W h => (len_up p bm v L W (hT2.out.up h)).mono fun e w' ⟨he, hb⟩ => ⟨he, h.call hb⟩) ?_
        simp only [Act.put, List.setIfInBounds_toArray, List.set_cons_zero, List.set_cons_succ]
        refine quiet_value (v := .pointer (some ⟨q, 0, none⟩)) rfl (fun _ _ => rfl) ?_
        simp only [Act.put, List.setIfInBounds_toArray, List.set_cons_zero, List.set_cons_succ]
        refine quiet_value (v := .pointer (some ⟨q, 0, none⟩)) rfl (fun _ _ => (by go_simp)) ?_
        simp only [Act.put, List.setIfInBounds_toArray, List.set_cons_zero, List.set_cons_succ]
        refine quiet_value (v := .pointer (some ⟨q, 0, none⟩)) rfl (fun _ _ => (by go_simp)) ?_
        simp only [Act.put, List.setIfInBounds_toArray, List.set_cons_zero, List.set_cons_succ]
        refine quiet_value (v := .slice ar L.length capr) rfl (fun W h => (by have u0 := cell_below h.out _ _ _ cr2; go_simp)) ?_
        simp only [Act.put, List.setIfInBounds_toArray, List.set_cons_zero, List.set_cons_succ]
        refine quiet_value (v := .int .i64 L.length) rfl (fun _ _ => (by go_simp)) ?_
        simp only [Act.put, List.setIfInBounds_toArray, List.set_cons_zero, List.set_cons_succ]
        refine quiet_value (v := .bool false) rfl (fun _ _ => (by go_simp)) ?_
        simp only [Act.put, List.setIfInBounds_toArray, List.set_cons_zero, List.set_cons_succ]
        refine quiet_value (v := .bool false) rfl (fun _ _ => rfl) ?_
        simp only [Act.put, List.setIfInBounds_toArray, List.set_cons_zero, List.set_cons_succ]
        refine quiet_value (v := .bool false) rfl (fun _ _ => rfl) ?_
        simp only [Act.put, List.setIfInBounds_toArray, List.set_cons_zero, List.set_cons_succ]
        refine quiet_value (v := .slice aa L.length capa) rfl (fun _ _ => rfl) ?_
        simp only [Act.put, List.setIfInBounds_toArray, List.set_cons_zero, List.set_cons_succ]
        refine quiet_value (v := .pointer (some ⟨q, 0, none⟩)) rfl (fun _ _ => rfl) ?_
        simp only [Act.put, List.setIfInBounds_toArray, List.set_cons_zero, List.set_cons_succ]
        refine quiet_value (v := .pointer (some ⟨q, 0, none⟩)) rfl (fun _ _ => (by go_simp)) ?_
        simp only [Act.put, List.setIfInBounds_toArray, List.set_cons_zero, List.set_cons_succ]
        refine quiet_value (v := .pointer (some ⟨q, 0, none⟩)) rfl (fun _ _ => (by go_simp)) ?_
        simp only [Act.put, List.setIfInBounds_toArray, List.set_cons_zero, List.set_cons_succ]
        refine quiet_value (v := .slice ar L.length capr) rfl (fun W h => (by have u0 := cell_below h.out _ _ _ cr2; go_simp)) ?_
        simp only [Act.put, List.setIfInBounds_toArray, List.set_cons_zero, List.set_cons_succ]
        refine quiet_call (v := .bool true) rfl (fun W => (by go_simp)) (fun W h => (sameTexts_any (.slice aa L.length capa) (.slice ar L.length capr) L W (texts_up hA2.out h) (texts_up hR2.out.row h) hL.out).mono fun e w' ⟨he, hb⟩ => ⟨he, h.call hb⟩) ?_
        simp only [Act.put, List.setIfInBounds_toArray, List.set_cons_zero, List.set_cons_succ]
        refine quiet_value (v := .bool false) rfl (fun _ _ => (by go_simp)) ?_
        simp only [Act.put, List.setIfInBounds_toArray, List.set_cons_zero, List.set_cons_succ]
        refine quiet_value (v := .bool false) rfl (fun _ _ => rfl) ?_
        simp only [Act.put, List.setIfInBounds_toArray, List.set_cons_zero, List.set_cons_succ]
        refine quiet_nil ?_
        intro w3 hw3
        have hW3 := Hid.mk hw3
        clear hw3
        go_wp2
        go_loopw [17] (fun ii wr => ∃ (i : Nat) (xs : List Value), i ≤ L.length ∧ ii = .int .i64 i ∧ wr.ownsRow 0 9 1 (.slice aa L.length capa) L.length xs ∧ Hid (xs.length = L.length) ∧ Below w.heap.size w wr) (fun ii _ => L.length - (intOf ii).toNat)
        case atStart => exact ⟨0, _, Nat.zero_le _, rfl, ownsRow_up hA2.out hW3.out.out, Hid.mk (by simp), (hB1.out.trans (hB2.out.mono hB1.out.size)).trans (hW3.out.out.mono (Nat.le_trans hB1.out.size hB2.out.size))⟩
        case round =>
          obtain ⟨i, xs, hi, rfl, ho, hxl, hb⟩ := hrel
          by_cases hlt : i < L.length
          · obtain ⟨g, cg, hv, _⟩ := hA2.out.at_ (by omega)
            simp only [Value.slice.injEq, true_and] at hv
            obtain ⟨rfl, rfl⟩ := hv
            have hcl : wr.cell? ⟨g, i, none⟩ = some (xs[i]'(by rw [hxl.out]; exact hlt)) := by
              rw [ho.cellAt i (by omega)]; exact List.getElem?_eq_getElem _
            have hfr := ho.frozenAt i
            have hwi : IntKind.i64.wrap ((i : Int) + 1) = ((i + 1 : Nat) : Int) := by have := hL.out; rw [wrap_id (by omega) (by omega)]; omega
            have HO := Hid.mk ho
            have HB := Hid.mk hb
            have HL := Hid.mk hlt
            clear ho hb
            go_wp2
            go_roundw
            case rel => exact ⟨i + 1, _, HL.out, by first | rfl | go_num, (HO.out.stored i (.string ⟨#[120]⟩)).1, Hid.mk (by rw [List.length_set]; exact hxl.out), HB.out.setCell (hGle hB1.out hGa.out) _⟩
            case measure =>
              have h1 : i < L.length := HL.out
              simp [intOf]
              omega
          · go_wp2
            go_ret
            exact ⟨rfl, hb⟩

end Go.Proofs.Ytjmjifjmenmdgaa
