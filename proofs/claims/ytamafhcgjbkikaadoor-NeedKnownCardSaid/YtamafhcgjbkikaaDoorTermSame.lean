/-
  Whether two terms are the same, field by field.
-/
import Derived.Test.YtamafhcgjbkikaaDoorTermReads
import Derived.Deep.RegionWith
namespace Go.Proofs.YtamafhcgjbkikaaDoor
open Go.RowKit Go.Deep

theorem bytes_toList {a b : ByteArray} (h : a.toList = b.toList) : a = b := by
  rw [ByteArray.toList_eq, ByteArray.toList_eq] at h
  exact WideShapes.bytes_inj h

/-- Are two terms the same? -/
noncomputable def eqB (a b : Tm) : Bool := @decide (a = b) (Classical.propDecidable _)
noncomputable def eqL (a b : List Tm) : Bool := @decide (a = b) (Classical.propDecidable _)
theorem eqB_iff {a b : Tm} : eqB a b = true ↔ a = b := @decide_eq_true_iff _ (Classical.propDecidable _)
theorem eqL_iff {a b : List Tm} : eqL a b = true ↔ a = b := @decide_eq_true_iff _ (Classical.propDecidable _)
theorem eqB_refl (a : Tm) : eqB a a = true := eqB_iff.2 rfl
theorem eqL_refl (a : List Tm) : eqL a a = true := eqL_iff.2 rfl
theorem eqB_no {a b : Tm} (h : a ≠ b) : eqB a b = false := by
  cases he : eqB a b
  · rfl
  · exact absurd (eqB_iff.1 he) h
theorem eqL_no {a b : List Tm} (h : a ≠ b) : eqL a b = false := by
  cases he : eqL a b
  · rfl
  · exact absurd (eqL_iff.1 he) h

set_option maxHeartbeats 400000 in
theorem sameTerms_of (l l' : List Tm) (hT : ∀ t ∈ l, ∀ (t' : Tm) (S S' : Nat → Prop) (v v' : Value) (w : World), Lies w S t v → Lies w S' t' v' →
      Calls Tryd.prog 11 #[v, v'] w fun e w' => e = .returned (.bool (eqB t t')) ∧ Below w.heap.size w w')
    (S S' : Nat → Prop) (a a' : Option Addr) (cap cap' : Nat) (w : World) (hl : Lst w S l a cap) (hl' : Lst w S' l' a' cap') :
    Calls Tryd.prog 38 #[.slice a l.length cap, .slice a' l'.length cap'] w fun e w' => e = .returned (.bool (eqL l l')) ∧ Below w.heap.size w w' := by
  have hlen : l.length ≤ 9223372036854775807 := Nat.le_trans hl.1 hl.2.1
  have hlen' : l'.length ≤ 9223372036854775807 := Nat.le_trans hl'.1 hl'.2.1
  have ih := Hid.mk hT
  clear hT
  by_cases hne : l.length = l'.length
  · obtain ⟨N, hN0, hN1⟩ : ∃ N, l.length = N ∧ l'.length = N := ⟨_, rfl, hne.symm⟩
    rw [hN0, hN1]
    rw [hN0] at hlen
    have hN := Hid.mk hN0
    have hN' := Hid.mk hN1
    clear hN0 hN1 hne hlen'
    go_enter Tryd.func38, Tryd.ntmps38
    go_wp2
    go_loopw [5] (fun ii wr => ∃ i : Nat, i ≤ N ∧ ii = .int .i64 i ∧ Hid (l.take i = l'.take i) ∧ Below w.heap.size w wr) (fun ii _ => N - (intOf ii).toNat)
    case atStart => exact ⟨0, Nat.zero_le _, rfl, Hid.mk (by simp), Below.refl _ _⟩
    case round =>
      obtain ⟨i, hi, rfl, hq, hb⟩ := hrel
      have hzr := hb.size
      have hdr : Below wr.heap.size wr wr.drew := (Below.refl _ wr).drew
      have hzd : wr.drew.heap.size = wr.heap.size := rfl
      by_cases hlt : i < N
      · have hi1 : i < l.length := by rw [hN.out]; exact hlt
        have hi2 : i < l'.length := by rw [hN'.out]; exact hlt
        obtain ⟨b, o, rfl, _, hr⟩ := (hl.below hb).some (by omega)
        obtain ⟨b', o', rfl, _, hr'⟩ := (hl'.below hb).some (by omega)
        obtain ⟨k1, n1, s1, m1, a1, cap1, hT, c0, c1, c2, c3, hli⟩ := hr.part i hi1
        obtain ⟨k2, n2, s2, m2, a2, cap2, hT2, d0, d1, d2, d3, hli2⟩ := hr'.part i hi2
        have hc := ih.out l[i] (List.getElem_mem hi1) l'[i] S S' _ _ wr.drew (hli.below hdr) (hli2.below hdr)
        have hyes : Hid (eqB l[i] l'[i] = true → l.take (i + 1) = l'.take (i + 1)) := Hid.mk (fun h => by
          rw [List.take_succ_eq_append_getElem hi1, List.take_succ_eq_append_getElem hi2, hq.out, eqB_iff.1 h])
        have hno : Hid (eqB l[i] l'[i] = false → eqL l l' = false) := Hid.mk (fun h => eqL_no (fun e => by
          subst e
          rw [eqB_refl] at h
          cases h))
        generalize eqB l[i] l'[i] = x at hc hyes hno
        clear hT hli hT2 hli2 hi1 hi2
        go_wp2
        go_region_with (go_at_call 11; refine hc.mono ?_; rintro e w2 ⟨rfl, hb2⟩)
        all_goals go_wp2
        · go_ret
          exact ⟨ret_bool (hno.out (by simpa using (by assumption : (!x) = true))).symm, hb.trans ((hdr.trans hb2).mono hzr)⟩
        · go_roundw
          case rel => exact ⟨i + 1, by omega, by go_num, Hid.mk (hyes.out (by simpa using (by assumption : (!x) = false))), hb.trans ((hdr.trans hb2).mono hzr)⟩
          case measure => simp [intOf]; omega
        · go_ret
          exact ⟨ret_bool (hno.out (by simpa using (by assumption : (!x) = true))).symm, hb.trans ((hdr.trans hb2).mono hzr)⟩
        · go_roundw
          case rel => exact ⟨i + 1, by omega, by go_num, Hid.mk (hyes.out (by simpa using (by assumption : (!x) = false))), hb.trans ((hdr.trans hb2).mono hzr)⟩
          case measure => simp [intOf]; omega
      · go_wp2
        go_ret
        obtain rfl : i = N := by omega
        have := hq.out
        rw [List.take_of_length_le (Nat.le_of_eq hN.out), List.take_of_length_le (Nat.le_of_eq hN'.out)] at this
        exact ⟨ret_bool (eqL_iff.2 this).symm, hb⟩
  · have hx := eqL_no (a := l) (b := l') (fun e => hne (by rw [e]))
    go_enter Tryd.func38, Tryd.ntmps38
    go_wp2
    go_ret
    exact ⟨ret_bool hx.symm, Below.refl _ _⟩

set_option maxHeartbeats 400000 in
theorem sameTerm_any (T : Tm) : ∀ (T' : Tm) (S S' : Nat → Prop) (v v' : Value) (w : World), Lies w S T v → Lies w S' T' v' →
    Calls Tryd.prog 11 #[v, v'] w fun e w' => e = .returned (.bool (eqB T T')) ∧ Below w.heap.size w w' := by
  induction T using Tm.induct with
  | h k n s l ih =>
    intro T' S S' v v' w hv hv'
    obtain ⟨k', n', s', l'⟩ := T'
    obtain ⟨a, cap, rfl, hs, hl⟩ := hv.out
    obtain ⟨a', cap', rfl, hs', hl'⟩ := hv'.out
    have hc := Hid.mk (fun (w1 : World) (hb1 : Below w.heap.size w w1) => sameTerms_of l l' ih S S' a a' cap cap' w1 (hl.below hb1) (hl'.below hb1))
    have hyes : Hid (k = k' → n = n' → s = s' → eqL l l' = true → eqB (.mk k n s l) (.mk k' n' s' l') = true) := Hid.mk (fun h1 h2 h3 h4 => by
      rw [eqL_iff] at h4
      subst h1 h2 h3 h4
      exact eqB_refl _)
    have hno : Hid (¬ (k = k' ∧ n = n' ∧ s = s' ∧ eqL l l' = true) → eqB (.mk k n s l) (.mk k' n' s' l') = false) := Hid.mk (fun h => eqB_no (fun e => h (by
      cases e
      exact ⟨rfl, rfl, rfl, eqL_refl _⟩)))
    generalize eqL l l' = x at hc hyes hno
    generalize eqB (.mk k n s l) (.mk k' n' s' l') = y at hyes hno ⊢
    clear ih hv hv' hs hs' hl hl'
    go_enter Tryd.func11, Tryd.ntmps11
    go_wp2_with (go_at_call 38; refine (hc.out _ (((Below.refl w.heap.size w).alloc (Nat.le_refl _) _).alloc (by simp) _)).mono ?_; rintro e w2 ⟨rfl, hb2⟩; have hb3 : Below w.heap.size w w2 := (((Below.refl w.heap.size w).alloc (Nat.le_refl _) _).alloc (by simp) _).trans (hb2.mono (by simp; omega)))
    all_goals go_ret
    · exact ⟨ret_bool (by
        cases x
        · exact (hno.out (fun h => by cases h.2.2.2)).symm
        · exact (hyes.out (by assumption) (by assumption) (bytes_toList (by assumption)) rfl).symm), hb3⟩
    all_goals exact ⟨ret_bool (hno.out (fun h => by
      obtain ⟨h1, h2, h3, h4⟩ := h
      first | exact absurd h1 (by assumption) | exact absurd h2 (by assumption) | exact absurd (congrArg ByteArray.toList h3) (by assumption))).symm, ((Below.refl w.heap.size w).alloc (Nat.le_refl _) _).alloc (by simp) _⟩

end Go.Proofs.YtamafhcgjbkikaaDoor
