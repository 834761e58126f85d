/-
  Whether two terms are the same, by the document.
-/
import Derived.Test.YtnpnbonodkpkdaaDoorTermSame
import Derived.StillTailTactics
namespace Go.Proofs.YtnpnbonodkpkdaaDoor
open Go.RowKit Go.Deep

set_option maxHeartbeats 2000000 in
theorem refsame_any (T : Tm) : ∀ (T' : Tm) (S S' : Nat → Prop) (v v' : Value) (w : World), Lies w S T v → Lies w S' T' v' →
    Calls Tryd.prog 16 #[v, v'] w fun e w' => e = .returned (.bool (eqB T T')) ∧ Below w.heap.size w w' := by
  induction T using Tm.induct with
  | h k n s l ih0 =>
    intro T' S S' v v' w hv hv'
    obtain ⟨k', n', s', l'⟩ := T'
    obtain ⟨a, cap, rfl, hs, hl⟩ := hv.out
    obtain ⟨a', cap', rfl, hs', hl'⟩ := hv'.out
    have ih := Hid.mk ih0
    clear ih0 hv hv'
    have hlen : l.length ≤ 9223372036854775807 := Nat.le_trans hl.1 hl.2.1
    have hlen' : l'.length ≤ 9223372036854775807 := Nat.le_trans hl'.1 hl'.2.1
    by_cases hd : k = k' ∧ n = n' ∧ s = s' ∧ l.length = l'.length
    case neg =>
      have hno : Hid (eqB (.mk k n s l) (.mk k' n' s' l') = false) := Hid.mk (eqB_no (fun e => hd (by cases e; exact ⟨rfl, rfl, rfl, rfl⟩)))
      generalize eqB (.mk k n s l) (.mk k' n' s' l') = y at hno ⊢
      have hcases : (¬ k = k') ∨ (k = k' ∧ ¬ n = n') ∨ (k = k' ∧ n = n' ∧ ¬ s.toList = s'.toList) ∨ (k = k' ∧ n = n' ∧ s.toList = s'.toList ∧ ((l.length : Int) != (l'.length : Int)) = true) := by
        by_cases h1 : k = k'
        · by_cases h2 : n = n'
          · by_cases h3 : s = s'
            · refine Or.inr (Or.inr (Or.inr ⟨h1, h2, congrArg _ h3, ?_⟩))
              rw [bne_iff_ne]
              intro e
              exact hd ⟨h1, h2, h3, by omega⟩
            · exact Or.inr (Or.inr (Or.inl ⟨h1, h2, fun e => h3 (bytes_toList e)⟩))
          · exact Or.inr (Or.inl ⟨h1, h2⟩)
        · exact Or.inl h1
      clear hd hl hl' ih
      rcases hcases with h1 | ⟨h1, h2⟩ | ⟨h1, h2, h3⟩ | ⟨h1, h2, h3, h4⟩
      all_goals
        go_enter Tryd.func16, Tryd.ntmps16
        go_wp2
        go_ret
        exact ⟨ret_bool hno.out.symm, ((Below.refl _ _).alloc (Nat.le_refl _) _).alloc (by simp) _⟩
    case pos =>
      obtain ⟨rfl, rfl, rfl, hll⟩ := hd
      obtain ⟨N, hN0, hN1⟩ : ∃ N, l.length = N ∧ l'.length = N := ⟨_, rfl, hll.symm⟩
      rw [hN0, hN1]
      rw [hN0] at hlen
      have hN := Hid.mk hN0
      have hN' := Hid.mk hN1
      have hyes : Hid (l = l' → eqB (.mk k n s l) (.mk k n s l') = true) := Hid.mk (fun h => by rw [h]; exact eqB_refl _)
      have hno : Hid (l ≠ l' → eqB (.mk k n s l) (.mk k n s l') = false) := Hid.mk (fun h => eqB_no (fun e => h (by cases e; rfl)))
      generalize eqB (.mk k n s l) (.mk k n s l') = y at hyes hno ⊢
      clear hN0 hN1 hll hlen'
      go_enter Tryd.func16, Tryd.ntmps16
      go_wp2
      obtain ⟨w1, hW1⟩ : ∃ w1, (w.alloc (.cells #[.int .i64 k, .int .i64 n, .string s, .slice a N cap] 24)).alloc (.cells #[.int .i64 k, .int .i64 n, .string s, .slice a' N cap'] 24) = w1 := ⟨_, rfl⟩
      rw [hW1]
      have hz : w1.heap.size = w.heap.size + 2 := by rw [← hW1]; simp
      have hc3 : w1.cell? ⟨w.heap.size, 3, none⟩ = some (.slice a N cap) := by
        rw [← hW1]
        have := new_block1 w (.cells #[.int .i64 k, .int .i64 n, .string s, .slice a N cap] 24) (.cells #[.int .i64 k, .int .i64 n, .string s, .slice a' N cap'] 24)
        simp [World.cell?, this]
      have hd3 : w1.cell? ⟨w.heap.size + 1, 3, none⟩ = some (.slice a' N cap') := by
        rw [← hW1]
        have := new_block2 w (.cells #[.int .i64 k, .int .i64 n, .string s, .slice a N cap] 24) (.cells #[.int .i64 k, .int .i64 n, .string s, .slice a' N cap'] 24)
        unfold World.cell?
        simp only
        rw [this]
        rfl
      have hb1 : Below w.heap.size w w1 := by rw [← hW1]; exact ((Below.refl _ _).alloc (Nat.le_refl _) _).alloc (by simp) _
      have hl1 : Lst w1 S l a cap := hl.below hb1
      have hl1' : Lst w1 S' l' a' cap' := hl'.below hb1
      clear hW1
      go_loopw [5] (fun ii wr => ∃ i : Nat, i ≤ N ∧ ii = .int .i64 i ∧ Hid (l.take i = l'.take i) ∧ Below w1.heap.size w1 wr) (fun ii _ => N - (intOf ii).toNat)
      case atStart => exact ⟨0, Nat.zero_le _, rfl, Hid.mk (by simp), Below.refl _ _⟩
      case round =>
        obtain ⟨i, hi, rfl, hq, hb⟩ := hrel
        have hzr := hb.size
        have hw3 := (hb.cell (p := ⟨w.heap.size, 3, none⟩) (by show w.heap.size < w1.heap.size; omega)).trans hc3
        have hv3 := (hb.cell (p := ⟨w.heap.size + 1, 3, none⟩) (by show w.heap.size + 1 < w1.heap.size; omega)).trans hd3
        have hbw : Below w.heap.size w wr := hb1.trans (hb.mono (by omega))
        by_cases hlt : i < N
        · have hi1 : i < l.length := by rw [hN.out]; exact hlt
          have hi2 : i < l'.length := by rw [hN'.out]; exact hlt
          obtain ⟨b, o, rfl, _, hr⟩ := (hl1.below hb).some (by omega)
          obtain ⟨b', o', rfl, _, hr'⟩ := (hl1'.below hb).some (by omega)
          obtain ⟨k1, n1, s1, m1, a1, cap1, hT, c0, c1, c2, c3, hli⟩ := hr.part i hi1
          obtain ⟨k2, n2, s2, m2, a2, cap2, hT2, d0, d1, d2, d3, hli2⟩ := hr'.part i hi2
          have hdr : Below wr.heap.size wr wr.drew := (Below.refl _ wr).drew
          have hc := Hid.mk (ih.out l[i] (List.getElem_mem hi1) l'[i] S S' _ _ wr.drew (hli.below hdr) (hli2.below hdr))
          have hyes2 : Hid (eqB l[i] l'[i] = true → l.take (i + 1) = l'.take (i + 1)) := Hid.mk (fun h => by
            rw [List.take_succ_eq_append_getElem hi1, List.take_succ_eq_append_getElem hi2, hq.out, eqB_iff.1 h])
          have hno2 : Hid (eqB l[i] l'[i] = false → y = false) := Hid.mk (fun h => hno.out (fun e => by
            subst e
            rw [eqB_refl] at h
            cases h))
          generalize eqB l[i] l'[i] = x at hc hyes2 hno2
          clear hT hli hT2 hli2 hi1 hi2
          go_wp2
          go_still_tail 10, (by kernel_rfl)
          change wpList _ _ _ _ _ wr.drew
          go_wp2_with (go_at_call 16; refine hc.out.mono ?_; rintro e w2 ⟨rfl, hb2⟩)
          · go_ret
            exact ⟨ret_bool (hno2.out (by simpa using (by assumption : (!x) = true))).symm, hbw.trans ((hdr.trans hb2).mono (by omega))⟩
          · go_roundw
            case rel => exact ⟨i + 1, by omega, by go_num, Hid.mk (hyes2.out (by simpa using (by assumption : (!x) = false))), hb.trans ((hdr.trans hb2).mono hzr)⟩
            case measure => simp [intOf]; omega
        · go_wp2
          go_ret
          obtain rfl : i = N := by omega
          have := hq.out
          rw [List.take_of_length_le (Nat.le_of_eq hN.out), List.take_of_length_le (Nat.le_of_eq hN'.out)] at this
          exact ⟨ret_bool (hyes.out this).symm, hbw⟩

end Go.Proofs.YtnpnbonodkpkdaaDoor
