/-
  The document's answers on terms, walked: parts, words, check.
-/
import Derived.Test.YtamafhcgjbkikaaDoorTermRef
namespace Go.Proofs.YtamafhcgjbkikaaDoor
open Go.RowKit Go.Deep

set_option maxHeartbeats 1000000 in
theorem refparts_any (T : Tm) : ∀ (S : Nat → Prop) (v : Value) (w : World), Lies w S T v →
    Calls Tryd.prog 50 #[v] w fun e w' => e = .returned (.bool T.fits) ∧ Below w.heap.size w w' := by
  induction T using Tm.induct with
  | h k n s l ih0 =>
    intro S v w hv
    obtain ⟨a, cap, rfl, hs, hl⟩ := hv.out
    have ih := Hid.mk ih0
    clear ih0 hv
    have hlen : l.length ≤ 9223372036854775807 := Nat.le_trans hl.1 hl.2.1
    have hfm := Hid.mk (fits_mk k n s l)
    generalize (Tm.mk k n s l).fits = ff at hfm ⊢
    have hown := Hid.mk (fun w1 => own_any k n s a l.length cap w1)
    cases hfb : fitB k n s.size l.length with
    | false =>
      rw [hfb] at hown
      go_enter Tryd.func50, Tryd.ntmps50
      go_wp2_with (go_at_call 56; refine (hown.out _).mono ?_; rintro e w2 ⟨rfl, hb2⟩)
      go_ret
      exact ⟨ret_bool (by rw [hfm.out, hfb]; rfl), ((Below.refl _ _).alloc (Nat.le_refl _) _).trans (hb2.mono (by simp))⟩
    | true =>
      rw [hfb] at hown
      have hff : Hid (ff = fitss l) := Hid.mk (by rw [hfm.out, hfb]; rfl)
      clear hfm hfb
      go_enter Tryd.func50, Tryd.ntmps50
      go_wp2_with (go_at_call 56; refine (hown.out _).mono ?_; rintro e w1 ⟨rfl, hb2⟩; obtain ⟨⟨g0, g1, g2, hc3⟩, f0, f1, f2, f3⟩ := kept4 (new_block w _) hb2; have hb1 : Below w.heap.size w w1 := ((Below.refl _ _).alloc (Nat.le_refl _) _).trans (hb2.mono (by simp)))
      have hz : w.heap.size < w1.heap.size := by have := hb2.size; rw [World.size_alloc] at this; omega
      clear g0 g1 g2 f0 f1 f2 f3 hown
      have hl1 : Lst w1 S l a cap := hl.below hb1
      go_loopw [3] (fun ii wr => ∃ i : Nat, i ≤ l.length ∧ ii = .int .i64 i ∧ Hid (fitss (l.take i) = true) ∧ Below w1.heap.size w1 wr) (fun ii _ => l.length - (intOf ii).toNat)
      case atStart => exact ⟨0, Nat.zero_le _, rfl, Hid.mk (by simp [fitss]), Below.refl _ _⟩
      case round =>
        obtain ⟨i, hi, rfl, hq, hb⟩ := hrel
        have hw3 := (hb.cell (p := ⟨w.heap.size, 3, none⟩) (by show w.heap.size < w1.heap.size; omega)).trans hc3
        have hzr := hb.size
        have hbw : Below w.heap.size w wr := hb1.trans (hb.mono (by omega))
        by_cases hlt : i < l.length
        · obtain ⟨b, o, rfl, _, hr⟩ := (hl1.below hb).some (by omega)
          obtain ⟨k', n', s', m', a', cap', hT, c0, c1, c2, c3, hli⟩ := hr.part i hlt
          have hc := ih.out l[i] (List.getElem_mem hlt) S _ wr hli
          have hyes : Hid (l[i].fits = true → fitss (l.take (i + 1)) = true) := Hid.mk (fun h => by rw [fitss_take l i hlt, hq.out, h]; rfl)
          have hno : Hid (l[i].fits = false → ff = false) := Hid.mk (fun h => by rw [hff.out]; exact fitss_no l i hlt h)
          generalize l[i].fits = x at hc hyes hno
          clear hT hli
          go_wp2_with (go_at_call 50; refine hc.mono ?_; rintro e w2 ⟨rfl, hb2⟩)
          · go_ret
            exact ⟨ret_bool (hno.out (by simpa using (by assumption : (!x) = true))).symm, hbw.trans (hb2.mono (by omega))⟩
          · go_roundw
            case rel => exact ⟨i + 1, by omega, by go_num, Hid.mk (hyes.out (by simpa using (by assumption : (!x) = false))), hb.trans (hb2.mono hzr)⟩
            case measure => simp [intOf]; omega
        · go_wp2
          go_ret
          obtain rfl : i = l.length := by omega
          have := hq.out
          rw [List.take_length] at this
          exact ⟨ret_bool (by rw [hff.out, this]), hbw⟩

theorem wordsRs_le (l : List Tm) (i : Nat) : wordsRs (l.take i) ≤ wordsRs l ∧ 0 ≤ wordsRs (l.take i) := by
  have pos : ∀ t : Tm, 0 ≤ t.wordsR := fun t => by rw [← words_pre]; exact (sumW_range _).1
  induction l generalizing i with
  | nil => simp [wordsRs]
  | cons t r ih =>
    have ht := pos t
    cases i with
    | zero =>
      have := ih 0
      have h2 := ih r.length
      simp only [List.take_zero, wordsRs, List.take_length] at *
      omega
    | succ i =>
      have := ih i
      simp only [List.take_succ_cons, wordsRs]
      omega
theorem words_le (T : Tm) : 0 ≤ T.wordsR ∧ T.wordsR ≤ 2 * T.size := by
  rw [← words_pre]
  have h := sumW_range T.pre
  have h2 := pre_length T
  unfold Tm.words
  omega

set_option maxHeartbeats 1000000 in
theorem refwords_any (T : Tm) (hsz : T.size ≤ 1000000) : ∀ (S : Nat → Prop) (v : Value) (w : World), Lies w S T v →
    Calls Tryd.prog 37 #[v] w fun e w' => e = .returned (.int .i64 T.wordsR) ∧ Below w.heap.size w w' := by
  induction T using Tm.induct with
  | h k n s l ih0 =>
    intro S v w hv
    obtain ⟨a, cap, rfl, hs, hl⟩ := hv.out
    have hmk := Tm.size_mk k n s l
    have ih := Hid.mk (fun t ht => ih0 t ht (by
      obtain ⟨i, hi, rfl⟩ := List.getElem_of_mem ht
      have := sizes_at l i hi
      omega))
    have hwm := wordsR_mk k n s l
    clear ih0 hv
    have hlen : l.length ≤ 9223372036854775807 := Nat.le_trans hl.1 hl.2.1
    have hsl : wordsRs l ≤ 2000000 ∨ hasL k = false := by
      cases hL : hasL k
      · exact Or.inr rfl
      · have := (words_le (.mk k n s l)).2
        rw [hwm, hL, if_pos rfl] at this
        have h2 := ownW_range k
        exact Or.inl (by omega)
    rw [hwm]
    clear hwm hsz hmk
    cases hL : hasL k with
    | false =>
      have hLn := (hasL_not k).1 hL
      have k5 : (k == 5) = false := beq_eq_false_iff_ne.2 (fun h => hLn (by omega))
      have k7 : (k == 7) = false := beq_eq_false_iff_ne.2 (fun h => hLn (by omega))
      have k9 : (k == 9) = false := beq_eq_false_iff_ne.2 (fun h => hLn (by omega))
      have hr : Hid (ownW k + (if false = true then wordsRs l else 0) = 1) := Hid.mk (by simp only [ownW]; split <;> simp <;> omega)
      generalize ownW k + (if false = true then wordsRs l else 0) = r at hr ⊢
      clear hLn hL hsl
      go_enter Tryd.func37, Tryd.ntmps37
      go_wp2
      go_ret
      exact ⟨ret_int hr.out.symm, (Below.refl _ _).alloc (Nat.le_refl _) _⟩
    | true =>
      have hsl' : wordsRs l ≤ 2000000 := hsl.resolve_right (fun h => by rw [hL] at h; cases h)
      have hkk := (hasL_is k).1 hL
      have ho := ownW_range k
      have hif : (if true = true then wordsRs l else 0) = wordsRs l := if_pos rfl
      rw [hif]
      clear hsl hif
      have hkw : (k = 5 ∧ ownW k = 2) ∨ (k = 7 ∧ ownW k = 2) ∨ (k = 9 ∧ ownW k = 1) := by
        rcases hkk with rfl | rfl | rfl
        · exact Or.inl ⟨rfl, rfl⟩
        · exact Or.inr (Or.inl ⟨rfl, rfl⟩)
        · exact Or.inr (Or.inr ⟨rfl, rfl⟩)
      clear hkk hL
      generalize ownW k = r0 at ho hkw ⊢
      have hl0 := (wordsRs_le l l.length).2
      rw [List.take_length] at hl0
      generalize hres : r0 + wordsRs l = res
      have hre := Hid.mk hres
      clear hres
      rcases hkw with ⟨rfl, h0⟩ | ⟨rfl, h0⟩ | ⟨rfl, h0⟩
      all_goals
        have hr0 := Hid.mk h0
        clear ho h0
        go_enter Tryd.func37, Tryd.ntmps37
        go_wp2
        first
        | (obtain ⟨w1, hW1⟩ : ∃ w1, w.alloc (.cells #[.int .i64 5, .int .i64 n, .string s, .slice a l.length cap] 24) = w1 := ⟨_, rfl⟩; rw [hW1])
        | (obtain ⟨w1, hW1⟩ : ∃ w1, w.alloc (.cells #[.int .i64 7, .int .i64 n, .string s, .slice a l.length cap] 24) = w1 := ⟨_, rfl⟩; rw [hW1])
        | (obtain ⟨w1, hW1⟩ : ∃ w1, w.alloc (.cells #[.int .i64 9, .int .i64 n, .string s, .slice a l.length cap] 24) = w1 := ⟨_, rfl⟩; rw [hW1])
        have hz : w1.heap.size = w.heap.size + 1 := by rw [← hW1]; simp
        have hc3 : w1.cell? ⟨w.heap.size, 3, none⟩ = some (.slice a l.length cap) := by rw [← hW1]; exact new_cell w _ _ 3
        have hb1 : Below w.heap.size w w1 := by rw [← hW1]; exact (Below.refl _ _).alloc (Nat.le_refl _) _
        have hl1 : Lst w1 S l a cap := hl.below hb1
        clear hW1
        go_loopw [3, 4] (fun nn ii wr => ∃ (i : Nat) (q : Int), i ≤ l.length ∧ ii = .int .i64 i ∧ nn = .int .i64 q ∧ 0 ≤ q ∧ q ≤ 4000000 ∧ Hid (q = r0 + wordsRs (l.take i)) ∧ Below w1.heap.size w1 wr) (fun _ ii _ => l.length - (intOf ii).toNat)
        case atStart => exact ⟨0, r0, Nat.zero_le _, rfl, by rw [hr0.out], by rw [hr0.out]; decide, by rw [hr0.out]; decide, Hid.mk (by simp [wordsRs]), Below.refl _ _⟩
        case round =>
          obtain ⟨i, q, hi, rfl, rfl, q0, q1, hq, hb⟩ := hrel
          have hw3 := (hb.cell (p := ⟨w.heap.size, 3, none⟩) (by show w.heap.size < w1.heap.size; omega)).trans hc3
          have hzr := hb.size
          have hbw : Below w.heap.size w wr := hb1.trans (hb.mono (by omega))
          by_cases hlt : i < l.length
          · obtain ⟨b, o, rfl, _, hr⟩ := (hl1.below hb).some (by omega)
            obtain ⟨k', n', s', m', a', cap', hT, c0, c1, c2, c3, hli⟩ := hr.part i hlt
            have hc := ih.out l[i] (List.getElem_mem hlt) S _ wr hli
            have x0 := (words_le l[i]).1
            have hxt := wordsRs_take l i hlt
            have hxm := (wordsRs_le l (i + 1)).1
            have hx1 : q + l[i].wordsR ≤ 4000000 := by have := hq.out; have := hr0.out; omega
            have hxq : Hid (q + l[i].wordsR = r0 + wordsRs (l.take (i + 1))) := Hid.mk (by have := hq.out; omega)
            generalize l[i].wordsR = x at hc x0 hx1 hxq
            clear hT hli hxt hxm
            go_wp2_with (go_at_call 37; refine hc.mono ?_; rintro e w2 ⟨rfl, hb2⟩)
            go_roundw
            case rel => exact ⟨i + 1, q + x, by omega, by go_num, rfl, by omega, hx1, hxq, hb.trans (hb2.mono hzr)⟩
            case measure => simp [intOf]; omega
          · go_wp2
            go_ret
            obtain rfl : i = l.length := by omega
            have hqq := hq.out
            rw [List.take_length] at hqq
            exact ⟨ret_int (by rw [hqq, hre.out]), hbw⟩

end Go.Proofs.YtamafhcgjbkikaaDoor
