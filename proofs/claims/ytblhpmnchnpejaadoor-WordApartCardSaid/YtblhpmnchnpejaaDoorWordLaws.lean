/-
  What the statements of the layer of words come to: each returns true, whatever it is called with.
-/
import Derived.Test.YtblhpmnchnpejaaDoorWordWalks
namespace Go.Proofs.YtblhpmnchnpejaaDoor
open Go.RowKit

set_option maxHeartbeats 400000 in
theorem boxed_any (x : Int) (w : World) (h0 : 0 ≤ x) (h1 : x < 18446744073709551616) :
    Calls Tryd.prog 14 #[.int .u64 x] w fun e w' => e = .returned (.bool (Wd.boxedB x)) ∧ w = w' := by
  go_enter Tryd.func14, Tryd.ntmps14
  go_wp2_with (go_at_call 13; refine (kind_any _ _ h0 h1).mono ?_; rintro e w' ⟨rfl, rfl⟩)
  all_goals go_ret
  all_goals
    refine ⟨ret_bool ?_, rfl⟩
    unfold Wd.kd at *
    simp only [beq_iff_eq, beq_eq_false_iff_ne, ne_eq] at *
    rw [Bool.eq_iff_iff]
    simp only [Wd.boxedB, Bool.false_eq_true, true_iff, false_iff, decide_eq_true_eq]
    omega

set_option maxHeartbeats 400000 in
theorem refboxed_any (x : Int) (w : World) (h0 : 0 ≤ x) :
    Calls Tryd.prog 15 #[.int .u64 x] w fun e w' => e = .returned (.bool (Wd.boxedB x)) ∧ w = w' := by
  go_enter Tryd.func15, Tryd.ntmps15
  go_wp2
  all_goals go_ret
  all_goals
    refine ⟨ret_bool ?_, rfl⟩
    rw [Bool.eq_iff_iff]
    simp only [Wd.boxedB, Bool.or_eq_true, beq_iff_eq, true_iff, decide_eq_true_eq]
    omega

set_option maxHeartbeats 400000 in
theorem packs_any (k n x f : Int) (w : World) (ht : WordTab w) (hn0 : -9223372036854775808 ≤ n) (hn1 : n ≤ 9223372036854775807) (hk0 : -9223372036854775808 ≤ k) (hk1 : k ≤ 9223372036854775807) :
    Calls Tryd.prog 16 #[.int .i64 k, .int .i64 n, .int .u64 x, .int .i64 f] w fun e w' => e = .returned (.bool (Wd.packsB k n x f)) ∧ Below w.heap.size w w' := by
  go_enter Tryd.func16, Tryd.ntmps16
  go_wp2_with (go_at_call 8; refine (pack_any _ _ _ ht hn0 hn1 hk0 hk1).mono ?_; rintro e w1 ⟨rfl, hb⟩)
  all_goals go_ret
  all_goals
    refine ⟨ret_bool ?_, hb⟩
    rw [Bool.eq_iff_iff]
    simp [Wd.packsB, *]

set_option maxHeartbeats 400000 in
theorem unpacks_any (x k n f : Int) (w : World) (ht : WordTab w) (h0 : 0 ≤ x) (h1 : x < 18446744073709551616) :
    Calls Tryd.prog 17 #[.int .u64 x, .int .i64 k, .int .i64 n, .int .i64 f] w fun e w' => e = .returned (.bool (Wd.unpacksB x k n f)) ∧ Below w.heap.size w w' := by
  go_enter Tryd.func17, Tryd.ntmps17
  go_wp2_with (go_at_call 11; refine (unpack_any _ _ ht h0 h1).mono ?_; rintro e w1 ⟨rfl, hb⟩)
  all_goals go_ret
  all_goals
    refine ⟨ret_bool ?_, hb⟩
    rw [Bool.eq_iff_iff]
    simp [Wd.unpacksB, *]

/-- The world has grown since the call began, and the table lies in it still. -/
structure Kp (w0 w : World) : Prop where
  tab : WordTab w
  below : Below w0.heap.size w0 w
theorem Kp.refl {w : World} (h : WordTab w) : Kp w w := ⟨h, Below.refl _ _⟩
theorem Kp.next {w0 w w1 : World} (h : Kp w0 w) (hb : Below w.heap.size w w1) : Kp w0 w1 := ⟨h.tab.below hb, h.below.trans (hb.mono h.below.size)⟩

set_option maxHeartbeats 400000 in
theorem awake_any (w : World) (ht : WordTab w) :
    Calls Tryd.prog 10 #[] w fun e w' => e = .returned (.bool true) ∧ Below w.heap.size w w' := by
  have hk := Kp.refl ht
  have p1 : Wd.packsB 1 5 81 0 = true := by decide +kernel
  have p2 : Wd.packsB 1 (-1) 18446744073709551601 0 = true := by decide +kernel
  have p3 : Wd.unpacksB 81 1 5 0 = true := by decide +kernel
  go_enter Tryd.func10, Tryd.ntmps10
  go_wp2_with (first | (go_at_call 16; refine (packs_any _ _ _ _ _ hk.tab (by omega) (by omega) (by omega) (by omega)).mono ?_; rintro e w1 ⟨rfl, hb⟩; replace hk := hk.next hb; clear hb) | (go_at_call 17; refine (unpacks_any _ _ _ _ _ hk.tab (by omega) (by omega)).mono ?_; rintro e w1 ⟨rfl, hb⟩; replace hk := hk.next hb; clear hb))
  go_ret
  exact ⟨rfl, hk.below⟩

set_option maxHeartbeats 400000 in
theorem lawPacks (k n : Int) (w : World) (ht : WordTab w) (hn0 : -9223372036854775808 ≤ n) (hn1 : n ≤ 9223372036854775807) (hk0 : -9223372036854775808 ≤ k) (hk1 : k ≤ 9223372036854775807) :
    Calls Tryd.prog 3 #[.int .i64 k, .int .i64 n] w fun e w' => e = .returned (.bool true) ∧ Below w.heap.size w w' := by
  have hk := Kp.refl ht
  go_enter Tryd.func3, Tryd.ntmps3
  go_wp2_with (first | (go_at_call 8; refine (pack_any _ _ _ hk.tab hn0 hn1 hk0 hk1).mono ?_; rintro e w1 ⟨rfl, hb⟩; replace hk := hk.next hb; clear hb) | (go_at_call 9; refine (refpack_any _ _ _ hn0 hn1 hk0 hk1).mono ?_; rintro e w1 ⟨rfl, rfl⟩) | (go_at_call 10; refine (awake_any _ hk.tab).mono ?_; rintro e w1 ⟨rfl, hb⟩; replace hk := hk.next hb; clear hb))
  go_ret
  exact ⟨rfl, hk.below⟩

set_option maxHeartbeats 400000 in
theorem lawUnpacks (x : Int) (w : World) (ht : WordTab w) (h0 : 0 ≤ x) (h1 : x < 18446744073709551616) :
    Calls Tryd.prog 4 #[.int .u64 x] w fun e w' => e = .returned (.bool true) ∧ Below w.heap.size w w' := by
  have hk := Kp.refl ht
  have hkd : (Wd.kd x == x % 16) = true := by unfold Wd.kd; simp
  go_enter Tryd.func4, Tryd.ntmps4
  go_wp2_with (first | (go_at_call 11; refine (unpack_any _ _ hk.tab h0 h1).mono ?_; rintro e w1 ⟨rfl, hb⟩; replace hk := hk.next hb; clear hb) | (go_at_call 12; refine (refunpack_any _ _ h0 h1).mono ?_; rintro e w1 ⟨rfl, rfl⟩) | (go_at_call 13; refine (kind_any _ _ h0 h1).mono ?_; rintro e w' ⟨rfl, rfl⟩) | (go_at_call 14; refine (boxed_any _ _ h0 h1).mono ?_; rintro e w1 ⟨rfl, rfl⟩) | (go_at_call 15; refine (refboxed_any _ _ h0).mono ?_; rintro e w1 ⟨rfl, rfl⟩) | (go_at_call 10; refine (awake_any _ hk.tab).mono ?_; rintro e w1 ⟨rfl, hb⟩; replace hk := hk.next hb; clear hb))
  go_ret
  exact ⟨rfl, hk.below⟩

set_option maxHeartbeats 400000 in
theorem lawKnown (w : World) (ht : WordTab w) :
    Calls Tryd.prog 5 #[] w fun e w' => e = .returned (.bool true) ∧ Below w.heap.size w w' := by
  have hk := Kp.refl ht
  have p1 : Wd.packsB 8 0 8 0 = true := by decide +kernel
  have p2 : Wd.unpacksB 24 0 0 4 = true := by decide +kernel
  have p3 : Wd.unpacksB 12 0 0 4 = true := by decide +kernel
  have p4 : Wd.packsB 1 576460752303423488 0 5 = true := by decide +kernel
  have p5 : Wd.packsB 12 0 0 2 = true := by decide +kernel
  have p6 : Wd.packsB 8 1 0 5 = true := by decide +kernel
  have p7 : Wd.packsB 11 65 0 5 = true := by decide +kernel
  have p8 : Wd.boxedB 7 = true := by decide +kernel
  have p9 : Wd.boxedB 81 = false := by decide +kernel
  have p10 : Wd.kd 18446744073709551601 = 1 := by decide +kernel
  go_enter Tryd.func5, Tryd.ntmps5
  go_wp2_with (first | (go_at_call 16; refine (packs_any _ _ _ _ _ hk.tab (by omega) (by omega) (by omega) (by omega)).mono ?_; rintro e w1 ⟨rfl, hb⟩; replace hk := hk.next hb; clear hb) | (go_at_call 17; refine (unpacks_any _ _ _ _ _ hk.tab (by omega) (by omega)).mono ?_; rintro e w1 ⟨rfl, hb⟩; replace hk := hk.next hb; clear hb) | (go_at_call 13; refine (kind_any _ _ (by omega) (by omega)).mono ?_; rintro e w' ⟨rfl, rfl⟩) | (go_at_call 14; refine (boxed_any _ _ (by omega) (by omega)).mono ?_; rintro e w1 ⟨rfl, rfl⟩) | (go_at_call 10; refine (awake_any _ hk.tab).mono ?_; rintro e w1 ⟨rfl, hb⟩; replace hk := hk.next hb; clear hb))
  go_ret
  exact ⟨rfl, hk.below⟩

set_option maxHeartbeats 1000000 in
theorem lawBack (k n x : Int) (w : World) (ht : WordTab w) (hn0 : -9223372036854775808 ≤ n) (hn1 : n ≤ 9223372036854775807) (hk0 : -9223372036854775808 ≤ k) (hk1 : k ≤ 9223372036854775807) (h0 : 0 ≤ x) (h1 : x < 18446744073709551616) :
    Calls Tryd.prog 6 #[.int .i64 k, .int .i64 n, .int .u64 x] w fun e w' => e = .returned (.bool true) ∧ Below w.heap.size w w' := by
  have hk := Kp.refl ht
  have q := Wd.packW_bd k n
  have q0 := q.1
  have q1 := q.2
  have r0 := Wd.kd_bd x
  have r1 := Wd.nm_bd x
  have s0 : -9223372036854775808 ≤ Wd.unK x ∧ Wd.unK x ≤ 9223372036854775807 := by unfold Wd.unK; split <;> omega
  have s1 : -9223372036854775808 ≤ Wd.unN x ∧ Wd.unN x ≤ 9223372036854775807 := by unfold Wd.unN; split <;> omega
  have a0 := s0.1
  have a1 := s0.2
  have b0 := s1.1
  have b1 := s1.2
  clear s0 s1 r0 r1 q
  cases ho : Wd.okB k n <;> cases hu : Wd.unB x
  all_goals
    first
    | have e0 : (Wd.packE k n == 0) = true := by rw [beq_iff_eq, Wd.packE_zero]; exact ho
    | have e0 : (Wd.packE k n == 0) = false := by rw [beq_eq_false_iff_ne]; intro h; rw [Wd.packE_zero, ho] at h; cases h
    first
    | have f0 : (Wd.unE x != 0) = false := by rw [bne_eq_false_iff_eq, Wd.unE_zero]; exact hu
    | have f0 : (Wd.unE x != 0) = true := by rw [bne_iff_ne]; intro h; rw [Wd.unE_zero, hu] at h; cases h
    first
    | (have g := Wd.back1K k n ho
       have g1 := g.2.1
       have g2 := g.2.2.1
       have g3 := g.2.2.2
       clear g)
    | skip
    first
    | (have v1 : Wd.packW (Wd.unK x) (Wd.unN x) = x := by (unfold Wd.unK Wd.unN; simp only [hu, if_true]; exact Wd.back2 x h0 h1 hu)
       have v2 : Wd.packE (Wd.unK x) (Wd.unN x) = 0 := by (rw [Wd.packE_zero]; unfold Wd.unK Wd.unN; simp only [hu, if_true]; exact hu))
    | skip
    clear ho hu
    go_enter Tryd.func6, Tryd.ntmps6
    go_wp2_with (first | (go_at_call 5; refine (lawKnown _ hk.tab).mono ?_; rintro e w1 ⟨rfl, hb⟩; replace hk := hk.next hb; clear hb) | (go_at_call 8; refine (pack_any _ _ _ hk.tab (by omega) (by omega) (by omega) (by omega)).mono ?_; rintro e w1 ⟨rfl, hb⟩; replace hk := hk.next hb; clear hb) | (go_at_call 11; refine (unpack_any _ _ hk.tab (by omega) (by omega)).mono ?_; rintro e w1 ⟨rfl, hb⟩; replace hk := hk.next hb; clear hb) | (go_at_call 10; refine (awake_any _ hk.tab).mono ?_; rintro e w1 ⟨rfl, hb⟩; replace hk := hk.next hb; clear hb))
    go_ret
    exact ⟨rfl, hk.below⟩

set_option maxHeartbeats 1000000 in
theorem lawApart (k n o m : Int) (w : World) (ht : WordTab w) (hn0 : -9223372036854775808 ≤ n) (hn1 : n ≤ 9223372036854775807) (hk0 : -9223372036854775808 ≤ k) (hk1 : k ≤ 9223372036854775807)
    (hm0 : -9223372036854775808 ≤ m) (hm1 : m ≤ 9223372036854775807) (ho0 : -9223372036854775808 ≤ o) (ho1 : o ≤ 9223372036854775807) :
    Calls Tryd.prog 7 #[.int .i64 k, .int .i64 n, .int .i64 o, .int .i64 m] w fun e w' => e = .returned (.bool true) ∧ Below w.heap.size w w' := by
  have hk := Kp.refl ht
  cases hu : Wd.okB k n
  · have e0 : (Wd.packE k n != 0) = true := by rw [bne_iff_ne]; intro h; rw [Wd.packE_zero, hu] at h; cases h
    clear hu
    go_enter Tryd.func7, Tryd.ntmps7
    go_wp2_with (first | (go_at_call 5; refine (lawKnown _ hk.tab).mono ?_; rintro e w1 ⟨rfl, hb⟩; replace hk := hk.next hb; clear hb) | (go_at_call 8; refine (pack_any _ _ _ hk.tab (by omega) (by omega) (by omega) (by omega)).mono ?_; rintro e w1 ⟨rfl, hb⟩; replace hk := hk.next hb; clear hb))
    all_goals go_ret
    all_goals exact ⟨rfl, hk.below⟩
  · have e0 : (Wd.packE k n != 0) = false := by rw [bne_eq_false_iff_eq, Wd.packE_zero]; exact hu
    cases hv : Wd.okB o m
    · have f0 : (Wd.packE o m != 0) = true := by rw [bne_iff_ne]; intro h; rw [Wd.packE_zero, hv] at h; cases h
      clear hu hv
      go_enter Tryd.func7, Tryd.ntmps7
      go_wp2_with (first | (go_at_call 5; refine (lawKnown _ hk.tab).mono ?_; rintro e w1 ⟨rfl, hb⟩; replace hk := hk.next hb; clear hb) | (go_at_call 8; refine (pack_any _ _ _ hk.tab (by omega) (by omega) (by omega) (by omega)).mono ?_; rintro e w1 ⟨rfl, hb⟩; replace hk := hk.next hb; clear hb))
      all_goals go_ret
      all_goals exact ⟨rfl, hk.below⟩
    · have f0 : (Wd.packE o m != 0) = false := by rw [bne_eq_false_iff_eq, Wd.packE_zero]; exact hv
      have ap := Wd.apart1 k n o m hu hv
      by_cases hko : k = o
      · subst hko
        by_cases hnm : n = m
        · subst hnm
          clear hu hv ap f0
          by_cases h1 : k = 1
          · subst h1
            go_enter Tryd.func7, Tryd.ntmps7
            go_wp2_with (first | (go_at_call 5; refine (lawKnown _ hk.tab).mono ?_; rintro e w1 ⟨rfl, hb⟩; replace hk := hk.next hb; clear hb) | (go_at_call 8; refine (pack_any _ _ _ hk.tab (by omega) (by omega) (by omega) (by omega)).mono ?_; rintro e w1 ⟨rfl, hb⟩; replace hk := hk.next hb; clear hb))
            all_goals go_ret
            all_goals exact ⟨rfl, hk.below⟩
          · have h1' : (k == 1) = false := by rw [beq_eq_false_iff_ne]; exact h1
            clear h1
            go_enter Tryd.func7, Tryd.ntmps7
            go_wp2_with (first | (go_at_call 5; refine (lawKnown _ hk.tab).mono ?_; rintro e w1 ⟨rfl, hb⟩; replace hk := hk.next hb; clear hb) | (go_at_call 8; refine (pack_any _ _ _ hk.tab (by omega) (by omega) (by omega) (by omega)).mono ?_; rintro e w1 ⟨rfl, hb⟩; replace hk := hk.next hb; clear hb))
            all_goals go_ret
            all_goals exact ⟨rfl, hk.below⟩
        · have g1 : (Wd.packW k n == Wd.packW k m) = false := by rw [beq_eq_false_iff_ne]; intro e; exact hnm (ap.1 e).2
          have g2 : (n == m) = false := by rw [beq_eq_false_iff_ne]; exact hnm
          by_cases h1 : k = 1
          · subst h1
            clear hu hv ap hnm
            go_enter Tryd.func7, Tryd.ntmps7
            go_wp2_with (first | (go_at_call 5; refine (lawKnown _ hk.tab).mono ?_; rintro e w1 ⟨rfl, hb⟩; replace hk := hk.next hb; clear hb) | (go_at_call 8; refine (pack_any _ _ _ hk.tab (by omega) (by omega) (by omega) (by omega)).mono ?_; rintro e w1 ⟨rfl, hb⟩; replace hk := hk.next hb; clear hb))
            all_goals go_ret
            all_goals exact ⟨rfl, hk.below⟩
          · have h1' : (k == 1) = false := by rw [beq_eq_false_iff_ne]; exact h1
            have ri := Wd.rises k n m hu hv h1
            by_cases hl : n < m
            · have g3 := ri.2 hl
              clear hu hv ap hnm h1 ri
              go_enter Tryd.func7, Tryd.ntmps7
              go_wp2_with (first | (go_at_call 5; refine (lawKnown _ hk.tab).mono ?_; rintro e w1 ⟨rfl, hb⟩; replace hk := hk.next hb; clear hb) | (go_at_call 8; refine (pack_any _ _ _ hk.tab (by omega) (by omega) (by omega) (by omega)).mono ?_; rintro e w1 ⟨rfl, hb⟩; replace hk := hk.next hb; clear hb))
              all_goals go_ret
              all_goals exact ⟨rfl, hk.below⟩
            · have g3 : ¬ Wd.packW k n < Wd.packW k m := fun h => hl (ri.1 h)
              clear hu hv ap hnm h1 ri
              go_enter Tryd.func7, Tryd.ntmps7
              go_wp2_with (first | (go_at_call 5; refine (lawKnown _ hk.tab).mono ?_; rintro e w1 ⟨rfl, hb⟩; replace hk := hk.next hb; clear hb) | (go_at_call 8; refine (pack_any _ _ _ hk.tab (by omega) (by omega) (by omega) (by omega)).mono ?_; rintro e w1 ⟨rfl, hb⟩; replace hk := hk.next hb; clear hb))
              all_goals go_ret
              all_goals exact ⟨ret_bool (by rw [decide_eq_false (Int.not_lt.2 g3), decide_eq_false (Int.not_lt.2 hl)]; rfl), hk.below⟩
      · have g1 : (Wd.packW k n == Wd.packW o m) = false := by rw [beq_eq_false_iff_ne]; intro e; exact hko (ap.1 e).1
        have g2 : (k == o) = false := by rw [beq_eq_false_iff_ne]; exact hko
        have g3 : (k != o) = true := by rw [bne_iff_ne]; exact hko
        clear hu hv ap hko
        go_enter Tryd.func7, Tryd.ntmps7
        go_wp2_with (first | (go_at_call 5; refine (lawKnown _ hk.tab).mono ?_; rintro e w1 ⟨rfl, hb⟩; replace hk := hk.next hb; clear hb) | (go_at_call 8; refine (pack_any _ _ _ hk.tab (by omega) (by omega) (by omega) (by omega)).mono ?_; rintro e w1 ⟨rfl, hb⟩; replace hk := hk.next hb; clear hb))
        all_goals go_ret
        all_goals exact ⟨rfl, hk.below⟩
end Go.Proofs.YtblhpmnchnpejaaDoor
