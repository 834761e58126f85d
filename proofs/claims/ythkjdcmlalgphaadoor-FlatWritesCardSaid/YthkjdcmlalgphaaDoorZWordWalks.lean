/-
  What the functions of words with tags come to, and what the document's answer beside them does: one contract a function.
-/
import Derived.Test.YthkjdcmlalgphaaDoorRows
import Derived.Test.YthkjdcmlalgphaaDoorZWordPlain
import Derived.Test.YthkjdcmlalgphaaDoorZKitBase
import Derived.WalkKit
import Derived.WalkSpells
import Derived.WalkLawsBesides
import Derived.Lib.Hide
namespace Go.Proofs.YthkjdcmlalgphaaDoor
open Go.RowKit

/-- The table of bounds lies in the variable's block. -/
structure WordTab (w : World) : Prop where
  low : ∀ k : Nat, k < 12 → w.cell? ⟨1, k * 2, none⟩ = some (.int .i64 (Wd.lo k))
  high : ∀ k : Nat, k < 12 → w.cell? ⟨1, k * 2 + 1, none⟩ = some (.int .i64 (Wd.hi k))
  size : 1 < w.heap.size

theorem WordTab.below {w w' : World} (h : WordTab w) (hb : Below w.heap.size w w') : WordTab w' :=
  ⟨fun k hk => by rw [hb.cell (p := ⟨1, k * 2, none⟩) h.size]; exact h.low k hk, fun k hk => by rw [hb.cell (p := ⟨1, k * 2 + 1, none⟩) h.size]; exact h.high k hk, Nat.lt_of_lt_of_le h.size hb.size⟩

set_option maxHeartbeats 400000 in
theorem kind_any (x : Int) (w : World) (h0 : 0 ≤ x) (h1 : x < 18446744073709551616) :
    Calls Tryd.prog 89 #[.int .u64 x] w fun e w' => e = .returned (.int .i64 (Wd.kd x)) ∧ w = w' := by
  have hb := Wd.and15 x h0 h1
  go_enter Tryd.func89, Tryd.ntmps89
  go_wp2
  go_ret
  exact ⟨rfl, rfl⟩

theorem ret_bools {a b c d : Bool} (h : a = b) (h' : c = d) : Ending.returned (.tuple #[.bool a, .bool c]) = .returned (.tuple #[.bool b, .bool d]) := by rw [h, h']

set_option maxHeartbeats 400000 in
theorem wknown_any (k : Int) (w : World) :
    Calls Tryd.prog 84 #[.int .i64 k] w fun e w' => e = .returned (.bool (Wd.knownB k)) ∧ w = w' := by
  go_enter Tryd.func84, Tryd.ntmps84
  go_wp2
  all_goals go_ret
  all_goals exact ⟨ret_bool (by simp [Wd.knownB]; try omega), rfl⟩

set_option maxHeartbeats 400000 in
theorem wfits_any (k n : Int) (w : World) (ht : WordTab w) (h0 : 0 ≤ k) (h1 : k < 12) :
    Calls Tryd.prog 85 #[.int .i64 k, .int .i64 n] w fun e w' => e = .returned (.bool (Wd.fitsB k n)) ∧ Below w.heap.size w w' := by
  obtain ⟨j, rfl⟩ := Int.eq_ofNat_of_zero_le h0
  have hj : j < 12 := by omega
  have c0 := ht.low j hj
  have c1 := ht.high j hj
  clear ht
  go_enter Tryd.func85, Tryd.ntmps85
  go_wp2
  all_goals go_ret
  all_goals refine ⟨ret_bool ?_, (Below.refl _ _).alloc (Nat.le_refl _) _⟩
  all_goals first | exact Wd.fits_no (by assumption) | exact Wd.fits_lo (by assumption) | exact Wd.fits_yes (by assumption) (by assumption) | exact Wd.fits_11 (by assumption) (by assumption)

set_option maxHeartbeats 400000 in
theorem may_any (k n : Int) (w : World) (_hn0 : -9223372036854775808 ≤ n) (_hn1 : n ≤ 9223372036854775807) :
    Calls Tryd.prog 87 #[.int .i64 k, .int .i64 n] w fun e w' => e = .returned (.tuple #[.bool (Wd.okB k n), .bool (Wd.knownB k)]) ∧ w = w' := by
  go_enter Tryd.func87, Tryd.ntmps87
  go_wp2
  all_goals go_ret2
  all_goals refine ⟨ret_bools ?_ ?_, rfl⟩
  all_goals
    simp only [beq_iff_eq, beq_eq_false_iff_ne, ne_eq] at *
    have hl := Wd.lo_is k
    have hu := Wd.hi_is k
    rw [Bool.eq_iff_iff]
    first | rw [Wd.okB_iff] | rw [Wd.knownB_iff]
    try simp only [beq_iff_eq, decide_eq_true_eq, Bool.false_eq_true, false_iff, true_iff]
    omega

set_option maxHeartbeats 400000 in
theorem pack_any (k n : Int) (w : World) (ht : WordTab w) (_hn0 : -9223372036854775808 ≤ n) (_hn1 : n ≤ 9223372036854775807) (_hk0 : -9223372036854775808 ≤ k) (_hk1 : k ≤ 9223372036854775807) :
    Calls Tryd.prog 63 #[.int .i64 k, .int .i64 n] w fun e w' => e = .returned (.tuple #[.int .u64 (Wd.packW k n), .int .i64 (Wd.packE k n)]) ∧ Below w.heap.size w w' := by
  cases hk : Wd.knownB k
  · go_enter Tryd.func63, Tryd.ntmps63
    go_wp2_with (go_at_call 84; refine (wknown_any _ _).mono ?_; rintro e w' ⟨rfl, rfl⟩)
    go_ret2
    exact ⟨by simp [Wd.packW, Wd.packE, Wd.okB, hk], Below.refl _ _⟩
  · have hk' := (Wd.knownB_iff k).1 hk
    have h0 := hk'.1
    have h1 := hk'.2
    cases hf : Wd.fitsB k n
    · go_enter Tryd.func63, Tryd.ntmps63
      go_wp2_with (first | (go_at_call 84; refine (wknown_any _ _).mono ?_; rintro e w' ⟨rfl, rfl⟩) | (go_at_call 85; refine (wfits_any _ _ _ ht h0 h1).mono ?_; rintro e w1 ⟨rfl, hb⟩))
      go_ret2
      exact ⟨by simp [Wd.packW, Wd.packE, Wd.okB, hk, hf], hb⟩
    · go_enter Tryd.func63, Tryd.ntmps63
      go_wp2_with (first | (go_at_call 84; refine (wknown_any _ _).mono ?_; rintro e w' ⟨rfl, rfl⟩) | (go_at_call 85; refine (wfits_any _ _ _ ht h0 h1).mono ?_; rintro e w1 ⟨rfl, hb⟩))
      go_ret2
      have e0 : Wd.packE k n = 0 := by simp [Wd.packE, hk, hf]
      have e1 := Wd.pack_bits k n (by simp [Wd.okB, hk, hf])
      exact ⟨by rw [e0, ← e1]; rfl, hb⟩

set_option maxHeartbeats 400000 in
theorem refpack_any (k n : Int) (w : World) (hn0 : -9223372036854775808 ≤ n) (hn1 : n ≤ 9223372036854775807) (hk0 : -9223372036854775808 ≤ k) (hk1 : k ≤ 9223372036854775807) :
    Calls Tryd.prog 66 #[.int .i64 k, .int .i64 n] w fun e w' => e = .returned (.tuple #[.int .u64 (Wd.packW k n), .int .i64 (Wd.packE k n)]) ∧ w = w' := by
  cases hk : Wd.knownB k
  · have hf : Wd.okB k n = false := by simp [Wd.okB, hk]
    go_enter Tryd.func66, Tryd.ntmps66
    go_wp2_with (go_at_call 87; refine (may_any _ _ _ hn0 hn1).mono ?_; rintro e w' ⟨rfl, rfl⟩)
    go_ret2
    exact ⟨by simp [Wd.packW, Wd.packE, Wd.okB, hk], rfl⟩
  · have hk' := (Wd.knownB_iff k).1 hk
    have h0 := hk'.1
    have h1 := hk'.2
    cases hf : Wd.okB k n
    · have hf' : Wd.fitsB k n = false := by simpa [Wd.okB, hk] using hf
      go_enter Tryd.func66, Tryd.ntmps66
      go_wp2_with (go_at_call 87; refine (may_any _ _ _ hn0 hn1).mono ?_; rintro e w' ⟨rfl, rfl⟩)
      go_ret2
      exact ⟨by simp [Wd.packW, Wd.packE, Wd.okB, hk, hf'], rfl⟩
    · have hf' : Wd.fitsB k n = true := by simpa [Wd.okB, hk] using hf
      go_enter Tryd.func66, Tryd.ntmps66
      go_wp2_with (go_at_call 87; refine (may_any _ _ _ hn0 hn1).mono ?_; rintro e w' ⟨rfl, rfl⟩)
      go_ret2
      have e0 : Wd.packE k n = 0 := by simp [Wd.packE, hk, hf']
      have e1 := Wd.pack_ref k n hf
      exact ⟨by rw [e0, ← e1]; rfl, rfl⟩

theorem okB_known {k n : Int} (h : Wd.okB k n = true) : Wd.knownB k = true ∧ Wd.fitsB k n = true := by
  unfold Wd.okB at h; exact Bool.and_eq_true_iff.1 h

set_option maxHeartbeats 400000 in
theorem unpack_any (x : Int) (w : World) (ht : WordTab w) (h0 : 0 ≤ x) (h1 : x < 18446744073709551616) :
    Calls Tryd.prog 70 #[.int .u64 x] w fun e w' => e = .returned (.tuple #[.int .i64 (Wd.unK x), .int .i64 (Wd.unN x), .int .i64 (Wd.unE x)]) ∧ Below w.heap.size w w' := by
  cases hk : Wd.knownB (Wd.kd x)
  · go_enter Tryd.func70, Tryd.ntmps70
    go_wp2_with (first | (go_at_call 89; refine (kind_any _ _ h0 h1).mono ?_; rintro e w' ⟨rfl, rfl⟩) | (go_at_call 84; refine (wknown_any _ _).mono ?_; rintro e w' ⟨rfl, rfl⟩))
    go_ret3
    exact ⟨by simp [Wd.unK, Wd.unN, Wd.unE, Wd.unB, Wd.okB, hk], Below.refl _ _⟩
  · have hk' := (Wd.knownB_iff _).1 hk
    have k0 := hk'.1
    have k1 := hk'.2
    cases hf : Wd.fitsB (Wd.kd x) (wrap64 x / 16)
    all_goals
      go_enter Tryd.func70, Tryd.ntmps70
      go_wp2_with (first | (go_at_call 89; refine (kind_any _ _ h0 h1).mono ?_; rintro e w' ⟨rfl, rfl⟩) | (go_at_call 84; refine (wknown_any _ _).mono ?_; rintro e w' ⟨rfl, rfl⟩) | (go_at_call 85; refine (wfits_any _ (wrap64 x / 16) _ ht k0 k1).mono ?_; rintro e w1 ⟨rfl, hb⟩))
      go_ret3
      exact ⟨by simp [Wd.unK, Wd.unN, Wd.unE, Wd.unB, Wd.okB, Wd.nm, hk, hf], hb⟩

set_option maxHeartbeats 400000 in
theorem refunpack_any (x : Int) (w : World) (h0 : 0 ≤ x) (h1 : x < 18446744073709551616) :
    Calls Tryd.prog 74 #[.int .u64 x] w fun e w' => e = .returned (.tuple #[.int .i64 (Wd.unK x), .int .i64 (Wd.unN x), .int .i64 (Wd.unE x)]) ∧ w = w' := by
  by_cases h2 : x % 16 = 1
  · by_cases h3 : 576460752303423487 < x / 16
    · skip
      have H := Wd.ref_end x 1 (x / 16 - 1152921504606846976) h0 h1 (by omega) (by unfold Wd.refN Wd.kd; rw [if_pos ⟨h2, h3⟩])
      cases hu : Wd.okB 1 (x / 16 - 1152921504606846976)
      all_goals
        rw [hu] at H
        simp only [forall_const, Bool.false_eq_true, Bool.true_eq_false, false_implies, and_true, true_and] at H
        have G := Lib.hid H
        clear H
        go_enter Tryd.func74, Tryd.ntmps74
        go_wp2_with (go_at_call 87; refine (may_any 1 ((x / 16 - 1152921504606846976)) _ (by omega) (by omega)).mono ?_; rintro e w' ⟨rfl, rfl⟩)
        go_ret3
        obtain ⟨g0, g1, g2⟩ := G.out
        exact ⟨by rw [g0, g1, g2]; rfl, rfl⟩
    · skip
      have H := Wd.ref_end x 1 (x / 16) h0 h1 (by omega) (by unfold Wd.refN Wd.kd; rw [if_neg (fun g => h3 g.2)])
      cases hu : Wd.okB 1 (x / 16)
      all_goals
        rw [hu] at H
        simp only [forall_const, Bool.false_eq_true, Bool.true_eq_false, false_implies, and_true, true_and] at H
        have G := Lib.hid H
        clear H
        go_enter Tryd.func74, Tryd.ntmps74
        go_wp2_with (go_at_call 87; refine (may_any 1 ((x / 16)) _ (by omega) (by omega)).mono ?_; rintro e w' ⟨rfl, rfl⟩)
        go_ret3
        obtain ⟨g0, g1, g2⟩ := G.out
        exact ⟨by rw [g0, g1, g2]; rfl, rfl⟩
  · skip
    have H := Wd.ref_end x (x % 16) (x / 16) h0 h1 (by omega) (by unfold Wd.refN Wd.kd; rw [if_neg (fun g => h2 g.1)])
    cases hu : Wd.okB (x % 16) (x / 16)
    all_goals
      rw [hu] at H
      simp only [forall_const, Bool.false_eq_true, Bool.true_eq_false, false_implies, and_true, true_and] at H
      have G := Lib.hid H
      clear H
      go_enter Tryd.func74, Tryd.ntmps74
      go_wp2_with (go_at_call 87; refine (may_any (x % 16) ((x / 16)) _ (by omega) (by omega)).mono ?_; rintro e w' ⟨rfl, rfl⟩)
      go_ret3
      obtain ⟨g0, g1, g2⟩ := G.out
      exact ⟨by rw [g0, g1, g2]; rfl, rfl⟩
end Go.Proofs.YthkjdcmlalgphaaDoor
