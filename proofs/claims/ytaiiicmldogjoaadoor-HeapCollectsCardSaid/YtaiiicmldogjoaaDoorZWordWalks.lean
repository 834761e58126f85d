/-
  What the functions of words with tags come to, and what the document's answer beside them does: one contract a function.
-/
import Derived.Test.YtaiiicmldogjoaaDoorRows
import Derived.Test.YtaiiicmldogjoaaDoorZWordPlain
import Derived.Test.YtaiiicmldogjoaaDoorZKitBase
import Derived.WalkKit
import Derived.WalkSpells
import Derived.WalkLawsBesides
import Derived.Lib.Hide
namespace Go.Proofs.YtaiiicmldogjoaaDoor
open Go.RowKit

/-- The table of bounds lies in the variable's block. -/
structure WordTab (w : World) : Prop where
  low : ∀ k : Nat, k < 12 → w.cell? ⟨1, k * 2, none⟩ = some (.int .i64 (Wd.lo k))
  high : ∀ k : Nat, k < 12 → w.cell? ⟨1, k * 2 + 1, none⟩ = some (.int .i64 (Wd.hi k))
  size : 1 < w.heap.size

theorem WordTab.below {w w' : World} (h : WordTab w) (hb : Below w.heap.size w w') : WordTab w' :=
  ⟨fun k hk => by rw [hb.cell (p := ⟨1, k * 2, none⟩) h.size]; exact h.low k hk, fun k hk => by rw [hb.cell (p := ⟨1, k * 2 + 1, none⟩) h.size]; exact h.high k hk, Nat.lt_of_lt_of_le h.size hb.size⟩

set_option maxHeartbeats 400000 in
theorem kind_any (x : Int) (w : World) (h0 : 0 ≤ x) (h1 : x < 18446744073709551616) :
    Calls Tryd.prog 63 #[.int .u64 x] w fun e w' => e = .returned (.int .i64 (Wd.kd x)) ∧ w = w' := by
  have hb := Wd.and15 x h0 h1
  go_enter Tryd.func63, Tryd.ntmps63
  go_wp2
  go_ret
  exact ⟨rfl, rfl⟩

theorem ret_bools {a b c d : Bool} (h : a = b) (h' : c = d) : Ending.returned (.tuple #[.bool a, .bool c]) = .returned (.tuple #[.bool b, .bool d]) := by rw [h, h']

set_option maxHeartbeats 400000 in
theorem wknown_any (k : Int) (w : World) :
    Calls Tryd.prog 64 #[.int .i64 k] w fun e w' => e = .returned (.bool (Wd.knownB k)) ∧ w = w' := by
  go_enter Tryd.func64, Tryd.ntmps64
  go_wp2
  all_goals go_ret
  all_goals exact ⟨ret_bool (by simp [Wd.knownB]; try omega), rfl⟩

set_option maxHeartbeats 400000 in
theorem wfits_any (k n : Int) (w : World) (ht : WordTab w) (h0 : 0 ≤ k) (h1 : k < 12) :
    Calls Tryd.prog 65 #[.int .i64 k, .int .i64 n] w fun e w' => e = .returned (.bool (Wd.fitsB k n)) ∧ Below w.heap.size w w' := by
  obtain ⟨j, rfl⟩ := Int.eq_ofNat_of_zero_le h0
  have hj : j < 12 := by omega
  have c0 := ht.low j hj
  have c1 := ht.high j hj
  clear ht
  go_enter Tryd.func65, Tryd.ntmps65
  go_wp2
  all_goals go_ret
  all_goals refine ⟨ret_bool ?_, (Below.refl _ _).alloc (Nat.le_refl _) _⟩
  all_goals first | exact Wd.fits_no (by assumption) | exact Wd.fits_lo (by assumption) | exact Wd.fits_yes (by assumption) (by assumption) | exact Wd.fits_11 (by assumption) (by assumption)

set_option maxHeartbeats 400000 in
theorem pack_any (k n : Int) (w : World) (ht : WordTab w) (_hn0 : -9223372036854775808 ≤ n) (_hn1 : n ≤ 9223372036854775807) (_hk0 : -9223372036854775808 ≤ k) (_hk1 : k ≤ 9223372036854775807) :
    Calls Tryd.prog 66 #[.int .i64 k, .int .i64 n] w fun e w' => e = .returned (.tuple #[.int .u64 (Wd.packW k n), .int .i64 (Wd.packE k n)]) ∧ Below w.heap.size w w' := by
  cases hk : Wd.knownB k
  · go_enter Tryd.func66, Tryd.ntmps66
    go_wp2_with (go_at_call 64; refine (wknown_any _ _).mono ?_; rintro e w' ⟨rfl, rfl⟩)
    go_ret2
    exact ⟨by simp [Wd.packW, Wd.packE, Wd.okB, hk], Below.refl _ _⟩
  · have hk' := (Wd.knownB_iff k).1 hk
    have h0 := hk'.1
    have h1 := hk'.2
    cases hf : Wd.fitsB k n
    · go_enter Tryd.func66, Tryd.ntmps66
      go_wp2_with (first | (go_at_call 64; refine (wknown_any _ _).mono ?_; rintro e w' ⟨rfl, rfl⟩) | (go_at_call 65; refine (wfits_any _ _ _ ht h0 h1).mono ?_; rintro e w1 ⟨rfl, hb⟩))
      go_ret2
      exact ⟨by simp [Wd.packW, Wd.packE, Wd.okB, hk, hf], hb⟩
    · go_enter Tryd.func66, Tryd.ntmps66
      go_wp2_with (first | (go_at_call 64; refine (wknown_any _ _).mono ?_; rintro e w' ⟨rfl, rfl⟩) | (go_at_call 65; refine (wfits_any _ _ _ ht h0 h1).mono ?_; rintro e w1 ⟨rfl, hb⟩))
      go_ret2
      have e0 : Wd.packE k n = 0 := by simp [Wd.packE, hk, hf]
      have e1 := Wd.pack_bits k n (by simp [Wd.okB, hk, hf])
      exact ⟨by rw [e0, ← e1]; rfl, hb⟩

theorem okB_known {k n : Int} (h : Wd.okB k n = true) : Wd.knownB k = true ∧ Wd.fitsB k n = true := by
  unfold Wd.okB at h; exact Bool.and_eq_true_iff.1 h

set_option maxHeartbeats 400000 in
theorem unpack_any (x : Int) (w : World) (ht : WordTab w) (h0 : 0 ≤ x) (h1 : x < 18446744073709551616) :
    Calls Tryd.prog 44 #[.int .u64 x] w fun e w' => e = .returned (.tuple #[.int .i64 (Wd.unK x), .int .i64 (Wd.unN x), .int .i64 (Wd.unE x)]) ∧ Below w.heap.size w w' := by
  cases hk : Wd.knownB (Wd.kd x)
  · go_enter Tryd.func44, Tryd.ntmps44
    go_wp2_with (first | (go_at_call 63; refine (kind_any _ _ h0 h1).mono ?_; rintro e w' ⟨rfl, rfl⟩) | (go_at_call 64; refine (wknown_any _ _).mono ?_; rintro e w' ⟨rfl, rfl⟩))
    go_ret3
    exact ⟨by simp [Wd.unK, Wd.unN, Wd.unE, Wd.unB, Wd.okB, hk], Below.refl _ _⟩
  · have hk' := (Wd.knownB_iff _).1 hk
    have k0 := hk'.1
    have k1 := hk'.2
    cases hf : Wd.fitsB (Wd.kd x) (wrap64 x / 16)
    all_goals
      go_enter Tryd.func44, Tryd.ntmps44
      go_wp2_with (first | (go_at_call 63; refine (kind_any _ _ h0 h1).mono ?_; rintro e w' ⟨rfl, rfl⟩) | (go_at_call 64; refine (wknown_any _ _).mono ?_; rintro e w' ⟨rfl, rfl⟩) | (go_at_call 65; refine (wfits_any _ (wrap64 x / 16) _ ht k0 k1).mono ?_; rintro e w1 ⟨rfl, hb⟩))
      go_ret3
      exact ⟨by simp [Wd.unK, Wd.unN, Wd.unE, Wd.unB, Wd.okB, Wd.nm, hk, hf], hb⟩

end Go.Proofs.YtaiiicmldogjoaaDoor
