/-
  The table of shapes, and what the functions that read it come to.
-/
import Derived.Test.YtamafhcgjbkikaaDoorTermReads
namespace Go.Proofs.YtamafhcgjbkikaaDoor
open Go.RowKit Go.Deep

/-- The table of shapes: least and most of N, bytes of S, fewest and most of L, words. -/
def shp (k j : Nat) : Int :=
  match j with
  | 0 => if k = 1 then -576460752303423488 else 0
  | 1 => if k = 1 then 576460752303423487 else if k = 3 ∨ k = 4 ∨ k = 5 ∨ k = 6 then 1073741824 else 0
  | 2 => if k = 2 then 64 else 0
  | 3 => if k = 9 then 2 else 0
  | 4 => if k = 5 ∨ k = 7 then 64 else if k = 9 then 2 else 0
  | _ => if k = 5 ∨ k = 7 then 2 else if k = 0 then 0 else 1

/-- The table lies in the variable's block. -/
structure ShapeTab (w : World) : Prop where
  cell : ∀ k j : Nat, k < 10 → j < 6 → w.cell? ⟨1, k * 6 + j, none⟩ = some (.int .i64 (shp k j))
  size : 1 < w.heap.size

theorem ShapeTab.cell0 {w : World} (h : ShapeTab w) (k : Nat) (hk : k < 10) : w.cell? ⟨1, k * 6, none⟩ = some (.int .i64 (shp k 0)) := h.cell k 0 hk (by omega)
theorem ShapeTab.below {w w' : World} (h : ShapeTab w) (hb : Below w.heap.size w w') : ShapeTab w' :=
  ⟨fun k j hk hj => by rw [hb.cell (p := ⟨1, k * 6 + j, none⟩) h.size]; exact h.cell k j hk hj, Nat.lt_of_lt_of_le h.size hb.size⟩
theorem ShapeTab.from {w w' : World} {B : Nat} (h : ShapeTab w) (hb : Below B w w') (hB : 1 < B) : ShapeTab w' :=
  ⟨fun k j hk hj => by rw [hb.cell (p := ⟨1, k * 6 + j, none⟩) hB]; exact h.cell k j hk hj, Nat.lt_of_lt_of_le h.size hb.size⟩

/-- Is there such a kind? -/
def knownK (k : Int) : Bool := decide (0 < k ∧ k < 10)
/-- Its words, without those of the parts; does it have parts? -/
def ownW (k : Int) : Int := if k = 5 ∨ k = 7 then 2 else 1
def hasL (k : Int) : Bool := decide (k = 5 ∨ k = 7 ∨ k = 9)
/-- May a term be, but for its parts? -/
def fitB (k n : Int) (s len : Nat) : Bool :=
  decide ((k = 1 ∧ -576460752303423488 ≤ n ∧ n ≤ 576460752303423487 ∧ s = 0 ∧ len = 0) ∨ (k = 2 ∧ n = 0 ∧ s ≤ 64 ∧ len = 0) ∨ ((k = 3 ∨ k = 4 ∨ k = 6) ∧ 0 ≤ n ∧ n ≤ 1073741824 ∧ s = 0 ∧ len = 0) ∨
    (k = 5 ∧ 0 ≤ n ∧ n ≤ 1073741824 ∧ s = 0 ∧ len ≤ 64) ∨ (k = 7 ∧ n = 0 ∧ s = 0 ∧ len ≤ 64) ∨ (k = 8 ∧ n = 0 ∧ s = 0 ∧ len = 0) ∨ (k = 9 ∧ n = 0 ∧ s = 0 ∧ len = 2))

theorem known_is (k : Int) : knownK k = true ↔ 0 < k ∧ k < 10 := by simp [knownK]
theorem known_not (k : Int) : knownK k = false ↔ ¬ (0 < k ∧ k < 10) := by simp [knownK]

set_option maxHeartbeats 400000 in
theorem known_any (k : Int) (w : World) : Calls Tryd.prog 55 #[.int .i64 k] w fun e w' => e = .returned (.bool (knownK k)) ∧ w = w' := by
  go_enter Tryd.func55, Tryd.ntmps55
  go_wp2
  all_goals go_ret
  all_goals exact ⟨ret_bool (by simp [knownK]; try omega), rfl⟩

set_option maxHeartbeats 400000 in
theorem ownWords_any (k : Int) (w : World) (ht : ShapeTab w) : Calls Tryd.prog 48 #[.int .i64 k] w fun e w' => e = .returned (.int .i64 (ownW k)) ∧ w = w' := by
  cases hk : knownK k
  · have hk' := (known_not k).1 hk
    go_enter Tryd.func48, Tryd.ntmps48
    go_wp2_with (go_at_call 55; refine (known_any _ _).mono ?_; rintro e w' ⟨rfl, rfl⟩)
    go_ret
    exact ⟨ret_int (by simp only [ownW]; split <;> omega), rfl⟩
  · have hk' := (known_is k).1 hk
    obtain ⟨j, rfl⟩ := Int.eq_ofNat_of_zero_le (by omega : 0 ≤ k)
    have hj : j < 10 := by omega
    have hj0 : 0 < j := by omega
    have c5 := ht.cell j 5 hj (by omega)
    clear ht hk'
    go_enter Tryd.func48, Tryd.ntmps48
    go_wp2_with (go_at_call 55; refine (known_any _ _).mono ?_; rintro e w' ⟨rfl, rfl⟩)
    go_ret
    refine ⟨ret_int ?_, rfl⟩
    simp only [shp, ownW]
    split <;> split <;> omega

theorem hasL_is (k : Int) : hasL k = true ↔ k = 5 ∨ k = 7 ∨ k = 9 := by simp [hasL]
theorem hasL_not (k : Int) : hasL k = false ↔ ¬ (k = 5 ∨ k = 7 ∨ k = 9) := by simp [hasL]

/-- The parts that count. -/
def insV (k : Int) (a : Option Addr) (len cap : Nat) : Value := if hasL k = true then .slice a len cap else .slice none 0 0
theorem insV_yes {k : Int} (h : hasL k = true) (a : Option Addr) (len cap : Nat) : insV k a len cap = .slice a len cap := by rw [insV, if_pos h]
theorem insV_no {k : Int} (h : hasL k = false) (a : Option Addr) (len cap : Nat) : insV k a len cap = .slice none 0 0 := by rw [insV, h]; rfl
set_option maxHeartbeats 400000 in
theorem inside_any (k n : Int) (s : ByteArray) (a : Option Addr) (len cap : Nat) (w : World) (ht : ShapeTab w) :
    Calls Tryd.prog 57 #[.agg #[.int .i64 k, .int .i64 n, .string s, .slice a len cap]] w fun e w' => e = .returned (insV k a len cap) ∧ Below w.heap.size w w' := by
  cases hk : knownK k
  · have hk' := (known_not k).1 hk
    have hl : hasL k = false := (hasL_not k).2 (by omega)
    go_enter Tryd.func57, Tryd.ntmps57
    go_wp2_with (go_at_call 55; refine (known_any _ _).mono ?_; rintro e w' ⟨rfl, rfl⟩)
    go_ret
    exact ⟨ret_val (insV_no hl _ _ _).symm, (Below.refl _ _).alloc (Nat.le_refl _) _⟩
  · have hk' := (known_is k).1 hk
    obtain ⟨j, rfl⟩ := Int.eq_ofNat_of_zero_le (by omega : 0 ≤ k)
    have hj : j < 10 := by omega
    have hj0 : 0 < j := by omega
    have hbw : Below w.heap.size w (w.alloc (.cells #[.int .i64 j, .int .i64 n, .string s, .slice a len cap] 24)) := (Below.refl _ _).alloc (Nat.le_refl _) _
    have c4 := (ht.below hbw).cell j 4 hj (by omega)
    have hsh : Hid (shp j 4 = 0 ↔ hasL j = false) := Hid.mk (by rw [hasL_not]; simp only [shp]; split <;> (try split) <;> omega)
    generalize shp j 4 = x at c4 hsh
    clear ht hk'
    go_enter Tryd.func57, Tryd.ntmps57
    go_wp2_with (go_at_call 55; refine (known_any _ _).mono ?_; rintro e w' ⟨rfl, rfl⟩)
    · go_ret
      exact ⟨ret_val (insV_no (hsh.out.1 (by simpa using (by assumption : (x == 0) = true))) _ _ _).symm, (Below.refl _ _).alloc (Nat.le_refl _) _⟩
    · go_ret
      refine ⟨ret_val (insV_yes ?_ _ _ _).symm, (Below.refl _ _).alloc (Nat.le_refl _) _⟩
      cases hL : hasL j
      · have := hsh.out.2 hL
        simp_all
      · rfl

set_option maxHeartbeats 800000 in
theorem fits_any (k n : Int) (s : ByteArray) (a : Option Addr) (len cap : Nat) (w : World) (ht : ShapeTab w) (hn0 : -9223372036854775808 ≤ n) (hn1 : n ≤ 9223372036854775807) (_hs : s.size ≤ 9223372036854775807) (hlen : len ≤ 9223372036854775807) :
    Calls Tryd.prog 49 #[.agg #[.int .i64 k, .int .i64 n, .string s, .slice a len cap]] w fun e w' => e = .returned (.bool (fitB k n s.size len)) ∧ Below w.heap.size w w' := by
  cases hk : knownK k
  · have hk' := (known_not k).1 hk
    have hl : fitB k n s.size len = false := by simp only [fitB, decide_eq_false_iff_not]; omega
    go_enter Tryd.func49, Tryd.ntmps49
    go_wp2_with (go_at_call 55; refine (known_any _ _).mono ?_; rintro e w' ⟨rfl, rfl⟩)
    go_ret
    exact ⟨ret_bool hl.symm, (Below.refl _ _).alloc (Nat.le_refl _) _⟩
  · have hk' := (known_is k).1 hk
    obtain ⟨j, rfl⟩ := Int.eq_ofNat_of_zero_le (by omega : 0 ≤ k)
    have hj : j < 10 := by omega
    have hj0 : 0 < j := by omega
    have hbw : Below w.heap.size w (w.alloc (.cells #[.int .i64 j, .int .i64 n, .string s, .slice a len cap] 24)) := (Below.refl _ _).alloc (Nat.le_refl _) _
    have c0 := (ht.below hbw).cell0 j hj
    have c1 := (ht.below hbw).cell j 1 hj (by omega)
    have c2 := (ht.below hbw).cell j 2 hj (by omega)
    have c3 := (ht.below hbw).cell j 3 hj (by omega)
    have c4 := (ht.below hbw).cell j 4 hj (by omega)
    have c5 := (ht.below hbw).cell j 5 hj (by omega)
    have hfit : Hid (fitB j n s.size len = decide (shp j 0 ≤ n ∧ n ≤ shp j 1 ∧ (s.size : Int) ≤ shp j 2 ∧ shp j 3 ≤ len ∧ (len : Int) ≤ shp j 4)) := Hid.mk (by
      rw [fitB, decide_eq_decide]
      generalize s.size = z
      rcases (show j = 1 ∨ j = 2 ∨ j = 3 ∨ j = 4 ∨ j = 5 ∨ j = 6 ∨ j = 7 ∨ j = 8 ∨ j = 9 by omega) with rfl | rfl | rfl | rfl | rfl | rfl | rfl | rfl | rfl <;> simp [shp] <;> omega)
    generalize shp j 0 = x0 at c0 hfit
    generalize shp j 1 = x1 at c1 hfit
    generalize shp j 2 = x2 at c2 hfit
    generalize shp j 3 = x3 at c3 hfit
    generalize shp j 4 = x4 at c4 hfit
    generalize shp j 5 = x5 at c5
    generalize fitB j n s.size len = y at hfit ⊢
    clear ht hk'
    go_enter Tryd.func49, Tryd.ntmps49
    go_wp2_with (go_at_call 55; refine (known_any _ _).mono ?_; rintro e w' ⟨rfl, rfl⟩)
    all_goals go_ret
    all_goals
      refine ⟨ret_bool ?_, ((Below.refl _ _).alloc (Nat.le_refl _) _).alloc (by simp) _⟩
      rw [hfit.out, Bool.eq_iff_iff]
      simp only [decide_eq_true_eq, Bool.false_eq_true, false_iff]
      omega

end Go.Proofs.YtamafhcgjbkikaaDoor
