/-
  Size classes, as plain mathematics.
-/
import Derived.Test.YtamafhcgjbkikaaDoorKitLen
namespace Go.Proofs.YtamafhcgjbkikaaDoor

/-- A size class. -/
def Cl (c : Nat) : Prop := c = 2 ∨ ∃ k, c = 3 * 2 ^ k ∨ c = 4 * 2 ^ k
theorem pow_step {i j : Nat} (h : i < j) : 2 * 2 ^ i ≤ 2 ^ j := by
  have h1 : 2 ^ (i + 1) ≤ 2 ^ j := Nat.pow_le_pow_right (by omega) h
  rw [Nat.pow_succ] at h1
  omega
theorem pow_same {i j : Nat} (h : i ≤ j) : 2 ^ i ≤ 2 ^ j := Nat.pow_le_pow_right (by omega) h
theorem Cl.least {c : Nat} (h : Cl c) : 2 ≤ c := by
  rcases h with rfl | ⟨k, rfl | rfl⟩
  · omega
  · have := Nat.two_pow_pos k; omega
  · have := Nat.two_pow_pos k; omega
theorem Cl.after2 {d : Nat} (_ : Cl d) (hd : 2 < d) : 3 * 2 ^ 0 ≤ d := by
  rw [Nat.pow_zero]; omega
theorem Cl.after3 {k d : Nat} (h : Cl d) (hd : 3 * 2 ^ k < d) : 4 * 2 ^ k ≤ d := by
  have hk := Nat.two_pow_pos k
  rcases h with rfl | ⟨j, rfl | rfl⟩
  · omega
  · rcases Nat.lt_trichotomy j k with hj | rfl | hj
    · have := pow_step hj; omega
    · omega
    · have := pow_step hj; omega
  · rcases Nat.lt_trichotomy j k with hj | rfl | hj
    · have := pow_step hj; omega
    · omega
    · have := pow_step hj; omega
theorem Cl.after4 {k d : Nat} (h : Cl d) (hd : 4 * 2 ^ k < d) : 3 * 2 ^ (k + 1) ≤ d := by
  have hk := Nat.two_pow_pos k
  have h1 : 3 * 2 ^ (k + 1) = 6 * 2 ^ k := by rw [Nat.pow_succ]; omega
  rw [h1]
  rcases h with rfl | ⟨j, rfl | rfl⟩
  · omega
  · rcases Nat.lt_trichotomy j k with hj | rfl | hj
    · have := pow_step hj; omega
    · omega
    · have := pow_step hj; omega
  · rcases Nat.lt_trichotomy j k with hj | rfl | hj
    · have := pow_step hj; omega
    · omega
    · have := pow_step hj; omega

/-- The least class that is not less than n. -/
structure Least (n c : Nat) : Prop where
  cl : Cl c
  ge : n ≤ c
  least : ∀ d, Cl d → n ≤ d → c ≤ d
theorem Least.same {n c d : Nat} (h : Least n c) (k : Least n d) : c = d := Nat.le_antisymm (h.least d k.cl k.ge) (k.least c h.cl h.ge)
/-- A number rounded up. -/
def cls (n : Nat) : Nat := if n ≤ 2 then 2 else if n ≤ 3 * 2 ^ (lenN (n - 1) - 2) then 3 * 2 ^ (lenN (n - 1) - 2) else 4 * 2 ^ (lenN (n - 1) - 2)
theorem lenN_ge {n : Nat} (h : 3 ≤ n) : 2 ≤ lenN (n - 1) := by
  unfold lenN
  rw [if_neg (by omega)]
  have : 1 ≤ Nat.log2 (n - 1) := (Nat.le_log2 (by omega)).2 (by omega)
  omega
theorem lenN_low {n : Nat} (h : 3 ≤ n) : 2 * 2 ^ (lenN (n - 1) - 2) < n := by
  have h1 := lenN_ge h
  unfold lenN at *
  rw [if_neg (by omega)] at *
  have h2 : 2 ^ Nat.log2 (n - 1) ≤ n - 1 := Nat.log2_self_le (by omega)
  have h3 : 2 ^ Nat.log2 (n - 1) = 2 * 2 ^ (Nat.log2 (n - 1) + 1 - 2) := by
    obtain ⟨j, hj⟩ : ∃ j, Nat.log2 (n - 1) = j + 1 := ⟨Nat.log2 (n - 1) - 1, by omega⟩
    rw [hj, Nat.pow_succ, show j + 1 + 1 - 2 = j by omega]
    omega
  omega
theorem lenN_high {n : Nat} (h : 3 ≤ n) : n ≤ 4 * 2 ^ (lenN (n - 1) - 2) := by
  have h1 := lenN_ge h
  unfold lenN at *
  rw [if_neg (by omega)] at *
  have h2 : n - 1 < 2 ^ (Nat.log2 (n - 1) + 1) := Nat.lt_log2_self
  have h3 : 2 ^ (Nat.log2 (n - 1) + 1) = 4 * 2 ^ (Nat.log2 (n - 1) + 1 - 2) := by
    obtain ⟨j, hj⟩ : ∃ j, Nat.log2 (n - 1) = j + 1 := ⟨Nat.log2 (n - 1) - 1, by omega⟩
    rw [hj, show j + 1 + 1 - 2 = j by omega, Nat.pow_succ, Nat.pow_succ]
    omega
  omega
theorem cls_least (n : Nat) : Least n (cls n) := by
  unfold cls
  by_cases h2 : n ≤ 2
  · rw [if_pos h2]
    exact ⟨Or.inl rfl, h2, fun d hd _ => hd.least⟩
  · have h3 : 3 ≤ n := by omega
    have hl := lenN_low h3
    have hh := lenN_high h3
    rw [if_neg h2]
    generalize lenN (n - 1) - 2 = k at *
    by_cases h4 : n ≤ 3 * 2 ^ k
    · rw [if_pos h4]
      refine ⟨Or.inr ⟨k, Or.inl rfl⟩, h4, fun d hd hn => ?_⟩
      cases k with
      | zero => rw [Nat.pow_zero]; omega
      | succ j =>
        refine hd.after4 (k := j) ?_
        rw [Nat.pow_succ] at hl
        omega
    · rw [if_neg h4]
      exact ⟨Or.inr ⟨k, Or.inr rfl⟩, hh, fun d hd hn => hd.after3 (by omega)⟩
theorem cls_of {n c : Nat} (h : Least n c) : c = cls n := h.same (cls_least n)
theorem cls_cls (n : Nat) : cls (cls n) = cls n := (cls_of ⟨(cls_least n).cl, Nat.le_refl _, fun _ _ h => h⟩).symm
theorem cls_ge (n : Nat) : n ≤ cls n := (cls_least n).ge
theorem cls_pos (n : Nat) : 2 ≤ cls n := (cls_least n).cl.least
theorem cls_mono {n m : Nat} (h : n ≤ m) : cls n ≤ cls m := (cls_least n).least _ (cls_least m).cl (Nat.le_trans h (cls_ge m))
theorem most_cl : Cl 16777216 := Or.inr ⟨22, Or.inr (by decide)⟩
theorem cls_most {n : Nat} (h : n ≤ 16777216) : cls n ≤ 16777216 := (cls_least n).least _ most_cl h
theorem cls_waste {n : Nat} (h : 1 < n) : 2 * cls n < 3 * n := by
  unfold cls
  by_cases h2 : n ≤ 2
  · rw [if_pos h2]; omega
  · have hl := lenN_low (n := n) (by omega)
    have hh := lenN_high (n := n) (by omega)
    have hp := Nat.two_pow_pos (lenN (n - 1) - 2)
    rw [if_neg h2]
    split <;> omega
theorem cls_one : cls 1 = 2 := rfl
/-- .. in the whole range of numbers. -/
def rnd (n : Int) : Int := if 1 ≤ n ∧ n ≤ 16777216 then (cls n.toNat : Int) else 0
theorem rnd_in {n : Nat} (h1 : 1 ≤ n) (h2 : n ≤ 16777216) : rnd n = cls n := by rw [rnd, if_pos (by omega), Int.toNat_natCast]
theorem rnd_out {n : Int} (h : n < 1 ∨ 16777216 < n) : rnd n = 0 := by rw [rnd, if_neg (by omega)]
theorem rnd_zero (n : Nat) : rnd n = 0 ↔ ¬ (1 ≤ n ∧ n ≤ 16777216) := by
  unfold rnd
  have := cls_pos n
  rw [Int.toNat_natCast]
  split <;> omega
theorem rnd_bounds (n : Int) : 0 ≤ rnd n ∧ rnd n ≤ 16777216 := by
  unfold rnd
  split
  · have := cls_most (n := n.toNat) (by omega)
    omega
  · omega
/-- What the program makes of the digits. -/
theorem cls_prog {n m : Nat} (h1 : 1 ≤ n) (hm : m = 2 ^ lenN (max n 2 - 1)) : 2 ≤ m ∧ (max n 2 ≤ m - m / 4 → cls n = m - m / 4) ∧ (m - m / 4 < max n 2 → cls n = m) := by
  by_cases h2 : n ≤ 2
  · have e : max n 2 = 2 := by omega
    rw [e] at hm ⊢
    obtain rfl : m = 2 := hm.trans (by decide)
    refine ⟨by omega, fun _ => ?_, fun h => ?_⟩
    · unfold cls; rw [if_pos h2]
    · omega
  · have e : max n 2 = n := by omega
    rw [e] at hm ⊢
    have h3 := lenN_ge (n := n) (by omega)
    have h4 : m = 4 * 2 ^ (lenN (n - 1) - 2) := by
      rw [hm]
      obtain ⟨j, hj⟩ : ∃ j, lenN (n - 1) = j + 2 := ⟨lenN (n - 1) - 2, by omega⟩
      rw [hj, Nat.add_sub_cancel, Nat.pow_succ, Nat.pow_succ]
      omega
    have hp := Nat.two_pow_pos (lenN (n - 1) - 2)
    unfold cls
    rw [if_neg h2]
    generalize 2 ^ (lenN (n - 1) - 2) = q at *
    refine ⟨by omega, fun h => ?_, fun h => ?_⟩
    · rw [if_pos (by omega)]; omega
    · rw [if_neg (by omega)]; omega

end Go.Proofs.YtamafhcgjbkikaaDoor
