/-
  One bucket more splits one bucket, as plain mathematics.
-/
import Derived.Test.YtkijbphbibcnoaaKitBkt
namespace Go.Proofs.Ytkijbphbibcnoaa
open Go.RowKit Go.Deep

theorem powN_two (n : Nat) (h : 1 ≤ n) : powN n = 1 ∧ n = 1 ∨ ∃ q, powN n = 2 * q ∧ q < n ∧ n ≤ 2 * q ∧ 1 ≤ q := by
  have hge := powN_ge n
  by_cases h1 : n = 1
  · subst h1; exact Or.inl ⟨rfl, rfl⟩
  · right
    have hl : lenN (n - 1) = Nat.log2 (n - 1) + 1 := by unfold lenN; rw [if_neg (by omega)]
    refine ⟨2 ^ Nat.log2 (n - 1), ?_, ?_, ?_, Nat.two_pow_pos _⟩
    · unfold powN; rw [hl, Nat.pow_succ]; omega
    · have := Nat.log2_self_le (n := n - 1) (by omega)
      omega
    · have : powN n = 2 * 2 ^ Nat.log2 (n - 1) := by unfold powN; rw [hl, Nat.pow_succ]; omega
      omega
theorem powN_next (n : Nat) (h : 1 ≤ n) : (n < powN n ∧ powN (n + 1) = powN n) ∨ (n = powN n ∧ powN (n + 1) = 2 * powN n) := by
  have hge := powN_ge n
  rcases Nat.lt_or_eq_of_le hge with hlt | heq
  · left
    refine ⟨hlt, ?_⟩
    have : powN n = 2 ^ lenN (n - 1) := rfl
    rw [this]
    refine (powN_is (n + 1) (lenN (n - 1)) (by rw [← this]; omega) ?_).symm
    by_cases h1 : n = 1
    · subst h1; exact Or.inl rfl
    · right
      have hl : lenN (n - 1) = Nat.log2 (n - 1) + 1 := by unfold lenN; rw [if_neg (by omega)]
      rw [hl, Nat.add_sub_cancel]
      have := Nat.log2_self_le (n := n - 1) (by omega)
      omega
  · right
    refine ⟨heq, ?_⟩
    have hp : powN n = 2 ^ lenN (n - 1) := rfl
    have e : 2 * powN n = 2 ^ (lenN (n - 1) + 1) := by rw [hp, Nat.pow_succ]; omega
    rw [e]
    exact (powN_is (n + 1) (lenN (n - 1) + 1) (by rw [← e]; omega) (Or.inr (by rw [Nat.add_sub_cancel, ← hp]; omega))).symm
theorem bkt_lt (h n : Nat) (hn : 1 ≤ n) : bkt h n < n := by
  unfold bkt
  split
  · assumption
  · rcases powN_two n hn with ⟨h1, h2⟩ | ⟨q, h1, h2, h3, h4⟩
    · rename_i hx
      rw [h1, Nat.mod_one] at hx
      omega
    · rw [h1, Nat.mul_div_cancel_left _ (by omega)]
      have := Nat.mod_lt h h4
      omega
/-- The bucket that is split when there is one more than n. -/
def srcN (n : Nat) : Nat := if n = powN n then 0 else n - powN n / 2
theorem bkt_split (h n : Nat) (hn : 1 ≤ n) : (bkt h (n + 1) = bkt h n ∨ bkt h (n + 1) = n) ∧ (bkt h (n + 1) = n → bkt h n = srcN n) := by
  rcases powN_next n hn with ⟨hlt, hp⟩ | ⟨heq, hp⟩
  · unfold bkt srcN
    rw [hp, if_neg (show ¬ n = powN n by omega)]
    rcases powN_two n hn with ⟨h1, h2⟩ | ⟨q, h1, h2, h3, h4⟩
    · omega
    · rw [h1, Nat.mul_div_cancel_left _ (by omega)]
      have hmod : h % (2 * q) % q = h % q := Nat.mod_mul_left_mod h 2 q
      have hq := Nat.mod_lt h h4
      generalize h % (2 * q) = x at *
      by_cases hx1 : x < n
      · rw [if_pos (show x < n + 1 by omega), if_pos hx1]
        exact ⟨Or.inl rfl, fun e => by omega⟩
      · rw [if_neg hx1]
        by_cases hx2 : x < n + 1
        · obtain rfl : x = n := by omega
          rw [if_pos hx2]
          refine ⟨Or.inr rfl, fun _ => ?_⟩
          rw [← hmod, Nat.mod_eq_sub_mod (by omega), Nat.mod_eq_of_lt (by omega)]
        · rw [if_neg hx2]
          exact ⟨Or.inl rfl, fun e => by omega⟩
  · unfold bkt srcN
    rw [hp, if_pos heq, ← heq]
    have hm : h % (2 * n) % n = h % n := Nat.mod_mul_left_mod h 2 n
    have hq := Nat.mod_lt h (show 0 < n from hn)
    have h2 := Nat.mod_lt h (show 0 < 2 * n by omega)
    rw [if_pos hq, Nat.mul_div_cancel_left _ (by omega)]
    generalize h % (2 * n) = x at *
    by_cases hx : x < n + 1
    · rw [if_pos hx]
      by_cases hxn : x = n
      · subst hxn
        exact ⟨Or.inr rfl, fun _ => by rw [← hm, Nat.mod_self]⟩
      · rw [Nat.mod_eq_of_lt (by omega)] at hm
        exact ⟨Or.inl hm, fun e => by omega⟩
    · rw [if_neg hx]
      exact ⟨Or.inl rfl, fun e => by omega⟩

end Go.Proofs.Ytkijbphbibcnoaa
