/-
  Numbers in a row, as keys; the greatest height.
-/
import Derived.Test.YteklhipcojioaaaDoorZTreeKn
import Derived.Test.YteklhipcojioaaaDoorZKitPick
namespace Go.Proofs.YteklhipcojioaaaDoor
open Go.RowKit Go.Deep Go.Maps Go.WideShapes

theorem num_cmp (a b : Int) : (Tm.num a).cmp (.num b) = cmpI a b := by
  unfold Tm.num
  rw [cmp_mk]
  simp [lex, cmpI]
/-- The numbers from a on, n of them. -/
def numL (a n : Nat) : List Nd := (List.range' a n).map fun (j : Nat) => (Tm.num (j : Int), (j : Int))
theorem numL_len (a n : Nat) : (numL a n).length = n := by simp [numL]
theorem numL_at (a n i : Nat) (h : i < (numL a n).length) : (numL a n)[i] = (Tm.num ((a + i : Nat) : Int), ((a + i : Nat) : Int)) := by
  simp [numL]
theorem numL_end (a n : Nat) : numL a (n + 1) = numL a n ++ [(Tm.num ((a + n : Nat) : Int), ((a + n : Nat) : Int))] := by
  simp [numL, List.range'_concat]
theorem numL_front (a n : Nat) : numL a (n + 1) = (Tm.num (a : Int), (a : Int)) :: numL (a + 1) n := by
  simp [numL, List.range'_succ]
theorem cmpI_lt {a b : Int} (h : a < b) : cmpI a b = -1 := by unfold cmpI; rw [if_pos h]
theorem cmpI_gt {a b : Int} (h : b < a) : cmpI a b = 1 := by unfold cmpI; rw [if_neg (by omega), if_pos h]
theorem at_mid (a n k : Nat) (h1 : a ≤ k) (h2 : k ≤ a + n) : atN (numL a n) (.num k) = k - a := by
  refine atN_is (by rw [numL_len]; omega) (fun j hj h => ?_) (fun h => ?_)
  · rw [numL_at, num_cmp, cmpI_lt (by omega)]
    decide
  · rw [numL_at, num_cmp]
    have e : ((a + (k - a) : Nat) : Int) = (k : Int) := by omega
    rw [e, cmpI_zero.2 rfl]
    decide
theorem is_mid (a n k : Nat) (h1 : a ≤ k) (h2 : k < a + n) : isN (numL a n) (.num k) = true ∧ getN (numL a n) (.num k) = k := by
  have ha := at_mid a n k h1 (by omega)
  have hl : k - a < (numL a n).length := by rw [numL_len]; omega
  have e : ((a + (k - a) : Nat) : Int) = (k : Int) := by omega
  have h3 : isN (numL a n) (.num k) = true := by
    refine isN_of (by rw [ha]; exact hl) ?_
    simp only [ha]
    rw [numL_at, num_cmp, e]
    exact cmpI_zero.2 rfl
  refine ⟨h3, ?_⟩
  unfold getN
  rw [if_pos h3, ha, numN, List.getElem?_eq_getElem hl, numL_at]
  exact e
theorem put_end (n : Nat) : isN (numL 0 n) (.num n) = false ∧ getN (numL 0 n) (.num n) = 0 ∧ putN (numL 0 n) (.num n) n = numL 0 (n + 1) := by
  have ha := at_mid 0 n n (by omega) (by omega)
  rw [Nat.sub_zero] at ha
  have h3 : isN (numL 0 n) (.num n) = false := by
    unfold isN
    rw [ha, List.getElem?_eq_none (by rw [numL_len]; omega)]
  refine ⟨h3, by unfold getN; rw [h3]; rfl, ?_⟩
  unfold putN
  rw [h3, ha, numL_end]
  simp [numL_len, List.take_of_length_le, List.drop_of_length_le]
theorem put_front (a n : Nat) : isN (numL (a + 1) n) (.num a) = false ∧ getN (numL (a + 1) n) (.num a) = 0 ∧ putN (numL (a + 1) n) (.num a) a = numL a (n + 1) := by
  have hc : ∀ h : 0 < (numL (a + 1) n).length, (numL (a + 1) n)[0].1.cmp (.num a) = 1 := fun h => by
    rw [numL_at, num_cmp, cmpI_gt (by omega)]
  have ha : atN (numL (a + 1) n) (.num a) = 0 := atN_is (Nat.zero_le _) (fun j hj => absurd hj (Nat.not_lt_zero j)) (fun h => by rw [hc h]; decide)
  have h3 : isN (numL (a + 1) n) (.num a) = false := by
    unfold isN
    rw [ha]
    by_cases h : 0 < (numL (a + 1) n).length
    · rw [List.getElem?_eq_getElem h]
      simp only
      rw [hc h]
      decide
    · rw [List.getElem?_eq_none (by omega)]
  refine ⟨h3, by unfold getN; rw [h3]; rfl, ?_⟩
  unfold putN
  rw [h3, ha, numL_front]
  simp
theorem num_checks : ((List.range 601).all fun k => (Tm.num (k : Int)).check == 0) = true := by decide +kernel
theorem num_ok {k : Nat} (h : k ≤ 600) : KeyOk (.num k) :=
  ⟨by have := List.all_eq_true.1 num_checks k (List.mem_range.2 (by omega)); simpa using this, by rw [(num_mk k).1]; decide, (num_mk k).2⟩

def mostV (n : Nat) : Nat := Nat.log2 ((n + 1) * (n + 1)) + 2
theorem low_most {x : Int} {n : Nat} (h : LowI x n) : x ≤ mostV n := by
  have h1 : x.toNat ≤ Nat.log2 ((n + 1) * (n + 1)) := (Nat.le_log2 (by exact Nat.ne_of_gt (Nat.mul_pos (Nat.succ_pos n) (Nat.succ_pos n)))).2 (by have := h.2; rwa [Nat.pow_two] at this)
  unfold mostV
  omega
set_option maxHeartbeats 2000000 in
theorem most_any (n : Nat) (hn : n ≤ 600) (w : World) : Calls Tryd.prog 34 #[.int .i64 n] w fun e w' => e = .returned (.int .i64 (mostV n)) ∧ w = w' := by
  obtain ⟨M, hM⟩ : ∃ M, n + 1 = M := ⟨_, rfl⟩
  obtain ⟨MM, hMM⟩ : ∃ MM, M * M = MM := ⟨_, rfl⟩
  have hmul : MM ≤ 601 * 601 := by rw [← hMM]; exact Nat.mul_le_mul (by omega) (by omega)
  have hpos : MM ≠ 0 := by rw [← hMM]; exact Nat.ne_of_gt (Nat.mul_pos (by omega) (by omega))
  obtain ⟨g, hg⟩ : ∃ g, Nat.log2 MM = g := ⟨_, rfl⟩
  have hle : ∀ k, k ≤ g ↔ 2 ^ k ≤ MM := fun k => by rw [← hg]; exact Nat.le_log2 hpos
  have hg1 : g ≤ 18 := by
    by_cases h : g ≤ 18
    · exact h
    · have h1 := (hle 19).1 (by omega)
      have h2 : (2 : Nat) ^ 19 = 524288 := rfl
      omega
  have hv : mostV n = g + 2 := by unfold mostV; rw [hM, hMM, hg]
  rw [hv]
  have hw1 : IntKind.i64.wrap ((n : Int) + 1) = (M : Int) := by rw [wrap_id (by omega) (by omega)]; omega
  have hw2 : IntKind.i64.wrap ((M : Int) * M) = (MM : Int) := by rw [← hMM, wrap_id (by rw [← Int.natCast_mul, hMM]; omega) (by rw [← Int.natCast_mul, hMM]; omega)]; simp
  have HLE := Hid.mk hle
  have HG := Hid.mk hg1
  clear hle hmul hpos hMM hM hv hg hn hg1
  go_enter Tryd.func34, Tryd.ntmps34
  go_wp2
  go_loopw [3] (fun hh wr => ∃ h : Nat, hh = .int .i64 h ∧ 2 ≤ h ∧ h ≤ g + 2 ∧ wr = w) (fun hh _ => g + 2 - (intOf hh).toNat)
  case atStart => exact ⟨2, rfl, by omega, by omega, rfl⟩
  case round =>
    obtain ⟨h, rfl, h2, hg2, rfl⟩ := hrel
    have hg1 := HG.out
    have hle := HLE.out (h - 1)
    obtain ⟨K, hK⟩ : ∃ K, h - 1 = K := ⟨_, rfl⟩
    rw [hK] at hle
    have hw3 : IntKind.i64.wrap ((h : Int) - 1) = (K : Int) := by rw [wrap_id (by omega) (by omega)]; omega
    have hw4 : IntKind.i64.wrap ((h : Int) + 1) = ((h + 1 : Nat) : Int) := by rw [wrap_id (by omega) (by omega)]; omega
    have hk64 : min K 64 = K := by omega
    obtain ⟨P, hP⟩ : ∃ P, 2 ^ K = P := ⟨_, rfl⟩
    have hP2 : P ≤ 2 ^ 20 := by rw [← hP]; exact Nat.pow_le_pow_right (by decide) (by omega)
    have h20 : (2 : Nat) ^ 20 = 1048576 := rfl
    rw [h20] at hP2
    have hpw : wrap64 (2 ^ min K 64) = (P : Int) := by
      have h5 : ((2 : Int) ^ K) = (P : Int) := by rw [← hP]; simp
      rw [hk64, h5]
      have h7 := wrap_id (x := (P : Int)) (by omega) (by omega)
      rw [IntKind.wrap_i64] at h7
      unfold wrap64
      exact h7
    rw [hP] at hle
    by_cases hlt : K ≤ g
    · have hd : wrap64 (2 ^ min K 64) ≤ (MM : Int) := by rw [hpw]; exact Int.ofNat_le.2 (hle.1 hlt)
      have HH := Hid.mk (show h + 1 ≤ g + 2 by omega)
      clear hle hP2 hP hpw hk64 h20 hg1 hlt
      go_wp2
      go_roundw
      case rel => exact ⟨h + 1, by simp, by omega, HH.out, trivial⟩
      case measure => have := HH.out; simp [intOf]; omega
    · have hd : ¬ wrap64 (2 ^ min K 64) ≤ (MM : Int) := by rw [hpw]; intro hh; exact hlt (hle.2 (Int.ofNat_le.1 hh))
      have HH := Hid.mk (show h = g + 2 by omega)
      clear hle hP2 hP hpw hk64 h20 hg1 hlt
      go_wp2
      go_ret
      exact ⟨by rw [HH.out]; simp, rfl⟩
end Go.Proofs.YteklhipcojioaaaDoor
