/-
  Plain facts about words of 64 bits with tags: which kinds and numbers there are, which word they have, and that the one leads back to the other. It speaks of integers alone.
-/
import Derived.RowKit
import Derived.Laws.BitsAllLaws
namespace Go.Proofs.YtaiiicmldogjoaaDoor.Wd
open Go.RowKit

def two64 : Int := 18446744073709551616
def two59 : Int := 576460752303423488
def lo (k : Int) : Int := if k = 1 then -576460752303423488 else 0
def hi (k : Int) : Int := if k = 0 ∨ k = 8 then 0 else if k = 1 then 576460752303423487 else if k = 10 then 64 else if k = 11 then 137438953536 else 1073741824
def knownB (k : Int) : Bool := decide (0 ≤ k ∧ k < 12)
def fitsB (k n : Int) : Bool := decide (lo k ≤ n ∧ n ≤ hi k ∧ (k = 11 → n % 128 ≤ 64))
/-- Is there such a word? -/
def okB (k n : Int) : Bool := knownB k && fitsB k n
def packW (k n : Int) : Int := if okB k n = true then (n * 16 + k) % 18446744073709551616 else 0
def packE (k n : Int) : Int := if knownB k = true then (if fitsB k n = true then 0 else 5) else 2
def kd (w : Int) : Int := w % 16
def nm (w : Int) : Int := wrap64 w / 16
def unB (w : Int) : Bool := okB (kd w) (nm w)
def unK (w : Int) : Int := if unB w = true then kd w else 0
def unN (w : Int) : Int := if unB w = true then nm w else 0
def unE (w : Int) : Int := if unB w = true then 0 else 4

theorem knownB_iff (k : Int) : knownB k = true ↔ 0 ≤ k ∧ k < 12 := by simp [knownB]
theorem knownB_not (k : Int) : knownB k = false ↔ ¬ (0 ≤ k ∧ k < 12) := by simp [knownB]
theorem fitsB_iff (k n : Int) : fitsB k n = true ↔ lo k ≤ n ∧ n ≤ hi k ∧ (k = 11 → n % 128 ≤ 64) := by unfold fitsB; exact decide_eq_true_iff
theorem okB_iff (k n : Int) : okB k n = true ↔ 0 ≤ k ∧ k < 12 ∧ lo k ≤ n ∧ n ≤ hi k ∧ (k = 11 → n % 128 ≤ 64) := by
  unfold okB; rw [Bool.and_eq_true, knownB_iff, fitsB_iff]; exact ⟨fun ⟨⟨a, b⟩, c⟩ => ⟨a, b, c⟩, fun ⟨a, b, c⟩ => ⟨⟨a, b⟩, c⟩⟩
theorem lo_bd (k : Int) : -576460752303423488 ≤ lo k ∧ lo k ≤ 0 := by unfold lo; split <;> omega
theorem hi_bd (k : Int) : 0 ≤ hi k ∧ hi k ≤ 576460752303423487 := by unfold hi; repeat' split <;> omega

theorem lo_is (k : Int) : (k = 1 → lo k = -576460752303423488) ∧ (¬ k = 1 → lo k = 0) := by
  unfold lo; split <;> omega
theorem hi_is (k : Int) : (k = 0 ∨ k = 8 → hi k = 0) ∧ (k = 1 → hi k = 576460752303423487) ∧ (k = 10 → hi k = 64) ∧ (k = 11 → hi k = 137438953536) ∧ (¬ (k = 0 ∨ k = 8 ∨ k = 1 ∨ k = 10 ∨ k = 11) → hi k = 1073741824) := by
  unfold hi; repeat' split <;> omega
theorem fits_no {k n : Int} (h : n < lo k ∨ hi k < n) : false = fitsB k n := by
  refine (Bool.eq_false_iff.2 fun e => ?_).symm
  have := (fitsB_iff k n).1 e
  omega
theorem fits_lo {k n : Int} (h : n < lo k) : false = fitsB k n := fits_no (Or.inl h)
theorem fits_11 {k n : Int} (h : lo k ≤ n ∧ n ≤ hi k) (hk : k = 11) : decide (n.tmod 128 ≤ 64) = fitsB k n := by
  subst hk
  have h0 : 0 ≤ n := by have := h.1; simpa [lo] using this
  rw [Int.tmod_eq_emod_of_nonneg h0]
  unfold fitsB
  rw [decide_eq_decide]
  exact ⟨fun g => ⟨h.1, h.2, fun _ => g⟩, fun g => g.2.2 rfl⟩
theorem fits_yes {k n : Int} (h : lo k ≤ n ∧ n ≤ hi k) (hk : ¬ k = 11) : true = fitsB k n := ((fitsB_iff k n).2 ⟨h.1, h.2, fun e => absurd e hk⟩).symm

theorem packW_bd (k n : Int) : 0 ≤ packW k n ∧ packW k n < 18446744073709551616 := by
  unfold packW
  split
  · exact ⟨Int.emod_nonneg _ (by omega), Int.emod_lt_of_pos _ (by omega)⟩
  · omega
theorem kd_bd (w : Int) : 0 ≤ kd w ∧ kd w < 16 := by unfold kd; omega
theorem nm_bd (w : Int) : -576460752303423488 ≤ nm w ∧ nm w ≤ 576460752303423487 := by unfold nm wrap64; omega

/-- What is packed is unpacked as it was. -/
theorem back1 (k n : Int) (h : okB k n = true) : kd (packW k n) = k ∧ nm (packW k n) = n := by
  have h' := (okB_iff k n).1 h
  have l := lo_bd k
  have u := hi_bd k
  unfold packW kd nm wrap64
  rw [if_pos h]
  omega
theorem back1K (k n : Int) (h : okB k n = true) : unB (packW k n) = true ∧ unK (packW k n) = k ∧ unN (packW k n) = n ∧ unE (packW k n) = 0 := by
  obtain ⟨a, b⟩ := back1 k n h
  have hu : unB (packW k n) = true := by unfold unB; rw [a, b]; exact h
  unfold unK unN unE
  simp only [hu, if_true]
  exact ⟨trivial, a, b, trivial⟩
/-- Each word that is unpacked is packed as it was. -/
theorem back2 (w : Int) (h0 : 0 ≤ w) (h1 : w < 18446744073709551616) (h : unB w = true) : packW (kd w) (nm w) = w := by
  unfold packW
  unfold unB at h
  rw [if_pos h]
  unfold kd nm wrap64
  omega
theorem packE_zero (k n : Int) : packE k n = 0 ↔ okB k n = true := by
  unfold packE okB
  cases knownB k <;> cases fitsB k n <;> simp
theorem unE_zero (w : Int) : unE w = 0 ↔ unB w = true := by
  unfold unE
  cases unB w <;> simp
theorem apart1 (k n o m : Int) (h : okB k n = true) (g : okB o m = true) : packW k n = packW o m ↔ k = o ∧ n = m := by
  constructor
  · intro e
    obtain ⟨a, b⟩ := back1 k n h
    obtain ⟨c, d⟩ := back1 o m g
    rw [e] at a b
    exact ⟨a.symm.trans c, b.symm.trans d⟩
  · rintro ⟨rfl, rfl⟩; rfl
theorem rises (k n m : Int) (h : okB k n = true) (g : okB k m = true) (hk : ¬ k = 1) : packW k n < packW k m ↔ n < m := by
  have h' := (okB_iff k n).1 h
  have g' := (okB_iff k m).1 g
  have l : lo k = 0 := by unfold lo; rw [if_neg hk]
  have u := hi_bd k
  unfold packW
  rw [if_pos h, if_pos g]
  omega

/-! What the operations on bits come to. -/
theorem and15 (x : Int) (h0 : 0 ≤ x) (h1 : x < 18446744073709551616) : bits .and .u64 x 15 = x % 16 := by
  obtain ⟨n, rfl⟩ := Int.eq_ofNat_of_zero_le h0
  have := u64_and_nat n 15 (by omega) (by omega)
  have e : n &&& 15 = n % 16 := Nat.and_two_pow_sub_one_eq_mod n 4
  rw [e] at this
  simpa using this
theorem or_low (a k : Int) (h0 : 0 ≤ a) (h1 : a < 1152921504606846976) (k0 : 0 ≤ k) (k1 : k < 16) : bits .or .u64 (a * 16) k = a * 16 + k := by
  obtain ⟨n, rfl⟩ := Int.eq_ofNat_of_zero_le h0
  obtain ⟨m, rfl⟩ := Int.eq_ofNat_of_zero_le k0
  have := u64_or_nat (n * 16) m (by omega) (by omega)
  have e : n * 16 ||| m = n * 16 + m := by
    have := Nat.two_pow_add_eq_or_of_lt (i := 4) (b := m) (by omega) n
    rw [show n * 16 = 2 ^ 4 * n by omega]
    exact this.symm
  rw [e] at this
  simpa using this
/-- The document's own answer: the number as it stands in the upper sixty, less 2^60 of an Int that lies above. -/
def refN (w : Int) : Int := if kd w = 1 ∧ 576460752303423487 < w / 16 then w / 16 - 1152921504606846976 else w / 16
theorem refN_ok (w : Int) (h0 : 0 ≤ w) (h1 : w < 18446744073709551616) : okB (kd w) (refN w) = okB (kd w) (nm w) ∧ (okB (kd w) (nm w) = true → refN w = nm w) := by
  have l := lo_is (kd w)
  have u := hi_is (kd w)
  have e : nm w = if w / 16 ≤ 576460752303423487 then w / 16 else w / 16 - 1152921504606846976 := by
    unfold nm wrap64; split <;> omega
  constructor
  · rw [Bool.eq_iff_iff, okB_iff, okB_iff, e]
    unfold refN
    split <;> split <;> omega
  · intro h
    have h' := (okB_iff _ _).1 h
    rw [e] at h' ⊢
    unfold refN
    split <;> split <;> split at h' <;> omega
theorem ref_end (x k N : Int) (h0 : 0 ≤ x) (h1 : x < 18446744073709551616) (hk : k = x % 16) (hN : N = refN x) :
    (okB k N = false → unK x = 0 ∧ unN x = 0 ∧ unE x = 4) ∧ (okB k N = true → unK x = k ∧ unN x = N ∧ unE x = 0) := by
  subst hk hN
  obtain ⟨a, b⟩ := refN_ok x h0 h1
  have e : unB x = okB (x % 16) (refN x) := a.symm
  constructor
  · intro h
    rw [h] at e
    simp [unK, unN, unE, e]
  · intro h
    have hb := b (a ▸ h)
    rw [h] at e
    simp [unK, unN, unE, e, kd, hb]
theorem pack_bits (k n : Int) (h : okB k n = true) : bits .or .u64 (IntKind.u64.wrap (IntKind.u64.wrap n * 16)) k = packW k n := by
  have h' := (okB_iff k n).1 h
  have l := lo_bd k
  have u := hi_bd k
  have e : IntKind.u64.wrap (IntKind.u64.wrap n * 16) = (n % 1152921504606846976) * 16 := by
    rw [IntKind.wrap_u64, IntKind.wrap_u64]; omega
  rw [e, or_low _ k (by omega) (by omega) (by omega) (by omega)]
  unfold packW
  rw [if_pos h]
  omega
theorem pack_ref (k n : Int) (h : okB k n = true) : IntKind.u64.wrap (IntKind.u64.wrap (IntKind.u64.wrap n * 16) + k) = packW k n := by
  have h' := (okB_iff k n).1 h
  have l := lo_bd k
  have u := hi_bd k
  unfold packW
  rw [if_pos h, IntKind.wrap_u64, IntKind.wrap_u64, IntKind.wrap_u64]
  omega

def boxedB (x : Int) : Bool := decide (x % 16 = 7 ∨ x % 16 = 9 ∨ x % 16 = 5)
def packsB (k n w e : Int) : Bool := decide (packW k n = w ∧ packE k n = e)
def unpacksB (w k n e : Int) : Bool := decide (unK w = k ∧ unN w = n ∧ unE w = e)
end Go.Proofs.YtaiiicmldogjoaaDoor.Wd
