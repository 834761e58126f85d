/-
  What is needed, as plain mathematics.
-/
import Derived.Test.YtamafhcgjbkikaaDoorTermCheck
import Derived.Test.YtamafhcgjbkikaaDoorTermRef2
import Derived.Test.YtamafhcgjbkikaaDoorArenaPlain
import Derived.Laws.BitsAllLaws
namespace Go.Proofs.YtamafhcgjbkikaaDoor
open Go.RowKit Go.Deep

/-- Is there such a kind? Has it buckets? What it needs. -/
def kindB (k : Int) : Bool := decide (1 ≤ k ∧ k ≤ 4)
def hashB (k : Int) : Bool := decide (k = 1 ∨ k = 3 ∨ k = 4)
def nodeN (k : Int) : Int := if k = 2 then 6 else if 1 ≤ k ∧ k ≤ 4 then 4 else 0
def tableN (k : Int) : Int := if 1 ≤ k ∧ k ≤ 4 then 16 else 0
def bktN (b : Int) : Int := if 1 ≤ b ∧ b ≤ 1048576 then (b + 15) / 16 * 16 else 0
def moreN (b c : Int) : Int := if 2 * b < c + 1 ∧ b < 1048576 then bktN (b + 1) - bktN b else 0
def objV (T : Tm) : Int := if T.check = 0 then rnd T.words else 0
/-- What one more object needs. -/
def putE (k b c : Int) (T : Tm) : Int := if (1 ≤ k ∧ k ≤ 4) ∧ (0 ≤ b ∧ b ≤ 1048576) ∧ 0 ≤ c ∧ c ≤ 16777216 then T.check else 2
def putV (k b c : Int) (T : Tm) : Int := if putE k b c T = 0 then rnd T.words + nodeN k + (if k = 2 then 0 else moreN b c) else 0
/-- What all objects need, with their nodes; the first one's error. -/
def firstE : List Tm → Int
  | [] => 0
  | T :: r => if T.check = 0 then firstE r else T.check
def allN (k : Int) : List Tm → Int
  | [] => 0
  | T :: r => rnd T.words + nodeN k + allN k r
def sumE (k b : Int) (l : List Tm) : Int := if (1 ≤ k ∧ k ≤ 4) ∧ 0 ≤ b ∧ b ≤ 1048576 then firstE l else 2
def sumV (k b : Int) (l : List Tm) : Int := if sumE k b l = 0 then tableN k + allN k l + (if k = 2 then 0 else bktN b) else 0

theorem kindB_yes {k : Int} : kindB k = true ↔ 1 ≤ k ∧ k ≤ 4 := by simp [kindB]
theorem kindB_no {k : Int} : kindB k = false ↔ ¬ (1 ≤ k ∧ k ≤ 4) := by simp [kindB]
theorem nodeN_range (k : Int) : 0 ≤ nodeN k ∧ nodeN k ≤ 6 := by unfold nodeN; split <;> (try split) <;> omega
theorem tableN_range (k : Int) : 0 ≤ tableN k ∧ tableN k ≤ 16 := by unfold tableN; split <;> omega
theorem bktN_range (b : Int) : 0 ≤ bktN b ∧ bktN b ≤ 1048576 := by unfold bktN; split <;> omega
theorem bktN_mono {b : Int} (h0 : 0 ≤ b) (h1 : b < 1048576) : bktN b ≤ bktN (b + 1) := by
  unfold bktN
  rw [if_pos (by omega : 1 ≤ b + 1 ∧ b + 1 ≤ 1048576)]
  split <;> omega
theorem moreN_range {b c : Int} (h0 : 0 ≤ b) : 0 ≤ moreN b c ∧ moreN b c ≤ 1048576 := by
  unfold moreN
  split
  · have h1 := bktN_mono h0 (by omega)
    have h2 := bktN_range (b + 1)
    have h3 := bktN_range b
    omega
  · omega
theorem objV_range (T : Tm) : 0 ≤ objV T ∧ objV T ≤ 16777216 := by
  have := rnd_bounds T.words
  unfold objV
  split <;> omega
theorem allN_range (k : Int) (l : List Tm) : 0 ≤ allN k l ∧ allN k l ≤ 16777222 * l.length := by
  induction l with
  | nil => simp [allN]
  | cons T r ih =>
    have h1 := rnd_bounds T.words
    have h2 := nodeN_range k
    simp only [allN, List.length_cons]
    omega
theorem allN_append (k : Int) (l r : List Tm) : allN k (l ++ r) = allN k l + allN k r := by
  induction l with
  | nil => simp [allN]
  | cons T t ih => simp only [List.cons_append, allN, ih]; omega
theorem firstE_append (l r : List Tm) : firstE (l ++ r) = if firstE l = 0 then firstE r else firstE l := by
  induction l with
  | nil => simp [firstE]
  | cons T t ih =>
    simp only [List.cons_append, firstE]
    split
    · exact ih
    · rename_i h
      first
        | rfl
        | rw [if_neg h]
theorem firstE_take {l : List Tm} {i : Nat} (hi : i < l.length) (h : firstE (l.take i) = 0) : firstE (l.take (i + 1)) = l[i].check ∧ (l[i].check ≠ 0 → firstE l = l[i].check) := by
  have e : l.take (i + 1) = l.take i ++ [l[i]] := by rw [List.take_succ_eq_append_getElem hi]
  have h1 : firstE (l.take (i + 1)) = l[i].check := by
    rw [e, firstE_append, if_pos h]
    simp only [firstE]
    split
    · rename_i h; exact h.symm
    · rfl
  refine ⟨h1, fun hn => ?_⟩
  have e2 : l = l.take (i + 1) ++ l.drop (i + 1) := (List.take_append_drop _ _).symm
  conv => lhs; rw [e2]
  rw [firstE_append, h1, if_neg hn]
theorem allN_take (k : Int) {l : List Tm} {i : Nat} (hi : i < l.length) : allN k (l.take (i + 1)) = allN k (l.take i) + (rnd l[i].words + nodeN k) := by
  rw [List.take_succ_eq_append_getElem hi, allN_append]
  simp [allN]
/-- Of objects that may be the words are few. -/
theorem rnd_rnd (n : Int) : rnd (rnd n) = rnd n := by
  by_cases h : 1 ≤ n ∧ n ≤ 16777216
  · obtain ⟨N, rfl⟩ := Int.eq_ofNat_of_zero_le (show 0 ≤ n by omega)
    rw [rnd_in (by omega) (by omega)]
    have h1 := cls_pos N
    have h2 := cls_most (n := N) (by omega)
    rw [rnd_in (by omega) h2, cls_cls]
  · rw [rnd_out (n := n) (by omega), rnd_out (by omega)]
/-- Adding and masking. -/
theorem mask16 (n : Int) (h0 : 0 ≤ n) (h1 : n ≤ 1000000000) : bits .andNot .i64 n 15 = n / 16 * 16 := by
  obtain ⟨i, rfl⟩ := Int.eq_ofNat_of_zero_le h0
  show IntKind.i64.wrap ((BitVec.ofInt 64 (i : Int) &&& ~~~BitVec.ofInt 64 ((15 : Nat) : Int)).toNat : Int) = _
  rw [BitVec.toNat_and, BitVec.toNat_not, ofInt_u64 i (by omega), ofInt_u64 15 (by omega)]
  have e : 2 ^ 64 - 1 - 15 = 18446744073709551600 := by decide
  rw [e, nat_hi64_4, Nat.mod_eq_of_lt (by omega), wrap_id (by omega) (by omega)]
  omega
theorem putE_yes {k b c : Int} {T : Tm} (h : (1 ≤ k ∧ k ≤ 4) ∧ (0 ≤ b ∧ b ≤ 1048576) ∧ 0 ≤ c ∧ c ≤ 16777216) : putE k b c T = T.check := if_pos h
theorem putE_no {k b c : Int} {T : Tm} (h : ¬ ((1 ≤ k ∧ k ≤ 4) ∧ (0 ≤ b ∧ b ≤ 1048576) ∧ 0 ≤ c ∧ c ≤ 16777216)) : putE k b c T = 2 := if_neg h
theorem putV_no {k b c : Int} {T : Tm} (h : ¬ ((1 ≤ k ∧ k ≤ 4) ∧ (0 ≤ b ∧ b ≤ 1048576) ∧ 0 ≤ c ∧ c ≤ 16777216)) : putV k b c T = 0 := by
  unfold putV; rw [putE_no h]; rfl
theorem sumE_yes {k b : Int} {l : List Tm} (h : (1 ≤ k ∧ k ≤ 4) ∧ 0 ≤ b ∧ b ≤ 1048576) : sumE k b l = firstE l := if_pos h
theorem sumE_no {k b : Int} {l : List Tm} (h : ¬ ((1 ≤ k ∧ k ≤ 4) ∧ 0 ≤ b ∧ b ≤ 1048576)) : sumE k b l = 2 := if_neg h
theorem sumV_no {k b : Int} {l : List Tm} (h : ¬ ((1 ≤ k ∧ k ≤ 4) ∧ 0 ≤ b ∧ b ≤ 1048576)) : sumV k b l = 0 := by
  unfold sumV; rw [sumE_no h]; rfl
/-- One object more needs what the sum is greater then. -/
theorem sum_grows {k b : Int} {l : List Tm} {T : Tm} (hs : sumE k b l = 0) (hp : putE k b l.length T = 0) : let b' := if k ≠ 2 ∧ 2 * b < (l.length : Int) + 1 ∧ b < 1048576 then b + 1 else b
    sumE k b' (l ++ [T]) = 0 ∧ sumV k b' (l ++ [T]) = sumV k b l + putV k b l.length T := by
  have hk : (1 ≤ k ∧ k ≤ 4) ∧ (0 ≤ b ∧ b ≤ 1048576) ∧ 0 ≤ (l.length : Int) ∧ (l.length : Int) ≤ 16777216 := by
    by_cases h : (1 ≤ k ∧ k ≤ 4) ∧ (0 ≤ b ∧ b ≤ 1048576) ∧ 0 ≤ (l.length : Int) ∧ (l.length : Int) ≤ 16777216
    · exact h
    · rw [putE_no h] at hp; omega
  intro b'
  have hb' : 0 ≤ b' ∧ b' ≤ 1048576 := by simp only [b']; split <;> omega
  have hf : firstE (l ++ [T]) = 0 := by
    rw [sumE_yes ⟨hk.1, hk.2.1⟩] at hs
    rw [putE_yes hk] at hp
    rw [firstE_append, if_pos hs]
    simp [firstE, hp]
  have h1 : sumE k b' (l ++ [T]) = 0 := by rw [sumE_yes ⟨hk.1, hb'⟩, hf]
  refine ⟨h1, ?_⟩
  unfold sumV putV
  rw [if_pos h1, if_pos hs, if_pos hp, allN_append]
  have e1 : allN k [T] = rnd T.words + nodeN k := by simp [allN]
  rw [e1]
  by_cases h2 : k = 2
  · rw [if_pos h2, if_pos h2, if_pos h2]; omega
  · rw [if_neg h2, if_neg h2, if_neg h2]
    unfold moreN
    simp only [b']
    split
    · rename_i h
      rw [if_pos ⟨h.2.1, h.2.2⟩]; omega
    · rename_i h
      rw [if_neg (by omega)]; omega
theorem put_more {k b c : Int} {T : Tm} (hp : putE k b c T = 0) : T.check = 0 ∧ rnd (objV T) = objV T ∧ objV T + nodeN k ≤ putV k b c T := by
  have hk : (1 ≤ k ∧ k ≤ 4) ∧ (0 ≤ b ∧ b ≤ 1048576) ∧ 0 ≤ c ∧ c ≤ 16777216 := by
    by_cases h : (1 ≤ k ∧ k ≤ 4) ∧ (0 ≤ b ∧ b ≤ 1048576) ∧ 0 ≤ c ∧ c ≤ 16777216
    · exact h
    · rw [putE_no h] at hp; omega
  have hc : T.check = 0 := by rw [← putE_yes hk]; exact hp
  have ho : objV T = rnd T.words := if_pos hc
  have hm := moreN_range (b := b) (c := c) hk.2.1.1
  refine ⟨hc, by rw [ho, rnd_rnd], ?_⟩
  unfold putV
  rw [if_pos hp, ho]
  split <;> omega
theorem sumV_range (k b : Int) (l : List Tm) : 0 ≤ sumV k b l ∧ sumV k b l ≤ 16777222 * l.length + 1048592 := by
  have h1 := tableN_range k
  have h2 := allN_range k l
  have h3 := bktN_range b
  unfold sumV
  split
  · split <;> omega
  · omega
theorem putV_range (k b c : Int) (T : Tm) (hb : 0 ≤ b) : 0 ≤ putV k b c T ∧ putV k b c T ≤ 17825798 := by
  have h1 := rnd_bounds T.words
  have h2 := nodeN_range k
  have h3 := moreN_range (b := b) (c := c) hb
  unfold putV
  split
  · split <;> omega
  · omega
end Go.Proofs.YtamafhcgjbkikaaDoor
