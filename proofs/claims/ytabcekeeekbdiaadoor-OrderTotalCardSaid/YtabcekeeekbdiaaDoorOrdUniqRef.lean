/-
  The document's Unique, walked.
-/
import Derived.Test.YtabcekeeekbdiaaDoorOrdSortRef
namespace Go.Proofs.YtabcekeeekbdiaaDoor
open Go.RowKit Go.Deep

/-- A list without those that are alike to the one ahead. -/
def keepB (q : Option Tm) (t : Tm) : Bool := match q with
  | none => true
  | some q => q.cmp t != 0
def uniqG : Option Tm → List Tm → List Tm
  | _, [] => []
  | p, b :: r => if keepB p b = true then b :: uniqG (some b) r else uniqG (some b) r
def uniqT (s : List Tm) : List Tm := uniqG none s
def prevT (p : Option Tm) (s : List Tm) (i : Nat) : Option Tm := if i = 0 then p else s[i - 1]?
theorem uniqG_take : ∀ (s : List Tm) (p : Option Tm) (i : Nat) (hi : i < s.length), uniqG p (s.take (i + 1)) = uniqG p (s.take i) ++ (if keepB (prevT p s i) s[i] = true then [s[i]] else []) := by
  intro s
  induction s with
  | nil => intro p i hi; cases hi
  | cons b r ih =>
    intro p i hi
    cases i with
    | zero =>
      simp only [List.take_succ_cons, List.take_zero, uniqG, List.getElem_cons_zero, prevT, if_true, List.nil_append]
    | succ i =>
      have e : prevT p (b :: r) (i + 1) = prevT (some b) r i := by
        unfold prevT
        rw [if_neg (by omega)]
        cases i with
        | zero => simp
        | succ i => simp
      rw [List.take_succ_cons, List.take_succ_cons, uniqG, uniqG, ih (some b) i (by simpa using hi), e, List.getElem_cons_succ]
      split <;> rfl
theorem uniqT_take (s : List Tm) (i : Nat) (hi : i < s.length) : uniqT (s.take (i + 1)) = uniqT (s.take i) ++ (if keepB (prevT none s i) s[i] = true then [s[i]] else []) := uniqG_take s none i hi
theorem keep_zero (s : List Tm) (hi : 0 < s.length) : keepB (prevT none s 0) s[0] = true := rfl
theorem keep_succ (s : List Tm) (i : Nat) (h0 : 0 < i) (hi : i < s.length) : keepB (prevT none s i) s[i] = (s[i - 1].cmp s[i] != 0) := by
  unfold prevT
  rw [if_neg (by omega), List.getElem?_eq_getElem (by omega)]
  rfl
theorem uniqG_length : ∀ (s : List Tm) (p : Option Tm), (uniqG p s).length ≤ s.length := by
  intro s
  induction s with
  | nil => intro p; simp [uniqG]
  | cons b r ih =>
    intro p
    rw [uniqG]
    have := ih (some b)
    split <;> simp <;> omega
theorem uniqT_length (s : List Tm) : (uniqT s).length ≤ s.length := uniqG_length s none

theorem Side.snoc {w : World} {S : Nat → Prop} {l : List Tm} {n : Nat} {xs : List Value} {t : Tm} {v0 v1 v2 v3 : Value} (h : Side w S l n xs) (hn : l.length = n) (hx : xs.length = n * 4) (hl : Lies w S t (.agg #[v0, v1, v2, v3])) :
    Side w S (l ++ [t]) (n + 1) (xs ++ [v0, v1, v2, v3]) := by
  have := Side.insert (at' := n) h hn hx (Nat.le_refl _) hl
  rw [List.take_of_length_le (by omega), List.drop_of_length_le (by omega), List.append_nil, List.take_of_length_le (by omega), List.drop_of_length_le (by omega), List.append_nil] at this
  exact this

end Go.Proofs.YtabcekeeekbdiaaDoor
