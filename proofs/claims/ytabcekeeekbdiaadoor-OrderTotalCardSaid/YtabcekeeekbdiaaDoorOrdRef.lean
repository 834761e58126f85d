/-
  The document's order of terms, walked.
-/
import Derived.Test.YtabcekeeekbdiaaDoorOrdPlain
import Derived.Test.YtabcekeeekbdiaaDoorTermAwake
import Derived.Test.YtabcekeeekbdiaaDoorRegionUp
import Derived.Deep.RegionHeld3
import Derived.Deep.DeepCutAuto
namespace Go.Proofs.YtabcekeeekbdiaaDoor
open Go.RowKit Go.Deep

theorem cmpB_lt {a b : ByteArray} (h : Op.bytesLess a.toList b.toList = true) : cmpB a b = -1 := by unfold cmpB; rw [if_pos h]
theorem cmpB_gt {a b : ByteArray} (h : Op.bytesLess a.toList b.toList = false) (h' : (!a.toList == b.toList) = true) : cmpB a b = 1 := by
  unfold cmpB
  rw [if_neg (by rw [h]; exact Bool.false_ne_true)]
  cases hc : Op.bytesLess b.toList a.toList with
  | true => simp
  | false =>
    have := less_total _ _ h hc
    rw [this] at h'
    simp at h'
theorem cmpB_eq {a b : ByteArray} (h' : (!a.toList == b.toList) = false) : cmpB a b = 0 := by
  have : a.toList = b.toList := by simpa using h'
  rw [cmpB_zero]
  exact bytes_toList this

theorem cmpL_take (l : List Tm) : ∀ (l' : List Tm) (i : Nat) (hi : i < l.length) (hi' : i < l'.length), cmpL (l.take (i + 1)) (l'.take (i + 1)) = lex (cmpL (l.take i) (l'.take i)) (l[i].cmp l'[i]) := by
  induction l with
  | nil => intro l' i hi; cases hi
  | cons a r ih =>
    intro l' i hi hi'
    match l', hi' with
    | b :: r', hi' =>
      cases i with
      | zero =>
        simp only [List.take_succ_cons, List.take_zero, cmpL_cons, cmpL_nil, List.getElem_cons_zero]
        by_cases h : a.cmp b = 0 <;> simp [lex, h]
      | succ i =>
        simp only [List.take_succ_cons, cmpL_cons, List.getElem_cons_succ]
        rw [ih r' i (by simpa using hi) (by simpa using hi')]
        by_cases h : a.cmp b = 0 <;> simp [lex, h]
theorem cmpL_found (l : List Tm) : ∀ (l' : List Tm) (i : Nat), cmpL (l.take i) (l'.take i) ≠ 0 → cmpL l l' = cmpL (l.take i) (l'.take i) := by
  induction l with
  | nil => intro l' i h; rw [List.take_nil, cmpL_nil] at h; exact absurd rfl h
  | cons a r ih =>
    intro l' i h
    cases i with
    | zero => rw [List.take_zero, cmpL_nil] at h; exact absurd rfl h
    | succ i =>
      match l' with
      | [] => rw [List.take_nil, cmpL_nil'] at h; exact absurd rfl h
      | b :: r' =>
        simp only [List.take_succ_cons, cmpL_cons] at h ⊢
        unfold lex at h ⊢
        by_cases h0 : a.cmp b = 0
        · rw [if_pos h0] at h
          rw [if_pos h0, if_pos h0]
          exact ih r' i h
        · simp only [if_neg h0]

/-- Two lists of terms, as they are compared. -/
def cmpLL (l l' : List Tm) : Int := lex (cmpI l.length l'.length) (cmpL l l')
theorem cmpLL_start (l l' : List Tm) : cmpI l.length l'.length = lex (cmpI l.length l'.length) (cmpL (l.take 0) (l'.take 0)) := by
  rw [List.take_zero, cmpL_nil]; unfold lex; split <;> omega
theorem cmpLL_step (l l' : List Tm) (i : Nat) (hi : i < l.length) (hi' : i < l'.length) (h0 : lex (cmpI l.length l'.length) (cmpL (l.take i) (l'.take i)) = 0) :
    l[i].cmp l'[i] = lex (cmpI l.length l'.length) (cmpL (l.take (i + 1)) (l'.take (i + 1))) := by
  rw [lex_zero] at h0
  rw [cmpL_take l l' i hi hi', h0.1, h0.2]
  rfl
theorem cmpLL_end (l l' : List Tm) (i : Nat) (h : i = l.length ∨ lex (cmpI l.length l'.length) (cmpL (l.take i) (l'.take i)) ≠ 0) : lex (cmpI l.length l'.length) (cmpL (l.take i) (l'.take i)) = cmpLL l l' := by
  unfold cmpLL
  by_cases hl : cmpI l.length l'.length = 0
  · have e : l.length = l'.length := by have := cmpI_zero.1 hl; omega
    rcases h with rfl | h
    · rw [List.take_length, List.take_of_length_le (by omega)]
    · rw [hl] at h ⊢
      have h' : cmpL (l.take i) (l'.take i) ≠ 0 := h
      rw [cmpL_found l l' i h']
  · unfold lex
    rw [if_neg hl, if_neg hl]

end Go.Proofs.YtabcekeeekbdiaaDoor
