/-
  Two terms gone through side by side: what the iterator over them hands to a loop's body.
-/
import Derived.Test.YteklhipcojioaaaDoorZTermWords
import Derived.Sort.CutIn
namespace Go.Proofs.YteklhipcojioaaaDoor
open Go.RowKit Go.Deep

attribute [local go_sem] Oper.semAt_some

def psh (p : PV × PV) : Sh × Sh := (p.1.sh, p.2.sh)

mutual
/-- Two terms side by side, whatever their kinds, as far as both have parts. -/
def Tm.both : Tm → Tm → List (Sh × Sh)
  | .mk k n s l, .mk k' n' s' l' => ((k, n, s, l.length), (k', n', s', l'.length)) :: boths l l'
def boths : List Tm → List Tm → List (Sh × Sh)
  | [], _ => []
  | _ :: _, [] => []
  | t :: r, t' :: r' => t.both t' ++ boths r r'
end
theorem both_mk (k n : Int) (s : ByteArray) (l : List Tm) (k' n' : Int) (s' : ByteArray) (l' : List Tm) : (Tm.mk k n s l).both (.mk k' n' s' l') = ((k, n, s, l.length), (k', n', s', l'.length)) :: boths l l' := by rw [Tm.both]
theorem boths_nil (l : List Tm) : boths l [] = [] := by cases l <;> rw [boths]
theorem boths_take (l l' : List Tm) (i : Nat) (hi : i < l.length) (hi' : i < l'.length) : boths (l.take (i + 1)) (l'.take (i + 1)) = boths (l.take i) (l'.take i) ++ l[i].both l'[i] := by
  induction l generalizing l' i with
  | nil => cases hi
  | cons t r ih =>
    cases l' with
    | nil => cases hi'
    | cons t' r' =>
      cases i with
      | zero => simp [boths]
      | succ i =>
        have := ih r' i (by simpa using hi) (by simpa using hi')
        simp only [List.take_succ_cons, boths, List.getElem_cons_succ, this, List.append_assoc]
theorem boths_prefix (l l' : List Tm) (i : Nat) : boths (l.take i) (l'.take i) <+: boths l l' := by
  induction l generalizing l' i with
  | nil => simp [boths]
  | cons t r ih =>
    cases l' with
    | nil => simp [boths_nil]
    | cons t' r' =>
      cases i with
      | zero => simp [boths]
      | succ i =>
        simp only [List.take_succ_cons, boths]
        exact List.prefix_append_right_inj _ |>.2 (ih r' i)
theorem boths_min (l l' : List Tm) (i : Nat) (h : i = l.length ∨ i = l'.length) : boths (l.take i) (l'.take i) = boths l l' := by
  induction l generalizing l' i with
  | nil => simp [boths]
  | cons t r ih =>
    cases l' with
    | nil => simp [boths_nil]
    | cons t' r' =>
      cases i with
      | zero => simp at h
      | succ i =>
        simp only [List.take_succ_cons, boths]
        rw [ih r' i (by simpa using h)]

/-- A bool has been returned, with what goes with it. -/
def BothOut (e : Ending) (P Q : Prop) : Prop := ∃ x : Bool, e = .returned (.bool x) ∧ Hid ((x = true ∧ P) ∨ (x = false ∧ Q))

def BothV (v : Value) (P Q : Prop) : Prop := ∃ x : Bool, v = .bool (!x) ∧ Hid ((x = true ∧ P) ∨ (x = false ∧ Q))

def alike (p : Sh × Sh) : Prop := p.1 = p.2
theorem both_same (T : Tm) : ∀ T', (∀ p ∈ T.both T', alike p) → T = T' := by
  induction T using Tm.induct with
  | h k n s l ih =>
    intro T' h
    obtain ⟨k', n', s', l'⟩ := T'
    rw [both_mk] at h
    have h0 : ((k, n, s, l.length) : Sh) = (k', n', s', l'.length) := h ((k, n, s, l.length), (k', n', s', l'.length)) (by simp)
    simp only [Prod.mk.injEq] at h0
    obtain ⟨rfl, rfl, rfl, hl⟩ := h0
    have hp : ∀ p ∈ boths l l', alike p := fun p hp => h p (List.mem_cons_of_mem _ hp)
    have : l = l' := by
      clear h
      induction l generalizing l' with
      | nil =>
        cases l' with
        | nil => rfl
        | cons t' r' => cases hl
      | cons t r ihr =>
        cases l' with
        | nil => cases hl
        | cons t' r' =>
          rw [boths] at hp
          have h1 := ih t (by simp) t' (fun p hq => hp p (List.mem_append_left _ hq))
          have h2 := ihr (fun t ht => ih t (List.mem_cons_of_mem _ ht)) r' (by simpa using hl) (fun p hq => hp p (List.mem_append_right _ hq))
          rw [h1, h2]
    rw [this]
theorem both_refl (T : Tm) : ∀ p ∈ T.both T, alike p := by
  induction T using Tm.induct with
  | h k n s l ih =>
    rw [both_mk]
    intro p hp
    rcases List.mem_cons.1 hp with rfl | hp
    · rfl
    · induction l with
      | nil => rw [boths] at hp; cases hp
      | cons t r ihr =>
        rw [boths] at hp
        rcases List.mem_append.1 hp with h | h
        · exact ih t (by simp) p h
        · exact ihr (fun t ht => ih t (List.mem_cons_of_mem _ ht)) (List.mem_cons_of_mem _ h) h
theorem both_length (T : Tm) : ∀ T', (T.both T').length ≤ T.size := by
  induction T using Tm.induct with
  | h k n s l ih =>
    intro T'
    obtain ⟨k', n', s', l'⟩ := T'
    rw [both_mk, Tm.size_mk, List.length_cons]
    have : (boths l l').length ≤ sizes l := by
      induction l generalizing l' with
      | nil => simp [boths]
      | cons t r ihr =>
        cases l' with
        | nil => simp [boths_nil]
        | cons t' r' =>
          have h1 := ih t (by simp) t'
          have h2 := ihr (fun t ht => ih t (List.mem_cons_of_mem _ ht)) r'
          rw [boths, List.length_append, sizes]
          omega
    omega

end Go.Proofs.YteklhipcojioaaaDoor
