/-
  Lists without alike neighbours, as plain mathematics: a sorted one rises, has an alike one of each term, and each is found in it.
-/
import Derived.Test.YtabcekeeekbdiaaOrdMath
import Derived.Test.YtabcekeeekbdiaaOrdUniqRef
import Derived.Test.YtabcekeeekbdiaaOrdFind
namespace Go.Proofs.Ytabcekeeekbdiaa
open Go.RowKit Go.Deep

/-- Each is ahead of those behind it. -/
def Rising (l : List Tm) : Prop := l.Pairwise fun a b => a.cmp b < 0
theorem Rising.sorted {l : List Tm} (h : Rising l) : Sorted l := h.imp (fun h => by omega)

theorem uniqG_rising : ∀ (s : List Tm) (p : Option Tm), Sorted s → (∀ q, p = some q → ∀ x ∈ s, q.cmp x ≤ 0) → Rising (uniqG p s) ∧ (∀ q, p = some q → ∀ x ∈ uniqG p s, q.cmp x < 0) ∧ (∀ x ∈ uniqG p s, x ∈ s) ∧
    (∀ x ∈ s, (∃ y ∈ uniqG p s, y.cmp x = 0) ∨ ∃ q, p = some q ∧ q.cmp x = 0) := by
  intro s
  induction s with
  | nil => intro p _ _; exact ⟨by simp [uniqG, Rising], fun q _ x hx => by simp [uniqG] at hx, fun x hx => by simp [uniqG] at hx, fun x hx => by cases hx⟩
  | cons b r ih =>
    intro p hs hp
    have hsb := List.pairwise_cons.1 hs
    obtain ⟨h1, h2, h3, h4⟩ := ih (some b) hsb.2 (fun q hq x hx => by cases hq; exact hsb.1 x hx)
    have h2' := h2 b rfl
    rw [uniqG]
    by_cases hk : keepB p b = true
    · rw [if_pos hk]
      have hqb : ∀ q, p = some q → q.cmp b < 0 := fun q hq => by
        subst hq
        have := hp q rfl b List.mem_cons_self
        simp only [keepB, bne_iff_ne] at hk
        omega
      refine ⟨List.pairwise_cons.2 ⟨h2', h1⟩, fun q hq x hx => ?_, fun x hx => ?_, fun x hx => ?_⟩
      · rcases List.mem_cons.1 hx with rfl | hx
        · exact hqb q hq
        · exact cmp_lt_of' (hqb q hq) (by have := h2' x hx; omega)
      · rcases List.mem_cons.1 hx with rfl | hx
        · exact List.mem_cons_self
        · exact List.mem_cons_of_mem _ (h3 x hx)
      · left
        rcases List.mem_cons.1 hx with rfl | hx
        · exact ⟨x, List.mem_cons_self, cmp_refl x⟩
        · rcases h4 x hx with ⟨y, hy, hyx⟩ | ⟨q, hq, hqx⟩
          · exact ⟨y, List.mem_cons_of_mem _ hy, hyx⟩
          · cases hq; exact ⟨b, List.mem_cons_self, hqx⟩
    · rw [if_neg hk]
      obtain ⟨q, rfl, hq0⟩ : ∃ q, p = some q ∧ q.cmp b = 0 := by
        cases p with
        | none => exact absurd rfl hk
        | some q => exact ⟨q, rfl, by simpa [keepB] using hk⟩
      refine ⟨h1, fun q' hq' x hx => ?_, fun x hx => List.mem_cons_of_mem _ (h3 x hx), fun x hx => ?_⟩
      · cases hq'
        exact cmp_lt_of (by omega) (h2' x hx)
      · rcases List.mem_cons.1 hx with rfl | hx
        · exact Or.inr ⟨q, rfl, hq0⟩
        · rcases h4 x hx with h | ⟨q', hq', hqx⟩
          · exact Or.inl h
          · cases hq'
            refine Or.inr ⟨q, rfl, ?_⟩
            have := cmp_tri q b x
            have e1 := (this.1 (by omega) (by omega)).1
            have e2 := (this.2 (by omega) (by omega)).1
            omega
theorem uniqT_rising (s : List Tm) (h : Sorted s) : Rising (uniqT s) := (uniqG_rising s none h (fun q hq => by cases hq)).1
theorem uniqT_has (s : List Tm) (h : Sorted s) (x : Tm) (hx : x ∈ s) : ∃ y ∈ uniqT s, y.cmp x = 0 := by
  rcases (uniqG_rising s none h (fun q hq => by cases hq)).2.2.2 x hx with h | ⟨q, hq, _⟩
  · exact h
  · cases hq

/-- A term that a rising list has an alike one of is found in it. -/
theorem find_rising (b : List Tm) (t : Tm) (hb : Rising b) (h : ∃ y ∈ b, y.cmp t = 0) : findB b t = true ∧ ∃ h : findN b t < b.length, b[findN b t].cmp t = 0 := by
  obtain ⟨y, hy, hyt⟩ := h
  obtain ⟨j, hj, rfl⟩ := List.getElem_of_mem hy
  have hf : findN b t = j := findN_is b t j (by omega) (fun i hi h => cmp_lt_of' (List.pairwise_iff_getElem.1 hb i j h hj hi) (by omega)) (fun _ => by omega)
  refine ⟨?_, by rw [hf]; exact hj, ?_⟩
  · rw [findB_some hj hf, hyt]; rfl
  · simp only [hf]; exact hyt

/-- How many terms of a list are the same as one. -/
noncomputable def countT (l : List Tm) (t : Tm) : Nat := (l.filter fun x => eqB x t).length
theorem countT_perm {l l' : List Tm} (h : l.Perm l') (t : Tm) : countT l t = countT l' t := (h.filter _).length_eq
theorem countT_sort (l : List Tm) (t : Tm) : countT (sortT l) t = countT l t := countT_perm (sortT_perm l) t
theorem countT_take (l : List Tm) (t : Tm) (i : Nat) (hi : i < l.length) : countT (l.take (i + 1)) t = countT (l.take i) t + (if eqB l[i] t = true then 1 else 0) := by
  unfold countT
  rw [List.take_succ_eq_append_getElem hi, List.filter_append, List.length_append]
  congr 1
  cases h : eqB l[i] t <;> simp [h]
theorem countT_le (l : List Tm) (t : Tm) : countT l t ≤ l.length := List.length_filter_le _ _

end Go.Proofs.Ytabcekeeekbdiaa
