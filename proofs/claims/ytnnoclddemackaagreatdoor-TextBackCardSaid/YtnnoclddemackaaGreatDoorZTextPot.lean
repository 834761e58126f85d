/-
  How many terms a text can begin: the brackets, commas and bars in a term's text.
-/
import Derived.Test.YtnnoclddemackaaGreatDoorZTextDec
import Derived.Test.YtnnoclddemackaaGreatDoorZTextMay
namespace Go.Proofs.YtnnoclddemackaaGreatDoor
open Go.RowKit Go.Deep

def spc (c : UInt8) : Bool := c == 123 || c == 91 || c == 44 || c == 124
def cntS (l : List UInt8) : Nat := l.countP spc
theorem cntS_append (a b : List UInt8) : cntS (a ++ b) = cntS a + cntS b := List.countP_append
theorem cntS_cons (c : UInt8) (l : List UInt8) : cntS (c :: l) = cntS l + if spc c then 1 else 0 := by rw [cntS, List.countP_cons]; rfl
theorem cntS_nil : cntS [] = 0 := rfl
theorem spc_ne {c : UInt8} (h : c.toNat ≠ 123 ∧ c.toNat ≠ 91 ∧ c.toNat ≠ 44 ∧ c.toNat ≠ 124) : spc c = false := by
  have e : ∀ d : UInt8, c.toNat ≠ d.toNat → (c == d) = false := fun d hd => by
    rw [beq_eq_false_iff_ne]
    intro hh
    exact hd (by rw [hh])
  unfold spc
  rw [e 123 h.1, e 91 h.2.1, e 44 h.2.2.1, e 124 h.2.2.2]
  rfl
theorem spc_dg {d : Nat} (h : d < 10) : spc (dg d) = false := spc_ne (by rw [dg_toNat h]; omega)
theorem cnt_decF : ∀ (f n : Nat), cntS (decF f n) = 0 := by
  intro f
  induction f with
  | zero => intro n; rfl
  | succ f ih =>
    intro n
    rw [decF]
    split
    · rw [cntS_cons, spc_dg (by omega)]; rfl
    · rw [cntS_append, ih, cntS_cons, spc_dg (Nat.mod_lt _ (by omega))]; rfl
theorem cnt_dec (n : Int) : cntS (dec n) = 0 := by
  unfold dec decN
  split
  · rw [cntS_cons, cnt_decF]; rfl
  · exact cnt_decF _ _
theorem spc_hxd {d : Nat} (h : d < 16) : spc (hxd d) = false := spc_ne (by rw [hxd_toNat h]; split <;> omega)
theorem cnt_qb (c : UInt8) : cntS (qb c) ≤ 1 := by
  unfold qb
  have hc : c.toNat < 256 := c.toNat_lt
  split
  · rw [cntS_cons, cntS_cons, cntS_cons, cntS_cons, spc_hxd (by omega), spc_hxd (by omega)]
    decide
  · split
    · rename_i h
      rcases h with rfl | rfl <;> decide
    · rw [cntS_cons, cntS_nil]
      split <;> omega
theorem cnt_qbs (s : List UInt8) : cntS (s.flatMap qb) ≤ s.length := by
  induction s with
  | nil => simp [cntS]
  | cons c r ih =>
    rw [List.flatMap_cons, cntS_append, List.length_cons]
    have := cnt_qb c
    omega
theorem cnt_atom (s : List UInt8) : cntS (atomT s) ≤ s.length := by
  unfold atomT
  split
  · exact List.countP_le_length
  · rw [quoteT, cntS_cons, cntS_append]
    have := cnt_qbs s
    have e : cntS [39] = 0 := rfl
    have e2 : spc 39 = false := rfl
    rw [e, e2]
    simp
    exact this
theorem cnt_commas (l : List Tm) (h : ∀ t ∈ l, cntS t.text + 1 ≤ 66 * t.size) : cntS ((l.map Tm.text).flatMap (44 :: ·)) ≤ 66 * sizes l := by
  induction l with
  | nil => simp [cntS]
  | cons t r ih =>
    have h1 := h t List.mem_cons_self
    have h2 := ih fun t ht => h t (List.mem_cons_of_mem _ ht)
    have e : spc 44 = true := rfl
    rw [List.map_cons, List.flatMap_cons, cntS_append, cntS_cons, e, sizes]
    simp only [if_true]
    omega
theorem cnt_join (l : List Tm) (h : ∀ t ∈ l, cntS t.text + 1 ≤ 66 * t.size) : cntS (joinT (l.map Tm.text)) ≤ 66 * sizes l := by
  cases l with
  | nil => simp [joinT, cntS]
  | cons t r =>
    have h1 := h t List.mem_cons_self
    have h2 := cnt_commas r fun t ht => h t (List.mem_cons_of_mem _ ht)
    rw [List.map_cons, joinT, cntS_append, sizes]
    omega
theorem cnt_text (T : Tm) : T.fits = true → cntS T.text + 1 ≤ 66 * T.size ∧ cntS T.tail ≤ 66 * T.size := by
  induction T using Tm.induct with
  | h k n s l ih =>
    intro hT
    rw [fits_mk, Bool.and_eq_true] at hT
    have hm := fitss_at hT.2
    have hk := fitR_kind (fitR_fit hT.1)
    have g := hT.1
    unfold fitB at g
    simp only [decide_eq_true_eq] at g
    have hc := cnt_commas l (fun t ht => (ih t ht (hm t ht)).1)
    have hj := cnt_join l (fun t ht => (ih t ht (hm t ht)).1)
    have hn := cnt_dec n
    have hsz := Tm.size_mk k n s l
    have A : cntS (Tm.mk k n s l).text + 1 ≤ 66 * (Tm.mk k n s l).size := by
      rw [hsz]
      obtain h1 | h1 | h1 | h1 | h1 | h1 | h1 | h1 | h1 : k = 1 ∨ k = 2 ∨ k = 3 ∨ k = 4 ∨ k = 5 ∨ k = 6 ∨ k = 7 ∨ k = 8 ∨ k = 9 := by omega
      all_goals subst h1
      · rw [text_k1]; omega
      · rw [text_k2]
        have := cnt_atom s.toList
        rw [tl_length] at this
        omega
      · rw [text_k3]; simp only [List.cons_append, List.nil_append, cntS_append, cntS_cons, cntS_nil, hn, show spc 35 = false from rfl, show spc 60 = false from rfl, show spc 62 = false from rfl, show spc 82 = false from rfl, show spc 101 = false from rfl, show spc 102 = false from rfl, Bool.false_eq_true, if_false]; omega
      · rw [text_k4]; simp only [List.cons_append, List.nil_append, cntS_append, cntS_cons, cntS_nil, hn, show spc 35 = false from rfl, show spc 60 = false from rfl, show spc 62 = false from rfl, show spc 84 = false from rfl, show spc 105 = false from rfl, show spc 100 = false from rfl, Bool.false_eq_true, if_false]; omega
      · rw [text_k5]; simp only [List.cons_append, List.nil_append, cntS_append, cntS_cons, cntS_nil, hn, show spc 35 = false from rfl, show spc 60 = false from rfl, show spc 62 = false from rfl, show spc 70 = false from rfl, show spc 117 = false from rfl, show spc 110 = false from rfl, Bool.false_eq_true, if_false]; omega
      · rw [text_k6]; simp only [List.cons_append, List.nil_append, cntS_append, cntS_cons, cntS_nil, hn, show spc 60 = false from rfl, show spc 48 = false from rfl, show spc 46 = false from rfl, show spc 62 = false from rfl, Bool.false_eq_true, if_false]; omega
      · rw [text_k7]; simp only [cntS_append, cntS_cons, cntS_nil, show spc 123 = true from rfl, show spc 125 = false from rfl, Bool.false_eq_true, if_false, if_true]; omega
      · rw [text_k8]; simp only [cntS_cons, cntS_nil, show spc 91 = true from rfl, show spc 93 = false from rfl, Bool.false_eq_true, if_false, if_true]; omega
      · obtain ⟨_, _, a, b, rfl⟩ := fitR_cons (fitR_fit hT.1)
        have h1 := ih a (by simp) (hm a (by simp))
        have h2 := ih b (by simp) (hm b (by simp))
        rw [text_k9]
        simp only [cntS_append, cntS_cons, show spc 91 = true from rfl, if_true, sizes]
        omega
    refine ⟨A, ?_⟩
    by_cases h9 : k = 9
    · subst h9
      obtain ⟨_, _, a, b, rfl⟩ := fitR_cons (fitR_fit hT.1)
      rw [text_k9] at A
      rw [tail_k9]
      simp only [cntS_append, cntS_cons, show spc 91 = true from rfl, show spc 44 = true from rfl, if_true] at A ⊢
      omega
    by_cases h8 : k = 8
    · subst h8
      rw [tail_k8, hsz]
      simp only [cntS_cons, cntS_nil, show spc 93 = false from rfl, Bool.false_eq_true, if_false]
      omega
    · rw [tail_else _ _ _ _ h8 h9]
      simp only [cntS_append, cntS_cons, cntS_nil, show spc 124 = true from rfl, show spc 93 = false from rfl, Bool.false_eq_true, if_false, if_true]
      omega
/-- Room enough for a text: what is left of its brackets, commas and bars. -/
theorem pot_cnt (s : List UInt8) : Pot s (fun i => cntS (s.drop i)) := by
  refine ⟨fun i j h => ?_, fun i c r h hc => ?_⟩
  · have e : s.drop j = (s.drop i).drop (j - i) := by rw [List.drop_drop]; congr 1; omega
    show cntS (s.drop j) ≤ cntS (s.drop i)
    rw [e]
    exact (List.drop_sublist _ _).countP_le
  · have e : s.drop (i + 1) = r := by rw [← List.drop_drop, h]; rfl
    show cntS (s.drop (i + 1)) + 1 ≤ cntS (s.drop i)
    rw [e, h, cntS_cons]
    have : spc c = true := by rcases hc with rfl | rfl | rfl | rfl <;> rfl
    rw [this]
    simp
end Go.Proofs.YtnnoclddemackaaGreatDoor
