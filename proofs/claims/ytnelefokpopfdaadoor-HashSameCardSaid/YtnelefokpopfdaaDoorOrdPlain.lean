/-
  The order of terms, as plain mathematics: it is total.
-/
import Derived.Test.YtnelefokpopfdaaDoorTermReads
import Derived.Test.YtnelefokpopfdaaDoorTermShape
import Derived.Test.YtnelefokpopfdaaDoorTermRef
import Derived.Test.YtnelefokpopfdaaDoorTermSame
namespace Go.Proofs.YtnelefokpopfdaaDoor
open Go.RowKit Go.Deep

def cmpI (a b : Int) : Int := if a < b then -1 else if b < a then 1 else 0
def cmpB (a b : ByteArray) : Int := if Op.bytesLess a.toList b.toList = true then -1 else if Op.bytesLess b.toList a.toList = true then 1 else 0
/-- The first that isn't 0. -/
def lex (a b : Int) : Int := if a = 0 then b else a

/-- What is known of three comparisons, of a with b, b with c, a with c. -/
def Tri (x y z : Int) : Prop := (x ≤ 0 → y ≤ 0 → z ≤ 0 ∧ (x < 0 ∨ y < 0 → z < 0)) ∧ (0 ≤ x → 0 ≤ y → 0 ≤ z ∧ (0 < x ∨ 0 < y → 0 < z))
def One (x : Int) : Prop := x = -1 ∨ x = 0 ∨ x = 1

theorem Tri.lex {x y z x' y' z' : Int} (h : Tri x y z) (h' : x = 0 → y = 0 → Tri x' y' z') : Tri (lex x x') (lex y y') (lex z z') := by
  unfold Tri Proofs.YtnelefokpopfdaaDoor.lex at *
  by_cases hx : x = 0
  · by_cases hy : y = 0
    · have hz : z = 0 := by have h1 := h.1 (by omega) (by omega); have h2 := h.2 (by omega) (by omega); omega
      have h3 := h' hx hy
      rw [if_pos hx, if_pos hy, if_pos hz]
      exact h3
    · rw [if_pos hx, if_neg hy]
      have hz : z ≠ 0 := by
        intro hz
        rcases Int.lt_or_gt_of_ne hy with g | g
        · have := (h.1 (by omega) (by omega)).2 (Or.inr g); omega
        · have := (h.2 (by omega) (by omega)).2 (Or.inr g); omega
      rw [if_neg hz]
      refine ⟨fun h1 h2 => ?_, fun h1 h2 => ?_⟩
      · have h3 := h.1 (by omega) h2
        have h4 := h3.2 (Or.inr (by omega))
        exact ⟨by omega, fun _ => h4⟩
      · have h3 := h.2 (by omega) h2
        have h4 := h3.2 (Or.inr (by omega))
        exact ⟨by omega, fun _ => h4⟩
  · rw [if_neg hx]
    by_cases hy : y = 0
    · rw [if_pos hy]
      have hz : z ≠ 0 := by
        intro hz
        rcases Int.lt_or_gt_of_ne hx with g | g
        · have := (h.1 (by omega) (by omega)).2 (Or.inl g); omega
        · have := (h.2 (by omega) (by omega)).2 (Or.inl g); omega
      rw [if_neg hz]
      refine ⟨fun h1 h2 => ?_, fun h1 h2 => ?_⟩
      · have h4 := (h.1 (by omega) (by omega)).2 (Or.inl (by omega))
        exact ⟨by omega, fun _ => h4⟩
      · have h4 := (h.2 (by omega) (by omega)).2 (Or.inl (by omega))
        exact ⟨by omega, fun _ => h4⟩
    · rw [if_neg hy]
      refine ⟨fun h1 h2 => ?_, fun h1 h2 => ?_⟩
      · have h4 := (h.1 h1 h2).2 (Or.inl (by omega))
        rw [if_neg (by omega)]
        exact ⟨by omega, fun _ => h4⟩
      · have h4 := (h.2 h1 h2).2 (Or.inl (by omega))
        rw [if_neg (by omega)]
        exact ⟨by omega, fun _ => h4⟩
theorem Tri.zero : Tri 0 0 0 := by unfold Tri; omega
theorem lex_neg (a b : Int) : lex (-a) (-b) = -(lex a b) := by unfold lex; split <;> split <;> omega
theorem lex_one {a b : Int} (h : One a) (h' : One b) : One (lex a b) := by unfold lex; split <;> assumption
theorem lex_zero {a b : Int} : lex a b = 0 ↔ a = 0 ∧ b = 0 := by unfold lex; split <;> omega

theorem cmpI_neg (a b : Int) : cmpI b a = -(cmpI a b) := by unfold cmpI; split <;> split <;> omega
theorem cmpI_one (a b : Int) : One (cmpI a b) := by unfold cmpI One; (repeat' split) <;> omega
theorem cmpI_zero {a b : Int} : cmpI a b = 0 ↔ a = b := by unfold cmpI; (repeat' split) <;> omega
theorem cmpI_tri (a b c : Int) : Tri (cmpI a b) (cmpI b c) (cmpI a c) := by
  unfold cmpI Tri
  by_cases h1 : a < b <;> by_cases h2 : b < a <;> by_cases h3 : b < c <;> by_cases h4 : c < b <;> by_cases h5 : a < c <;> by_cases h6 : c < a <;> simp only [h1, h2, h3, h4, h5, h6, if_true, if_false] <;> omega

theorem less_irrefl : ∀ l : List UInt8, Op.bytesLess l l = false
  | [] => rfl
  | a :: r => by simp [Op.bytesLess, less_irrefl r]
theorem less_trans : ∀ a b c : List UInt8, Op.bytesLess a b = true → Op.bytesLess b c = true → Op.bytesLess a c = true
  | _, [], _, h, _ => by simp [Op.bytesLess] at h
  | _, _ :: _, [], _, h => by simp [Op.bytesLess] at h
  | [], _ :: _, _ :: _, _, _ => rfl
  | x :: a, y :: b, z :: c, h, h' => by
    simp only [Op.bytesLess, Bool.or_eq_true, decide_eq_true_eq, Bool.and_eq_true, beq_iff_eq] at *
    rcases h with h | ⟨rfl, h⟩
    · rcases h' with h' | ⟨rfl, h'⟩
      · exact Or.inl (UInt8.lt_trans h h')
      · exact Or.inl h
    · rcases h' with h' | ⟨rfl, h'⟩
      · exact Or.inl h'
      · exact Or.inr ⟨rfl, less_trans _ _ _ h h'⟩
theorem less_total : ∀ a b : List UInt8, Op.bytesLess a b = false → Op.bytesLess b a = false → a = b
  | [], [], _, _ => rfl
  | [], _ :: _, h, _ => by simp [Op.bytesLess] at h
  | _ :: _, [], _, h => by simp [Op.bytesLess] at h
  | x :: a, y :: b, h, h' => by
    simp only [Op.bytesLess, Bool.or_eq_false_iff, decide_eq_false_iff_not, Bool.and_eq_false_iff, beq_eq_false_iff_ne] at *
    have e : x = y := UInt8.le_antisymm (UInt8.not_lt.1 h'.1) (UInt8.not_lt.1 h.1)
    subst e
    have h1 : Op.bytesLess a b = false := by rcases h.2 with g | g; exact absurd rfl g; exact g
    have h2 : Op.bytesLess b a = false := by rcases h'.2 with g | g; exact absurd rfl g; exact g
    rw [less_total a b h1 h2]
theorem cmpB_one (a b : ByteArray) : One (cmpB a b) := by unfold cmpB One; (repeat' split) <;> omega
theorem less_asymm {a b : List UInt8} (h : Op.bytesLess a b = true) : Op.bytesLess b a = false := by
  cases hc : Op.bytesLess b a with
  | false => rfl
  | true => have := less_trans _ _ _ h hc; rw [less_irrefl] at this; cases this
theorem cmpB_neg (a b : ByteArray) : cmpB b a = -(cmpB a b) := by
  unfold cmpB
  cases h1 : Op.bytesLess a.toList b.toList <;> cases h2 : Op.bytesLess b.toList a.toList
  · simp
  · simp
  · simp
  · have := less_asymm h1; rw [h2] at this; cases this
theorem cmpB_zero {a b : ByteArray} : cmpB a b = 0 ↔ a = b := by
  unfold cmpB
  constructor
  · intro h
    cases h1 : Op.bytesLess a.toList b.toList <;> cases h2 : Op.bytesLess b.toList a.toList <;> simp [h1, h2] at h
    exact bytes_toList (less_total _ _ h1 h2)
  · rintro rfl; simp [less_irrefl]
theorem cmpB_tri (a b c : ByteArray) : Tri (cmpB a b) (cmpB b c) (cmpB a c) := by
  have key : ∀ x y z : List UInt8, Op.bytesLess y x = false → Op.bytesLess z y = false → Op.bytesLess z x = false ∧ (Op.bytesLess x y = true ∨ Op.bytesLess y z = true → Op.bytesLess x z = true) := by
    intro x y z h h'
    have hxz : Op.bytesLess z x = false := by
      cases hc : Op.bytesLess z x with
      | false => rfl
      | true =>
        cases hxy : Op.bytesLess x y with
        | true => have := less_trans _ _ _ hc hxy; rw [h'] at this; cases this
        | false =>
          have := less_total _ _ hxy h
          subst this
          rw [h'] at hc; cases hc
    refine ⟨hxz, fun g => ?_⟩
    cases hc : Op.bytesLess x z with
    | true => rfl
    | false =>
      have := less_total _ _ hc hxz
      subst this
      rcases g with g | g
      · rw [h'] at g; cases g
      · rw [h] at g; cases g
  have le_iff : ∀ x y : ByteArray, cmpB x y ≤ 0 ↔ Op.bytesLess y.toList x.toList = false := by
    intro x y
    unfold cmpB
    cases h1 : Op.bytesLess x.toList y.toList <;> cases h2 : Op.bytesLess y.toList x.toList <;> simp
    have := less_asymm h1; rw [h2] at this; cases this
  have lt_iff : ∀ x y : ByteArray, cmpB x y < 0 ↔ Op.bytesLess x.toList y.toList = true := by
    intro x y
    unfold cmpB
    cases h1 : Op.bytesLess x.toList y.toList <;> cases h2 : Op.bytesLess y.toList x.toList <;> simp
  have half : ∀ x y z : ByteArray, cmpB x y ≤ 0 → cmpB y z ≤ 0 → cmpB x z ≤ 0 ∧ (cmpB x y < 0 ∨ cmpB y z < 0 → cmpB x z < 0) := by
    intro x y z h h'
    have := key x.toList y.toList z.toList ((le_iff x y).1 h) ((le_iff y z).1 h')
    rw [le_iff, lt_iff, lt_iff, lt_iff]
    exact this
  refine ⟨half a b c, fun h h' => ?_⟩
  have e1 := cmpB_neg a b
  have e2 := cmpB_neg b c
  have e3 := cmpB_neg a c
  have := half c b a (by omega) (by omega)
  exact ⟨by omega, fun g => by have := this.2 (by rcases g with g | g; exact Or.inr (by omega); exact Or.inl (by omega)); omega⟩

mutual
/-- Which of two terms is ahead. -/
def Tm.cmp : Tm → Tm → Int
  | .mk k n s l, .mk k' n' s' l' => lex (cmpI k k') (
      if k = 1 ∨ k = 3 ∨ k = 4 ∨ k = 6 then cmpI n n'
      else if k = 2 then cmpB s s'
      else if k = 5 then lex (cmpI n n') (lex (cmpI l.length l'.length) (cmpL l l'))
      else if k = 7 ∨ k = 9 then lex (cmpI l.length l'.length) (cmpL l l')
      else 0)
def cmpL : List Tm → List Tm → Int
  | [], _ => 0
  | a :: r, l' => match l' with
    | [] => 0
    | b :: r' => lex (a.cmp b) (cmpL r r')
end
theorem cmp_mk (k n : Int) (s : ByteArray) (l : List Tm) (k' n' : Int) (s' : ByteArray) (l' : List Tm) : (Tm.mk k n s l).cmp (.mk k' n' s' l') = lex (cmpI k k') (
      if k = 1 ∨ k = 3 ∨ k = 4 ∨ k = 6 then cmpI n n'
      else if k = 2 then cmpB s s'
      else if k = 5 then lex (cmpI n n') (lex (cmpI l.length l'.length) (cmpL l l'))
      else if k = 7 ∨ k = 9 then lex (cmpI l.length l'.length) (cmpL l l')
      else 0) := by rw [Tm.cmp]
theorem cmpL_cons (a : Tm) (r : List Tm) (b : Tm) (r' : List Tm) : cmpL (a :: r) (b :: r') = lex (a.cmp b) (cmpL r r') := by rw [cmpL]
theorem cmpL_nil (l : List Tm) : cmpL [] l = 0 := by rw [cmpL]
theorem cmpL_nil' (l : List Tm) : cmpL l [] = 0 := by cases l <;> rw [cmpL]

theorem cmp_one (T : Tm) : ∀ U, One (T.cmp U) := by
  induction T using Tm.induct with
  | h k n s l ih =>
    intro U
    obtain ⟨k', n', s', l'⟩ := U
    have hL : ∀ (r : List Tm), (∀ t ∈ r, t ∈ l) → ∀ r', One (cmpL r r') := by
      intro r
      induction r with
      | nil => intro _ r'; rw [cmpL_nil]; exact Or.inr (Or.inl rfl)
      | cons a r ihr =>
        intro hm r'
        cases r' with
        | nil => rw [cmpL_nil']; exact Or.inr (Or.inl rfl)
        | cons b r' => rw [cmpL_cons]; exact lex_one (ih a (hm a List.mem_cons_self) b) (ihr (fun t ht => hm t (List.mem_cons_of_mem _ ht)) r')
    rw [cmp_mk]
    refine lex_one (cmpI_one _ _) ?_
    have h := hL l (fun t h => h) l'
    split
    · exact cmpI_one _ _
    split
    · exact cmpB_one _ _
    split
    · exact lex_one (cmpI_one _ _) (lex_one (cmpI_one _ _) h)
    split
    · exact lex_one (cmpI_one _ _) h
    · exact Or.inr (Or.inl rfl)

theorem cmp_neg (T : Tm) : ∀ U, U.cmp T = -(T.cmp U) := by
  induction T using Tm.induct with
  | h k n s l ih =>
    intro U
    obtain ⟨k', n', s', l'⟩ := U
    have hL : ∀ (r : List Tm), (∀ t ∈ r, t ∈ l) → ∀ r', cmpL r' r = -(cmpL r r') := by
      intro r
      induction r with
      | nil => intro _ r'; rw [cmpL_nil, cmpL_nil']; rfl
      | cons a r ihr =>
        intro hm r'
        cases r' with
        | nil => rw [cmpL_nil', cmpL_nil]; rfl
        | cons b r' => rw [cmpL_cons, cmpL_cons, ih a (hm a List.mem_cons_self) b, ihr (fun t ht => hm t (List.mem_cons_of_mem _ ht)) r', lex_neg]
    have h := hL l (fun t h => h) l'
    rw [cmp_mk, cmp_mk, cmpI_neg k k']
    by_cases hk : k = k'
    · subst hk
      rw [h, cmpI_neg n n', cmpI_neg l.length l'.length, cmpB_neg s s', lex_neg, lex_neg]
      have : cmpI k k = 0 := cmpI_zero.2 rfl
      rw [this]
      unfold lex
      simp only [Int.neg_zero, if_true]
      split
      · rfl
      split
      · rfl
      split
      · rfl
      split
      · rfl
      · rfl
    · have : cmpI k k' ≠ 0 := fun e => hk (cmpI_zero.1 e)
      unfold lex
      rw [if_neg (by omega), if_neg this]

theorem cmp_tri (T : Tm) : ∀ U V, Tri (T.cmp U) (U.cmp V) (T.cmp V) := by
  induction T using Tm.induct with
  | h k n s l ih =>
    intro U V
    obtain ⟨k1, n1, s1, l1⟩ := U
    obtain ⟨k2, n2, s2, l2⟩ := V
    have hL : ∀ (r : List Tm), (∀ t ∈ r, t ∈ l) → ∀ r1 r2 : List Tm, r.length = r1.length → r1.length = r2.length → Tri (cmpL r r1) (cmpL r1 r2) (cmpL r r2) := by
      intro r
      induction r with
      | nil =>
        intro _ r1 r2 h1 h2
        obtain rfl := List.eq_nil_of_length_eq_zero h1.symm
        obtain rfl := List.eq_nil_of_length_eq_zero h2.symm
        rw [cmpL_nil]
        exact Tri.zero
      | cons a r ihr =>
        intro hm r1 r2 h1 h2
        match r1, r2, h1, h2 with
        | b :: r1, c :: r2, h1, h2 =>
          rw [cmpL_cons, cmpL_cons, cmpL_cons]
          exact (ih a (hm a List.mem_cons_self) b c).lex (fun _ _ => ihr (fun t ht => hm t (List.mem_cons_of_mem _ ht)) r1 r2 (by simpa using h1) (by simpa using h2))
    have hl : Tri (lex (cmpI l.length l1.length) (cmpL l l1)) (lex (cmpI l1.length l2.length) (cmpL l1 l2)) (lex (cmpI l.length l2.length) (cmpL l l2)) :=
      (cmpI_tri _ _ _).lex (fun h h' => hL l (fun t h => h) l1 l2 (by have := cmpI_zero.1 h; omega) (by have := cmpI_zero.1 h'; omega))
    rw [cmp_mk, cmp_mk, cmp_mk]
    refine (cmpI_tri _ _ _).lex (fun h h' => ?_)
    obtain rfl := cmpI_zero.1 h
    obtain rfl := cmpI_zero.1 h'
    split
    · exact cmpI_tri _ _ _
    split
    · exact cmpB_tri _ _ _
    split
    · exact (cmpI_tri _ _ _).lex (fun _ _ => hl)
    split
    · exact hl
    · exact Tri.zero

theorem cmp_refl (T : Tm) : T.cmp T = 0 := by have := cmp_neg T T; omega

theorem fitss_at {l : List Tm} (h : fitss l = true) : ∀ t ∈ l, t.fits = true := by
  induction l with
  | nil => intro t ht; cases ht
  | cons a r ih =>
    intro t ht
    rw [fitss, Bool.and_eq_true] at h
    rcases List.mem_cons.1 ht with rfl | ht
    · exact h.1
    · exact ih h.2 t ht

theorem bytes_size0 {s s' : ByteArray} (h : s.size = 0) (h' : s'.size = 0) : s = s' := by
  have e : ∀ b : ByteArray, b.size = 0 → b = ByteArray.empty := fun b hb => by
    obtain ⟨d⟩ := b
    have : d = #[] := Array.eq_empty_of_size_eq_zero hb
    subst this
    rfl
  rw [e s h, e s' h']

/-- Terms that may be are alike just if they are the same. -/
theorem cmp_zero (T : Tm) : ∀ U, T.fits = true → U.fits = true → T.cmp U = 0 → T = U := by
  induction T using Tm.induct with
  | h k n s l ih =>
    intro U hT hU hc
    obtain ⟨k', n', s', l'⟩ := U
    rw [fits_mk, Bool.and_eq_true] at hT hU
    have hm := fitss_at hT.2
    have hm' := fitss_at hU.2
    have hL : ∀ (r : List Tm), (∀ t ∈ r, t ∈ l) → ∀ r' : List Tm, (∀ t ∈ r', t ∈ l') → r.length = r'.length → cmpL r r' = 0 → r = r' := by
      intro r
      induction r with
      | nil => intro _ r' _ h _; exact (List.eq_nil_of_length_eq_zero h.symm).symm
      | cons a r ihr =>
        intro h1 r' h2 h h0
        match r', h with
        | b :: r', h =>
          rw [cmpL_cons, lex_zero] at h0
          rw [ih a (h1 a List.mem_cons_self) b (hm a (h1 a List.mem_cons_self)) (hm' b (h2 b List.mem_cons_self)) h0.1, ihr (fun t ht => h1 t (List.mem_cons_of_mem _ ht)) r' (fun t ht => h2 t (List.mem_cons_of_mem _ ht)) (by simpa using h) h0.2]
    rw [cmp_mk, lex_zero] at hc
    obtain ⟨hk, hb⟩ := hc
    obtain rfl := cmpI_zero.1 hk
    have hf := hT.1
    have hf' := hU.1
    have hlen : ∀ {x : Int}, lex (cmpI l.length l'.length) x = 0 → l.length = l'.length ∧ x = 0 := fun h => by
      have := lex_zero.1 h
      exact ⟨by have := cmpI_zero.1 this.1; omega, this.2⟩
    unfold fitB at hf hf'
    simp only [decide_eq_true_eq] at hf hf'
    have hnil : l.length = 0 → l'.length = 0 → l = l' := fun h h' => by rw [List.eq_nil_of_length_eq_zero h, List.eq_nil_of_length_eq_zero h']
    have hlist : l.length = l'.length → cmpL l l' = 0 → l = l' := fun h h' => hL l (fun t h => h) l' (fun t h => h) h h'
    by_cases h1 : k = 1 ∨ k = 3 ∨ k = 4 ∨ k = 6
    · rw [if_pos h1] at hb
      obtain rfl := cmpI_zero.1 hb
      rw [bytes_size0 (s := s) (s' := s') (by omega) (by omega), hnil (by omega) (by omega)]
    rw [if_neg h1] at hb
    by_cases h2 : k = 2
    · rw [if_pos h2] at hb
      obtain rfl := cmpB_zero.1 hb
      rw [hnil (by omega) (by omega), show n = n' by omega]
    rw [if_neg h2] at hb
    by_cases h5 : k = 5
    · rw [if_pos h5, lex_zero] at hb
      obtain rfl := cmpI_zero.1 hb.1
      have := hlen hb.2
      rw [bytes_size0 (s := s) (s' := s') (by omega) (by omega), hlist this.1 this.2]
    rw [if_neg h5] at hb
    by_cases h7 : k = 7 ∨ k = 9
    · rw [if_pos h7] at hb
      have := hlen hb
      rw [bytes_size0 (s := s) (s' := s') (by omega) (by omega), hlist this.1 this.2, show n = n' by omega]
    · rw [bytes_size0 (s := s) (s' := s') (by omega) (by omega), hnil (by omega) (by omega), show n = n' by omega]

end Go.Proofs.YtnelefokpopfdaaDoor
