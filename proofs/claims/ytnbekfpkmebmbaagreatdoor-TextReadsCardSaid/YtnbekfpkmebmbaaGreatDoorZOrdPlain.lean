/-
  The order of terms, as plain mathematics: it is total.
-/
import Derived.Test.YtnbekfpkmebmbaaGreatDoorZKitBase
import Derived.Test.YtnbekfpkmebmbaaGreatDoorZTermWords
import Derived.Test.YtnbekfpkmebmbaaGreatDoorZTermSame
namespace Go.Proofs.YtnbekfpkmebmbaaGreatDoor
open Go.RowKit Go.Deep

def cmpI (a b : Int) : Int := if a < b then -1 else if b < a then 1 else 0
def cmpB (a b : ByteArray) : Int := if Op.bytesLess a.toList b.toList = true then -1 else if Op.bytesLess b.toList a.toList = true then 1 else 0
/-- The first that isn't 0. -/
def lex (a b : Int) : Int := if a = 0 then b else a

/-- What is known of three comparisons, of a with b, b with c, a with c. -/
def Tri (x y z : Int) : Prop := (x ≤ 0 → y ≤ 0 → z ≤ 0 ∧ (x < 0 ∨ y < 0 → z < 0)) ∧ (0 ≤ x → 0 ≤ y → 0 ≤ z ∧ (0 < x ∨ 0 < y → 0 < z))
def One (x : Int) : Prop := x = -1 ∨ x = 0 ∨ x = 1

theorem Tri.lex {x y z x' y' z' : Int} (h : Tri x y z) (h' : x = 0 → y = 0 → Tri x' y' z') : Tri (lex x x') (lex y y') (lex z z') := by
  unfold Tri Proofs.YtnbekfpkmebmbaaGreatDoor.lex at *
  by_cases hx : x = 0
  · by_cases hy : y = 0
    · have hz : z = 0 := by have h1 := h.1 (by omega) (by omega); have h2 := h.2 (by omega) (by omega); omega
      have h3 := h' hx hy
      rw [if_pos hx, if_pos hy, if_pos hz]
      exact h3
    · rw [if_pos hx, if_neg hy]
      have hz : z ≠ 0 := by
        intro hz
        rcases Int.lt_or_gt_of_ne hy with g | g
        · have := (h.1 (by omega) (by omega)).2 (Or.inr g); omega
        · have := (h.2 (by omega) (by omega)).2 (Or.inr g); omega
      rw [if_neg hz]
      refine ⟨fun h1 h2 => ?_, fun h1 h2 => ?_⟩
      · have h3 := h.1 (by omega) h2
        have h4 := h3.2 (Or.inr (by omega))
        exact ⟨by omega, fun _ => h4⟩
      · have h3 := h.2 (by omega) h2
        have h4 := h3.2 (Or.inr (by omega))
        exact ⟨by omega, fun _ => h4⟩
  · rw [if_neg hx]
    by_cases hy : y = 0
    · rw [if_pos hy]
      have hz : z ≠ 0 := by
        intro hz
        rcases Int.lt_or_gt_of_ne hx with g | g
        · have := (h.1 (by omega) (by omega)).2 (Or.inl g); omega
        · have := (h.2 (by omega) (by omega)).2 (Or.inl g); omega
      rw [if_neg hz]
      refine ⟨fun h1 h2 => ?_, fun h1 h2 => ?_⟩
      · have h4 := (h.1 (by omega) (by omega)).2 (Or.inl (by omega))
        exact ⟨by omega, fun _ => h4⟩
      · have h4 := (h.2 (by omega) (by omega)).2 (Or.inl (by omega))
        exact ⟨by omega, fun _ => h4⟩
    · rw [if_neg hy]
      refine ⟨fun h1 h2 => ?_, fun h1 h2 => ?_⟩
      · have h4 := (h.1 h1 h2).2 (Or.inl (by omega))
        rw [if_neg (by omega)]
        exact ⟨by omega, fun _ => h4⟩
      · have h4 := (h.2 h1 h2).2 (Or.inl (by omega))
        rw [if_neg (by omega)]
        exact ⟨by omega, fun _ => h4⟩
theorem Tri.zero : Tri 0 0 0 := by unfold Tri; omega
theorem lex_neg (a b : Int) : lex (-a) (-b) = -(lex a b) := by unfold lex; split <;> split <;> omega
theorem lex_one {a b : Int} (h : One a) (h' : One b) : One (lex a b) := by unfold lex; split <;> assumption
theorem lex_zero {a b : Int} : lex a b = 0 ↔ a = 0 ∧ b = 0 := by unfold lex; split <;> omega

theorem cmpI_neg (a b : Int) : cmpI b a = -(cmpI a b) := by unfold cmpI; split <;> split <;> omega
theorem cmpI_one (a b : Int) : One (cmpI a b) := by unfold cmpI One; (repeat' split) <;> omega
theorem cmpI_zero {a b : Int} : cmpI a b = 0 ↔ a = b := by unfold cmpI; (repeat' split) <;> omega
theorem cmpI_tri (a b c : Int) : Tri (cmpI a b) (cmpI b c) (cmpI a c) := by
  unfold cmpI Tri
  by_cases h1 : a < b <;> by_cases h2 : b < a <;> by_cases h3 : b < c <;> by_cases h4 : c < b <;> by_cases h5 : a < c <;> by_cases h6 : c < a <;> simp only [h1, h2, h3, h4, h5, h6, if_true, if_false] <;> omega

theorem less_irrefl : ∀ l : List UInt8, Op.bytesLess l l = false
  | [] => rfl
  | a :: r => by simp [Op.bytesLess, less_irrefl r]
theorem less_trans : ∀ a b c : List UInt8, Op.bytesLess a b = true → Op.bytesLess b c = true → Op.bytesLess a c = true
  | _, [], _, h, _ => by simp [Op.bytesLess] at h
  | _, _ :: _, [], _, h => by simp [Op.bytesLess] at h
  | [], _ :: _, _ :: _, _, _ => rfl
  | x :: a, y :: b, z :: c, h, h' => by
    simp only [Op.bytesLess, Bool.or_eq_true, decide_eq_true_eq, Bool.and_eq_true, beq_iff_eq] at *
    rcases h with h | ⟨rfl, h⟩
    · rcases h' with h' | ⟨rfl, h'⟩
      · exact Or.inl (UInt8.lt_trans h h')
      · exact Or.inl h
    · rcases h' with h' | ⟨rfl, h'⟩
      · exact Or.inl h'
      · exact Or.inr ⟨rfl, less_trans _ _ _ h h'⟩
theorem less_total : ∀ a b : List UInt8, Op.bytesLess a b = false → Op.bytesLess b a = false → a = b
  | [], [], _, _ => rfl
  | [], _ :: _, h, _ => by simp [Op.bytesLess] at h
  | _ :: _, [], _, h => by simp [Op.bytesLess] at h
  | x :: a, y :: b, h, h' => by
    simp only [Op.bytesLess, Bool.or_eq_false_iff, decide_eq_false_iff_not, Bool.and_eq_false_iff, beq_eq_false_iff_ne] at *
    have e : x = y := UInt8.le_antisymm (UInt8.not_lt.1 h'.1) (UInt8.not_lt.1 h.1)
    subst e
    have h1 : Op.bytesLess a b = false := by rcases h.2 with g | g; exact absurd rfl g; exact g
    have h2 : Op.bytesLess b a = false := by rcases h'.2 with g | g; exact absurd rfl g; exact g
    rw [less_total a b h1 h2]
theorem cmpB_one (a b : ByteArray) : One (cmpB a b) := by unfold cmpB One; (repeat' split) <;> omega
theorem less_asymm {a b : List UInt8} (h : Op.bytesLess a b = true) : Op.bytesLess b a = false := by
  cases hc : Op.bytesLess b a with
  | false => rfl
  | true => have := less_trans _ _ _ h hc; rw [less_irrefl] at this; cases this
theorem cmpB_neg (a b : ByteArray) : cmpB b a = -(cmpB a b) := by
  unfold cmpB
  cases h1 : Op.bytesLess a.toList b.toList <;> cases h2 : Op.bytesLess b.toList a.toList
  · simp
  · simp
  · simp
  · have := less_asymm h1; rw [h2] at this; cases this
theorem cmpB_zero {a b : ByteArray} : cmpB a b = 0 ↔ a = b := by
  unfold cmpB
  constructor
  · intro h
    cases h1 : Op.bytesLess a.toList b.toList <;> cases h2 : Op.bytesLess b.toList a.toList <;> simp [h1, h2] at h
    exact bytes_toList (less_total _ _ h1 h2)
  · rintro rfl; simp [less_irrefl]
theorem cmpB_tri (a b c : ByteArray) : Tri (cmpB a b) (cmpB b c) (cmpB a c) := by
  have key : ∀ x y z : List UInt8, Op.bytesLess y x = false → Op.bytesLess z y = false → Op.bytesLess z x = false ∧ (Op.bytesLess x y = true ∨ Op.bytesLess y z = true → Op.bytesLess x z = true) := by
    intro x y z h h'
    have hxz : Op.bytesLess z x = false := by
      cases hc : Op.bytesLess z x with
      | false => rfl
      | true =>
        cases hxy : Op.bytesLess x y with
        | true => have := less_trans _ _ _ hc hxy; rw [h'] at this; cases this
        | false =>
          have := less_total _ _ hxy h
          subst this
          rw [h'] at hc; cases hc
    refine ⟨hxz, fun g => ?_⟩
    cases hc : Op.bytesLess x z with
    | true => rfl
    | false =>
      have := less_total _ _ hc hxz
      subst this
      rcases g with g | g
      · rw [h'] at g; cases g
      · rw [h] at g; cases g
  have le_iff : ∀ x y : ByteArray, cmpB x y ≤ 0 ↔ Op.bytesLess y.toList x.toList = false := by
    intro x y
    unfold cmpB
    cases h1 : Op.bytesLess x.toList y.toList <;> cases h2 : Op.bytesLess y.toList x.toList <;> simp
    have := less_asymm h1; rw [h2] at this; cases this
  have lt_iff : ∀ x y : ByteArray, cmpB x y < 0 ↔ Op.bytesLess x.toList y.toList = true := by
    intro x y
    unfold cmpB
    cases h1 : Op.bytesLess x.toList y.toList <;> cases h2 : Op.bytesLess y.toList x.toList <;> simp
  have half : ∀ x y z : ByteArray, cmpB x y ≤ 0 → cmpB y z ≤ 0 → cmpB x z ≤ 0 ∧ (cmpB x y < 0 ∨ cmpB y z < 0 → cmpB x z < 0) := by
    intro x y z h h'
    have := key x.toList y.toList z.toList ((le_iff x y).1 h) ((le_iff y z).1 h')
    rw [le_iff, lt_iff, lt_iff, lt_iff]
    exact this
  refine ⟨half a b c, fun h h' => ?_⟩
  have e1 := cmpB_neg a b
  have e2 := cmpB_neg b c
  have e3 := cmpB_neg a c
  have := half c b a (by omega) (by omega)
  exact ⟨by omega, fun g => by have := this.2 (by rcases g with g | g; exact Or.inr (by omega); exact Or.inl (by omega)); omega⟩

mutual
/-- Which of two terms is ahead. -/
def Tm.cmp : Tm → Tm → Int
  | .mk k n s l, .mk k' n' s' l' => lex (cmpI k k') (
      if k = 1 ∨ k = 3 ∨ k = 4 ∨ k = 6 then cmpI n n'
      else if k = 2 then cmpB s s'
      else if k = 5 then lex (cmpI n n') (lex (cmpI l.length l'.length) (cmpL l l'))
      else if k = 7 ∨ k = 9 then lex (cmpI l.length l'.length) (cmpL l l')
      else 0)
def cmpL : List Tm → List Tm → Int
  | [], _ => 0
  | a :: r, l' => match l' with
    | [] => 0
    | b :: r' => lex (a.cmp b) (cmpL r r')
end
theorem cmp_mk (k n : Int) (s : ByteArray) (l : List Tm) (k' n' : Int) (s' : ByteArray) (l' : List Tm) : (Tm.mk k n s l).cmp (.mk k' n' s' l') = lex (cmpI k k') (
      if k = 1 ∨ k = 3 ∨ k = 4 ∨ k = 6 then cmpI n n'
      else if k = 2 then cmpB s s'
      else if k = 5 then lex (cmpI n n') (lex (cmpI l.length l'.length) (cmpL l l'))
      else if k = 7 ∨ k = 9 then lex (cmpI l.length l'.length) (cmpL l l')
      else 0) := by rw [Tm.cmp]
theorem cmpL_cons (a : Tm) (r : List Tm) (b : Tm) (r' : List Tm) : cmpL (a :: r) (b :: r') = lex (a.cmp b) (cmpL r r') := by rw [cmpL]
theorem cmpL_nil (l : List Tm) : cmpL [] l = 0 := by rw [cmpL]
theorem cmpL_nil' (l : List Tm) : cmpL l [] = 0 := by cases l <;> rw [cmpL]

theorem cmp_one (T : Tm) : ∀ U, One (T.cmp U) := by
  induction T using Tm.induct with
  | h k n s l ih =>
    intro U
    obtain ⟨k', n', s', l'⟩ := U
    have hL : ∀ (r : List Tm), (∀ t ∈ r, t ∈ l) → ∀ r', One (cmpL r r') := by
      intro r
      induction r with
      | nil => intro _ r'; rw [cmpL_nil]; exact Or.inr (Or.inl rfl)
      | cons a r ihr =>
        intro hm r'
        cases r' with
        | nil => rw [cmpL_nil']; exact Or.inr (Or.inl rfl)
        | cons b r' => rw [cmpL_cons]; exact lex_one (ih a (hm a List.mem_cons_self) b) (ihr (fun t ht => hm t (List.mem_cons_of_mem _ ht)) r')
    rw [cmp_mk]
    refine lex_one (cmpI_one _ _) ?_
    have h := hL l (fun t h => h) l'
    split
    · exact cmpI_one _ _
    split
    · exact cmpB_one _ _
    split
    · exact lex_one (cmpI_one _ _) (lex_one (cmpI_one _ _) h)
    split
    · exact lex_one (cmpI_one _ _) h
    · exact Or.inr (Or.inl rfl)

theorem cmp_neg (T : Tm) : ∀ U, U.cmp T = -(T.cmp U) := by
  induction T using Tm.induct with
  | h k n s l ih =>
    intro U
    obtain ⟨k', n', s', l'⟩ := U
    have hL : ∀ (r : List Tm), (∀ t ∈ r, t ∈ l) → ∀ r', cmpL r' r = -(cmpL r r') := by
      intro r
      induction r with
      | nil => intro _ r'; rw [cmpL_nil, cmpL_nil']; rfl
      | cons a r ihr =>
        intro hm r'
        cases r' with
        | nil => rw [cmpL_nil', cmpL_nil]; rfl
        | cons b r' => rw [cmpL_cons, cmpL_cons, ih a (hm a List.mem_cons_self) b, ihr (fun t ht => hm t (List.mem_cons_of_mem _ ht)) r', lex_neg]
    have h := hL l (fun t h => h) l'
    rw [cmp_mk, cmp_mk, cmpI_neg k k']
    by_cases hk : k = k'
    · subst hk
      rw [h, cmpI_neg n n', cmpI_neg l.length l'.length, cmpB_neg s s', lex_neg, lex_neg]
      have : cmpI k k = 0 := cmpI_zero.2 rfl
      rw [this]
      unfold lex
      simp only [Int.neg_zero, if_true]
      split
      · rfl
      split
      · rfl
      split
      · rfl
      split
      · rfl
      · rfl
    · have : cmpI k k' ≠ 0 := fun e => hk (cmpI_zero.1 e)
      unfold lex
      rw [if_neg (by omega), if_neg this]

theorem cmp_tri (T : Tm) : ∀ U V, Tri (T.cmp U) (U.cmp V) (T.cmp V) := by
  induction T using Tm.induct with
  | h k n s l ih =>
    intro U V
    obtain ⟨k1, n1, s1, l1⟩ := U
    obtain ⟨k2, n2, s2, l2⟩ := V
    have hL : ∀ (r : List Tm), (∀ t ∈ r, t ∈ l) → ∀ r1 r2 : List Tm, r.length = r1.length → r1.length = r2.length → Tri (cmpL r r1) (cmpL r1 r2) (cmpL r r2) := by
      intro r
      induction r with
      | nil =>
        intro _ r1 r2 h1 h2
        obtain rfl := List.eq_nil_of_length_eq_zero h1.symm
        obtain rfl := List.eq_nil_of_length_eq_zero h2.symm
        rw [cmpL_nil]
        exact Tri.zero
      | cons a r ihr =>
        intro hm r1 r2 h1 h2
        match r1, r2, h1, h2 with
        | b :: r1, c :: r2, h1, h2 =>
          rw [cmpL_cons, cmpL_cons, cmpL_cons]
          exact (ih a (hm a List.mem_cons_self) b c).lex (fun _ _ => ihr (fun t ht => hm t (List.mem_cons_of_mem _ ht)) r1 r2 (by simpa using h1) (by simpa using h2))
    have hl : Tri (lex (cmpI l.length l1.length) (cmpL l l1)) (lex (cmpI l1.length l2.length) (cmpL l1 l2)) (lex (cmpI l.length l2.length) (cmpL l l2)) :=
      (cmpI_tri _ _ _).lex (fun h h' => hL l (fun t h => h) l1 l2 (by have := cmpI_zero.1 h; omega) (by have := cmpI_zero.1 h'; omega))
    rw [cmp_mk, cmp_mk, cmp_mk]
    refine (cmpI_tri _ _ _).lex (fun h h' => ?_)
    obtain rfl := cmpI_zero.1 h
    obtain rfl := cmpI_zero.1 h'
    split
    · exact cmpI_tri _ _ _
    split
    · exact cmpB_tri _ _ _
    split
    · exact (cmpI_tri _ _ _).lex (fun _ _ => hl)
    split
    · exact hl
    · exact Tri.zero

theorem cmp_refl (T : Tm) : T.cmp T = 0 := by have := cmp_neg T T; omega

theorem fitss_at {l : List Tm} (h : fitss l = true) : ∀ t ∈ l, t.fits = true := by
  induction l with
  | nil => intro t ht; cases ht
  | cons a r ih =>
    intro t ht
    rw [fitss, Bool.and_eq_true] at h
    rcases List.mem_cons.1 ht with rfl | ht
    · exact h.1
    · exact ih h.2 t ht

theorem bytes_size0 {s s' : ByteArray} (h : s.size = 0) (h' : s'.size = 0) : s = s' := by
  have e : ∀ b : ByteArray, b.size = 0 → b = ByteArray.empty := fun b hb => by
    obtain ⟨d⟩ := b
    have : d = #[] := Array.eq_empty_of_size_eq_zero hb
    subst this
    rfl
  rw [e s h, e s' h']

/-- Terms that may be are alike just if they are the same. -/
theorem cmp_zero (T : Tm) : ∀ U, T.fits = true → U.fits = true → T.cmp U = 0 → T = U := by
  induction T using Tm.induct with
  | h k n s l ih =>
    intro U hT hU hc
    obtain ⟨k', n', s', l'⟩ := U
    rw [fits_mk, Bool.and_eq_true] at hT hU
    have hm := fitss_at hT.2
    have hm' := fitss_at hU.2
    have hL : ∀ (r : List Tm), (∀ t ∈ r, t ∈ l) → ∀ r' : List Tm, (∀ t ∈ r', t ∈ l') → r.length = r'.length → cmpL r r' = 0 → r = r' := by
      intro r
      induction r with
      | nil => intro _ r' _ h _; exact (List.eq_nil_of_length_eq_zero h.symm).symm
      | cons a r ihr =>
        intro h1 r' h2 h h0
        match r', h with
        | b :: r', h =>
          rw [cmpL_cons, lex_zero] at h0
          rw [ih a (h1 a List.mem_cons_self) b (hm a (h1 a List.mem_cons_self)) (hm' b (h2 b List.mem_cons_self)) h0.1, ihr (fun t ht => h1 t (List.mem_cons_of_mem _ ht)) r' (fun t ht => h2 t (List.mem_cons_of_mem _ ht)) (by simpa using h) h0.2]
    rw [cmp_mk, lex_zero] at hc
    obtain ⟨hk, hb⟩ := hc
    obtain rfl := cmpI_zero.1 hk
    have hf := hT.1
    have hf' := hU.1
    have hlen : ∀ {x : Int}, lex (cmpI l.length l'.length) x = 0 → l.length = l'.length ∧ x = 0 := fun h => by
      have := lex_zero.1 h
      exact ⟨by have := cmpI_zero.1 this.1; omega, this.2⟩
    unfold fitB at hf hf'
    simp only [decide_eq_true_eq] at hf hf'
    have hnil : l.length = 0 → l'.length = 0 → l = l' := fun h h' => by rw [List.eq_nil_of_length_eq_zero h, List.eq_nil_of_length_eq_zero h']
    have hlist : l.length = l'.length → cmpL l l' = 0 → l = l' := fun h h' => hL l (fun t h => h) l' (fun t h => h) h h'
    by_cases h1 : k = 1 ∨ k = 3 ∨ k = 4 ∨ k = 6
    · rw [if_pos h1] at hb
      obtain rfl := cmpI_zero.1 hb
      rw [bytes_size0 (s := s) (s' := s') (by omega) (by omega), hnil (by omega) (by omega)]
    rw [if_neg h1] at hb
    by_cases h2 : k = 2
    · rw [if_pos h2] at hb
      obtain rfl := cmpB_zero.1 hb
      rw [hnil (by omega) (by omega), show n = n' by omega]
    rw [if_neg h2] at hb
    by_cases h5 : k = 5
    · rw [if_pos h5, lex_zero] at hb
      obtain rfl := cmpI_zero.1 hb.1
      have := hlen hb.2
      rw [bytes_size0 (s := s) (s' := s') (by omega) (by omega), hlist this.1 this.2]
    rw [if_neg h5] at hb
    by_cases h7 : k = 7 ∨ k = 9
    · rw [if_pos h7] at hb
      have := hlen hb
      rw [bytes_size0 (s := s) (s' := s') (by omega) (by omega), hlist this.1 this.2, show n = n' by omega]
    · rw [bytes_size0 (s := s) (s' := s') (by omega) (by omega), hnil (by omega) (by omega), show n = n' by omega]

end Go.Proofs.YtnbekfpkmebmbaaGreatDoor

/-
  Texts of numbers and of atoms, as plain mathematics.
-/
namespace Go.Proofs.YtnbekfpkmebmbaaGreatDoor
open Go.RowKit Go.Deep

/-! ### Numbers -/

def isDig (c : UInt8) : Bool := decide (48 ≤ c.toNat ∧ c.toNat ≤ 57)
def dg (d : Nat) : UInt8 := UInt8.ofNat (48 + d)
def decF : Nat → Nat → List UInt8
  | 0, _ => []
  | f + 1, n => if n < 10 then [dg n] else decF f (n / 10) ++ [dg (n % 10)]
/-- A number's digits (of numbers below 10^20). -/
def decN (n : Nat) : List UInt8 := decF 20 n
def dec (n : Int) : List UInt8 := if n < 0 then 45 :: decN (-n).toNat else decN n.toNat
def valD (l : List UInt8) : Nat := l.foldl (fun a c => 10 * a + (c.toNat - 48)) 0

theorem dg_toNat {d : Nat} (h : d < 10) : (dg d).toNat = 48 + d := by
  unfold dg
  rw [UInt8.toNat_ofNat']
  omega
theorem dg_dig {d : Nat} (h : d < 10) : isDig (dg d) = true := by
  unfold isDig
  rw [dg_toNat h]
  simp
  omega
theorem valD_snoc (l : List UInt8) (d : Nat) (h : d < 10) : valD (l ++ [dg d]) = 10 * valD l + d := by
  unfold valD
  rw [List.foldl_append]
  simp only [List.foldl_cons, List.foldl_nil, dg_toNat h]
  omega
theorem decF_val : ∀ (f n : Nat), n < 10 ^ f → valD (decF f n) = n := by
  intro f
  induction f with
  | zero => intro n h; simp at h; subst h; rfl
  | succ f ih =>
    intro n h
    rw [decF]
    split
    · rename_i h10
      have := valD_snoc [] n h10
      simpa [valD] using this
    · rw [valD_snoc _ _ (Nat.mod_lt _ (by omega)), ih (n / 10) (by rw [Nat.pow_succ] at h; omega)]
      omega
theorem decF_dig : ∀ (f n : Nat), ∀ c ∈ decF f n, isDig c = true := by
  intro f
  induction f with
  | zero => intro n c h; cases h
  | succ f ih =>
    intro n c h
    rw [decF] at h
    split at h
    · rename_i h10
      rw [List.mem_singleton] at h
      rw [h]
      exact dg_dig h10
    · rcases List.mem_append.1 h with h | h
      · exact ih _ c h
      · rw [List.mem_singleton] at h
        rw [h]
        exact dg_dig (Nat.mod_lt _ (by omega))
theorem decF_ne (f n : Nat) : decF (f + 1) n ≠ [] := by
  rw [decF]
  split <;> simp
theorem decN_ne (n : Nat) : decN n ≠ [] := decF_ne 19 n
theorem decN_dig (n : Nat) : ∀ c ∈ decN n, isDig c = true := decF_dig 20 n
theorem decN_inj {n m : Nat} (hn : n < 100000000000000000000) (hm : m < 100000000000000000000) (h : decN n = decN m) : n = m := by
  rw [← decF_val 20 n (by simpa using hn), ← decF_val 20 m (by simpa using hm)]
  exact congrArg valD h
theorem decN_step {n : Nat} (h : 10 ≤ n) (hn : n < 10000000000000000000) : decN n = decN (n / 10) ++ [dg (n % 10)] := by
  have key : ∀ (f n : Nat), n < 10 ^ f → f ≠ 0 → decF f n = decF (f + 1) n := by
    intro f
    induction f with
    | zero => intro n h h0; exact absurd rfl h0
    | succ f ih =>
      intro n h _
      rw [decF, decF]
      split
      · rfl
      · rename_i h10
        by_cases h0 : f = 0
        · subst h0
          simp at h
          omega
        · rw [ih (n / 10) (by rw [Nat.pow_succ] at h; omega) h0]
  show decF 20 n = _
  rw [decF, if_neg (by omega), key 19 (n / 10) (by simp; omega) (by omega)]
  rfl
theorem decN_small {n : Nat} (h : n < 10) : decN n = [dg n] := by
  show decF 20 n = _
  rw [decF, if_pos h]

/-- No digit is first. -/
def NoDig (r : List UInt8) : Prop := ∀ c r', r = c :: r' → isDig c = false
/-- Runs of signs of a kind, at whose ends none of them goes on. -/
theorem run_inj (p : UInt8 → Bool) : ∀ (a b r r' : List UInt8), (∀ c ∈ a, p c = true) → (∀ c ∈ b, p c = true) → (∀ c x, r = c :: x → p c = false) → (∀ c x, r' = c :: x → p c = false) → a ++ r = b ++ r' → a = b ∧ r = r' := by
  intro a
  induction a with
  | nil =>
    intro b r r' _ hb hr _ h
    cases b with
    | nil => exact ⟨rfl, h⟩
    | cons c b =>
      have := hr c _ h
      rw [hb c List.mem_cons_self] at this
      cases this
  | cons c a ih =>
    intro b r r' ha hb hr hr' h
    cases b with
    | nil =>
      have := hr' c (a ++ r) h.symm
      rw [ha c List.mem_cons_self] at this
      cases this
    | cons d b =>
      simp only [List.cons_append, List.cons.injEq] at h
      obtain ⟨rfl, h⟩ := h
      obtain ⟨e, h2⟩ := ih b r r' (fun x hx => ha x (List.mem_cons_of_mem _ hx)) (fun x hx => hb x (List.mem_cons_of_mem _ hx)) hr hr' h
      exact ⟨by rw [e], h2⟩
theorem decN_run {n m : Nat} (hn : n < 100000000000000000000) (hm : m < 100000000000000000000) {r r' : List UInt8} (hr : NoDig r) (hr' : NoDig r') (h : decN n ++ r = decN m ++ r') : n = m ∧ r = r' := by
  obtain ⟨e, h⟩ := run_inj isDig _ _ r r' (decN_dig n) (decN_dig m) hr hr' h
  exact ⟨decN_inj hn hm e, h⟩
theorem decN_head (n : Nat) : ∃ c x, decN n = c :: x ∧ isDig c = true := by
  cases h : decN n with
  | nil => exact absurd h (decN_ne n)
  | cons c x => exact ⟨c, x, rfl, decN_dig n c (by rw [h]; exact List.mem_cons_self)⟩
theorem dec_run {n m : Int} (hn : -10000000000000000000 < n ∧ n < 10000000000000000000) (hm : -10000000000000000000 < m ∧ m < 10000000000000000000) {r r' : List UInt8} (hr : NoDig r) (hr' : NoDig r') (h : dec n ++ r = dec m ++ r') : n = m ∧ r = r' := by
  unfold dec at h
  split at h <;> split at h
  · simp only [List.cons_append, List.cons.injEq, true_and] at h
    obtain ⟨e, h⟩ := decN_run (by omega) (by omega) hr hr' h
    exact ⟨by omega, h⟩
  · obtain ⟨c, x, e, hc⟩ := decN_head m.toNat
    rw [e] at h
    simp only [List.cons_append, List.cons.injEq] at h
    rw [← h.1] at hc
    exact absurd hc (by decide)
  · obtain ⟨c, x, e, hc⟩ := decN_head n.toNat
    rw [e] at h
    simp only [List.cons_append, List.cons.injEq] at h
    rw [h.1] at hc
    exact absurd hc (by decide)
  · obtain ⟨e, h⟩ := decN_run (by omega) (by omega) hr hr' h
    exact ⟨by omega, h⟩

/-! ### Atoms -/

def isLow (c : UInt8) : Bool := decide (97 ≤ c.toNat ∧ c.toNat ≤ 122)
def isWd (c : UInt8) : Bool := isLow c || decide (65 ≤ c.toNat ∧ c.toNat ≤ 90) || isDig c || c == 95 || c == 64
/-- The words of the language. -/
def wordsT : List (List UInt8) := [[97, 102, 116, 101, 114], [97, 110, 100], [97, 110, 100, 97, 108, 115, 111], [98, 101, 103, 105, 110], [99, 97, 115, 101], [99, 97, 116, 99, 104], [100, 105, 118], [101, 110, 100], [102, 117, 110], [110, 111, 116], [111, 102], [111, 114], [111, 114, 101, 108, 115, 101], [114, 101, 99, 101, 105, 118, 101], [114, 101, 109], [116, 114, 121], [119, 104, 101, 110]]
def plainT (s : List UInt8) : Bool :=
  match s with
  | [] => false
  | c :: _ => decide (s.length ≤ 64) && isLow c && s.all isWd && !(wordsT.contains s)
def hxd (d : Nat) : UInt8 := if d < 10 then UInt8.ofNat (48 + d) else UInt8.ofNat (87 + d)
def qb (c : UInt8) : List UInt8 := if c.toNat < 32 ∨ 126 < c.toNat then [92, 120, hxd (c.toNat / 16), hxd (c.toNat % 16)] else if c = 39 ∨ c = 92 then [92, c] else [c]
def quoteT (s : List UInt8) : List UInt8 := 39 :: (s.flatMap qb ++ [39])
def atomT (s : List UInt8) : List UInt8 := if plainT s = true then s else quoteT s

theorem hxd_toNat {d : Nat} (h : d < 16) : (hxd d).toNat = if d < 10 then 48 + d else 87 + d := by
  unfold hxd
  split
  · rw [UInt8.toNat_ofNat']; omega
  · rw [UInt8.toNat_ofNat']; omega
theorem hxd_inj {d e : Nat} (hd : d < 16) (he : e < 16) (h : hxd d = hxd e) : d = e := by
  have := congrArg UInt8.toNat h
  rw [hxd_toNat hd, hxd_toNat he] at this
  split at this <;> split at this <;> omega
theorem qb_head (c : UInt8) : ∃ d x, qb c = d :: x ∧ d ≠ 39 := by
  unfold qb
  split
  · exact ⟨92, _, rfl, by decide⟩
  · split
    · exact ⟨92, _, rfl, by decide⟩
    · rename_i h
      exact ⟨c, _, rfl, fun e => h (Or.inl e)⟩
theorem qb_inj {c d : UInt8} {x y : List UInt8} (h : qb c ++ x = qb d ++ y) : c = d ∧ x = y := by
  have hxx : (120 : UInt8).toNat = 120 := rfl
  have h92 : (92 : UInt8).toNat = 92 := rfl
  unfold qb at h
  by_cases hc : c.toNat < 32 ∨ 126 < c.toNat
  · rw [if_pos hc] at h
    by_cases hd : d.toNat < 32 ∨ 126 < d.toNat
    · rw [if_pos hd] at h
      simp only [List.cons_append, List.cons.injEq, true_and, List.nil_append] at h
      have hc2 := c.toNat_lt
      have hd2 := d.toNat_lt
      have e1 := hxd_inj (by omega) (by omega) h.1
      have e2 := hxd_inj (by omega) (by omega) h.2.1
      exact ⟨UInt8.toNat_inj.1 (by omega), h.2.2⟩
    · rw [if_neg hd] at h
      by_cases hq : d = 39 ∨ d = 92
      · rw [if_pos hq] at h
        simp only [List.cons_append, List.cons.injEq, true_and, List.nil_append] at h
        have := h.1
        rcases hq with rfl | rfl <;> exact absurd this (by decide)
      · rw [if_neg hq] at h
        simp only [List.cons_append, List.cons.injEq, List.nil_append] at h
        exact absurd (Or.inr h.1.symm) hq
  · rw [if_neg hc] at h
    by_cases hd : d.toNat < 32 ∨ 126 < d.toNat
    · rw [if_pos hd] at h
      by_cases hq : c = 39 ∨ c = 92
      · rw [if_pos hq] at h
        simp only [List.cons_append, List.cons.injEq, true_and, List.nil_append] at h
        have := h.1
        rcases hq with rfl | rfl <;> exact absurd this (by decide)
      · rw [if_neg hq] at h
        simp only [List.cons_append, List.cons.injEq, List.nil_append] at h
        exact absurd (Or.inr h.1) hq
    · rw [if_neg hd] at h
      by_cases hq : c = 39 ∨ c = 92
      · rw [if_pos hq] at h
        by_cases hq' : d = 39 ∨ d = 92
        · rw [if_pos hq'] at h
          simpa using h
        · rw [if_neg hq'] at h
          simp only [List.cons_append, List.cons.injEq, List.nil_append] at h
          exact absurd (Or.inr h.1.symm) hq'
      · rw [if_neg hq] at h
        by_cases hq' : d = 39 ∨ d = 92
        · rw [if_pos hq'] at h
          simp only [List.cons_append, List.cons.injEq, List.nil_append] at h
          exact absurd (Or.inr h.1) hq
        · rw [if_neg hq'] at h
          simpa using h
theorem quotes_inj : ∀ (a b r r' : List UInt8), a.flatMap qb ++ 39 :: r = b.flatMap qb ++ 39 :: r' → a = b ∧ r = r' := by
  intro a
  induction a with
  | nil =>
    intro b r r' h
    cases b with
    | nil => simpa using h
    | cons d b =>
      obtain ⟨e, x, hq, hne⟩ := qb_head d
      rw [List.flatMap_cons, hq] at h
      simp only [List.flatMap_nil, List.nil_append, List.cons_append, List.cons.injEq] at h
      exact absurd h.1.symm hne
  | cons c a ih =>
    intro b r r' h
    cases b with
    | nil =>
      obtain ⟨e, x, hq, hne⟩ := qb_head c
      rw [List.flatMap_cons, hq] at h
      simp only [List.flatMap_nil, List.nil_append, List.cons_append, List.cons.injEq] at h
      exact absurd h.1 hne
    | cons d b =>
      rw [List.flatMap_cons, List.flatMap_cons, List.append_assoc, List.append_assoc] at h
      obtain ⟨e, h2⟩ := qb_inj h
      obtain ⟨e3, h3⟩ := ih b r r' h2
      exact ⟨by rw [e, e3], h3⟩
theorem plain_head {s : List UInt8} (h : plainT s = true) : ∃ c x, s = c :: x ∧ isLow c = true ∧ (∀ d ∈ s, isWd d = true) ∧ s.length ≤ 64 := by
  cases s with
  | nil => cases h
  | cons c x =>
    simp only [plainT, Bool.and_eq_true, decide_eq_true_eq, List.all_eq_true] at h
    exact ⟨c, x, rfl, h.1.1.2, h.1.2, h.1.1.1⟩
/-- No sign of a plain atom is first. -/
def NoWd (r : List UInt8) : Prop := ∀ c r', r = c :: r' → isWd c = false
theorem low_39 : isLow 39 = false := by decide
theorem atom_run {s u r r' : List UInt8} (hr : plainT s = true → NoWd r) (hr' : plainT u = true → NoWd r') (h : atomT s ++ r = atomT u ++ r') : s = u ∧ r = r' := by
  unfold atomT at h
  split at h <;> split at h
  · rename_i h1 h2
    obtain ⟨c, x, rfl, hc, ha, _⟩ := plain_head h1
    obtain ⟨d, y, rfl, hd, hb, _⟩ := plain_head h2
    exact run_inj isWd _ _ r r' ha hb (hr h1) (hr' h2) h
  · rename_i h1 h2
    obtain ⟨c, x, rfl, hc, ha, _⟩ := plain_head h1
    simp only [quoteT, List.cons_append, List.cons.injEq] at h
    rw [h.1, low_39] at hc
    cases hc
  · rename_i h1 h2
    obtain ⟨c, x, rfl, hc, ha, _⟩ := plain_head h2
    simp only [quoteT, List.cons_append, List.cons.injEq] at h
    rw [← h.1, low_39] at hc
    cases hc
  · simp only [quoteT, List.cons_append, List.cons.injEq, true_and, List.append_assoc, List.nil_append] at h
    exact quotes_inj s u r r' h

end Go.Proofs.YtnbekfpkmebmbaaGreatDoor

/-
  The text of a term, as plain mathematics: it tells which term it is.
-/
namespace Go.Proofs.YtnbekfpkmebmbaaGreatDoor
open Go.RowKit Go.Deep

/-- '#Fun<', and its kin. -/
def sharpT (c : List UInt8) : List UInt8 := 35 :: (c ++ [60])
def joinT : List (List UInt8) → List UInt8
  | [] => []
  | t :: r => t ++ r.flatMap (44 :: ·)
/-- What stands in a Cons's text behind its sign. -/
def consT : List (List UInt8 × List UInt8) → List UInt8
  | h :: t :: _ => h.1 ++ t.2
  | _ => []
/-- A term's text out of its parts' texts. -/
def textOf (k n : Int) (s : List UInt8) (ps : List (List UInt8 × List UInt8)) : List UInt8 :=
  if k = 1 then dec n else if k = 2 then atomT s
  else if k = 3 then sharpT [82, 101, 102] ++ (dec n ++ [62]) else if k = 4 then sharpT [84, 105, 100] ++ (dec n ++ [62])
  else if k = 5 then sharpT [70, 117, 110] ++ (dec n ++ ((ps.map (·.1)).flatMap (44 :: ·) ++ [62]))
  else if k = 6 then [60, 48, 46] ++ (dec n ++ [46, 48, 62])
  else if k = 7 then 123 :: (joinT (ps.map (·.1)) ++ [125])
  else if k = 8 then [91, 93] else 91 :: consT ps
/-- .. and its text as the tail of a list. -/
def tailOf (k n : Int) (s : List UInt8) (ps : List (List UInt8 × List UInt8)) : List UInt8 :=
  if k = 9 then 44 :: consT ps else if k = 8 then [93] else 124 :: (textOf k n s ps ++ [93])
mutual
def Tm.txs : Tm → List UInt8 × List UInt8
  | .mk k n s l => (textOf k n s.toList (txss l), tailOf k n s.toList (txss l))
def txss : List Tm → List (List UInt8 × List UInt8)
  | [] => []
  | t :: r => t.txs :: txss r
end
def Tm.text (T : Tm) : List UInt8 := T.txs.1
def Tm.tail (T : Tm) : List UInt8 := T.txs.2
theorem txss_map (l : List Tm) : txss l = l.map Tm.txs := by
  induction l with
  | nil => rw [txss]; rfl
  | cons t r ih => rw [txss, ih]; rfl
theorem text_mk (k n : Int) (s : ByteArray) (l : List Tm) : (Tm.mk k n s l).text = textOf k n s.toList (l.map Tm.txs) := by rw [Tm.text, Tm.txs, txss_map]
theorem tail_mk (k n : Int) (s : ByteArray) (l : List Tm) : (Tm.mk k n s l).tail = tailOf k n s.toList (l.map Tm.txs) := by rw [Tm.tail, Tm.txs, txss_map]
theorem texts_map (l : List Tm) : (l.map Tm.txs).map (·.1) = l.map Tm.text := by simp [Tm.text]

/-- May a term be, but for how many elements it has? -/
def fitR (k n : Int) (s len : Nat) : Bool := fitB k n s (if k = 5 ∨ k = 7 then 0 else len)
mutual
def Tm.fitsR : Tm → Bool
  | .mk k n s l => fitR k n s.size l.length && fitssR l
def fitssR : List Tm → Bool
  | [] => true
  | t :: r => t.fitsR && fitssR r
end
theorem fitsR_mk (k n : Int) (s : ByteArray) (l : List Tm) : (Tm.mk k n s l).fitsR = (fitR k n s.size l.length && fitssR l) := by rw [Tm.fitsR]
theorem fitssR_at {l : List Tm} (h : fitssR l = true) : ∀ t ∈ l, t.fitsR = true := by
  induction l with
  | nil => intro t ht; cases ht
  | cons a r ih =>
    rw [fitssR, Bool.and_eq_true] at h
    intro t ht
    rcases List.mem_cons.1 ht with rfl | ht
    · exact h.1
    · exact ih h.2 t ht
theorem fitssR_of {l : List Tm} (h : ∀ t ∈ l, t.fitsR = true) : fitssR l = true := by
  induction l with
  | nil => rw [fitssR]
  | cons a r ih => rw [fitssR, h a List.mem_cons_self, ih fun t ht => h t (List.mem_cons_of_mem _ ht)]; rfl
theorem fitR_fit {k n : Int} {s len : Nat} (h : fitB k n s len = true) : fitR k n s len = true := by
  unfold fitR
  by_cases hk : k = 5 ∨ k = 7
  · rw [if_pos hk]
    unfold fitB at h ⊢
    simp only [decide_eq_true_eq] at h ⊢
    rcases hk with rfl | rfl
    · simp at h ⊢
      omega
    · simp at h ⊢
      omega
  · rw [if_neg hk]
    exact h
theorem fits_fitsR (T : Tm) : T.fits = true → T.fitsR = true := by
  induction T using Tm.induct with
  | h k n s l ih =>
    intro h
    rw [fits_mk, Bool.and_eq_true] at h
    rw [fitsR_mk, fitR_fit h.1, fitssR_of fun t ht => ih t ht (fitss_at h.2 t ht)]
    rfl

/-- What may stand behind a term's text, so that the text ends there. -/
def Stop (T : Tm) (r : List UInt8) : Prop :=
  match T with
  | .mk k _ s _ => (k = 1 → NoDig r) ∧ (k = 2 → plainT s.toList = true → NoWd r)
theorem wd_of_dig {c : UInt8} (h : isDig c = true) : isWd c = true := by unfold isWd; rw [h]; simp
theorem stop_of {T : Tm} {c : UInt8} {r : List UInt8} (h : isWd c = false) : Stop T (c :: r) := by
  obtain ⟨k, n, s, l⟩ := T
  refine ⟨fun _ d x e => ?_, fun _ _ d x e => ?_⟩
  · cases e
    cases hd : isDig c with
    | false => rfl
    | true => rw [wd_of_dig hd] at h; cases h
  · cases e
    exact h
theorem stop_nil (T : Tm) : Stop T [] := by
  obtain ⟨k, n, s, l⟩ := T
  exact ⟨fun _ d x e => (by cases e), fun _ _ d x e => (by cases e)⟩

/-- The kinds by their texts' first signs. -/
def first (k : Int) (c : UInt8) : Prop :=
  if k = 1 then c = 45 ∨ isDig c = true else if k = 2 then c = 39 ∨ isLow c = true else if k = 3 ∨ k = 4 ∨ k = 5 then c = 35 else if k = 6 then c = 60 else if k = 7 then c = 123 else c = 91

theorem dec_head (n : Int) : ∃ c x, dec n = c :: x ∧ (c = 45 ∨ isDig c = true) := by
  unfold dec
  split
  · exact ⟨45, _, rfl, Or.inl rfl⟩
  · obtain ⟨c, x, e, hc⟩ := decN_head n.toNat
    exact ⟨c, x, e, Or.inr hc⟩
theorem atom_head (s : List UInt8) : ∃ c x, atomT s = c :: x ∧ (c = 39 ∨ isLow c = true) := by
  unfold atomT
  split
  · rename_i h
    obtain ⟨c, x, rfl, hc, _⟩ := plain_head h
    exact ⟨c, x, rfl, Or.inr hc⟩
  · exact ⟨39, _, rfl, Or.inl rfl⟩
theorem text_head (k n : Int) (s : List UInt8) (ps : List (List UInt8 × List UInt8)) : ∃ c x, textOf k n s ps = c :: x ∧ first k c := by
  unfold textOf first
  by_cases h1 : k = 1
  · obtain ⟨c, x, e, h⟩ := dec_head n
    exact ⟨c, x, by rw [if_pos h1, e], by rw [if_pos h1]; exact h⟩
  by_cases h2 : k = 2
  · obtain ⟨c, x, e, h⟩ := atom_head s
    exact ⟨c, x, by rw [if_neg h1, if_pos h2, e], by rw [if_neg h1, if_pos h2]; exact h⟩
  by_cases h3 : k = 3
  · exact ⟨35, _, by rw [if_neg h1, if_neg h2, if_pos h3]; rfl, by rw [if_neg h1, if_neg h2, if_pos (Or.inl h3)]⟩
  by_cases h4 : k = 4
  · exact ⟨35, _, by rw [if_neg h1, if_neg h2, if_neg h3, if_pos h4]; rfl, by rw [if_neg h1, if_neg h2, if_pos (Or.inr (Or.inl h4))]⟩
  by_cases h5 : k = 5
  · exact ⟨35, _, by rw [if_neg h1, if_neg h2, if_neg h3, if_neg h4, if_pos h5]; rfl, by rw [if_neg h1, if_neg h2, if_pos (Or.inr (Or.inr h5))]⟩
  have h345 : ¬ (k = 3 ∨ k = 4 ∨ k = 5) := by omega
  by_cases h6 : k = 6
  · exact ⟨60, _, by rw [if_neg h1, if_neg h2, if_neg h3, if_neg h4, if_neg h5, if_pos h6]; rfl, by rw [if_neg h1, if_neg h2, if_neg h345, if_pos h6]⟩
  by_cases h7 : k = 7
  · exact ⟨123, _, by rw [if_neg h1, if_neg h2, if_neg h3, if_neg h4, if_neg h5, if_neg h6, if_pos h7], by rw [if_neg h1, if_neg h2, if_neg h345, if_neg h6, if_pos h7]⟩
  · simp only [if_neg h1, if_neg h2, if_neg h3, if_neg h4, if_neg h5, if_neg h6, if_neg h7, if_neg h345]
    by_cases h8 : k = 8
    · exact ⟨91, _, by rw [if_pos h8], rfl⟩
    · exact ⟨91, _, by rw [if_neg h8], rfl⟩
/-- The kinds that texts with this first sign have. -/
def chk (c : UInt8) : Nat := if c = 45 ∨ isDig c = true then 1 else if c = 39 ∨ isLow c = true then 2 else if c = 35 then 3 else if c = 60 then 6 else if c = 123 then 7 else if c = 91 then 8 else 0
def cls (k : Int) : Nat := if k = 1 then 1 else if k = 2 then 2 else if k = 3 ∨ k = 4 ∨ k = 5 then 3 else if k = 6 then 6 else if k = 7 then 7 else 8
theorem low_no {c : UInt8} (h : isLow c = true) : ¬ (c = 45 ∨ isDig c = true) := by
  rintro (rfl | h1)
  · exact absurd h (by decide)
  · unfold isDig at h1
    unfold isLow at h
    simp only [decide_eq_true_eq] at h1 h
    omega
theorem first_cls {k : Int} {c : UInt8} (h : first k c) : chk c = cls k := by
  unfold first at h
  unfold cls
  by_cases h1 : k = 1
  · rw [if_pos h1] at h ⊢
    unfold chk
    rw [if_pos h]
  rw [if_neg h1] at h ⊢
  by_cases h2 : k = 2
  · rw [if_pos h2] at h ⊢
    unfold chk
    rcases h with rfl | h
    · decide
    · rw [if_neg (low_no h), if_pos (Or.inr h)]
  rw [if_neg h2] at h ⊢
  by_cases h3 : k = 3 ∨ k = 4 ∨ k = 5
  · rw [if_pos h3] at h ⊢
    subst h
    decide
  rw [if_neg h3] at h ⊢
  by_cases h6 : k = 6
  · rw [if_pos h6] at h ⊢
    subst h
    decide
  rw [if_neg h6] at h ⊢
  by_cases h7 : k = 7
  · rw [if_pos h7] at h ⊢
    subst h
    decide
  rw [if_neg h7] at h ⊢
  subst h
  decide
theorem cls_pos (k : Int) : cls k ≠ 0 := by
  unfold cls
  repeat' split
  all_goals decide
theorem text_first (T : Tm) : ∃ c x, T.text = c :: x ∧ chk c ≠ 0 := by
  obtain ⟨k, n, s, l⟩ := T
  obtain ⟨c, x, e, h⟩ := text_head k n s.toList (l.map Tm.txs)
  exact ⟨c, x, by rw [text_mk, e], by rw [first_cls h]; exact cls_pos k⟩
theorem cls_same {k k' : Int} (hk : 1 ≤ k ∧ k ≤ 9) (hk' : 1 ≤ k' ∧ k' ≤ 9) (h : cls k = cls k') : k = k' ∨ ((k = 3 ∨ k = 4 ∨ k = 5) ∧ (k' = 3 ∨ k' = 4 ∨ k' = 5)) ∨ ((k = 8 ∨ k = 9) ∧ (k' = 8 ∨ k' = 9)) := by
  have key : ∀ j : Int, 1 ≤ j ∧ j ≤ 9 → (j = 1 ∧ cls j = 1) ∨ (j = 2 ∧ cls j = 2) ∨ ((j = 3 ∨ j = 4 ∨ j = 5) ∧ cls j = 3) ∨ (j = 6 ∧ cls j = 6) ∨ (j = 7 ∧ cls j = 7) ∨ ((j = 8 ∨ j = 9) ∧ cls j = 8) := fun j hj => by
    obtain h | h | h | h | h | h | h | h | h : j = 1 ∨ j = 2 ∨ j = 3 ∨ j = 4 ∨ j = 5 ∨ j = 6 ∨ j = 7 ∨ j = 8 ∨ j = 9 := by omega
    all_goals subst h; simp [cls]
  have h1 := key k hk
  have h2 := key k' hk'
  generalize cls k = x at h h1
  generalize cls k' = y at h h2
  omega

theorem fitR_kind {k n : Int} {s len : Nat} (h : fitR k n s len = true) : 1 ≤ k ∧ k ≤ 9 := by
  unfold fitR fitB at h
  simp only [decide_eq_true_eq] at h
  omega

/-- Items behind commas, up to a sign that is no comma. -/
theorem commas_inj (l : List Tm) (ih : ∀ t ∈ l, ∀ (U : Tm) (r r' : List UInt8), t.fitsR = true → U.fitsR = true → t.text ++ r = U.text ++ r' → Stop t r → Stop U r' → t = U ∧ r = r') :
    ∀ (l' : List Tm) (e : UInt8) (r r' : List UInt8), isWd e = false → e ≠ 44 → (∀ t ∈ l, t.fitsR = true) → (∀ t ∈ l', t.fitsR = true) → (l.map Tm.text).flatMap (44 :: ·) ++ e :: r = (l'.map Tm.text).flatMap (44 :: ·) ++ e :: r' → l = l' ∧ r = r' := by
  have hst : ∀ (m : List Tm) (e : UInt8) (r : List UInt8) (T : Tm), isWd e = false → Stop T ((m.map Tm.text).flatMap (44 :: ·) ++ e :: r) := fun m e r T he => by
    cases m with
    | nil => exact stop_of he
    | cons t m => exact stop_of (c := 44) (by decide)
  induction l with
  | nil =>
    intro l' e r r' he h44 _ _ h
    cases l' with
    | nil => simpa using h
    | cons u l' =>
      simp only [List.map_nil, List.flatMap_nil, List.nil_append, List.map_cons, List.flatMap_cons, List.cons_append, List.cons.injEq] at h
      exact absurd h.1 h44
  | cons a q ihq =>
    intro l' e r r' he h44 hf hf' h
    cases l' with
    | nil =>
      simp only [List.map_nil, List.flatMap_nil, List.nil_append, List.map_cons, List.flatMap_cons, List.cons_append, List.cons.injEq] at h
      exact absurd h.1.symm h44
    | cons u l' =>
      simp only [List.map_cons, List.flatMap_cons, List.cons_append, List.cons.injEq, true_and, List.append_assoc] at h
      obtain ⟨e1, h2⟩ := ih a List.mem_cons_self u _ _ (hf a List.mem_cons_self) (hf' u List.mem_cons_self) h (hst q e r a he) (hst l' e r' u he)
      obtain ⟨e2, h3⟩ := ihq (fun t ht => ih t (List.mem_cons_of_mem _ ht)) l' e r r' he h44 (fun t ht => hf t (List.mem_cons_of_mem _ ht)) (fun t ht => hf' t (List.mem_cons_of_mem _ ht)) h2
      exact ⟨by rw [e1, e2], h3⟩

end Go.Proofs.YtnbekfpkmebmbaaGreatDoor

/-
  Terms whose texts begin alike, and end, are the same.
-/
namespace Go.Proofs.YtnbekfpkmebmbaaGreatDoor
open Go.RowKit Go.Deep

theorem tail_head (T : Tm) : ∃ c x, T.tail = c :: x ∧ isWd c = false := by
  obtain ⟨k, n, s, l⟩ := T
  rw [tail_mk]
  unfold tailOf
  split
  · exact ⟨44, _, rfl, by decide⟩
  · split
    · exact ⟨93, _, rfl, by decide⟩
    · exact ⟨124, _, rfl, by decide⟩
theorem stop_tail (T U : Tm) (r : List UInt8) : Stop T (U.tail ++ r) := by
  obtain ⟨c, x, e, h⟩ := tail_head U
  rw [e]
  exact stop_of h
theorem nodig_of {c : UInt8} {r : List UInt8} (h : isDig c = false) : NoDig (c :: r) := fun d x e => by cases e; exact h
theorem nodig_commas (m : List (List UInt8)) (r : List UInt8) : NoDig (m.flatMap (44 :: ·) ++ 62 :: r) := by
  cases m with
  | nil => exact nodig_of (c := 62) (by decide)
  | cons t m => exact nodig_of (c := 44) (by decide)
theorem text_not93 (T : Tm) (r x : List UInt8) : T.text ++ r = 93 :: x → False := fun h => by
  obtain ⟨c, y, e, hc⟩ := text_first T
  rw [e, List.cons_append, List.cons.injEq] at h
  rw [h.1] at hc
  exact hc (by decide)
theorem text_not125 (T : Tm) (r x : List UInt8) : T.text ++ r = 125 :: x → False := fun h => by
  obtain ⟨c, y, e, hc⟩ := text_first T
  rw [e, List.cons_append, List.cons.injEq] at h
  rw [h.1] at hc
  exact hc (by decide)
theorem fitR_cons {n : Int} {s : Nat} {l : List Tm} (h : fitR 9 n s l.length = true) : n = 0 ∧ s = 0 ∧ ∃ a b, l = [a, b] := by
  unfold fitR fitB at h
  simp at h
  refine ⟨h.1, h.2.1, ?_⟩
  match l, h.2.2 with
  | [a, b], _ => exact ⟨a, b, rfl⟩
theorem join_inj (l l' : List Tm) (ih : ∀ t ∈ l, ∀ (U : Tm) (r r' : List UInt8), t.fitsR = true → U.fitsR = true → t.text ++ r = U.text ++ r' → Stop t r → Stop U r' → t = U ∧ r = r')
    (r r' : List UInt8) (hf : ∀ t ∈ l, t.fitsR = true) (hf' : ∀ t ∈ l', t.fitsR = true) (h : joinT (l.map Tm.text) ++ 125 :: r = joinT (l'.map Tm.text) ++ 125 :: r') : l = l' ∧ r = r' := by
  have hst : ∀ (m : List Tm) (r : List UInt8) (T : Tm), Stop T ((m.map Tm.text).flatMap (44 :: ·) ++ 125 :: r) := fun m r T => by
    cases m with
    | nil => exact stop_of (c := 125) (by decide)
    | cons t m => exact stop_of (c := 44) (by decide)
  cases l with
  | nil =>
    cases l' with
    | nil => simpa [joinT] using h
    | cons u l' =>
      simp only [List.map_nil, joinT, List.nil_append, List.map_cons, List.append_assoc] at h
      exact (text_not125 u _ _ h.symm).elim
  | cons a q =>
    cases l' with
    | nil =>
      simp only [List.map_nil, joinT, List.nil_append, List.map_cons, List.append_assoc] at h
      exact (text_not125 a _ _ h).elim
    | cons u l' =>
      simp only [joinT, List.map_cons, List.append_assoc] at h
      obtain ⟨e1, h2⟩ := ih a List.mem_cons_self u _ _ (hf a List.mem_cons_self) (hf' u List.mem_cons_self) h (hst q r a) (hst l' r' u)
      obtain ⟨e2, h3⟩ := commas_inj q (fun t ht => ih t (List.mem_cons_of_mem _ ht)) l' 125 r r' (by decide) (by decide) (fun t ht => hf t (List.mem_cons_of_mem _ ht)) (fun t ht => hf' t (List.mem_cons_of_mem _ ht)) h2
      exact ⟨by rw [e1, e2], h3⟩

theorem texts_of (l : List Tm) : (l.map Tm.txs).map (fun x => x.1) = l.map Tm.text := texts_map l
theorem text_k1 (n : Int) (s : ByteArray) (l : List Tm) : (Tm.mk 1 n s l).text = dec n := by rw [text_mk]; rfl
theorem text_k2 (n : Int) (s : ByteArray) (l : List Tm) : (Tm.mk 2 n s l).text = atomT s.toList := by rw [text_mk]; rfl
theorem text_k3 (n : Int) (s : ByteArray) (l : List Tm) : (Tm.mk 3 n s l).text = [35, 82, 101, 102, 60] ++ (dec n ++ [62]) := by rw [text_mk]; rfl
theorem text_k4 (n : Int) (s : ByteArray) (l : List Tm) : (Tm.mk 4 n s l).text = [35, 84, 105, 100, 60] ++ (dec n ++ [62]) := by rw [text_mk]; rfl
theorem text_k5 (n : Int) (s : ByteArray) (l : List Tm) : (Tm.mk 5 n s l).text = [35, 70, 117, 110, 60] ++ (dec n ++ ((l.map Tm.text).flatMap (44 :: ·) ++ [62])) := by rw [text_mk, ← texts_map]; rfl
theorem text_k6 (n : Int) (s : ByteArray) (l : List Tm) : (Tm.mk 6 n s l).text = [60, 48, 46] ++ (dec n ++ [46, 48, 62]) := by rw [text_mk]; rfl
theorem text_k7 (n : Int) (s : ByteArray) (l : List Tm) : (Tm.mk 7 n s l).text = 123 :: (joinT (l.map Tm.text) ++ [125]) := by rw [text_mk, ← texts_map]; rfl
theorem text_k8 (n : Int) (s : ByteArray) (l : List Tm) : (Tm.mk 8 n s l).text = [91, 93] := by rw [text_mk]; rfl
theorem text_k9 (n : Int) (s : ByteArray) (a b : Tm) : (Tm.mk 9 n s [a, b]).text = 91 :: (a.text ++ b.tail) := by rw [text_mk]; rfl
theorem tail_k8 (n : Int) (s : ByteArray) (l : List Tm) : (Tm.mk 8 n s l).tail = [93] := by rw [tail_mk]; rfl
theorem tail_k9 (n : Int) (s : ByteArray) (a b : Tm) : (Tm.mk 9 n s [a, b]).tail = 44 :: (a.text ++ b.tail) := by rw [tail_mk]; rfl
theorem tail_else (k n : Int) (s : ByteArray) (l : List Tm) (h8 : k ≠ 8) (h9 : k ≠ 9) : (Tm.mk k n s l).tail = 124 :: ((Tm.mk k n s l).text ++ [93]) := by
  rw [tail_mk, tailOf, if_neg h9, if_neg h8, text_mk]

set_option maxHeartbeats 1000000 in
theorem text_inj2 (T : Tm) : ∀ (U : Tm) (r r' : List UInt8), T.fitsR = true → U.fitsR = true →
    (T.text ++ r = U.text ++ r' → Stop T r → Stop U r' → T = U ∧ r = r') ∧ (T.tail ++ r = U.tail ++ r' → T = U ∧ r = r') := by
  induction T using Tm.induct with
  | h k n s l ih =>
    intro U r r' hT hU
    obtain ⟨k', n', s', l'⟩ := U
    rw [fitsR_mk, Bool.and_eq_true] at hT hU
    have hm := fitssR_at hT.2
    have hm' := fitssR_at hU.2
    have hf := hT.1
    have hf' := hU.1
    clear hT hU
    have hk := fitR_kind hf
    have hk' := fitR_kind hf'
    have iht : ∀ t ∈ l, ∀ (U : Tm) (r r' : List UInt8), t.fitsR = true → U.fitsR = true → t.text ++ r = U.text ++ r' → Stop t r → Stop U r' → t = U ∧ r = r' := fun t ht U r r' h1 h2 => (ih t ht U r r' h1 h2).1
    have cons : ∀ (r r' : List UInt8), k = 9 → k' = 9 → (∀ a b c d, l = [a, b] → l' = [c, d] → a.text ++ (b.tail ++ r) = c.text ++ (d.tail ++ r') → Tm.mk k n s l = Tm.mk k' n' s' l' ∧ r = r') := by
      intro r r' h9 h9' a b c d hl hl' h
      subst h9
      subst h9'
      subst hl
      subst hl'
      obtain ⟨e1, h2⟩ := iht a (by simp) c _ _ (hm a (by simp)) (hm' c (by simp)) h (stop_tail _ _ _) (stop_tail _ _ _)
      obtain ⟨e2, h3⟩ := (ih b (by simp) d r r' (hm b (by simp)) (hm' d (by simp))).2 h2
      obtain ⟨n0, s0, _⟩ := fitR_cons hf
      obtain ⟨n0', s0', _⟩ := fitR_cons hf'
      exact ⟨by rw [e1, e2, n0, n0', bytes_size0 s0 s0'], h3⟩
    have A : ∀ (r r' : List UInt8), (Tm.mk k n s l).text ++ r = (Tm.mk k' n' s' l').text ++ r' → Stop (.mk k n s l) r → Stop (.mk k' n' s' l') r' → Tm.mk k n s l = Tm.mk k' n' s' l' ∧ r = r' := by
      intro r r' h st st'
      have lnil : ∀ {m : List Tm}, m.length = 0 → m = [] := fun h => List.eq_nil_of_length_eq_zero h
      have hkk : k = k' ∨ ((k = 3 ∨ k = 4 ∨ k = 5) ∧ (k' = 3 ∨ k' = 4 ∨ k' = 5)) ∨ ((k = 8 ∨ k = 9) ∧ (k' = 8 ∨ k' = 9)) := by
        obtain ⟨c, x, e, hc⟩ := text_head k n s.toList (l.map Tm.txs)
        obtain ⟨c', x', e', hc'⟩ := text_head k' n' s'.toList (l'.map Tm.txs)
        have h1 := h
        rw [text_mk, text_mk, e, e', List.cons_append, List.cons_append, List.cons.injEq] at h1
        refine cls_same hk hk' ?_
        rw [← first_cls hc, ← first_cls hc', h1.1]
      have g := hf
      have g' := hf'
      unfold fitR fitB at g g'
      simp only [decide_eq_true_eq] at g g'
      by_cases hkk' : k = k'
      · subst hkk'
        obtain h1 | h1 | h1 | h1 | h1 | h1 | h1 | h1 | h1 : k = 1 ∨ k = 2 ∨ k = 3 ∨ k = 4 ∨ k = 5 ∨ k = 6 ∨ k = 7 ∨ k = 8 ∨ k = 9 := by omega
        all_goals subst h1
        · rw [if_neg (by decide)] at g g'
          rw [text_k1, text_k1] at h
          obtain ⟨e, h2⟩ := dec_run (by omega) (by omega) (st.1 rfl) (st'.1 rfl) h
          exact ⟨by rw [e, bytes_size0 (by omega : s.size = 0) (by omega : s'.size = 0), lnil (by omega : l.length = 0), lnil (by omega : l'.length = 0)], h2⟩
        · rw [if_neg (by decide)] at g g'
          rw [text_k2, text_k2] at h
          obtain ⟨e, h2⟩ := atom_run (st.2 rfl) (st'.2 rfl) h
          exact ⟨by rw [bytes_toList e, (by omega : n = 0), (by omega : n' = 0), lnil (by omega : l.length = 0), lnil (by omega : l'.length = 0)], h2⟩
        · rw [if_neg (by decide)] at g g'
          rw [text_k3, text_k3] at h
          simp only [List.cons_append, List.nil_append, List.append_assoc, List.cons.injEq, true_and] at h
          obtain ⟨e, h2⟩ := dec_run (by omega) (by omega) (nodig_of (by decide)) (nodig_of (by decide)) h
          exact ⟨by rw [e, bytes_size0 (by omega : s.size = 0) (by omega : s'.size = 0), lnil (by omega : l.length = 0), lnil (by omega : l'.length = 0)], by simpa using h2⟩
        · rw [if_neg (by decide)] at g g'
          rw [text_k4, text_k4] at h
          simp only [List.cons_append, List.nil_append, List.append_assoc, List.cons.injEq, true_and] at h
          obtain ⟨e, h2⟩ := dec_run (by omega) (by omega) (nodig_of (by decide)) (nodig_of (by decide)) h
          exact ⟨by rw [e, bytes_size0 (by omega : s.size = 0) (by omega : s'.size = 0), lnil (by omega : l.length = 0), lnil (by omega : l'.length = 0)], by simpa using h2⟩
        · rw [if_pos (by decide)] at g g'
          rw [text_k5, text_k5] at h
          simp only [List.cons_append, List.nil_append, List.append_assoc, List.cons.injEq, true_and] at h
          obtain ⟨e, h2⟩ := dec_run (by omega) (by omega) (nodig_commas _ _) (nodig_commas _ _) h
          obtain ⟨e2, h3⟩ := commas_inj l iht l' 62 r r' (by decide) (by decide) hm hm' h2
          exact ⟨by rw [e, e2, bytes_size0 (by omega : s.size = 0) (by omega : s'.size = 0)], h3⟩
        · rw [if_neg (by decide)] at g g'
          rw [text_k6, text_k6] at h
          simp only [List.cons_append, List.nil_append, List.append_assoc, List.cons.injEq, true_and] at h
          obtain ⟨e, h2⟩ := dec_run (by omega) (by omega) (nodig_of (by decide)) (nodig_of (by decide)) h
          exact ⟨by rw [e, bytes_size0 (by omega : s.size = 0) (by omega : s'.size = 0), lnil (by omega : l.length = 0), lnil (by omega : l'.length = 0)], by simpa using h2⟩
        · rw [if_pos (by decide)] at g g'
          rw [text_k7, text_k7] at h
          simp only [List.cons_append, List.nil_append, List.append_assoc, List.cons.injEq, true_and] at h
          obtain ⟨e2, h3⟩ := join_inj l l' iht r r' hm hm' h
          exact ⟨by rw [e2, (by omega : n = 0), (by omega : n' = 0), bytes_size0 (by omega : s.size = 0) (by omega : s'.size = 0)], h3⟩
        · rw [if_neg (by decide)] at g g'
          rw [text_k8, text_k8] at h
          exact ⟨by rw [(by omega : n = 0), (by omega : n' = 0), bytes_size0 (by omega : s.size = 0) (by omega : s'.size = 0), lnil (by omega : l.length = 0), lnil (by omega : l'.length = 0)], by simpa using h⟩
        · obtain ⟨_, _, a, b, rfl⟩ := fitR_cons hf
          obtain ⟨_, _, c, d, rfl⟩ := fitR_cons hf'
          rw [text_k9, text_k9] at h
          simp only [List.cons_append, List.cons.injEq, true_and, List.append_assoc] at h
          exact cons r r' rfl rfl a b c d rfl rfl h
      · exfalso
        rcases hkk with h | ⟨h345, h345'⟩ | ⟨h89, h89'⟩
        · exact hkk' h
        · rcases h345 with rfl | rfl | rfl <;> rcases h345' with rfl | rfl | rfl
          all_goals first | exact hkk' rfl | skip
          all_goals
            first | rw [text_k3 n] at h | rw [text_k4 n] at h | rw [text_k5 n] at h
            first | rw [text_k3 n'] at h | rw [text_k4 n'] at h | rw [text_k5 n'] at h
            simp only [List.cons_append, List.cons.injEq] at h
            exact absurd h.2.1 (by decide)
        · rcases h89 with rfl | rfl <;> rcases h89' with rfl | rfl
          · exact hkk' rfl
          · obtain ⟨_, _, c, d, rfl⟩ := fitR_cons hf'
            rw [text_k8, text_k9] at h
            simp only [List.cons_append, List.nil_append, List.cons.injEq, true_and, List.append_assoc] at h
            exact text_not93 _ _ _ h.symm
          · obtain ⟨_, _, c, d, rfl⟩ := fitR_cons hf
            rw [text_k8, text_k9] at h
            simp only [List.cons_append, List.nil_append, List.cons.injEq, true_and, List.append_assoc] at h
            exact text_not93 _ _ _ h
          · exact hkk' rfl
    refine ⟨A r r', fun h => ?_⟩
    by_cases h9 : k = 9
    · subst h9
      obtain ⟨_, _, a, b, rfl⟩ := fitR_cons hf
      by_cases h9' : k' = 9
      · subst h9'
        obtain ⟨_, _, c, d, rfl⟩ := fitR_cons hf'
        rw [tail_k9, tail_k9] at h
        simp only [List.cons_append, List.cons.injEq, true_and, List.append_assoc] at h
        exact cons r r' rfl rfl a b c d rfl rfl h
      · exfalso
        rw [tail_k9] at h
        by_cases h8' : k' = 8
        · subst h8'
          rw [tail_k8] at h
          simp only [List.cons_append, List.cons.injEq] at h
          exact absurd h.1 (by decide)
        · rw [tail_else _ _ _ _ h8' h9'] at h
          simp only [List.cons_append, List.cons.injEq] at h
          exact absurd h.1 (by decide)
    by_cases h8 : k = 8
    · subst h8
      rw [tail_k8] at h
      by_cases h9' : k' = 9
      · subst h9'
        obtain ⟨_, _, c, d, rfl⟩ := fitR_cons hf'
        rw [tail_k9] at h
        simp only [List.cons_append, List.cons.injEq] at h
        exact absurd h.1 (by decide)
      by_cases h8' : k' = 8
      · subst h8'
        rw [tail_k8] at h
        refine ⟨(A [93] [93] (by rw [text_k8, text_k8]) (stop_of (by decide)) (stop_of (by decide))).1, ?_⟩
        simpa using h
      · rw [tail_else _ _ _ _ h8' h9'] at h
        simp only [List.cons_append, List.cons.injEq] at h
        exact absurd h.1 (by decide)
    · rw [tail_else _ _ _ _ h8 h9] at h
      by_cases h9' : k' = 9
      · subst h9'
        obtain ⟨_, _, c, d, rfl⟩ := fitR_cons hf'
        rw [tail_k9] at h
        simp only [List.cons_append, List.cons.injEq] at h
        exact absurd h.1 (by decide)
      by_cases h8' : k' = 8
      · subst h8'
        rw [tail_k8] at h
        simp only [List.cons_append, List.cons.injEq] at h
        exact absurd h.1 (by decide)
      · rw [tail_else _ _ _ _ h8' h9'] at h
        simp only [List.cons_append, List.cons.injEq, true_and, List.append_assoc, List.nil_append] at h
        obtain ⟨e, h2⟩ := A (93 :: r) (93 :: r') h (stop_of (by decide)) (stop_of (by decide))
        exact ⟨e, by simpa using h2⟩

/-- Terms with one text are the same. -/
theorem text_inj {T U : Tm} (hT : T.fitsR = true) (hU : U.fitsR = true) (h : T.text = U.text) : T = U :=
  ((text_inj2 T U [] [] hT hU).1 (by rw [h]) (stop_nil _) (stop_nil _)).1

end Go.Proofs.YtnbekfpkmebmbaaGreatDoor

/-
  Reading a text, as plain mathematics: it reads just what was written.
-/
namespace Go.Proofs.YtnbekfpkmebmbaaGreatDoor
open Go.RowKit Go.Deep

/-- What is left behind a beginning. -/
def strip : List UInt8 → List UInt8 → Option (List UInt8)
  | [], q => some q
  | _ :: _, [] => none
  | a :: p, b :: q => if a = b then strip p q else none
theorem strip_some {p : List UInt8} : ∀ {q r : List UInt8}, strip p q = some r → q = p ++ r := by
  induction p with
  | nil => intro q r h; rw [strip] at h; simpa using h
  | cons a p ih =>
    intro q r h
    cases q with
    | nil => rw [strip] at h; cases h
    | cons b q =>
      rw [strip] at h
      split at h
      · rename_i e
        rw [e, ih h]
        rfl
      · cases h
theorem strip_app (p r : List UInt8) : strip p (p ++ r) = some r := by
  induction p with
  | nil => rw [strip]; rfl
  | cons a p ih => simp [strip, ih]
theorem strip_none {p q : List UInt8} (h : ∀ r, q ≠ p ++ r) : strip p q = none := by
  cases e : strip p q with
  | none => rfl
  | some r => exact absurd (strip_some e) (h r)

/-! ### Numbers -/

/-- The signs that a number's text may have. -/
def numSpan (q : List UInt8) : List UInt8 := if q.head? = some 45 then 45 :: q.tail.takeWhile isDig else q.takeWhile isDig
def numVal (l : List UInt8) : Int := if l.head? = some 45 then -(valD l.tail : Int) else valD l
def numI (lo hi : Int) (q : List UInt8) : Option (Int × List UInt8) :=
  if dec (numVal (numSpan q)) = numSpan q ∧ lo ≤ numVal (numSpan q) ∧ numVal (numSpan q) ≤ hi then some (numVal (numSpan q), q.drop (numSpan q).length) else none
theorem span_rest (p : UInt8 → Bool) (q : List UInt8) : q = q.takeWhile p ++ q.drop (q.takeWhile p).length ∧ ∀ c r, q.drop (q.takeWhile p).length = c :: r → p c = false := by
  induction q with
  | nil => exact ⟨rfl, fun c r h => by cases h⟩
  | cons a q ih =>
    rw [List.takeWhile_cons]
    split
    · refine ⟨?_, ?_⟩
      · simp only [List.length_cons, List.drop_succ_cons, List.cons_append]
        rw [← ih.1]
      · simp only [List.length_cons, List.drop_succ_cons]
        exact ih.2
    · rename_i h
      refine ⟨rfl, fun c r e => ?_⟩
      simp only [List.length_nil, List.drop_zero, List.cons.injEq] at e
      rw [← e.1]
      simpa using h
theorem span_run (p : UInt8 → Bool) (a r : List UInt8) (ha : ∀ c ∈ a, p c = true) (hr : ∀ c x, r = c :: x → p c = false) : (a ++ r).takeWhile p = a := by
  induction a with
  | nil =>
    cases r with
    | nil => rfl
    | cons c x => rw [List.nil_append, List.takeWhile_cons, if_neg (by rw [hr c x rfl]; simp)]
  | cons c a ih =>
    rw [List.cons_append, List.takeWhile_cons, if_pos (ha c List.mem_cons_self), ih fun d hd => ha d (List.mem_cons_of_mem _ hd)]
theorem numSpan_rest (q : List UInt8) : q = numSpan q ++ q.drop (numSpan q).length ∧ NoDig (q.drop (numSpan q).length) := by
  unfold numSpan
  split
  · rename_i h
    cases q with
    | nil => cases h
    | cons c q =>
      simp only [List.head?_cons, Option.some.injEq] at h
      subst h
      obtain ⟨h1, h2⟩ := span_rest isDig q
      refine ⟨?_, ?_⟩
      · simp only [List.tail_cons, List.length_cons, List.drop_succ_cons, List.cons_append]
        rw [← h1]
      · simp only [List.tail_cons, List.length_cons, List.drop_succ_cons]
        exact h2
  · exact span_rest isDig q
theorem numI_some {lo hi n : Int} {q r : List UInt8} (h : numI lo hi q = some (n, r)) : q = dec n ++ r ∧ NoDig r ∧ lo ≤ n ∧ n ≤ hi := by
  unfold numI at h
  split at h
  · rename_i h1
    simp only [Option.some.injEq, Prod.mk.injEq] at h
    obtain ⟨h2, h3⟩ := numSpan_rest q
    obtain ⟨rfl, rfl⟩ := h
    exact ⟨by rw [h1.1]; exact h2, h3, h1.2⟩
  · cases h
theorem dig_not45 {c : UInt8} (h : isDig c = true) : c ≠ 45 := by
  rintro rfl
  exact absurd h (by decide)
theorem numSpan_dec (n : Int) (r : List UInt8) (hr : NoDig r) : numSpan (dec n ++ r) = dec n := by
  unfold dec numSpan
  by_cases h : n < 0
  · rw [if_pos h]
    simp only [List.cons_append, List.head?_cons, if_true, List.tail_cons]
    rw [span_run isDig _ _ (decN_dig _) hr]
  · rw [if_neg h]
    obtain ⟨c, x, e, hc⟩ := decN_head n.toNat
    rw [if_neg (by rw [e]; simp only [List.cons_append, List.head?_cons, Option.some.injEq]; exact dig_not45 hc), span_run isDig _ _ (decN_dig _) hr]
theorem numVal_dec (n : Int) (hn : -10000000000000000000 < n ∧ n < 10000000000000000000) : numVal (dec n) = n := by
  unfold dec numVal
  by_cases h : n < 0
  · rw [if_pos h]
    simp only [List.head?_cons, if_true, List.tail_cons]
    rw [decN, decF_val 20 _ (by simp; omega)]
    omega
  · rw [if_neg h]
    obtain ⟨c, x, e, hc⟩ := decN_head n.toNat
    rw [if_neg (by rw [e]; simp only [List.head?_cons, Option.some.injEq]; exact dig_not45 hc), decN, decF_val 20 _ (by simp; omega)]
    omega
theorem numI_dec {lo hi n : Int} (hn : -10000000000000000000 < n ∧ n < 10000000000000000000) (h1 : lo ≤ n) (h2 : n ≤ hi) {r : List UInt8} (hr : NoDig r) : numI lo hi (dec n ++ r) = some (n, r) := by
  unfold numI
  rw [numSpan_dec n r hr, numVal_dec n hn, if_pos ⟨rfl, h1, h2⟩, List.drop_left]

/-! ### Atoms -/

def plainP (q : List UInt8) : Option (List UInt8 × List UInt8) := if plainT (q.takeWhile isWd) = true then some (q.takeWhile isWd, q.drop (q.takeWhile isWd).length) else none
theorem plainP_some {q s r : List UInt8} (h : plainP q = some (s, r)) : q = s ++ r ∧ plainT s = true ∧ NoWd r := by
  unfold plainP at h
  split at h
  · rename_i h1
    simp only [Option.some.injEq, Prod.mk.injEq] at h
    obtain ⟨h2, h3⟩ := span_rest isWd q
    obtain ⟨rfl, rfl⟩ := h
    exact ⟨h2, h1, h3⟩
  · cases h
theorem plainP_plain {s r : List UInt8} (h : plainT s = true) (hr : NoWd r) : plainP (s ++ r) = some (s, r) := by
  obtain ⟨_, _, _, _, ha, _⟩ := plain_head h
  unfold plainP
  rw [span_run isWd s r ha hr, if_pos h, List.drop_left]

/-- A digit's number. -/
def hexv (c : UInt8) : Option Nat := if isDig c = true then some (c.toNat - 48) else if 97 ≤ c.toNat ∧ c.toNat ≤ 102 then some (c.toNat - 87) else none
def needs (c : Nat) : Bool := decide (c < 32 ∨ 126 < c)
def hex2 (q : List UInt8) : Option (UInt8 × List UInt8) :=
  match q with
  | a :: b :: r => match hexv a, hexv b with
    | some x, some y => if needs (16 * x + y) = true then some (UInt8.ofNat (16 * x + y), r) else none
    | _, _ => none
  | _ => none
def escP (q : List UInt8) : Option (UInt8 × List UInt8) :=
  match q with
  | [] => none
  | c :: q => if c = 120 then hex2 q else if c = 39 ∨ c = 92 then some (c, q) else none
/-- A byte that stands in quotes. -/
def piece (q : List UInt8) : Option (UInt8 × List UInt8) :=
  match q with
  | [] => none
  | c :: q => if c = 92 then escP q else if needs c.toNat = true then none else some (c, q)
theorem hexv_hxd {d : Nat} (h : d < 16) : hexv (hxd d) = some d := by
  unfold hexv isDig
  rw [hxd_toNat h]
  by_cases h10 : d < 10
  · rw [if_pos h10, if_pos (by simp; omega)]
    simp
  · rw [if_neg h10, if_neg (by simp; omega), if_pos (by omega)]
    simp
theorem hexv_some {c : UInt8} {d : Nat} (h : hexv c = some d) : d < 16 ∧ c = hxd d := by
  unfold hexv at h
  split at h
  · rename_i h1
    unfold isDig at h1
    simp only [decide_eq_true_eq, Option.some.injEq] at h1 h
    refine ⟨by omega, UInt8.toNat_inj.1 ?_⟩
    rw [hxd_toNat (by omega), if_pos (by omega)]
    omega
  · split at h
    · rename_i h1
      simp only [Option.some.injEq] at h
      refine ⟨by omega, UInt8.toNat_inj.1 ?_⟩
      rw [hxd_toNat (by omega), if_neg (by omega)]
      omega
    · cases h
theorem piece_qb (c : UInt8) (r : List UInt8) : piece (qb c ++ r) = some (c, r) := by
  have hc := c.toNat_lt
  unfold qb
  by_cases h : c.toNat < 32 ∨ 126 < c.toNat
  · rw [if_pos h]
    simp only [List.cons_append, List.nil_append, piece, escP, hex2, if_true, hexv_hxd (show c.toNat / 16 < 16 by omega), hexv_hxd (show c.toNat % 16 < 16 by omega)]
    rw [show 16 * (c.toNat / 16) + c.toNat % 16 = c.toNat by omega, if_pos (by unfold needs; exact decide_eq_true h)]
    simp
  · rw [if_neg h]
    by_cases h2 : c = 39 ∨ c = 92
    · rw [if_pos h2]
      simp only [List.cons_append, List.nil_append, piece, escP, if_true]
      rw [if_neg (by rintro rfl; rcases h2 with h2 | h2 <;> exact absurd h2 (by decide)), if_pos h2]
    · rw [if_neg h2]
      simp only [List.cons_append, List.nil_append, piece]
      rw [if_neg (fun e => h2 (Or.inr e)), if_neg (by unfold needs; simpa using h)]
theorem piece_some {q r : List UInt8} {c : UInt8} (hq : q.head? ≠ some 39) (h : piece q = some (c, r)) : q = qb c ++ r := by
  cases q with
  | nil => cases h
  | cons a q =>
    rw [piece] at h
    split at h
    · rename_i e
      subst e
      cases q with
      | nil => cases h
      | cons d q =>
        rw [escP] at h
        split at h
        · rename_i e
          subst e
          unfold hex2 at h
          split at h
          · rename_i x y r'
            split at h
            · rename_i v u hv hu
              split at h
              · rename_i hn
                obtain ⟨hv1, rfl⟩ := hexv_some hv
                obtain ⟨hu1, rfl⟩ := hexv_some hu
                simp only [Option.some.injEq, Prod.mk.injEq] at h
                obtain ⟨rfl, rfl⟩ := h
                have hz : (UInt8.ofNat (16 * v + u)).toNat = 16 * v + u := by rw [UInt8.toNat_ofNat']; omega
                unfold needs at hn
                simp only [decide_eq_true_eq] at hn
                unfold qb
                rw [hz, if_pos hn, show (16 * v + u) / 16 = v by omega, show (16 * v + u) % 16 = u by omega]
                rfl
              · cases h
            · cases h
          · cases h
        · rename_i e
          split at h
          · rename_i e2
            simp only [Option.some.injEq, Prod.mk.injEq] at h
            obtain ⟨rfl, rfl⟩ := h
            unfold qb
            rw [if_neg (by rcases e2 with rfl | rfl <;> decide), if_pos e2]
            rfl
          · cases h
    · rename_i e
      split at h
      · cases h
      · rename_i hn
        unfold needs at hn
        simp only [decide_eq_true_eq] at hn
        simp only [Option.some.injEq, Prod.mk.injEq] at h
        obtain ⟨rfl, rfl⟩ := h
        unfold qb
        rw [if_neg hn, if_neg (fun e2 => e2.elim (fun e3 => hq (by rw [e3]; rfl)) e)]
        rfl
theorem qb_pos (c : UInt8) : 1 ≤ (qb c).length := by
  obtain ⟨d, x, e, _⟩ := qb_head c
  rw [e]
  simp
theorem piece_len {q r : List UInt8} {c : UInt8} (h : piece q = some (c, r)) : r.length < q.length := by
  by_cases hq : q.head? = some 39
  · cases q with
    | nil => cases hq
    | cons a q =>
      simp only [List.head?_cons, Option.some.injEq] at hq
      subst hq
      simp [piece, needs] at h
      rw [← h.2]
      simp
  · have := qb_pos c
    rw [piece_some hq h, List.length_append]
    omega

/-- The bytes of a quoted atom, behind its first sign. -/
def unqF : Nat → List UInt8 → Option (List UInt8 × List UInt8)
  | 0, _ => none
  | f + 1, q => match strip [39] q with
    | some r => some ([], r)
    | none => match piece q with
      | none => none
      | some (c, r) => match unqF f r with
        | none => none
        | some (s, x) => some (c :: s, x)
theorem strip1 (a c : UInt8) (q : List UInt8) : strip [a] (c :: q) = if a = c then some q else none := by rw [strip]; simp only [strip]
theorem strip1_no {a : UInt8} {q : List UInt8} (h : strip [a] q = none) : q.head? ≠ some a := by
  intro e
  cases q with
  | nil => cases e
  | cons c q =>
    simp only [List.head?_cons, Option.some.injEq] at e
    subst e
    rw [strip1, if_pos rfl] at h
    cases h
theorem unqF_some : ∀ (f : Nat) {q s r : List UInt8}, unqF f q = some (s, r) → q = s.flatMap qb ++ 39 :: r := by
  intro f
  induction f with
  | zero => intro q s r h; cases h
  | succ f ih =>
    intro q s r h
    rw [unqF] at h
    split at h
    · rename_i x hx
      simp only [Option.some.injEq, Prod.mk.injEq] at h
      obtain ⟨rfl, rfl⟩ := h
      rw [strip_some hx]
      rfl
    · rename_i hx
      split at h
      · cases h
      · rename_i c x hp
        split at h
        · cases h
        · rename_i s' y hu
          simp only [Option.some.injEq, Prod.mk.injEq] at h
          obtain ⟨rfl, rfl⟩ := h
          rw [piece_some (strip1_no hx) hp, ih hu, List.flatMap_cons, List.append_assoc]
theorem unqF_text : ∀ (f : Nat) (s r : List UInt8), s.length < f → unqF f (s.flatMap qb ++ 39 :: r) = some (s, r) := by
  intro f
  induction f with
  | zero => intro s r h; omega
  | succ f ih =>
    intro s r h
    cases s with
    | nil => simp [unqF, strip]
    | cons c s =>
      obtain ⟨d, x, e, hd⟩ := qb_head c
      rw [List.flatMap_cons, List.append_assoc, unqF]
      have h1 : strip [39] (qb c ++ (s.flatMap qb ++ 39 :: r)) = none := by
        rw [e, List.cons_append, strip1, if_neg (fun h => hd h.symm)]
      rw [h1]
      simp only
      rw [piece_qb]
      simp only
      rw [ih s r (by simpa using h)]
theorem flat_len (s : List UInt8) : s.length ≤ (s.flatMap qb).length := by
  induction s with
  | nil => simp
  | cons c s ih =>
    have := qb_pos c
    rw [List.flatMap_cons, List.length_append, List.length_cons]
    omega
def quoP (q : List UInt8) : Option (List UInt8 × List UInt8) :=
  match unqF (q.length + 1) q with
  | none => none
  | some (s, r) => if s.length ≤ 64 ∧ plainT s = false then some (s, r) else none
theorem quoP_some {q s r : List UInt8} (h : quoP q = some (s, r)) : 39 :: q = quoteT s ++ r ∧ s.length ≤ 64 ∧ plainT s = false := by
  unfold quoP at h
  split at h
  · cases h
  · rename_i s' r' hu
    split at h
    · rename_i h1
      simp only [Option.some.injEq, Prod.mk.injEq] at h
      obtain ⟨rfl, rfl⟩ := h
      refine ⟨?_, h1⟩
      rw [unqF_some _ hu, quoteT]
      simp
    · cases h
theorem quoP_text {s r : List UInt8} (h1 : s.length ≤ 64) (h2 : plainT s = false) : quoP (s.flatMap qb ++ 39 :: r) = some (s, r) := by
  unfold quoP
  rw [unqF_text _ s r (by have := flat_len s; rw [List.length_append]; omega)]
  simp only
  rw [if_pos ⟨h1, h2⟩]

end Go.Proofs.YtnbekfpkmebmbaaGreatDoor
