/-
  The order of terms, as plain mathematics: it is total.
-/
import Derived.Test.YteklhipcojioaaaDoorZKitBase
import Derived.Test.YteklhipcojioaaaDoorZTermWords
import Derived.Test.YteklhipcojioaaaDoorZTermSame
namespace Go.Proofs.YteklhipcojioaaaDoor
open Go.RowKit Go.Deep

def cmpI (a b : Int) : Int := if a < b then -1 else if b < a then 1 else 0
def cmpB (a b : ByteArray) : Int := if Op.bytesLess a.toList b.toList = true then -1 else if Op.bytesLess b.toList a.toList = true then 1 else 0
/-- The first that isn't 0. -/
def lex (a b : Int) : Int := if a = 0 then b else a

/-- What is known of three comparisons, of a with b, b with c, a with c. -/
def Tri (x y z : Int) : Prop := (x ≤ 0 → y ≤ 0 → z ≤ 0 ∧ (x < 0 ∨ y < 0 → z < 0)) ∧ (0 ≤ x → 0 ≤ y → 0 ≤ z ∧ (0 < x ∨ 0 < y → 0 < z))
def One (x : Int) : Prop := x = -1 ∨ x = 0 ∨ x = 1

theorem Tri.lex {x y z x' y' z' : Int} (h : Tri x y z) (h' : x = 0 → y = 0 → Tri x' y' z') : Tri (lex x x') (lex y y') (lex z z') := by
  unfold Tri Proofs.YteklhipcojioaaaDoor.lex at *
  by_cases hx : x = 0
  · by_cases hy : y = 0
    · have hz : z = 0 := by have h1 := h.1 (by omega) (by omega); have h2 := h.2 (by omega) (by omega); omega
      have h3 := h' hx hy
      rw [if_pos hx, if_pos hy, if_pos hz]
      exact h3
    · rw [if_pos hx, if_neg hy]
      have hz : z ≠ 0 := by
        intro hz
        rcases Int.lt_or_gt_of_ne hy with g | g
        · have := (h.1 (by omega) (by omega)).2 (Or.inr g); omega
        · have := (h.2 (by omega) (by omega)).2 (Or.inr g); omega
      rw [if_neg hz]
      refine ⟨fun h1 h2 => ?_, fun h1 h2 => ?_⟩
      · have h3 := h.1 (by omega) h2
        have h4 := h3.2 (Or.inr (by omega))
        exact ⟨by omega, fun _ => h4⟩
      · have h3 := h.2 (by omega) h2
        have h4 := h3.2 (Or.inr (by omega))
        exact ⟨by omega, fun _ => h4⟩
  · rw [if_neg hx]
    by_cases hy : y = 0
    · rw [if_pos hy]
      have hz : z ≠ 0 := by
        intro hz
        rcases Int.lt_or_gt_of_ne hx with g | g
        · have := (h.1 (by omega) (by omega)).2 (Or.inl g); omega
        · have := (h.2 (by omega) (by omega)).2 (Or.inl g); omega
      rw [if_neg hz]
      refine ⟨fun h1 h2 => ?_, fun h1 h2 => ?_⟩
      · have h4 := (h.1 (by omega) (by omega)).2 (Or.inl (by omega))
        exact ⟨by omega, fun _ => h4⟩
      · have h4 := (h.2 (by omega) (by omega)).2 (Or.inl (by omega))
        exact ⟨by omega, fun _ => h4⟩
    · rw [if_neg hy]
      refine ⟨fun h1 h2 => ?_, fun h1 h2 => ?_⟩
      · have h4 := (h.1 h1 h2).2 (Or.inl (by omega))
        rw [if_neg (by omega)]
        exact ⟨by omega, fun _ => h4⟩
      · have h4 := (h.2 h1 h2).2 (Or.inl (by omega))
        rw [if_neg (by omega)]
        exact ⟨by omega, fun _ => h4⟩
theorem Tri.zero : Tri 0 0 0 := by unfold Tri; omega
theorem lex_neg (a b : Int) : lex (-a) (-b) = -(lex a b) := by unfold lex; split <;> split <;> omega
theorem lex_one {a b : Int} (h : One a) (h' : One b) : One (lex a b) := by unfold lex; split <;> assumption
theorem lex_zero {a b : Int} : lex a b = 0 ↔ a = 0 ∧ b = 0 := by unfold lex; split <;> omega

theorem cmpI_neg (a b : Int) : cmpI b a = -(cmpI a b) := by unfold cmpI; split <;> split <;> omega
theorem cmpI_one (a b : Int) : One (cmpI a b) := by unfold cmpI One; (repeat' split) <;> omega
theorem cmpI_zero {a b : Int} : cmpI a b = 0 ↔ a = b := by unfold cmpI; (repeat' split) <;> omega
theorem cmpI_tri (a b c : Int) : Tri (cmpI a b) (cmpI b c) (cmpI a c) := by
  unfold cmpI Tri
  by_cases h1 : a < b <;> by_cases h2 : b < a <;> by_cases h3 : b < c <;> by_cases h4 : c < b <;> by_cases h5 : a < c <;> by_cases h6 : c < a <;> simp only [h1, h2, h3, h4, h5, h6, if_true, if_false] <;> omega

theorem less_irrefl : ∀ l : List UInt8, Op.bytesLess l l = false
  | [] => rfl
  | a :: r => by simp [Op.bytesLess, less_irrefl r]
theorem less_trans : ∀ a b c : List UInt8, Op.bytesLess a b = true → Op.bytesLess b c = true → Op.bytesLess a c = true
  | _, [], _, h, _ => by simp [Op.bytesLess] at h
  | _, _ :: _, [], _, h => by simp [Op.bytesLess] at h
  | [], _ :: _, _ :: _, _, _ => rfl
  | x :: a, y :: b, z :: c, h, h' => by
    simp only [Op.bytesLess, Bool.or_eq_true, decide_eq_true_eq, Bool.and_eq_true, beq_iff_eq] at *
    rcases h with h | ⟨rfl, h⟩
    · rcases h' with h' | ⟨rfl, h'⟩
      · exact Or.inl (UInt8.lt_trans h h')
      · exact Or.inl h
    · rcases h' with h' | ⟨rfl, h'⟩
      · exact Or.inl h'
      · exact Or.inr ⟨rfl, less_trans _ _ _ h h'⟩
theorem less_total : ∀ a b : List UInt8, Op.bytesLess a b = false → Op.bytesLess b a = false → a = b
  | [], [], _, _ => rfl
  | [], _ :: _, h, _ => by simp [Op.bytesLess] at h
  | _ :: _, [], _, h => by simp [Op.bytesLess] at h
  | x :: a, y :: b, h, h' => by
    simp only [Op.bytesLess, Bool.or_eq_false_iff, decide_eq_false_iff_not, Bool.and_eq_false_iff, beq_eq_false_iff_ne] at *
    have e : x = y := UInt8.le_antisymm (UInt8.not_lt.1 h'.1) (UInt8.not_lt.1 h.1)
    subst e
    have h1 : Op.bytesLess a b = false := by rcases h.2 with g | g; exact absurd rfl g; exact g
    have h2 : Op.bytesLess b a = false := by rcases h'.2 with g | g; exact absurd rfl g; exact g
    rw [less_total a b h1 h2]
theorem cmpB_one (a b : ByteArray) : One (cmpB a b) := by unfold cmpB One; (repeat' split) <;> omega
theorem less_asymm {a b : List UInt8} (h : Op.bytesLess a b = true) : Op.bytesLess b a = false := by
  cases hc : Op.bytesLess b a with
  | false => rfl
  | true => have := less_trans _ _ _ h hc; rw [less_irrefl] at this; cases this
theorem cmpB_neg (a b : ByteArray) : cmpB b a = -(cmpB a b) := by
  unfold cmpB
  cases h1 : Op.bytesLess a.toList b.toList <;> cases h2 : Op.bytesLess b.toList a.toList
  · simp
  · simp
  · simp
  · have := less_asymm h1; rw [h2] at this; cases this
theorem cmpB_zero {a b : ByteArray} : cmpB a b = 0 ↔ a = b := by
  unfold cmpB
  constructor
  · intro h
    cases h1 : Op.bytesLess a.toList b.toList <;> cases h2 : Op.bytesLess b.toList a.toList <;> simp [h1, h2] at h
    exact bytes_toList (less_total _ _ h1 h2)
  · rintro rfl; simp [less_irrefl]
theorem cmpB_tri (a b c : ByteArray) : Tri (cmpB a b) (cmpB b c) (cmpB a c) := by
  have key : ∀ x y z : List UInt8, Op.bytesLess y x = false → Op.bytesLess z y = false → Op.bytesLess z x = false ∧ (Op.bytesLess x y = true ∨ Op.bytesLess y z = true → Op.bytesLess x z = true) := by
    intro x y z h h'
    have hxz : Op.bytesLess z x = false := by
      cases hc : Op.bytesLess z x with
      | false => rfl
      | true =>
        cases hxy : Op.bytesLess x y with
        | true => have := less_trans _ _ _ hc hxy; rw [h'] at this; cases this
        | false =>
          have := less_total _ _ hxy h
          subst this
          rw [h'] at hc; cases hc
    refine ⟨hxz, fun g => ?_⟩
    cases hc : Op.bytesLess x z with
    | true => rfl
    | false =>
      have := less_total _ _ hc hxz
      subst this
      rcases g with g | g
      · rw [h'] at g; cases g
      · rw [h] at g; cases g
  have le_iff : ∀ x y : ByteArray, cmpB x y ≤ 0 ↔ Op.bytesLess y.toList x.toList = false := by
    intro x y
    unfold cmpB
    cases h1 : Op.bytesLess x.toList y.toList <;> cases h2 : Op.bytesLess y.toList x.toList <;> simp
    have := less_asymm h1; rw [h2] at this; cases this
  have lt_iff : ∀ x y : ByteArray, cmpB x y < 0 ↔ Op.bytesLess x.toList y.toList = true := by
    intro x y
    unfold cmpB
    cases h1 : Op.bytesLess x.toList y.toList <;> cases h2 : Op.bytesLess y.toList x.toList <;> simp
  have half : ∀ x y z : ByteArray, cmpB x y ≤ 0 → cmpB y z ≤ 0 → cmpB x z ≤ 0 ∧ (cmpB x y < 0 ∨ cmpB y z < 0 → cmpB x z < 0) := by
    intro x y z h h'
    have := key x.toList y.toList z.toList ((le_iff x y).1 h) ((le_iff y z).1 h')
    rw [le_iff, lt_iff, lt_iff, lt_iff]
    exact this
  refine ⟨half a b c, fun h h' => ?_⟩
  have e1 := cmpB_neg a b
  have e2 := cmpB_neg b c
  have e3 := cmpB_neg a c
  have := half c b a (by omega) (by omega)
  exact ⟨by omega, fun g => by have := this.2 (by rcases g with g | g; exact Or.inr (by omega); exact Or.inl (by omega)); omega⟩

mutual
/-- Which of two terms is ahead. -/
def Tm.cmp : Tm → Tm → Int
  | .mk k n s l, .mk k' n' s' l' => lex (cmpI k k') (
      if k = 1 ∨ k = 3 ∨ k = 4 ∨ k = 6 then cmpI n n'
      else if k = 2 then cmpB s s'
      else if k = 5 then lex (cmpI n n') (lex (cmpI l.length l'.length) (cmpL l l'))
      else if k = 7 ∨ k = 9 then lex (cmpI l.length l'.length) (cmpL l l')
      else 0)
def cmpL : List Tm → List Tm → Int
  | [], _ => 0
  | a :: r, l' => match l' with
    | [] => 0
    | b :: r' => lex (a.cmp b) (cmpL r r')
end
theorem cmp_mk (k n : Int) (s : ByteArray) (l : List Tm) (k' n' : Int) (s' : ByteArray) (l' : List Tm) : (Tm.mk k n s l).cmp (.mk k' n' s' l') = lex (cmpI k k') (
      if k = 1 ∨ k = 3 ∨ k = 4 ∨ k = 6 then cmpI n n'
      else if k = 2 then cmpB s s'
      else if k = 5 then lex (cmpI n n') (lex (cmpI l.length l'.length) (cmpL l l'))
      else if k = 7 ∨ k = 9 then lex (cmpI l.length l'.length) (cmpL l l')
      else 0) := by rw [Tm.cmp]
theorem cmpL_cons (a : Tm) (r : List Tm) (b : Tm) (r' : List Tm) : cmpL (a :: r) (b :: r') = lex (a.cmp b) (cmpL r r') := by rw [cmpL]
theorem cmpL_nil (l : List Tm) : cmpL [] l = 0 := by rw [cmpL]
theorem cmpL_nil' (l : List Tm) : cmpL l [] = 0 := by cases l <;> rw [cmpL]

theorem cmp_one (T : Tm) : ∀ U, One (T.cmp U) := by
  induction T using Tm.induct with
  | h k n s l ih =>
    intro U
    obtain ⟨k', n', s', l'⟩ := U
    have hL : ∀ (r : List Tm), (∀ t ∈ r, t ∈ l) → ∀ r', One (cmpL r r') := by
      intro r
      induction r with
      | nil => intro _ r'; rw [cmpL_nil]; exact Or.inr (Or.inl rfl)
      | cons a r ihr =>
        intro hm r'
        cases r' with
        | nil => rw [cmpL_nil']; exact Or.inr (Or.inl rfl)
        | cons b r' => rw [cmpL_cons]; exact lex_one (ih a (hm a List.mem_cons_self) b) (ihr (fun t ht => hm t (List.mem_cons_of_mem _ ht)) r')
    rw [cmp_mk]
    refine lex_one (cmpI_one _ _) ?_
    have h := hL l (fun t h => h) l'
    split
    · exact cmpI_one _ _
    split
    · exact cmpB_one _ _
    split
    · exact lex_one (cmpI_one _ _) (lex_one (cmpI_one _ _) h)
    split
    · exact lex_one (cmpI_one _ _) h
    · exact Or.inr (Or.inl rfl)

theorem cmp_neg (T : Tm) : ∀ U, U.cmp T = -(T.cmp U) := by
  induction T using Tm.induct with
  | h k n s l ih =>
    intro U
    obtain ⟨k', n', s', l'⟩ := U
    have hL : ∀ (r : List Tm), (∀ t ∈ r, t ∈ l) → ∀ r', cmpL r' r = -(cmpL r r') := by
      intro r
      induction r with
      | nil => intro _ r'; rw [cmpL_nil, cmpL_nil']; rfl
      | cons a r ihr =>
        intro hm r'
        cases r' with
        | nil => rw [cmpL_nil', cmpL_nil]; rfl
        | cons b r' => rw [cmpL_cons, cmpL_cons, ih a (hm a List.mem_cons_self) b, ihr (fun t ht => hm t (List.mem_cons_of_mem _ ht)) r', lex_neg]
    have h := hL l (fun t h => h) l'
    rw [cmp_mk, cmp_mk, cmpI_neg k k']
    by_cases hk : k = k'
    · subst hk
      rw [h, cmpI_neg n n', cmpI_neg l.length l'.length, cmpB_neg s s', lex_neg, lex_neg]
      have : cmpI k k = 0 := cmpI_zero.2 rfl
      rw [this]
      unfold lex
      simp only [Int.neg_zero, if_true]
      split
      · rfl
      split
      · rfl
      split
      · rfl
      split
      · rfl
      · rfl
    · have : cmpI k k' ≠ 0 := fun e => hk (cmpI_zero.1 e)
      unfold lex
      rw [if_neg (by omega), if_neg this]

theorem cmp_tri (T : Tm) : ∀ U V, Tri (T.cmp U) (U.cmp V) (T.cmp V) := by
  induction T using Tm.induct with
  | h k n s l ih =>
    intro U V
    obtain ⟨k1, n1, s1, l1⟩ := U
    obtain ⟨k2, n2, s2, l2⟩ := V
    have hL : ∀ (r : List Tm), (∀ t ∈ r, t ∈ l) → ∀ r1 r2 : List Tm, r.length = r1.length → r1.length = r2.length → Tri (cmpL r r1) (cmpL r1 r2) (cmpL r r2) := by
      intro r
      induction r with
      | nil =>
        intro _ r1 r2 h1 h2
        obtain rfl := List.eq_nil_of_length_eq_zero h1.symm
        obtain rfl := List.eq_nil_of_length_eq_zero h2.symm
        rw [cmpL_nil]
        exact Tri.zero
      | cons a r ihr =>
        intro hm r1 r2 h1 h2
        match r1, r2, h1, h2 with
        | b :: r1, c :: r2, h1, h2 =>
          rw [cmpL_cons, cmpL_cons, cmpL_cons]
          exact (ih a (hm a List.mem_cons_self) b c).lex (fun _ _ => ihr (fun t ht => hm t (List.mem_cons_of_mem _ ht)) r1 r2 (by simpa using h1) (by simpa using h2))
    have hl : Tri (lex (cmpI l.length l1.length) (cmpL l l1)) (lex (cmpI l1.length l2.length) (cmpL l1 l2)) (lex (cmpI l.length l2.length) (cmpL l l2)) :=
      (cmpI_tri _ _ _).lex (fun h h' => hL l (fun t h => h) l1 l2 (by have := cmpI_zero.1 h; omega) (by have := cmpI_zero.1 h'; omega))
    rw [cmp_mk, cmp_mk, cmp_mk]
    refine (cmpI_tri _ _ _).lex (fun h h' => ?_)
    obtain rfl := cmpI_zero.1 h
    obtain rfl := cmpI_zero.1 h'
    split
    · exact cmpI_tri _ _ _
    split
    · exact cmpB_tri _ _ _
    split
    · exact (cmpI_tri _ _ _).lex (fun _ _ => hl)
    split
    · exact hl
    · exact Tri.zero

theorem cmp_refl (T : Tm) : T.cmp T = 0 := by have := cmp_neg T T; omega

theorem fitss_at {l : List Tm} (h : fitss l = true) : ∀ t ∈ l, t.fits = true := by
  induction l with
  | nil => intro t ht; cases ht
  | cons a r ih =>
    intro t ht
    rw [fitss, Bool.and_eq_true] at h
    rcases List.mem_cons.1 ht with rfl | ht
    · exact h.1
    · exact ih h.2 t ht

theorem bytes_size0 {s s' : ByteArray} (h : s.size = 0) (h' : s'.size = 0) : s = s' := by
  have e : ∀ b : ByteArray, b.size = 0 → b = ByteArray.empty := fun b hb => by
    obtain ⟨d⟩ := b
    have : d = #[] := Array.eq_empty_of_size_eq_zero hb
    subst this
    rfl
  rw [e s h, e s' h']

/-- Terms that may be are alike just if they are the same. -/
theorem cmp_zero (T : Tm) : ∀ U, T.fits = true → U.fits = true → T.cmp U = 0 → T = U := by
  induction T using Tm.induct with
  | h k n s l ih =>
    intro U hT hU hc
    obtain ⟨k', n', s', l'⟩ := U
    rw [fits_mk, Bool.and_eq_true] at hT hU
    have hm := fitss_at hT.2
    have hm' := fitss_at hU.2
    have hL : ∀ (r : List Tm), (∀ t ∈ r, t ∈ l) → ∀ r' : List Tm, (∀ t ∈ r', t ∈ l') → r.length = r'.length → cmpL r r' = 0 → r = r' := by
      intro r
      induction r with
      | nil => intro _ r' _ h _; exact (List.eq_nil_of_length_eq_zero h.symm).symm
      | cons a r ihr =>
        intro h1 r' h2 h h0
        match r', h with
        | b :: r', h =>
          rw [cmpL_cons, lex_zero] at h0
          rw [ih a (h1 a List.mem_cons_self) b (hm a (h1 a List.mem_cons_self)) (hm' b (h2 b List.mem_cons_self)) h0.1, ihr (fun t ht => h1 t (List.mem_cons_of_mem _ ht)) r' (fun t ht => h2 t (List.mem_cons_of_mem _ ht)) (by simpa using h) h0.2]
    rw [cmp_mk, lex_zero] at hc
    obtain ⟨hk, hb⟩ := hc
    obtain rfl := cmpI_zero.1 hk
    have hf := hT.1
    have hf' := hU.1
    have hlen : ∀ {x : Int}, lex (cmpI l.length l'.length) x = 0 → l.length = l'.length ∧ x = 0 := fun h => by
      have := lex_zero.1 h
      exact ⟨by have := cmpI_zero.1 this.1; omega, this.2⟩
    unfold fitB at hf hf'
    simp only [decide_eq_true_eq] at hf hf'
    have hnil : l.length = 0 → l'.length = 0 → l = l' := fun h h' => by rw [List.eq_nil_of_length_eq_zero h, List.eq_nil_of_length_eq_zero h']
    have hlist : l.length = l'.length → cmpL l l' = 0 → l = l' := fun h h' => hL l (fun t h => h) l' (fun t h => h) h h'
    by_cases h1 : k = 1 ∨ k = 3 ∨ k = 4 ∨ k = 6
    · rw [if_pos h1] at hb
      obtain rfl := cmpI_zero.1 hb
      rw [bytes_size0 (s := s) (s' := s') (by omega) (by omega), hnil (by omega) (by omega)]
    rw [if_neg h1] at hb
    by_cases h2 : k = 2
    · rw [if_pos h2] at hb
      obtain rfl := cmpB_zero.1 hb
      rw [hnil (by omega) (by omega), show n = n' by omega]
    rw [if_neg h2] at hb
    by_cases h5 : k = 5
    · rw [if_pos h5, lex_zero] at hb
      obtain rfl := cmpI_zero.1 hb.1
      have := hlen hb.2
      rw [bytes_size0 (s := s) (s' := s') (by omega) (by omega), hlist this.1 this.2]
    rw [if_neg h5] at hb
    by_cases h7 : k = 7 ∨ k = 9
    · rw [if_pos h7] at hb
      have := hlen hb
      rw [bytes_size0 (s := s) (s' := s') (by omega) (by omega), hlist this.1 this.2, show n = n' by omega]
    · rw [bytes_size0 (s := s) (s' := s') (by omega) (by omega), hnil (by omega) (by omega), show n = n' by omega]

end Go.Proofs.YteklhipcojioaaaDoor

/-
  Keys in their order, each with a number, as a plain rising list: what is put, taken out, found, behind and ahead.
-/
namespace Go.Proofs.YteklhipcojioaaaDoor
open Go.RowKit Go.Deep

/-- A key and its number. -/
abbrev Nd := Tm × Int
/-- How many keys are ahead of one. -/
def atN : List Nd → Tm → Nat
  | [], _ => 0
  | x :: r, T => if x.1.cmp T < 0 then atN r T + 1 else 0
/-- Whether a key is there, at the place behind those. -/
def isN (L : List Nd) (T : Tm) : Bool := match L[atN L T]? with
  | some x => decide (x.1.cmp T = 0)
  | none => false
def numN (L : List Nd) (i : Nat) : Int := match L[i]? with
  | some x => x.2
  | none => 0
/-- The number of a key. -/
def getN (L : List Nd) (T : Tm) : Int := if isN L T = true then numN L (atN L T) else 0
def keyN (L : List Nd) (i : Nat) : Tm := match L[i]? with
  | some x => x.1
  | none => .mk 0 0 ⟨#[]⟩ []
def putN (L : List Nd) (T : Tm) (n : Int) : List Nd := if isN L T = true then L.set (atN L T) (keyN L (atN L T), n) else L.take (atN L T) ++ (T, n) :: L.drop (atN L T)
def removeN (L : List Nd) (T : Tm) : List Nd := if isN L T = true then L.take (atN L T) ++ L.drop (atN L T + 1) else L
/-- The place behind a key, ahead of it. -/
def nextN (L : List Nd) (T : Tm) : Nat := if isN L T = true then atN L T + 1 else atN L T
/-- Keys rise. -/
def RisingN (L : List Nd) : Prop := L.Pairwise fun a b => a.1.cmp b.1 < 0

theorem atN_le (L : List Nd) (T : Tm) : atN L T ≤ L.length := by
  induction L with
  | nil => exact Nat.le_refl _
  | cons x r ih =>
    unfold atN
    split
    · simp; omega
    · exact Nat.zero_le _
theorem atN_lt (L : List Nd) (T : Tm) : ∀ i (_ : i < atN L T) (h : i < L.length), L[i].1.cmp T < 0 := by
  induction L with
  | nil => intro i _ h; cases h
  | cons x r ih =>
    intro i h1 h2
    unfold atN at h1
    split at h1
    · rename_i hx
      cases i with
      | zero => exact hx
      | succ i => exact ih i (by omega) (by simpa using h2)
    · omega
theorem atN_ge (L : List Nd) (T : Tm) (h : atN L T < L.length) : ¬ L[atN L T].1.cmp T < 0 := by
  induction L with
  | nil => cases h
  | cons x r ih =>
    by_cases hx : x.1.cmp T < 0
    · have e : atN (x :: r) T = atN r T + 1 := by rw [atN, if_pos hx]
      have h' : atN r T < r.length := by rw [e] at h; simpa using h
      have := ih h'
      simpa [e] using this
    · have e : atN (x :: r) T = 0 := by rw [atN, if_neg hx]
      simpa [e] using hx
/-- Where one is, told by what is ahead and what is not. -/
theorem atN_is {L : List Nd} {T : Tm} {i : Nat} (hi : i ≤ L.length) (h1 : ∀ j (_ : j < i) (h : j < L.length), L[j].1.cmp T < 0) (h2 : ∀ h : i < L.length, ¬ L[i].1.cmp T < 0) : atN L T = i := by
  have a1 := atN_lt L T
  have a2 := atN_ge L T
  have a3 := atN_le L T
  rcases Nat.lt_trichotomy (atN L T) i with e | e | e
  · exact absurd (h1 _ e (by omega)) (a2 (by omega))
  · exact e
  · exact absurd (a1 i e (by omega)) (h2 (by omega))
theorem isN_some {L : List Nd} {T : Tm} (h : isN L T = true) : ∃ h : atN L T < L.length, L[atN L T].1.cmp T = 0 := by
  unfold isN at h
  split at h
  · rename_i x hx
    obtain ⟨hl, rfl⟩ := List.getElem?_eq_some_iff.1 hx
    exact ⟨hl, of_decide_eq_true h⟩
  · cases h
theorem isN_of {L : List Nd} {T : Tm} (hl : atN L T < L.length) (h : L[atN L T].1.cmp T = 0) : isN L T = true := by
  unfold isN
  rw [List.getElem?_eq_getElem hl]
  exact decide_eq_true h
theorem isN_not {L : List Nd} {T : Tm} (h : isN L T = false) (hl : atN L T < L.length) : 0 < L[atN L T].1.cmp T := by
  unfold isN at h
  rw [List.getElem?_eq_getElem hl] at h
  have h1 := of_decide_eq_false h
  have h2 := atN_ge L T hl
  omega
theorem nd_lt_le {a b c : Tm} (h : a.cmp b < 0) (h' : b.cmp c ≤ 0) : a.cmp c < 0 := ((cmp_tri a b c).1 (by omega) h').2 (Or.inl h)
theorem nd_le_lt {a b c : Tm} (h : a.cmp b ≤ 0) (h' : b.cmp c < 0) : a.cmp c < 0 := ((cmp_tri a b c).1 h (by omega)).2 (Or.inr h')
/-- Behind the place all keys are behind. -/
theorem RisingN.behind {L : List Nd} (hL : RisingN L) {T : Tm} (h : isN L T = false) : ∀ j (_ : atN L T ≤ j) (h : j < L.length), T.cmp L[j].1 < 0 := fun j h1 h2 => by
  have h3 := isN_not h (by omega)
  have h4 := cmp_neg T L[atN L T].1
  have h5 := cmp_neg L[atN L T].1 T
  rcases Nat.lt_or_eq_of_le h1 with e | e
  · have := List.pairwise_iff_getElem.1 hL (atN L T) j (by omega) h2 e
    exact nd_lt_le (b := L[atN L T].1) (by omega) (by omega)
  · subst e
    omega
theorem RisingN.put {L : List Nd} (hL : RisingN L) (T : Tm) (n : Int) : RisingN (putN L T n) := by
  unfold putN
  split
  · rename_i h
    obtain ⟨hl, _⟩ := isN_some h
    have ek : keyN L (atN L T) = L[atN L T].1 := by unfold keyN; rw [List.getElem?_eq_getElem hl]
    have hm : ∀ i (h1 : i < (L.set (atN L T) (keyN L (atN L T), n)).length), (L.set (atN L T) (keyN L (atN L T), n))[i].1 = (L[i]'(by simpa using h1)).1 := fun i h1 => by
      rw [List.getElem_set]
      split
      · rename_i e
        subst e
        exact ek
      · rfl
    refine List.pairwise_iff_getElem.2 fun i j hi hj hij => ?_
    rw [hm i hi, hm j hj]
    exact List.pairwise_iff_getElem.1 hL i j _ _ hij
  · rename_i h
    have h : isN L T = false := by simpa using h
    have hb := hL.behind h
    refine List.pairwise_append.2 ⟨hL.sublist (List.take_sublist _ _), List.pairwise_cons.2 ⟨fun b hb' => ?_, hL.sublist (List.drop_sublist _ _)⟩, fun a ha b hb' => ?_⟩
    · obtain ⟨j, hj, rfl⟩ := List.mem_iff_getElem.1 hb'
      rw [List.length_drop] at hj
      rw [List.getElem_drop]
      exact hb _ (by omega) (by omega)
    · obtain ⟨i, hi, rfl⟩ := List.mem_iff_getElem.1 ha
      rw [List.length_take] at hi
      rw [List.getElem_take]
      have h1 := atN_lt L T i (by omega) (by omega)
      rcases List.mem_cons.1 hb' with rfl | hb'
      · exact h1
      · obtain ⟨j, hj, rfl⟩ := List.mem_iff_getElem.1 hb'
        rw [List.length_drop] at hj
        rw [List.getElem_drop]
        exact nd_lt_le h1 (by have := hb (atN L T + j) (by omega) (by omega); omega)
theorem RisingN.remove {L : List Nd} (hL : RisingN L) (T : Tm) : RisingN (removeN L T) := by
  unfold removeN
  split
  · refine List.pairwise_append.2 ⟨hL.sublist (List.take_sublist _ _), hL.sublist (List.drop_sublist _ _), fun a ha b hb => ?_⟩
    obtain ⟨i, hi, rfl⟩ := List.mem_iff_getElem.1 ha
    obtain ⟨j, hj, rfl⟩ := List.mem_iff_getElem.1 hb
    rw [List.length_take] at hi
    rw [List.length_drop] at hj
    rw [List.getElem_take, List.getElem_drop]
    exact List.pairwise_iff_getElem.1 hL i _ (by omega) (by omega) (by omega)
  · exact hL
theorem putN_len (L : List Nd) (T : Tm) (n : Int) : (putN L T n).length = if isN L T = true then L.length else L.length + 1 := by
  have := atN_le L T
  unfold putN
  split
  · simp
  · simp; omega
theorem removeN_len (L : List Nd) (T : Tm) : (removeN L T).length = if isN L T = true then L.length - 1 else L.length := by
  have := atN_le L T
  unfold removeN
  split
  · rename_i h
    obtain ⟨hl, _⟩ := isN_some h
    simp; omega
  · rfl
end Go.Proofs.YteklhipcojioaaaDoor
