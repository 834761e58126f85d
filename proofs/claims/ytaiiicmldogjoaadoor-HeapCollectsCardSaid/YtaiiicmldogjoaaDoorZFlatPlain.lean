/-
  Terms as words, plainly: which words a term has, of a table of atoms, and which term words are.
-/
import Derived.Test.YtaiiicmldogjoaaDoorZTermWords
import Derived.Test.YtaiiicmldogjoaaDoorZWordPlain
import Derived.Test.YtaiiicmldogjoaaDoorZAtomPlain
namespace Go.Proofs.YtaiiicmldogjoaaDoor
open Go.RowKit

/-- What has a number in L has it in F. -/
def Ext (L F : List ByteArray) : Prop := ∀ s i, pos s L = some i → pos s F = some i
theorem Ext.refl (L : List ByteArray) : Ext L L := fun _ _ h => h
theorem Ext.trans {L M F : List ByteArray} (h : Ext L M) (k : Ext M F) : Ext L F := fun s i hs => k s i (h s i hs)
theorem put_cases (L : List ByteArray) (s : ByteArray) :
    (∃ i, s.size ≤ 64 ∧ pos s L = some i ∧ put L s = (i, 0, L)) ∨ (s.size ≤ 64 ∧ pos s L = none ∧ put L s = (L.length, 0, L ++ [s])) ∨ ∃ e, e ≠ 0 ∧ (s.size ≤ 64 → e = 8) ∧ put L s = (0, e, L) := by
  by_cases h1 : 64 < s.size
  · exact Or.inr (Or.inr ⟨2, by decide, fun h => by omega, put_long h1⟩)
  · cases hp : pos s L with
    | some i => exact Or.inl ⟨i, by omega, rfl, put_there (by omega) hp⟩
    | none =>
      by_cases h2 : 4096 ≤ L.length ∨ 65536 < bytesOf L + s.size
      · exact Or.inr (Or.inr ⟨8, by decide, fun _ => rfl, put_full (by omega) hp h2⟩)
      · exact Or.inr (Or.inl ⟨by omega, rfl, put_new (by omega) hp (by omega) (by omega)⟩)
theorem Ext.put (L : List ByteArray) (s : ByteArray) : Ext L (put L s).2.2 := by
  rcases put_cases L s with ⟨i, _, _, h⟩ | ⟨_, _, h⟩ | ⟨e, _, _, h⟩
  · rw [h]; exact Ext.refl L
  · rw [h]
    intro x i hx
    rw [pos_snoc, hx]
    rfl
  · rw [h]; exact Ext.refl L
theorem put_pos {L : List ByteArray} {s : ByteArray} (h : (put L s).2.1 = 0) : pos s (put L s).2.2 = some (put L s).1 := by
  rcases put_cases L s with ⟨i, _, hp, h'⟩ | ⟨_, hp, h'⟩ | ⟨e, he, _, h'⟩
  · rw [h']; exact hp
  · rw [h', pos_snoc, hp]
    simp
  · rw [h'] at h
    exact absurd h he
theorem put_posI {L F : List ByteArray} {s : ByteArray} (h : (put L s).2.1 = 0) (hF : Ext (put L s).2.2 F) : posI s F = (put L s).1 := by
  rw [posI, hF _ _ (put_pos h)]

/-- The number in a term's own word. -/
def numF (F : List ByteArray) (k n : Int) (s : ByteArray) (p : Nat) : Int := if k = 2 then posI s F else if hasL k = true then p else n
/-- What stands ahead of the words of a term's parts. -/
def leadW (k n : Int) (m : Nat) : List Int := if k = 7 then [Wd.packW 10 m] else if k = 5 then [Wd.packW 11 (n * 128 + m)] else []
/-- A term's own word, where what it has within is laid at p. -/
def Tm.own (F : List ByteArray) : Tm → Nat → Int
  | .mk k n s _, p => Wd.packW k (numF F k n s p)
mutual
/-- What a term has laid, from p on. -/
def Tm.laid (F : List ByteArray) : Tm → Nat → List Int
  | .mk k n _ l, p => leadW k n l.length ++ (kids F l (p + (leadW k n l.length).length + l.length)).1 ++ (kids F l (p + (leadW k n l.length).length + l.length)).2
def kids (F : List ByteArray) : List Tm → Nat → List Int × List Int
  | [], _ => ([], [])
  | t :: r, q => (t.own F q :: (kids F r (q + (t.laid F q).length)).1, t.laid F q ++ (kids F r (q + (t.laid F q).length)).2)
end
/-- A term's words. -/
def Tm.flat (F : List ByteArray) (T : Tm) : List Int := T.own F 1 :: T.laid F 1
theorem laid_mk (F : List ByteArray) (k n : Int) (s : ByteArray) (l : List Tm) (p : Nat) : (Tm.mk k n s l).laid F p = leadW k n l.length ++ (kids F l (p + (leadW k n l.length).length + l.length)).1 ++ (kids F l (p + (leadW k n l.length).length + l.length)).2 := by rw [Tm.laid]
theorem kids_nil (F : List ByteArray) (q : Nat) : kids F [] q = ([], []) := by rw [kids]
theorem kids_cons (F : List ByteArray) (t : Tm) (r : List Tm) (q : Nat) : kids F (t :: r) q = (t.own F q :: (kids F r (q + (t.laid F q).length)).1, t.laid F q ++ (kids F r (q + (t.laid F q).length)).2) := by rw [kids]
theorem kids_length (F : List ByteArray) : ∀ (l : List Tm) (q : Nat), (kids F l q).1.length = l.length
  | [], q => by rw [kids_nil]; rfl
  | t :: r, q => by rw [kids_cons]; simp [kids_length F r]
theorem kids_take (F : List ByteArray) : ∀ (l : List Tm) (q i : Nat) (hi : i < l.length),
    kids F (l.take (i + 1)) q = ((kids F (l.take i) q).1 ++ [l[i].own F (q + (kids F (l.take i) q).2.length)], (kids F (l.take i) q).2 ++ l[i].laid F (q + (kids F (l.take i) q).2.length))
  | t :: r, q, 0, hi => by simp [kids_nil, kids_cons]
  | t :: r, q, i + 1, hi => by
    have h := kids_take F r (q + (t.laid F q).length) i (by simpa using hi)
    rw [List.take_succ_cons, kids_cons, h]
    rw [List.take_succ_cons, kids_cons]
    simp only [List.cons_append, List.append_assoc, List.length_append, List.getElem_cons_succ, Nat.add_assoc]
theorem kids_le (F : List ByteArray) : ∀ (l : List Tm) (q i : Nat), (kids F (l.take i) q).2.length ≤ (kids F l q).2.length
  | [], q, i => by simp
  | t :: r, q, 0 => by rw [List.take_zero, kids_nil]; exact Nat.zero_le _
  | t :: r, q, i + 1 => by
    have h := kids_le F r (q + (t.laid F q).length) i
    rw [List.take_succ_cons, kids_cons, kids_cons]
    simp only [List.length_append]
    omega
theorem fitss_all {l : List Tm} (h : fitss l = true) : ∀ t ∈ l, t.fits = true := by
  induction l with
  | nil => intro t ht; cases ht
  | cons x r ih =>
    rw [fitss, Bool.and_eq_true] at h
    intro t ht
    rcases List.mem_cons.1 ht with rfl | ht
    · exact h.1
    · exact ih h.2 t ht
theorem fitss_of {l : List Tm} (h : ∀ t ∈ l, t.fits = true) : fitss l = true := by
  induction l with
  | nil => rw [fitss]
  | cons x r ih =>
    rw [fitss, Bool.and_eq_true]
    exact ⟨h x (List.mem_cons_self ..), ih fun t ht => h t (List.mem_cons_of_mem _ ht)⟩
/-- There are as many words as the term has. -/
theorem laid_length (F : List ByteArray) (T : Tm) : T.fits = true → ∀ p, ((T.laid F p).length : Int) + 1 = T.wordsR := by
  induction T using Tm.induct with
  | h k n s l ih =>
    intro hf p
    rw [fits_mk, Bool.and_eq_true] at hf
    have hk : ∀ (r : List Tm), (∀ t ∈ r, t ∈ l) → ∀ q, ((kids F r q).2.length : Int) + r.length = wordsRs r := by
      intro r
      induction r with
      | nil => intro _ q; rw [kids_nil, wordsRs]; rfl
      | cons t r ihr =>
        intro hr q
        rw [kids_cons, wordsRs]
        have h1 := ih t (hr t (List.mem_cons_self ..)) (fitss_all hf.2 t (hr t (List.mem_cons_self ..))) q
        have h2 := ihr (fun x hx => hr x (List.mem_cons_of_mem _ hx)) (q + (t.laid F q).length)
        simp only [List.length_append, List.length_cons] at *
        omega
    have h3 := hk l (fun _ h => h) (p + (leadW k n l.length).length + l.length)
    rw [laid_mk, wordsR_mk]
    simp only [List.length_append, kids_length]
    have hl := hf.1
    simp only [fitB, decide_eq_true_eq] at hl
    cases hh : hasL k with
    | false =>
      have hl0 := fit_noL hf.1 hh
      have : l = [] := List.eq_nil_of_length_eq_zero hl0
      subst this
      rw [kids_nil]
      simp only [hasL, decide_eq_false_iff_not] at hh
      rw [if_neg (by simp)]
      simp only [leadW, ownW]
      rw [if_neg (by omega), if_neg (by omega), if_neg (by omega)]
      rfl
    | true =>
      simp only [hasL, decide_eq_true_eq] at hh
      rw [if_pos rfl]
      simp only [ownW]
      rcases hh with rfl | rfl | rfl
      · simp only [leadW] at h3 ⊢
        simp at h3 ⊢
        omega
      · simp only [leadW] at h3 ⊢
        simp at h3 ⊢
        omega
      · simp only [leadW] at h3 ⊢
        simp at h3 ⊢
        omega
theorem flat_length (F : List ByteArray) {T : Tm} (h : T.fits = true) : ((T.flat F).length : Int) = T.wordsR := by
  rw [Tm.flat, List.length_cons]
  have := laid_length F T h 1
  omega

mutual
/-- All atoms of a term get numbers; what they are then. -/
def Tm.nums : Tm → List ByteArray → Bool × List ByteArray
  | .mk k _ s l, L => if k = 2 then (decide ((put L s).2.1 = 0), (put L s).2.2) else numss l L
def numss : List Tm → List ByteArray → Bool × List ByteArray
  | [], L => (true, L)
  | t :: r, L => if (t.nums L).1 = true then numss r (t.nums L).2 else (false, (t.nums L).2)
end
theorem nums_atom (n : Int) (s : ByteArray) (l : List Tm) (L : List ByteArray) : (Tm.mk 2 n s l).nums L = (decide ((put L s).2.1 = 0), (put L s).2.2) := by rw [Tm.nums, if_pos rfl]
theorem nums_other {k : Int} (h : k ≠ 2) (n : Int) (s : ByteArray) (l : List Tm) (L : List ByteArray) : (Tm.mk k n s l).nums L = numss l L := by rw [Tm.nums, if_neg h]
theorem numss_nil (L : List ByteArray) : numss [] L = (true, L) := by rw [numss]
theorem numss_cons (t : Tm) (r : List Tm) (L : List ByteArray) : numss (t :: r) L = if (t.nums L).1 = true then numss r (t.nums L).2 else (false, (t.nums L).2) := by rw [numss]
theorem numss_take : ∀ (l : List Tm) (L : List ByteArray) (i : Nat) (hi : i < l.length), (numss (l.take i) L).1 = true → numss (l.take (i + 1)) L = l[i].nums (numss (l.take i) L).2
  | t :: r, L, 0, hi, _ => by
    rw [List.take_zero, numss_nil, List.take_succ_cons, List.take_zero, numss_cons]
    simp only [numss_nil, List.getElem_cons_zero]
    split
    · rename_i h
      rw [← h]
    · rename_i h
      rw [Bool.not_eq_true] at h
      rw [← h]
  | t :: r, L, i + 1, hi, h => by
    rw [List.take_succ_cons, numss_cons] at h ⊢
    by_cases ht : (t.nums L).1 = true
    · rw [if_pos ht] at h ⊢
      rw [List.take_succ_cons, numss_cons, if_pos ht]
      exact numss_take r _ i (by simpa using hi) h
    · rw [if_neg ht] at h
      cases h
theorem numss_take_no : ∀ (l : List Tm) (L : List ByteArray) (i : Nat), (numss (l.take i) L).1 = false → numss l L = numss (l.take i) L
  | [], L, i, h => by simp
  | t :: r, L, 0, h => by rw [List.take_zero, numss_nil] at h; cases h
  | t :: r, L, i + 1, h => by
    rw [List.take_succ_cons, numss_cons] at h ⊢
    rw [numss_cons]
    by_cases ht : (t.nums L).1 = true
    · rw [if_pos ht] at h ⊢
      rw [if_pos ht]
      exact numss_take_no r _ i h
    · rw [if_neg ht, if_neg ht]
theorem Ext.nums (T : Tm) : ∀ L, Ext L (T.nums L).2 := by
  induction T using Tm.induct with
  | h k n s l ih =>
    intro L
    by_cases hk : k = 2
    · subst hk
      rw [nums_atom]
      exact Ext.put L s
    · rw [nums_other hk]
      have : ∀ (r : List Tm), (∀ t ∈ r, t ∈ l) → ∀ L, Ext L (numss r L).2 := by
        intro r
        induction r with
        | nil => intro _ L; rw [numss_nil]; exact Ext.refl L
        | cons t r ihr =>
          intro hr L
          rw [numss_cons]
          split
          · exact (ih t (hr t (List.mem_cons_self ..)) L).trans (ihr (fun x hx => hr x (List.mem_cons_of_mem _ hx)) _)
          · exact ih t (hr t (List.mem_cons_self ..)) L
      exact this l (fun _ h => h) L
theorem Ext.numss : ∀ (l : List Tm) (L : List ByteArray), Ext L (numss l L).2
  | [], L => by rw [numss_nil]; exact Ext.refl L
  | t :: r, L => by
    rw [numss_cons]
    split
    · exact (Ext.nums t L).trans (Ext.numss r _)
    · exact Ext.nums t L
/-- A property of tables that putting keeps is kept. -/
theorem nums_keeps {P : List ByteArray → Prop} (hP : ∀ L s, P L → P (put L s).2.2) (T : Tm) : ∀ L, P L → P (T.nums L).2 := by
  induction T using Tm.induct with
  | h k n s l ih =>
    intro L hL
    by_cases hk : k = 2
    · subst hk
      rw [nums_atom]
      exact hP L s hL
    · rw [nums_other hk]
      have : ∀ (r : List Tm), (∀ t ∈ r, t ∈ l) → ∀ L, P L → P (numss r L).2 := by
        intro r
        induction r with
        | nil => intro _ L hL; rw [numss_nil]; exact hL
        | cons t r ihr =>
          intro hr L hL
          rw [numss_cons]
          split
          · exact ihr (fun x hx => hr x (List.mem_cons_of_mem _ hx)) _ (ih t (hr t (List.mem_cons_self ..)) L hL)
          · exact ih t (hr t (List.mem_cons_self ..)) L hL
      exact this l (fun _ h => h) L hL

/-- Each text of a list is at just one place. -/
def Nub (L : List ByteArray) : Prop := ∀ i (h : i < L.length), pos L[i] L = some i
theorem Nub.nil : Nub [] := fun i h => by cases h
theorem Nub.put {L : List ByteArray} (h : Nub L) (s : ByteArray) : Nub (put L s).2.2 := by
  rcases put_cases L s with ⟨i, _, _, e⟩ | ⟨_, hp, e⟩ | ⟨e', _, _, e⟩
  · rw [e]; exact h
  · rw [e]
    intro i hi
    simp only [List.length_append, List.length_singleton] at hi
    rw [pos_snoc]
    by_cases hl : i < L.length
    · simp only [List.getElem_append_left hl, h i hl]
      rfl
    · have : i = L.length := by omega
      subst this
      simp [hp]
  · rw [e]; exact h

mutual
/-- All atoms of a term have numbers. -/
def Tm.known (F : List ByteArray) : Tm → Prop
  | .mk k _ s l => (k = 2 → ∃ i, pos s F = some i) ∧ knowns F l
def knowns (F : List ByteArray) : List Tm → Prop
  | [] => True
  | t :: r => t.known F ∧ knowns F r
end
theorem known_mk (F : List ByteArray) (k n : Int) (s : ByteArray) (l : List Tm) : (Tm.mk k n s l).known F ↔ (k = 2 → ∃ i, pos s F = some i) ∧ knowns F l := by rw [Tm.known]
theorem knowns_all {F : List ByteArray} : ∀ {l : List Tm}, knowns F l → ∀ t ∈ l, t.known F
  | [], _, t, ht => by cases ht
  | x :: r, h, t, ht => by
    rw [knowns] at h
    rcases List.mem_cons.1 ht with rfl | ht
    · exact h.1
    · exact knowns_all h.2 t ht
theorem knowns_of {F : List ByteArray} : ∀ {l : List Tm}, (∀ t ∈ l, t.known F) → knowns F l
  | [], _ => by rw [knowns]; trivial
  | x :: r, h => by
    rw [knowns]
    exact ⟨h x (List.mem_cons_self ..), knowns_of fun t ht => h t (List.mem_cons_of_mem _ ht)⟩
theorem nums_known (T : Tm) : T.fits = true → ∀ L F, (T.nums L).1 = true → Ext (T.nums L).2 F → T.known F := by
  induction T using Tm.induct with
  | h k n s l ih =>
    intro hf L F h1 hF
    rw [fits_mk, Bool.and_eq_true] at hf
    rw [known_mk]
    by_cases hk : k = 2
    · subst hk
      rw [nums_atom] at h1 hF
      have h0 : (put L s).2.1 = 0 := by simpa using h1
      refine ⟨fun _ => ⟨_, hF _ _ (put_pos h0)⟩, ?_⟩
      have hl := fit_noL hf.1 rfl
      obtain rfl : l = [] := List.eq_nil_of_length_eq_zero hl
      rw [knowns]
      trivial
    · rw [nums_other hk] at h1 hF
      refine ⟨fun e => absurd e hk, ?_⟩
      have : ∀ (r : List Tm), (∀ t ∈ r, t ∈ l) → ∀ L, (numss r L).1 = true → Ext (numss r L).2 F → knowns F r := by
        intro r
        induction r with
        | nil => intro _ L _ _; rw [knowns]; trivial
        | cons t r ihr =>
          intro hr L h1 h2
          rw [numss_cons] at h1 h2
          by_cases ht : (t.nums L).1 = true
          · rw [if_pos ht] at h1 h2
            rw [knowns]
            have hm := hr t (List.mem_cons_self ..)
            exact ⟨ih t hm (fitss_all hf.2 t hm) L F ht ((Ext.numss r _).trans h2), ihr (fun x hx => hr x (List.mem_cons_of_mem _ hx)) _ h1 h2⟩
          · rw [if_neg ht] at h1
            cases h1
      exact this l (fun _ h => h) L h1 hF
/-- A term whose atoms have numbers puts none. -/
theorem known_nums (F : List ByteArray) (T : Tm) : T.fits = true → T.known F → T.nums F = (true, F) := by
  induction T using Tm.induct with
  | h k n s l ih =>
    intro hf hk
    rw [fits_mk, Bool.and_eq_true] at hf
    rw [known_mk] at hk
    by_cases h2 : k = 2
    · subst h2
      obtain ⟨i, hi⟩ := hk.1 rfl
      have hs : s.size ≤ 64 := by
        have := hf.1
        simp only [fitB, decide_eq_true_eq] at this
        omega
      rw [nums_atom, put_there hs hi]
      rfl
    · rw [nums_other h2]
      have : ∀ (r : List Tm), (∀ t ∈ r, t ∈ l) → numss r F = (true, F) := by
        intro r
        induction r with
        | nil => intro _; rw [numss_nil]
        | cons t r ihr =>
          intro hr
          have hm := hr t (List.mem_cons_self ..)
          have e := ih t hm (fitss_all hf.2 t hm) (knowns_all hk.2 t hm)
          rw [numss_cons, e, if_pos rfl]
          exact ihr fun x hx => hr x (List.mem_cons_of_mem _ hx)
      exact this l fun _ h => h
end Go.Proofs.YtaiiicmldogjoaaDoor
