/-
  A heap's words, plainly: what is boxed in them, which term a word is, how they are laid one behind the other.
-/
import Derived.Test.YtaiiicmldogjoaaDoorZFlatPlain
import Derived.Test.YtaiiicmldogjoaaDoorZFlatRead
namespace Go.Proofs.YtaiiicmldogjoaaDoor
open Go.RowKit

/-- The kinds beside the words of one that is boxed. -/
def kbox (k : Int) (n : Nat) : List Int := k :: List.replicate (n - 1) 0
mutual
/-- The kinds beside the words that a term has laid. -/
def Tm.kds : Tm → List Int
  | .mk k n _ l => (if hasL k = true then kbox k ((leadW k n l.length).length + l.length) else []) ++ kdss l
def kdss : List Tm → List Int
  | [] => []
  | t :: r => t.kds ++ kdss r
end
theorem kds_mk (k n : Int) (s : ByteArray) (l : List Tm) : (Tm.mk k n s l).kds = (if hasL k = true then kbox k ((leadW k n l.length).length + l.length) else []) ++ kdss l := by rw [Tm.kds]
theorem kdss_cons (t : Tm) (r : List Tm) : kdss (t :: r) = t.kds ++ kdss r := by rw [kdss]
theorem kdss_nil : kdss [] = [] := by rw [kdss]

theorem hasL_iff (k : Int) : hasL k = true ↔ k = 5 ∨ k = 7 ∨ k = 9 := by simp only [hasL, decide_eq_true_eq]
theorem fit_len {k n : Int} {s m : Nat} (hk : hasL k = true) (h : fitB k n s m = true) : 1 ≤ (leadW k n m).length + m ∧ (leadW k n m).length + m ≤ 65 ∧ s = 0 ∧ 0 ≤ n ∧ n ≤ 1073741824 ∧ m ≤ 64 := by
  rw [hasL_iff] at hk
  simp only [fitB, decide_eq_true_eq] at h
  rcases hk with rfl | rfl | rfl
  · simp [leadW]; omega
  · simp [leadW]; omega
  · simp [leadW]; omega
theorem kbox_length {k : Int} {n : Nat} (h : 1 ≤ n) : (kbox k n).length = n := by simp [kbox]; omega
theorem kbox_at {k : Int} {n i : Nat} {x : Int} (h : (kbox k n)[i]? = some x) (hx : x ≠ 0) : i = 0 ∧ x = k := by
  cases i with
  | zero => simp [kbox] at h; exact ⟨rfl, h.symm⟩
  | succ i =>
    simp only [kbox, List.getElem?_cons_succ, List.getElem?_replicate] at h
    split at h
    · exact absurd (Option.some.inj h).symm hx
    · cases h

/-- One of a kind, with a number, is boxed at a place, its parts' words are ys. -/
structure Bx (xs ks : List Int) (k n : Int) (p : Nat) (ys : List Int) : Prop where
  kind : ks[p]? = some k
  has : hasL k = true
  fit : fitB k n 0 ys.length = true
  at_ : ∃ rest, xs.drop p = leadW k n ys.length ++ ys ++ rest
theorem Bx.lt {xs ks : List Int} {k n : Int} {p : Nat} {ys : List Int} (h : Bx xs ks k n p ys) : p + ((leadW k n ys.length).length + ys.length) ≤ xs.length ∧ p < ks.length := by
  obtain ⟨rest, e⟩ := h.at_
  have h1 := congrArg List.length e
  have h2 := fit_len h.has h.fit
  simp only [List.length_drop, List.length_append] at h1
  exact ⟨by omega, (List.getElem?_eq_some_iff.1 h.kind).1⟩
theorem Bx.mono {xs ks : List Int} {k n : Int} {p : Nat} {ys : List Int} (h : Bx xs ks k n p ys) (zs zs' : List Int) : Bx (xs ++ zs) (ks ++ zs') k n p ys := by
  obtain ⟨rest, e⟩ := h.at_
  refine ⟨?_, h.has, h.fit, rest ++ zs, ?_⟩
  · rw [List.getElem?_append_left h.lt.2]; exact h.kind
  · rw [List.drop_append_of_le_length (by have := h.lt.1; omega), e, List.append_assoc _ rest zs]
theorem Bx.last {xs ks : List Int} {k n : Int} {ys : List Int} (hl : ks.length = xs.length) (hk : hasL k = true) (hf : fitB k n 0 ys.length = true) (zs zs' : List Int) :
    Bx (xs ++ (leadW k n ys.length ++ ys) ++ zs) (ks ++ kbox k ((leadW k n ys.length).length + ys.length) ++ zs') k n xs.length ys := by
  refine ⟨?_, hk, hf, zs, ?_⟩
  · rw [List.append_assoc, ← hl, List.getElem?_append_right (Nat.le_refl _), Nat.sub_self]
    rfl
  · rw [List.append_assoc, List.drop_left]

mutual
/-- A word is a term, of a table's texts and a heap's words. -/
def Den (L : List ByteArray) (xs ks : List Int) : Tm → Int → Prop
  | .mk k n s l, w => fitB k n s.size l.length = true ∧ (if hasL k = true then ∃ (p : Nat) (ys : List Int), w = Wd.packW k p ∧ p ≤ 1073741824 ∧ Bx xs ks k n p ys ∧ Dens L xs ks l ys
      else if k = 2 then ∃ i : Nat, L[i]? = some s ∧ i ≤ 4096 ∧ w = Wd.packW 2 i else w = Wd.packW k n)
def Dens (L : List ByteArray) (xs ks : List Int) : List Tm → List Int → Prop
  | [], ys => ys = []
  | t :: r, ys => ∃ y z, ys = y :: z ∧ Den L xs ks t y ∧ Dens L xs ks r z
end
section
variable {L L' : List ByteArray} {xs ks : List Int}
theorem den_mk {k n : Int} {s : ByteArray} {l : List Tm} {w : Int} : Den L xs ks (.mk k n s l) w ↔ fitB k n s.size l.length = true ∧ (if hasL k = true then ∃ (p : Nat) (ys : List Int), w = Wd.packW k p ∧ p ≤ 1073741824 ∧ Bx xs ks k n p ys ∧ Dens L xs ks l ys
      else if k = 2 then ∃ i : Nat, L[i]? = some s ∧ i ≤ 4096 ∧ w = Wd.packW 2 i else w = Wd.packW k n) := by rw [Den]
theorem dens_nil {ys : List Int} : Dens L xs ks [] ys ↔ ys = [] := by rw [Dens]
theorem dens_cons {t : Tm} {r : List Tm} {ys : List Int} : Dens L xs ks (t :: r) ys ↔ ∃ y z, ys = y :: z ∧ Den L xs ks t y ∧ Dens L xs ks r z := by rw [Dens]
theorem Dens.length : ∀ {l : List Tm} {ys : List Int}, Dens L xs ks l ys → ys.length = l.length
  | [], ys, h => by rw [dens_nil] at h; rw [h]; rfl
  | t :: r, ys, h => by
    obtain ⟨y, z, rfl, _, h⟩ := dens_cons.1 h
    simp [Dens.length h]
theorem Dens.at_ : ∀ {l : List Tm} {ys : List Int}, Dens L xs ks l ys → ∀ i (h : i < l.length) (h' : i < ys.length), Den L xs ks l[i] ys[i]
  | [], _, _, i, h, _ => by cases h
  | t :: r, ys, hd, i, h, h' => by
    obtain ⟨y, z, rfl, h1, h2⟩ := dens_cons.1 hd
    cases i with
    | zero => exact h1
    | succ i => exact Dens.at_ h2 i (by simpa using h) (by simpa using h')
theorem Dens.mem : ∀ {l : List Tm} {ys : List Int}, Dens L xs ks l ys → ∀ y ∈ ys, ∃ t ∈ l, Den L xs ks t y
  | [], ys, hd, y, hy => by rw [dens_nil] at hd; subst hd; cases hy
  | t :: r, ys, hd, y, hy => by
    obtain ⟨y', z, rfl, h1, h2⟩ := dens_cons.1 hd
    rcases List.mem_cons.1 hy with rfl | hy
    · exact ⟨t, List.mem_cons_self .., h1⟩
    · obtain ⟨t', ht, h'⟩ := Dens.mem h2 y hy
      exact ⟨t', List.mem_cons_of_mem _ ht, h'⟩
/-- What keeps boxes and texts keeps terms. -/
theorem Den.keep {xs' ks' : List Int} (hL : ∀ (i : Nat) (s : ByteArray), L[i]? = some s → L'[i]? = some s) (hb : ∀ k n p ys, Bx xs ks k n p ys → Bx xs' ks' k n p ys) (T : Tm) : ∀ w, Den L xs ks T w → Den L' xs' ks' T w := by
  induction T using Tm.induct with
  | h k n s l ih =>
    intro w h
    rw [den_mk] at h ⊢
    refine ⟨h.1, ?_⟩
    have h := h.2
    split at h
    · rename_i hk
      rw [if_pos hk]
      obtain ⟨p, ys, rfl, hp, hx, hd⟩ := h
      refine ⟨p, ys, rfl, hp, hb _ _ _ _ hx, ?_⟩
      have : ∀ (r : List Tm), (∀ t ∈ r, t ∈ l) → ∀ ys, Dens L xs ks r ys → Dens L' xs' ks' r ys := by
        intro r
        induction r with
        | nil => intro _ ys h; rw [dens_nil] at h ⊢; exact h
        | cons t r ihr =>
          intro hr ys h
          obtain ⟨y, z, rfl, h1, h2⟩ := dens_cons.1 h
          exact dens_cons.2 ⟨y, z, rfl, ih t (hr t (List.mem_cons_self ..)) _ h1, ihr (fun x hx => hr x (List.mem_cons_of_mem _ hx)) _ h2⟩
      exact this l (fun _ h => h) ys hd
    · rename_i hk
      rw [if_neg hk]
      split at h
      · rename_i h2
        rw [if_pos h2]
        obtain ⟨i, hi, hi2, rfl⟩ := h
        exact ⟨i, hL _ _ hi, hi2, rfl⟩
      · rename_i h2
        rw [if_neg h2]
        exact h
theorem pre_at {L L' : List ByteArray} (h : L <+: L') (i : Nat) (s : ByteArray) (hi : L[i]? = some s) : L'[i]? = some s := by
  obtain ⟨m, rfl⟩ := h
  rw [List.getElem?_append_left (List.getElem?_eq_some_iff.1 hi).1]
  exact hi
theorem Den.mono {T : Tm} {w : Int} (h : Den L xs ks T w) (hL : L <+: L') (zs zs' : List Int) : Den L' (xs ++ zs) (ks ++ zs') T w :=
  Den.keep (pre_at hL) (fun _ _ _ _ hb => hb.mono zs zs') T w h
theorem put_pre (L : List ByteArray) (s : ByteArray) : L <+: (put L s).2.2 := by
  rcases put_cases L s with ⟨i, _, _, h⟩ | ⟨_, _, h⟩ | ⟨e, _, _, h⟩
  · rw [h]; exact List.prefix_refl L
  · rw [h]; exact List.prefix_append L [s]
  · rw [h]; exact List.prefix_refl L
theorem nums_pre (T : Tm) (L : List ByteArray) : L <+: (T.nums L).2 :=
  nums_keeps (P := fun M => L <+: M) (fun M s h => List.IsPrefix.trans h (put_pre M s)) T L (List.prefix_refl L)
theorem Den.fits (T : Tm) : ∀ w, Den L xs ks T w → T.fits = true := by
  induction T using Tm.induct with
  | h k n s l ih =>
    intro w h
    rw [den_mk] at h
    rw [fits_mk, Bool.and_eq_true]
    refine ⟨h.1, ?_⟩
    by_cases hk : hasL k = true
    · have h2 := h.2
      rw [if_pos hk] at h2
      obtain ⟨p, ys, rfl, hp, hx, hd⟩ := h2
      refine fitss_of fun t ht => ?_
      obtain ⟨i, hi, rfl⟩ := List.getElem_of_mem ht
      exact ih _ (List.getElem_mem hi) _ (hd.at_ i hi (by rw [hd.length]; exact hi))
    · have := fit_noL h.1 (by simpa using hk)
      rw [List.eq_nil_of_length_eq_zero this, fitss]

theorem kds_length (F : List ByteArray) (T : Tm) : T.fits = true → ∀ p, T.kds.length = (T.laid F p).length := by
  induction T using Tm.induct with
  | h k n s l ih =>
    intro hf p
    rw [fits_mk, Bool.and_eq_true] at hf
    have hk : ∀ (r : List Tm), (∀ t ∈ r, t ∈ l) → ∀ q, (kdss r).length = (kids F r q).2.length := by
      intro r
      induction r with
      | nil => intro _ q; rw [kids_nil, kdss_nil]
      | cons t r ihr =>
        intro hr q
        rw [kids_cons, kdss_cons, List.length_append, List.length_append, ih t (hr t (List.mem_cons_self ..)) (fitss_all hf.2 t (hr t (List.mem_cons_self ..))) q, ihr (fun x hx => hr x (List.mem_cons_of_mem _ hx))]
    rw [kds_mk, laid_mk, List.length_append, List.length_append, List.length_append, kids_length, hk l (fun _ h => h)]
    split
    · rename_i hh
      have := fit_len hh hf.1
      rw [kbox_length this.1]
    · rename_i hh
      have hl0 := fit_noL hf.1 (by simpa using hh)
      rw [hasL_iff] at hh
      rw [hl0, leadW, if_neg (by omega), if_neg (by omega)]
      simp
theorem size_empty0 {s : ByteArray} (h : s.size = 0) : s = ⟨#[]⟩ := by
  obtain ⟨a⟩ := s
  have : a.size = 0 := h
  rw [Array.eq_empty_of_size_eq_zero this]
/-- What is put is there. -/
theorem put_den (hL : L.length ≤ 4096) (T : Tm) : T.fits = true → T.known L → ∀ (xs ks : List Int), ks.length = xs.length → xs.length + (T.laid L xs.length).length ≤ 1073741824 → ∀ zs zs' : List Int, Den L (xs ++ T.laid L xs.length ++ zs) (ks ++ T.kds ++ zs') T (T.own L xs.length) := by
  induction T using Tm.induct with
  | h k n s l ih =>
    intro hf hn xs ks hl hle zs zs'
    rw [fits_mk, Bool.and_eq_true] at hf
    rw [known_mk] at hn
    rw [den_mk, own_mk]
    refine ⟨hf.1, ?_⟩
    by_cases hk : hasL k = true
    · rw [if_pos hk]
      have hfl := fit_len hk hf.1
      have hk2 : k ≠ 2 := by rw [hasL_iff] at hk; omega
      rw [laid_mk] at hle ⊢
      obtain ⟨q, hq⟩ : ∃ q, xs.length + (leadW k n l.length).length + l.length = q := ⟨_, rfl⟩
      rw [hq] at hle ⊢
      have hkl := kids_length L l q
      have hb := Bx.last (xs := xs) (ks := ks) (k := k) (n := n) (ys := (kids L l q).1) hl hk (by rw [hkl, ← hfl.2.2.1]; exact hf.1) ((kids L l q).2 ++ zs) (kdss l ++ zs')
      rw [hkl] at hb
      refine ⟨xs.length, (kids L l q).1, ?_, by omega, ?_, ?_⟩
      · rw [numF, if_neg hk2, if_pos hk]
      · rw [kds_mk, if_pos hk]
        simpa only [List.append_assoc] using hb
      · have : ∀ (r : List Tm), (∀ t ∈ r, t ∈ l) → ∀ (xs1 ks1 : List Int), ks1.length = xs1.length → xs1.length + (kids L r xs1.length).2.length ≤ 1073741824 →
            Dens L (xs1 ++ (kids L r xs1.length).2 ++ zs) (ks1 ++ kdss r ++ zs') r (kids L r xs1.length).1 := by
          intro r
          induction r with
          | nil => intro _ xs1 ks1 _ _; rw [dens_nil, kids_nil]
          | cons t r ihr =>
            intro hr xs1 ks1 h1 h2
            have ht := hr t (List.mem_cons_self ..)
            have htf := fitss_all hf.2 t ht
            rw [kids_cons] at h2 ⊢
            rw [kdss_cons, dens_cons]
            simp only [List.length_append] at h2
            refine ⟨_, _, rfl, ?_, ?_⟩
            · have := ih t ht htf (knowns_all hn.2 t ht) xs1 ks1 h1 (by omega) ((kids L r (xs1.length + (t.laid L xs1.length).length)).2 ++ zs) (kdss r ++ zs')
              simpa only [List.append_assoc] using this
            · have := ihr (fun x hx => hr x (List.mem_cons_of_mem _ hx)) (xs1 ++ t.laid L xs1.length) (ks1 ++ t.kds) (by rw [List.length_append, List.length_append, kds_length L t htf xs1.length, h1]) (by rw [List.length_append]; omega)
              rw [List.length_append] at this
              simpa only [List.append_assoc] using this
        have h3 := this l (fun _ h => h) (xs ++ (leadW k n l.length ++ (kids L l q).1)) (ks ++ kbox k ((leadW k n l.length).length + l.length))
          (by rw [List.length_append, List.length_append, List.length_append, kbox_length hfl.1, hkl, hl]) (by
            simp only [List.length_append, hkl] at hle ⊢
            rw [show xs.length + ((leadW k n l.length).length + l.length) = q by omega]
            omega)
        rw [List.length_append, List.length_append, hkl, ← Nat.add_assoc, hq] at h3
        rw [kds_mk, if_pos hk]
        simpa only [List.append_assoc] using h3
    · rw [if_neg hk]
      by_cases h2 : k = 2
      · rw [if_pos h2]
        obtain ⟨i, hi⟩ := hn.1 h2
        obtain ⟨hlt, hs⟩ := pos_some hi
        refine ⟨i, by rw [List.getElem?_eq_getElem hlt, hs], by omega, ?_⟩
        rw [numF, if_pos h2, posI, hi, h2]
      · rw [if_neg h2, numF, if_neg h2, if_neg hk]
end
end Go.Proofs.YtaiiicmldogjoaaDoor

/-
  Heaps of boxes one behind the other: no two of them lie in one place, and all of them have all words.
-/
namespace Go.Proofs.YtaiiicmldogjoaaDoor
open Go.RowKit

/-- Boxes one behind the other. -/
inductive Wf : List Int → List Int → Prop
  | nil : Wf [] []
  | snoc {xs ks : List Int} (k n : Int) (ys : List Int) : Wf xs ks → hasL k = true → fitB k n 0 ys.length = true → Wf (xs ++ (leadW k n ys.length ++ ys)) (ks ++ kbox k ((leadW k n ys.length).length + ys.length))
theorem Wf.len {xs ks : List Int} (h : Wf xs ks) : ks.length = xs.length := by
  induction h with
  | nil => rfl
  | snoc k n ys _ hk hf ih => rw [List.length_append, List.length_append, kbox_length (fit_len hk hf).1, ih, List.length_append]
theorem Wf.bx {xs ks : List Int} (h : Wf xs ks) : ∀ (p : Nat) (k : Int), ks[p]? = some k → k ≠ 0 → ∃ n ys, Bx xs ks k n p ys := by
  induction h with
  | nil => intro p k h; cases h
  | @snoc xs ks k n ys hw hk hf ih =>
    intro p j hp hj
    by_cases hlt : p < ks.length
    · rw [List.getElem?_append_left hlt] at hp
      obtain ⟨n', ys', hb⟩ := ih p j hp hj
      exact ⟨n', ys', hb.mono _ _⟩
    · rw [List.getElem?_append_right (by omega)] at hp
      obtain ⟨h0, rfl⟩ := kbox_at hp hj
      have hpe : p = xs.length := by have := hw.len; omega
      subst hpe
      have := Bx.last (n := n) hw.len hk hf [] []
      rw [List.append_nil, List.append_nil] at this
      exact ⟨n, ys, this⟩
theorem head_num {k n : Int} {m : Nat} (hk : hasL k = true) (hf : fitB k n 0 m = true) (h9 : k ≠ 9) : ∃ x, leadW k n m = [x] ∧ Wd.unN x % 128 = m ∧ Wd.unK x = (if k = 7 then 10 else 11) ∧ Wd.unN x / 128 = n ∧ Wd.unB x = true ∧ Wd.boxedB x = false ∧ 0 ≤ x ∧ x < 18446744073709551616 ∧ 0 ≤ Wd.unN x ∧ Wd.unE x = 0 := by
  have hl := fit_len hk hf
  rw [hasL_iff] at hk
  simp only [fitB, decide_eq_true_eq] at hf
  rcases hk with rfl | rfl | rfl
  · have ho : Wd.okB 11 (n * 128 + m) = true := by rw [Wd.okB_iff]; simp [Wd.lo, Wd.hi]; omega
    obtain ⟨h1, h2, h3, h4⟩ := Wd.back1K 11 (n * 128 + m) ho
    have hbd := Wd.packW_bd 11 (n * 128 + m)
    refine ⟨Wd.packW 11 (n * 128 + m), by simp [leadW], by rw [h3]; omega, by rw [h2]; rfl, by rw [h3]; omega, h1, ?_, hbd.1, hbd.2, by rw [h3]; omega, h4⟩
    have := (Wd.back1 11 (n * 128 + m) ho).1
    rw [Wd.kd] at this
    simp only [Wd.boxedB, decide_eq_false_iff_not]
    omega
  · have ho : Wd.okB 10 m = true := by rw [Wd.okB_iff]; simp [Wd.lo, Wd.hi]; omega
    obtain ⟨h1, h2, h3, h4⟩ := Wd.back1K 10 m ho
    have hbd := Wd.packW_bd 10 m
    refine ⟨Wd.packW 10 m, by simp [leadW], by rw [h3]; omega, by rw [h2]; rfl, by rw [h3]; omega, h1, ?_, hbd.1, hbd.2, by rw [h3]; omega, h4⟩
    have := (Wd.back1 10 m ho).1
    rw [Wd.kd] at this
    simp only [Wd.boxedB, decide_eq_false_iff_not]
    omega
  · exact absurd rfl h9

/-- How many words are boxed at a place, of a kind. -/
def boxN (xs : List Int) (k : Int) (p : Nat) : Nat := if k = 9 then 2 else 1 + (Wd.unN (xs[p]?.getD 0) % 128).toNat
/-- The words boxed at a place. -/
def bxw (xs ks : List Int) (p : Nat) : List Int := (xs.drop p).take (boxN xs (ks[p]?.getD 0) p)
theorem Bx.boxN {xs ks : List Int} {k n : Int} {p : Nat} {ys : List Int} (h : Bx xs ks k n p ys) : boxN xs k p = (leadW k n ys.length).length + ys.length := by
  unfold Go.Proofs.YtaiiicmldogjoaaDoor.boxN
  obtain ⟨rest, e⟩ := h.at_
  by_cases h9 : k = 9
  · rw [if_pos h9, leadW, if_neg (by omega), if_neg (by omega)]
    have := h.fit
    simp only [fitB, decide_eq_true_eq] at this
    simp only [List.length_nil]
    omega
  · rw [if_neg h9]
    obtain ⟨x, hx, hm, _⟩ := head_num h.has h.fit h9
    rw [hx] at e ⊢
    have : xs[p]? = some x := by
      have := congrArg (·[0]?) e
      simpa [List.getElem?_drop] using this
    rw [this, Option.getD_some, hm]
    simp
theorem Bx.words {xs ks : List Int} {k n : Int} {p : Nat} {ys : List Int} (h : Bx xs ks k n p ys) : bxw xs ks p = leadW k n ys.length ++ ys := by
  rw [bxw, h.kind, Option.getD_some, h.boxN]
  obtain ⟨rest, e⟩ := h.at_
  rw [e, ← List.length_append, List.take_left]

theorem erase_flat {f : Nat → List Int} {q : Nat} : ∀ {M : List Nat}, q ∈ M → (M.flatMap f).length = (f q).length + ((M.erase q).flatMap f).length
  | [], h => by cases h
  | a :: r, h => by
    by_cases e : a = q
    · subst e; simp
    · have h' : q ∈ r := by rcases List.mem_cons.1 h with h | h; exact absurd h.symm e; exact h
      rw [List.erase_cons_tail (by simpa using e), List.flatMap_cons, List.flatMap_cons, List.length_append, List.length_append, erase_flat h']
      omega
theorem flat_congr {f g : Nat → List Int} : ∀ {M : List Nat}, (∀ p ∈ M, f p = g p) → M.flatMap f = M.flatMap g
  | [], _ => rfl
  | a :: r, h => by rw [List.flatMap_cons, List.flatMap_cons, h a (List.mem_cons_self ..), flat_congr fun p hp => h p (List.mem_cons_of_mem _ hp)]
/-- Boxes have no more words than there are. -/
theorem Wf.sum {xs ks : List Int} (h : Wf xs ks) : ∀ M : List Nat, M.Nodup → (∀ p ∈ M, ∃ k, ks[p]? = some k ∧ k ≠ 0) → (M.flatMap (bxw xs ks)).length ≤ xs.length := by
  induction h with
  | nil =>
    intro M _ hM
    cases M with
    | nil => exact Nat.le_refl _
    | cons p r => obtain ⟨k, h, _⟩ := hM p (List.mem_cons_self ..); cases h
  | @snoc xs ks k n ys hw hk hf ih =>
    intro M hn hM
    have old : ∀ N : List Nat, N.Nodup → (∀ p ∈ N, p ∈ M ∧ p ≠ xs.length) → (N.flatMap (bxw (xs ++ (leadW k n ys.length ++ ys)) (ks ++ kbox k ((leadW k n ys.length).length + ys.length)))).length ≤ xs.length := by
      intro N hN hp
      have hks : ∀ p ∈ N, ∃ k, ks[p]? = some k ∧ k ≠ 0 := fun p hpN => by
        obtain ⟨j, hj, hj0⟩ := hM p (hp p hpN).1
        by_cases hlt : p < ks.length
        · rw [List.getElem?_append_left hlt] at hj
          exact ⟨j, hj, hj0⟩
        · rw [List.getElem?_append_right (by omega)] at hj
          have := (kbox_at hj hj0).1
          have := (hp p hpN).2
          have := hw.len
          omega
      refine Nat.le_trans (Nat.le_of_eq ?_) (ih N hN hks)
      rw [flat_congr fun p hpN => ?_]
      obtain ⟨j, hj, hj0⟩ := hks p hpN
      obtain ⟨n', ys', hb⟩ := hw.bx p j hj hj0
      rw [hb.words, (hb.mono _ _).words]
    by_cases hq : xs.length ∈ M
    · rw [erase_flat hq]
      have h1 := old (M.erase xs.length) (hn.erase _) fun p hp => ⟨List.mem_of_mem_erase hp, fun e => by subst e; exact hn.not_mem_erase hp⟩
      have h2 := Bx.last (n := n) hw.len hk hf [] []
      rw [List.append_nil, List.append_nil] at h2
      rw [h2.words]
      simp only [List.length_append] at h1 ⊢
      omega
    · have h1 := old M hn fun p hp => ⟨hp, fun e => hq (e ▸ hp)⟩
      simp only [List.length_append] at h1 ⊢
      omega
/-- What is put is boxes behind boxes. -/
theorem put_wf (F : List ByteArray) (T : Tm) : T.fits = true → ∀ (q : Nat) {xs ks : List Int}, Wf xs ks → Wf (xs ++ T.laid F q) (ks ++ T.kds) := by
  induction T using Tm.induct with
  | h k n s l ih =>
    intro hf q xs ks hw
    rw [fits_mk, Bool.and_eq_true] at hf
    have : ∀ (r : List Tm), (∀ t ∈ r, t ∈ l) → ∀ q {xs ks : List Int}, Wf xs ks → Wf (xs ++ (kids F r q).2) (ks ++ kdss r) := by
      intro r
      induction r with
      | nil => intro _ q xs ks h; rw [kids_nil, kdss_nil, List.append_nil, List.append_nil]; exact h
      | cons t r ihr =>
        intro hr q xs ks h
        have ht := hr t (List.mem_cons_self ..)
        have := ihr (fun x hx => hr x (List.mem_cons_of_mem _ hx)) (q + (t.laid F q).length) (ih t ht (fitss_all hf.2 t ht) q h)
        rw [kids_cons, kdss_cons]
        simpa only [List.append_assoc] using this
    rw [laid_mk, kds_mk]
    by_cases hk : hasL k = true
    · rw [if_pos hk]
      have hkl := kids_length F l (q + (leadW k n l.length).length + l.length)
      have h1 := Wf.snoc k n (kids F l (q + (leadW k n l.length).length + l.length)).1 hw hk (by rw [hkl, ← (fit_len hk hf.1).2.2.1]; exact hf.1)
      rw [hkl] at h1
      have h2 := this l (fun _ h => h) (q + (leadW k n l.length).length + l.length) h1
      simpa only [List.append_assoc] using h2
    · rw [if_neg hk]
      have hl0 := fit_noL hf.1 (by simpa using hk)
      obtain rfl := List.eq_nil_of_length_eq_zero hl0
      rw [hasL_iff] at hk
      rw [leadW, if_neg (by omega), if_neg (by omega), kids_nil, kdss_nil]
      simpa using hw
end Go.Proofs.YtaiiicmldogjoaaDoor

/-
  How a heap is collected, plainly: what is met is moved once, in the order in which it is met.
-/
namespace Go.Proofs.YtaiiicmldogjoaaDoor
open Go.RowKit

/-- The place of a boxed word. -/
def plc (w : Int) : Nat := (Wd.nm w).toNat
/-- A word is met: its place is noted, if it is boxed and not noted yet. -/
def visit (M : List Nat) (w : Int) : List Nat := if Wd.boxedB w = true ∧ plc w ∉ M then M ++ [plc w] else M
/-- All words that are met one behind the other: the roots, then those of what was moved. -/
def toks (f : Nat → List Int) (rs : List Int) (M : List Nat) : List Int := rs ++ M.flatMap f
/-- What is noted when j words have been met. -/
def scan (f : Nat → List Int) (rs : List Int) : Nat → List Nat
  | 0 => []
  | j + 1 => match (toks f rs (scan f rs j))[j]? with
    | none => scan f rs j
    | some w => visit (scan f rs j) w
/-- The new place of what was moved. -/
def off (f : Nat → List Int) : List Nat → Nat → Nat
  | [], _ => 0
  | q :: r, p => if q = p then 0 else (f q).length + off f r p
/-- A word behind the moving. -/
def tr (f : Nat → List Int) (M : List Nat) (w : Int) : Int := if Wd.boxedB w = true then Wd.packW (Wd.kd w) (off f M (plc w)) else w

section
variable {f : Nat → List Int} {rs : List Int} {M N : List Nat} {w : Int}
theorem visit_pre (M : List Nat) (w : Int) : M <+: visit M w := by
  rw [visit]
  split
  · exact List.prefix_append _ _
  · exact List.prefix_refl _
theorem visit_nodup (h : M.Nodup) (w : Int) : (visit M w).Nodup := by
  rw [visit]
  split
  · rename_i hw
    rw [List.nodup_append]
    refine ⟨h, by simp, fun a ha b hb => ?_⟩
    simp only [List.mem_singleton] at hb
    intro e
    subst e
    subst hb
    exact hw.2 ha
  · exact h
theorem visit_mem (hw : Wd.boxedB w = true) : plc w ∈ visit M w := by
  rw [visit]
  split
  · simp
  · rename_i h
    simpa [hw] using h
theorem scan_succ (f : Nat → List Int) (rs : List Int) (j : Nat) : scan f rs (j + 1) = match (toks f rs (scan f rs j))[j]? with
    | none => scan f rs j
    | some w => visit (scan f rs j) w := by rw [scan]
theorem scan_pre1 (f : Nat → List Int) (rs : List Int) (j : Nat) : scan f rs j <+: scan f rs (j + 1) := by
  rw [scan_succ]
  split
  · exact List.prefix_refl _
  · exact visit_pre _ _
theorem scan_pre (f : Nat → List Int) (rs : List Int) {i j : Nat} (h : i ≤ j) : scan f rs i <+: scan f rs j := by
  induction j with
  | zero => obtain rfl : i = 0 := by omega
            exact List.prefix_refl _
  | succ j ih =>
    rcases Nat.lt_or_ge i (j + 1) with h | h
    · exact (ih (by omega)).trans (scan_pre1 f rs j)
    · obtain rfl : i = j + 1 := by omega
      exact List.prefix_refl _
theorem scan_nodup (f : Nat → List Int) (rs : List Int) : ∀ j, (scan f rs j).Nodup
  | 0 => by rw [scan]; exact List.nodup_nil
  | j + 1 => by
    rw [scan_succ]
    split
    · exact scan_nodup f rs j
    · exact visit_nodup (scan_nodup f rs j) _
theorem toks_pre (h : M <+: N) : toks f rs M <+: toks f rs N := by
  obtain ⟨m, rfl⟩ := h
  exact ⟨m.flatMap f, by simp [toks]⟩
theorem pre_get {α : Type} {a b : List α} (h : a <+: b) {i : Nat} {x : α} (hi : a[i]? = some x) : b[i]? = some x := by
  obtain ⟨m, rfl⟩ := h
  rw [List.getElem?_append_left (List.getElem?_eq_some_iff.1 hi).1]
  exact hi
theorem pre_mem {α : Type} {a b : List α} (h : a <+: b) {x : α} (hi : x ∈ a) : x ∈ b := by
  obtain ⟨m, rfl⟩ := h
  exact List.mem_append_left _ hi
/-- What has been met is noted. -/
theorem scan_met {j i : Nat} (hi : i < j) (h : (toks f rs (scan f rs i))[i]? = some w) (hw : Wd.boxedB w = true) : plc w ∈ scan f rs j := by
  refine pre_mem (scan_pre f rs (show i + 1 ≤ j by omega)) ?_
  rw [scan_succ, h]
  exact visit_mem hw
/-- What is noted has been met. -/
theorem scan_from : ∀ {j : Nat} {p : Nat}, p ∈ scan f rs j → ∃ i w, i < j ∧ (toks f rs (scan f rs i))[i]? = some w ∧ Wd.boxedB w = true ∧ plc w = p
  | 0, p, h => by rw [scan] at h; cases h
  | j + 1, p, h => by
    rw [scan_succ] at h
    split at h
    · obtain ⟨i, w, hi, h'⟩ := scan_from h
      exact ⟨i, w, by omega, h'⟩
    · rename_i w hw
      rw [visit] at h
      split at h
      · rename_i hv
        rcases List.mem_append.1 h with h | h
        · obtain ⟨i, w, hi, h'⟩ := scan_from h
          exact ⟨i, w, by omega, h'⟩
        · simp only [List.mem_singleton] at h
          exact ⟨j, w, Nat.lt_succ_self _, hw, hv.1, h.symm⟩
      · obtain ⟨i, w, hi, h'⟩ := scan_from h
        exact ⟨i, w, by omega, h'⟩
/-- All have been met. -/
def Scd (f : Nat → List Int) (rs : List Int) (J : Nat) (M : List Nat) : Prop := M = scan f rs J ∧ J = (toks f rs M).length
theorem Scd.stays {J : Nat} (h : Scd f rs J M) : ∀ {j : Nat}, J ≤ j → scan f rs j = M := by
  intro j hj
  induction j with
  | zero => obtain rfl : J = 0 := by omega
            exact h.1.symm
  | succ j ih =>
    rcases Nat.lt_or_ge J (j + 1) with hl | hl
    · rw [scan_succ, ih (by omega), List.getElem?_eq_none (by have := h.2; omega)]
    · obtain rfl : J = j + 1 := by omega
      exact h.1.symm
theorem Scd.uniq {J K : Nat} (h : Scd f rs J M) (k : Scd f rs K N) : J = K ∧ M = N := by
  have e : M = N := by
    rcases Nat.le_total J K with hl | hl
    · exact (h.stays hl).symm.trans k.1.symm
    · exact h.1.trans (k.stays hl)
  subst e
  exact ⟨h.2.trans k.2.symm, rfl⟩
theorem Scd.nodup {J : Nat} (h : Scd f rs J M) : M.Nodup := h.1 ▸ scan_nodup f rs J
/-- Each word of the roots, and of what was moved, has been met. -/
theorem Scd.met {J : Nat} (h : Scd f rs J M) : ∀ w ∈ toks f rs M, Wd.boxedB w = true → plc w ∈ M := by
  intro w hw hb
  obtain ⟨i, hi, rfl⟩ := List.getElem_of_mem hw
  by_cases hc : i < (toks f rs (scan f rs i)).length
  · have h1 : (toks f rs (scan f rs i))[i]? = some (toks f rs M)[i] := by
      have hp := toks_pre (f := f) (rs := rs) (scan_pre f rs (show i ≤ J by have := h.2; omega))
      rw [← h.1] at hp
      have := pre_get hp (List.getElem?_eq_getElem hc)
      rw [List.getElem?_eq_getElem hi] at this
      rw [List.getElem?_eq_getElem hc, ← Option.some.inj this]
    have := scan_met (j := J) (by have := h.2; omega) h1 hb
    rwa [← h.1] at this
  · exfalso
    -- nothing more is met from i on
    have hs : ∀ j, i ≤ j → scan f rs j = scan f rs i := by
      intro j hj
      induction j with
      | zero => obtain rfl : i = 0 := by omega
                rfl
      | succ j ih =>
        rcases Nat.lt_or_ge i (j + 1) with hl | hl
        · rw [scan_succ, ih (by omega), List.getElem?_eq_none (by omega)]
        · obtain rfl : i = j + 1 := by omega
          rfl
    have := hs J (by have := h.2; omega)
    rw [← h.1] at this
    rw [← this] at hc
    exact hc hi

theorem off_append {p : Nat} (hp : p ∈ M) : off f (M ++ N) p = off f M p := by
  induction M with
  | nil => cases hp
  | cons a r ih =>
    rw [List.cons_append, off, off]
    by_cases e : a = p
    · rw [if_pos e, if_pos e]
    · rw [if_neg e, if_neg e, ih (by rcases List.mem_cons.1 hp with h | h; exact absurd h.symm e; exact h)]
theorem off_new {p : Nat} (hp : p ∉ M) : off f (M ++ [p]) p = (M.flatMap f).length := by
  induction M with
  | nil => simp [off]
  | cons a r ih =>
    simp only [List.mem_cons, not_or] at hp
    rw [List.cons_append, off, if_neg (fun e => hp.1 e.symm), ih hp.2, List.flatMap_cons, List.length_append]
theorem off_drop {p : Nat} (hp : p ∈ M) : ∃ rest, (M.flatMap f).drop (off f M p) = f p ++ rest := by
  induction M with
  | nil => cases hp
  | cons a r ih =>
    rw [off, List.flatMap_cons]
    by_cases e : a = p
    · subst e
      exact ⟨r.flatMap f, by simp⟩
    · rw [if_neg e]
      obtain ⟨rest, h⟩ := ih (by rcases List.mem_cons.1 hp with h | h; exact absurd h.symm e; exact h)
      exact ⟨rest, by rw [List.drop_append, List.drop_of_length_le (by omega), List.nil_append, Nat.add_sub_cancel_left, h]⟩
theorem off_inj (h1 : ∀ p ∈ M, 1 ≤ (f p).length) {p q : Nat} (hp : p ∈ M) (hq : q ∈ M) (h : off f M p = off f M q) : p = q := by
  induction M with
  | nil => cases hp
  | cons a r ih =>
    have ha := h1 a (List.mem_cons_self ..)
    rw [off, off] at h
    by_cases e : a = p
    · by_cases e' : a = q
      · exact e.symm.trans e'
      · rw [if_pos e, if_neg e'] at h; omega
    · by_cases e' : a = q
      · rw [if_neg e, if_pos e'] at h; omega
      · rw [if_neg e, if_neg e'] at h
        exact ih (fun x hx => h1 x (List.mem_cons_of_mem _ hx)) (by rcases List.mem_cons.1 hp with h | h; exact absurd h.symm e; exact h) (by rcases List.mem_cons.1 hq with h | h; exact absurd h.symm e'; exact h) (by omega)
theorem off_le {p : Nat} (hp : p ∈ M) : off f M p + (f p).length ≤ (M.flatMap f).length := by
  obtain ⟨rest, h⟩ := off_drop (f := f) hp
  have := congrArg List.length h
  rw [List.length_drop, List.length_append] at this
  by_cases h0 : off f M p ≤ (M.flatMap f).length
  · omega
  · exfalso
    clear this h
    apply h0
    clear h0
    induction M with
    | nil => cases hp
    | cons a r ih =>
      rw [off, List.flatMap_cons, List.length_append]
      by_cases e : a = p
      · rw [if_pos e]; omega
      · rw [if_neg e]
        have := ih (by rcases List.mem_cons.1 hp with h | h; exact absurd h.symm e; exact h)
        omega
theorem tr_pre (h : M <+: N) (hw : Wd.boxedB w = true → plc w ∈ M) : tr f N w = tr f M w := by
  obtain ⟨m, rfl⟩ := h
  rw [tr, tr]
  by_cases hb : Wd.boxedB w = true
  · rw [if_pos hb, if_pos hb, off_append (hw hb)]
  · rw [if_neg hb, if_neg hb]
end
end Go.Proofs.YtaiiicmldogjoaaDoor

/-
  The heap behind a collection, plainly: the same terms, boxes behind boxes; collected again it stays as it is.
-/
namespace Go.Proofs.YtaiiicmldogjoaaDoor
open Go.RowKit

/-- A word that has been packed. -/
structure Pk (w k n : Int) : Prop where
  is : w = Wd.packW k n
  ok : Wd.okB k n = true
theorem Pk.facts {w k n : Int} (h : Pk w k n) : Wd.kd w = k ∧ Wd.nm w = n ∧ Wd.unB w = true ∧ Wd.unK w = k ∧ Wd.unN w = n ∧ Wd.unE w = 0 ∧ 0 ≤ w ∧ w < 18446744073709551616 := by
  obtain ⟨h1, h2⟩ := h
  subst h1
  obtain ⟨a, b⟩ := Wd.back1 k n h2
  obtain ⟨c, d, e, g⟩ := Wd.back1K k n h2
  have := Wd.packW_bd k n
  exact ⟨a, b, c, d, e, g, this.1, this.2⟩
theorem Pk.boxed {w k n : Int} (h : Pk w k n) : Wd.boxedB w = hasL k := by
  have h1 := h.facts.1
  rw [Wd.kd] at h1
  rw [Bool.eq_iff_iff, hasL_iff]
  simp only [Wd.boxedB, decide_eq_true_eq]
  omega
theorem pk_place {k : Int} {p : Nat} (hk : hasL k = true) (hp : p ≤ 1073741824) : Pk (Wd.packW k p) k p := ⟨rfl, by
  rw [hasL_iff] at hk
  rw [Wd.okB_iff]
  rcases hk with rfl | rfl | rfl <;> (simp [Wd.lo, Wd.hi]; omega)⟩
theorem Pk.plc {w k : Int} {p : Nat} (h : Pk w k p) : plc w = p := by rw [Go.Proofs.YtaiiicmldogjoaaDoor.plc, h.facts.2.1]; simp
/-- The word of a term. -/
theorem den_pk {L : List ByteArray} {xs ks : List Int} {k n : Int} {s : ByteArray} {l : List Tm} {w : Int} (h : Den L xs ks (.mk k n s l) w) : ∃ m, Pk w k m ∧ 0 < k ∧ k < 10 := by
  rw [den_mk] at h
  obtain ⟨hf, h⟩ := h
  have hf' := hf
  simp only [fitB, decide_eq_true_eq] at hf'
  split at h
  · rename_i hk
    obtain ⟨p, ys, rfl, hp, _⟩ := h
    exact ⟨p, pk_place hk hp, by omega, by omega⟩
  · split at h
    · rename_i hk h2
      subst h2
      obtain ⟨i, _, hi, rfl⟩ := h
      exact ⟨i, ⟨rfl, by rw [Wd.okB_iff]; simp [Wd.lo, Wd.hi]; omega⟩, by omega, by omega⟩
    · rename_i hk h2
      subst h
      rw [hasL_iff] at hk
      refine ⟨n, ⟨rfl, ?_⟩, by omega, by omega⟩
      rw [Wd.okB_iff]
      have : k = 1 ∨ k = 3 ∨ k = 4 ∨ k = 6 ∨ k = 8 := by omega
      rcases this with rfl | rfl | rfl | rfl | rfl <;> (simp [Wd.lo, Wd.hi]; omega)
/-- .. that is boxed. -/
theorem den_box {L : List ByteArray} {xs ks : List Int} {T : Tm} {w : Int} (h : Den L xs ks T w) (hb : Wd.boxedB w = true) : ∃ k n s l ys, T = .mk k n s l ∧ Pk w k (plc w) ∧ plc w ≤ 1073741824 ∧ Bx xs ks k n (plc w) ys ∧ Dens L xs ks l ys := by
  cases T with
  | mk k n s l =>
    obtain ⟨m, hpk, _⟩ := den_pk h
    have hk : hasL k = true := by rw [← hpk.boxed]; exact hb
    rw [den_mk, if_pos hk] at h
    obtain ⟨_, p, ys, rfl, hp, hx, hd⟩ := h
    have hpp := pk_place hk hp
    have e := hpp.plc
    rw [e]
    exact ⟨k, n, s, l, ys, rfl, hpp, hp, hx, hd⟩

/-- What a collection moves: each one once, with all that is within. -/
structure Moved (xs ks : List Int) (M : List Nat) : Prop where
  nodup : M.Nodup
  box : ∀ p ∈ M, ∃ k n ys, Bx xs ks k n p ys
  met : ∀ p ∈ M, ∀ w ∈ bxw xs ks p, Wd.boxedB w = true → plc w ∈ M
  pk : ∀ p ∈ M, ∀ w ∈ bxw xs ks p, Wd.boxedB w = true → ∃ k, Pk w k (plc w)
  size : (M.flatMap (bxw xs ks)).length ≤ 1073741824
/-- The words and the kinds behind it. -/
def nw (xs ks : List Int) (M : List Nat) : List Int := (M.flatMap (bxw xs ks)).map (tr (bxw xs ks) M)
def nkp (xs ks : List Int) (p : Nat) : List Int := kbox (ks[p]?.getD 0) (bxw xs ks p).length
def nk (xs ks : List Int) (M : List Nat) : List Int := M.flatMap (nkp xs ks)

section
variable {xs ks : List Int} {M : List Nat}
theorem Moved.len1 (h : Moved xs ks M) : ∀ p ∈ M, 1 ≤ (bxw xs ks p).length := fun p hp => by
  obtain ⟨k, n, ys, hb⟩ := h.box p hp
  rw [hb.words, List.length_append]
  exact (fit_len hb.has hb.fit).1
theorem off_same {f g : Nat → List Int} (p : Nat) : ∀ {M : List Nat}, (∀ q ∈ M, (f q).length = (g q).length) → off f M p = off g M p
  | [], _ => rfl
  | a :: r, h => by rw [off, off, h a (List.mem_cons_self ..), off_same p fun q hq => h q (List.mem_cons_of_mem _ hq)]
theorem Moved.off_bd (h : Moved xs ks M) {p : Nat} (hp : p ∈ M) : off (bxw xs ks) M p ≤ 1073741824 := by
  have := off_le (f := bxw xs ks) hp
  have := h.size
  omega
theorem Moved.tr_pk (h : Moved xs ks M) {w k : Int} (hk : hasL k = true) (hw : Pk w k (plc w)) (hp : plc w ∈ M) : Pk (tr (bxw xs ks) M w) k (off (bxw xs ks) M (plc w)) := by
  have hb : Wd.boxedB w = true := by rw [hw.boxed]; exact hk
  rw [tr, if_pos hb, hw.facts.1]
  exact pk_place hk (h.off_bd hp)
/-- A box behind the moving. -/
theorem Moved.bx (h : Moved xs ks M) {k n : Int} {p : Nat} {ys : List Int} (hp : p ∈ M) (hb : Bx xs ks k n p ys) : Bx (nw xs ks M) (nk xs ks M) k n (off (bxw xs ks) M p) (ys.map (tr (bxw xs ks) M)) := by
  have hlen : ∀ q ∈ M, (bxw xs ks q).length = (nkp xs ks q).length := fun q hq => by rw [nkp, kbox_length (h.len1 q hq)]
  refine ⟨?_, hb.has, by rw [List.length_map]; exact hb.fit, ?_⟩
  · rw [off_same p hlen, nk]
    obtain ⟨rest, e⟩ := off_drop (f := nkp xs ks) hp
    have := congrArg (·[0]?) e
    simpa [List.getElem?_drop, nkp, kbox, hb.kind] using this
  · obtain ⟨rest, e⟩ := off_drop (f := bxw xs ks) hp
    refine ⟨rest.map (tr (bxw xs ks) M), ?_⟩
    rw [nw, ← List.map_drop, e, hb.words, List.map_append, List.map_append, List.length_map]
    congr 2
    by_cases h9 : k = 9
    · rw [leadW, if_neg (by omega), if_neg (by omega)]; rfl
    · obtain ⟨x, hx, _, _, _, _, hbx, _⟩ := head_num hb.has hb.fit h9
      rw [hx, List.map_cons, tr, if_neg (by rw [hbx]; exact Bool.false_ne_true)]
      rfl
theorem Moved.words (h : Moved xs ks M) {p : Nat} (hp : p ∈ M) : bxw (nw xs ks M) (nk xs ks M) (off (bxw xs ks) M p) = (bxw xs ks p).map (tr (bxw xs ks) M) := by
  obtain ⟨k, n, ys, hb⟩ := h.box p hp
  rw [(h.bx hp hb).words, hb.words, List.map_append, List.length_map]
  congr 1
  by_cases h9 : k = 9
  · rw [leadW, if_neg (by omega), if_neg (by omega)]; rfl
  · obtain ⟨x, hx, _, _, _, _, hbx, _⟩ := head_num hb.has hb.fit h9
    rw [hx, List.map_cons, tr, if_neg (by rw [hbx]; exact Bool.false_ne_true)]
    rfl
/-- The same terms. -/
theorem Moved.den (h : Moved xs ks M) {L : List ByteArray} (T : Tm) : ∀ w, Den L xs ks T w → (Wd.boxedB w = true → plc w ∈ M) → Den L (nw xs ks M) (nk xs ks M) T (tr (bxw xs ks) M w) := by
  induction T using Tm.induct with
  | h k n s l ih =>
    intro w hd hm
    obtain ⟨m, hpk, _⟩ := den_pk hd
    by_cases hk : hasL k = true
    · have hb : Wd.boxedB w = true := by rw [hpk.boxed]; exact hk
      obtain ⟨k', n', s', l', ys, e, hw, hp, hx, hds⟩ := den_box hd hb
      cases e
      have hin := hm hb
      have hf := hd
      rw [den_mk] at hf
      rw [den_mk, if_pos hk]
      refine ⟨hf.1, _, _, (h.tr_pk hk hw hin).is, h.off_bd hin, h.bx hin hx, ?_⟩
      have hmem : ∀ y ∈ ys, Wd.boxedB y = true → plc y ∈ M := fun y hy => h.met _ hin y (by rw [hx.words]; exact List.mem_append_right _ hy)
      have : ∀ (r : List Tm), (∀ t ∈ r, t ∈ l) → ∀ ys, Dens L xs ks r ys → (∀ y ∈ ys, Wd.boxedB y = true → plc y ∈ M) → Dens L (nw xs ks M) (nk xs ks M) r (ys.map (tr (bxw xs ks) M)) := by
        intro r
        induction r with
        | nil => intro _ ys h _; rw [dens_nil] at h ⊢; rw [h]; rfl
        | cons t r ihr =>
          intro hr ys hd hm
          obtain ⟨y, z, rfl, h1, h2⟩ := dens_cons.1 hd
          exact dens_cons.2 ⟨_, _, rfl, ih t (hr t (List.mem_cons_self ..)) _ h1 (hm y (List.mem_cons_self ..)), ihr (fun x hx => hr x (List.mem_cons_of_mem _ hx)) _ h2 fun x hx => hm x (List.mem_cons_of_mem _ hx)⟩
      exact this l (fun _ h => h) ys hds hmem
    · have hb : ¬ Wd.boxedB w = true := by rw [hpk.boxed]; exact hk
      rw [tr, if_neg hb]
      rw [den_mk, if_neg hk] at hd ⊢
      exact hd
theorem Moved.wf (h : Moved xs ks M) : Wf (nw xs ks M) (nk xs ks M) := by
  have : ∀ (N : List Nat), (∀ p ∈ N, p ∈ M) → ∀ {xs0 ks0 : List Int}, Wf xs0 ks0 → Wf (xs0 ++ (N.flatMap (bxw xs ks)).map (tr (bxw xs ks) M)) (ks0 ++ N.flatMap (nkp xs ks)) := by
    intro N
    induction N with
    | nil => intro _ xs0 ks0 h; simpa using h
    | cons p r ih =>
      intro hN xs0 ks0 h0
      have hp := hN p (List.mem_cons_self ..)
      obtain ⟨k, n, ys, hb⟩ := h.box p hp
      have h1 := Wf.snoc k n (ys.map (tr (bxw xs ks) M)) h0 hb.has (by rw [List.length_map]; exact hb.fit)
      have h2 := ih (fun q hq => hN q (List.mem_cons_of_mem _ hq)) h1
      have e := h.words hp
      rw [(h.bx hp hb).words] at e
      rw [List.flatMap_cons, List.flatMap_cons, List.map_append, ← e, ← List.append_assoc, ← List.append_assoc, nkp, hb.kind, Option.getD_some, hb.words]
      rw [List.length_map] at h2 ⊢
      rw [List.length_append]
      simp only [List.append_assoc] at h2 ⊢
      exact h2
  have := this M (fun _ h => h) Wf.nil
  rw [List.nil_append, List.nil_append] at this
  exact this
theorem nw_length (xs ks : List Int) (M : List Nat) : (nw xs ks M).length = (M.flatMap (bxw xs ks)).length := by rw [nw, List.length_map]
theorem Moved.kinds (h : Moved xs ks M) : ∀ p ∈ M, ∃ k, ks[p]? = some k ∧ k ≠ 0 := fun p hp => by
  obtain ⟨k, n, ys, hb⟩ := h.box p hp
  have := hb.has
  rw [hasL_iff] at this
  exact ⟨k, hb.kind, by omega⟩

/-- Where words are the same behind a collection, they were the same. -/
theorem Moved.tr_inj (h : Moved xs ks M) {L : List ByteArray} {T T' : Tm} {w w' : Int} (hd : Den L xs ks T w) (hd' : Den L xs ks T' w') (hm : Wd.boxedB w = true → plc w ∈ M) (hm' : Wd.boxedB w' = true → plc w' ∈ M)
    (e : tr (bxw xs ks) M w = tr (bxw xs ks) M w') : w = w' := by
  have one : ∀ {T : Tm} {w : Int}, Den L xs ks T w → (Wd.boxedB w = true → plc w ∈ M) → Wd.boxedB (tr (bxw xs ks) M w) = Wd.boxedB w := by
    intro T w hd hm
    by_cases hb : Wd.boxedB w = true
    · obtain ⟨k, n, s, l, ys, _, hw, hp, hx, _⟩ := den_box hd hb
      rw [hb, (h.tr_pk hx.has hw (hm hb)).boxed, hx.has]
    · rw [tr, if_neg hb]
  have hbb : Wd.boxedB w = Wd.boxedB w' := by rw [← one hd hm, ← one hd' hm', e]
  by_cases hb : Wd.boxedB w = true
  · have hb' : Wd.boxedB w' = true := hbb ▸ hb
    obtain ⟨k, n, s, l, ys, _, hw, hp, hx, _⟩ := den_box hd hb
    obtain ⟨k', n', s', l', ys', _, hw', hp', hx', _⟩ := den_box hd' hb'
    have h1 := (h.tr_pk hx.has hw (hm hb)).facts
    have h2 := (h.tr_pk hx'.has hw' (hm' hb')).facts
    rw [← e] at h2
    have ek : k = k' := h1.1.symm.trans h2.1
    have eo : off (bxw xs ks) M (plc w) = off (bxw xs ks) M (plc w') := by have := h1.2.1.symm.trans h2.2.1; omega
    have ep := off_inj h.len1 (hm hb) (hm' hb') eo
    rw [hw.is, hw'.is, ek, ep]
  · have hb' : ¬ Wd.boxedB w' = true := hbb ▸ hb
    rw [tr, tr, if_neg hb, if_neg hb'] at e
    exact e

/-- Collected again, the heap stays as it is. -/
theorem Moved.again (h : Moved xs ks M) {rs : List Int} {J : Nat} (hD : Scd (bxw xs ks) rs J M) (hr : ∀ w ∈ rs, Wd.boxedB w = true → ∃ k, Pk w k (plc w)) :
    ∃ M2, Scd (bxw (nw xs ks M) (nk xs ks M)) (rs.map (tr (bxw xs ks) M)) J M2 ∧ nw (nw xs ks M) (nk xs ks M) M2 = nw xs ks M ∧ (rs.map (tr (bxw xs ks) M)).map (tr (bxw (nw xs ks M) (nk xs ks M)) M2) = rs.map (tr (bxw xs ks) M) ∧
      (M2.flatMap (bxw (nw xs ks M) (nk xs ks M))).length = (nw xs ks M).length := by
  obtain ⟨f, hf⟩ : ∃ f, bxw xs ks = f := ⟨_, rfl⟩
  obtain ⟨X, hX⟩ : ∃ X, nw xs ks M = X := ⟨_, rfl⟩
  obtain ⟨K, hK⟩ : ∃ K, nk xs ks M = K := ⟨_, rfl⟩
  obtain ⟨g, hg⟩ : ∃ g, bxw X K = g := ⟨_, rfl⟩
  have hwd : ∀ p ∈ M, g (off f M p) = (f p).map (tr f M) := fun p hp => by
    have := h.words hp
    rw [hX, hK, hg, hf] at this
    exact this
  have hinj : ∀ {p q}, p ∈ M → q ∈ M → off f M p = off f M q → p = q := fun hp hq e => by
    have := h.len1
    rw [hf] at this
    exact off_inj this hp hq e
  have hmet := hD.met
  have htok : ∀ w ∈ toks f rs M, Wd.boxedB w = true → ∃ k, Pk w k (plc w) ∧ Pk (tr f M w) k (off f M (plc w)) := by
    intro w hw hb
    have hpk : ∃ k, Pk w k (plc w) := by
      rw [toks] at hw
      rcases List.mem_append.1 hw with hw | hw
      · exact hr w hw hb
      · obtain ⟨p, hp, hw⟩ := List.mem_flatMap.1 hw
        exact h.pk p hp w (by rw [hf]; exact hw) hb
    obtain ⟨k, hk⟩ := hpk
    have hL : hasL k = true := by rw [← hk.boxed]; exact hb
    have := h.tr_pk hL hk (by rw [← hf] at hw; exact hmet w hw hb)
    rw [hf] at this
    exact ⟨k, hk, this⟩
  rw [hf] at hD hmet ⊢
  rw [hX, hK, hg]
  have htk : ∀ N : List Nat, (∀ p ∈ N, p ∈ M) → toks g (rs.map (tr f M)) (N.map (off f M)) = (toks f rs N).map (tr f M) := by
    intro N hN
    rw [toks, toks, List.map_append]
    congr 1
    induction N with
    | nil => rfl
    | cons p r ih => rw [List.map_cons, List.flatMap_cons, List.flatMap_cons, List.map_append, hwd p (hN p (List.mem_cons_self ..)), ih fun q hq => hN q (List.mem_cons_of_mem _ hq)]
  have hscan : ∀ j, scan g (rs.map (tr f M)) j = (scan f rs j).map (off f M) := by
    intro j
    induction j with
    | zero => rw [scan, scan]; rfl
    | succ j ih =>
      have hsub : ∀ p ∈ scan f rs j, p ∈ M := by
        rcases Nat.le_total j J with hj | hj
        · intro p hp
          rw [hD.1]
          exact pre_mem (scan_pre f rs hj) hp
        · rw [hD.stays hj]
          exact fun _ h => h
      rw [scan_succ, scan_succ, ih, htk _ hsub, List.getElem?_map]
      cases ht : (toks f rs (scan f rs j))[j]? with
      | none => rfl
      | some w =>
        rw [Option.map_some]
        simp only
        have hwt : w ∈ toks f rs M := by
          rw [List.getElem?_eq_some_iff] at ht
          obtain ⟨hj, e⟩ := ht
          have hm := List.getElem_mem hj
          rw [e, toks] at hm
          rw [toks]
          rcases List.mem_append.1 hm with hm | hm
          · exact List.mem_append_left _ hm
          · obtain ⟨p, hp, hm⟩ := List.mem_flatMap.1 hm
            exact List.mem_append_right _ (List.mem_flatMap.2 ⟨p, hsub p hp, hm⟩)
        rw [visit, visit]
        by_cases hb : Wd.boxedB w = true
        · obtain ⟨k, hk, hk'⟩ := htok w hwt hb
          have hL : hasL k = true := by rw [← hk.boxed]; exact hb
          have hb' : Wd.boxedB (tr f M w) = true := by rw [hk'.boxed]; exact hL
          have hp := hk'.plc
          rw [hp]
          by_cases hin : plc w ∈ scan f rs j
          · rw [if_neg (fun h => h.2 (List.mem_map.2 ⟨_, hin, rfl⟩)), if_neg (fun h => h.2 hin)]
          · rw [if_pos ⟨hb', fun hi => by
              obtain ⟨q, hq, e⟩ := List.mem_map.1 hi
              exact hin (hinj (hsub q hq) (hmet w hwt hb) e ▸ hq)⟩, if_pos ⟨hb, hin⟩, List.map_append]
            rfl
        · have e : tr f M w = w := by rw [tr, if_neg hb]
          rw [e, if_neg (fun h => hb h.1), if_neg (fun h => hb h.1)]
  have hlen : ∀ q ∈ M, (f q).length = (g (off f M q)).length := fun q hq => by rw [hwd q hq, List.length_map]
  have hoff : ∀ N : List Nat, (∀ q ∈ N, q ∈ M) → ∀ p ∈ M, off g (N.map (off f M)) (off f M p) = off f N p := by
    intro N hN p hp
    induction N with
    | nil => rfl
    | cons a r ih =>
      rw [List.map_cons, off, off, ih fun q hq => hN q (List.mem_cons_of_mem _ hq), ← hlen a (hN a (List.mem_cons_self ..))]
      by_cases e : a = p
      · subst e; rw [if_pos rfl, if_pos rfl]
      · rw [if_neg e, if_neg fun e' => e (hinj (hN a (List.mem_cons_self ..)) hp e')]
  have htr : ∀ w ∈ toks f rs M, tr g (M.map (off f M)) (tr f M w) = tr f M w := by
    intro w hw
    by_cases hb : Wd.boxedB w = true
    · obtain ⟨k, hk, hk'⟩ := htok w hw hb
      have hL : hasL k = true := by rw [← hk.boxed]; exact hb
      have hb' : Wd.boxedB (tr f M w) = true := by rw [hk'.boxed]; exact hL
      rw [tr, if_pos hb', hk'.plc, hoff M (fun _ h => h) _ (hmet w hw hb), hk'.facts.1]
      exact hk'.is.symm
    · have e : tr f M w = w := by rw [tr, if_neg hb]
      rw [e, tr, if_neg hb]
  have hfl : (M.map (off f M)).flatMap g = (M.flatMap f).map (tr f M) := by
    have := htk M fun _ h => h
    rw [toks, toks, List.map_append] at this
    exact List.append_cancel_left this
  refine ⟨M.map (off f M), ⟨?_, ?_⟩, ?_, ?_, ?_⟩
  · rw [hscan J, ← hD.1]
  · rw [htk M fun _ h => h, List.length_map]; exact hD.2
  · rw [nw, hg, hfl, ← hX, nw, hf, List.map_map]
    refine List.map_congr_left fun w hw => ?_
    exact htr w (List.mem_append_right _ hw)
  · rw [List.map_map]
    refine List.map_congr_left fun w hw => ?_
    exact htr w (List.mem_append_left _ hw)
  · rw [hfl, List.length_map, ← hX, nw_length, hf]
end
/-- Places, each once, that hold all roots and all that is within them, are all that was moved. -/
theorem sum_le {f : Nat → List Int} : ∀ {V M : List Nat}, V.Nodup → (∀ p ∈ V, p ∈ M) → (V.flatMap f).length ≤ (M.flatMap f).length
  | [], M, _, _ => Nat.zero_le _
  | a :: r, M, hn, hs => by
    rw [List.nodup_cons] at hn
    have := sum_le (f := f) (V := r) (M := M.erase a) hn.2 fun p hp => by
      rw [List.mem_erase_of_ne (fun e => hn.1 (by rw [← e]; exact hp))]
      exact hs p (List.mem_cons_of_mem _ hp)
    rw [List.flatMap_cons, List.length_append, erase_flat (hs a (List.mem_cons_self ..))]
    omega
theorem all_met {f : Nat → List Int} {rs : List Int} {J : Nat} {M V : List Nat} (hD : Scd f rs J M) (hn : V.Nodup) (hs : ∀ p ∈ V, p ∈ M) (hr : ∀ w ∈ rs, Wd.boxedB w = true → plc w ∈ V) (hc : ∀ p ∈ V, ∀ w ∈ f p, Wd.boxedB w = true → plc w ∈ V) :
    (V.flatMap f).length = (M.flatMap f).length := by
  have hm : ∀ j, ∀ p ∈ scan f rs j, p ∈ V := by
    intro j
    induction j using Nat.strongRecOn with
    | ind j ih =>
      intro p hp
      obtain ⟨i, w, hi, hw, hb, rfl⟩ := scan_from hp
      rw [List.getElem?_eq_some_iff] at hw
      obtain ⟨hlt, e⟩ := hw
      have hmem := List.getElem_mem hlt
      rw [e, toks] at hmem
      rcases List.mem_append.1 hmem with hmem | hmem
      · exact hr w hmem hb
      · obtain ⟨q, hq, hmem⟩ := List.mem_flatMap.1 hmem
        exact hc q (ih i hi q hq) w hmem hb
  exact Nat.le_antisymm (sum_le hn hs) (sum_le hD.nodup fun p hp => hm J p (hD.1 ▸ hp))
end Go.Proofs.YtaiiicmldogjoaaDoor
