/-
  Words as terms, plainly: what is written is read as it was, and what is read is written as it was.
-/
import Derived.Test.YtaiiicmldogjoaaDoorZFlatPlain
namespace Go.Proofs.YtaiiicmldogjoaaDoor
open Go.RowKit

/-- One term of each of these words, the boxed ones at the places where they are laid. -/
def goes (P : Int → Nat → Option (Tm × Nat)) : List Int → Nat → Option (List Tm × Nat)
  | [], i => some ([], i)
  | w :: r, i => match P w i with
    | none => none
    | some (t, j) => match goes P r j with
      | none => none
      | some (ts, k) => some (t :: ts, k)
/-- Past so many words, and then past what is boxed of each. -/
def someR (P : Int → Nat → Option (Tm × Nat)) (xs : List Int) (m i : Nat) : Option (List Tm × Nat) := if xs.length < i + m then none else goes P ((xs.drop i).take m) (i + m)
/-- The head that stands at i: how many words it has, the term's number, how many parts. -/
def headR (k : Int) (xs : List Int) (i : Nat) : Option (Nat × Int × Nat) :=
  if k = 9 then some (0, 0, 2) else match xs[i]? with
    | none => none
    | some h => if k = 7 ∧ Wd.unK h = 10 then some (1, 0, (Wd.unN h).toNat) else if k = 5 ∧ Wd.unK h = 11 then some (1, Wd.unN h / 128, (Wd.unN h % 128).toNat) else none
/-- The term of a word that names no place. -/
def plainR (F : List ByteArray) (k n : Int) : Option Tm :=
  if k = 2 then match F[n.toNat]? with
    | none => none
    | some s => some (.mk 2 0 s [])
  else if k = 1 ∨ k = 3 ∨ k = 4 ∨ k = 6 ∨ k = 8 then some (.mk k n ⟨#[]⟩ []) else none
/-- The term of a word, and the place behind what it has laid at i. -/
def oneR (F : List ByteArray) (xs : List Int) : Nat → Int → Nat → Option (Tm × Nat)
  | 0, _, _ => none
  | f + 1, w, i =>
    if Wd.unB w = false then none
    else if hasL (Wd.kd w) = false then (plainR F (Wd.kd w) (Wd.nm w)).map fun t => (t, i)
    else if Wd.nm w ≠ i then none
    else match headR (Wd.kd w) xs i with
      | none => none
      | some (h, n, m) => match someR (oneR F xs f) xs m (i + h) with
        | none => none
        | some (ps, j) => some (.mk (Wd.kd w) n ⟨#[]⟩ ps, j)
/-- The term of words, if they are just its words. -/
def readR (F : List ByteArray) (xs : List Int) : Option Tm :=
  match someR (oneR F xs (xs.length + 1)) xs 1 0 with
  | some ([t], j) => if j = xs.length then some t else none
  | _ => none
theorem goes_length {P : Int → Nat → Option (Tm × Nat)} : ∀ {l : List Int} {i : Nat} {ts : List Tm} {j : Nat}, goes P l i = some (ts, j) → ts.length = l.length
  | [], i, ts, j, h => by simp only [goes, Option.some.injEq, Prod.mk.injEq] at h; rw [← h.1]; rfl
  | w :: r, i, ts, j, h => by
    rw [goes] at h
    split at h
    · cases h
    · split at h
      · cases h
      · rename_i h2
        simp only [Option.some.injEq, Prod.mk.injEq] at h
        rw [← h.1, List.length_cons, goes_length h2, List.length_cons]

theorem own_mk (F : List ByteArray) (k n : Int) (s : ByteArray) (l : List Tm) (p : Nat) : (Tm.mk k n s l).own F p = Wd.packW k (numF F k n s p) := rfl
theorem posI_bd {F : List ByteArray} {s : ByteArray} {i : Nat} (h : pos s F = some i) : posI s F = i ∧ i < F.length := by
  obtain ⟨h1, _⟩ := pos_some h
  exact ⟨by rw [posI, h], h1⟩
/-- A term's own word is one. -/
theorem own_ok (F : List ByteArray) (hF : F.length ≤ 4096) {k n : Int} {s : ByteArray} {l : List Tm} {p : Nat} (hf : fitB k n s.size l.length = true) (hk : k = 2 → ∃ i, pos s F = some i) (hp : p ≤ 1073741824) : Wd.okB k (numF F k n s p) = true := by
  rw [Wd.okB_iff]
  simp only [fitB, decide_eq_true_eq] at hf
  have h1 := Wd.lo_is k
  have h2 := Wd.hi_is k
  by_cases h : k = 2
  · obtain ⟨i, hi⟩ := hk h
    obtain ⟨e, hl⟩ := posI_bd hi
    subst h
    rw [numF, if_pos rfl, e]
    omega
  · rw [numF, if_neg h]
    by_cases hb : hasL k = true
    · rw [if_pos hb]
      simp only [hasL, decide_eq_true_eq] at hb
      omega
    · rw [if_neg hb]
      rw [Bool.not_eq_true] at hb
      simp only [hasL, decide_eq_false_iff_not] at hb
      omega
theorem drop_split {α : Type} {xs a b : List α} {p : Nat} (h : xs.drop p = a ++ b) : (xs.drop p).take a.length = a ∧ xs.drop (p + a.length) = b := by
  refine ⟨by rw [h]; simp, ?_⟩
  rw [← List.drop_drop, h]
  simp
theorem drop_length {α : Type} {xs a b : List α} {p : Nat} (h : xs.drop p = a ++ b) (hp : p ≤ xs.length) : p + a.length ≤ xs.length := by
  have := congrArg List.length h
  rw [List.length_drop, List.length_append] at this
  omega
/-- What is written is read as it was. -/
theorem one_back (F : List ByteArray) (xs : List Int) (hF : F.length ≤ 4096) (hx : xs.length ≤ 1073741824) (T : Tm) : T.fits = true → T.known F → ∀ (f p : Nat) (rest : List Int), p ≤ xs.length → xs.length - p < f → xs.drop p = T.laid F p ++ rest →
    oneR F xs f (T.own F p) p = some (T, p + (T.laid F p).length) := by
  induction T using Tm.induct with
  | h k n s l ih =>
    intro hf hk f p rest hp hfu hd
    rw [fits_mk, Bool.and_eq_true] at hf
    rw [known_mk] at hk
    obtain ⟨f, rfl⟩ : ∃ g, f = g + 1 := ⟨f - 1, by omega⟩
    have hok := own_ok F hF (p := p) hf.1 hk.1 (by omega)
    obtain ⟨b1, b2⟩ := Wd.back1 _ _ hok
    have b3 := (Wd.back1K _ _ hok).1
    rw [own_mk, oneR, b3, b1, b2]
    rw [if_neg (by simp)]
    have hl := hf.1
    simp only [fitB, decide_eq_true_eq] at hl
    cases hb : hasL k with
    | false =>
      rw [if_pos rfl]
      have hl0 := fit_noL hf.1 hb
      obtain rfl : l = [] := List.eq_nil_of_length_eq_zero hl0
      simp only [hasL, decide_eq_false_iff_not] at hb
      have hlaid : (Tm.mk k n s []).laid F p = [] := by
        rw [laid_mk, kids_nil]
        simp only [leadW]
        rw [if_neg (by omega), if_neg (by omega)]
        rfl
      rw [hlaid]
      by_cases h2 : k = 2
      · subst h2
        obtain ⟨i, hi⟩ := hk.1 rfl
        obtain ⟨hi1, hi2⟩ := pos_some hi
        have hn : n = 0 := by omega
        subst hn
        rw [plainR, if_pos rfl, numF, if_pos rfl, posI, hi]
        simp only [Int.toNat_natCast]
        rw [List.getElem?_eq_getElem hi1, hi2]
        rfl
      · have hs : s = ⟨#[]⟩ := by
          have : s.size = 0 := by omega
          apply ByteArray.ext
          exact Array.eq_empty_of_size_eq_zero this
        subst hs
        rw [plainR, if_neg h2, numF, if_neg h2, if_pos (by omega), if_neg (by simp [hasL]; omega)]
        rfl
    | true =>
      rw [if_neg (by simp)]
      have hkk := hb
      simp only [hasL, decide_eq_true_eq] at hkk
      have hnum : numF F k n s p = p := by rw [numF, if_neg (by omega), if_pos hb]
      rw [hnum, if_neg (by simp)]
      have hs : s = ⟨#[]⟩ := by
        have : s.size = 0 := by omega
        apply ByteArray.ext
        exact Array.eq_empty_of_size_eq_zero this
      subst hs
      rw [laid_mk] at hd ⊢
      have hq : p + (leadW k n l.length).length + l.length ≤ xs.length := by
        have := drop_length hd hp
        rw [List.length_append, List.length_append, kids_length] at this
        omega
      have hkids : ∀ (r : List Tm), (∀ t ∈ r, t ∈ l) → ∀ (q : Nat) (rest : List Int), q ≤ xs.length → xs.length - q < f → xs.drop q = (kids F r q).2 ++ rest → goes (oneR F xs f) (kids F r q).1 q = some (r, q + (kids F r q).2.length) := by
        intro r
        induction r with
        | nil => intro _ q rest _ _ _; rw [kids_nil]; rfl
        | cons t r ihr =>
          intro hr q rest hq hfq hd
          rw [kids_cons] at hd ⊢
          simp only at hd ⊢
          rw [List.append_assoc] at hd
          have hm := hr t (List.mem_cons_self ..)
          have h1 := ih t hm (fitss_all hf.2 t hm) (knowns_all hk.2 t hm) f q _ hq hfq hd
          have hq' := drop_length hd hq
          have h2 := ihr (fun x hx => hr x (List.mem_cons_of_mem _ hx)) (q + (t.laid F q).length) rest hq' (by omega) (drop_split hd).2
          rw [goes, h1]
          simp only [h2, List.length_append, Nat.add_assoc]
      obtain ⟨q, hqe⟩ : ∃ q, q = p + (leadW k n l.length).length + l.length := ⟨_, rfl⟩
      rw [← hqe] at hd hq ⊢
      rw [List.append_assoc, List.append_assoc] at hd
      obtain ⟨d1, d2⟩ := drop_split hd
      obtain ⟨d3, d4⟩ := drop_split d2
      rw [kids_length] at d3 d4
      have hpos : p < q := by
        rcases hkk with h | h | h
        · rw [hqe]; subst h; simp [leadW]; omega
        · rw [hqe]; subst h; simp [leadW]; omega
        · rw [hqe]; subst h; simp [leadW]; omega
      have hg := hkids l (fun _ h => h) q rest hq (by omega) (by rw [← hqe] at d4; exact d4)
      have hsome : someR (oneR F xs f) xs l.length (p + (leadW k n l.length).length) = some (l, q + (kids F l q).2.length) := by
        rw [someR, if_neg (by omega), d3, ← hqe]
        exact hg
      have hhead : headR k xs p = some ((leadW k n l.length).length, n, l.length) := by
        rw [headR]
        rcases hkk with h | h | h
        · subst h
          have e1 : leadW 5 n l.length = [Wd.packW 11 (n * 128 + l.length)] := rfl
          rw [e1] at d1 ⊢
          have ho : Wd.okB 11 (n * 128 + l.length) = true := by
            rw [Wd.okB_iff]
            have h1 : Wd.lo 11 = 0 := rfl
            have h2 : Wd.hi 11 = 137438953536 := rfl
            omega
          obtain ⟨g1, g2, g3, _⟩ := Wd.back1K _ _ ho
          have e2 : xs[p]? = some (Wd.packW 11 (n * 128 + l.length)) := by
            have := congrArg (·[0]?) d1
            simpa [List.getElem?_take, List.getElem?_drop] using this
          rw [if_neg (by decide), e2]
          simp only [g2, g3]
          rw [if_neg (by simp), if_pos (by simp)]
          simp only [List.length_singleton, Option.some.injEq, Prod.mk.injEq, true_and]
          omega
        · subst h
          have e1 : leadW 7 n l.length = [Wd.packW 10 l.length] := rfl
          rw [e1] at d1 ⊢
          have ho : Wd.okB 10 l.length = true := by
            rw [Wd.okB_iff]
            have h1 : Wd.lo 10 = 0 := rfl
            have h2 : Wd.hi 10 = 64 := rfl
            omega
          obtain ⟨g1, g2, g3, _⟩ := Wd.back1K _ _ ho
          have e2 : xs[p]? = some (Wd.packW 10 l.length) := by
            have := congrArg (·[0]?) d1
            simpa [List.getElem?_take, List.getElem?_drop] using this
          rw [if_neg (by decide), e2]
          simp only [g2, g3]
          rw [if_pos (by simp)]
          simp only [List.length_singleton, Option.some.injEq, Prod.mk.injEq, true_and]
          omega
        · subst h
          have e1 : leadW 9 n l.length = [] := rfl
          rw [e1, if_pos rfl]
          simp only [List.length_nil, Option.some.injEq, Prod.mk.injEq, true_and]
          omega
      rw [hhead]
      simp only [hsome]
      simp only [List.length_append, kids_length, Option.some.injEq, Prod.mk.injEq, true_and]
      omega
theorem read_back (F : List ByteArray) (hF : F.length ≤ 4096) {T : Tm} (hf : T.fits = true) (hk : T.known F) (hsz : (T.flat F).length ≤ 1073741824) : readR F (T.flat F) = some T := by
  have hd : (T.flat F).drop 1 = T.laid F 1 ++ [] := by rw [Tm.flat]; simp
  have h := one_back F (T.flat F) hF hsz T hf hk ((T.flat F).length + 1) 1 [] (by simp [Tm.flat]) (by omega) hd
  rw [readR, someR, if_neg (by simp [Tm.flat])]
  have e : ((T.flat F).drop 0).take 1 = [T.own F 1] := by rw [Tm.flat]; simp
  rw [e, goes]
  simp only [Nat.zero_add, h, goes]
  rw [if_pos (by rw [Tm.flat]; simp; omega)]

theorem fit_plain {k n : Int} (h : 0 ≤ k ∧ k < 12 ∧ Wd.lo k ≤ n ∧ n ≤ Wd.hi k) (hk : k = 1 ∨ k = 3 ∨ k = 4 ∨ k = 6 ∨ k = 8) : fitB k n 0 0 = true := by
  obtain ⟨_, _, h3, h4⟩ := h
  rw [fitB, decide_eq_true_eq]
  rcases hk with rfl | rfl | rfl | rfl | rfl
  · rw [show Wd.lo 1 = -576460752303423488 from rfl] at h3
    rw [show Wd.hi 1 = 576460752303423487 from rfl] at h4
    omega
  · rw [show Wd.lo 3 = 0 from rfl] at h3
    rw [show Wd.hi 3 = 1073741824 from rfl] at h4
    omega
  · rw [show Wd.lo 4 = 0 from rfl] at h3
    rw [show Wd.hi 4 = 1073741824 from rfl] at h4
    omega
  · rw [show Wd.lo 6 = 0 from rfl] at h3
    rw [show Wd.hi 6 = 1073741824 from rfl] at h4
    omega
  · rw [show Wd.lo 8 = 0 from rfl] at h3
    rw [show Wd.hi 8 = 0 from rfl] at h4
    omega

set_option maxHeartbeats 1000000 in
/-- What is read is written as it was. -/
theorem one_write (F : List ByteArray) (xs : List Int) (hG : Good F) (hN : Nub F) (hxs : ∀ x ∈ xs, 0 ≤ x ∧ x < 18446744073709551616) : ∀ (f : Nat) (w : Int) (i : Nat) (T : Tm) (j : Nat), 0 ≤ w → w < 18446744073709551616 → i ≤ xs.length → oneR F xs f w i = some (T, j) →
    T.fits = true ∧ T.known F ∧ T.own F i = w ∧ j ≤ xs.length ∧ j = i + (T.laid F i).length ∧ (xs.drop i).take (T.laid F i).length = T.laid F i := by
  intro f
  induction f with
  | zero => intro w i T j _ _ _ h; cases h
  | succ f ih =>
    intro w i T j hw0 hw1 hi h
    rw [oneR] at h
    split at h
    · cases h
    rename_i hu
    rw [Bool.not_eq_false] at hu
    have hok := (Wd.okB_iff _ _).1 hu
    have hb2 := Wd.back2 w hw0 hw1 hu
    have h1 := Wd.lo_is (Wd.kd w)
    have h2 := Wd.hi_is (Wd.kd w)
    generalize Wd.kd w = k at *
    generalize Wd.nm w = n at *
    split at h
    · rename_i hl
      simp only [hasL, decide_eq_false_iff_not] at hl
      rw [Option.map_eq_some_iff] at h
      obtain ⟨t, h3, h4⟩ := h
      simp only [Prod.mk.injEq] at h4
      obtain ⟨rfl, rfl⟩ := h4
      have hlaid : ∀ n s, (Tm.mk k n s []).laid F i = [] := by
        intro n s
        rw [laid_mk, kids_nil]
        simp only [leadW]
        rw [if_neg (by omega), if_neg (by omega)]
        rfl
      rw [plainR] at h3
      split at h3
      · rename_i h2'
        subst h2'
        split at h3
        · cases h3
        · rename_i s hs
          cases h3
          obtain ⟨hlt, hs⟩ := List.getElem?_eq_some_iff.1 hs
          have hp := hN _ hlt
          rw [hs] at hp
          have h64 := hG.short s (by rw [← hs]; exact List.getElem_mem _)
          refine ⟨?_, ?_, ?_, hi, by rw [hlaid]; rfl, by rw [hlaid]; rfl⟩
          · rw [fits_mk, fitss, Bool.and_true]
            simp [fitB]
            omega
          · rw [known_mk]
            exact ⟨fun _ => ⟨_, hp⟩, by rw [knowns]; trivial⟩
          · rw [own_mk, numF, if_pos rfl, posI, hp]
            simp only
            have p1 : Wd.lo 2 = 0 := rfl
            rw [Int.toNat_of_nonneg (by omega)]
            exact hb2
      · rename_i h2'
        split at h3
        · rename_i h3'
          cases h3
          refine ⟨?_, ?_, ?_, hi, by rw [hlaid]; rfl, by rw [hlaid]; rfl⟩
          · rw [fits_mk, fitss, Bool.and_true]
            exact fit_plain ⟨hok.1, hok.2.1, hok.2.2.1, hok.2.2.2.1⟩ h3'
          · rw [known_mk]
            exact ⟨fun e => absurd e h2', by rw [knowns]; trivial⟩
          · rw [own_mk, numF, if_neg h2', if_neg (by simp [hasL]; omega)]
            exact hb2
        · cases h3
    · rename_i hl
      rw [Bool.not_eq_false] at hl
      split at h
      · cases h
      rename_i hni
      simp only [ne_eq, Decidable.not_not] at hni
      split at h
      · cases h
      rename_i hh n' m hhead
      split at h
      · cases h
      rename_i ps j' hsome
      simp only [Option.some.injEq, Prod.mk.injEq] at h
      obtain ⟨rfl, rfl⟩ := h
      rw [someR] at hsome
      split at hsome
      · cases hsome
      rename_i hlen
      have hgoes : ∀ (l : List Int) (q : Nat) (ts : List Tm) (e : Nat), (∀ x ∈ l, x ∈ xs) → q ≤ xs.length → goes (oneR F xs f) l q = some (ts, e) →
          (∀ t ∈ ts, t.fits = true) ∧ (∀ t ∈ ts, t.known F) ∧ (kids F ts q).1 = l ∧ e ≤ xs.length ∧ e = q + (kids F ts q).2.length ∧ (xs.drop q).take (kids F ts q).2.length = (kids F ts q).2 := by
        intro l
        induction l with
        | nil =>
          intro q ts e _ hq hg
          simp only [goes, Option.some.injEq, Prod.mk.injEq] at hg
          obtain ⟨rfl, rfl⟩ := hg
          rw [kids_nil]
          exact ⟨fun t h => by (cases h), fun t h => by (cases h), rfl, hq, rfl, rfl⟩
        | cons x l ihl =>
          intro q ts e hxl hq hg
          rw [goes] at hg
          split at hg
          · cases hg
          rename_i t q1 h1'
          split at hg
          · cases hg
          rename_i ts' q2 h2'
          simp only [Option.some.injEq, Prod.mk.injEq] at hg
          obtain ⟨rfl, rfl⟩ := hg
          have hx := hxs x (hxl x (List.mem_cons_self ..))
          obtain ⟨a1, a2, a3, a4, a5, a6⟩ := ih x q t q1 hx.1 hx.2 hq h1'
          obtain ⟨c1, c2, c3, c4, c5, c6⟩ := ihl q1 ts' q2 (fun y hy => hxl y (List.mem_cons_of_mem _ hy)) a4 h2'
          rw [kids_cons]
          rw [← a5]
          refine ⟨?_, ?_, by rw [a3, c3], c4, by simp only [List.length_append]; omega, ?_⟩
          · intro y hy
            rcases List.mem_cons.1 hy with rfl | hy
            · exact a1
            · exact c1 y hy
          · intro y hy
            rcases List.mem_cons.1 hy with rfl | hy
            · exact a2
            · exact c2 y hy
          · simp only [List.length_append]
            rw [List.take_add, a6, List.drop_drop, ← a5, c6]
      obtain ⟨g1, g2, g3, g4, g5, g6⟩ := hgoes _ _ _ _ (fun x hx => List.mem_of_mem_drop (List.mem_of_mem_take hx)) (by omega) hsome
      have hpl : ps.length = m := by
        rw [goes_length hsome, List.length_take, List.length_drop]
        omega
      have hkk := hl
      simp only [hasL, decide_eq_true_eq] at hkk
      have hfk : fitB k n' 0 m = true ∧ hh = (leadW k n' m).length ∧ (xs.drop i).take hh = leadW k n' m := by
        rw [headR] at hhead
        split at hhead
        · rename_i h9
          simp only [Option.some.injEq, Prod.mk.injEq] at hhead
          obtain ⟨rfl, rfl, rfl⟩ := hhead
          subst h9
          exact ⟨by decide, rfl, rfl⟩
        · rename_i h9
          split at hhead
          · cases hhead
          rename_i hd hhd
          obtain ⟨hlt, hhd⟩ := List.getElem?_eq_some_iff.1 hhd
          have hm := hxs hd (by rw [← hhd]; exact List.getElem_mem _)
          have htake : (xs.drop i).take 1 = [hd] := by
            rw [← hhd]
            rw [List.drop_eq_getElem_cons hlt]
            rfl
          split at hhead
          · rename_i h7
            simp only [Option.some.injEq, Prod.mk.injEq] at hhead
            obtain ⟨rfl, rfl, rfl⟩ := hhead
            obtain ⟨rfl, hK⟩ := h7
            have hub : Wd.unB hd = true := by
              by_cases hub : Wd.unB hd = true
              · exact hub
              · rw [Wd.unK, if_neg hub] at hK; omega
            have hbk := Wd.back2 hd hm.1 hm.2 hub
            have hok' := (Wd.okB_iff _ _).1 hub
            rw [Wd.unK, if_pos hub] at hK
            rw [Wd.unN, if_pos hub]
            rw [hK] at hok' hbk
            have p1 : Wd.lo 10 = 0 := rfl
            have p2 : Wd.hi 10 = 64 := rfl
            have e1 : leadW 7 0 (Wd.nm hd).toNat = [hd] := by
              rw [show leadW 7 0 (Wd.nm hd).toNat = [Wd.packW 10 (Wd.nm hd).toNat] from rfl, Int.toNat_of_nonneg (by omega), hbk]
            refine ⟨?_, by rw [e1]; rfl, by rw [e1]; exact htake⟩
            rw [fitB, decide_eq_true_eq]
            omega
          · split at hhead
            · rename_i h5
              simp only [Option.some.injEq, Prod.mk.injEq] at hhead
              obtain ⟨rfl, rfl, rfl⟩ := hhead
              obtain ⟨rfl, hK⟩ := h5
              have hub : Wd.unB hd = true := by
                by_cases hub : Wd.unB hd = true
                · exact hub
                · rw [Wd.unK, if_neg hub] at hK; omega
              have hbk := Wd.back2 hd hm.1 hm.2 hub
              have hok' := (Wd.okB_iff _ _).1 hub
              rw [Wd.unK, if_pos hub] at hK
              rw [Wd.unN, if_pos hub]
              rw [hK] at hok' hbk
              have p1 : Wd.lo 11 = 0 := rfl
              have p2 : Wd.hi 11 = 137438953536 := rfl
              have e1 : leadW 5 (Wd.nm hd / 128) (Wd.nm hd % 128).toNat = [hd] := by
                rw [show leadW 5 (Wd.nm hd / 128) (Wd.nm hd % 128).toNat = [Wd.packW 11 (Wd.nm hd / 128 * 128 + (Wd.nm hd % 128).toNat)] from rfl, Int.toNat_of_nonneg (by omega), show Wd.nm hd / 128 * 128 + Wd.nm hd % 128 = Wd.nm hd by omega, hbk]
              refine ⟨?_, by rw [e1]; rfl, by rw [e1]; exact htake⟩
              rw [fitB, decide_eq_true_eq]
              omega
            · cases hhead
      obtain ⟨f1, f2, f3⟩ := hfk
      subst hpl
      have hq : i + (leadW k n' ps.length).length + ps.length = i + hh + ps.length := by rw [← f2]
      refine ⟨?_, ?_, ?_, g4, ?_, ?_⟩
      · rw [fits_mk, Bool.and_eq_true]
        exact ⟨f1, fitss_of g1⟩
      · rw [known_mk]
        exact ⟨fun e => by omega, knowns_of g2⟩
      · rw [own_mk, numF, if_neg (by omega), if_pos hl, ← hni]
        exact hb2
      · rw [laid_mk, hq, List.length_append, List.length_append, kids_length, ← f2]
        omega
      · rw [laid_mk, hq, List.length_append, List.length_append, List.take_add, List.take_add, kids_length, ← f2, f3, g3, List.drop_drop, List.drop_drop]
        rw [show i + (hh + ps.length) = i + hh + ps.length by omega, g6]
theorem read_write (F : List ByteArray) (xs : List Int) (hG : Good F) (hN : Nub F) (hxs : ∀ x ∈ xs, 0 ≤ x ∧ x < 18446744073709551616) {T : Tm} (h : readR F xs = some T) : T.fits = true ∧ T.known F ∧ T.flat F = xs := by
  rw [readR] at h
  split at h
  · rename_i t j hs
    split at h
    · rename_i hj
      cases h
      rw [someR] at hs
      split at hs
      · cases hs
      rename_i hlen
      cases xs with
      | nil => simp at hlen
      | cons x r =>
        simp only [List.drop_zero, List.take_succ_cons, List.take_zero, goes] at hs
        split at hs
        · cases hs
        rename_i t' j' h1
        simp only [Option.some.injEq, Prod.mk.injEq, List.cons.injEq, and_true] at hs
        obtain ⟨rfl, rfl⟩ := hs
        have hx := hxs x (List.mem_cons_self ..)
        obtain ⟨a1, a2, a3, _, a5, a6⟩ := one_write F (x :: r) hG hN hxs _ _ _ _ _ hx.1 hx.2 (by simp) h1
        refine ⟨a1, a2, ?_⟩
        rw [Tm.flat, Nat.zero_add] at *
        rw [a3]
        simp only [List.drop_succ_cons, List.drop_zero, List.length_cons] at a6 hj
        rw [List.take_of_length_le (by omega)] at a6
        rw [← a6]
    · cases h
  · cases h
end Go.Proofs.YtaiiicmldogjoaaDoor
