/-
  The reader of the document's answers: numbers, read sign by sign. Nothing of the program stands here.
-/
import Derived.Test.YtnbekfpkmebmbaaGreatDoorZOrdPlain
namespace Go.Proofs.YtnbekfpkmebmbaaGreatDoor

theorem tw_all {p : UInt8 → Bool} : ∀ {q : List UInt8} {c : UInt8}, c ∈ q.takeWhile p → p c = true := by
  intro q
  induction q with
  | nil => intro c h; cases h
  | cons a q ih =>
    intro c h
    rw [List.takeWhile_cons] at h
    split at h
    · rename_i ha
      rcases List.mem_cons.1 h with rfl | h
      · exact ha
      · exact ih h
    · cases h
/-- The number of these signs, below zero: a '-' counts nothing. -/
def nvS (a : Int) (c : UInt8) : Int := if c = 45 then a else 10 * a - ((c.toNat : Int) - 48)
def nv (l : List UInt8) : Int := l.foldl nvS 0
theorem nv_snoc (l : List UInt8) (c : UInt8) : nv (l ++ [c]) = nvS (nv l) c := by simp [nv]
theorem dig_toNat {c : UInt8} (h : isDig c = true) : 48 ≤ c.toNat ∧ c.toNat ≤ 57 := of_decide_eq_true h
theorem nvS_dig {a : Int} {c : UInt8} (h : isDig c = true) : nvS a c = 10 * a - ((c.toNat : Int) - 48) := by
  rw [nvS, if_neg (dig_not45 h)]
theorem nv_digs : ∀ (l : List UInt8) (a : Nat), (∀ c ∈ l, isDig c = true) → l.foldl nvS (-(a : Int)) = -((l.foldl (fun a c => 10 * a + (c.toNat - 48)) a : Nat) : Int) := by
  intro l
  induction l with
  | nil => intro a _; rfl
  | cons c l ih =>
    intro a h
    have h0 := h c List.mem_cons_self
    have h1 := dig_toNat h0
    rw [List.foldl_cons, List.foldl_cons, nvS_dig h0, ← ih _ fun d hd => h d (List.mem_cons_of_mem _ hd)]
    congr 1
    omega
theorem nv_falls : ∀ (l : List UInt8) (a : Int), a ≤ 0 → (∀ c ∈ l, c = 45 ∨ isDig c = true) → l.foldl nvS a ≤ a := by
  intro l
  induction l with
  | nil => intro a _ _; exact Int.le_refl _
  | cons c l ih =>
    intro a ha h
    rw [List.foldl_cons]
    have hs : nvS a c ≤ a := by
      rcases h c List.mem_cons_self with rfl | hc
      · exact Int.le_refl _
      · have h1 := dig_toNat hc
        rw [nvS_dig hc]
        omega
    exact Int.le_trans (ih _ (Int.le_trans hs ha) fun d hd => h d (List.mem_cons_of_mem _ hd)) hs
theorem nv_take {l : List UInt8} (h : ∀ c ∈ l, c = 45 ∨ isDig c = true) (k : Nat) : nv l ≤ nv (l.take k) ∧ nv (l.take k) ≤ 0 := by
  have h1 : nv (l.take k) ≤ 0 := nv_falls _ 0 (Int.le_refl _) fun c hc => h c (List.mem_of_mem_take hc)
  refine ⟨?_, h1⟩
  have e : nv l = (l.drop k).foldl nvS (nv (l.take k)) := by rw [nv, nv, ← List.foldl_append, List.take_append_drop]
  rw [e]
  exact nv_falls _ _ h1 fun c hc => h c (List.mem_of_mem_drop hc)
/-- How many signs stand ahead of the digits. -/
def sgn (q : List UInt8) : Nat := if q.head? = some 45 then 1 else 0
theorem sgn_le (q : List UInt8) : sgn q ≤ (numSpan q).length := by
  unfold sgn numSpan
  split <;> simp
theorem span_all (q : List UInt8) : ∀ c ∈ numSpan q, c = 45 ∨ isDig c = true := by
  intro c hc
  unfold numSpan at hc
  split at hc
  · rcases List.mem_cons.1 hc with h | h
    · exact Or.inl h
    · exact Or.inr (tw_all h)
  · exact Or.inr (tw_all hc)
theorem span_pre (q : List UInt8) : numSpan q <+: q := by
  rw [(numSpan_rest q).1]
  conv => lhs; rw [← (numSpan_rest q).1]
  exact List.prefix_append _ _
theorem span_get (q : List UInt8) (k : Nat) (h : k < (numSpan q).length) : ∃ h2 : k < q.length, q[k] = (numSpan q)[k] := by
  obtain ⟨r, hr⟩ := span_pre q
  have h2 : k < q.length := by rw [← hr, List.length_append]; omega
  refine ⟨h2, ?_⟩
  have : q[k]? = (numSpan q)[k]? := by
    conv => lhs; rw [← hr]
    exact List.getElem?_append_left h
  rw [List.getElem?_eq_getElem h2, List.getElem?_eq_getElem h] at this
  exact Option.some.inj this
/-- A digit comes next, within the signs of a number, till they end. -/
theorem span_next {q : List UInt8} {m : Nat} (h1 : sgn q ≤ m) (h2 : m ≤ (numSpan q).length) : isDig ((q.drop m).headD 0) = decide (m < (numSpan q).length) := by
  by_cases h : m < (numSpan q).length
  · obtain ⟨h3, h4⟩ := span_get q m h
    rw [decide_eq_true h, List.drop_eq_getElem_cons h3, List.headD_cons, h4]
    generalize hx : (numSpan q)[m] = x
    unfold numSpan sgn at *
    split at h1
    · rename_i hq
      simp only [if_pos hq] at hx
      cases m with
      | zero => omega
      | succ m =>
        simp only [List.getElem_cons_succ] at hx
        exact tw_all (hx ▸ List.getElem_mem _)
    · rename_i hq
      simp only [if_neg hq] at hx
      exact tw_all (hx ▸ List.getElem_mem _)
  · have e : m = (numSpan q).length := by omega
    subst e
    rw [decide_eq_false h]
    have hr := (numSpan_rest q).2
    cases hd : q.drop (numSpan q).length with
    | nil => rfl
    | cons c r => exact hr c r hd
theorem numVal_nv {q : List UInt8} {m : Nat} (h1 : sgn q ≤ m) (h2 : m ≤ (numSpan q).length) : numVal ((numSpan q).take m) = if sgn q = 1 then nv ((numSpan q).take m) else -nv ((numSpan q).take m) := by
  by_cases hq : q.head? = some 45
  · have e1 : numSpan q = 45 :: q.tail.takeWhile isDig := if_pos hq
    have e2 : sgn q = 1 := if_pos hq
    rw [e1] at h2 ⊢
    rw [e2] at h1 ⊢
    cases m with
    | zero => omega
    | succ m =>
      have hd := nv_digs ((q.tail.takeWhile isDig).take m) 0 fun c hc => tw_all (List.mem_of_mem_take hc)
      rw [List.take_succ_cons, numVal, List.head?_cons, if_pos rfl, List.tail_cons, if_pos rfl]
      exact hd.symm
  · have e1 : numSpan q = q.takeWhile isDig := if_neg hq
    have e2 : sgn q = 0 := if_neg hq
    rw [e1] at h2 ⊢
    rw [e2] at h1 ⊢
    have hall : ∀ c ∈ (q.takeWhile isDig).take m, isDig c = true := fun c hc => tw_all (List.mem_of_mem_take hc)
    have hh : ¬ ((q.takeWhile isDig).take m).head? = some 45 := fun h => by
      have h9 := hall 45 (List.mem_of_mem_head? h)
      cases h9
    rw [numVal, if_neg hh, if_neg (by decide)]
    have hd := nv_digs ((q.takeWhile isDig).take m) 0 hall
    have : nv ((q.takeWhile isDig).take m) = -((valD ((q.takeWhile isDig).take m) : Nat) : Int) := hd
    omega
theorem decF_short : ∀ (f n g : Nat), n < 10 ^ (g + 1) → (decF f n).length ≤ g + 1 := by
  intro f
  induction f with
  | zero => intro n g _; simp [decF]
  | succ f ih =>
    intro n g h
    rw [decF]
    split
    · simp
    · rename_i hn
      cases g with
      | zero => simp at h; omega
      | succ g =>
        have := ih (n / 10) g (by rw [Nat.pow_succ] at h; omega)
        rw [List.length_append, List.length_singleton]
        omega
theorem dec_short {n : Int} (h1 : -1000000000000000000 < n) (h2 : n < 1000000000000000000) : (dec n).length ≤ 19 := by
  unfold dec
  split
  · have := decF_short 20 (-n).toNat 17 (by omega)
    simp only [List.length_cons, decN]
    omega
  · have := decF_short 20 n.toNat 17 (by omega)
    simp only [decN]
    omega
/-- What is to be: too long a number is none. -/
theorem numI_long {lo hi : Int} {q : List UInt8} (h0 : -1000000000000000000 < lo) (h1 : hi < 1000000000000000000) (h : 20 ≤ (numSpan q).length) : numI lo hi q = none := by
  unfold numI
  split
  · rename_i h2
    have := dec_short (by omega : -1000000000000000000 < numVal (numSpan q)) (by omega)
    rw [h2.1] at this
    omega
  · rfl
/-- Too great a number is none. -/
theorem numI_great {lo hi : Int} {q : List UInt8} {k : Nat} (h0 : -576460752303423488 ≤ lo) (h1 : hi ≤ 576460752303423487) (h : nv ((numSpan q).take k) < -576460752303423488) : numI lo hi q = none := by
  unfold numI
  split
  · rename_i h2
    have e := numVal_nv (sgn_le q) (Nat.le_refl _)
    rw [List.take_length] at e
    have := nv_take (span_all q) k
    split at e <;> omega
  · rfl
/-- What comes of the first m signs, where no more are read. -/
theorem numI_at {lo hi : Int} {q : List UInt8} {m : Nat} (h0 : -1000000000000000000 < lo) (h1 : hi < 1000000000000000000) (h2 : m ≤ (numSpan q).length) (hm : m = (numSpan q).length ∨ m = 20) :
    numI lo hi q = if lo ≤ numVal ((numSpan q).take m) ∧ numVal ((numSpan q).take m) ≤ hi ∧ q.take m = dec (numVal ((numSpan q).take m)) then some (numVal ((numSpan q).take m), q.drop m) else none := by
  have he : q.take m = (numSpan q).take m := by
    obtain ⟨r, hr⟩ := span_pre q
    conv => lhs; rw [← hr]
    exact List.take_append_of_le_length h2
  rw [he]
  by_cases hl : m = (numSpan q).length
  · subst hl
    rw [List.take_length]
    unfold numI
    split
    · rename_i h3
      rw [if_pos ⟨h3.2.1, h3.2.2, h3.1.symm⟩]
    · rename_i h3
      rw [if_neg fun h => h3 ⟨h.2.2.symm, h.1, h.2.1⟩]
  · have h20 : m = 20 := hm.resolve_left hl
    rw [numI_long h0 h1 (by omega), if_neg]
    intro h
    have h4 := dec_short (n := numVal ((numSpan q).take m)) (by omega) (by omega)
    rw [← h.2.2, List.length_take] at h4
    omega

end Go.Proofs.YtnbekfpkmebmbaaGreatDoor
