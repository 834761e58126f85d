/-
  Buckets of items, as plain lists: what is put, taken out, split and joined; how many there are; where each item stands.
-/
import Derived.Test.YtkijbphbibcnoaaKitSplit
namespace Go.Proofs.Ytkijbphbibcnoaa
open Go.RowKit Go.Deep

/-- An item: its hash, its number. -/
abbrev It := Nat × Int
/-- Buckets: the items of each. -/
abbrev Bks := List (List It)
/-- How many items there are. -/
def szB (B : Bks) : Nat := (B.map List.length).sum
/-- Whether one bucket more is wanted, or one fewer. -/
def wantsB (least : Nat) (B : Bks) : Int := if 2 * B.length < szB B ∧ B.length < 1048576 then 1 else if least < B.length ∧ 2 * szB B < B.length then -1 else 0
/-- The items of a bucket. -/
def rowB (B : Bks) (n : Nat) : List It := B[n]?.getD []
def ofB (B : Bks) (h : Nat) : Nat := bkt h B.length
def addB (B : Bks) (h : Nat) (id : Int) : Bks := B.set (ofB B h) (rowB B (ofB B h) ++ [(h, id)])
def hasB (B : Bks) (h : Nat) (id : Int) : Bool := decide ((h, id) ∈ rowB B (ofB B h))
def removeB (B : Bks) (h : Nat) (id : Int) : Bks := B.set (ofB B h) ((rowB B (ofB B h)).erase (h, id))
def isH (h : Nat) (x : It) : Bool := decide (x.1 = h)
def chainB (B : Bks) (h : Nat) : List It := (rowB B (ofB B h)).filter (isH h)
def goesTo (n j : Nat) (x : It) : Bool := decide (bkt x.1 n = j)
def splitB (B : Bks) : Bks := (List.range (B.length + 1)).map fun j => B.flatten.filter (goesTo (B.length + 1) j)
def joinB (B : Bks) : Bks := (List.range (B.length - 1)).map fun j => rowB B j ++ (rowB B (B.length - 1)).filter (goesTo (B.length - 1) j)
/-- Each item stands in the bucket of its hash. -/
structure Placed (B : Bks) : Prop where
  at_ : ∀ n x, x ∈ rowB B n → x.1 < 4294967296 ∧ bkt x.1 B.length = n
  some_ : 1 ≤ B.length

theorem rowB_lt {B : Bks} {n : Nat} (h : n < B.length) : rowB B n = B[n] := by simp [rowB, h]
theorem rowB_ge {B : Bks} {n : Nat} (h : B.length ≤ n) : rowB B n = [] := by simp [rowB, List.getElem?_eq_none h]
theorem rowB_set {B : Bks} {n j : Nat} {l : List It} (h : n < B.length) : rowB (B.set n l) j = if j = n then l else rowB B j := by
  unfold rowB
  rw [List.getElem?_set]
  by_cases e : j = n
  · subst e
    simp [h]
  · rw [if_neg (fun e' => e e'.symm), if_neg e]
theorem rowB_map {n j : Nat} {f : Nat → List It} (h : j < n) : rowB ((List.range n).map f) j = f j := by
  unfold rowB
  simp [h]
theorem ofB_lt {B : Bks} (h : 1 ≤ B.length) (x : Nat) : ofB B x < B.length := bkt_lt x _ h

theorem addB_len (B : Bks) (h : Nat) (id : Int) : (addB B h id).length = B.length := by simp [addB]
theorem removeB_len (B : Bks) (h : Nat) (id : Int) : (removeB B h id).length = B.length := by simp [removeB]
theorem splitB_len (B : Bks) : (splitB B).length = B.length + 1 := by simp [splitB]
theorem joinB_len (B : Bks) : (joinB B).length = B.length - 1 := by simp [joinB]

theorem sum_set {l : List Nat} {n x : Nat} (h : n < l.length) : (l.set n x).sum + l[n] = l.sum + x := by
  induction l generalizing n with
  | nil => simp at h
  | cons a r ih =>
    cases n with
    | zero => simp; omega
    | succ n =>
      have := ih (n := n) (by simpa using h)
      simp
      omega
theorem szB_set {B : Bks} {n : Nat} {l : List It} (h : n < B.length) : szB (B.set n l) + (rowB B n).length = szB B + l.length := by
  unfold szB
  rw [List.map_set, rowB_lt h]
  have := sum_set (l := B.map List.length) (n := n) (x := l.length) (by simpa using h)
  simpa using this
theorem szB_add {B : Bks} (hB : 1 ≤ B.length) (h : Nat) (id : Int) : szB (addB B h id) = szB B + 1 := by
  have := szB_set (l := rowB B (ofB B h) ++ [(h, id)]) (ofB_lt hB h)
  unfold addB
  simp at this
  omega
theorem szB_remove {B : Bks} (hB : 1 ≤ B.length) {h : Nat} {id : Int} (hh : hasB B h id = true) : szB (removeB B h id) + 1 = szB B := by
  have := szB_set (l := (rowB B (ofB B h)).erase (h, id)) (ofB_lt hB h)
  unfold hasB at hh
  have hm := of_decide_eq_true hh
  have hl := List.length_erase_of_mem hm
  have hp := List.length_pos_of_mem hm
  unfold removeB
  omega
theorem removeB_not {B : Bks} {h : Nat} {id : Int} (hh : hasB B h id = false) : removeB B h id = B := by
  unfold hasB at hh
  have hm := of_decide_eq_false hh
  unfold removeB
  rw [List.erase_of_not_mem hm]
  unfold rowB
  by_cases hl : ofB B h < B.length
  · simp [hl]
  · rw [List.set_eq_of_length_le (by omega)]
/-- A sum over the numbers below n. -/
def sumN (f : Nat → Nat) (n : Nat) : Nat := ((List.range n).map f).sum
theorem sumN_succ (f : Nat → Nat) (n : Nat) : sumN f (n + 1) = sumN f n + f n := by simp [sumN, List.range_succ]
theorem sumN_add (f g : Nat → Nat) (n : Nat) : sumN (fun j => f j + g j) n = sumN f n + sumN g n := by
  induction n with
  | zero => rfl
  | succ n ih => rw [sumN_succ, sumN_succ, sumN_succ, ih]; omega
theorem sumN_congr {f g : Nat → Nat} {n : Nat} (h : ∀ j, j < n → f j = g j) : sumN f n = sumN g n := by
  induction n with
  | zero => rfl
  | succ n ih => rw [sumN_succ, sumN_succ, ih (fun j hj => h j (by omega)), h n (by omega)]
theorem sumN_one (k n : Nat) : sumN (fun j => if k = j then 1 else 0) n = if k < n then 1 else 0 := by
  induction n with
  | zero => simp [sumN]
  | succ n ih =>
    rw [sumN_succ, ih]
    by_cases e : k = n
    · subst e; simp
    · by_cases e2 : k < n
      · rw [if_pos e2, if_neg e, if_pos (by omega)]
      · rw [if_neg e2, if_neg e, if_neg (by omega)]
/-- Lists that are parted by numbers below n have all items. -/
theorem parts_sum (l : List It) (f : It → Nat) (n : Nat) (hf : ∀ x ∈ l, f x < n) : sumN (fun j => (l.filter fun x => decide (f x = j)).length) n = l.length := by
  induction l with
  | nil =>
    have := sumN_congr (f := fun j => (([] : List It).filter fun x => decide (f x = j)).length) (g := fun _ => 0) (n := n) (fun _ _ => rfl)
    rw [this]
    induction n with
    | zero => rfl
    | succ n ih => rw [sumN_succ, ih (fun x hx => by cases hx) (sumN_congr fun _ _ => rfl)]; rfl
  | cons a r ih =>
    have ha := hf a (List.mem_cons_self ..)
    rw [sumN_congr (g := fun j => (if f a = j then 1 else 0) + (r.filter fun x => decide (f x = j)).length) (fun j _ => ?_), sumN_add, sumN_one, if_pos ha, ih (fun x hx => hf x (List.mem_cons_of_mem _ hx)), List.length_cons, Nat.add_comm]
    by_cases e : f a = j
    · rw [List.filter_cons_of_pos (by simp [e]), if_pos e, List.length_cons, Nat.add_comm]
    · rw [List.filter_cons_of_neg (by simp [e]), if_neg e, Nat.zero_add]
theorem szB_flat (B : Bks) : B.flatten.length = szB B := by
  unfold szB
  rw [List.length_flatten]
theorem szB_split (B : Bks) : szB (splitB B) = szB B := by
  have := parts_sum B.flatten (fun x => bkt x.1 (B.length + 1)) (B.length + 1) (fun x _ => bkt_lt x.1 _ (by omega))
  rw [szB_flat] at this
  unfold szB splitB
  rw [List.map_map]
  exact this
theorem sum_rows (B : Bks) (n : Nat) (h : n ≤ B.length) : sumN (fun j => (rowB B j).length) n = szB (B.take n) := by
  induction n with
  | zero => rfl
  | succ n ih =>
    have e : B.take (n + 1) = B.take n ++ [B[n]'(by omega)] := by rw [List.take_add_one, List.getElem?_eq_getElem (by omega)]; rfl
    rw [sumN_succ, ih (by omega), rowB_lt (by omega), e]
    unfold szB
    rw [List.map_append, List.sum_append]
    simp
theorem szB_join {B : Bks} (h : 2 ≤ B.length) : szB (joinB B) = szB B := by
  have hp := parts_sum (rowB B (B.length - 1)) (fun x => bkt x.1 (B.length - 1)) (B.length - 1) (fun x _ => bkt_lt x.1 _ (by omega))
  have hr := sum_rows B (B.length - 1) (by omega)
  have hr2 := sum_rows B (B.length - 1 + 1) (by omega)
  rw [sumN_succ, hr, show B.length - 1 + 1 = B.length by omega, List.take_length] at hr2
  have e : szB (joinB B) = sumN (fun j => (rowB B j).length + ((rowB B (B.length - 1)).filter (goesTo (B.length - 1) j)).length) (B.length - 1) := by
    unfold szB joinB sumN
    rw [List.map_map]
    congr 1
    refine List.map_congr_left fun j _ => ?_
    simp
  have e3 : sumN (fun j => ((rowB B (B.length - 1)).filter (goesTo (B.length - 1) j)).length) (B.length - 1) = (rowB B (B.length - 1)).length := hp
  rw [e, sumN_add, hr, e3, hr2]

theorem placed_new {n : Nat} (h : 1 ≤ n) : Placed (List.replicate n []) := ⟨fun j x hx => by
  unfold rowB at hx
  rw [List.getElem?_replicate] at hx
  split at hx <;> simp at hx, by simpa using h⟩
theorem placed_add {B : Bks} (p : Placed B) {h : Nat} (hh : h < 4294967296) (id : Int) : Placed (addB B h id) := by
  refine ⟨fun n x hx => ?_, by rw [addB_len]; exact p.some_⟩
  rw [addB_len]
  unfold addB at hx
  rw [rowB_set (ofB_lt p.some_ h)] at hx
  split at hx
  · rename_i e
    subst e
    rcases List.mem_append.1 hx with hx | hx
    · exact p.at_ _ _ hx
    · rw [List.mem_singleton.1 hx]
      exact ⟨hh, rfl⟩
  · exact p.at_ _ _ hx
theorem placed_remove {B : Bks} (p : Placed B) (h : Nat) (id : Int) : Placed (removeB B h id) := by
  refine ⟨fun n x hx => ?_, by rw [removeB_len]; exact p.some_⟩
  rw [removeB_len]
  unfold removeB at hx
  rw [rowB_set (ofB_lt p.some_ h)] at hx
  split at hx
  · rename_i e
    subst e
    exact p.at_ _ _ (List.mem_of_mem_erase hx)
  · exact p.at_ _ _ hx
theorem mem_flatten_rowB {B : Bks} {x : It} (h : x ∈ B.flatten) : ∃ n, x ∈ rowB B n := by
  obtain ⟨l, hl, hx⟩ := List.mem_flatten.1 h
  obtain ⟨n, hn, rfl⟩ := List.mem_iff_getElem.1 hl
  exact ⟨n, by rw [rowB_lt hn]; exact hx⟩
theorem placed_split {B : Bks} (p : Placed B) : Placed (splitB B) := by
  refine ⟨fun n x hx => ?_, by rw [splitB_len]; omega⟩
  rw [splitB_len]
  by_cases hn : n < B.length + 1
  · unfold splitB at hx
    rw [rowB_map hn, List.mem_filter] at hx
    obtain ⟨m, hm⟩ := mem_flatten_rowB hx.1
    exact ⟨(p.at_ _ _ hm).1, of_decide_eq_true hx.2⟩
  · rw [rowB_ge (by rw [splitB_len]; omega)] at hx
    cases hx
theorem bkt_back (h n : Nat) (hn : 1 ≤ n) (hl : bkt h (n + 1) < n) : bkt h n = bkt h (n + 1) := by
  rcases (bkt_split h n hn).1 with e | e
  · exact e.symm
  · omega
theorem placed_join {B : Bks} (p : Placed B) (h : 2 ≤ B.length) : Placed (joinB B) := by
  refine ⟨fun n x hx => ?_, by rw [joinB_len]; omega⟩
  rw [joinB_len]
  by_cases hn : n < B.length - 1
  · unfold joinB at hx
    rw [rowB_map hn] at hx
    rcases List.mem_append.1 hx with hx | hx
    · obtain ⟨h1, h2⟩ := p.at_ _ _ hx
      have hb := bkt_back x.1 (B.length - 1) (by omega) (by rw [show B.length - 1 + 1 = B.length by omega]; omega)
      rw [show B.length - 1 + 1 = B.length by omega] at hb
      exact ⟨h1, by rw [hb]; exact h2⟩
    · rw [List.mem_filter] at hx
      exact ⟨(p.at_ _ _ hx.1).1, of_decide_eq_true hx.2⟩
  · rw [rowB_ge (by rw [joinB_len]; omega)] at hx
    cases hx

/-- All items of a hash stand in one bucket. -/
theorem flat_rows (B : Bks) (q : It → Bool) (n : Nat) (h : ∀ j, j ≠ n → (rowB B j).filter q = []) : B.flatten.filter q = (rowB B n).filter q := by
  induction B generalizing n with
  | nil => simp [rowB]
  | cons a r ih =>
    rw [List.flatten_cons, List.filter_append]
    cases n with
    | zero =>
      have h1 : ∀ j, (rowB r j).filter q = [] := fun j => h (j + 1) (by omega)
      rw [ih r.length (fun j _ => h1 j), h1]
      simp [rowB]
    | succ n =>
      have h0 := h 0 (by omega)
      rw [ih n (fun j hj => h (j + 1) (by omega))]
      simp [rowB] at h0 ⊢
      simpa using h0
theorem row_none {B : Bks} (p : Placed B) {h j : Nat} (hj : j ≠ ofB B h) : (rowB B j).filter (isH h) = [] := by
  rw [List.filter_eq_nil_iff]
  intro x hx e
  have := (p.at_ _ _ hx).2
  have e' : x.1 = h := of_decide_eq_true e
  exact hj (by rw [← this, e']; rfl)
theorem chainB_flat {B : Bks} (p : Placed B) (h : Nat) : chainB B h = B.flatten.filter (isH h) := (flat_rows B (isH h) (ofB B h) fun _ hj => row_none p hj).symm
theorem isH_goes (h n j : Nat) (hj : j = bkt h n) (l : List It) : (l.filter (goesTo n j)).filter (isH h) = l.filter (isH h) := by
  rw [List.filter_filter]
  refine List.filter_congr fun x _ => ?_
  unfold isH goesTo
  by_cases e : x.1 = h
  · simp [e, hj]
  · simp [e]
theorem chain_split {B : Bks} (p : Placed B) (h : Nat) : chainB (splitB B) h = chainB B h := by
  rw [chainB_flat p]
  unfold chainB ofB
  rw [splitB_len]
  unfold splitB
  rw [rowB_map (bkt_lt h _ (by omega)), isH_goes _ _ _ rfl]
theorem chain_join {B : Bks} (p : Placed B) (hB : 2 ≤ B.length) (h : Nat) : chainB (joinB B) h = chainB B h := by
  have hl : bkt h (B.length - 1) < B.length - 1 := bkt_lt h _ (by omega)
  have e1 : chainB (joinB B) h = (rowB B (bkt h (B.length - 1))).filter (isH h) ++ (rowB B (B.length - 1)).filter (isH h) := by
    unfold chainB ofB
    rw [joinB_len]
    unfold joinB
    rw [rowB_map hl, List.filter_append, isH_goes _ _ _ rfl]
  rw [e1]
  have hs := (bkt_split h (B.length - 1) (by omega)).1
  rw [show B.length - 1 + 1 = B.length by omega] at hs
  rcases hs with e | e
  · rw [row_none p (j := B.length - 1) (by unfold ofB; omega), List.append_nil, ← e]
    rfl
  · rw [row_none p (j := bkt h (B.length - 1)) (by unfold ofB; omega), List.nil_append]
    unfold chainB ofB
    rw [e]
theorem chain_add {B : Bks} (p : Placed B) (h h' : Nat) (id : Int) : chainB (addB B h id) h' = chainB B h' ++ (if h = h' then [(h, id)] else []) := by
  unfold chainB ofB
  rw [addB_len]
  unfold addB
  rw [rowB_set (ofB_lt p.some_ h)]
  by_cases e : h = h'
  · subst e
    simp [ofB, isH]
  · rw [if_neg e, List.append_nil]
    split
    · rename_i e2
      rw [List.filter_append]
      have : List.filter (isH h') [(h, id)] = [] := by simp [isH, e]
      rw [this, List.append_nil, ← e2]
    · rfl
theorem filter_erase (l : List It) (q : It → Bool) (x : It) : (l.erase x).filter q = if q x then (l.filter q).erase x else l.filter q := by
  induction l with
  | nil => simp
  | cons a r ih =>
    by_cases e : a = x
    · subst e
      by_cases hq : q a = true
      · simp [hq]
      · simp [hq]
    · rw [List.erase_cons_tail (by simpa using e)]
      by_cases hq : q a = true
      · rw [List.filter_cons_of_pos hq, List.filter_cons_of_pos hq, ih]
        split
        · rw [List.erase_cons_tail (by simpa using e)]
        · rfl
      · rw [List.filter_cons_of_neg hq, List.filter_cons_of_neg hq, ih]
theorem chain_remove {B : Bks} (p : Placed B) (h h' : Nat) (id : Int) : chainB (removeB B h id) h' = if h = h' then (chainB B h').erase (h, id) else chainB B h' := by
  unfold chainB ofB
  rw [removeB_len]
  unfold removeB
  rw [rowB_set (ofB_lt p.some_ h)]
  by_cases e : h = h'
  · subst e
    rw [if_pos rfl, if_pos (show bkt h B.length = ofB B h from rfl), filter_erase, if_pos (by simp [isH])]
    rfl
  · rw [if_neg e]
    split
    · rename_i e2
      rw [filter_erase, if_neg (by simp [isH, e]), ← e2]
    · rfl
theorem has_chain {B : Bks} {h : Nat} {id : Int} (hm : (h, id) ∈ chainB B h) : hasB B h id = true := by
  unfold chainB at hm
  exact decide_eq_true (List.mem_filter.1 hm).1

/-- How a bucket is split: which one, what stays, what goes. -/
theorem splitB_eq {B : Bks} (p : Placed B) : splitB B = B.set (srcN B.length) ((rowB B (srcN B.length)).filter (goesTo (B.length + 1) (srcN B.length))) ++ [(rowB B (srcN B.length)).filter (goesTo (B.length + 1) B.length)] := by
  have hp := p.some_
  have key : ∀ j, j < B.length + 1 → ∀ n, (j < B.length → n = j) → (j = B.length → n = srcN B.length) → B.flatten.filter (goesTo (B.length + 1) j) = (rowB B n).filter (goesTo (B.length + 1) j) := by
    intro j hj n h1 h2
    refine flat_rows B _ n fun m hm => ?_
    rw [List.filter_eq_nil_iff]
    intro x hx e
    have hb := (p.at_ _ _ hx).2
    have e' : bkt x.1 (B.length + 1) = j := of_decide_eq_true e
    have hs := bkt_split x.1 B.length hp
    by_cases hjl : j < B.length
    · rcases hs.1 with e2 | e2
      · exact hm (by rw [h1 hjl]; omega)
      · omega
    · have : j = B.length := by omega
      exact hm (by rw [h2 this, ← hb]; exact hs.2 (by omega))
  have hsrc : ∀ x n, x ∈ rowB B n → n ≠ srcN B.length → bkt x.1 (B.length + 1) = n := by
    intro x n hx hn
    have hb := (p.at_ _ _ hx).2
    have hs := bkt_split x.1 B.length hp
    rcases hs.1 with e | e
    · omega
    · exact absurd ((hs.2 e).symm.trans hb) (fun e' => hn e'.symm)
  apply List.ext_getElem
  · simp [splitB_len]
  · intro j h1 h2
    rw [splitB_len] at h1
    have e : (splitB B)[j] = B.flatten.filter (goesTo (B.length + 1) j) := by simp [splitB]
    rw [e]
    by_cases hj : j < B.length
    · rw [key j (by omega) j (fun _ => rfl) (fun e => by omega), List.getElem_append_left (by simpa using hj), List.getElem_set]
      by_cases hs : srcN B.length = j
      · rw [if_pos hs, hs]
      · rw [if_neg hs, rowB_lt hj, List.filter_eq_self]
        intro x hx
        exact decide_eq_true (hsrc x j (by rw [rowB_lt hj]; exact hx) (fun e => hs e.symm))
    · have hj : j = B.length := by omega
      subst hj
      rw [key B.length (by omega) (srcN B.length) (fun e => by omega) (fun _ => rfl), List.getElem_append_right (by simp)]
      simp
theorem srcN_lt {n : Nat} (h : 1 ≤ n) : srcN n < n := by
  unfold srcN
  split
  · omega
  · rcases powN_two n h with ⟨h1, h2⟩ | ⟨q, h1, h2, h3, h4⟩ <;> omega
end Go.Proofs.Ytkijbphbibcnoaa
