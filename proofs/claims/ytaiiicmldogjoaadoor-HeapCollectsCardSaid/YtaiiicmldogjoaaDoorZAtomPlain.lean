/-
  Tables of atoms as plain lists: what a text's number is, what a text put leaves; and the map that goes with such a list.
-/
import Derived.WalkKit
import Derived.Maps.OwnSet
namespace Go.Proofs.YtaiiicmldogjoaaDoor
open Go.RowKit Go.Maps Go.WideShapes

/-- A text's place in a list. -/
def pos (s : ByteArray) : List ByteArray → Option Nat
  | [] => none
  | x :: r => if x = s then some 0 else (pos s r).map (· + 1)
theorem pos_snoc (s x : ByteArray) : ∀ L : List ByteArray, pos s (L ++ [x]) = (pos s L).or (if x = s then some L.length else none)
  | [] => by simp [pos]
  | y :: r => by
    rw [List.cons_append, pos, pos, pos_snoc s x r]
    by_cases h : y = s
    · simp [h]
    · rw [if_neg h, if_neg h]
      cases hp : pos s r
      · by_cases hx : x = s <;> simp [hx]
      · simp
theorem pos_some {s : ByteArray} : ∀ {L : List ByteArray} {i : Nat}, pos s L = some i → ∃ h : i < L.length, L[i] = s
  | [], i, h => by cases h
  | y :: r, i, h => by
    rw [pos] at h
    by_cases hy : y = s
    · rw [if_pos hy] at h
      cases h
      exact ⟨by simp, hy⟩
    · rw [if_neg hy] at h
      cases hp : pos s r with
      | none => rw [hp] at h; cases h
      | some j =>
        rw [hp] at h
        cases h
        obtain ⟨h1, h2⟩ := pos_some hp
        exact ⟨by simpa using h1, by simpa using h2⟩
theorem pos_none {s : ByteArray} : ∀ {L : List ByteArray}, pos s L = none → ∀ x ∈ L, x ≠ s
  | [], _, x, hx => by cases hx
  | y :: r, h, x, hx => by
    rw [pos] at h
    by_cases hy : y = s
    · rw [if_pos hy] at h; cases h
    · rw [if_neg hy] at h
      have hr : pos s r = none := by cases hp : pos s r <;> simp_all
      rcases List.mem_cons.1 hx with rfl | hx
      · exact hy
      · exact pos_none hr x hx
theorem pos_first {s : ByteArray} : ∀ {L : List ByteArray} {i : Nat}, pos s L = some i → ∀ j (h : j < L.length), j < i → L[j] ≠ s
  | [], i, h => by cases h
  | y :: r, i, h => by
    rw [pos] at h
    by_cases hy : y = s
    · rw [if_pos hy] at h
      cases h
      intro j _ hj
      omega
    · rw [if_neg hy] at h
      cases hp : pos s r with
      | none => rw [hp] at h; cases h
      | some j =>
        rw [hp] at h
        cases h
        intro k hk hkj
        cases k with
        | zero => exact hy
        | succ k => simpa using pos_first hp k (by simpa using hk) (by simp at hkj; omega)
/-- The place that no earlier one is of the same text is the text's place. -/
theorem pos_of {s : ByteArray} {L : List ByteArray} {i : Nat} (h : i < L.length) (hs : L[i] = s) (hf : ∀ j (hj : j < L.length), j < i → L[j] ≠ s) : pos s L = some i := by
  cases hp : pos s L with
  | none => exact absurd hs (pos_none hp _ (List.getElem_mem h))
  | some k =>
    obtain ⟨h1, h2⟩ := pos_some hp
    have h3 := pos_first hp
    rcases Nat.lt_trichotomy k i with hk | rfl | hk
    · exact absurd h2 (hf k h1 hk)
    · rfl
    · exact absurd hs (h3 i h hk)
theorem pos_none_of {s : ByteArray} {L : List ByteArray} (h : ∀ j (hj : j < L.length), L[j] ≠ s) : pos s L = none := by
  cases hp : pos s L with
  | none => rfl
  | some k =>
    obtain ⟨h1, h2⟩ := pos_some hp
    exact absurd h2 (h k h1)

/-- A text's number, or -1. -/
def posI (s : ByteArray) (L : List ByteArray) : Int := match pos s L with | some i => i | none => -1

/-- How many bytes all have. -/
def bytesOf (L : List ByteArray) : Nat := (L.map ByteArray.size).sum
theorem bytesOf_snoc (L : List ByteArray) (s : ByteArray) : bytesOf (L ++ [s]) = bytesOf L + s.size := by simp [bytesOf]

theorem bytesOf_take_le : ∀ (L : List ByteArray) (i : Nat), bytesOf (L.take i) ≤ bytesOf L
  | [], i => by simp
  | x :: r, 0 => by simp [bytesOf]
  | x :: r, i + 1 => by
    have := bytesOf_take_le r i
    simp only [bytesOf, List.take_succ_cons, List.map_cons, List.sum_cons] at *
    omega

/-- What a text put answers, and leaves. -/
def put (L : List ByteArray) (s : ByteArray) : Nat × Nat × List ByteArray :=
  if 64 < s.size then (0, 2, L)
  else match pos s L with
    | some i => (i, 0, L)
    | none => if 4096 ≤ L.length ∨ 65536 < bytesOf L + s.size then (0, 8, L) else (L.length, 0, L ++ [s])
theorem put_long {L : List ByteArray} {s : ByteArray} (h : 64 < s.size) : put L s = (0, 2, L) := by rw [put, if_pos h]
theorem put_there {L : List ByteArray} {s : ByteArray} {i : Nat} (h : s.size ≤ 64) (hp : pos s L = some i) : put L s = (i, 0, L) := by rw [put, if_neg (by omega), hp]
theorem put_full {L : List ByteArray} {s : ByteArray} (h : s.size ≤ 64) (hp : pos s L = none) (hf : 4096 ≤ L.length ∨ 65536 < bytesOf L + s.size) : put L s = (0, 8, L) := by
  rw [put, if_neg (by omega), hp]
  simp only
  rw [if_pos hf]
theorem put_new {L : List ByteArray} {s : ByteArray} (h : s.size ≤ 64) (hp : pos s L = none) (h1 : L.length < 4096) (h2 : bytesOf L + s.size ≤ 65536) : put L s = (L.length, 0, L ++ [s]) := by
  rw [put, if_neg (by omega), hp]
  simp only
  rw [if_neg (by omega)]

/-- A list that a table may have. -/
structure Good (L : List ByteArray) : Prop where
  few : L.length ≤ 4096
  small : bytesOf L ≤ 65536
  short : ∀ x ∈ L, x.size ≤ 64
theorem Good.nil : Good [] := ⟨by simp, by simp [bytesOf], fun x hx => by cases hx⟩
theorem Good.put {L : List ByteArray} (h : Good L) (s : ByteArray) : Good (put L s).2.2 := by
  by_cases h1 : 64 < s.size
  · rw [put_long h1]; exact h
  · cases hp : pos s L with
    | some i => rw [put_there (by omega) hp]; exact h
    | none =>
      by_cases h2 : 4096 ≤ L.length ∨ 65536 < bytesOf L + s.size
      · rw [put_full (by omega) hp h2]; exact h
      · rw [put_new (by omega) hp (by omega) (by omega)]
        refine ⟨by simp; omega, by rw [bytesOf_snoc]; omega, fun x hx => ?_⟩
        rcases List.mem_append.1 hx with hx | hx
        · exact h.short x hx
        · obtain rfl := List.mem_singleton.1 hx
          omega

/-- A text as a map's key. -/
def key (s : ByteArray) : Lit := .string s.data.toList
theorem key_inj {a b : ByteArray} (h : key a = key b) : a = b := by
  simp only [key, Lit.string.injEq] at h
  apply ByteArray.ext
  exact Array.toList_inj.1 h
theorem key_lit (s : ByteArray) : Go.WideAt.IsKeyLit (key s) := by simp [key, Go.WideAt.IsKeyLit]

/-- The map of a list's numbers. -/
structure MapOk (D : DataW Unit) (L : List ByteArray) : Prop where
  map : IsMap D
  has : ∀ s, Maps.has D (key s) = (pos s L).isSome
  at_ : ∀ s i, pos s L = some i → D.atKey (key s) (.lit (.int .i64 0)) = .lit (.int .i64 i)
theorem MapOk.nil : MapOk (.map []) [] := ⟨⟨[], rfl⟩, fun s => rfl, fun s i h => by cases h⟩
theorem MapOk.snoc {D : DataW Unit} {L : List ByteArray} (h : MapOk D L) {s : ByteArray} (hs : pos s L = none) : MapOk (D.put (key s) (.lit (.int .i64 L.length))) (L ++ [s]) := by
  refine ⟨h.map.put _ _, fun x => ?_, fun x i hx => ?_⟩
  · rw [pos_snoc]
    by_cases hx : s = x
    · subst hx
      rw [has_put_same h.map (key_lit s), hs]
      simp
    · rw [has_put_other (fun e => hx (key_inj e).symm), h.has]
      simp [hx]
  · rw [pos_snoc] at hx
    by_cases hxs : s = x
    · subst hxs
      rw [hs] at hx
      simp at hx
      subst hx
      rw [atKey_put_same h.map (key_lit s)]
    · rw [atKey_put_other (fun e => hxs (key_inj e).symm)]
      refine h.at_ x i ?_
      simpa [hxs] using hx
end Go.Proofs.YtaiiicmldogjoaaDoor
