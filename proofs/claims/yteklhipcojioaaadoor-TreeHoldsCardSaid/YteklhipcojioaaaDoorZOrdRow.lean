/-
  A row of terms that is turned about: what it holds, how one of its terms is read and written.
-/
import Derived.Test.YteklhipcojioaaaDoorZOrdKeys
import Derived.Test.YteklhipcojioaaaDoorZOrdBase
namespace Go.Proofs.YteklhipcojioaaaDoor
open Go.RowKit Go.Deep

/-- The terms of l lie side by side in the row g, which is newer than w0; their parts lie as in w0. -/
structure Rw (w0 : World) (S : Nat → Prop) (g : Nat) (l : List Tm) (w : World) : Prop where
  new : w0.heap.size ≤ g
  up : Up w0 w
  row : ∃ cur : Array Value, w.heap[g]? = some (.cells cur 32 (0, 0)) ∧ l.length * 4 ≤ cur.size ∧
    ∀ i (hi : i < l.length), ∃ k n s a m cap, Lies w0 S l[i] (.agg #[.int .i64 k, .int .i64 n, .string s, .slice a m cap]) ∧ cur[i * 4]? = some (.int .i64 k) ∧ cur[i * 4 + 1]? = some (.int .i64 n) ∧ cur[i * 4 + 2]? = some (.string s) ∧ cur[i * 4 + 3]? = some (.slice a m cap)

section
variable {w0 w w' : World} {S : Nat → Prop} {g : Nat} {l : List Tm}

theorem Rw.at (h : Rw w0 S g l w) (i : Nat) (hi : i < l.length) : ∃ k n s a m cap, Lies w0 S l[i] (.agg #[.int .i64 k, .int .i64 n, .string s, .slice a m cap]) ∧ w.cell? ⟨g, i * 4, none⟩ = some (.int .i64 k) ∧ w.cell? ⟨g, i * 4 + 1, none⟩ = some (.int .i64 n) ∧
    w.cell? ⟨g, i * 4 + 2, none⟩ = some (.string s) ∧ w.cell? ⟨g, i * 4 + 3, none⟩ = some (.slice a m cap) := by
  obtain ⟨cur, hc, _, hx⟩ := h.row
  obtain ⟨k, n, s, a, m, cap, hL, c0, c1, c2, c3⟩ := hx i hi
  have e : ∀ j, w.cell? ⟨g, j, none⟩ = cur[j]? := fun j => cell_of_row w g j cur _ (0, 0) hc
  exact ⟨k, n, s, a, m, cap, hL, (e _).trans c0, (e _).trans c1, (e _).trans c2, (e _).trans c3⟩
theorem Rw.later (h : Rw w0 S g l w) (hb : Up w w') : Rw w0 S g l w' := by
  obtain ⟨cur, hc, hx⟩ := h.row
  exact ⟨h.new, h.up.call hb.out, cur, (hb.out.block _ (Array.getElem?_eq_some_iff.1 hc).1).trans hc, hx⟩
theorem Rw.drew (h : Rw w0 S g l w) : Rw w0 S g l w.drew := h.later (Up.refl w).drew
theorem Rw.lt (h : Rw w0 S g l w) : g < w.heap.size := by
  obtain ⟨cur, hc, _⟩ := h.row
  exact (Array.getElem?_eq_some_iff.1 hc).1
theorem Rw.room (h : Rw w0 S g l w) (i : Nat) (hi : i < l.length) : ∃ cur, w.heap[g]? = some (.cells cur 32 (0, 0)) ∧ i * 4 + 3 < cur.size := by
  obtain ⟨cur, hc, hs, _⟩ := h.row
  exact ⟨cur, hc, by omega⟩
theorem Rw.put (h : Rw w0 S g l w) (i : Nat) (hi : i < l.length) {t : Tm} {k n : Int} {s : ByteArray} {a : Option Addr} {m cap : Nat} (ht : Lies w0 S t (.agg #[.int .i64 k, .int .i64 n, .string s, .slice a m cap])) :
    Rw w0 S g (l.set i t) (put4 w g (i * 4) (.int .i64 k) (.int .i64 n) (.string s) (.slice a m cap)) := by
  obtain ⟨cur, hc, hs, hx⟩ := h.row
  refine ⟨h.new, Below.put4 h.up h.new, _, put4_block hc, ?_, fun q hq => ?_⟩
  · rw [List.length_set]
    simp only [Array.size_setIfInBounds]
    exact hs
  · rw [List.length_set] at hq
    by_cases hqi : q = i
    · subst hqi
      refine ⟨k, n, s, a, m, cap, by rw [List.getElem_set_self]; exact ht, ?_, ?_, ?_, ?_⟩
      all_goals (simp only [Array.getElem?_setIfInBounds, Array.size_setIfInBounds]; simp; omega)
    · obtain ⟨k', n', s', a', m', cap', hL, c0, c1, c2, c3⟩ := hx q hq
      refine ⟨k', n', s', a', m', cap', by rw [List.getElem_set_ne (Ne.symm hqi)]; exact hL, ?_, ?_, ?_, ?_⟩
      all_goals
        simp only [Array.getElem?_setIfInBounds, Array.size_setIfInBounds]
        rw [if_neg (by omega), if_neg (by omega), if_neg (by omega), if_neg (by omega)]
        assumption
/-- .. stored. -/
theorem Rw.store (h : Rw w0 S g l w) (i : Nat) (hi : i < l.length) {ev : Operand → Value} {p q : Operand} {k n : Int} {s : ByteArray} {a : Option Addr} {m cap : Nat} (hp : ev p = .pointer (some ⟨g, i * 4, none⟩))
    (hq : ev q = .agg #[.int .i64 k, .int .i64 n, .string s, .slice a m cap]) (ty : TypeId) (ps : String) (af : Array Edge) (dst : Option Tmp) :
    (execOp ev ⟨dst, .store 32 p q, ty, ps, af, none⟩).run Tryd.prog w = .ok .skip (put4 w g (i * 4) (.int .i64 k) (.int .i64 n) (.string s) (.slice a m cap)) := by
  obtain ⟨cur, hc, hs⟩ := h.room i hi
  exact exec_store4 hc hs hp hq ty ps af dst
theorem Rw.is (h : Rw w0 S g l w) {t : Tm} {v : Value} (ht : Lies w0 S t v) : Lies w S t v := ht.below h.up.out
end

/-- Two terms exchanged. -/
def swap2 (l : List Tm) (i j : Nat) : List Tm := match l[i]?, l[j]? with
  | some x, some y => (l.set i y).set j x
  | _, _ => l
theorem swap2_eq {l : List Tm} {i j : Nat} (hi : i < l.length) (hj : j < l.length) : swap2 l i j = (l.set i l[j]).set j l[i] := by
  unfold swap2
  rw [List.getElem?_eq_getElem hi, List.getElem?_eq_getElem hj]
theorem swap2_length (l : List Tm) (i j : Nat) : (swap2 l i j).length = l.length := by
  unfold swap2
  split <;> simp
theorem swap2_get {l : List Tm} {i j : Nat} (hi : i < l.length) (hj : j < l.length) (k : Nat) : (swap2 l i j)[k]? = if k = j then l[i]? else if k = i then l[j]? else l[k]? := by
  rw [swap2_eq hi hj, List.getElem?_set, List.getElem?_set, List.length_set]
  by_cases h1 : j = k
  · subst h1; rw [if_pos rfl, if_pos hj, if_pos rfl, List.getElem?_eq_getElem hi]
  · rw [if_neg h1, if_neg (Ne.symm h1)]
    by_cases h2 : i = k
    · subst h2; rw [if_pos rfl, if_pos hi, if_pos rfl, List.getElem?_eq_getElem hj]
    · rw [if_neg h2, if_neg (Ne.symm h2)]
/-- Stretches of one length exchanged, from the left. -/
def swapR (l : List Tm) (a b : Nat) : Nat → List Tm
  | 0 => l
  | n + 1 => swap2 (swapR l a b n) (a + n) (b + n)
theorem swapR_length (l : List Tm) (a b n : Nat) : (swapR l a b n).length = l.length := by
  induction n with
  | zero => rfl
  | succ n ih => rw [swapR, swap2_length, ih]
theorem swapR_get (l : List Tm) (a b : Nat) : ∀ n, a + n ≤ b → b + n ≤ l.length → ∀ k, (swapR l a b n)[k]? = if a ≤ k ∧ k < a + n then l[b + (k - a)]? else if b ≤ k ∧ k < b + n then l[a + (k - b)]? else l[k]? := by
  intro n
  induction n with
  | zero => intro _ _ k; rw [swapR, if_neg (by omega), if_neg (by omega)]
  | succ n ih =>
    intro h1 h2 k
    have ih := ih (by omega) (by omega)
    have hl := swapR_length l a b n
    rw [swapR, swap2_get (by omega) (by omega), ih, ih, ih]
    by_cases e1 : k = b + n
    · subst e1
      rw [if_pos rfl, if_neg (by omega), if_neg (by omega), if_neg (by omega), if_pos (by omega)]
      congr 1; omega
    rw [if_neg e1]
    by_cases e2 : k = a + n
    · subst e2
      rw [if_pos rfl, if_neg (by omega), if_neg (by omega), if_pos (by omega)]
      congr 1; omega
    rw [if_neg e2]
    (repeat' split) <;> first | rfl | omega
/-- .. whole. -/
theorem swapR_parts (A X B Y C : List Tm) (h : X.length = Y.length) : swapR (A ++ X ++ B ++ Y ++ C) A.length (A.length + X.length + B.length) X.length = A ++ Y ++ B ++ X ++ C := by
  apply List.ext_getElem?
  intro k
  rw [swapR_get _ _ _ _ (by omega) (by simp only [List.length_append]; omega)]
  by_cases e1 : A.length ≤ k ∧ k < A.length + X.length
  · rw [if_pos e1]
    rw [List.getElem?_append_left (by simp only [List.length_append]; omega), List.getElem?_append_right (by simp only [List.length_append]; omega)]
    rw [List.getElem?_append_left (by simp only [List.length_append]; omega), List.getElem?_append_left (by simp only [List.length_append]; omega), List.getElem?_append_left (by simp only [List.length_append]; omega), List.getElem?_append_right (by omega)]
    congr 1; simp only [List.length_append]; omega
  rw [if_neg e1]
  by_cases e2 : A.length + X.length + B.length ≤ k ∧ k < A.length + X.length + B.length + X.length
  · rw [if_pos e2]
    rw [List.getElem?_append_left (by simp only [List.length_append]; omega), List.getElem?_append_left (by simp only [List.length_append]; omega), List.getElem?_append_left (by simp only [List.length_append]; omega), List.getElem?_append_right (by omega)]
    rw [List.getElem?_append_left (by simp only [List.length_append]; omega), List.getElem?_append_right (by simp only [List.length_append]; omega)]
    congr 1; simp only [List.length_append]; omega
  rw [if_neg e2]
  rcases Nat.lt_or_ge k A.length with h1 | h1
  · rw [List.getElem?_append_left (by simp only [List.length_append]; omega), List.getElem?_append_left (by simp only [List.length_append]; omega), List.getElem?_append_left (by simp only [List.length_append]; omega), List.getElem?_append_left (by omega)]
    rw [List.getElem?_append_left (by simp only [List.length_append]; omega), List.getElem?_append_left (by simp only [List.length_append]; omega), List.getElem?_append_left (by simp only [List.length_append]; omega), List.getElem?_append_left (by omega)]
  rcases Nat.lt_or_ge k (A.length + X.length + B.length) with h2 | h2
  · rw [List.getElem?_append_left (by simp only [List.length_append]; omega), List.getElem?_append_left (by simp only [List.length_append]; omega), List.getElem?_append_right (by simp only [List.length_append]; omega)]
    rw [List.getElem?_append_left (by simp only [List.length_append]; omega), List.getElem?_append_left (by simp only [List.length_append]; omega), List.getElem?_append_right (by simp only [List.length_append]; omega)]
    congr 1; simp only [List.length_append]; omega
  · rw [List.getElem?_append_right (by simp only [List.length_append]; omega), List.getElem?_append_right (by simp only [List.length_append]; omega)]
    congr 1; simp only [List.length_append]; omega

end Go.Proofs.YteklhipcojioaaaDoor
