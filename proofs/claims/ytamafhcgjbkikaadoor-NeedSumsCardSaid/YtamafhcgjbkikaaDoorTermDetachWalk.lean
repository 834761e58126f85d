/-
  The closure that detaches a term, walked.
-/
import Derived.Test.YtamafhcgjbkikaaDoorTermDetach
namespace Go.Proofs.YtamafhcgjbkikaaDoor
open Go.RowKit Go.Deep

/-- The cells of a row, as a list. -/
theorem Row.list {w : World} {S : Nat → Prop} {l : List Tm} : ∀ {b o : Nat}, Row w S l b o → ∃ xs : List Value, xs.length = l.length * 4 ∧ (∀ j u, xs[j]? = some u → w.cell? ⟨b, o + j, none⟩ = some u) ∧ (∀ u ∈ xs, u.oneCell' = true) ∧
    ∀ i (hi : i < l.length), ∃ v0 v1 v2 v3, xs[i * 4]? = some v0 ∧ xs[i * 4 + 1]? = some v1 ∧ xs[i * 4 + 2]? = some v2 ∧ xs[i * 4 + 3]? = some v3 ∧ Lies w S l[i] (.agg #[v0, v1, v2, v3]) := by
  induction l with
  | nil => intro b o _; exact ⟨[], rfl, fun j u h => by simp at h, fun u h => by simp at h, fun i hi => by cases hi⟩
  | cons t r ih =>
    intro b o h
    rw [Row] at h
    obtain ⟨⟨v0, v1, v2, v3, c0, c1, c2, c3, hl⟩, hr⟩ := h
    obtain ⟨xs, hx, hc, h1, hi⟩ := ih hr
    refine ⟨v0 :: v1 :: v2 :: v3 :: xs, by simp only [List.length_cons, hx]; omega, ?_, ?_, ?_⟩
    · intro j u hu
      match j, hu with
      | 0, hu => simp at hu; subst hu; exact c0
      | 1, hu => simp at hu; subst hu; exact c1
      | 2, hu => simp at hu; subst hu; exact c2
      | 3, hu => simp at hu; subst hu; exact c3
      | j + 4, hu =>
        have := hc j u (by simpa using hu)
        rwa [show o + 4 + j = o + (j + 4) by omega] at this
    · obtain ⟨k, n, s, m⟩ := t
      obtain ⟨a, cap, hv, _, _⟩ := hl.out
      simp only [Value.agg.injEq, Array.mk.injEq, List.cons.injEq, and_true] at hv
      obtain ⟨rfl, rfl, rfl, rfl⟩ := hv
      intro u hu
      simp only [List.mem_cons] at hu
      rcases hu with rfl | rfl | rfl | rfl | hu
      · rfl
      · rfl
      · rfl
      · rfl
      · exact h1 u hu
    · intro i hi'
      cases i with
      | zero => exact ⟨v0, v1, v2, v3, rfl, rfl, rfl, rfl, hl⟩
      | succ i =>
        obtain ⟨u0, u1, u2, u3, e0, e1, e2, e3, hL⟩ := hi i (by simpa using hi')
        rw [show (i + 1) * 4 = i * 4 + 4 by omega]
        exact ⟨u0, u1, u2, u3, by simpa using e0, by simpa [show i * 4 + 4 + 1 = i * 4 + 1 + 4 by omega] using e1, by simpa [show i * 4 + 4 + 2 = i * 4 + 2 + 4 by omega] using e2, by simpa [show i * 4 + 4 + 3 = i * 4 + 3 + 4 by omega] using e3, hL⟩

/-- A row that has just been cloned. -/
theorem mix_made {w w6 : World} {S : Nat → Prop} {l : List Tm} {xs : List Value} {sv : Value} {base : Nat} (hpos : 0 < l.length) (hown : w6.ownsRow base 24 4 sv l.length xs)
    (hl : ∀ i (hi : i < l.length), ∃ v0 v1 v2 v3, xs[i * 4]? = some v0 ∧ xs[i * 4 + 1]? = some v1 ∧ xs[i * 4 + 2]? = some v2 ∧ xs[i * 4 + 3]? = some v3 ∧ Lies w S l[i] (.agg #[v0, v1, v2, v3]))
    (hb : Below w.heap.size w w6) : ∃ nb cap cur, sv = .slice (some ⟨nb, 0, none⟩) l.length cap ∧ base ≤ nb ∧ w6.heap[nb]? = some (.cells cur 24 (0, 0)) ∧ l.length ≤ cap ∧ cap ≤ 9223372036854775807 ∧ Mix w6 S nb cap l 0 := by
  obtain ⟨hx, ⟨_, hn⟩ | ⟨g, cap, cur, rfl, hbg, hg, hc, hm, hcs, htk⟩⟩ := hown
  · omega
  · refine ⟨g, cap, cur, rfl, hbg, hg, hc, hm, ⟨fun i hi => ?_, ⟨[], rfl, fun p u hu => by simp at hu, by rw [List.take_zero, Kids]⟩, ⟨cur, hg, hcs⟩, (Array.getElem?_eq_some_iff.1 hg).1⟩⟩
    obtain ⟨v0, v1, v2, v3, e0, e1, e2, e3, hL⟩ := hl i hi
    have hcell : ∀ j u, xs[j]? = some u → w6.cell? ⟨g, j, none⟩ = some u := by
      intro j u hu
      rw [← htk, List.getElem?_take] at hu
      split at hu
      · rw [cell_of_row w6 g j cur 24 (0, 0) hg]
        simpa using hu
      · cases hu
    exact ⟨v0, v1, v2, v3, hcell _ _ e0, hcell _ _ e1, hcell _ _ e2, hcell _ _ e3, fun _ => hL.below hb⟩

/-- Of a term without parts. -/
theorem done_nil {wr w5 : World} {qb qo : Nat} {k n : Int} {s : ByteArray} {c : Array Value} {t : TypeId} (hsm : Small k n s)
    (hc : wr.heap[qb]? = some (.cells c t (0, 0))) (c0 : c[qo]? = some (.int .i64 k)) (c1 : c[qo + 1]? = some (.int .i64 n)) (c2 : c[qo + 2]? = some (.string s)) (c3 : qo + 3 < c.size)
    (h5 : Below wr.heap.size wr w5) : Done wr qb qo (.mk k n s []) (w5.setCell ⟨qb, qo + 3, none⟩ (.slice none 0 0)) := by
  have z5 := h5.size
  have hlt : qb < wr.heap.size := (Array.getElem?_eq_some_iff.1 hc).1
  have e5 : w5.heap[qb]? = some (.cells c t (0, 0)) := (h5.block _ hlt).trans hc
  have e' : (w5.setCell ⟨qb, qo + 3, none⟩ (.slice none 0 0)).heap[qb]? = some (.cells (c.setIfInBounds (qo + 3) (.slice none 0 0)) t (0, 0)) := by
    simp [World.setCell, Array.getElem?_modify, e5]
  refine ⟨h5.os, h5.tape, h5.output, by rw [size_setCell']; exact z5, ?_, ?_, ?_⟩
  · intro j hj hne
    rw [Below.heap_setCell _ _ _ _ hne, h5.block j hj]
  · refine ⟨c, _, t, hc, e', by simp, fun j hj => ?_⟩
    rw [Array.getElem?_setIfInBounds_ne (by omega)]
  · have cell : ∀ j, (w5.setCell ⟨qb, qo + 3, none⟩ (.slice none 0 0)).cell? ⟨qb, j, none⟩ = (c.setIfInBounds (qo + 3) (.slice none 0 0))[j]? := fun j => cell_of_row _ qb j _ t (0, 0) e'
    exact ⟨_, _, _, _, (cell _).trans ((Array.getElem?_setIfInBounds_ne (by omega)).trans c0), (cell _).trans ((Array.getElem?_setIfInBounds_ne (by omega)).trans c1), (cell _).trans ((Array.getElem?_setIfInBounds_ne (by omega)).trans c2),
      (cell _).trans (by rw [Array.getElem?_setIfInBounds_self_of_lt c3]), Own.mk hsm ⟨[], ⟨rfl, Or.inl ⟨rfl, rfl⟩⟩, fun g hg => (by cases hg), by rw [Kids]⟩⟩

/-- Four cells of a block. -/
def At4 (c : Array Value) (o : Nat) (v0 v1 v2 v3 : Value) : Prop := c[o]? = some v0 ∧ c[o + 1]? = some v1 ∧ c[o + 2]? = some v2 ∧ c[o + 3]? = some v3

end Go.Proofs.YtamafhcgjbkikaaDoor
