/-
  A term in memory of its own: its rows lie in blocks from a number on, below another, each part's in a stretch of its own.
-/
import Derived.Test.YtamafhcgjbkikaaDoorTermBase
import Derived.Maps.AppendAt
namespace Go.Proofs.YtamafhcgjbkikaaDoor
open Go.RowKit Go.Deep

mutual
def Own (w : World) : Tm → Nat → Nat → Value → Prop
  | .mk k n s l, lo, hi, v => ∃ sv xs, v = .agg #[.int .i64 k, .int .i64 n, .string s, sv] ∧ Small k n s ∧ w.ownsRow lo 24 4 sv l.length xs ∧ (∀ g, sv.ownBlock = some g → g < hi) ∧ Kids w l lo hi sv.ownBlock xs
def Kids (w : World) : List Tm → Nat → Nat → Option Nat → List Value → Prop
  | [], _, _, _, xs => xs = []
  | t :: r, lo, hi, b, xs => ∃ v0 v1 v2 v3 ys c d, xs = v0 :: v1 :: v2 :: v3 :: ys ∧ lo ≤ c ∧ c ≤ d ∧ d ≤ hi ∧ (∀ g, b = some g → ¬ (c ≤ g ∧ g < d)) ∧ Own w t c d (.agg #[v0, v1, v2, v3]) ∧ Kids w r d hi b ys
end
/-- A slice of terms of one's own. -/
def OwnL (w : World) (l : List Tm) (lo hi : Nat) (sv : Value) : Prop :=
  ∃ xs, w.ownsRow lo 24 4 sv l.length xs ∧ (∀ g, sv.ownBlock = some g → g < hi) ∧ Kids w l lo hi sv.ownBlock xs

section
variable {w w' : World}

theorem Own.out {k n : Int} {s : ByteArray} {l : List Tm} {lo hi : Nat} {v : Value} (h : Own w (.mk k n s l) lo hi v) :
    ∃ sv, v = .agg #[.int .i64 k, .int .i64 n, .string s, sv] ∧ Small k n s ∧ OwnL w l lo hi sv := by
  rw [Own] at h
  obtain ⟨sv, xs, h1, h2, h3, h4, h5⟩ := h
  exact ⟨sv, h1, h2, xs, h3, h4, h5⟩
theorem Own.mk {k n : Int} {s : ByteArray} {l : List Tm} {lo hi : Nat} {sv : Value} (h : Small k n s) (hl : OwnL w l lo hi sv) : Own w (.mk k n s l) lo hi (.agg #[.int .i64 k, .int .i64 n, .string s, sv]) := by
  rw [Own]
  obtain ⟨xs, h3, h4, h5⟩ := hl
  exact ⟨sv, xs, rfl, h, h3, h4, h5⟩

theorem ownsRow_same {base : Nat} {sv : Value} {n : Nat} {xs : List Value} {e : TypeId} {z : Nat} (h : w.ownsRow base e z sv n xs) (hw : ∀ g, sv.ownBlock = some g → w'.heap[g]? = w.heap[g]?) : w'.ownsRow base e z sv n xs := by
  refine ⟨h.1, ?_⟩
  rcases h.2 with hn | ⟨g, cap, cur, rfl, hb, hgg, rest⟩
  · exact .inl hn
  · exact .inr ⟨g, cap, cur, rfl, hb, (hw g rfl).trans hgg, rest⟩
theorem ownsRow_lower {base base' : Nat} {sv : Value} {n : Nat} {xs : List Value} {e : TypeId} {z : Nat} (h : w.ownsRow base e z sv n xs) (hl : base' ≤ base) : w.ownsRow base' e z sv n xs := by
  refine ⟨h.1, ?_⟩
  rcases h.2 with hn | ⟨g, cap, cur, rfl, hb, hgg, rest⟩
  · exact .inl hn
  · exact .inr ⟨g, cap, cur, rfl, Nat.le_trans hl hb, hgg, rest⟩

theorem Own.move (T : Tm) : ∀ (lo hi lo' hi' : Nat) (v : Value), lo' ≤ lo → hi ≤ hi' → (∀ k, lo ≤ k → k < hi → w'.heap[k]? = w.heap[k]?) → Own w T lo hi v → Own w' T lo' hi' v := by
  induction T using Tm.induct with
  | h k n s l ih =>
    intro lo hi lo' hi' v h1 h2 hw h
    obtain ⟨sv, rfl, hs, xs, h3, h4, h5⟩ := h.out
    refine Own.mk hs ⟨xs, ownsRow_lower (ownsRow_same h3 fun g hg => hw g (h3.lt g hg).1 (h4 g hg)) h1, fun g hg => Nat.lt_of_lt_of_le (h4 g hg) h2, ?_⟩
    clear h3 h4 h hs
    generalize sv.ownBlock = b at h5
    induction l generalizing lo lo' xs with
    | nil => rw [Kids] at h5 ⊢; exact h5
    | cons t r ihr =>
      rw [Kids] at h5 ⊢
      obtain ⟨v0, v1, v2, v3, ys, c, d, rfl, p1, p2, p3, p4, p5, p6⟩ := h5
      exact ⟨v0, v1, v2, v3, ys, c, d, rfl, by omega, p2, by omega, p4, ih t (by simp) c d c d _ (Nat.le_refl _) (Nat.le_refl _) (fun k hk1 hk2 => hw k (by omega) (by omega)) p5,
        ihr (fun t ht => ih t (List.mem_cons_of_mem _ ht)) d d (Nat.le_refl _) (fun k hk1 hk2 => hw k (by omega) hk2) ys p6⟩

/-- Parts go on where their blocks are as they were, but for the row's own. -/
theorem Kids.move {l : List Tm} : ∀ {lo hi lo' hi' : Nat} {b b' : Option Nat} {xs : List Value}, lo' ≤ lo → hi ≤ hi' → (∀ k, lo ≤ k → k < hi → some k ≠ b → w'.heap[k]? = w.heap[k]?) →
    (∀ g, b' = some g → b = some g ∨ hi ≤ g ∨ g < lo) → Kids w l lo hi b xs → Kids w' l lo' hi' b' xs := by
  induction l with
  | nil => intro lo hi lo' hi' b b' xs _ _ _ _ h; rw [Kids] at h ⊢; exact h
  | cons t r ihr =>
    intro lo hi lo' hi' b b' xs h1 h2 hw hb h
    rw [Kids] at h ⊢
    obtain ⟨v0, v1, v2, v3, ys, c, d, rfl, p1, p2, p3, p4, p5, p6⟩ := h
    refine ⟨v0, v1, v2, v3, ys, c, d, rfl, by omega, p2, by omega, ?_, ?_, ?_⟩
    · intro g hg
      rcases hb g hg with h | h | h
      · exact p4 g h
      · omega
      · omega
    · exact Own.move t c d c d _ (Nat.le_refl _) (Nat.le_refl _) (fun k hk1 hk2 => hw k (by omega) (by omega) (fun e => p4 k e.symm ⟨hk1, hk2⟩)) p5
    · exact ihr (Nat.le_refl _) h2 (fun k hk1 hk2 => hw k (by omega) hk2) (fun g hg => (hb g hg).imp id (Or.imp id (fun h => by omega))) p6

theorem Kids.snoc {l : List Tm} {t : Tm} {c d : Nat} {b : Option Nat} {v0 v1 v2 v3 : Value} (hcd : c ≤ d) (hb : ∀ g, b = some g → ¬ (c ≤ g ∧ g < d)) (ht : Own w t c d (.agg #[v0, v1, v2, v3])) :
    ∀ {lo : Nat} {xs : List Value}, lo ≤ c → Kids w l lo c b xs → Kids w (l ++ [t]) lo d b (xs ++ [v0, v1, v2, v3]) := by
  induction l with
  | nil =>
    intro lo xs hlo h
    rw [Kids] at h
    subst h
    rw [List.nil_append, List.nil_append, Kids]
    exact ⟨v0, v1, v2, v3, [], c, d, rfl, hlo, hcd, Nat.le_refl _, hb, ht, by rw [Kids]⟩
  | cons t' r ihr =>
    intro lo xs hlo h
    rw [Kids] at h
    obtain ⟨u0, u1, u2, u3, ys, c', d', rfl, p1, p2, p3, p4, p5, p6⟩ := h
    rw [List.cons_append, Kids]
    exact ⟨u0, u1, u2, u3, ys ++ [v0, v1, v2, v3], c', d', rfl, p1, p2, by omega, p4, p5, ihr p3 p6⟩

theorem OwnL.move {l : List Tm} {lo hi lo' hi' : Nat} {sv : Value} (h1 : lo' ≤ lo) (h2 : hi ≤ hi') (hw : ∀ k, lo ≤ k → k < hi → w'.heap[k]? = w.heap[k]?) (h : OwnL w l lo hi sv) : OwnL w' l lo' hi' sv := by
  obtain ⟨xs, h3, h4, h5⟩ := h
  exact ⟨xs, ownsRow_lower (ownsRow_same h3 fun g hg => hw g (h3.lt g hg).1 (h4 g hg)) h1, fun g hg => Nat.lt_of_lt_of_le (h4 g hg) h2, Kids.move h1 h2 (fun k a b _ => hw k a b) (fun g hg => Or.inl hg) h5⟩

/-- What is one's own lies. -/
theorem Own.lies (T : Tm) : ∀ (lo hi : Nat) (v : Value), Own w T lo hi v → Lies w (fun b => lo ≤ b ∧ b < hi) T v := by
  induction T using Tm.induct with
  | h k n s l ih =>
    intro lo hi v h
    obtain ⟨sv, rfl, hs, xs, h3, h4, h5⟩ := h.out
    rcases h3 with ⟨hx, ⟨rfl, hn⟩ | ⟨g, cap, cur, rfl, hb, hg, hc, hm, hcs, htk⟩⟩
    · have : l = [] := List.eq_nil_of_length_eq_zero hn
      subst this
      exact Lies.mk (l := []) hs ⟨Nat.le_refl _, by simp, Or.inl ⟨rfl, rfl, rfl⟩⟩
    · refine Lies.mk hs ⟨hc, hm, Or.inr ⟨_, rfl, fun _ => ⟨⟨hb, h4 g rfl⟩, rfl⟩, ?_⟩⟩
      have hcell : ∀ j u, xs[j]? = some u → w.cell? ⟨g, j, none⟩ = some u := by
        intro j u hu
        rw [← htk, List.getElem?_take] at hu
        split at hu
        · rw [cell_of_row w g j cur 24 (0, 0) hg]
          simpa using hu
        · cases hu
      have key : ∀ (r : List Tm) (o : Nat) (ys : List Value) (lo' : Nat), (∀ t ∈ r, t ∈ l) → lo ≤ lo' → (∀ j u, ys[j]? = some u → w.cell? ⟨g, o + j, none⟩ = some u) → Kids w r lo' hi (some g) ys → Row w (fun b => lo ≤ b ∧ b < hi) r g o := by
        intro r
        induction r with
        | nil => intro o ys lo' _ _ _ _; rw [Row]; trivial
        | cons t r ihr =>
          intro o ys lo' hmem hlo hcl hk
          rw [Kids] at hk
          obtain ⟨v0, v1, v2, v3, zs, c, d, rfl, p1, p2, p3, p4, p5, p6⟩ := hk
          rw [Row]
          refine ⟨⟨v0, v1, v2, v3, hcl 0 v0 rfl, hcl 1 v1 rfl, hcl 2 v2 rfl, hcl 3 v3 rfl, (ih t (hmem t (by simp)) c d _ p5).wider (fun b hb => ⟨by omega, by omega⟩)⟩, ?_⟩
          refine ihr (o + 4) zs d (fun t ht => hmem t (List.mem_cons_of_mem _ ht)) (by omega) (fun j u hu => ?_) p6
          have := hcl (j + 4) u (by simpa using hu)
          rwa [show o + (j + 4) = o + 4 + j by omega] at this
      exact key l 0 xs lo (fun t h => h) (Nat.le_refl _) (fun j u hu => by simpa using hcell j u hu) h5

theorem OwnL.lst {l : List Tm} {lo hi : Nat} {sv : Value} (h : OwnL w l lo hi sv) : ∃ a cap, sv = .slice a l.length cap ∧ Lst w (fun b => lo ≤ b ∧ b < hi) l a cap := by
  have := Own.lies _ lo hi _ (Own.mk (k := 0) (n := 0) (s := ByteArray.empty) ⟨by omega, by omega, by omega, by omega, by simp⟩ h)
  obtain ⟨a, cap, h1, _, h2⟩ := this.out
  simp only [Value.agg.injEq, Array.mk.injEq, List.cons.injEq, and_true] at h1
  exact ⟨a, cap, h1.2.2.2, h2⟩
end

end Go.Proofs.YtamafhcgjbkikaaDoor
