/-
  A range over a function whose iterator keeps variables of its own in memory, and writes them between two rounds: what the iterator promises, what a round promises, and the statement's law.
-/
import Derived.RangeFuncNested
import Derived.RangeFuncBound
import Derived.RangeFuncCalls
import Derived.RangeFuncLeaves
import Derived.Shelf.Abstract
import Derived.WalkKit
import Derived.OwnWalkIn
import Derived.TacticsInMore
import Derived.LoopNIn
import Derived.LoopIn
import Derived.Test.YtamafhcgjbkikaaDoorRows
namespace Go.Proofs.YtamafhcgjbkikaaDoor
open Go.RowKit

/-- What is said hangs on blocks below B alone. -/
def OnBelow {β : Type} (B : Nat) (I : β → World → Prop) : Prop := ∀ s W W', I s W → Below B W W' → I s W'

/-- From block B on, what there is stays as it is; below n₀ too. -/
structure Spares (n₀ B : Nat) (W W' : World) : Prop where
  low : Below n₀ W W'
  same : ∀ k, B ≤ k → k < W.heap.size → W'.heap[k]? = W.heap[k]?

theorem Spares.refl (n₀ B : Nat) (W : World) : Spares n₀ B W W := ⟨Below.refl _ _, fun _ _ _ => rfl⟩
theorem Spares.trans {n₀ B : Nat} {X Y Z : World} (h : Spares n₀ B X Y) (k : Spares n₀ B Y Z) : Spares n₀ B X Z :=
  ⟨h.low.trans k.low, fun i hB hi => (k.same i hB (Nat.lt_of_lt_of_le hi h.low.size)).trans (h.same i hB hi)⟩
theorem Spares.mono {n₀ B B' : Nat} {X Y : World} (h : Spares n₀ B X Y) (hB : B ≤ B') : Spares n₀ B' X Y := ⟨h.low, fun k hk hs => h.same k (Nat.le_trans hB hk) hs⟩
theorem Spares.alloc {n₀ : Nat} (B : Nat) (W : World) (hn : n₀ ≤ W.heap.size) (o : Obj) : Spares n₀ B W (W.alloc o) := ⟨(Below.refl _ W).alloc hn o, fun k _ hk => Below.heap_alloc W o k hk⟩
theorem Spares.setCell {n₀ B : Nat} (W : World) {p : Addr} (hn : n₀ ≤ p.block) (hB : p.block < B) (v : Value) : Spares n₀ B W (W.setCell p v) :=
  ⟨(Below.refl _ W).setCell hn v, fun k hk _ => Below.heap_setCell W p v k (by omega)⟩
theorem Spares.drew {n₀ B : Nat} {W W' : World} (h : Spares n₀ B W W') : Spares n₀ B W W'.drew := ⟨h.low.drew, h.same⟩
theorem Spares.below {n₀ B : Nat} {W W' : World} (h : Below W.heap.size W W') (hn : n₀ ≤ W.heap.size) : Spares n₀ B W W' := ⟨h.mono hn, fun k _ hk => h.block k hk⟩

/-- The iterator's word: for whatever loop over it that spares what it has. -/
def Yields {α : Type} (F : Fence) (n : Nat) (P : Program) (g : Nat) (lb : Array Value) (encs : α → Array Value) (n₀ : Nat) (S Sp : List α → Prop) (N : Nat) (w : World) : Prop :=
  ∀ (l : Nat) (J Jx : List α → World → Prop) (W : World), Below w.heap.size w W → OnBelow W.heap.size J → OnBelow W.heap.size Jx →
    (∀ pre x W1, J pre W1 → W.heap.size ≤ W1.heap.size → pre.length < N → YieldAt F (n - 1) P l (encs x) W1 fun e W' =>
      (e = .returned (.bool true) ∧ J (pre ++ [x]) W' ∧ Spares n₀ W.heap.size W1 W') ∨ (e = .returned (.bool false) ∧ Jx (pre ++ [x]) W')) →
    J [] W →
    CallsIn F n P g (#[.func (.yield l) #[] #[]] ++ lb) W fun e W' => (∃ v, e = .returned v) ∧ ((∃ xs, S xs ∧ J xs W') ∨ (∃ pre, Sp pre ∧ Jx pre W'))

/-- How a round's body may be left. -/
def roundEnds {α : Type} (n₀ B : Nat) (I : List α → World → Prop) (Ix : Code → List α → World → Prop) (xs : List α) (W : World) : Exit → Act → World → Prop
  | .normal, _, W' => Spares n₀ B W W' ∧ I xs W'
  | .ret, _, W' => Spares n₀ B W W' ∧ Ix .ret xs W'
  | .exit id, _, W' => Spares n₀ B W W' ∧ Ix (.exit id) xs W'
  | .goto t, _, W' => Spares n₀ B W W' ∧ Ix (.goto t) xs W'
  | .panic _, _, _ => False
  | .outgrown, _, _ => False

section
variable {F : Fence} {n : Nat} {P : Program}

theorem below_putObj {B : Nat} (W : World) (l : Nat) (o : Obj) (hB : B ≤ l) : Below B W (W.putObj l o) :=
  ⟨rfl, rfl, rfl, by simp, fun k hk => World.putObj_heap_other (by omega)⟩
theorem spares_putObj {n₀ B : Nat} (W : World) (l : Nat) (o : Obj) (hn : n₀ ≤ l) (hB : l < B) : Spares n₀ B W (W.putObj l o) :=
  ⟨below_putObj W l o hn, fun k hk _ => World.putObj_heap_other (by omega)⟩

/-- The statement 'for .. := range g', g's value being an iterator of the above sort. -/
theorem wpIn_range_cells {α : Type} {g : Operand} {ps : Array Tmp} {assign body : Code} {Q : Exit → Act → World → Prop} {a : Act} {w : World}
    (hro : F.round = none) (h1 : 1 ≤ n) {gf : Nat} {lb : Array Value} (hg : a.eval g = .func (.func gf) #[] lb) (hFg : F.fn gf) (eg : ∀ args w, (callFunc gf args).run P w = .ok (.enter gf args) w)
    {encs : α → Array Value} {n₀ : Nat} {S Sp : List α → Prop} {N : Nat} (hseq : Yields F (n - 1) P gf lb encs n₀ S Sp N w) (hn₀ : n₀ ≤ w.heap.size) (hps : ∀ x, (encs x).size = ps.size)
    (I : List α → World → Prop) (Ix : Code → List α → World → Prop) (hI : OnBelow w.heap.size I) (hIx : ∀ c, OnBelow w.heap.size (Ix c)) (h0 : I [] w)
    (hround : ∀ (l : Nat) (pre : List α) (x : α) (W : World), l = w.heap.size + 1 → I pre W → pre.length < N → w.heap.size + 2 ≤ W.heap.size →
      assign.wpIn (F.inRound l) (n - 1 - 1) P (Exit.then (fun a' W' => Below W.heap.size W W' ∧ ∀ W'', (∀ k, k ≠ l → W''.heap[k]? = W'.heap[k]?) → W''.heap.size = W'.heap.size → I pre W'' →
        body.wpIn (F.inRound l) (n - 1 - 1) P (roundEnds n₀ w.heap.size I Ix (pre ++ [x]) W'') a' W'') (fun _ _ _ => False)) { tmps := (ps.zip (encs x)).foldl (fun t (p, v) => t.setIfInBounds p v) a.tmps, defers := [] } W)
    (hdone : ∀ (D : Nat) (xs : List α) (W : World), w.heap.size ≤ D → S xs → I xs W → W.heap[D]? = some (.deferred (some [])) → Q .normal { a with defers := { target := .collected D, args := #[] } :: a.defers } W)
    (hstop : ∀ (D : Nat) (c : Code) (pre : List α) (W : World), w.heap.size ≤ D → Sp pre → Ix c pre W → W.heap[D]? = some (.deferred (some [])) → c.wpIn F n P Q { a with defers := { target := .collected D, args := #[] } :: a.defers } W) :
    (Code.rangeFunc g ps assign body).wpIn F n P Q a w := by
  refine wpIn_rangeFunc fun fn hfn => ?_
  rw [hro]
  obtain ⟨rec, hrec⟩ : ∃ rec : LoopState → Option Code → Loop, rec = fun st pe => { state := st, pending := pe, fn, tmps := a.tmps, params := ps, assign, body, defers := w.heap.size } := ⟨_, rfl⟩
  obtain ⟨l, hl⟩ : ∃ l, w.heap.size + 1 = l := ⟨_, rfl⟩
  obtain ⟨W1, hW1⟩ : ∃ W1, (w.alloc (.deferred (some []))).alloc (.loop (rec .ready none)) = W1 := ⟨_, rfl⟩
  have hz1 : W1.heap.size = w.heap.size + 2 := by rw [← hW1, World.size_alloc, World.size_alloc]
  have hw1 : Below w.heap.size w W1 := by
    rw [← hW1]
    exact ((Below.refl _ w).alloc (Nat.le_refl _) _).alloc (by rw [World.size_alloc]; omega) _
  have hK1 : W1.heap[w.heap.size]? = some (.deferred (some [])) := by
    rw [← hW1]
    exact (Below.heap_alloc _ _ _ (by rw [World.size_alloc]; omega)).trans (World.alloc_heap_new w _)
  have hL1 : W1.heap[l]? = some (.loop (rec .ready none)) := by
    have := World.alloc_heap_new (w.alloc (.deferred (some []))) (.loop (rec .ready none))
    rwa [World.size_alloc, hl, hW1] at this
  -- the loop's two blocks, in a state
  have marks : ∀ {A B : World} {o o' : Obj}, Below W1.heap.size A B → A.heap[l]? = some o ∧ A.heap[w.heap.size]? = some o' → B.heap[l]? = some o ∧ B.heap[w.heap.size]? = some o' :=
    fun hb h => ⟨(hb.block l (by omega)).trans h.1, (hb.block _ (by omega)).trans h.2⟩
  refine ⟨l, [{ target := .collected w.heap.size, args := #[] }], W1, { target := .fn (.func gf) lb, args := #[.func (.yield l) #[] #[]] }, W1, gf, #[.func (.yield l) #[] #[]] ++ lb, W1, ?_, ?_, ?_, ?_, fun _ => h1, ?_⟩
  · rw [← hW1, hrec, ← hl]
    exact run_enterLoop_outer _ _ _ _ _
  · simp only [resolve, hg]
    simp [go_sem]
  · intro f' hf'
    simp [Target.leads] at hf'
    exact hf' ▸ hFg
  · simp [invoke, go_sem, eg]
  refine (hseq l (fun pre W => I pre W ∧ W.heap[l]? = some (.loop (rec .ready none)) ∧ W.heap[w.heap.size]? = some (.deferred (some [])))
    (fun pre W => ∃ c, Ix c pre W ∧ W.heap[l]? = some (.loop (rec .done (some c))) ∧ W.heap[w.heap.size]? = some (.deferred (some []))) W1 hw1
    (fun s A B hs hb => ⟨hI s A B hs.1 (hb.mono (by omega)), marks hb hs.2⟩) (fun s A B ⟨c, hc, hm⟩ hb => ⟨c, hIx c s A B hc (hb.mono (by omega)), marks hb hm⟩) ?_ ⟨hI _ _ _ h0 hw1, hL1, hK1⟩).mono ?_
  · rintro pre x W ⟨hi, hlW, hkW⟩ hzW hlen
    have hy := run_yield (P := P) (args := encs x) hlW (by rw [hrec]; exact hps x)
    rw [hrec] at hy
    refine ⟨fn, _, assign, body, hy, roundIn_of_wpIn hfn (wpIn_mono (hround l pre x W hl.symm hi hlen (by omega)) ?_)⟩
    intro e a' W' he
    cases e with
    | normal =>
      obtain ⟨hbW, hgo⟩ := he
      have hlW' := (hbW.block l (Array.getElem?_eq_some_iff.1 hlW).1).trans hlW
      have hkW' := (hbW.block _ (Array.getElem?_eq_some_iff.1 hkW).1).trans hkW
      refine ⟨_, run_beginRound hlW' (by rw [hrec]), ?_⟩
      obtain ⟨W'', hW''⟩ : ∃ W'', W'.putObj l (.loop { rec .ready none with state := .busy }) = W'' := ⟨_, rfl⟩
      rw [hW'']
      have hput : Below l W' W'' := by rw [← hW'']; exact below_putObj _ _ _ (Nat.le_refl _)
      have hother : ∀ k, k ≠ l → W''.heap[k]? = W'.heap[k]? := fun k hk => by rw [← hW'']; exact World.putObj_heap_other hk
      have hsz : W''.heap.size = W'.heap.size := by rw [← hW'']; simp
      have hl2 : W''.heap[l]? = some (.loop { rec .ready none with state := .busy }) := by rw [← hW'']; exact World.putObj_heap_same (Array.getElem?_eq_some_iff.1 hlW').1
      have hk2 : W''.heap[w.heap.size]? = some (.deferred (some [])) := (hother _ (by omega)).trans hkW'
      have hsp : Spares n₀ W1.heap.size W W'' := (Spares.below hbW (by omega)).trans ⟨hput.mono (by omega), fun k hk _ => hother k (by omega)⟩
      refine wpIn_mono (hgo W'' hother hsz (hI _ _ _ (hI _ _ _ hi (hbW.mono (by omega))) (hput.mono (by omega)))) ?_
      have fin : ∀ (jump : Option Code) (W3 : World), Spares n₀ w.heap.size W'' W3 → ∃ W4, (Instr.endRound l jump).run P W3 = .ok (.bool jump.isNone) W4 ∧ Below l W3 W4 ∧
          W4.heap[l]? = some (.loop (rec (if jump.isNone then .ready else .done) jump)) ∧ W4.heap[w.heap.size]? = some (.deferred (some [])) ∧ Spares n₀ W1.heap.size W W4 := fun jump W3 h3 => by
        have hl3 := (h3.same l (by omega) (Array.getElem?_eq_some_iff.1 hl2).1).trans hl2
        have hk3 := (h3.same _ (Nat.le_refl _) (Array.getElem?_eq_some_iff.1 hk2).1).trans hk2
        have hr := run_endRound (P := P) jump hl3
        rw [hrec] at hr hl3 ⊢
        exact ⟨_, hr, below_putObj _ _ _ (Nat.le_refl _), World.putObj_heap_same (Array.getElem?_eq_some_iff.1 hl3).1, (World.putObj_heap_other (by omega)).trans hk3,
          (hsp.trans (h3.mono (by omega))).trans (spares_putObj _ _ _ (by omega) (by omega))⟩
      rintro e a3 W3 hp
      cases e with
      | normal =>
        obtain ⟨W4, hr, hb4, hl4, hk4, hs4⟩ := fin none W3 hp.1
        exact ⟨_, _, hr, .inl ⟨rfl, ⟨hI _ _ _ hp.2 (hb4.mono (by omega)), hl4, hk4⟩, hs4⟩⟩
      | ret =>
        obtain ⟨W4, hr, hb4, hl4, hk4, hs4⟩ := fin (some .ret) W3 hp.1
        exact ⟨_, _, hr, .inr ⟨rfl, .ret, hIx _ _ _ _ hp.2 (hb4.mono (by omega)), hl4, hk4⟩⟩
      | exit id =>
        obtain ⟨W4, hr, hb4, hl4, hk4, hs4⟩ := fin (some (.exit id)) W3 hp.1
        exact ⟨_, _, hr, .inr ⟨rfl, .exit id, hIx _ _ _ _ hp.2 (hb4.mono (by omega)), hl4, hk4⟩⟩
      | goto t =>
        obtain ⟨W4, hr, hb4, hl4, hk4, hs4⟩ := fin (some (.goto t)) W3 hp.1
        exact ⟨_, _, hr, .inr ⟨rfl, .goto t, hIx _ _ _ _ hp.2 (hb4.mono (by omega)), hl4, hk4⟩⟩
      | panic ch => exact hp.elim
      | outgrown => exact hp.elim
    | ret => exact he
    | exit id => exact he
    | goto t => exact he
    | panic ch => exact he
    | outgrown => exact he
  · rintro e W2 ⟨⟨v, rfl⟩, (⟨xs, hS, hi, hlW, hkW⟩ | ⟨pre, hSp, c, hi, hlW, hkW⟩)⟩
    · refine ⟨none, _, by have := run_endLoop (P := P) hlW (by rw [hrec]; simp); rw [hrec] at this; exact this, ?_⟩
      exact hdone _ xs _ (Nat.le_refl _) hS (hI _ _ _ hi (below_putObj _ _ _ (by omega))) ((World.putObj_heap_other (by omega)).trans hkW)
    · refine ⟨some c, _, by have := run_endLoop (P := P) hlW (by rw [hrec]; simp); rw [hrec] at this; exact this, ?_⟩
      exact hstop _ c pre _ (Nat.le_refl _) hSp (hIx c _ _ _ hi (below_putObj _ _ _ (by omega))) ((World.putObj_heap_other (by omega)).trans hkW)
end
end Go.Proofs.YtamafhcgjbkikaaDoor
