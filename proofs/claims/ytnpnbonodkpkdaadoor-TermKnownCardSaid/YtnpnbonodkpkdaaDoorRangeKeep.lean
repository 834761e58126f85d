/-
  A range over a function whose iterator leaves memory alone between two rounds: what the iterator promises, and the statement's law. The round may say of memory what it likes.
-/
import Derived.Test.YtnpnbonodkpkdaaDoorRangeCells
namespace Go.Proofs.YtnpnbonodkpkdaaDoor
open Go.RowKit

/-- The iterator's word. -/
def YieldsQ {α : Type} (Kp : World → Prop) (F : Fence) (n : Nat) (P : Program) (g : Nat) (lb : Array Value) (encs : α → Array Value) (S : List α → Prop) (N : Nat) (w : World) : Prop :=
  ∀ (l : Nat) (J : List α → World → Prop) (W : World), Below w.heap.size w W → (∀ pre W1, J pre W1 → Kp W1) →
    (∀ pre x W1, J pre W1 → pre.length < N → YieldAt F (n - 1) P l (encs x) W1 fun e W' => e = .returned (.bool true) ∧ J (pre ++ [x]) W') →
    J [] W →
    CallsIn F n P g (#[.func (.yield l) #[] #[]] ++ lb) W fun e W' => (∃ v, e = .returned v) ∧ ∃ xs, S xs ∧ J xs W'

/-- How a round's body is left. -/
def quietEnds {α : Type} (D l : Nat) (I : List α → World → Prop) (xs : List α) (W : World) : Exit → Act → World → Prop
  | .normal, _, W' => (W'.heap[l]? = W.heap[l]? ∧ W'.heap[D]? = W.heap[D]? ∧ W.heap.size ≤ W'.heap.size) ∧ I xs W'
  | _, _, _ => False

section
variable {F : Fence} {n : Nat} {P : Program}

theorem wpIn_range_quiet {Kp : World → Prop} {α : Type} {g : Operand} {ps : Array Tmp} {assign body : Code} {Q : Exit → Act → World → Prop} {a : Act} {w : World}
    (hro : F.round = none) (h1 : 1 ≤ n) {gf : Nat} {lb : Array Value} (hg : a.eval g = .func (.func gf) #[] lb) (hFg : F.fn gf) (eg : ∀ args w, (callFunc gf args).run P w = .ok (.enter gf args) w)
    {encs : α → Array Value} {S : List α → Prop} {N : Nat} (hseq : YieldsQ Kp F (n - 1) P gf lb encs S N w) (hps : ∀ x, (encs x).size = ps.size)
    (I : List α → World → Prop) (hI : ∀ pre A o, I pre A → I pre (A.putObj (w.heap.size + 1) o)) (h0 : ∀ W1, Below w.heap.size w W1 → I [] W1) (hKp : ∀ pre W, I pre W → Kp W)
    (hround : ∀ (l : Nat) (pre : List α) (x : α) (W : World), l = w.heap.size + 1 → I pre W → pre.length < N → w.heap.size + 2 ≤ W.heap.size →
      assign.wpIn (F.inRound l) (n - 1 - 1) P (Exit.then (fun a' W' => I pre W' ∧ Below W.heap.size W W' ∧ ∀ W'', (∀ k, k ≠ l → W''.heap[k]? = W'.heap[k]?) → W''.heap.size = W'.heap.size → I pre W'' →
        body.wpIn (F.inRound l) (n - 1 - 1) P (quietEnds w.heap.size l I (pre ++ [x]) W'') a' W'') (fun _ _ _ => False)) { tmps := (ps.zip (encs x)).foldl (fun t (p, v) => t.setIfInBounds p v) a.tmps, defers := [] } W)
    (hdone : ∀ (D : Nat) (xs : List α) (W : World), w.heap.size = D → S xs → I xs W → W.heap[D]? = some (.deferred (some [])) → Q .normal { a with defers := { target := .collected D, args := #[] } :: a.defers } W) :
    (Code.rangeFunc g ps assign body).wpIn F n P Q a w := by
  refine wpIn_rangeFunc fun fn hfn => ?_
  rw [hro]
  obtain ⟨rec, hrec⟩ : ∃ rec : LoopState → Option Code → Loop, rec = fun st pe => { state := st, pending := pe, fn, tmps := a.tmps, params := ps, assign, body, defers := w.heap.size } := ⟨_, rfl⟩
  obtain ⟨l, hl⟩ : ∃ l, w.heap.size + 1 = l := ⟨_, rfl⟩
  obtain ⟨W1, hW1⟩ : ∃ W1, (w.alloc (.deferred (some []))).alloc (.loop (rec .ready none)) = W1 := ⟨_, rfl⟩
  have hz1 : W1.heap.size = w.heap.size + 2 := by rw [← hW1, World.size_alloc, World.size_alloc]
  have hw1 : Below w.heap.size w W1 := by
    rw [← hW1]
    exact ((Below.refl _ w).alloc (Nat.le_refl _) _).alloc (by rw [World.size_alloc]; omega) _
  have hK1 : W1.heap[w.heap.size]? = some (.deferred (some [])) := by
    rw [← hW1]
    exact (Below.heap_alloc _ _ _ (by rw [World.size_alloc]; omega)).trans (World.alloc_heap_new w _)
  have hL1 : W1.heap[l]? = some (.loop (rec .ready none)) := by
    have := World.alloc_heap_new (w.alloc (.deferred (some []))) (.loop (rec .ready none))
    rwa [World.size_alloc, hl, hW1] at this
  rw [hl] at hI
  refine ⟨l, [{ target := .collected w.heap.size, args := #[] }], W1, { target := .fn (.func gf) lb, args := #[.func (.yield l) #[] #[]] }, W1, gf, #[.func (.yield l) #[] #[]] ++ lb, W1, ?_, ?_, ?_, ?_, fun _ => h1, ?_⟩
  · rw [← hW1, hrec, ← hl]
    exact run_enterLoop_outer _ _ _ _ _
  · simp only [resolve, hg]
    simp [go_sem]
  · intro f' hf'
    simp [Target.leads] at hf'
    exact hf' ▸ hFg
  · simp [invoke, go_sem, eg]
  refine (hseq l (fun pre W => I pre W ∧ W.heap[l]? = some (.loop (rec .ready none)) ∧ W.heap[w.heap.size]? = some (.deferred (some [])) ∧ W1.heap.size ≤ W.heap.size) W1 hw1 (fun pre W h => hKp pre W h.1) ?_ ⟨h0 _ hw1, hL1, hK1, Nat.le_refl _⟩).mono ?_
  · rintro pre x W ⟨hi, hlW, hkW, hzW⟩ hlen
    have hy := run_yield (P := P) (args := encs x) hlW (by rw [hrec]; exact hps x)
    rw [hrec] at hy
    refine ⟨fn, _, assign, body, hy, roundIn_of_wpIn hfn (wpIn_mono (hround l pre x W hl.symm hi hlen (by omega)) ?_)⟩
    intro e a' W' he
    cases e with
    | normal =>
      obtain ⟨hiW', hbW, hgo⟩ := he
      have hlW' := (hbW.block l (Array.getElem?_eq_some_iff.1 hlW).1).trans hlW
      have hkW' := (hbW.block _ (Array.getElem?_eq_some_iff.1 hkW).1).trans hkW
      refine ⟨_, run_beginRound hlW' (by rw [hrec]), ?_⟩
      obtain ⟨W'', hW''⟩ : ∃ W'', W'.putObj l (.loop { rec .ready none with state := .busy }) = W'' := ⟨_, rfl⟩
      rw [hW'']
      have hother : ∀ k, k ≠ l → W''.heap[k]? = W'.heap[k]? := fun k hk => by rw [← hW'']; exact World.putObj_heap_other hk
      have hsz : W''.heap.size = W'.heap.size := by rw [← hW'']; simp
      have hl2 : W''.heap[l]? = some (.loop { rec .ready none with state := .busy }) := by rw [← hW'']; exact World.putObj_heap_same (Array.getElem?_eq_some_iff.1 hlW').1
      have hk2 : W''.heap[w.heap.size]? = some (.deferred (some [])) := (hother _ (by omega)).trans hkW'
      have hsb := hbW.size
      refine wpIn_mono (hgo W'' hother hsz (by rw [← hW'']; exact hI _ _ _ hiW')) ?_
      rintro e a3 W3 hp
      cases e with
      | normal =>
        obtain ⟨⟨hpl, hpk, hpz⟩, hpi⟩ := hp
        have hl3 := hpl.trans hl2
        have hk3 := hpk.trans hk2
        have hr := run_endRound (P := P) none hl3
        rw [hrec] at hr hl3
        refine ⟨_, _, hr, rfl, hI _ _ _ hpi, ?_, (World.putObj_heap_other (by omega)).trans hk3, ?_⟩
        · rw [hrec]
          exact World.putObj_heap_same (Array.getElem?_eq_some_iff.1 hl3).1
        · simp
          omega
      | ret => exact hp.elim
      | exit id => exact hp.elim
      | goto t => exact hp.elim
      | panic ch => exact hp.elim
      | outgrown => exact hp.elim
    | ret => exact he
    | exit id => exact he
    | goto t => exact he
    | panic ch => exact he
    | outgrown => exact he
  · rintro e W2 ⟨⟨v, rfl⟩, xs, hS, hi, hlW, hkW, hzW⟩
    refine ⟨none, _, by have := run_endLoop (P := P) hlW (by rw [hrec]; simp); rw [hrec] at this; exact this, ?_⟩
    exact hdone _ xs _ rfl hS (hI _ _ _ hi) ((World.putObj_heap_other (by omega)).trans hkW)
end
end Go.Proofs.YtnpnbonodkpkdaaDoor
