/-
  A range over a function whose body writes whatever blocks but some, which the iterator reads: frames by the blocks that are written.
-/
import Derived.RangeFuncNested
import Derived.RangeFuncBound
import Derived.RangeFuncCalls
import Derived.RangeFuncLeaves
import Derived.Shelf.Abstract
import Derived.OwnWalkIn
import Derived.TacticsInMore
import Derived.LoopNIn
import Derived.LoopIn
import Derived.Test.YtkijbphbibcnoaaKitOnly
namespace Go.Proofs.Ytkijbphbibcnoaa
open Go.RowKit

theorem only_putObj {S : Nat → Prop} (W : World) (l : Nat) (o : Obj) (h : S l) : Only S W (W.putObj l o) :=
  ⟨rfl, rfl, rfl, by simp, fun k _ hk => World.putObj_heap_other (fun e => hk (e ▸ h))⟩
/-- What is said abides whatever adds to memory. -/
def Abides {β : Type} (I : β → World → Prop) : Prop := ∀ s W W', I s W → Below W.heap.size W W' → I s W'

/-- The iterator's word: for whatever loop over it whose body writes no block of Pr. -/
def YieldsO {α : Type} (Pr : Nat → Prop) (F : Fence) (n : Nat) (P : Program) (g : Nat) (lb : Array Value) (encs : α → Array Value) (S Sp : List α → Prop) (N : Nat) (w : World) : Prop :=
  ∀ (l : Nat) (J Jx : List α → World → Prop) (W : World), Below w.heap.size w W → Abides J → Abides Jx →
    (∀ pre x W1, J pre W1 → Only (fun k => ¬ Pr k) W W1 → Sp (pre ++ [x]) → pre.length < N → YieldAt F (n - 1) P l (encs x) W1 fun e W' =>
      (e = .returned (.bool true) ∧ J (pre ++ [x]) W' ∧ Only (fun k => ¬ Pr k) W1 W') ∨ (e = .returned (.bool false) ∧ Jx (pre ++ [x]) W')) →
    J [] W →
    CallsIn F n P g (#[.func (.yield l) #[] #[]] ++ lb) W fun e W' => (∃ v, e = .returned v) ∧ ((∃ xs, S xs ∧ J xs W') ∨ (∃ pre, Sp pre ∧ Jx pre W'))

/-- How a round's body may be left; B, B + 1: the loop's own two blocks. -/
def roundEndsO {α : Type} (Pr : Nat → Prop) (B : Nat) (I : List α → World → Prop) (Ix : Code → List α → World → Prop) (xs : List α) (W : World) : Exit → Act → World → Prop
  | .normal, _, W' => Only (fun k => ¬ Pr k ∧ k ≠ B ∧ k ≠ B + 1) W W' ∧ I xs W'
  | .ret, _, W' => Only (fun k => k ≠ B ∧ k ≠ B + 1) W W' ∧ Ix .ret xs W'
  | .exit id, _, W' => Only (fun k => k ≠ B ∧ k ≠ B + 1) W W' ∧ Ix (.exit id) xs W'
  | .goto t, _, W' => Only (fun k => k ≠ B ∧ k ≠ B + 1) W W' ∧ Ix (.goto t) xs W'
  | .panic _, _, _ => False
  | .outgrown, _, _ => False

section
variable {F : Fence} {n : Nat} {P : Program}

set_option linter.unusedVariables false in
/-- The statement 'for .. := range g', g's value being an iterator of the above sort. -/
theorem wpIn_range_only {α : Type} {g : Operand} {ps : Array Tmp} {assign body : Code} {Q : Exit → Act → World → Prop} {a : Act} {w : World}
    (hro : F.round = none) (h1 : 1 ≤ n) {gf : Nat} {lb : Array Value} (hg : a.eval g = .func (.func gf) #[] lb) (hFg : F.fn gf) (eg : ∀ args w, (callFunc gf args).run P w = .ok (.enter gf args) w)
    {Pr : Nat → Prop} {encs : α → Array Value} {S Sp : List α → Prop} {N : Nat} (hseq : YieldsO Pr F (n - 1) P gf lb encs S Sp N w) (hPr : ∀ k, Pr k → k < w.heap.size) (hps : ∀ x, (encs x).size = ps.size)
    (I : List α → World → Prop) (Ix : Code → List α → World → Prop) (hI : ∀ s W W', I s W → Only (fun k => k = w.heap.size + 1) W W' → I s W') (hIx : ∀ c s W W', Ix c s W → Only (fun k => k = w.heap.size + 1) W W' → Ix c s W') (h0 : I [] w)
    (hround : ∀ (l : Nat) (pre : List α) (x : α) (W : World), l = w.heap.size + 1 → I pre W → Only (fun k => ¬ Pr k) w W → Sp (pre ++ [x]) → pre.length < N → w.heap.size + 2 ≤ W.heap.size →
      assign.wpIn (F.inRound l) (n - 1 - 1) P (Exit.then (fun a' W' => Below W.heap.size W W' ∧ ∀ W'', Only (fun k => k = l) W' W'' → W''.heap.size = W'.heap.size → I pre W'' →
        body.wpIn (F.inRound l) (n - 1 - 1) P (roundEndsO Pr w.heap.size I Ix (pre ++ [x]) W'') a' W'') (fun _ _ _ => False)) { tmps := (ps.zip (encs x)).foldl (fun t (p, v) => t.setIfInBounds p v) a.tmps, defers := [] } W)
    (hdone : ∀ (D : Nat) (xs : List α) (W : World), D = w.heap.size → S xs → I xs W → W.heap[D]? = some (.deferred (some [])) → Q .normal { a with defers := { target := .collected D, args := #[] } :: a.defers } W)
    (hstop : ∀ (D : Nat) (c : Code) (pre : List α) (W : World), D = w.heap.size → Sp pre → Ix c pre W → W.heap[D]? = some (.deferred (some [])) → c.wpIn F n P Q { a with defers := { target := .collected D, args := #[] } :: a.defers } W) :
    (Code.rangeFunc g ps assign body).wpIn F n P Q a w := by
  refine wpIn_rangeFunc fun fn hfn => ?_
  rw [hro]
  obtain ⟨rec, hrec⟩ : ∃ rec : LoopState → Option Code → Loop, rec = fun st pe => { state := st, pending := pe, fn, tmps := a.tmps, params := ps, assign, body, defers := w.heap.size } := ⟨_, rfl⟩
  obtain ⟨l, hl⟩ : ∃ l, w.heap.size + 1 = l := ⟨_, rfl⟩
  obtain ⟨W1, hW1⟩ : ∃ W1, (w.alloc (.deferred (some []))).alloc (.loop (rec .ready none)) = W1 := ⟨_, rfl⟩
  have hz1 : W1.heap.size = w.heap.size + 2 := by rw [← hW1, World.size_alloc, World.size_alloc]
  have hw1 : Below w.heap.size w W1 := by
    rw [← hW1]
    exact ((Below.refl _ w).alloc (Nat.le_refl _) _).alloc (by rw [World.size_alloc]; omega) _
  have hK1 : W1.heap[w.heap.size]? = some (.deferred (some [])) := by
    rw [← hW1]
    exact (Below.heap_alloc _ _ _ (by rw [World.size_alloc]; omega)).trans (World.alloc_heap_new w _)
  have hL1 : W1.heap[l]? = some (.loop (rec .ready none)) := by
    have := World.alloc_heap_new (w.alloc (.deferred (some []))) (.loop (rec .ready none))
    rwa [World.size_alloc, hl, hW1] at this
  have hPl : ¬ Pr l := fun h => by have := hPr l h; omega
  have hup : ∀ {A B : World}, Below A.heap.size A B → Only (fun k => k = w.heap.size + 1) A B := fun h => Only.up h
  have hput : ∀ (A : World) (o : Obj), Only (fun k => k = w.heap.size + 1) A (A.putObj l o) := fun A o => only_putObj A l o hl.symm
  have frame : ∀ {A B C : World} {T : Nat → Prop}, Only (fun k => ¬ Pr k) A B → Only T B C → (∀ k, T k → ¬ Pr k) → Only (fun k => ¬ Pr k) A C := fun h k hT => h.trans k (fun i hi => Or.inl (hT i hi))
  refine ⟨l, [{ target := .collected w.heap.size, args := #[] }], W1, { target := .fn (.func gf) lb, args := #[.func (.yield l) #[] #[]] }, W1, gf, #[.func (.yield l) #[] #[]] ++ lb, W1, ?_, ?_, ?_, ?_, fun _ => h1, ?_⟩
  · rw [← hW1, hrec, ← hl]
    exact run_enterLoop_outer _ _ _ _ _
  · simp only [resolve, hg]
    simp [go_sem]
  · intro f' hf'
    simp [Target.leads] at hf'
    exact hf' ▸ hFg
  · simp [invoke, go_sem, eg]
  refine (hseq l (fun pre W => I pre W ∧ Only (fun k => ¬ Pr k) w W ∧ W.heap[l]? = some (.loop (rec .ready none)) ∧ W.heap[w.heap.size]? = some (.deferred (some [])))
    (fun pre W => ∃ c, Ix c pre W ∧ W.heap[l]? = some (.loop (rec .done (some c))) ∧ W.heap[w.heap.size]? = some (.deferred (some []))) W1 hw1
    (fun s A B ⟨h1, h2, h3, h4⟩ hb => ⟨hI s A B h1 (hup hb), h2.call hb, (hb.block l (Array.getElem?_eq_some_iff.1 h3).1).trans h3, (hb.block _ (Array.getElem?_eq_some_iff.1 h4).1).trans h4⟩)
    (fun s A B ⟨c, h1, h3, h4⟩ hb => ⟨c, hIx c s A B h1 (hup hb), (hb.block l (Array.getElem?_eq_some_iff.1 h3).1).trans h3, (hb.block _ (Array.getElem?_eq_some_iff.1 h4).1).trans h4⟩) ?_
    ⟨hI _ _ _ h0 (hup hw1), Only.up hw1, hL1, hK1⟩).mono ?_
  · rintro pre x W ⟨hi, hoW, hlW, hkW⟩ hzW hspx hlen
    have hy := run_yield (P := P) (args := encs x) hlW (by rw [hrec]; exact hps x)
    rw [hrec] at hy
    refine ⟨fn, _, assign, body, hy, roundIn_of_wpIn hfn (wpIn_mono (hround l pre x W hl.symm hi hoW hspx hlen (by have := hzW.size; omega)) ?_)⟩
    intro e a' W' he
    cases e with
    | normal =>
      obtain ⟨hbW, hgo⟩ := he
      have hlW' := (hbW.block l (Array.getElem?_eq_some_iff.1 hlW).1).trans hlW
      have hkW' := (hbW.block _ (Array.getElem?_eq_some_iff.1 hkW).1).trans hkW
      refine ⟨_, run_beginRound hlW' (by rw [hrec]), ?_⟩
      obtain ⟨W'', hW''⟩ : ∃ W'', W'.putObj l (.loop { rec .ready none with state := .busy }) = W'' := ⟨_, rfl⟩
      rw [hW'']
      have hput' : Only (fun k => k = w.heap.size + 1) W' W'' := by rw [← hW'']; exact hput _ _
      have hsz : W''.heap.size = W'.heap.size := by rw [← hW'']; simp
      have hl2 : W''.heap[l]? = some (.loop { rec .ready none with state := .busy }) := by rw [← hW'']; exact World.putObj_heap_same (Array.getElem?_eq_some_iff.1 hlW').1
      have hk2 : W''.heap[w.heap.size]? = some (.deferred (some [])) := hput'.box hkW' (by omega)
      have hsp : Only (fun k => ¬ Pr k) W W'' := frame (Only.up hbW) hput' (fun k hk => by subst hk; rw [hl]; exact hPl)
      have hi2 : I pre W'' := hI _ _ _ (hI _ _ _ hi (hup hbW)) hput'
      refine wpIn_mono (hgo W'' (by rw [← hl]; exact hput') hsz hi2) ?_
      have fin : ∀ (jump : Option Code) (W3 : World), Only (fun k => k ≠ w.heap.size ∧ k ≠ w.heap.size + 1) W'' W3 → ∃ W4, (Instr.endRound l jump).run P W3 = .ok (.bool jump.isNone) W4 ∧ Only (fun k => k = w.heap.size + 1) W3 W4 ∧
          W4.heap[l]? = some (.loop (rec (if jump.isNone then .ready else .done) jump)) ∧ W4.heap[w.heap.size]? = some (.deferred (some [])) := fun jump W3 h3 => by
        have hl3 := h3.box hl2 (fun h => h.2 hl.symm)
        have hk3 := h3.box hk2 (fun h => h.1 rfl)
        have hr := run_endRound (P := P) jump hl3
        rw [hrec] at hr hl3 ⊢
        exact ⟨_, hr, hput _ _, World.putObj_heap_same (Array.getElem?_eq_some_iff.1 hl3).1, (hput _ _).box hk3 (by omega)⟩
      rintro e a3 W3 hp
      cases e with
      | normal =>
        obtain ⟨hp1, hp2⟩ := hp
        obtain ⟨W4, hr, hb4, hl4, hk4⟩ := fin none W3 (hp1.mono fun k hk => hk.2)
        have hs4 : Only (fun k => ¬ Pr k) W W4 := frame (frame hsp hp1 (fun k hk => hk.1)) hb4 (fun k hk => by subst hk; rw [hl]; exact hPl)
        exact ⟨_, _, hr, .inl ⟨rfl, ⟨hI _ _ _ hp2 hb4, frame hoW hs4 (fun _ h => h), hl4, hk4⟩, hs4⟩⟩
      | ret =>
        obtain ⟨W4, hr, hb4, hl4, hk4⟩ := fin (some .ret) W3 hp.1
        exact ⟨_, _, hr, .inr ⟨rfl, .ret, hIx _ _ _ _ hp.2 hb4, hl4, hk4⟩⟩
      | exit id =>
        obtain ⟨W4, hr, hb4, hl4, hk4⟩ := fin (some (.exit id)) W3 hp.1
        exact ⟨_, _, hr, .inr ⟨rfl, .exit id, hIx _ _ _ _ hp.2 hb4, hl4, hk4⟩⟩
      | goto t =>
        obtain ⟨W4, hr, hb4, hl4, hk4⟩ := fin (some (.goto t)) W3 hp.1
        exact ⟨_, _, hr, .inr ⟨rfl, .goto t, hIx _ _ _ _ hp.2 hb4, hl4, hk4⟩⟩
      | panic ch => exact hp.elim
      | outgrown => exact hp.elim
    | ret => exact he
    | exit id => exact he
    | goto t => exact he
    | panic ch => exact he
    | outgrown => exact he
  · rintro e W2 ⟨⟨v, rfl⟩, (⟨xs, hS, hi, _, hlW, hkW⟩ | ⟨pre, hSp, c, hi, hlW, hkW⟩)⟩
    · refine ⟨none, _, by have := run_endLoop (P := P) hlW (by rw [hrec]; simp); rw [hrec] at this; exact this, ?_⟩
      exact hdone _ xs _ rfl hS (hI _ _ _ hi (hput _ _)) ((hput _ _).box hkW (by omega))
    · refine ⟨some c, _, by have := run_endLoop (P := P) hlW (by rw [hrec]; simp); rw [hrec] at this; exact this, ?_⟩
      exact hstop _ c pre _ rfl hSp (hIx c _ _ _ hi (hput _ _)) ((hput _ _).box hkW (by omega))
end
end Go.Proofs.Ytkijbphbibcnoaa
