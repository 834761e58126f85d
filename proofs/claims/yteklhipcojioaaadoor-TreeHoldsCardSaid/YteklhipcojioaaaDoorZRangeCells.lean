/-
  A range over a function whose iterator keeps variables of its own in memory, and writes them between two rounds: what the iterator promises, what a round promises, and the statement's law.
-/
import Derived.RangeFuncNested
import Derived.RangeFuncBound
import Derived.RangeFuncCalls
import Derived.RangeFuncLeaves
import Derived.Shelf.Abstract
import Derived.WalkKit
import Derived.OwnWalkIn
import Derived.TacticsInMore
import Derived.LoopNIn
import Derived.LoopIn
import Derived.Test.YteklhipcojioaaaDoorRows
import Derived.Test.YteklhipcojioaaaDoorZKitBase
import Derived.Sort.LoopGhostIn
namespace Go.Proofs.YteklhipcojioaaaDoor
open Go.RowKit

/-- What is said hangs on blocks below B alone. -/
def OnBelow {β : Type} (B : Nat) (I : β → World → Prop) : Prop := ∀ s W W', I s W → Below B W W' → I s W'

/-- From block B on, what there is stays as it is; below n₀ too. -/
structure Spares (n₀ B : Nat) (W W' : World) : Prop where
  low : Below n₀ W W'
  same : ∀ k, B ≤ k → k < W.heap.size → W'.heap[k]? = W.heap[k]?

theorem Spares.refl (n₀ B : Nat) (W : World) : Spares n₀ B W W := ⟨Below.refl _ _, fun _ _ _ => rfl⟩
theorem Spares.trans {n₀ B : Nat} {X Y Z : World} (h : Spares n₀ B X Y) (k : Spares n₀ B Y Z) : Spares n₀ B X Z :=
  ⟨h.low.trans k.low, fun i hB hi => (k.same i hB (Nat.lt_of_lt_of_le hi h.low.size)).trans (h.same i hB hi)⟩
theorem Spares.mono {n₀ B B' : Nat} {X Y : World} (h : Spares n₀ B X Y) (hB : B ≤ B') : Spares n₀ B' X Y := ⟨h.low, fun k hk hs => h.same k (Nat.le_trans hB hk) hs⟩
theorem Spares.alloc {n₀ : Nat} (B : Nat) (W : World) (hn : n₀ ≤ W.heap.size) (o : Obj) : Spares n₀ B W (W.alloc o) := ⟨(Below.refl _ W).alloc hn o, fun k _ hk => Below.heap_alloc W o k hk⟩
theorem Spares.setCell {n₀ B : Nat} (W : World) {p : Addr} (hn : n₀ ≤ p.block) (hB : p.block < B) (v : Value) : Spares n₀ B W (W.setCell p v) :=
  ⟨(Below.refl _ W).setCell hn v, fun k hk _ => Below.heap_setCell W p v k (by omega)⟩
theorem Spares.drew {n₀ B : Nat} {W W' : World} (h : Spares n₀ B W W') : Spares n₀ B W W'.drew := ⟨h.low.drew, h.same⟩
theorem Spares.below {n₀ B : Nat} {W W' : World} (h : Below W.heap.size W W') (hn : n₀ ≤ W.heap.size) : Spares n₀ B W W' := ⟨h.mono hn, fun k _ hk => h.block k hk⟩

/-- The iterator's word: for whatever loop over it that spares what it has. -/
def Yields {α : Type} (F : Fence) (n : Nat) (P : Program) (g : Nat) (lb : Array Value) (encs : α → Array Value) (n₀ : Nat) (S Sp : List α → Prop) (N : Nat) (w : World) : Prop :=
  ∀ (l : Nat) (J Jx : List α → World → Prop) (W : World), Below w.heap.size w W → OnBelow W.heap.size J → OnBelow W.heap.size Jx →
    (∀ pre x W1, J pre W1 → W.heap.size ≤ W1.heap.size → pre.length < N → YieldAt F (n - 1) P l (encs x) W1 fun e W' =>
      (e = .returned (.bool true) ∧ J (pre ++ [x]) W' ∧ Spares n₀ W.heap.size W1 W') ∨ (e = .returned (.bool false) ∧ Jx (pre ++ [x]) W')) →
    J [] W →
    CallsIn F n P g (#[.func (.yield l) #[] #[]] ++ lb) W fun e W' => (∃ v, e = .returned v) ∧ ((∃ xs, S xs ∧ J xs W') ∨ (∃ pre, Sp pre ∧ Jx pre W'))

/-- How a round's body may be left. -/
def roundEnds {α : Type} (n₀ B : Nat) (I : List α → World → Prop) (Ix : Code → List α → World → Prop) (xs : List α) (W : World) : Exit → Act → World → Prop
  | .normal, _, W' => Spares n₀ B W W' ∧ I xs W'
  | .ret, _, W' => Spares n₀ B W W' ∧ Ix .ret xs W'
  | .exit id, _, W' => Spares n₀ B W W' ∧ Ix (.exit id) xs W'
  | .goto t, _, W' => Spares n₀ B W W' ∧ Ix (.goto t) xs W'
  | .panic _, _, _ => False
  | .outgrown, _, _ => False

section
variable {F : Fence} {n : Nat} {P : Program}

theorem below_putObj {B : Nat} (W : World) (l : Nat) (o : Obj) (hB : B ≤ l) : Below B W (W.putObj l o) :=
  ⟨rfl, rfl, rfl, by simp, fun k hk => World.putObj_heap_other (by omega)⟩
theorem spares_putObj {n₀ B : Nat} (W : World) (l : Nat) (o : Obj) (hn : n₀ ≤ l) (hB : l < B) : Spares n₀ B W (W.putObj l o) :=
  ⟨below_putObj W l o hn, fun k hk _ => World.putObj_heap_other (by omega)⟩

/-- The statement 'for .. := range g', g's value being an iterator of the above sort. -/
theorem wpIn_range_cells {α : Type} {g : Operand} {ps : Array Tmp} {assign body : Code} {Q : Exit → Act → World → Prop} {a : Act} {w : World}
    (hro : F.round = none) (h1 : 1 ≤ n) {gf : Nat} {lb : Array Value} (hg : a.eval g = .func (.func gf) #[] lb) (hFg : F.fn gf) (eg : ∀ args w, (callFunc gf args).run P w = .ok (.enter gf args) w)
    {encs : α → Array Value} {n₀ : Nat} {S Sp : List α → Prop} {N : Nat} (hseq : Yields F (n - 1) P gf lb encs n₀ S Sp N w) (hn₀ : n₀ ≤ w.heap.size) (hps : ∀ x, (encs x).size = ps.size)
    (I : List α → World → Prop) (Ix : Code → List α → World → Prop) (hI : OnBelow w.heap.size I) (hIx : ∀ c, OnBelow w.heap.size (Ix c)) (h0 : I [] w)
    (hround : ∀ (l : Nat) (pre : List α) (x : α) (W : World), l = w.heap.size + 1 → I pre W → pre.length < N → w.heap.size + 2 ≤ W.heap.size →
      assign.wpIn (F.inRound l) (n - 1 - 1) P (Exit.then (fun a' W' => Below W.heap.size W W' ∧ ∀ W'', (∀ k, k ≠ l → W''.heap[k]? = W'.heap[k]?) → W''.heap.size = W'.heap.size → I pre W'' →
        body.wpIn (F.inRound l) (n - 1 - 1) P (roundEnds n₀ w.heap.size I Ix (pre ++ [x]) W'') a' W'') (fun _ _ _ => False)) { tmps := (ps.zip (encs x)).foldl (fun t (p, v) => t.setIfInBounds p v) a.tmps, defers := [] } W)
    (hdone : ∀ (D : Nat) (xs : List α) (W : World), w.heap.size ≤ D → S xs → I xs W → W.heap[D]? = some (.deferred (some [])) → Q .normal { a with defers := { target := .collected D, args := #[] } :: a.defers } W)
    (hstop : ∀ (D : Nat) (c : Code) (pre : List α) (W : World), w.heap.size ≤ D → Sp pre → Ix c pre W → W.heap[D]? = some (.deferred (some [])) → c.wpIn F n P Q { a with defers := { target := .collected D, args := #[] } :: a.defers } W) :
    (Code.rangeFunc g ps assign body).wpIn F n P Q a w := by
  refine wpIn_rangeFunc fun fn hfn => ?_
  rw [hro]
  obtain ⟨rec, hrec⟩ : ∃ rec : LoopState → Option Code → Loop, rec = fun st pe => { state := st, pending := pe, fn, tmps := a.tmps, params := ps, assign, body, defers := w.heap.size } := ⟨_, rfl⟩
  obtain ⟨l, hl⟩ : ∃ l, w.heap.size + 1 = l := ⟨_, rfl⟩
  obtain ⟨W1, hW1⟩ : ∃ W1, (w.alloc (.deferred (some []))).alloc (.loop (rec .ready none)) = W1 := ⟨_, rfl⟩
  have hz1 : W1.heap.size = w.heap.size + 2 := by rw [← hW1, World.size_alloc, World.size_alloc]
  have hw1 : Below w.heap.size w W1 := by
    rw [← hW1]
    exact ((Below.refl _ w).alloc (Nat.le_refl _) _).alloc (by rw [World.size_alloc]; omega) _
  have hK1 : W1.heap[w.heap.size]? = some (.deferred (some [])) := by
    rw [← hW1]
    exact (Below.heap_alloc _ _ _ (by rw [World.size_alloc]; omega)).trans (World.alloc_heap_new w _)
  have hL1 : W1.heap[l]? = some (.loop (rec .ready none)) := by
    have := World.alloc_heap_new (w.alloc (.deferred (some []))) (.loop (rec .ready none))
    rwa [World.size_alloc, hl, hW1] at this
  -- the loop's two blocks, in a state
  have marks : ∀ {A B : World} {o o' : Obj}, Below W1.heap.size A B → A.heap[l]? = some o ∧ A.heap[w.heap.size]? = some o' → B.heap[l]? = some o ∧ B.heap[w.heap.size]? = some o' :=
    fun hb h => ⟨(hb.block l (by omega)).trans h.1, (hb.block _ (by omega)).trans h.2⟩
  refine ⟨l, [{ target := .collected w.heap.size, args := #[] }], W1, { target := .fn (.func gf) lb, args := #[.func (.yield l) #[] #[]] }, W1, gf, #[.func (.yield l) #[] #[]] ++ lb, W1, ?_, ?_, ?_, ?_, fun _ => h1, ?_⟩
  · rw [← hW1, hrec, ← hl]
    exact run_enterLoop_outer _ _ _ _ _
  · simp only [resolve, hg]
    simp [go_sem]
  · intro f' hf'
    simp [Target.leads] at hf'
    exact hf' ▸ hFg
  · simp [invoke, go_sem, eg]
  refine (hseq l (fun pre W => I pre W ∧ W.heap[l]? = some (.loop (rec .ready none)) ∧ W.heap[w.heap.size]? = some (.deferred (some [])))
    (fun pre W => ∃ c, Ix c pre W ∧ W.heap[l]? = some (.loop (rec .done (some c))) ∧ W.heap[w.heap.size]? = some (.deferred (some []))) W1 hw1
    (fun s A B hs hb => ⟨hI s A B hs.1 (hb.mono (by omega)), marks hb hs.2⟩) (fun s A B ⟨c, hc, hm⟩ hb => ⟨c, hIx c s A B hc (hb.mono (by omega)), marks hb hm⟩) ?_ ⟨hI _ _ _ h0 hw1, hL1, hK1⟩).mono ?_
  · rintro pre x W ⟨hi, hlW, hkW⟩ hzW hlen
    have hy := run_yield (P := P) (args := encs x) hlW (by rw [hrec]; exact hps x)
    rw [hrec] at hy
    refine ⟨fn, _, assign, body, hy, roundIn_of_wpIn hfn (wpIn_mono (hround l pre x W hl.symm hi hlen (by omega)) ?_)⟩
    intro e a' W' he
    cases e with
    | normal =>
      obtain ⟨hbW, hgo⟩ := he
      have hlW' := (hbW.block l (Array.getElem?_eq_some_iff.1 hlW).1).trans hlW
      have hkW' := (hbW.block _ (Array.getElem?_eq_some_iff.1 hkW).1).trans hkW
      refine ⟨_, run_beginRound hlW' (by rw [hrec]), ?_⟩
      obtain ⟨W'', hW''⟩ : ∃ W'', W'.putObj l (.loop { rec .ready none with state := .busy }) = W'' := ⟨_, rfl⟩
      rw [hW'']
      have hput : Below l W' W'' := by rw [← hW'']; exact below_putObj _ _ _ (Nat.le_refl _)
      have hother : ∀ k, k ≠ l → W''.heap[k]? = W'.heap[k]? := fun k hk => by rw [← hW'']; exact World.putObj_heap_other hk
      have hsz : W''.heap.size = W'.heap.size := by rw [← hW'']; simp
      have hl2 : W''.heap[l]? = some (.loop { rec .ready none with state := .busy }) := by rw [← hW'']; exact World.putObj_heap_same (Array.getElem?_eq_some_iff.1 hlW').1
      have hk2 : W''.heap[w.heap.size]? = some (.deferred (some [])) := (hother _ (by omega)).trans hkW'
      have hsp : Spares n₀ W1.heap.size W W'' := (Spares.below hbW (by omega)).trans ⟨hput.mono (by omega), fun k hk _ => hother k (by omega)⟩
      refine wpIn_mono (hgo W'' hother hsz (hI _ _ _ (hI _ _ _ hi (hbW.mono (by omega))) (hput.mono (by omega)))) ?_
      have fin : ∀ (jump : Option Code) (W3 : World), Spares n₀ w.heap.size W'' W3 → ∃ W4, (Instr.endRound l jump).run P W3 = .ok (.bool jump.isNone) W4 ∧ Below l W3 W4 ∧
          W4.heap[l]? = some (.loop (rec (if jump.isNone then .ready else .done) jump)) ∧ W4.heap[w.heap.size]? = some (.deferred (some [])) ∧ Spares n₀ W1.heap.size W W4 := fun jump W3 h3 => by
        have hl3 := (h3.same l (by omega) (Array.getElem?_eq_some_iff.1 hl2).1).trans hl2
        have hk3 := (h3.same _ (Nat.le_refl _) (Array.getElem?_eq_some_iff.1 hk2).1).trans hk2
        have hr := run_endRound (P := P) jump hl3
        rw [hrec] at hr hl3 ⊢
        exact ⟨_, hr, below_putObj _ _ _ (Nat.le_refl _), World.putObj_heap_same (Array.getElem?_eq_some_iff.1 hl3).1, (World.putObj_heap_other (by omega)).trans hk3,
          (hsp.trans (h3.mono (by omega))).trans (spares_putObj _ _ _ (by omega) (by omega))⟩
      rintro e a3 W3 hp
      cases e with
      | normal =>
        obtain ⟨W4, hr, hb4, hl4, hk4, hs4⟩ := fin none W3 hp.1
        exact ⟨_, _, hr, .inl ⟨rfl, ⟨hI _ _ _ hp.2 (hb4.mono (by omega)), hl4, hk4⟩, hs4⟩⟩
      | ret =>
        obtain ⟨W4, hr, hb4, hl4, hk4, hs4⟩ := fin (some .ret) W3 hp.1
        exact ⟨_, _, hr, .inr ⟨rfl, .ret, hIx _ _ _ _ hp.2 (hb4.mono (by omega)), hl4, hk4⟩⟩
      | exit id =>
        obtain ⟨W4, hr, hb4, hl4, hk4, hs4⟩ := fin (some (.exit id)) W3 hp.1
        exact ⟨_, _, hr, .inr ⟨rfl, .exit id, hIx _ _ _ _ hp.2 (hb4.mono (by omega)), hl4, hk4⟩⟩
      | goto t =>
        obtain ⟨W4, hr, hb4, hl4, hk4, hs4⟩ := fin (some (.goto t)) W3 hp.1
        exact ⟨_, _, hr, .inr ⟨rfl, .goto t, hIx _ _ _ _ hp.2 (hb4.mono (by omega)), hl4, hk4⟩⟩
      | panic ch => exact hp.elim
      | outgrown => exact hp.elim
    | ret => exact he
    | exit id => exact he
    | goto t => exact he
    | panic ch => exact he
    | outgrown => exact he
  · rintro e W2 ⟨⟨v, rfl⟩, (⟨xs, hS, hi, hlW, hkW⟩ | ⟨pre, hSp, c, hi, hlW, hkW⟩)⟩
    · refine ⟨none, _, by have := run_endLoop (P := P) hlW (by rw [hrec]; simp); rw [hrec] at this; exact this, ?_⟩
      exact hdone _ xs _ (Nat.le_refl _) hS (hI _ _ _ hi (below_putObj _ _ _ (by omega))) ((World.putObj_heap_other (by omega)).trans hkW)
    · refine ⟨some c, _, by have := run_endLoop (P := P) hlW (by rw [hrec]; simp); rw [hrec] at this; exact this, ?_⟩
      exact hstop _ c pre _ (Nat.le_refl _) hSp (hIx c _ _ _ hi (below_putObj _ _ _ (by omega))) ((World.putObj_heap_other (by omega)).trans hkW)
end
end Go.Proofs.YteklhipcojioaaaDoor

/-
  The parts of a term, one behind the other, each ahead of its own parts: what the iterator over them hands to a loop's body.
-/
namespace Go.Proofs.YteklhipcojioaaaDoor
open Go.RowKit Go.Deep

attribute [local go_sem] Oper.semAt_some

theorem round_wide {m m' : Nat} {P : Program} {l : Nat} {f : FuncId} {tmps : Array Value} {assign body : Code} {w : World} {R : Ending → World → Prop}
    (h : RoundIn Fence.wide m P l f tmps assign body w R) : RoundIn Fence.wide m' P l f tmps assign body w R := ⟨h.1, fun c cs _ => h.2 c cs (fun d hd => by cases hd)⟩
theorem yield_wide {m : Nat} (m' : Nat) {P : Program} {l : Nat} {args : Array Value} {W : World} {R : Ending → World → Prop} (h : YieldAt Fence.wide m P l args W R) : YieldAt Fence.wide m' P l args W R := by
  obtain ⟨fn, tmps, assign, body, hy, hR⟩ := h
  exact ⟨fn, tmps, assign, body, hy, round_wide hR⟩

/-- A part, as a body is handed it. -/
structure PV where
  k : Int
  n : Int
  s : ByteArray
  a : Option Addr
  len : Nat
  cap : Nat
  ok : Small k n s
  fit : len ≤ 9223372036854775807

/-- What of a part is looked at. -/
abbrev Sh := Int × Int × ByteArray × Nat
def PV.sh (p : PV) : Sh := (p.k, p.n, p.s, p.len)

mutual
/-- A term, and all that is inside, each part ahead of its own. -/
def Tm.pre : Tm → List Sh
  | .mk k n s l => (k, n, s, l.length) :: (if hasL k = true then pres l else [])
def pres : List Tm → List Sh
  | [] => []
  | t :: r => t.pre ++ pres r
end
theorem Tm.pre_mk (k n : Int) (s : ByteArray) (l : List Tm) : (Tm.mk k n s l).pre = (k, n, s, l.length) :: (if hasL k = true then pres l else []) := by rw [Tm.pre]
theorem pres_take (l : List Tm) (i : Nat) (hi : i < l.length) : pres (l.take (i + 1)) = pres (l.take i) ++ l[i].pre := by
  induction l generalizing i with
  | nil => cases hi
  | cons t r ih =>
    cases i with
    | zero => simp [pres]
    | succ i =>
      have := ih i (by simpa using hi)
      simp only [List.take_succ_cons, pres, List.getElem_cons_succ, this, List.append_assoc]
theorem pres_prefix (l : List Tm) (i : Nat) : pres (l.take i) <+: pres l := by
  induction l generalizing i with
  | nil => simp
  | cons t r ih =>
    cases i with
    | zero => simp [pres]
    | succ i =>
      simp only [List.take_succ_cons, pres]
      exact List.prefix_append_right_inj _ |>.2 (ih i)

theorem Spares.step {n₀ B : Nat} {W X Y : World} (h : Spares n₀ B W X) (hb : Below W.heap.size X Y) (hn : n₀ ≤ W.heap.size) : Spares n₀ B W Y :=
  ⟨h.low.trans (hb.mono hn), fun k hB hk => (hb.block k hk).trans (h.same k hB hk)⟩

section
variable {S : Nat → Prop} {n₀ B : Nat}
theorem Lies.spared {W W' : World} {T : Tm} {v : Value} (h : Lies W S T v) (hS : ∀ b, S b → b < n₀) (hb : Below n₀ W W') : Lies W' S T v :=
  h.move (fun _ h => h) (fun b o v hs hc => by rw [hb.cell (p := ⟨b, o, none⟩) (hS b hs)]; exact hc) _ _
end

theorem Row.spared {S : Nat → Prop} {n₀ : Nat} {W X Y : World} {l : List Tm} {b o : Nat} (h : Row X S l b o) (hb : S b) (hS : ∀ b, S b → b < n₀) (hx : Below n₀ W X) (hy : Below n₀ W Y) : Row Y S l b o :=
  h.move (fun _ h => h) (fun b o v hs hc => by
    rw [hy.cell (p := ⟨b, o, none⟩) (hS b hs), ← hx.cell (p := ⟨b, o, none⟩) (hS b hs)]
    exact hc) (fun _ => hb)

set_option maxHeartbeats 2000000 in
set_option maxRecDepth 100000 in
theorem into_in (l n₀ B N : Nat) (S : Nat → Prop) (J Jx : List PV → World → Prop) (hB : n₀ ≤ B) (hJ : OnBelow B J) (hS : ∀ b, S b → b < n₀) (hsh : 0 < n₀)
    (hY : ∀ m pre x W1, J pre W1 → B ≤ W1.heap.size → pre.length < N → YieldAt Fence.wide m Tryd.prog l #[.agg #[.int .i64 x.k, .int .i64 x.n, .string x.s, .slice x.a x.len x.cap]] W1 fun e W' =>
      (e = .returned (.bool true) ∧ J (pre ++ [x]) W' ∧ Spares n₀ B W1 W') ∨ (e = .returned (.bool false) ∧ Jx (pre ++ [x]) W')) (z : Nat) :
    ∀ (T : Tm), T.size ≤ z → ∀ (n : Nat) (v : Value) (pre : List PV) (W : World), Lies W S T v → ShapeTab W → B ≤ W.heap.size → J pre W → pre.length + T.pre.length ≤ N →
      CallsIn Fence.wide n Tryd.prog 81 #[v, .func (.yield l) #[] #[]] W fun e W' =>
        (e = .returned (.bool true) ∧ ∃ ys : List PV, ys.map PV.sh = T.pre ∧ J (pre ++ ys) W' ∧ Spares n₀ B W W') ∨ (e = .returned (.bool false) ∧ ∃ ys : List PV, ys.map PV.sh <+: T.pre ∧ Jx (pre ++ ys) W') := by
  induction z with
  | zero => intro T hz; have := T.size_pos; omega
  | succ z ih0 =>
    intro T hz n v pre W hv ht hBW hJ0 hN
    obtain ⟨k, nn, s, li⟩ := T
    obtain ⟨a, cap, rfl, hs, hl⟩ := hv.out
    have ih := Hid.mk ih0
    clear ih0
    refine callsIn_of_wp Tryd.func81 rfl trivial ?_ rfl
    simp only [Tryd.ntmps81, List.size_toArray, List.length_cons, List.length_nil, Nat.reduceAdd, Nat.reduceSub, Array.replicate_succ, Array.replicate_zero, List.push_toArray, List.append_toArray, List.nil_append, List.cons_append]
    gi_wp2
    gi_loopg [] (z + 1) (fun q wr => ∃ (k' n' : Int) (s' : ByteArray) (l' : List Tm) (a' : Option Addr) (cap' : Nat) (ys : List PV), (Tm.mk k' n' s' l').size ≤ q ∧ q ≤ z + 1 ∧
      wr.heap[W.heap.size]? = some (.cells #[.int .i64 k', .int .i64 n', .string s', .slice a' l'.length cap'] 32) ∧ Small k' n' s' ∧ Lst wr S l' a' cap' ∧
      Hid (ys.map PV.sh ++ (Tm.mk k' n' s' l').pre = (Tm.mk k nn s li).pre) ∧ J (pre ++ ys) wr ∧ Spares n₀ B W wr ∧ W.heap.size < wr.heap.size)
    case atStart =>
      have hb : Below W.heap.size W (W.alloc (.cells #[.int .i64 k, .int .i64 nn, .string s, .slice a li.length cap] 32)) := (Below.refl _ W).alloc (Nat.le_refl _) _
      exact ⟨k, nn, s, li, a, cap, [], hz, Nat.le_refl _, new_block _ _, hs, hl.below hb, Hid.mk (by simp), hJ _ _ _ (by simpa using hJ0) (hb.mono hBW), (Spares.refl _ _ _).step hb (Nat.le_trans hB hBW), by simp⟩
    case round =>
      obtain ⟨k', n', s', l', a', cap', ys, hzq, hqz, hbox, hs', hl', hys, hJr, hsp, hzr⟩ := hrel
      have hn0 : n₀ ≤ W.heap.size := Nat.le_trans hB hBW
      have hlen' : l'.length ≤ 9223372036854775807 := Nat.le_trans hl'.1 hl'.2.1
      obtain ⟨⟨g0, g1, g2, g3⟩, f0, f1, f2, f3⟩ := kept4 hbox (Below.refl _ _)
      have hprelen : pre.length + ys.length + (Tm.mk k' n' s' l').pre.length ≤ N := by
        have := congrArg List.length hys.out
        simp only [List.length_append, List.length_map] at this
        omega
      have hpos : 1 ≤ (Tm.mk k' n' s' l').pre.length := by rw [Tm.pre_mk]; simp
      obtain ⟨x, hx⟩ : ∃ x : PV, x = ⟨k', n', s', a', l'.length, cap', hs', hlen'⟩ := ⟨_, rfl⟩
      have hy0 := hY (n - 1) (pre ++ ys) x wr hJr (by omega) (by rw [List.length_append]; omega)
      have hxs : x.sh = (k', n', s', l'.length) := by rw [hx]; rfl
      have hxv : (Value.agg #[.int .i64 x.k, .int .i64 x.n, .string x.s, .slice x.a x.len x.cap]) = .agg #[.int .i64 k', .int .i64 n', .string s', .slice a' l'.length cap'] := by rw [hx]
      rw [hxv] at hy0
      clear hx hxv
      obtain ⟨fn, tmps, assign, body, hy, hR⟩ := hy0
      gi_wp2
      refine ⟨fun h => (by cases h), hR.mono ?_⟩
      clear hR hy
      rintro e W3 (⟨rfl, hJ3, hs3⟩ | ⟨rfl, hx3⟩)
      · have hbox3 := (hs3.same _ hBW hzr).trans hbox
        have hl3 := hl'.move (fun _ h => h) (w' := W3) (fun b o v hs hc => by rw [hs3.low.cell (p := ⟨b, o, none⟩) (hS b hs)]; exact hc)
        have hsp3 := hsp.trans (hs3.mono (Nat.le_refl _))
        have ht3 := ht.from hsp3.low hsh
        have hz3 := hs3.low.size
        clear g0 g1 g2 g3 f0 f1 f2 f3
        obtain ⟨⟨g0, g1, g2, g3⟩, f0, f1, f2, f3⟩ := kept4 hbox3 (Below.refl _ _)
        have hin := inside_any k' n' s' a' l'.length cap' W3 ht3
        cases hL : hasL k' with
        | false =>
          rw [insV_no hL] at hin
          gi_wp2_with (refine ⟨trivial, (fun h => (by cases h)), ?_⟩; gi_at_call 93; refine (callsIn_wide.2 hin).mono ?_; rintro e w4 ⟨rfl, hb4⟩)
          go_ret
          refine .inl ⟨rfl, ys ++ [x], ?_, ?_, ?_⟩
          · rw [← hys.out, Tm.pre_mk, hL, List.map_append, List.map_singleton, hxs]
            simp
          · rw [← List.append_assoc]
            exact hJ _ _ _ hJ3 (hb4.mono (by omega))
          · exact hsp3.step (hb4.mono (by omega)) hn0
        | true =>
          rw [insV_yes hL] at hin
          by_cases hl0 : l' = []
          · subst hl0
            gi_wp2_with (refine ⟨trivial, (fun h => (by cases h)), ?_⟩; gi_at_call 93; refine (callsIn_wide.2 hin).mono ?_; rintro e w4 ⟨rfl, hb4⟩)
            go_ret
            refine .inl ⟨rfl, ys ++ [x], ?_, ?_, ?_⟩
            · rw [← hys.out, Tm.pre_mk, List.map_append, List.map_singleton, hxs]
              simp [pres]
            · rw [← List.append_assoc]
              exact hJ _ _ _ hJ3 (hb4.mono (by omega))
            · exact hsp3.step (hb4.mono (by omega)) hn0
          · have hpl : 0 < l'.length := List.length_pos_iff.2 hl0
            obtain ⟨b, o, rfl, hSb, hrow⟩ := hl3.some hpl
            obtain ⟨len, hlen⟩ : ∃ len, l'.length = len + 1 := ⟨l'.length - 1, by omega⟩
            rw [hlen] at hin g3 hbox3
            have hne0 : ((len : Int) + 1 == 0) = false := beq_eq_false_iff_ne.2 (by omega)
            have hcap0 : len + 1 ≤ cap' := by have := hl'.1; omega
            have hcap1 : cap' ≤ 9223372036854775807 := hl'.2.1
            have hll := Hid.mk hlen
            clear hlen hl0
            gi_wp2_with (refine ⟨trivial, (fun h => (by cases h)), ?_⟩; gi_at_call 93; refine (callsIn_wide.2 hin).mono ?_; rintro e w4 ⟨rfl, hb4⟩)
            have hz4 := hb4.size
            gi_loopw [24] (fun ii wq => ∃ (j : Nat) (zs : List PV), j ≤ len ∧ ii = .int .i64 j ∧ Hid (zs.map PV.sh = pres (l'.take j)) ∧ J (pre ++ ys ++ [x] ++ zs) wq ∧ Spares n₀ B W wq ∧
              wq.heap[W.heap.size]? = some (.cells #[.int .i64 k', .int .i64 n', .string s', .slice (some ⟨b, o, none⟩) (len + 1) cap'] 32) ∧ W.heap.size < wq.heap.size) (fun ii _ => len - (intOf ii).toNat)
            case atStart => exact ⟨0, [], Nat.zero_le _, rfl, Hid.mk (by simp [pres]), hJ _ _ _ (by simpa using hJ3) (hb4.mono (by omega)), hsp3.step (hb4.mono (by omega)) hn0, (hb4.block _ (by omega)).trans hbox3, by omega⟩
            case round =>
              obtain ⟨j, zs, hj, rfl, hzs, hJq, hspq, hboxq, hzq'⟩ := hrel
              have hrq := hrow.spared hSb hS hsp3.low hspq.low
              have hpre : (Tm.mk k' n' s' l').pre = (k', n', s', l'.length) :: pres l' := by rw [Tm.pre_mk, hL]; rfl
              by_cases hlt : j < len
              · have hjl : j < l'.length := by rw [hll.out]; omega
                obtain ⟨k2, n2, s2, m2, a2, cap2, hT2, c0, c1, c2, c3, hli2⟩ := hrq.part j hjl
                have hpt := pres_take l' j hjl
                have hic : ∀ Wc, Below wr.heap.size wr Wc → CallsIn Fence.wide (n - 1) Tryd.prog 81 #[.agg #[.int .i64 k2, .int .i64 n2, .string s2, .slice a2 m2.length cap2], .func (.yield l) #[] #[]] Wc fun e W' =>
                    (e = .returned (.bool true) ∧ ∃ zs' : List PV, Hid (zs'.map PV.sh = pres (l'.take (j + 1))) ∧ J (pre ++ ys ++ [x] ++ zs') W' ∧ Spares n₀ B W W' ∧
                      W'.heap[W.heap.size]? = some (.cells #[.int .i64 k', .int .i64 n', .string s', .slice (some ⟨b, o, none⟩) (len + 1) cap'] 32) ∧ W.heap.size < W'.heap.size) ∨
                    (e = .returned (.bool false) ∧ ∃ zs' : List PV, zs'.map PV.sh <+: (Tm.mk k nn s li).pre ∧ Jx (pre ++ zs') W') := fun Wc hbc => by
                  have hzc := hbc.size
                  have h1 := sizes_at l' j hjl
                  have h2 := Tm.size_mk k' n' s' l'
                  have hlens := congrArg List.length hzs.out
                  have hpl' := (pres_prefix l' (j + 1)).length_le
                  rw [hpt] at hpl'
                  rw [hpre] at hprelen
                  simp only [List.length_append, List.length_map, List.length_cons] at hlens hpl' hprelen
                  have hspc : Spares n₀ B W Wc := hspq.step (hbc.mono (by omega)) hn0
                  refine (ih.out l'[j] (by omega) (n - 1) _ (pre ++ ys ++ [x] ++ zs) Wc (hli2.below hbc) (ht.from hspc.low hsh) (by omega) (hJ _ _ _ hJq (hbc.mono (by omega))) (by simp only [List.length_append, List.length_cons, List.length_nil]; omega)).mono ?_
                  rintro e W' (⟨rfl, ws, hws, hJw, hsw⟩ | ⟨rfl, ws, hws, hJw⟩)
                  · refine .inl ⟨rfl, zs ++ ws, Hid.mk (by rw [List.map_append, hzs.out, hws, hpt]), by rw [← List.append_assoc]; exact hJw, hspc.trans hsw, ?_, by have := hsw.low.size; omega⟩
                    exact (hsw.same _ hBW (by omega)).trans ((hbc.block _ hzq').trans hboxq)
                  · refine .inr ⟨rfl, ys ++ [x] ++ zs ++ ws, ?_, by simpa [List.append_assoc] using hJw⟩
                    rw [← hys.out, hpre, List.map_append, List.map_append, List.map_append, List.map_singleton, hxs, hzs.out, List.append_assoc, List.append_assoc]
                    refine List.prefix_append_right_inj _ |>.2 ?_
                    rw [List.singleton_append]
                    refine List.cons_prefix_cons.2 ⟨rfl, ?_⟩
                    exact (List.prefix_append_right_inj _ |>.2 hws).trans (by rw [← hpt]; exact pres_prefix _ _)
                clear hT2 hli2 hpt hprelen hpos
                gi_wp2_with (refine ⟨trivial, (fun h => (by cases h)), ?_⟩; gi_at_call 81; refine (hic _ ((Below.refl wr.heap.size wr).alloc (Nat.le_refl _) _)).mono ?_; clear hic; rintro e W5 (⟨rfl, zs', hz5, hJ5, hs5, hb5, hlt5⟩ | ⟨rfl, zs', hz5, hJ5⟩))
                · go_roundw
                  case rel => exact ⟨j + 1, zs', by omega, by go_num, hz5, hJ5, hs5, hb5, hlt5⟩
                  case measure => simp [intOf]; omega
                · go_ret
                  exact .inr ⟨rfl, zs', hz5, hJ5⟩
              · obtain rfl : j = len := by omega
                have hjl : j < l'.length := by rw [hll.out]; omega
                obtain ⟨k2, n2, s2, m2, a2, cap2, hT2, c0, c1, c2, c3, hli2⟩ := hrq.part j hjl
                have hpt := pres_take l' j hjl
                have hT2' := Hid.mk hT2
                clear hT2
                obtain ⟨⟨q0, q1, q2, q3⟩, p0, p1, p2, p3⟩ := kept4 hboxq (Below.refl _ _)
                gi_wp2
                gi_roundg (gk - 1)
                case rel =>
                  have hsub : Below W.heap.size wr ((((wr.setCell ⟨W.heap.size, 0, none⟩ (.int .i64 k2)).setCell ⟨W.heap.size, 1, none⟩ (.int .i64 n2)).setCell ⟨W.heap.size, 2, none⟩ (.string s2)).setCell ⟨W.heap.size, 3, none⟩ (.slice a2 m2.length cap2)) :=
                    Below.set4 (Below.refl _ _) (Nat.le_refl _)
                  have h1 := sizes_at l' j hjl
                  have h2 := Tm.size_mk k' n' s' l'
                  rw [hT2'.out] at h1
                  rw [hT2'.out] at hli2
                  obtain ⟨a3, cap3, hv3, hs3', hl3'⟩ := (hli2.spared hS (hsub.mono hn0)).out
                  simp only [Value.agg.injEq, Array.mk.injEq, List.cons.injEq, Value.slice.injEq, true_and, and_true] at hv3
                  obtain ⟨rfl, rfl⟩ := hv3
                  refine ⟨k2, n2, s2, m2, a2, cap2, ys ++ [x] ++ zs, by omega, by omega, set4_block hboxq, hs3', hl3', Hid.mk ?_, ?_, hspq.step hsub hn0, by rw [set4_size]; exact hzq'⟩
                  · have hall : l'.take (j + 1) = l' := List.take_of_length_le (by rw [hll.out]; exact Nat.le_refl _)
                    rw [hall, hT2'.out] at hpt
                    rw [← hys.out, hpre, hpt, List.map_append, List.map_append, List.map_singleton, hxs, hzs.out]
                    simp
                  · rw [← List.append_assoc, ← List.append_assoc]
                    exact hJ _ _ _ hJq (hsub.mono hBW)
                case measure =>
                  have h2 := Tm.size_mk k' n' s' l'
                  omega
      · gi_wp2
        go_ret
        refine .inr ⟨rfl, ys ++ [x], ?_, by rw [← List.append_assoc]; exact hx3⟩
        rw [← hys.out, Tm.pre_mk, List.map_append, List.map_singleton, hxs]
        exact List.prefix_append_right_inj _ |>.2 (by simp)

end Go.Proofs.YteklhipcojioaaaDoor
