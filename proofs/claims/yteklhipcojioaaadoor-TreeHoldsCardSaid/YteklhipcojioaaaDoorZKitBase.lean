/-
  Small facts that every layer uses: a cell that stays, a new block, memory that is only added to.
-/
import Derived.Test.YteklhipcojioaaaDoorRows
import Derived.WalkKit
import Derived.WalkSpells
import Derived.WalkLawsBesides
import Derived.OpenShut
import Derived.Deep.Slices
import Derived.Lib.Hide
namespace Go.Proofs.YteklhipcojioaaaDoor
open Go.RowKit Go.Deep

section
variable {w w' : World}
theorem _root_.Go.RowKit.Hid.mk {p : Prop} (h : p) : Hid p := h

theorem cell_below (hb : Below w.heap.size w w') (b o : Nat) (v : Value) (h : w.cell? ⟨b, o, none⟩ = some v) : w'.cell? ⟨b, o, none⟩ = some v := by
  rw [hb.cell (p := ⟨b, o, none⟩) (World.block_lt_of_cell? w ⟨b, o, none⟩ h)]
  exact h

/-- A cell of a new block. -/
theorem new_cell (w : World) (c : Array Value) (t : TypeId) (j : Nat) : (w.alloc (.cells c t)).cell? ⟨w.heap.size, j, none⟩ = c[j]? := by
  show (match (w.heap.push (Obj.cells c t))[w.heap.size]? with | some (.cells c _ _) => if (none : Option Nat).isSome then none else c[j]? | _ => none) = _
  simp

theorem new_block (w : World) (o : Obj) : (w.alloc o).heap[w.heap.size]? = some o := heap_alloc_new w o

theorem new_block1 (w : World) (o o' : Obj) : ((w.alloc o).alloc o').heap[w.heap.size]? = some o := (Below.heap_alloc _ _ _ (by simp)).trans (heap_alloc_new w o)

theorem new_block2 (w : World) (o o' : Obj) : ((w.alloc o).alloc o').heap[w.heap.size + 1]? = some o' := by
  have := heap_alloc_new (w.alloc o) o'
  rwa [World.size_alloc] at this

theorem size_setCell' (w : World) (a : Addr) (v : Value) : (w.setCell a v).heap.size = w.heap.size := by simp [World.setCell]

theorem wrap_id {x : Int} (h0 : -9223372036854775808 ≤ x) (h1 : x ≤ 9223372036854775807) : IntKind.i64.wrap x = x := by
  rw [IntKind.wrap_i64]
  omega

theorem ret_int {a b : Int} (h : a = b) : Ending.returned (.int .i64 a) = .returned (.int .i64 b) := by rw [h]

theorem ret_bool {a b : Bool} (h : a = b) : Ending.returned (.bool a) = .returned (.bool b) := by rw [h]

theorem ret_val {a b : Value} (h : a = b) : Ending.returned a = .returned b := by rw [h]

/-- Memory has only been added to. -/
def Up (w w' : World) : Prop := Below w.heap.size w w'

theorem Up.refl (w : World) : Up w w := Below.refl _ _

theorem Up.out {w w' : World} (h : Up w w') : Below w.heap.size w w' := h

theorem Up.call {w W w' : World} (h : Up w W) (hb : Below W.heap.size W w') : Up w w' := h.out.trans (hb.mono h.out.size)

theorem Up.alloc {w W : World} {o : Obj} (h : Up w W) : Up w (W.alloc o) := Below.alloc h h.out.size _

theorem Up.drew {w W : World} (h : Up w W) : Up w W.drew := Below.drew h
end

end Go.Proofs.YteklhipcojioaaaDoor

/-
  Terms as a plain tree, and how one lies in memory: which cells hold it, that it goes on lying there while memory is only added to, and that what a call is handed as a term does lie so.
-/
namespace Go.Proofs.YteklhipcojioaaaDoor
open Go.RowKit Go.Deep

/-- A term: its kind, its number, its text, its parts. -/
inductive Tm where
  | mk (k n : Int) (s : ByteArray) (l : List Tm)

theorem Tm.induct {P : Tm → Prop} (h : ∀ k n s l, (∀ t ∈ l, P t) → P (.mk k n s l)) (t : Tm) : P t :=
  Tm.rec (motive_1 := P) (motive_2 := fun l => ∀ t ∈ l, P t) h (fun t ht => by cases ht) (fun x xs h1 h2 t ht => by
    rcases List.mem_cons.1 ht with rfl | h'
    · exact h1
    · exact h2 t h') t

/-- Numbers and texts are within what the machine holds. -/
structure Small (k n : Int) (s : ByteArray) : Prop where
  k0 : -9223372036854775808 ≤ k
  k1 : k ≤ 9223372036854775807
  n0 : -9223372036854775808 ≤ n
  n1 : n ≤ 9223372036854775807
  s1 : s.size ≤ 9223372036854775807

mutual
/-- The value v is the term, whose parts lie in blocks of S. -/
def Lies (w : World) (S : Nat → Prop) : Tm → Value → Prop
  | .mk k n s l, v => ∃ (a : Option Addr) (cap : Nat), v = .agg #[.int .i64 k, .int .i64 n, .string s, .slice a l.length cap] ∧ Small k n s ∧ l.length ≤ cap ∧ cap ≤ 9223372036854775807 ∧
      ((a = none ∧ l = [] ∧ cap = 0) ∨ ∃ p : Addr, a = some p ∧ (l ≠ [] → S p.block ∧ p.spot = none) ∧ Row w S l p.block p.off)
/-- Terms side by side from a place on. -/
def Row (w : World) (S : Nat → Prop) : List Tm → Nat → Nat → Prop
  | [], _, _ => True
  | t :: r, b, o => (∃ v0 v1 v2 v3, w.cell? ⟨b, o, none⟩ = some v0 ∧ w.cell? ⟨b, o + 1, none⟩ = some v1 ∧ w.cell? ⟨b, o + 2, none⟩ = some v2 ∧ w.cell? ⟨b, o + 3, none⟩ = some v3 ∧ Lies w S t (.agg #[v0, v1, v2, v3])) ∧ Row w S r b (o + 4)
end

/-- A slice of terms. -/
def Lst (w : World) (S : Nat → Prop) (l : List Tm) (a : Option Addr) (cap : Nat) : Prop :=
  l.length ≤ cap ∧ cap ≤ 9223372036854775807 ∧ ((a = none ∧ l = [] ∧ cap = 0) ∨ ∃ p : Addr, a = some p ∧ (l ≠ [] → S p.block ∧ p.spot = none) ∧ Row w S l p.block p.off)

section
variable {w w' : World} {S S' : Nat → Prop}

theorem Lies.out {k n : Int} {s : ByteArray} {l : List Tm} {v : Value} (h : Lies w S (.mk k n s l) v) :
    ∃ a cap, v = .agg #[.int .i64 k, .int .i64 n, .string s, .slice a l.length cap] ∧ Small k n s ∧ Lst w S l a cap := by
  rw [Lies] at h
  obtain ⟨a, cap, h1, h2, h3, h4, h5⟩ := h
  exact ⟨a, cap, h1, h2, h3, h4, h5⟩

theorem Lies.mk {k n : Int} {s : ByteArray} {l : List Tm} {a : Option Addr} {cap : Nat} (h : Small k n s) (hl : Lst w S l a cap) :
    Lies w S (.mk k n s l) (.agg #[.int .i64 k, .int .i64 n, .string s, .slice a l.length cap]) := by
  rw [Lies]
  exact ⟨a, cap, rfl, h, hl.1, hl.2.1, hl.2.2⟩

theorem Row.at {l : List Tm} : ∀ {b o : Nat}, Row w S l b o → ∀ (i : Nat) (hi : i < l.length), ∃ v0 v1 v2 v3, w.cell? ⟨b, o + i * 4, none⟩ = some v0 ∧ w.cell? ⟨b, o + i * 4 + 1, none⟩ = some v1 ∧
    w.cell? ⟨b, o + i * 4 + 2, none⟩ = some v2 ∧ w.cell? ⟨b, o + i * 4 + 3, none⟩ = some v3 ∧ Lies w S l[i] (.agg #[v0, v1, v2, v3]) := by
  induction l with
  | nil => intro b o _ i hi; cases hi
  | cons t r ih =>
    intro b o h i hi
    rw [Row] at h
    cases i with
    | zero =>
      simp only [Nat.zero_mul, Nat.add_zero]
      exact h.1
    | succ i =>
      have := ih h.2 i (by simpa using hi)
      rw [show o + 4 + i * 4 = o + (i + 1) * 4 by omega] at this
      exact this

theorem Row.of {l : List Tm} : ∀ {b o : Nat}, (∀ (i : Nat) (hi : i < l.length), ∃ v0 v1 v2 v3, w.cell? ⟨b, o + i * 4, none⟩ = some v0 ∧ w.cell? ⟨b, o + i * 4 + 1, none⟩ = some v1 ∧
    w.cell? ⟨b, o + i * 4 + 2, none⟩ = some v2 ∧ w.cell? ⟨b, o + i * 4 + 3, none⟩ = some v3 ∧ Lies w S l[i] (.agg #[v0, v1, v2, v3])) → Row w S l b o := by
  induction l with
  | nil => intro b o _; rw [Row]; trivial
  | cons t r ih =>
    intro b o h
    rw [Row]
    refine ⟨?_, ih fun i hi => ?_⟩
    · have := h 0 (by simp)
      simp only [Nat.zero_mul, Nat.add_zero] at this
      exact this
    have := h (i + 1) (by simpa using hi)
    rw [show o + (i + 1) * 4 = o + 4 + i * 4 by omega] at this
    exact this

/-- What lies in blocks of S lies so still where the cells of these blocks are as they were. -/
theorem Lies.move (hS : ∀ b, S b → S' b) (hw : ∀ b o v, S b → w.cell? ⟨b, o, none⟩ = some v → w'.cell? ⟨b, o, none⟩ = some v) (T : Tm) :
    ∀ v, Lies w S T v → Lies w' S' T v := by
  induction T using Tm.induct with
  | h k n s l ih =>
    intro v h
    obtain ⟨a, cap, rfl, h1, h2, h3, h4⟩ := h.out
    refine Lies.mk h1 ⟨h2, h3, ?_⟩
    rcases h4 with h4 | ⟨p, rfl, hs, hr⟩
    · exact Or.inl h4
    · refine Or.inr ⟨p, rfl, fun hn => ⟨hS _ (hs hn).1, (hs hn).2⟩, Row.of fun i hi => ?_⟩
      obtain ⟨v0, v1, v2, v3, c0, c1, c2, c3, hl⟩ := hr.at i hi
      have hp := (hs (fun e => by subst e; cases hi)).1
      exact ⟨v0, v1, v2, v3, hw _ _ _ hp c0, hw _ _ _ hp c1, hw _ _ _ hp c2, hw _ _ _ hp c3, ih _ (List.getElem_mem hi) _ hl⟩

theorem Row.move (hS : ∀ b, S b → S' b) (hw : ∀ b o v, S b → w.cell? ⟨b, o, none⟩ = some v → w'.cell? ⟨b, o, none⟩ = some v) {l : List Tm} {b o : Nat} (hb : l ≠ [] → S b)
    (h : Row w S l b o) : Row w' S' l b o :=
  Row.of fun i hi => by
    have hb := hb (fun e => by subst e; cases hi)
    obtain ⟨v0, v1, v2, v3, c0, c1, c2, c3, hl⟩ := h.at i hi
    exact ⟨v0, v1, v2, v3, hw _ _ _ hb c0, hw _ _ _ hb c1, hw _ _ _ hb c2, hw _ _ _ hb c3, hl.move hS hw _ _⟩

theorem Lst.move (hS : ∀ b, S b → S' b) (hw : ∀ b o v, S b → w.cell? ⟨b, o, none⟩ = some v → w'.cell? ⟨b, o, none⟩ = some v) {l : List Tm} {a : Option Addr} {cap : Nat}
    (h : Lst w S l a cap) : Lst w' S' l a cap := by
  obtain ⟨h2, h3, h4⟩ := h
  refine ⟨h2, h3, ?_⟩
  rcases h4 with h4 | ⟨p, rfl, hs, hr⟩
  · exact Or.inl h4
  · exact Or.inr ⟨p, rfl, fun hn => ⟨hS _ (hs hn).1, (hs hn).2⟩, hr.move hS hw (fun hn => (hs hn).1)⟩

theorem Lies.below {T : Tm} {v : Value} (h : Lies w S T v) (hb : Below w.heap.size w w') : Lies w' S T v :=
  h.move (fun _ h => h) (fun b o v _ hc => cell_below hb b o v hc) _ _
theorem Row.below {l : List Tm} {b o : Nat} (h : Row w S l b o) (hb : Below w.heap.size w w') : Row w' S l b o :=
  Row.of fun i hi => by
    obtain ⟨v0, v1, v2, v3, c0, c1, c2, c3, hl⟩ := h.at i hi
    exact ⟨v0, v1, v2, v3, cell_below hb _ _ _ c0, cell_below hb _ _ _ c1, cell_below hb _ _ _ c2, cell_below hb _ _ _ c3, hl.below hb⟩
theorem Lst.below {l : List Tm} {a : Option Addr} {cap : Nat} (h : Lst w S l a cap) (hb : Below w.heap.size w w') : Lst w' S l a cap := by
  obtain ⟨h2, h3, h4⟩ := h
  refine ⟨h2, h3, ?_⟩
  rcases h4 with h4 | ⟨p, rfl, hs, hr⟩
  · exact Or.inl h4
  · exact Or.inr ⟨p, rfl, hs, hr.below hb⟩
theorem Lies.wider {T : Tm} {v : Value} (h : Lies w S T v) (hS : ∀ b, S b → S' b) : Lies w S' T v := h.move hS (fun _ _ _ _ h => h) _ _
theorem Lst.wider {l : List Tm} {a : Option Addr} {cap : Nat} (h : Lst w S l a cap) (hS : ∀ b, S b → S' b) : Lst w S' l a cap := h.move hS (fun _ _ _ _ h => h)

/-- .. behind what only adds to memory. -/
theorem boxed {w w2 : World} {c : Array Value} {t : TypeId} (hb : Below (w.alloc (.cells c t)).heap.size (w.alloc (.cells c t)) w2) (j : Nat) : w2.cell? ⟨w.heap.size, j, none⟩ = c[j]? := by
  rw [hb.cell (p := ⟨w.heap.size, j, none⟩) (by simp)]
  exact new_cell w c t j

/-- The four cells of a block, behind what only adds to memory; none of them is frozen. -/
theorem kept4 {w1 w2 : World} {b : Nat} {v0 v1 v2 v3 : Value} {t : TypeId} (h : w1.heap[b]? = some (.cells #[v0, v1, v2, v3] t)) (hb : Below w1.heap.size w1 w2) :
    (w2.cell? ⟨b, 0, none⟩ = some v0 ∧ w2.cell? ⟨b, 1, none⟩ = some v1 ∧ w2.cell? ⟨b, 2, none⟩ = some v2 ∧ w2.cell? ⟨b, 3, none⟩ = some v3) ∧
      (w2.frozen? ⟨b, 0, none⟩ = false ∧ w2.frozen? ⟨b, 1, none⟩ = false ∧ w2.frozen? ⟨b, 2, none⟩ = false ∧ w2.frozen? ⟨b, 3, none⟩ = false) := by
  have h2 : w2.heap[b]? = some (.cells #[v0, v1, v2, v3] t) := (hb.block b (Array.getElem?_eq_some_iff.1 h).1).trans h
  simp [World.cell?, World.frozen?, h2]

theorem load4 {b o : Nat} {v0 v1 v2 v3 : Value} (c0 : w.cell? ⟨b, o, none⟩ = some v0) (c1 : w.cell? ⟨b, o + 1, none⟩ = some v1) (c2 : w.cell? ⟨b, o + 2, none⟩ = some v2) (c3 : w.cell? ⟨b, o + 3, none⟩ = some v3) :
    (loadVar 32 ⟨b, o, none⟩).run Tryd.prog w = .ok (.agg #[v0, v1, v2, v3]) w := by
  have hl : (loadCells ⟨b, o, none⟩ [v0, v1, v2, v3].length).run Tryd.prog w = .ok [v0, v1, v2, v3].toArray w :=
    run_loadCells_list (P := Tryd.prog) w ⟨b, o, none⟩ [v0, v1, v2, v3] (fun j v hv => by
      rw [WideShapes.add_plain]
      match j, hv with
      | 0, hv => cases hv; exact c0
      | 1, hv => cases hv; exact c1
      | 2, hv => cases hv; exact c2
      | 3, hv => cases hv; exact c3)
  obtain ⟨i, hi, hs⟩ := Option.map_eq_some_iff.1 (show (Tryd.prog.info? 32).map (·.size) = some 4 by kernel_rfl)
  have hagg : (isAgg 32).run Tryd.prog w = .ok true w := by
    unfold isAgg
    rw [Sem.run_bind, run_underlying Tryd.underlying32 w]
    simp
  simp only [List.length_cons, List.length_nil, Nat.zero_add, Nat.reduceAdd] at hl
  simp [loadVar, Sem.run_bind, hagg, sizeOf, typeInfo, hi, hs, hl]

/-- What is returned out of a variable that holds a term. -/
theorem results_term {fn : Func} {p : Tmp} (h : fn.results = #[.cell p 32]) (tmps : Array Value) {b o : Nat} (hp : tmps.getD p undef = .pointer (some ⟨b, o, none⟩)) {v0 v1 v2 v3 : Value}
    (c0 : w.cell? ⟨b, o, none⟩ = some v0) (c1 : w.cell? ⟨b, o + 1, none⟩ = some v1) (c2 : w.cell? ⟨b, o + 2, none⟩ = some v2) (c3 : w.cell? ⟨b, o + 3, none⟩ = some v3) :
    (results fn tmps).run Tryd.prog w = .ok (.agg #[v0, v1, v2, v3]) w := by
  have hp' : tmps[p]?.getD undef = .pointer (some ⟨b, o, none⟩) := by simpa using hp
  simp [results, h, hp', asAddr, load4 c0 c1 c2 c3]

/-- A world in which four cells have been written. -/
theorem stored4 {b : Nat} {u0 u1 u2 u3 v0 v1 v2 v3 : Value} (h0 : w.cell? ⟨b, 0, none⟩ = some u0) (h1 : w.cell? ⟨b, 1, none⟩ = some u1) (h2 : w.cell? ⟨b, 2, none⟩ = some u2) (h3 : w.cell? ⟨b, 3, none⟩ = some u3) :
    let w' := (((w.setCell ⟨b, 0, none⟩ v0).setCell ⟨b, 1, none⟩ v1).setCell ⟨b, 2, none⟩ v2).setCell ⟨b, 3, none⟩ v3
    w'.cell? ⟨b, 0, none⟩ = some v0 ∧ w'.cell? ⟨b, 1, none⟩ = some v1 ∧ w'.cell? ⟨b, 2, none⟩ = some v2 ∧ w'.cell? ⟨b, 3, none⟩ = some v3 := by
  have e0 := World.cell?_setCell_same w ⟨b, 0, none⟩ v0 h0
  have e1 := World.cell?_setCell_same (w.setCell ⟨b, 0, none⟩ v0) ⟨b, 1, none⟩ v1 ((World.cell?_setCell_other w _ _ _ (by simp)).trans h1)
  have e2 := World.cell?_setCell_same ((w.setCell ⟨b, 0, none⟩ v0).setCell ⟨b, 1, none⟩ v1) ⟨b, 2, none⟩ v2 ((World.cell?_setCell_other _ _ _ _ (by simp)).trans ((World.cell?_setCell_other w _ _ _ (by simp)).trans h2))
  have e3 := World.cell?_setCell_same (((w.setCell ⟨b, 0, none⟩ v0).setCell ⟨b, 1, none⟩ v1).setCell ⟨b, 2, none⟩ v2) ⟨b, 3, none⟩ v3 ((World.cell?_setCell_other _ _ _ _ (by simp)).trans ((World.cell?_setCell_other _ _ _ _ (by simp)).trans ((World.cell?_setCell_other w _ _ _ (by simp)).trans h3)))
  refine ⟨?_, ?_, ?_, e3⟩
  · exact (World.cell?_setCell_other _ _ _ _ (by simp)).trans ((World.cell?_setCell_other _ _ _ _ (by simp)).trans ((World.cell?_setCell_other _ _ _ _ (by simp)).trans e0))
  · exact (World.cell?_setCell_other _ _ _ _ (by simp)).trans ((World.cell?_setCell_other _ _ _ _ (by simp)).trans e1)
  · exact (World.cell?_setCell_other _ _ _ _ (by simp)).trans e2

/-- The return of a term that has just been stored. -/
theorem ret_stored {fn : Func} {R : Ending → World → Prop} {a : Act} {p : Tmp} {b : Nat} {u0 u1 u2 u3 v0 v1 v2 v3 : Value} (h : fn.results = #[.cell p 32]) (hp : a.tmps.getD p undef = .pointer (some ⟨b, 0, none⟩)) (hd : a.defers = [])
    (h0 : w.cell? ⟨b, 0, none⟩ = some u0) (h1 : w.cell? ⟨b, 1, none⟩ = some u1) (h2 : w.cell? ⟨b, 2, none⟩ = some u2) (h3 : w.cell? ⟨b, 3, none⟩ = some u3)
    (hR : R (.returned (.agg #[v0, v1, v2, v3])) ((((w.setCell ⟨b, 0, none⟩ v0).setCell ⟨b, 1, none⟩ v1).setCell ⟨b, 2, none⟩ v2).setCell ⟨b, 3, none⟩ v3)) :
    bodyPost Tryd.prog fn R .ret a ((((w.setCell ⟨b, 0, none⟩ v0).setCell ⟨b, 1, none⟩ v1).setCell ⟨b, 2, none⟩ v2).setCell ⟨b, 3, none⟩ v3) := by
  obtain ⟨e0, e1, e2, e3⟩ := stored4 (v0 := v0) (v1 := v1) (v2 := v2) (v3 := v3) h0 h1 h2 h3
  exact bodyPost_ret (results_term h _ hp e0 e1 e2 e3) hd hR

theorem Below.set4 {B : Nat} {a : World} {b : Nat} {v0 v1 v2 v3 : Value} (h : Below B a w) (hb : B ≤ b) : Below B a ((((w.setCell ⟨b, 0, none⟩ v0).setCell ⟨b, 1, none⟩ v1).setCell ⟨b, 2, none⟩ v2).setCell ⟨b, 3, none⟩ v3) :=
  (((h.setCell (p := ⟨b, 0, none⟩) hb v0).setCell (p := ⟨b, 1, none⟩) hb v1).setCell (p := ⟨b, 2, none⟩) hb v2).setCell (p := ⟨b, 3, none⟩) hb v3
theorem set4_heap (w : World) (b : Nat) (v0 v1 v2 v3 : Value) (k : Nat) (hk : k ≠ b) : ((((w.setCell ⟨b, 0, none⟩ v0).setCell ⟨b, 1, none⟩ v1).setCell ⟨b, 2, none⟩ v2).setCell ⟨b, 3, none⟩ v3).heap[k]? = w.heap[k]? := by
  rw [Below.heap_setCell _ _ _ _ hk, Below.heap_setCell _ _ _ _ hk, Below.heap_setCell _ _ _ _ hk, Below.heap_setCell _ _ _ _ hk]
theorem set4_size (w : World) (b : Nat) (v0 v1 v2 v3 : Value) : ((((w.setCell ⟨b, 0, none⟩ v0).setCell ⟨b, 1, none⟩ v1).setCell ⟨b, 2, none⟩ v2).setCell ⟨b, 3, none⟩ v3).heap.size = w.heap.size := by
  rw [size_setCell', size_setCell', size_setCell', size_setCell']

theorem set1_block {b : Nat} {u v : Value} {t : TypeId} (h : w.heap[b]? = some (.cells #[u] t)) : (w.setCell ⟨b, 0, none⟩ v).heap[b]? = some (.cells #[v] t) := by
  simp [World.setCell, Array.getElem?_modify, h]
theorem set4_block {b : Nat} {u0 u1 u2 u3 v0 v1 v2 v3 : Value} {t : TypeId} (h : w.heap[b]? = some (.cells #[u0, u1, u2, u3] t)) :
    ((((w.setCell ⟨b, 0, none⟩ v0).setCell ⟨b, 1, none⟩ v1).setCell ⟨b, 2, none⟩ v2).setCell ⟨b, 3, none⟩ v3).heap[b]? = some (.cells #[v0, v1, v2, v3] t) := by
  simp [World.setCell, Array.getElem?_modify, h]

/-- A slice of terms that has some has an address, a plain one. -/
theorem Lst.some {l : List Tm} {a : Option Addr} {cap : Nat} (h : Lst w S l a cap) (hl : 0 < l.length) :
    ∃ b o, a = some ⟨b, o, none⟩ ∧ S b ∧ Row w S l b o := by
  obtain ⟨_, _, ⟨_, rfl, _⟩ | ⟨⟨b, o, sp⟩, rfl, hs, hr⟩⟩ := h
  · cases hl
  · obtain ⟨hp, rfl⟩ : S b ∧ sp = none := hs (fun e => by subst e; cases hl)
    exact ⟨b, o, rfl, hp, hr⟩

/-- The cells of one part, and the part itself. -/
theorem Row.part {l : List Tm} {b o : Nat} (h : Row w S l b o) (i : Nat) (hi : i < l.length) : ∃ k n s m a cap, l[i] = .mk k n s m ∧ w.cell? ⟨b, o + i * 4, none⟩ = some (.int .i64 k) ∧
    w.cell? ⟨b, o + i * 4 + 1, none⟩ = some (.int .i64 n) ∧ w.cell? ⟨b, o + i * 4 + 2, none⟩ = some (.string s) ∧ w.cell? ⟨b, o + i * 4 + 3, none⟩ = some (.slice a m.length cap) ∧
    Lies w S l[i] (.agg #[.int .i64 k, .int .i64 n, .string s, .slice a m.length cap]) := by
  obtain ⟨v0, v1, v2, v3, c0, c1, c2, c3, hl⟩ := h.at i hi
  cases hT : l[i] with
  | mk k n s m =>
    rw [hT] at hl
    obtain ⟨a, cap, hv, h1, h2⟩ := hl.out
    simp only [Value.agg.injEq, Array.mk.injEq, List.cons.injEq, and_true] at hv
    obtain ⟨rfl, rfl, rfl, rfl⟩ := hv
    exact ⟨k, n, s, m, a, cap, rfl, c0, c1, c2, c3, hl⟩
end

end Go.Proofs.YteklhipcojioaaaDoor

/-
  What the functions that only look at a term come to.
-/
namespace Go.Proofs.YteklhipcojioaaaDoor
open Go.RowKit Go.Deep

mutual
/-- How many parts a term has, itself too. -/
def Tm.size : Tm → Nat
  | .mk _ _ _ l => 1 + sizes l
def sizes : List Tm → Nat
  | [] => 0
  | t :: r => t.size + sizes r
end

theorem Tm.size_mk (k n : Int) (s : ByteArray) (l : List Tm) : (Tm.mk k n s l).size = 1 + sizes l := by rw [Tm.size]
theorem Tm.size_pos (T : Tm) : 1 ≤ T.size := by
  cases T
  rw [Tm.size_mk]
  omega
theorem sizes_take (l : List Tm) (i : Nat) (hi : i < l.length) : sizes (l.take (i + 1)) = sizes (l.take i) + l[i].size := by
  induction l generalizing i with
  | nil => cases hi
  | cons t r ih =>
    cases i with
    | zero => simp [sizes]
    | succ i =>
      have := ih i (by simpa using hi)
      simp only [List.take_succ_cons, sizes, List.getElem_cons_succ]
      omega
theorem sizes_le (l : List Tm) (i : Nat) : sizes (l.take i) ≤ sizes l := by
  induction l generalizing i with
  | nil => simp [sizes]
  | cons t r ih =>
    cases i with
    | zero => simp [sizes]
    | succ i =>
      have := ih i
      simp only [List.take_succ_cons, sizes]
      omega

theorem sizes_at (l : List Tm) (i : Nat) (hi : i < l.length) : l[i].size ≤ sizes l := by
  have h1 := sizes_take l i hi
  have h2 := sizes_le l (i + 1)
  omega
theorem length_sizes (l : List Tm) : l.length ≤ sizes l := by
  induction l with
  | nil => simp
  | cons t r ih =>
    have := t.size_pos
    simp only [List.length_cons, sizes]
    omega

/-- The count as it is gone on with: no further than most. -/
def cnt (N : Nat) (m : Int) : Int := min (N : Int) (max 1 (m + 1))

theorem cnt_step {N M : Nat} {m : Int} (h1 : 1 ≤ N) (h : cnt N m ≤ m) : cnt N m + cnt M (m - cnt N m) = cnt (N + M) m := by
  unfold cnt at *
  omega
theorem cnt_more {N M : Nat} {m : Int} (h1 : 1 ≤ N) (hM : N ≤ M) (h : m < cnt N m) : cnt N m = cnt M m := by
  unfold cnt at *
  omega
theorem cnt_lo {N : Nat} {m : Int} (h1 : 1 ≤ N) : 1 ≤ cnt N m := by
  unfold cnt
  omega
theorem cnt_hi {N : Nat} {m : Int} : cnt N m ≤ max 1 (m + 1) := by
  unfold cnt
  omega
/-- A bool has been returned; if it is false, P holds. -/
def Told (P : Prop) (e : Ending) : Prop := ∃ b, e = .returned (.bool b) ∧ (b = false → P)
theorem Told.of {P : Prop} (b : Bool) (h : b = false → P) : Told P (.returned (.bool b)) := ⟨b, rfl, h⟩
theorem Told.yes {P : Prop} : Told P (.returned (.bool true)) := ⟨true, rfl, fun h => by cases h⟩
theorem Told.no {P : Prop} (h : P) : Told P (.returned (.bool false)) := ⟨false, rfl, fun _ => h⟩
set_option maxHeartbeats 400000 in
theorem parts_any (T : Tm) : ∀ (S : Nat → Prop) (v : Value) (m : Int) (w : World), Lies w S T v → -4611686018427387904 ≤ m → m ≤ 4611686018427387904 →
    Calls Tryd.prog 35 #[v, .int .i64 m] w fun e w' => e = .returned (.int .i64 (cnt T.size m)) ∧ Below w.heap.size w w' := by
  induction T using Tm.induct with
  | h k n s l ih0 =>
    intro S v m w hv hm0 hm1
    obtain ⟨a, cap, rfl, hs, hl⟩ := hv.out
    have ih := Hid.mk ih0
    clear ih0 hv
    have hlen : l.length ≤ 9223372036854775807 := Nat.le_trans hl.1 hl.2.1
    rw [Tm.size_mk]
    go_enter Tryd.func35, Tryd.ntmps35
    go_wp2
    generalize hW1 : w.alloc (.cells #[.int .i64 k, .int .i64 n, .string s, .slice a l.length cap] 32) = w1
    have hz : w1.heap.size = w.heap.size + 1 := by rw [← hW1]; simp
    have hc3 : w1.cell? ⟨w.heap.size, 3, none⟩ = some (.slice a l.length cap) := by rw [← hW1]; exact new_cell w _ _ 3
    have hb1 : Below w.heap.size w w1 := by rw [← hW1]; exact (Below.refl _ _).alloc (Nat.le_refl _) _
    have hl1 : Lst w1 S l a cap := hl.below hb1
    go_loopw [5, 6] (fun nn ii wr => ∃ i : Nat, i ≤ l.length ∧ ii = .int .i64 i ∧ nn = .int .i64 (cnt (1 + sizes (l.take i)) m) ∧ Below w1.heap.size w1 wr) (fun _ ii _ => l.length - (intOf ii).toNat)
    case atStart => exact ⟨0, Nat.zero_le _, rfl, by simp [cnt, sizes]; omega, Below.refl _ _⟩
    case round =>
      obtain ⟨i, hi, rfl, rfl, hb⟩ := hrel
      have hw3 := (hb.cell (p := ⟨w.heap.size, 3, none⟩) (by show w.heap.size < w1.heap.size; omega)).trans hc3
      have hzr := hb.size
      have hbw : Below w.heap.size w wr := hb1.trans (hb.mono (by omega))
      have q0 := cnt_lo (N := 1 + sizes (l.take i)) (m := m) (by omega)
      have q1 := cnt_hi (N := 1 + sizes (l.take i)) (m := m)
      generalize hq' : cnt (1 + sizes (l.take i)) m = q at q0 q1 ⊢
      have hq := Hid.mk hq'
      clear hq'
      by_cases hlt : i < l.length
      · obtain ⟨b, o, rfl, _, hr⟩ := (hl1.below hb).some (by omega)
        obtain ⟨k', n', s', m', a', cap', hT, c0, c1, c2, c3, hli⟩ := hr.part i hlt
        have hc := ih.out l[i] (List.getElem_mem hlt) S _ (m - q) wr hli
        have r0 := cnt_lo (m := m - q) (Tm.size_pos l[i])
        have r1 := cnt_hi (N := l[i].size) (m := m - q)
        generalize hr' : cnt l[i].size (m - q) = r at hc r0 r1
        have hrr := Hid.mk hr'
        clear hr' hT hli
        go_wp2_with (go_at_call 35; refine (hc (by omega) (by omega)).mono ?_; rintro e w2 ⟨rfl, hb2⟩)
        · go_roundw
          case rel =>
            exact ⟨i + 1, by omega, by go_num, by rw [sizes_take l i hlt, ← Nat.add_assoc, ← cnt_step (by omega) (by rw [hq.out]; omega), hq.out, hrr.out], hb.trans (hb2.mono hzr)⟩
          case measure => simp [intOf]; omega
        · go_ret
          refine ⟨ret_int ?_, hbw⟩
          rw [← hq.out]
          exact cnt_more (by omega) (by have := sizes_le l i; omega) (by rw [hq.out]; omega)
      · go_wp2
        go_ret
        obtain rfl : i = l.length := by omega
        refine ⟨ret_int ?_, hbw⟩
        rw [← hq.out, List.take_length]

mutual
/-- No text of a term is of more than 200 bytes. -/
def Tm.Short : Tm → Prop
  | .mk _ _ s l => s.size ≤ 200 ∧ Shorts l
def Shorts : List Tm → Prop
  | [] => True
  | t :: r => t.Short ∧ Shorts r
end
theorem Tm.short_mk (k n : Int) (s : ByteArray) (l : List Tm) : (Tm.mk k n s l).Short ↔ s.size ≤ 200 ∧ Shorts l := by rw [Tm.Short]
theorem shorts_of {l : List Tm} (h : ∀ i (hi : i < l.length), l[i].Short) : Shorts l := by
  induction l with
  | nil => rw [Shorts]; trivial
  | cons t r ih =>
    rw [Shorts]
    exact ⟨h 0 (by simp), ih fun i hi => h (i + 1) (by simpa using hi)⟩
theorem Shorts.at {l : List Tm} (h : Shorts l) (i : Nat) (hi : i < l.length) : l[i].Short := by
  induction l generalizing i with
  | nil => cases hi
  | cons t r ih =>
    rw [Shorts] at h
    cases i with
    | zero => exact h.1
    | succ i => exact ih h.2 i (by simpa using hi)

set_option maxHeartbeats 400000 in
theorem long_any (T : Tm) : ∀ (S : Nat → Prop) (v : Value) (w : World), Lies w S T v →
    Calls Tryd.prog 36 #[v] w fun e w' => Told T.Short e ∧ Below w.heap.size w w' := by
  induction T using Tm.induct with
  | h k n s l ih0 =>
    intro S v w hv
    obtain ⟨a, cap, rfl, hs, hl⟩ := hv.out
    have ih := Hid.mk ih0
    clear ih0 hv
    have hlen : l.length ≤ 9223372036854775807 := Nat.le_trans hl.1 hl.2.1
    have hss := hs.s1
    have hsh := Hid.mk (Tm.short_mk k n s l)
    by_cases hlong : 200 < s.size
    · go_enter Tryd.func36, Tryd.ntmps36
      go_wp2
      go_ret
      exact ⟨Told.yes, (Below.refl _ _).alloc (Nat.le_refl _) _⟩
    go_enter Tryd.func36, Tryd.ntmps36
    go_wp2
    generalize hW1 : w.alloc (.cells #[.int .i64 k, .int .i64 n, .string s, .slice a l.length cap] 32) = w1
    have hz : w1.heap.size = w.heap.size + 1 := by rw [← hW1]; simp
    have hc3 : w1.cell? ⟨w.heap.size, 3, none⟩ = some (.slice a l.length cap) := by rw [← hW1]; exact new_cell w _ _ 3
    have hb1 : Below w.heap.size w w1 := by rw [← hW1]; exact (Below.refl _ _).alloc (Nat.le_refl _) _
    have hl1 : Lst w1 S l a cap := hl.below hb1
    go_loopw [3] (fun ii wr => ∃ i : Nat, i ≤ l.length ∧ ii = .int .i64 i ∧ Hid (∀ j (hj : j < l.length), j < i → l[j].Short) ∧ Below w1.heap.size w1 wr) (fun ii _ => l.length - (intOf ii).toNat)
    case atStart => exact ⟨0, Nat.zero_le _, rfl, fun j _ h => by omega, Below.refl _ _⟩
    case round =>
      obtain ⟨i, hi, rfl, hq, hb⟩ := hrel
      have hw3 := (hb.cell (p := ⟨w.heap.size, 3, none⟩) (by show w.heap.size < w1.heap.size; omega)).trans hc3
      have hzr := hb.size
      have hbw : Below w.heap.size w wr := hb1.trans (hb.mono (by omega))
      by_cases hlt : i < l.length
      · obtain ⟨b, o, rfl, _, hr⟩ := (hl1.below hb).some (by omega)
        obtain ⟨k', n', s', m', a', cap', hT, c0, c1, c2, c3, hli⟩ := hr.part i hlt
        have hc := ih.out l[i] (List.getElem_mem hlt) S _ wr hli
        clear hT hli
        go_wp2_with (go_at_call 36; refine hc.mono ?_; rintro e w2 ⟨⟨bb, rfl, hsb⟩, hb2⟩)
        · go_ret
          exact ⟨Told.yes, hbw.trans (hb2.mono (by omega))⟩
        · go_roundw
          case rel =>
            refine ⟨i + 1, by omega, by go_num, Hid.mk fun j hj hji => ?_, hb.trans (hb2.mono hzr)⟩
            rcases Nat.lt_or_ge j i with h | h
            · exact hq.out j hj h
            · obtain rfl : j = i := by omega
              exact hsb (by assumption)
          case measure => simp [intOf]; omega
      · go_wp2
        go_ret
        obtain rfl : i = l.length := by omega
        exact ⟨Told.no (hsh.out.2 ⟨by omega, shorts_of fun j hj => hq.out j hj hj⟩), hbw⟩

set_option maxHeartbeats 400000 in
theorem largeTerm_any (T : Tm) (S : Nat → Prop) (v : Value) (m : Int) (w : World) (hv : Lies w S T v) (hm0 : 0 ≤ m) (hm1 : m ≤ 4611686018427387904) :
    Calls Tryd.prog 9 #[v, .int .i64 m] w fun e w' => Told (T.Short ∧ (T.size : Int) ≤ m) e ∧ Below w.heap.size w w' := by
  have hc := Hid.mk (parts_any T S v m)
  have hd := Hid.mk (long_any T S v)
  have hli := Hid.mk hv
  have hcnt : Hid (cnt T.size m ≤ m → (T.size : Int) ≤ m) := Hid.mk (by unfold cnt; omega)
  obtain ⟨k, n, s, l⟩ := T
  obtain ⟨a, cap, rfl, hs, hl⟩ := hv.out
  generalize cnt (Tm.mk k n s l).size m = q at hc hcnt
  clear hv hs hl
  go_enter Tryd.func9, Tryd.ntmps9
  go_wp2_with (first
    | (go_at_call 35; have hb1 := (Below.refl w.heap.size w).alloc (Nat.le_refl _) (.cells #[.int .i64 k, .int .i64 n, .string s, .slice a l.length cap] 32); refine (hc.out _ (hli.out.below hb1) (by omega) hm1).mono ?_; rintro e w2 ⟨rfl, hb2⟩; have hb3 := hb1.trans (hb2.mono (by simp)); have g0 : w2.cell? ⟨w.heap.size, 0, none⟩ = some (.int .i64 k) := boxed hb2 0; have g1 : w2.cell? ⟨w.heap.size, 1, none⟩ = some (.int .i64 n) := boxed hb2 1; have g2 : w2.cell? ⟨w.heap.size, 2, none⟩ = some (.string s) := boxed hb2 2; have g3 : w2.cell? ⟨w.heap.size, 3, none⟩ = some (.slice a l.length cap) := boxed hb2 3; clear hb1 hb2)
    | (go_at_call 36; refine (hd.out _ (hli.out.below hb3)).mono ?_; rintro e w3 ⟨⟨bb, rfl, hsb⟩, hb4⟩))
  · go_ret
    exact ⟨Told.of _ (fun h => by rw [Bool.or_eq_false_iff] at h; exact ⟨hsb h.2, hcnt.out (by assumption)⟩), hb3.trans (hb4.mono hb3.size)⟩
  · go_ret
    exact ⟨Told.yes, hb3⟩

set_option maxHeartbeats 400000 in
theorem largeAll_any (l : List Tm) (S : Nat → Prop) (a : Option Addr) (cap : Nat) (m : Int) (w : World) (hl : Lst w S l a cap) (hm0 : 0 ≤ m) (hm1 : m ≤ 1152921504606846976) :
    Calls Tryd.prog 30 #[.slice a l.length cap, .int .i64 m] w fun e w' => Told (Shorts l ∧ (sizes l : Int) ≤ m) e ∧ Below w.heap.size w w' := by
  have hlen : l.length ≤ 9223372036854775807 := Nat.le_trans hl.1 hl.2.1
  go_enter Tryd.func30, Tryd.ntmps30
  go_wp2
  go_loopw [5, 6] (fun nn ii wr => ∃ (i : Nat) (q : Int), i ≤ l.length ∧ ii = .int .i64 i ∧ nn = .int .i64 q ∧ 0 ≤ q ∧ q ≤ m ∧ Hid (q = sizes (l.take i)) ∧ Hid (∀ j (hj : j < l.length), j < i → l[j].Short) ∧ Below w.heap.size w wr) (fun _ ii _ => l.length - (intOf ii).toNat)
  case atStart => exact ⟨0, 0, Nat.zero_le _, rfl, rfl, by omega, hm0, Hid.mk (by simp [sizes]), Hid.mk (fun j _ h => by omega), Below.refl _ _⟩
  case round =>
    obtain ⟨i, q, hi, rfl, rfl, q0, q1, hq, hsh, hb⟩ := hrel
    have hzr := hb.size
    by_cases hlt : i < l.length
    · obtain ⟨b, o, rfl, _, hr⟩ := (hl.below hb).some (by omega)
      obtain ⟨k', n', s', m', a', cap', hT, c0, c1, c2, c3, hli⟩ := hr.part i hlt
      have hc := Hid.mk (parts_any l[i] S _ m wr hli)
      have hd := Hid.mk (fun w2 (hb2 : Below wr.heap.size wr w2) => long_any l[i] S _ w2 (hli.below hb2))
      have r0 := cnt_lo (m := m) (Tm.size_pos l[i])
      have r1 := cnt_hi (N := l[i].size) (m := m)
      have hst := Hid.mk (sizes_take l i hlt)
      have hrr : Hid (cnt l[i].size m ≤ m → cnt l[i].size m = l[i].size) := Hid.mk (by unfold cnt; omega)
      generalize cnt l[i].size m = r at hc r0 r1 hrr
      clear hT hli
      go_wp2_with (first
        | (go_at_call 35; refine (hc.out (by omega) (by omega)).mono ?_; rintro e w2 ⟨rfl, hb2⟩; have g0 := cell_below hb2 _ _ _ c0; have g1 := cell_below hb2 _ _ _ c1; have g2 := cell_below hb2 _ _ _ c2; have g3 := cell_below hb2 _ _ _ c3)
        | (go_at_call 36; refine (hd.out _ hb2).mono ?_; rintro e w3 ⟨⟨bb, rfl, hsb⟩, hb3⟩))
      · go_ret
        exact ⟨Told.yes, (hb.trans (hb2.mono hzr)).trans (hb3.mono (by have := hb2.size; omega))⟩
      · go_roundw
        case rel =>
          have hbf : bb = false := by simp_all
          refine ⟨i + 1, q + r, by omega, by go_num, rfl, by omega, by omega, Hid.mk ?_, Hid.mk fun j hj hji => ?_, (hb.trans (hb2.mono hzr)).trans (hb3.mono (by have := hb2.size; omega))⟩
          · rw [hst.out, hrr.out (by omega), hq.out]
            exact (Int.natCast_add _ _).symm
          · rcases Nat.lt_or_ge j i with h | h
            · exact hsh.out j hj h
            · obtain rfl : j = i := by omega
              exact hsb hbf
        case measure => simp [intOf]; omega
      · go_ret
        exact ⟨Told.yes, hb.trans (hb2.mono hzr)⟩
    · go_wp2
      go_ret
      obtain rfl : i = l.length := by omega
      refine ⟨Told.no ⟨shorts_of fun j hj => hsh.out j hj hj, ?_⟩, hb⟩
      have := hq.out
      rw [List.take_length] at this
      omega

end Go.Proofs.YteklhipcojioaaaDoor

/-
  The table of shapes, and what the functions that read it come to.
-/
namespace Go.Proofs.YteklhipcojioaaaDoor
open Go.RowKit Go.Deep

/-- The table of shapes: least and most of N, bytes of S, fewest and most of L, words. -/
def shp (k j : Nat) : Int :=
  match j with
  | 0 => if k = 1 then -576460752303423488 else 0
  | 1 => if k = 1 then 576460752303423487 else if k = 3 ∨ k = 4 ∨ k = 5 ∨ k = 6 then 1073741824 else 0
  | 2 => if k = 2 then 64 else 0
  | 3 => if k = 9 then 2 else 0
  | 4 => if k = 5 ∨ k = 7 then 64 else if k = 9 then 2 else 0
  | _ => if k = 5 ∨ k = 7 then 2 else if k = 0 then 0 else 1

/-- The table lies in the variable's block. -/
structure ShapeTab (w : World) : Prop where
  cell : ∀ k j : Nat, k < 10 → j < 6 → w.cell? ⟨0, k * 6 + j, none⟩ = some (.int .i64 (shp k j))
  size : 0 < w.heap.size

theorem ShapeTab.cell0 {w : World} (h : ShapeTab w) (k : Nat) (hk : k < 10) : w.cell? ⟨0, k * 6, none⟩ = some (.int .i64 (shp k 0)) := h.cell k 0 hk (by omega)
theorem ShapeTab.below {w w' : World} (h : ShapeTab w) (hb : Below w.heap.size w w') : ShapeTab w' :=
  ⟨fun k j hk hj => by rw [hb.cell (p := ⟨0, k * 6 + j, none⟩) h.size]; exact h.cell k j hk hj, Nat.lt_of_lt_of_le h.size hb.size⟩
theorem ShapeTab.from {w w' : World} {B : Nat} (h : ShapeTab w) (hb : Below B w w') (hB : 0 < B) : ShapeTab w' :=
  ⟨fun k j hk hj => by rw [hb.cell (p := ⟨0, k * 6 + j, none⟩) hB]; exact h.cell k j hk hj, Nat.lt_of_lt_of_le h.size hb.size⟩

/-- Is there such a kind? -/
def knownK (k : Int) : Bool := decide (0 < k ∧ k < 10)
/-- Its words, without those of the parts; does it have parts? -/
def ownW (k : Int) : Int := if k = 5 ∨ k = 7 then 2 else 1
def hasL (k : Int) : Bool := decide (k = 5 ∨ k = 7 ∨ k = 9)
/-- May a term be, but for its parts? -/
def fitB (k n : Int) (s len : Nat) : Bool :=
  decide ((k = 1 ∧ -576460752303423488 ≤ n ∧ n ≤ 576460752303423487 ∧ s = 0 ∧ len = 0) ∨ (k = 2 ∧ n = 0 ∧ s ≤ 64 ∧ len = 0) ∨ ((k = 3 ∨ k = 4 ∨ k = 6) ∧ 0 ≤ n ∧ n ≤ 1073741824 ∧ s = 0 ∧ len = 0) ∨
    (k = 5 ∧ 0 ≤ n ∧ n ≤ 1073741824 ∧ s = 0 ∧ len ≤ 64) ∨ (k = 7 ∧ n = 0 ∧ s = 0 ∧ len ≤ 64) ∨ (k = 8 ∧ n = 0 ∧ s = 0 ∧ len = 0) ∨ (k = 9 ∧ n = 0 ∧ s = 0 ∧ len = 2))

theorem known_is (k : Int) : knownK k = true ↔ 0 < k ∧ k < 10 := by simp [knownK]
theorem known_not (k : Int) : knownK k = false ↔ ¬ (0 < k ∧ k < 10) := by simp [knownK]

set_option maxHeartbeats 400000 in
theorem known_any (k : Int) (w : World) : Calls Tryd.prog 82 #[.int .i64 k] w fun e w' => e = .returned (.bool (knownK k)) ∧ w = w' := by
  go_enter Tryd.func82, Tryd.ntmps82
  go_wp2
  all_goals go_ret
  all_goals exact ⟨ret_bool (by simp [knownK]; try omega), rfl⟩

set_option maxHeartbeats 400000 in
theorem ownWords_any (k : Int) (w : World) (ht : ShapeTab w) : Calls Tryd.prog 68 #[.int .i64 k] w fun e w' => e = .returned (.int .i64 (ownW k)) ∧ w = w' := by
  cases hk : knownK k
  · have hk' := (known_not k).1 hk
    go_enter Tryd.func68, Tryd.ntmps68
    go_wp2_with (go_at_call 82; refine (known_any _ _).mono ?_; rintro e w' ⟨rfl, rfl⟩)
    go_ret
    exact ⟨ret_int (by simp only [ownW]; split <;> omega), rfl⟩
  · have hk' := (known_is k).1 hk
    obtain ⟨j, rfl⟩ := Int.eq_ofNat_of_zero_le (by omega : 0 ≤ k)
    have hj : j < 10 := by omega
    have hj0 : 0 < j := by omega
    have c5 := ht.cell j 5 hj (by omega)
    clear ht hk'
    go_enter Tryd.func68, Tryd.ntmps68
    go_wp2_with (go_at_call 82; refine (known_any _ _).mono ?_; rintro e w' ⟨rfl, rfl⟩)
    go_ret
    refine ⟨ret_int ?_, rfl⟩
    simp only [shp, ownW]
    split <;> split <;> omega

theorem hasL_is (k : Int) : hasL k = true ↔ k = 5 ∨ k = 7 ∨ k = 9 := by simp [hasL]
theorem hasL_not (k : Int) : hasL k = false ↔ ¬ (k = 5 ∨ k = 7 ∨ k = 9) := by simp [hasL]

/-- The parts that count. -/
def insV (k : Int) (a : Option Addr) (len cap : Nat) : Value := if hasL k = true then .slice a len cap else .slice none 0 0
theorem insV_yes {k : Int} (h : hasL k = true) (a : Option Addr) (len cap : Nat) : insV k a len cap = .slice a len cap := by rw [insV, if_pos h]
theorem insV_no {k : Int} (h : hasL k = false) (a : Option Addr) (len cap : Nat) : insV k a len cap = .slice none 0 0 := by rw [insV, h]; rfl
set_option maxHeartbeats 400000 in
theorem inside_any (k n : Int) (s : ByteArray) (a : Option Addr) (len cap : Nat) (w : World) (ht : ShapeTab w) :
    Calls Tryd.prog 93 #[.agg #[.int .i64 k, .int .i64 n, .string s, .slice a len cap]] w fun e w' => e = .returned (insV k a len cap) ∧ Below w.heap.size w w' := by
  cases hk : knownK k
  · have hk' := (known_not k).1 hk
    have hl : hasL k = false := (hasL_not k).2 (by omega)
    go_enter Tryd.func93, Tryd.ntmps93
    go_wp2_with (go_at_call 82; refine (known_any _ _).mono ?_; rintro e w' ⟨rfl, rfl⟩)
    go_ret
    exact ⟨ret_val (insV_no hl _ _ _).symm, (Below.refl _ _).alloc (Nat.le_refl _) _⟩
  · have hk' := (known_is k).1 hk
    obtain ⟨j, rfl⟩ := Int.eq_ofNat_of_zero_le (by omega : 0 ≤ k)
    have hj : j < 10 := by omega
    have hj0 : 0 < j := by omega
    have hbw : Below w.heap.size w (w.alloc (.cells #[.int .i64 j, .int .i64 n, .string s, .slice a len cap] 32)) := (Below.refl _ _).alloc (Nat.le_refl _) _
    have c4 := (ht.below hbw).cell j 4 hj (by omega)
    have hsh : Hid (shp j 4 = 0 ↔ hasL j = false) := Hid.mk (by rw [hasL_not]; simp only [shp]; split <;> (try split) <;> omega)
    generalize shp j 4 = x at c4 hsh
    clear ht hk'
    go_enter Tryd.func93, Tryd.ntmps93
    go_wp2_with (go_at_call 82; refine (known_any _ _).mono ?_; rintro e w' ⟨rfl, rfl⟩)
    · go_ret
      exact ⟨ret_val (insV_no (hsh.out.1 (by simpa using (by assumption : (x == 0) = true))) _ _ _).symm, (Below.refl _ _).alloc (Nat.le_refl _) _⟩
    · go_ret
      refine ⟨ret_val (insV_yes ?_ _ _ _).symm, (Below.refl _ _).alloc (Nat.le_refl _) _⟩
      cases hL : hasL j
      · have := hsh.out.2 hL
        simp_all
      · rfl

set_option maxHeartbeats 800000 in
theorem fits_any (k n : Int) (s : ByteArray) (a : Option Addr) (len cap : Nat) (w : World) (ht : ShapeTab w) (hn0 : -9223372036854775808 ≤ n) (hn1 : n ≤ 9223372036854775807) (_hs : s.size ≤ 9223372036854775807) (hlen : len ≤ 9223372036854775807) :
    Calls Tryd.prog 69 #[.agg #[.int .i64 k, .int .i64 n, .string s, .slice a len cap]] w fun e w' => e = .returned (.bool (fitB k n s.size len)) ∧ Below w.heap.size w w' := by
  cases hk : knownK k
  · have hk' := (known_not k).1 hk
    have hl : fitB k n s.size len = false := by simp only [fitB, decide_eq_false_iff_not]; omega
    go_enter Tryd.func69, Tryd.ntmps69
    go_wp2_with (go_at_call 82; refine (known_any _ _).mono ?_; rintro e w' ⟨rfl, rfl⟩)
    go_ret
    exact ⟨ret_bool hl.symm, (Below.refl _ _).alloc (Nat.le_refl _) _⟩
  · have hk' := (known_is k).1 hk
    obtain ⟨j, rfl⟩ := Int.eq_ofNat_of_zero_le (by omega : 0 ≤ k)
    have hj : j < 10 := by omega
    have hj0 : 0 < j := by omega
    have hbw : Below w.heap.size w (w.alloc (.cells #[.int .i64 j, .int .i64 n, .string s, .slice a len cap] 32)) := (Below.refl _ _).alloc (Nat.le_refl _) _
    have c0 := (ht.below hbw).cell0 j hj
    have c1 := (ht.below hbw).cell j 1 hj (by omega)
    have c2 := (ht.below hbw).cell j 2 hj (by omega)
    have c3 := (ht.below hbw).cell j 3 hj (by omega)
    have c4 := (ht.below hbw).cell j 4 hj (by omega)
    have c5 := (ht.below hbw).cell j 5 hj (by omega)
    have hfit : Hid (fitB j n s.size len = decide (shp j 0 ≤ n ∧ n ≤ shp j 1 ∧ (s.size : Int) ≤ shp j 2 ∧ shp j 3 ≤ len ∧ (len : Int) ≤ shp j 4)) := Hid.mk (by
      rw [fitB, decide_eq_decide]
      generalize s.size = z
      rcases (show j = 1 ∨ j = 2 ∨ j = 3 ∨ j = 4 ∨ j = 5 ∨ j = 6 ∨ j = 7 ∨ j = 8 ∨ j = 9 by omega) with rfl | rfl | rfl | rfl | rfl | rfl | rfl | rfl | rfl <;> simp [shp] <;> omega)
    generalize shp j 0 = x0 at c0 hfit
    generalize shp j 1 = x1 at c1 hfit
    generalize shp j 2 = x2 at c2 hfit
    generalize shp j 3 = x3 at c3 hfit
    generalize shp j 4 = x4 at c4 hfit
    generalize shp j 5 = x5 at c5
    generalize fitB j n s.size len = y at hfit ⊢
    clear ht hk'
    go_enter Tryd.func69, Tryd.ntmps69
    go_wp2_with (go_at_call 82; refine (known_any _ _).mono ?_; rintro e w' ⟨rfl, rfl⟩)
    all_goals go_ret
    all_goals
      refine ⟨ret_bool ?_, ((Below.refl _ _).alloc (Nat.le_refl _) _).alloc (by simp) _⟩
      rw [hfit.out, Bool.eq_iff_iff]
      simp only [decide_eq_true_eq, Bool.false_eq_true, false_iff]
      omega

end Go.Proofs.YteklhipcojioaaaDoor
