/-
  Terms as a plain tree, and how one lies in memory: which cells hold it, that it goes on lying there while memory is only added to, and that what a call is handed as a term does lie so.
-/
import Derived.Test.YtamafhcgjbkikaaDoorKitBase
import Derived.WalkKit
import Derived.WalkSpells
import Derived.WalkLawsBesides
import Derived.OpenShut
import Derived.Deep.Slices
import Derived.Lib.Hide
namespace Go.Proofs.YtamafhcgjbkikaaDoor
open Go.RowKit Go.Deep

/-- A term: its kind, its number, its text, its parts. -/
inductive Tm where
  | mk (k n : Int) (s : ByteArray) (l : List Tm)

theorem Tm.induct {P : Tm → Prop} (h : ∀ k n s l, (∀ t ∈ l, P t) → P (.mk k n s l)) (t : Tm) : P t :=
  Tm.rec (motive_1 := P) (motive_2 := fun l => ∀ t ∈ l, P t) h (fun t ht => by cases ht) (fun x xs h1 h2 t ht => by
    rcases List.mem_cons.1 ht with rfl | h'
    · exact h1
    · exact h2 t h') t

/-- Numbers and texts are within what the machine holds. -/
structure Small (k n : Int) (s : ByteArray) : Prop where
  k0 : -9223372036854775808 ≤ k
  k1 : k ≤ 9223372036854775807
  n0 : -9223372036854775808 ≤ n
  n1 : n ≤ 9223372036854775807
  s1 : s.size ≤ 9223372036854775807

mutual
/-- The value v is the term, whose parts lie in blocks of S. -/
def Lies (w : World) (S : Nat → Prop) : Tm → Value → Prop
  | .mk k n s l, v => ∃ (a : Option Addr) (cap : Nat), v = .agg #[.int .i64 k, .int .i64 n, .string s, .slice a l.length cap] ∧ Small k n s ∧ l.length ≤ cap ∧ cap ≤ 9223372036854775807 ∧
      ((a = none ∧ l = [] ∧ cap = 0) ∨ ∃ p : Addr, a = some p ∧ (l ≠ [] → S p.block ∧ p.spot = none) ∧ Row w S l p.block p.off)
/-- Terms side by side from a place on. -/
def Row (w : World) (S : Nat → Prop) : List Tm → Nat → Nat → Prop
  | [], _, _ => True
  | t :: r, b, o => (∃ v0 v1 v2 v3, w.cell? ⟨b, o, none⟩ = some v0 ∧ w.cell? ⟨b, o + 1, none⟩ = some v1 ∧ w.cell? ⟨b, o + 2, none⟩ = some v2 ∧ w.cell? ⟨b, o + 3, none⟩ = some v3 ∧ Lies w S t (.agg #[v0, v1, v2, v3])) ∧ Row w S r b (o + 4)
end

/-- A slice of terms. -/
def Lst (w : World) (S : Nat → Prop) (l : List Tm) (a : Option Addr) (cap : Nat) : Prop :=
  l.length ≤ cap ∧ cap ≤ 9223372036854775807 ∧ ((a = none ∧ l = [] ∧ cap = 0) ∨ ∃ p : Addr, a = some p ∧ (l ≠ [] → S p.block ∧ p.spot = none) ∧ Row w S l p.block p.off)

section
variable {w w' : World} {S S' : Nat → Prop}

theorem Lies.out {k n : Int} {s : ByteArray} {l : List Tm} {v : Value} (h : Lies w S (.mk k n s l) v) :
    ∃ a cap, v = .agg #[.int .i64 k, .int .i64 n, .string s, .slice a l.length cap] ∧ Small k n s ∧ Lst w S l a cap := by
  rw [Lies] at h
  obtain ⟨a, cap, h1, h2, h3, h4, h5⟩ := h
  exact ⟨a, cap, h1, h2, h3, h4, h5⟩

theorem Lies.mk {k n : Int} {s : ByteArray} {l : List Tm} {a : Option Addr} {cap : Nat} (h : Small k n s) (hl : Lst w S l a cap) :
    Lies w S (.mk k n s l) (.agg #[.int .i64 k, .int .i64 n, .string s, .slice a l.length cap]) := by
  rw [Lies]
  exact ⟨a, cap, rfl, h, hl.1, hl.2.1, hl.2.2⟩

theorem Row.at {l : List Tm} : ∀ {b o : Nat}, Row w S l b o → ∀ (i : Nat) (hi : i < l.length), ∃ v0 v1 v2 v3, w.cell? ⟨b, o + i * 4, none⟩ = some v0 ∧ w.cell? ⟨b, o + i * 4 + 1, none⟩ = some v1 ∧
    w.cell? ⟨b, o + i * 4 + 2, none⟩ = some v2 ∧ w.cell? ⟨b, o + i * 4 + 3, none⟩ = some v3 ∧ Lies w S l[i] (.agg #[v0, v1, v2, v3]) := by
  induction l with
  | nil => intro b o _ i hi; cases hi
  | cons t r ih =>
    intro b o h i hi
    rw [Row] at h
    cases i with
    | zero =>
      simp only [Nat.zero_mul, Nat.add_zero]
      exact h.1
    | succ i =>
      have := ih h.2 i (by simpa using hi)
      rw [show o + 4 + i * 4 = o + (i + 1) * 4 by omega] at this
      exact this

theorem Row.of {l : List Tm} : ∀ {b o : Nat}, (∀ (i : Nat) (hi : i < l.length), ∃ v0 v1 v2 v3, w.cell? ⟨b, o + i * 4, none⟩ = some v0 ∧ w.cell? ⟨b, o + i * 4 + 1, none⟩ = some v1 ∧
    w.cell? ⟨b, o + i * 4 + 2, none⟩ = some v2 ∧ w.cell? ⟨b, o + i * 4 + 3, none⟩ = some v3 ∧ Lies w S l[i] (.agg #[v0, v1, v2, v3])) → Row w S l b o := by
  induction l with
  | nil => intro b o _; rw [Row]; trivial
  | cons t r ih =>
    intro b o h
    rw [Row]
    refine ⟨?_, ih fun i hi => ?_⟩
    · have := h 0 (by simp)
      simp only [Nat.zero_mul, Nat.add_zero] at this
      exact this
    have := h (i + 1) (by simpa using hi)
    rw [show o + (i + 1) * 4 = o + 4 + i * 4 by omega] at this
    exact this

/-- What lies in blocks of S lies so still where the cells of these blocks are as they were. -/
theorem Lies.move (hS : ∀ b, S b → S' b) (hw : ∀ b o v, S b → w.cell? ⟨b, o, none⟩ = some v → w'.cell? ⟨b, o, none⟩ = some v) (T : Tm) :
    ∀ v, Lies w S T v → Lies w' S' T v := by
  induction T using Tm.induct with
  | h k n s l ih =>
    intro v h
    obtain ⟨a, cap, rfl, h1, h2, h3, h4⟩ := h.out
    refine Lies.mk h1 ⟨h2, h3, ?_⟩
    rcases h4 with h4 | ⟨p, rfl, hs, hr⟩
    · exact Or.inl h4
    · refine Or.inr ⟨p, rfl, fun hn => ⟨hS _ (hs hn).1, (hs hn).2⟩, Row.of fun i hi => ?_⟩
      obtain ⟨v0, v1, v2, v3, c0, c1, c2, c3, hl⟩ := hr.at i hi
      have hp := (hs (fun e => by subst e; cases hi)).1
      exact ⟨v0, v1, v2, v3, hw _ _ _ hp c0, hw _ _ _ hp c1, hw _ _ _ hp c2, hw _ _ _ hp c3, ih _ (List.getElem_mem hi) _ hl⟩

theorem Row.move (hS : ∀ b, S b → S' b) (hw : ∀ b o v, S b → w.cell? ⟨b, o, none⟩ = some v → w'.cell? ⟨b, o, none⟩ = some v) {l : List Tm} {b o : Nat} (hb : l ≠ [] → S b)
    (h : Row w S l b o) : Row w' S' l b o :=
  Row.of fun i hi => by
    have hb := hb (fun e => by subst e; cases hi)
    obtain ⟨v0, v1, v2, v3, c0, c1, c2, c3, hl⟩ := h.at i hi
    exact ⟨v0, v1, v2, v3, hw _ _ _ hb c0, hw _ _ _ hb c1, hw _ _ _ hb c2, hw _ _ _ hb c3, hl.move hS hw _ _⟩

theorem Lst.move (hS : ∀ b, S b → S' b) (hw : ∀ b o v, S b → w.cell? ⟨b, o, none⟩ = some v → w'.cell? ⟨b, o, none⟩ = some v) {l : List Tm} {a : Option Addr} {cap : Nat}
    (h : Lst w S l a cap) : Lst w' S' l a cap := by
  obtain ⟨h2, h3, h4⟩ := h
  refine ⟨h2, h3, ?_⟩
  rcases h4 with h4 | ⟨p, rfl, hs, hr⟩
  · exact Or.inl h4
  · exact Or.inr ⟨p, rfl, fun hn => ⟨hS _ (hs hn).1, (hs hn).2⟩, hr.move hS hw (fun hn => (hs hn).1)⟩

theorem Lies.below {T : Tm} {v : Value} (h : Lies w S T v) (hb : Below w.heap.size w w') : Lies w' S T v :=
  h.move (fun _ h => h) (fun b o v _ hc => cell_below hb b o v hc) _ _
theorem Row.below {l : List Tm} {b o : Nat} (h : Row w S l b o) (hb : Below w.heap.size w w') : Row w' S l b o :=
  Row.of fun i hi => by
    obtain ⟨v0, v1, v2, v3, c0, c1, c2, c3, hl⟩ := h.at i hi
    exact ⟨v0, v1, v2, v3, cell_below hb _ _ _ c0, cell_below hb _ _ _ c1, cell_below hb _ _ _ c2, cell_below hb _ _ _ c3, hl.below hb⟩
theorem Lst.below {l : List Tm} {a : Option Addr} {cap : Nat} (h : Lst w S l a cap) (hb : Below w.heap.size w w') : Lst w' S l a cap := by
  obtain ⟨h2, h3, h4⟩ := h
  refine ⟨h2, h3, ?_⟩
  rcases h4 with h4 | ⟨p, rfl, hs, hr⟩
  · exact Or.inl h4
  · exact Or.inr ⟨p, rfl, hs, hr.below hb⟩
theorem Lies.wider {T : Tm} {v : Value} (h : Lies w S T v) (hS : ∀ b, S b → S' b) : Lies w S' T v := h.move hS (fun _ _ _ _ h => h) _ _
theorem Lst.wider {l : List Tm} {a : Option Addr} {cap : Nat} (h : Lst w S l a cap) (hS : ∀ b, S b → S' b) : Lst w S' l a cap := h.move hS (fun _ _ _ _ h => h)

/-- .. behind what only adds to memory. -/
theorem boxed {w w2 : World} {c : Array Value} {t : TypeId} (hb : Below (w.alloc (.cells c t)).heap.size (w.alloc (.cells c t)) w2) (j : Nat) : w2.cell? ⟨w.heap.size, j, none⟩ = c[j]? := by
  rw [hb.cell (p := ⟨w.heap.size, j, none⟩) (by simp)]
  exact new_cell w c t j

/-- The four cells of a block, behind what only adds to memory; none of them is frozen. -/
theorem kept4 {w1 w2 : World} {b : Nat} {v0 v1 v2 v3 : Value} {t : TypeId} (h : w1.heap[b]? = some (.cells #[v0, v1, v2, v3] t)) (hb : Below w1.heap.size w1 w2) :
    (w2.cell? ⟨b, 0, none⟩ = some v0 ∧ w2.cell? ⟨b, 1, none⟩ = some v1 ∧ w2.cell? ⟨b, 2, none⟩ = some v2 ∧ w2.cell? ⟨b, 3, none⟩ = some v3) ∧
      (w2.frozen? ⟨b, 0, none⟩ = false ∧ w2.frozen? ⟨b, 1, none⟩ = false ∧ w2.frozen? ⟨b, 2, none⟩ = false ∧ w2.frozen? ⟨b, 3, none⟩ = false) := by
  have h2 : w2.heap[b]? = some (.cells #[v0, v1, v2, v3] t) := (hb.block b (Array.getElem?_eq_some_iff.1 h).1).trans h
  simp [World.cell?, World.frozen?, h2]

theorem load4 {b o : Nat} {v0 v1 v2 v3 : Value} (c0 : w.cell? ⟨b, o, none⟩ = some v0) (c1 : w.cell? ⟨b, o + 1, none⟩ = some v1) (c2 : w.cell? ⟨b, o + 2, none⟩ = some v2) (c3 : w.cell? ⟨b, o + 3, none⟩ = some v3) :
    (loadVar 24 ⟨b, o, none⟩).run Tryd.prog w = .ok (.agg #[v0, v1, v2, v3]) w := by
  have hl : (loadCells ⟨b, o, none⟩ [v0, v1, v2, v3].length).run Tryd.prog w = .ok [v0, v1, v2, v3].toArray w :=
    run_loadCells_list (P := Tryd.prog) w ⟨b, o, none⟩ [v0, v1, v2, v3] (fun j v hv => by
      rw [WideShapes.add_plain]
      match j, hv with
      | 0, hv => cases hv; exact c0
      | 1, hv => cases hv; exact c1
      | 2, hv => cases hv; exact c2
      | 3, hv => cases hv; exact c3)
  obtain ⟨i, hi, hs⟩ := Option.map_eq_some_iff.1 (show (Tryd.prog.info? 24).map (·.size) = some 4 by kernel_rfl)
  have hagg : (isAgg 24).run Tryd.prog w = .ok true w := by
    unfold isAgg
    rw [Sem.run_bind, run_underlying Tryd.underlying24 w]
    simp
  simp only [List.length_cons, List.length_nil, Nat.zero_add, Nat.reduceAdd] at hl
  simp [loadVar, Sem.run_bind, hagg, sizeOf, typeInfo, hi, hs, hl]

/-- What is returned out of a variable that holds a term. -/
theorem results_term {fn : Func} {p : Tmp} (h : fn.results = #[.cell p 24]) (tmps : Array Value) {b o : Nat} (hp : tmps.getD p undef = .pointer (some ⟨b, o, none⟩)) {v0 v1 v2 v3 : Value}
    (c0 : w.cell? ⟨b, o, none⟩ = some v0) (c1 : w.cell? ⟨b, o + 1, none⟩ = some v1) (c2 : w.cell? ⟨b, o + 2, none⟩ = some v2) (c3 : w.cell? ⟨b, o + 3, none⟩ = some v3) :
    (results fn tmps).run Tryd.prog w = .ok (.agg #[v0, v1, v2, v3]) w := by
  have hp' : tmps[p]?.getD undef = .pointer (some ⟨b, o, none⟩) := by simpa using hp
  simp [results, h, hp', asAddr, load4 c0 c1 c2 c3]

/-- A world in which four cells have been written. -/
theorem stored4 {b : Nat} {u0 u1 u2 u3 v0 v1 v2 v3 : Value} (h0 : w.cell? ⟨b, 0, none⟩ = some u0) (h1 : w.cell? ⟨b, 1, none⟩ = some u1) (h2 : w.cell? ⟨b, 2, none⟩ = some u2) (h3 : w.cell? ⟨b, 3, none⟩ = some u3) :
    let w' := (((w.setCell ⟨b, 0, none⟩ v0).setCell ⟨b, 1, none⟩ v1).setCell ⟨b, 2, none⟩ v2).setCell ⟨b, 3, none⟩ v3
    w'.cell? ⟨b, 0, none⟩ = some v0 ∧ w'.cell? ⟨b, 1, none⟩ = some v1 ∧ w'.cell? ⟨b, 2, none⟩ = some v2 ∧ w'.cell? ⟨b, 3, none⟩ = some v3 := by
  have e0 := World.cell?_setCell_same w ⟨b, 0, none⟩ v0 h0
  have e1 := World.cell?_setCell_same (w.setCell ⟨b, 0, none⟩ v0) ⟨b, 1, none⟩ v1 ((World.cell?_setCell_other w _ _ _ (by simp)).trans h1)
  have e2 := World.cell?_setCell_same ((w.setCell ⟨b, 0, none⟩ v0).setCell ⟨b, 1, none⟩ v1) ⟨b, 2, none⟩ v2 ((World.cell?_setCell_other _ _ _ _ (by simp)).trans ((World.cell?_setCell_other w _ _ _ (by simp)).trans h2))
  have e3 := World.cell?_setCell_same (((w.setCell ⟨b, 0, none⟩ v0).setCell ⟨b, 1, none⟩ v1).setCell ⟨b, 2, none⟩ v2) ⟨b, 3, none⟩ v3 ((World.cell?_setCell_other _ _ _ _ (by simp)).trans ((World.cell?_setCell_other _ _ _ _ (by simp)).trans ((World.cell?_setCell_other w _ _ _ (by simp)).trans h3)))
  refine ⟨?_, ?_, ?_, e3⟩
  · exact (World.cell?_setCell_other _ _ _ _ (by simp)).trans ((World.cell?_setCell_other _ _ _ _ (by simp)).trans ((World.cell?_setCell_other _ _ _ _ (by simp)).trans e0))
  · exact (World.cell?_setCell_other _ _ _ _ (by simp)).trans ((World.cell?_setCell_other _ _ _ _ (by simp)).trans e1)
  · exact (World.cell?_setCell_other _ _ _ _ (by simp)).trans e2

/-- The return of a term that has just been stored. -/
theorem ret_stored {fn : Func} {R : Ending → World → Prop} {a : Act} {p : Tmp} {b : Nat} {u0 u1 u2 u3 v0 v1 v2 v3 : Value} (h : fn.results = #[.cell p 24]) (hp : a.tmps.getD p undef = .pointer (some ⟨b, 0, none⟩)) (hd : a.defers = [])
    (h0 : w.cell? ⟨b, 0, none⟩ = some u0) (h1 : w.cell? ⟨b, 1, none⟩ = some u1) (h2 : w.cell? ⟨b, 2, none⟩ = some u2) (h3 : w.cell? ⟨b, 3, none⟩ = some u3)
    (hR : R (.returned (.agg #[v0, v1, v2, v3])) ((((w.setCell ⟨b, 0, none⟩ v0).setCell ⟨b, 1, none⟩ v1).setCell ⟨b, 2, none⟩ v2).setCell ⟨b, 3, none⟩ v3)) :
    bodyPost Tryd.prog fn R .ret a ((((w.setCell ⟨b, 0, none⟩ v0).setCell ⟨b, 1, none⟩ v1).setCell ⟨b, 2, none⟩ v2).setCell ⟨b, 3, none⟩ v3) := by
  obtain ⟨e0, e1, e2, e3⟩ := stored4 (v0 := v0) (v1 := v1) (v2 := v2) (v3 := v3) h0 h1 h2 h3
  exact bodyPost_ret (results_term h _ hp e0 e1 e2 e3) hd hR

theorem Below.set4 {B : Nat} {a : World} {b : Nat} {v0 v1 v2 v3 : Value} (h : Below B a w) (hb : B ≤ b) : Below B a ((((w.setCell ⟨b, 0, none⟩ v0).setCell ⟨b, 1, none⟩ v1).setCell ⟨b, 2, none⟩ v2).setCell ⟨b, 3, none⟩ v3) :=
  (((h.setCell (p := ⟨b, 0, none⟩) hb v0).setCell (p := ⟨b, 1, none⟩) hb v1).setCell (p := ⟨b, 2, none⟩) hb v2).setCell (p := ⟨b, 3, none⟩) hb v3
theorem set4_heap (w : World) (b : Nat) (v0 v1 v2 v3 : Value) (k : Nat) (hk : k ≠ b) : ((((w.setCell ⟨b, 0, none⟩ v0).setCell ⟨b, 1, none⟩ v1).setCell ⟨b, 2, none⟩ v2).setCell ⟨b, 3, none⟩ v3).heap[k]? = w.heap[k]? := by
  rw [Below.heap_setCell _ _ _ _ hk, Below.heap_setCell _ _ _ _ hk, Below.heap_setCell _ _ _ _ hk, Below.heap_setCell _ _ _ _ hk]
theorem set4_size (w : World) (b : Nat) (v0 v1 v2 v3 : Value) : ((((w.setCell ⟨b, 0, none⟩ v0).setCell ⟨b, 1, none⟩ v1).setCell ⟨b, 2, none⟩ v2).setCell ⟨b, 3, none⟩ v3).heap.size = w.heap.size := by
  rw [size_setCell', size_setCell', size_setCell', size_setCell']

theorem set1_block {b : Nat} {u v : Value} {t : TypeId} (h : w.heap[b]? = some (.cells #[u] t)) : (w.setCell ⟨b, 0, none⟩ v).heap[b]? = some (.cells #[v] t) := by
  simp [World.setCell, Array.getElem?_modify, h]
theorem set4_block {b : Nat} {u0 u1 u2 u3 v0 v1 v2 v3 : Value} {t : TypeId} (h : w.heap[b]? = some (.cells #[u0, u1, u2, u3] t)) :
    ((((w.setCell ⟨b, 0, none⟩ v0).setCell ⟨b, 1, none⟩ v1).setCell ⟨b, 2, none⟩ v2).setCell ⟨b, 3, none⟩ v3).heap[b]? = some (.cells #[v0, v1, v2, v3] t) := by
  simp [World.setCell, Array.getElem?_modify, h]

/-- A slice of terms that has some has an address, a plain one. -/
theorem Lst.some {l : List Tm} {a : Option Addr} {cap : Nat} (h : Lst w S l a cap) (hl : 0 < l.length) :
    ∃ b o, a = some ⟨b, o, none⟩ ∧ S b ∧ Row w S l b o := by
  obtain ⟨_, _, ⟨_, rfl, _⟩ | ⟨⟨b, o, sp⟩, rfl, hs, hr⟩⟩ := h
  · cases hl
  · obtain ⟨hp, rfl⟩ : S b ∧ sp = none := hs (fun e => by subst e; cases hl)
    exact ⟨b, o, rfl, hp, hr⟩

/-- The cells of one part, and the part itself. -/
theorem Row.part {l : List Tm} {b o : Nat} (h : Row w S l b o) (i : Nat) (hi : i < l.length) : ∃ k n s m a cap, l[i] = .mk k n s m ∧ w.cell? ⟨b, o + i * 4, none⟩ = some (.int .i64 k) ∧
    w.cell? ⟨b, o + i * 4 + 1, none⟩ = some (.int .i64 n) ∧ w.cell? ⟨b, o + i * 4 + 2, none⟩ = some (.string s) ∧ w.cell? ⟨b, o + i * 4 + 3, none⟩ = some (.slice a m.length cap) ∧
    Lies w S l[i] (.agg #[.int .i64 k, .int .i64 n, .string s, .slice a m.length cap]) := by
  obtain ⟨v0, v1, v2, v3, c0, c1, c2, c3, hl⟩ := h.at i hi
  cases hT : l[i] with
  | mk k n s m =>
    rw [hT] at hl
    obtain ⟨a, cap, hv, h1, h2⟩ := hl.out
    simp only [Value.agg.injEq, Array.mk.injEq, List.cons.injEq, and_true] at hv
    obtain ⟨rfl, rfl, rfl, rfl⟩ := hv
    exact ⟨k, n, s, m, a, cap, rfl, c0, c1, c2, c3, hl⟩
end

end Go.Proofs.YtamafhcgjbkikaaDoor
