/-
  How long a list is, and its items: the program's, and the document's.
-/
import Derived.Test.YtamafhcgjbkikaaDoorTermMore
namespace Go.Proofs.YtamafhcgjbkikaaDoor
open Go.RowKit Go.Deep

/-- The items of a list, and the kind of its end. -/
def Tm.items : Tm → List Tm
  | .mk k _ _ [h, t] => if k = 9 then h :: t.items else []
  | _ => []
def Tm.last : Tm → Int
  | .mk k _ _ [_, t] => if k = 9 then t.last else k
  | .mk k _ _ _ => k
theorem items_cons (n : Int) (s : ByteArray) (h t : Tm) : (Tm.mk 9 n s [h, t]).items = h :: t.items := by rw [Tm.items, if_pos rfl]
theorem last_cons (n : Int) (s : ByteArray) (h t : Tm) : (Tm.mk 9 n s [h, t]).last = t.last := by rw [Tm.last, if_pos rfl]
theorem items_no {k n : Int} {s : ByteArray} {l : List Tm} (h : ¬ (k = 9 ∧ l.length = 2)) : (Tm.mk k n s l).items = [] ∧ (Tm.mk k n s l).last = k := by
  match l with
  | [] => exact ⟨rfl, rfl⟩
  | [_] => exact ⟨rfl, rfl⟩
  | [a, b] =>
    have hk : ¬ k = 9 := fun e => h ⟨e, rfl⟩
    rw [Tm.items, Tm.last, if_neg hk, if_neg hk]
    exact ⟨rfl, rfl⟩
  | _ :: _ :: _ :: _ => exact ⟨rfl, rfl⟩
theorem two_of {α : Type} {l : List α} (h : l.length = 2) : ∃ a b, l = [a, b] := by
  match l, h with
  | [a, b], _ => exact ⟨a, b, rfl⟩
theorem items_size (T : Tm) : T.items.length ≤ T.size := by
  induction T using Tm.induct with
  | h k n s l ih =>
    by_cases h : k = 9 ∧ l.length = 2
    · match l, h with
      | [a, b], h =>
        obtain ⟨rfl, _⟩ := h
        have := ih b (by simp)
        rw [items_cons, Tm.size_mk]
        simp only [List.length_cons, sizes]
        omega
    · rw [(items_no h).1]
      simp

theorem ret_intbool {a b : Int} {c d : Bool} (h : a = b) (h' : c = d) : Ending.returned (.tuple #[.int .i64 a, .bool c]) = .returned (.tuple #[.int .i64 b, .bool d]) := by rw [h, h']

/-- The first i elements are there, each in memory behind the row's. -/
def MixP (w : World) (nb : Nat) (l : List Tm) (i : Nat) : Prop :=
  ∀ j (_ : j < i) (hl : j < l.length), ∃ v0 v1 v2 v3, w.cell? ⟨nb, j * 4, none⟩ = some v0 ∧ w.cell? ⟨nb, j * 4 + 1, none⟩ = some v1 ∧ w.cell? ⟨nb, j * 4 + 2, none⟩ = some v2 ∧ w.cell? ⟨nb, j * 4 + 3, none⟩ = some v3 ∧
    Lies w (fun b => nb < b) l[j] (.agg #[v0, v1, v2, v3])

/-- Four cells written into a row. -/
def put4 (w : World) (b o : Nat) (v0 v1 v2 v3 : Value) : World := (((w.setCell ⟨b, o, none⟩ v0).setCell ⟨b, o + 1, none⟩ v1).setCell ⟨b, o + 2, none⟩ v2).setCell ⟨b, o + 3, none⟩ v3
theorem put4_heap (w : World) (b o : Nat) (v0 v1 v2 v3 : Value) (k : Nat) (hk : k ≠ b) : (put4 w b o v0 v1 v2 v3).heap[k]? = w.heap[k]? := by
  unfold put4
  rw [Below.heap_setCell _ _ _ _ hk, Below.heap_setCell _ _ _ _ hk, Below.heap_setCell _ _ _ _ hk, Below.heap_setCell _ _ _ _ hk]
theorem put4_size (w : World) (b o : Nat) (v0 v1 v2 v3 : Value) : (put4 w b o v0 v1 v2 v3).heap.size = w.heap.size := by
  unfold put4
  rw [size_setCell', size_setCell', size_setCell', size_setCell']
theorem Below.put4 {B : Nat} {a w : World} {b o : Nat} {v0 v1 v2 v3 : Value} (h : Below B a w) (hb : B ≤ b) : Below B a (put4 w b o v0 v1 v2 v3) :=
  (((h.setCell (p := ⟨b, o, none⟩) hb v0).setCell (p := ⟨b, o + 1, none⟩) hb v1).setCell (p := ⟨b, o + 2, none⟩) hb v2).setCell (p := ⟨b, o + 3, none⟩) hb v3
theorem put4_block {w : World} {b o : Nat} {v0 v1 v2 v3 : Value} {c : Array Value} {t : TypeId} (h : w.heap[b]? = some (.cells c t (0, 0))) :
    (put4 w b o v0 v1 v2 v3).heap[b]? = some (.cells ((((c.setIfInBounds o v0).setIfInBounds (o + 1) v1).setIfInBounds (o + 2) v2).setIfInBounds (o + 3) v3) t (0, 0)) := by
  simp [put4, World.setCell, Array.getElem?_modify, h]
theorem put4_cell {w : World} {b o : Nat} {v0 v1 v2 v3 : Value} {c : Array Value} {t : TypeId} (h : w.heap[b]? = some (.cells c t (0, 0))) (hs : o + 3 < c.size) :
    ((put4 w b o v0 v1 v2 v3).cell? ⟨b, o, none⟩ = some v0 ∧ (put4 w b o v0 v1 v2 v3).cell? ⟨b, o + 1, none⟩ = some v1 ∧ (put4 w b o v0 v1 v2 v3).cell? ⟨b, o + 2, none⟩ = some v2 ∧ (put4 w b o v0 v1 v2 v3).cell? ⟨b, o + 3, none⟩ = some v3) ∧
      ∀ j, (j < o ∨ o + 4 ≤ j) → (put4 w b o v0 v1 v2 v3).cell? ⟨b, j, none⟩ = w.cell? ⟨b, j, none⟩ := by
  have e : ∀ j, (put4 w b o v0 v1 v2 v3).cell? ⟨b, j, none⟩ = _ := fun j => cell_of_row _ b j _ t (0, 0) (put4_block (v0 := v0) (v1 := v1) (v2 := v2) (v3 := v3) h)
  have e0 : ∀ j, w.cell? ⟨b, j, none⟩ = c[j]? := fun j => cell_of_row w b j c t (0, 0) h
  refine ⟨⟨?_, ?_, ?_, ?_⟩, fun j hj => ?_⟩
  · rw [e]; simp only [Array.getElem?_setIfInBounds, Array.size_setIfInBounds]; simp; omega
  · rw [e]; simp only [Array.getElem?_setIfInBounds, Array.size_setIfInBounds]; simp; omega
  · rw [e]; simp only [Array.getElem?_setIfInBounds, Array.size_setIfInBounds]; simp; omega
  · rw [e]; simp only [Array.getElem?_setIfInBounds, Array.size_setIfInBounds]; simp; omega
  · rw [e, e0]
    simp only [Array.getElem?_setIfInBounds, Array.size_setIfInBounds]
    rw [if_neg (by omega), if_neg (by omega), if_neg (by omega), if_neg (by omega)]

end Go.Proofs.YtamafhcgjbkikaaDoor
