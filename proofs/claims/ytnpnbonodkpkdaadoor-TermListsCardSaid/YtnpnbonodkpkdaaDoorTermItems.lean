/-
  How long a list is, and its items: the program's, and the document's.
-/
import Derived.Test.YtnpnbonodkpkdaaDoorTermMore
namespace Go.Proofs.YtnpnbonodkpkdaaDoor
open Go.RowKit Go.Deep

/-- The items of a list, and the kind of its end. -/
def Tm.items : Tm → List Tm
  | .mk k _ _ [h, t] => if k = 9 then h :: t.items else []
  | _ => []
def Tm.last : Tm → Int
  | .mk k _ _ [_, t] => if k = 9 then t.last else k
  | .mk k _ _ _ => k
theorem items_cons (n : Int) (s : ByteArray) (h t : Tm) : (Tm.mk 9 n s [h, t]).items = h :: t.items := by rw [Tm.items, if_pos rfl]
theorem last_cons (n : Int) (s : ByteArray) (h t : Tm) : (Tm.mk 9 n s [h, t]).last = t.last := by rw [Tm.last, if_pos rfl]
theorem items_no {k n : Int} {s : ByteArray} {l : List Tm} (h : ¬ (k = 9 ∧ l.length = 2)) : (Tm.mk k n s l).items = [] ∧ (Tm.mk k n s l).last = k := by
  match l with
  | [] => exact ⟨rfl, rfl⟩
  | [_] => exact ⟨rfl, rfl⟩
  | [a, b] =>
    have hk : ¬ k = 9 := fun e => h ⟨e, rfl⟩
    rw [Tm.items, Tm.last, if_neg hk, if_neg hk]
    exact ⟨rfl, rfl⟩
  | _ :: _ :: _ :: _ => exact ⟨rfl, rfl⟩
theorem two_of {α : Type} {l : List α} (h : l.length = 2) : ∃ a b, l = [a, b] := by
  match l, h with
  | [a, b], _ => exact ⟨a, b, rfl⟩
theorem items_size (T : Tm) : T.items.length ≤ T.size := by
  induction T using Tm.induct with
  | h k n s l ih =>
    by_cases h : k = 9 ∧ l.length = 2
    · match l, h with
      | [a, b], h =>
        obtain ⟨rfl, _⟩ := h
        have := ih b (by simp)
        rw [items_cons, Tm.size_mk]
        simp only [List.length_cons, sizes]
        omega
    · rw [(items_no h).1]
      simp

theorem ret_intbool {a b : Int} {c d : Bool} (h : a = b) (h' : c = d) : Ending.returned (.tuple #[.int .i64 a, .bool c]) = .returned (.tuple #[.int .i64 b, .bool d]) := by rw [h, h']

set_option maxHeartbeats 2000000 in
theorem length_any (T : Tm) (hsz : T.size ≤ 1000000) (S : Nat → Prop) (v : Value) (w : World) (hv0 : Lies w S T v) :
    Calls Tryd.prog 50 #[v] w fun e w' => e = .returned (.tuple #[.int .i64 T.items.length, .bool (T.last == 8)]) ∧ Below w.heap.size w w' := by
  have hv := hv0.inside
  have hsz2 := items_size T
  obtain ⟨k, n, s, l⟩ := T
  obtain ⟨a, cap, rfl, hs, hl⟩ := hv.out
  clear hv0 hv
  generalize hS' : (fun b => S b ∧ b < w.heap.size) = S' at hl
  have hS : ∀ b, S' b → b < w.heap.size := fun b hb => by rw [← hS'] at hb; exact hb.2
  clear hS'
  go_enter Tryd.func50, Tryd.ntmps50
  go_wp2
  go_loopg [4] 1000000 (fun q nn wr => ∃ (k' n' : Int) (s' : ByteArray) (l' : List Tm) (a' : Option Addr) (cap' i : Nat), Hid ((Tm.mk k' n' s' l').size ≤ q) ∧ nn = .int .i64 i ∧ i ≤ 1000000 ∧ wr.heap[w.heap.size]? = some (.cells #[.int .i64 k', .int .i64 n', .string s', .slice a' l'.length cap'] 24) ∧
    Small k' n' s' ∧ Lst wr S' l' a' cap' ∧ Hid (i + (Tm.mk k' n' s' l').items.length = (Tm.mk k n s l).items.length) ∧ Hid ((Tm.mk k' n' s' l').last = (Tm.mk k n s l).last) ∧ Below w.heap.size w wr)
  case atStart =>
    have hb : Below w.heap.size w (w.alloc (.cells #[.int .i64 k, .int .i64 n, .string s, .slice a l.length cap] 24)) := (Below.refl _ _).alloc (Nat.le_refl _) _
    exact ⟨k, n, s, l, a, cap, 0, Hid.mk hsz, rfl, Nat.zero_le _, new_block _ _, hs, hl.below hb, Hid.mk (by simp), Hid.mk rfl, hb⟩
  case round =>
    obtain ⟨k', n', s', l', a', cap', i, hzq, rfl, hi, hbox, hs', hl', hit, hla, hb⟩ := hrel
    obtain ⟨⟨g0, g1, g2, g3⟩, f0, f1, f2, f3⟩ := kept4 hbox (Below.refl _ _)
    by_cases hc : k' = 9 ∧ l'.length = 2
    · obtain ⟨rfl, hc2⟩ := hc
      obtain ⟨x, y, rfl⟩ := two_of hc2
      obtain ⟨b, o, rfl, hSb, hrow⟩ := hl'.some (by simp)
      obtain ⟨k2, n2, s2, m2, a2, cap2, hT2, c0, c1, c2, c3, hli2⟩ := hrow.part 1 (by simp)
      have hT2' : y = .mk k2 n2 s2 m2 := hT2
      subst hT2'
      have c0' : wr.cell? ⟨b, o + 4, none⟩ = some (.int .i64 k2) := c0
      have c1' : wr.cell? ⟨b, o + 4 + 1, none⟩ = some (.int .i64 n2) := c1
      have c2' : wr.cell? ⟨b, o + 4 + 2, none⟩ = some (.string s2) := c2
      have c3' : wr.cell? ⟨b, o + 4 + 3, none⟩ = some (.slice a2 m2.length cap2) := c3
      have hitc := hit.out
      have hlac := hla.out
      rw [items_cons] at hitc
      rw [last_cons] at hlac
      rw [List.length_cons] at hitc
      have hzq' := hzq.out
      rw [Tm.size_mk] at hzq'
      simp only [sizes] at hzq'
      have hxp := x.size_pos
      have hyp := (Tm.mk k2 n2 s2 m2).size_pos
      have hh := Hid.mk hitc
      have hh2 := Hid.mk hlac
      have hh3 := Hid.mk hzq'
      have hh4 := Hid.mk hli2
      have hi2 : i + 1 ≤ 1000000 := by omega
      have hgk : 1 ≤ gk := by omega
      clear hitc hlac hT2 hli2 c0 c1 c2 c3 hzq' hit hla hzq hsz2 hc2
      go_wp2
      go_roundg (gk - 1)
      case rel =>
        have hsub : Below w.heap.size wr ((((wr.setCell ⟨w.heap.size, 0, none⟩ (.int .i64 k2)).setCell ⟨w.heap.size, 1, none⟩ (.int .i64 n2)).setCell ⟨w.heap.size, 2, none⟩ (.string s2)).setCell ⟨w.heap.size, 3, none⟩ (.slice a2 m2.length cap2)) :=
          Below.set4 (Below.refl _ _) (Nat.le_refl _)
        obtain ⟨a3, cap3, hv3, hs3', hl3'⟩ := (hh4.out.move (fun _ h => h) (fun b o v hb hc => by rw [hsub.cell (p := ⟨b, o, none⟩) (hS b hb)]; exact hc) _ _ : Lies _ S' (.mk k2 n2 s2 m2) _).out
        simp only [Value.agg.injEq, Array.mk.injEq, List.cons.injEq, Value.slice.injEq, true_and, and_true] at hv3
        obtain ⟨rfl, rfl⟩ := hv3
        have h1 := hh.out
        have h3 := hh3.out
        exact ⟨k2, n2, s2, m2, a2, cap2, i + 1, Hid.mk (by omega), by go_num, hi2, set4_block hbox, hs3', hl3', Hid.mk (by omega), hh2, hb.trans hsub⟩
      case measure => omega
    · have hno := items_no (n := n') (s := s') hc
      have hr1 : Hid (i = (Tm.mk k n s l).items.length) := Hid.mk (by rw [← hit.out, hno.1]; simp)
      have hr2 : Hid (k' = (Tm.mk k n s l).last) := Hid.mk (by rw [← hla.out, hno.2])
      clear hno hit hla hsz2
      by_cases hk : k' = 9
      · have hl2 : ¬ l'.length = 2 := fun h => hc ⟨hk, h⟩
        subst hk
        clear hc
        go_wp2
        go_region
        all_goals go_wp2
        all_goals go_ret2
        all_goals exact ⟨ret_intbool (by rw [hr1.out]) (by rw [← hr2.out]; rfl), hb.drew⟩
      · clear hc
        go_wp2
        go_region
        all_goals go_wp2
        all_goals go_ret2
        all_goals exact ⟨ret_intbool (by rw [hr1.out]) (by rw [hr2.out]), hb.drew⟩

/-- The first i elements are there, each in memory behind the row's. -/
def MixP (w : World) (nb : Nat) (l : List Tm) (i : Nat) : Prop :=
  ∀ j (_ : j < i) (hl : j < l.length), ∃ v0 v1 v2 v3, w.cell? ⟨nb, j * 4, none⟩ = some v0 ∧ w.cell? ⟨nb, j * 4 + 1, none⟩ = some v1 ∧ w.cell? ⟨nb, j * 4 + 2, none⟩ = some v2 ∧ w.cell? ⟨nb, j * 4 + 3, none⟩ = some v3 ∧
    Lies w (fun b => nb < b) l[j] (.agg #[v0, v1, v2, v3])

/-- Four cells written into a row. -/
def put4 (w : World) (b o : Nat) (v0 v1 v2 v3 : Value) : World := (((w.setCell ⟨b, o, none⟩ v0).setCell ⟨b, o + 1, none⟩ v1).setCell ⟨b, o + 2, none⟩ v2).setCell ⟨b, o + 3, none⟩ v3
theorem put4_heap (w : World) (b o : Nat) (v0 v1 v2 v3 : Value) (k : Nat) (hk : k ≠ b) : (put4 w b o v0 v1 v2 v3).heap[k]? = w.heap[k]? := by
  unfold put4
  rw [Below.heap_setCell _ _ _ _ hk, Below.heap_setCell _ _ _ _ hk, Below.heap_setCell _ _ _ _ hk, Below.heap_setCell _ _ _ _ hk]
theorem put4_size (w : World) (b o : Nat) (v0 v1 v2 v3 : Value) : (put4 w b o v0 v1 v2 v3).heap.size = w.heap.size := by
  unfold put4
  rw [size_setCell', size_setCell', size_setCell', size_setCell']
theorem Below.put4 {B : Nat} {a w : World} {b o : Nat} {v0 v1 v2 v3 : Value} (h : Below B a w) (hb : B ≤ b) : Below B a (put4 w b o v0 v1 v2 v3) :=
  (((h.setCell (p := ⟨b, o, none⟩) hb v0).setCell (p := ⟨b, o + 1, none⟩) hb v1).setCell (p := ⟨b, o + 2, none⟩) hb v2).setCell (p := ⟨b, o + 3, none⟩) hb v3
theorem put4_block {w : World} {b o : Nat} {v0 v1 v2 v3 : Value} {c : Array Value} {t : TypeId} (h : w.heap[b]? = some (.cells c t (0, 0))) :
    (put4 w b o v0 v1 v2 v3).heap[b]? = some (.cells ((((c.setIfInBounds o v0).setIfInBounds (o + 1) v1).setIfInBounds (o + 2) v2).setIfInBounds (o + 3) v3) t (0, 0)) := by
  simp [put4, World.setCell, Array.getElem?_modify, h]
theorem put4_cell {w : World} {b o : Nat} {v0 v1 v2 v3 : Value} {c : Array Value} {t : TypeId} (h : w.heap[b]? = some (.cells c t (0, 0))) (hs : o + 3 < c.size) :
    ((put4 w b o v0 v1 v2 v3).cell? ⟨b, o, none⟩ = some v0 ∧ (put4 w b o v0 v1 v2 v3).cell? ⟨b, o + 1, none⟩ = some v1 ∧ (put4 w b o v0 v1 v2 v3).cell? ⟨b, o + 2, none⟩ = some v2 ∧ (put4 w b o v0 v1 v2 v3).cell? ⟨b, o + 3, none⟩ = some v3) ∧
      ∀ j, (j < o ∨ o + 4 ≤ j) → (put4 w b o v0 v1 v2 v3).cell? ⟨b, j, none⟩ = w.cell? ⟨b, j, none⟩ := by
  have e : ∀ j, (put4 w b o v0 v1 v2 v3).cell? ⟨b, j, none⟩ = _ := fun j => cell_of_row _ b j _ t (0, 0) (put4_block (v0 := v0) (v1 := v1) (v2 := v2) (v3 := v3) h)
  have e0 : ∀ j, w.cell? ⟨b, j, none⟩ = c[j]? := fun j => cell_of_row w b j c t (0, 0) h
  refine ⟨⟨?_, ?_, ?_, ?_⟩, fun j hj => ?_⟩
  · rw [e]; simp only [Array.getElem?_setIfInBounds, Array.size_setIfInBounds]; simp; omega
  · rw [e]; simp only [Array.getElem?_setIfInBounds, Array.size_setIfInBounds]; simp; omega
  · rw [e]; simp only [Array.getElem?_setIfInBounds, Array.size_setIfInBounds]; simp; omega
  · rw [e]; simp only [Array.getElem?_setIfInBounds, Array.size_setIfInBounds]; simp; omega
  · rw [e, e0]
    simp only [Array.getElem?_setIfInBounds, Array.size_setIfInBounds]
    rw [if_neg (by omega), if_neg (by omega), if_neg (by omega), if_neg (by omega)]

end Go.Proofs.YtnpnbonodkpkdaaDoor
