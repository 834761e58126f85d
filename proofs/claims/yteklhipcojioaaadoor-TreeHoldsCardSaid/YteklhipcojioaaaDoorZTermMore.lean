/-
  Copies of terms, how long a list is, and its items.
-/
import Derived.Test.YteklhipcojioaaaDoorZTermClone
import Derived.Laws.EntriesVeiled
namespace Go.Proofs.YteklhipcojioaaaDoor
open Go.RowKit Go.Deep

/-- What lies, lies in blocks that there are. -/
theorem Lies.inside {w : World} {S : Nat → Prop} (T : Tm) : ∀ v, Lies w S T v → Lies w (fun b => S b ∧ b < w.heap.size) T v := by
  induction T using Tm.induct with
  | h k n s l ih =>
    intro v h
    obtain ⟨a, cap, rfl, h1, h2, h3, h4⟩ := h.out
    refine Lies.mk h1 ⟨h2, h3, ?_⟩
    rcases h4 with h4 | ⟨p, rfl, hs, hr⟩
    · exact Or.inl h4
    · refine Or.inr ⟨p, rfl, fun hn => ⟨⟨(hs hn).1, ?_⟩, (hs hn).2⟩, Row.of fun i hi => ?_⟩
      · obtain ⟨v0, v1, v2, v3, c0, _⟩ := hr.at 0 (List.length_pos_iff.2 hn)
        exact World.block_lt_of_cell? w ⟨p.block, p.off + 0 * 4, none⟩ c0
      · obtain ⟨v0, v1, v2, v3, c0, c1, c2, c3, hl⟩ := hr.at i hi
        exact ⟨v0, v1, v2, v3, c0, c1, c2, c3, ih _ (List.getElem_mem hi) _ hl⟩

/-- A term has been made, all its rows new. -/
def MadeC (w : World) (T : Tm) (e : Ending) (w' : World) : Prop := ∃ v, e = .returned v ∧ Lies w' (fun b => w.heap.size ≤ b) T v
/-- .. each part in memory of its own. -/
def MadeO (w : World) (T : Tm) (e : Ending) (w' : World) : Prop := ∃ v, e = .returned v ∧ Own w' T w.heap.size w'.heap.size v

theorem Done.below {w w' : World} {pb po B : Nat} {T : Tm} (h : Done w pb po T w') (hB : B ≤ pb) (hw : B ≤ w.heap.size) : Below B w w' := ⟨h.os, h.tape, h.output, h.size, fun k hk => h.other k (by omega) (by omega)⟩

set_option maxHeartbeats 1000000 in
theorem copyO_any (T : Tm) (hsz : T.size ≤ 1000000) (hsh : T.Short) (S : Nat → Prop) (v : Value) (w : World) (hv0 : Lies w S T v) :
    Calls Tryd.prog 54 #[v] w fun e w' => MadeO w T e w' ∧ Below w.heap.size w w' := by
  have hv := hv0.inside
  have hd := Hid.mk (fun (c : Array Value) (v0 v1 v2 v3 : Value) => detach_any T.size T (Nat.le_refl _) hsz hsh (fun b => S b ∧ b < w.heap.size) w.heap.size (w.heap.size + 2) w.heap.size 0 c 32 v0 v1 v2 v3)
  obtain ⟨k, n, s, l⟩ := T
  obtain ⟨a, cap, rfl, hs, hl⟩ := hv.out
  obtain ⟨W3, hW3⟩ : ∃ W3, ((w.alloc (.cells #[.int .i64 k, .int .i64 n, .string s, .slice a l.length cap] 32)).alloc (.cells #[.int .i64 0, .int .i64 0, .string ⟨#[]⟩, .slice none 0 0] 32)).alloc
      (.cells #[.func (.func 71) #[] #[.pointer (some ⟨w.heap.size + 1 + 1, 0, none⟩)]] 92) = W3 := ⟨_, rfl⟩
  have hz3 : W3.heap.size = w.heap.size + 3 := by rw [← hW3]; simp
  have hb3 : Below w.heap.size w W3 := by rw [← hW3]; exact (((Below.refl _ w).alloc (Nat.le_refl _) _).alloc (by simp) _).alloc (by simp; omega) _
  have hp3 : W3.heap[w.heap.size]? = some (.cells #[.int .i64 k, .int .i64 n, .string s, .slice a l.length cap] 32) := by rw [← hW3]; exact old_block (new_block1 _ _ _) _
  have hr3 : W3.heap[w.heap.size + 1]? = some (.cells #[.int .i64 0, .int .i64 0, .string ⟨#[]⟩, .slice none 0 0] 32) := by rw [← hW3]; exact old_block (new_block2 _ _ _) _
  have hf3 : W3.cell? ⟨w.heap.size + 2, 0, none⟩ = some (.func (.func 71) #[] #[.pointer (some ⟨w.heap.size + 2, 0, none⟩)]) := by
    have := new_block3 w (.cells #[.int .i64 k, .int .i64 n, .string s, .slice a l.length cap] 32) (.cells #[.int .i64 0, .int .i64 0, .string ⟨#[]⟩, .slice none 0 0] 32)
      (.cells #[.func (.func 71) #[] #[.pointer (some ⟨w.heap.size + 1 + 1, 0, none⟩)]] 92)
    rw [hW3] at this
    simp [World.cell?, this]
  have key := Hid.mk (hd.out #[.int .i64 k, .int .i64 n, .string s, .slice a l.length cap] _ _ _ _ W3 (fun b h => h.2) (Nat.le_refl _) (by omega) (by omega) (by omega) hf3 hp3 ⟨rfl, rfl, rfl, rfl⟩ (hv.below hb3))
  have hf3' : W3.cell? ⟨w.heap.size + 1 + 1, 0, none⟩ = some (.func (.func 71) #[] #[.pointer (some ⟨w.heap.size + 1 + 1, 0, none⟩)]) := hf3
  clear hv hl hv0 hd hf3
  go_enter Tryd.func54, Tryd.ntmps54
  go_wp2_with (go_at_call 71; refine key.out.mono ?_; rintro e w4 ⟨⟨v, rfl⟩, hdn⟩; obtain ⟨v0, v1, v2, v3, g0, g1, g2, g3, hL⟩ := hdn.term; have e4 := (hdn.other (w.heap.size + 1) (by omega) (by omega)).trans hr3; obtain ⟨⟨q0, q1, q2, q3⟩, f0, f1, f2, f3⟩ := kept4 e4 (Below.refl _ _); obtain ⟨k4, n4, s4, a4, m4, p4, hvv⟩ : ∃ k4 n4 s4 a4 m4 p4, Value.agg #[v0, v1, v2, v3] = .agg #[.int .i64 k4, .int .i64 n4, .string s4, .slice a4 m4 p4] := (by obtain ⟨a4, p4, h4, _⟩ := (Own.lies _ _ _ _ hL).out; exact ⟨_, _, _, _, _, _, h4⟩); simp only [Value.agg.injEq, Array.mk.injEq, List.cons.injEq, and_true] at hvv; obtain ⟨rfl, rfl, rfl, rfl⟩ := hvv)
  have hb4 : Below w.heap.size w w4 := hb3.trans (hdn.below (Nat.le_refl _) (by omega))
  refine ret_stored rfl rfl rfl q0 q1 q2 q3 ⟨⟨_, rfl, ?_⟩, Below.set4 hb4 (Nat.le_succ _)⟩
  have hs4 := hdn.size
  refine Own.move _ W3.heap.size w4.heap.size _ _ _ (by omega) (Nat.le_of_eq (by simp [World.setCell])) (fun b hb hb2 => set4_heap _ _ _ _ _ _ _ (by show b ≠ w.heap.size + 1; omega)) hL
theorem copyC_any (T : Tm) (hsz : T.size ≤ 1000000) (hsh : T.Short) (S : Nat → Prop) (v : Value) (w : World) (hv0 : Lies w S T v) :
    Calls Tryd.prog 54 #[v] w fun e w' => MadeC w T e w' ∧ Below w.heap.size w w' :=
  (copyO_any T hsz hsh S v w hv0).mono fun _ _ ⟨⟨v, h1, h2⟩, h3⟩ => ⟨⟨v, h1, (Own.lies _ _ _ _ h2).wider fun _ hb => hb.1⟩, h3⟩

end Go.Proofs.YteklhipcojioaaaDoor

/-
  How long a list is, and its items: the program's, and the document's.
-/
namespace Go.Proofs.YteklhipcojioaaaDoor
open Go.RowKit Go.Deep

/-- The items of a list, and the kind of its end. -/
def Tm.items : Tm → List Tm
  | .mk k _ _ [h, t] => if k = 9 then h :: t.items else []
  | _ => []
def Tm.last : Tm → Int
  | .mk k _ _ [_, t] => if k = 9 then t.last else k
  | .mk k _ _ _ => k
theorem items_cons (n : Int) (s : ByteArray) (h t : Tm) : (Tm.mk 9 n s [h, t]).items = h :: t.items := by rw [Tm.items, if_pos rfl]
theorem last_cons (n : Int) (s : ByteArray) (h t : Tm) : (Tm.mk 9 n s [h, t]).last = t.last := by rw [Tm.last, if_pos rfl]
theorem items_no {k n : Int} {s : ByteArray} {l : List Tm} (h : ¬ (k = 9 ∧ l.length = 2)) : (Tm.mk k n s l).items = [] ∧ (Tm.mk k n s l).last = k := by
  match l with
  | [] => exact ⟨rfl, rfl⟩
  | [_] => exact ⟨rfl, rfl⟩
  | [a, b] =>
    have hk : ¬ k = 9 := fun e => h ⟨e, rfl⟩
    rw [Tm.items, Tm.last, if_neg hk, if_neg hk]
    exact ⟨rfl, rfl⟩
  | _ :: _ :: _ :: _ => exact ⟨rfl, rfl⟩
theorem two_of {α : Type} {l : List α} (h : l.length = 2) : ∃ a b, l = [a, b] := by
  match l, h with
  | [a, b], _ => exact ⟨a, b, rfl⟩
theorem items_size (T : Tm) : T.items.length ≤ T.size := by
  induction T using Tm.induct with
  | h k n s l ih =>
    by_cases h : k = 9 ∧ l.length = 2
    · match l, h with
      | [a, b], h =>
        obtain ⟨rfl, _⟩ := h
        have := ih b (by simp)
        rw [items_cons, Tm.size_mk]
        simp only [List.length_cons, sizes]
        omega
    · rw [(items_no h).1]
      simp

theorem ret_intbool {a b : Int} {c d : Bool} (h : a = b) (h' : c = d) : Ending.returned (.tuple #[.int .i64 a, .bool c]) = .returned (.tuple #[.int .i64 b, .bool d]) := by rw [h, h']

/-- The first i elements are there, each in memory behind the row's. -/
def MixP (w : World) (nb : Nat) (l : List Tm) (i : Nat) : Prop :=
  ∀ j (_ : j < i) (hl : j < l.length), ∃ v0 v1 v2 v3, w.cell? ⟨nb, j * 4, none⟩ = some v0 ∧ w.cell? ⟨nb, j * 4 + 1, none⟩ = some v1 ∧ w.cell? ⟨nb, j * 4 + 2, none⟩ = some v2 ∧ w.cell? ⟨nb, j * 4 + 3, none⟩ = some v3 ∧
    Lies w (fun b => nb < b) l[j] (.agg #[v0, v1, v2, v3])

/-- Four cells written into a row. -/
def put4 (w : World) (b o : Nat) (v0 v1 v2 v3 : Value) : World := (((w.setCell ⟨b, o, none⟩ v0).setCell ⟨b, o + 1, none⟩ v1).setCell ⟨b, o + 2, none⟩ v2).setCell ⟨b, o + 3, none⟩ v3
theorem put4_heap (w : World) (b o : Nat) (v0 v1 v2 v3 : Value) (k : Nat) (hk : k ≠ b) : (put4 w b o v0 v1 v2 v3).heap[k]? = w.heap[k]? := by
  unfold put4
  rw [Below.heap_setCell _ _ _ _ hk, Below.heap_setCell _ _ _ _ hk, Below.heap_setCell _ _ _ _ hk, Below.heap_setCell _ _ _ _ hk]
theorem put4_size (w : World) (b o : Nat) (v0 v1 v2 v3 : Value) : (put4 w b o v0 v1 v2 v3).heap.size = w.heap.size := by
  unfold put4
  rw [size_setCell', size_setCell', size_setCell', size_setCell']
theorem Below.put4 {B : Nat} {a w : World} {b o : Nat} {v0 v1 v2 v3 : Value} (h : Below B a w) (hb : B ≤ b) : Below B a (put4 w b o v0 v1 v2 v3) :=
  (((h.setCell (p := ⟨b, o, none⟩) hb v0).setCell (p := ⟨b, o + 1, none⟩) hb v1).setCell (p := ⟨b, o + 2, none⟩) hb v2).setCell (p := ⟨b, o + 3, none⟩) hb v3
theorem put4_block {w : World} {b o : Nat} {v0 v1 v2 v3 : Value} {c : Array Value} {t : TypeId} (h : w.heap[b]? = some (.cells c t (0, 0))) :
    (put4 w b o v0 v1 v2 v3).heap[b]? = some (.cells ((((c.setIfInBounds o v0).setIfInBounds (o + 1) v1).setIfInBounds (o + 2) v2).setIfInBounds (o + 3) v3) t (0, 0)) := by
  simp [put4, World.setCell, Array.getElem?_modify, h]
theorem put4_cell {w : World} {b o : Nat} {v0 v1 v2 v3 : Value} {c : Array Value} {t : TypeId} (h : w.heap[b]? = some (.cells c t (0, 0))) (hs : o + 3 < c.size) :
    ((put4 w b o v0 v1 v2 v3).cell? ⟨b, o, none⟩ = some v0 ∧ (put4 w b o v0 v1 v2 v3).cell? ⟨b, o + 1, none⟩ = some v1 ∧ (put4 w b o v0 v1 v2 v3).cell? ⟨b, o + 2, none⟩ = some v2 ∧ (put4 w b o v0 v1 v2 v3).cell? ⟨b, o + 3, none⟩ = some v3) ∧
      ∀ j, (j < o ∨ o + 4 ≤ j) → (put4 w b o v0 v1 v2 v3).cell? ⟨b, j, none⟩ = w.cell? ⟨b, j, none⟩ := by
  have e : ∀ j, (put4 w b o v0 v1 v2 v3).cell? ⟨b, j, none⟩ = _ := fun j => cell_of_row _ b j _ t (0, 0) (put4_block (v0 := v0) (v1 := v1) (v2 := v2) (v3 := v3) h)
  have e0 : ∀ j, w.cell? ⟨b, j, none⟩ = c[j]? := fun j => cell_of_row w b j c t (0, 0) h
  refine ⟨⟨?_, ?_, ?_, ?_⟩, fun j hj => ?_⟩
  · rw [e]; simp only [Array.getElem?_setIfInBounds, Array.size_setIfInBounds]; simp; omega
  · rw [e]; simp only [Array.getElem?_setIfInBounds, Array.size_setIfInBounds]; simp; omega
  · rw [e]; simp only [Array.getElem?_setIfInBounds, Array.size_setIfInBounds]; simp; omega
  · rw [e]; simp only [Array.getElem?_setIfInBounds, Array.size_setIfInBounds]; simp; omega
  · rw [e, e0]
    simp only [Array.getElem?_setIfInBounds, Array.size_setIfInBounds]
    rw [if_neg (by omega), if_neg (by omega), if_neg (by omega), if_neg (by omega)]

end Go.Proofs.YteklhipcojioaaaDoor

/-
  The items of a list, each a copy.
-/
namespace Go.Proofs.YteklhipcojioaaaDoor
open Go.RowKit Go.Deep

theorem MixP.put {w w5 : World} {nb i : Nat} {l : List Tm} {c : Array Value} {t : TypeId} {v0 v1 v2 v3 : Value} (h : MixP w nb l i) (hi : i < l.length) (hb : Below w.heap.size w w5) (hc : w5.heap[nb]? = some (.cells c t (0, 0))) (hs : c.size = l.length * 4) (hnb : nb < w.heap.size)
    (hv : Lies w5 (fun b => w.heap.size ≤ b) l[i] (.agg #[v0, v1, v2, v3])) : MixP (put4 w5 nb (i * 4) v0 v1 v2 v3) nb l (i + 1) := by
  obtain ⟨⟨e0, e1, e2, e3⟩, eo⟩ := put4_cell (o := i * 4) (v0 := v0) (v1 := v1) (v2 := v2) (v3 := v3) hc (by omega)
  have far : ∀ (b o : Nat) (v : Value), nb < b → w5.cell? ⟨b, o, none⟩ = some v → (put4 w5 nb (i * 4) v0 v1 v2 v3).cell? ⟨b, o, none⟩ = some v := fun b o v hb hc => by
    rw [World.cell?_of_block (w := w5) (a := ⟨b, o, none⟩) (put4_heap _ _ _ _ _ _ _ _ (by show b ≠ nb; omega))]
    exact hc
  intro j hj hl
  by_cases hij : j = i
  · subst hij
    exact ⟨v0, v1, v2, v3, e0, e1, e2, e3, hv.move (fun b hb => by omega) (fun b o v hb hc => far b o v (by omega) hc) _ _⟩
  · obtain ⟨u0, u1, u2, u3, d0, d1, d2, d3, hL⟩ := h j (by omega) hl
    exact ⟨u0, u1, u2, u3, (eo _ (by omega)).trans (cell_below hb _ _ _ d0), (eo _ (by omega)).trans (cell_below hb _ _ _ d1), (eo _ (by omega)).trans (cell_below hb _ _ _ d2), (eo _ (by omega)).trans (cell_below hb _ _ _ d3),
      (hL.below hb).move (fun b hb => hb) (fun b o v hb hc => far b o v hb hc) _ _⟩

theorem MixP.same {w w' : World} {nb i : Nat} {l : List Tm} (h : MixP w nb l i) (hk : ∀ k, nb ≤ k → w'.heap[k]? = w.heap[k]?) : MixP w' nb l i := by
  have cm : ∀ (b o : Nat), nb ≤ b → w'.cell? ⟨b, o, none⟩ = w.cell? ⟨b, o, none⟩ := fun b o hb => World.cell?_of_block (w := w) (a := ⟨b, o, none⟩) (hk b hb)
  intro j hj hl
  obtain ⟨u0, u1, u2, u3, d0, d1, d2, d3, hL⟩ := h j hj hl
  exact ⟨u0, u1, u2, u3, (cm _ _ (Nat.le_refl _)).trans d0, (cm _ _ (Nat.le_refl _)).trans d1, (cm _ _ (Nat.le_refl _)).trans d2, (cm _ _ (Nat.le_refl _)).trans d3, hL.move (fun b hb => hb) (fun b o v hb hc => (cm b o (by omega)).trans hc) _ _⟩
theorem MixP.lst {w : World} {nb : Nat} {l : List Tm} {S : Nat → Prop} (h : MixP w nb l l.length) (hS : ∀ b, nb ≤ b → S b) (hl : l.length ≤ 9223372036854775807) : Lst w S l (some ⟨nb, 0, none⟩) l.length :=
  ⟨Nat.le_refl _, hl, Or.inr ⟨_, rfl, fun _ => ⟨hS _ (Nat.le_refl _), rfl⟩, Row.of fun i hi => by
    obtain ⟨u0, u1, u2, u3, d0, d1, d2, d3, hL⟩ := h i hi hi
    show ∃ v0 v1 v2 v3, w.cell? ⟨nb, 0 + i * 4, none⟩ = some v0 ∧ w.cell? ⟨nb, 0 + i * 4 + 1, none⟩ = some v1 ∧ w.cell? ⟨nb, 0 + i * 4 + 2, none⟩ = some v2 ∧ w.cell? ⟨nb, 0 + i * 4 + 3, none⟩ = some v3 ∧ _
    rw [Nat.zero_add]
    exact ⟨u0, u1, u2, u3, d0, d1, d2, d3, hL.wider (fun b hb => hS b (by omega))⟩⟩⟩

/-- A slice of terms and a bool have been returned. -/
def MadeI (S' : Nat → Prop) (T : Tm) (e : Ending) (w' : World) : Prop :=
  ∃ (l : List Tm) (a : Option Addr) (cap : Nat), e = .returned (.tuple #[.slice a l.length cap, .bool (T.last == 8)]) ∧ Lst w' S' l a cap ∧ l = (if T.last = 8 then T.items else [])

theorem lst_nil (w : World) (S : Nat → Prop) : Lst w S [] none 0 := ⟨Nat.le_refl _, by simp, Or.inl ⟨rfl, rfl, rfl⟩⟩

end Go.Proofs.YteklhipcojioaaaDoor

/-
  Lists made of pairs, and tuples made of a list.
-/
namespace Go.Proofs.YteklhipcojioaaaDoor
open Go.RowKit Go.Deep

/-- A list of these, with this end. -/
def conses (l : List Tm) (T : Tm) : Tm := l.foldr (fun h t => .mk 9 0 ⟨#[]⟩ [h, t]) T

/-- A term has been returned: its new blocks, or those of S. -/
def Made (S : Nat → Prop) (w : World) (T : Tm) (e : Ending) (w' : World) : Prop := ∃ v, e = .returned v ∧ Lies w' (fun b => S b ∨ w.heap.size ≤ b) T v

theorem Lst.inside {w : World} {S : Nat → Prop} {l : List Tm} {a : Option Addr} {cap : Nat} (h : Lst w S l a cap) : Lst w (fun b => S b ∧ b < w.heap.size) l a cap := by
  have := (Lies.mk (k := 0) (n := 0) (s := ⟨#[]⟩) ⟨by omega, by omega, by omega, by omega, (Nat.zero_le _ : 0 ≤ 9223372036854775807)⟩ h).inside
  obtain ⟨a', cap', h1, _, h2⟩ := this.out
  simp only [Value.agg.injEq, Array.mk.injEq, List.cons.injEq, Value.slice.injEq, true_and, and_true] at h1
  obtain ⟨rfl, rfl⟩ := h1
  exact h2

theorem cons_lies {w : World} {S : Nat → Prop} {t r : Tm} {nb : Nat} {h0 h1 h2 h3 t0 t1 t2 t3 : Value} {ty : TypeId} (hc : w.heap[nb]? = some (.cells #[h0, h1, h2, h3, t0, t1, t2, t3] ty (0, 0))) (hnb : S nb)
    (ht : Lies w S t (.agg #[h0, h1, h2, h3])) (hr : Lies w S r (.agg #[t0, t1, t2, t3])) :
    Lies w S (.mk 9 0 ⟨#[]⟩ [t, r]) (.agg #[.int .i64 9, .int .i64 0, .string ⟨#[]⟩, .slice (some ⟨nb, 0, none⟩) 2 2]) := by
  refine Lies.mk (l := [t, r]) ⟨by omega, by omega, by omega, by omega, (Nat.zero_le _ : 0 ≤ 9223372036854775807)⟩ ⟨Nat.le_refl _, by omega, Or.inr ⟨_, rfl, fun _ => ⟨hnb, rfl⟩, ?_⟩⟩
  have hcell : ∀ j, w.cell? ⟨nb, j, none⟩ = #[h0, h1, h2, h3, t0, t1, t2, t3][j]? := fun j => cell_of_row w nb j _ ty (0, 0) hc
  rw [Row, Row, Row]
  exact ⟨⟨h0, h1, h2, h3, hcell 0, hcell 1, hcell 2, hcell 3, ht⟩, ⟨t0, t1, t2, t3, hcell 4, hcell 5, hcell 6, hcell 7, hr⟩, trivial⟩

theorem cons_step {w wr : World} {S : Nat → Prop} {x : Nat} {t r : Tm} {h0 h1 h2 h3 t0 t1 t2 t3 u0 u1 u2 u3 : Value} {ty : TypeId} (hS : ∀ b, S b → b < w.heap.size) (hx : w.heap.size ≤ x) (hbox : wr.heap[x]? = some (.cells #[u0, u1, u2, u3] ty))
    (ht : Lies wr S t (.agg #[h0, h1, h2, h3])) (hr : Lies wr (fun b => S b ∨ x < b) r (.agg #[t0, t1, t2, t3])) (hb : Below w.heap.size w wr) :
    let W := ((((((wr.setCell ⟨x, 0, none⟩ (.int .i64 9)).setCell ⟨x, 1, none⟩ (.int .i64 0)).setCell ⟨x, 2, none⟩ (.string ⟨#[]⟩)).setCell ⟨x, 3, none⟩ (.slice (some ⟨wr.heap.size, 0, none⟩) 2 2)).alloc (.cells #[h0, h1, h2, h3, t0, t1, t2, t3] 32))).drew
    W.heap[x]? = some (.cells #[.int .i64 9, .int .i64 0, .string ⟨#[]⟩, .slice (some ⟨wr.heap.size, 0, none⟩) 2 2] ty) ∧ (∀ k, k < wr.heap.size → k ≠ x → W.heap[k]? = wr.heap[k]?) ∧
      Lies W (fun b => S b ∨ x < b) (.mk 9 0 ⟨#[]⟩ [t, r]) (.agg #[.int .i64 9, .int .i64 0, .string ⟨#[]⟩, .slice (some ⟨wr.heap.size, 0, none⟩) 2 2]) ∧ Below w.heap.size w W := by
  intro W
  have hxr : x < wr.heap.size := (Array.getElem?_eq_some_iff.1 hbox).1
  obtain ⟨w4, hw4⟩ : ∃ w4, (((wr.setCell ⟨x, 0, none⟩ (.int .i64 9)).setCell ⟨x, 1, none⟩ (.int .i64 0)).setCell ⟨x, 2, none⟩ (.string ⟨#[]⟩)).setCell ⟨x, 3, none⟩ (.slice (some ⟨wr.heap.size, 0, none⟩) 2 2) = w4 := ⟨_, rfl⟩
  have hz4 : w4.heap.size = wr.heap.size := by rw [← hw4]; exact set4_size _ _ _ _ _ _
  have hx4 : w4.heap[x]? = some (.cells #[.int .i64 9, .int .i64 0, .string ⟨#[]⟩, .slice (some ⟨wr.heap.size, 0, none⟩) 2 2] ty) := by rw [← hw4]; exact set4_block hbox
  have ho4 : ∀ k, k ≠ x → w4.heap[k]? = wr.heap[k]? := fun k hk => by rw [← hw4]; exact set4_heap _ _ _ _ _ _ _ hk
  have hb4 : Below w.heap.size w w4 := by rw [← hw4]; exact Below.set4 hb hx
  have hW : W = (w4.alloc (.cells #[h0, h1, h2, h3, t0, t1, t2, t3] 32)).drew := by rw [← hw4]
  clear_value W
  subst hW
  have hnew : (w4.alloc (.cells #[h0, h1, h2, h3, t0, t1, t2, t3] 32)).drew.heap[wr.heap.size]? = some (.cells #[h0, h1, h2, h3, t0, t1, t2, t3] 32) := by rw [← hz4]; exact new_block _ _
  have hoth : ∀ k, k < wr.heap.size → k ≠ x → (w4.alloc (.cells #[h0, h1, h2, h3, t0, t1, t2, t3] 32)).drew.heap[k]? = wr.heap[k]? := fun k hk hn => (Below.heap_alloc _ _ _ (by omega)).trans (ho4 k hn)
  have hcell : ∀ (b o : Nat) (v : Value), b ≠ x → wr.cell? ⟨b, o, none⟩ = some v → (w4.alloc (.cells #[h0, h1, h2, h3, t0, t1, t2, t3] 32)).drew.cell? ⟨b, o, none⟩ = some v := fun b o v hn hc => by
    rw [World.cell?_of_block (w := wr) (a := ⟨b, o, none⟩) (hoth b (World.block_lt_of_cell? wr ⟨b, o, none⟩ hc) hn)]
    exact hc
  refine ⟨old_block hx4 _, hoth, cons_lies hnew (Or.inr hxr) ?_ ?_, (hb4.alloc (by have := hb.size; omega) _).drew⟩
  · exact ht.move (fun b hb => Or.inl hb) (fun b o v hb hc => hcell b o v (by have := hS b hb; omega) hc) _ _
  · exact hr.move (fun b hb => hb) (fun b o v hb hc => hcell b o v (by rcases hb with h | h <;> first | (have g := hS b h; omega) | omega) hc) _ _

theorem owns_lst {w w6 : World} {S : Nat → Prop} {l : List Tm} {xs : List Value} {sv : Value} {base : Nat} (hown : w6.ownsRow base 32 4 sv l.length xs)
    (hl : ∀ i (hi : i < l.length), ∃ v0 v1 v2 v3, xs[i * 4]? = some v0 ∧ xs[i * 4 + 1]? = some v1 ∧ xs[i * 4 + 2]? = some v2 ∧ xs[i * 4 + 3]? = some v3 ∧ Lies w S l[i] (.agg #[v0, v1, v2, v3]))
    (hw : ∀ b o v, S b → w.cell? ⟨b, o, none⟩ = some v → w6.cell? ⟨b, o, none⟩ = some v) : ∃ a cap, sv = .slice a l.length cap ∧ Lst w6 (fun b => S b ∨ base ≤ b) l a cap := by
  obtain ⟨hx, ⟨rfl, hn⟩ | ⟨g, cap, cur, rfl, hbg, hg, hc, hm, hcs, htk⟩⟩ := hown
  · have : l = [] := List.eq_nil_of_length_eq_zero hn
    subst this
    exact ⟨none, 0, rfl, lst_nil _ _⟩
  · refine ⟨_, cap, rfl, hc, hm, Or.inr ⟨_, rfl, fun _ => ⟨Or.inr hbg, rfl⟩, Row.of fun i hi => ?_⟩⟩
    obtain ⟨v0, v1, v2, v3, e0, e1, e2, e3, hL⟩ := hl i hi
    have hcell : ∀ j u, xs[j]? = some u → w6.cell? ⟨g, 0 + j, none⟩ = some u := by
      intro j u hu
      rw [Nat.zero_add]
      rw [← htk, List.getElem?_take] at hu
      split at hu
      · rw [cell_of_row w6 g j cur 32 (0, 0) hg]
        simpa using hu
      · cases hu
    exact ⟨v0, v1, v2, v3, hcell _ _ e0, hcell _ _ e1, hcell _ _ e2, hcell _ _ e3, hL.move (fun b hb => Or.inl hb) hw _ _⟩

theorem tup_small : Small 7 0 ⟨#[]⟩ := ⟨by omega, by omega, by omega, by omega, (Nat.zero_le _ : 0 ≤ 9223372036854775807)⟩

end Go.Proofs.YteklhipcojioaaaDoor

/-
  The chapter's examples, as every statement of the layer calls them.
-/
namespace Go.Proofs.YteklhipcojioaaaDoor
open Go.RowKit Go.Deep

def Tm.num (n : Int) : Tm := .mk 1 n ⟨#[]⟩ []
def Tm.sym (s : ByteArray) : Tm := .mk 2 0 s []
def Tm.nil : Tm := .mk 8 0 ⟨#[]⟩ []
def Tm.tup (l : List Tm) : Tm := .mk 7 0 ⟨#[]⟩ l
def Tm.two : Tm := conses [.num 1, .num 2] .nil

/-- All lies somewhere. -/
abbrev Is (w : World) (T : Tm) (v : Value) : Prop := Lies w (fun _ => True) T v
abbrev IsL (w : World) (l : List Tm) (a : Option Addr) (cap : Nat) : Prop := Lst w (fun _ => True) l a cap
theorem Lies.is {w : World} {S : Nat → Prop} {T : Tm} {v : Value} (h : Lies w S T v) : Is w T v := h.wider (fun _ _ => trivial)
theorem Lst.is {w : World} {S : Nat → Prop} {l : List Tm} {a : Option Addr} {cap : Nat} (h : Lst w S l a cap) : IsL w l a cap := h.wider (fun _ _ => trivial)

theorem small_of {k n : Int} {s : ByteArray} (h0 : 0 ≤ k) (h1 : k ≤ 9) (h2 : -9223372036854775808 ≤ n) (h3 : n ≤ 9223372036854775807) (h4 : s.size ≤ 281474976710656) : Small k n s := ⟨by omega, by omega, h2, h3, by omega⟩
theorem size_empty : (⟨#[]⟩ : ByteArray).size ≤ 281474976710656 := Nat.zero_le _
theorem num_is (w : World) (S : Nat → Prop) (n : Int) (h2 : -9223372036854775808 ≤ n) (h3 : n ≤ 9223372036854775807) : Lies w S (.num n) (.agg #[.int .i64 1, .int .i64 n, .string ⟨#[]⟩, .slice none 0 0]) := Lies.mk (l := []) (small_of (by omega) (by omega) h2 h3 size_empty) (lst_nil _ _)
theorem sym_is (w : World) (S : Nat → Prop) (s : ByteArray) (h : s.size ≤ 281474976710656) : Lies w S (.sym s) (.agg #[.int .i64 2, .int .i64 0, .string s, .slice none 0 0]) := Lies.mk (l := []) (small_of (by omega) (by omega) (by omega) (by omega) h) (lst_nil _ _)
theorem nil_is (w : World) (S : Nat → Prop) : Lies w S .nil (.agg #[.int .i64 8, .int .i64 0, .string ⟨#[]⟩, .slice none 0 0]) := Lies.mk (l := []) (small_of (by omega) (by omega) (by omega) (by omega) size_empty) (lst_nil _ _)
theorem lst2 {w : World} {S : Nat → Prop} {t r : Tm} {nb : Nat} {h0 h1 h2 h3 t0 t1 t2 t3 : Value} {ty : TypeId} (hc : w.heap[nb]? = some (.cells #[h0, h1, h2, h3, t0, t1, t2, t3] ty (0, 0))) (hnb : S nb)
    (ht : Lies w S t (.agg #[h0, h1, h2, h3])) (hr : Lies w S r (.agg #[t0, t1, t2, t3])) : Lst w S [t, r] (some ⟨nb, 0, none⟩) 2 := by
  obtain ⟨a, cap, h1, _, h2⟩ := (cons_lies hc hnb ht hr).out
  simp only [Value.agg.injEq, Array.mk.injEq, List.cons.injEq, Value.slice.injEq, true_and, and_true] at h1
  obtain ⟨rfl, _, rfl⟩ := h1
  exact h2

theorem two_size : Tm.two.size ≤ 1000000 := by simp [Tm.two, conses, Tm.num, Tm.nil, Tm.size_mk, sizes]
theorem empty_200 : (⟨#[]⟩ : ByteArray).size ≤ 200 := Nat.zero_le _
theorem two_short : Tm.two.Short := by simp [Tm.two, conses, Tm.num, Tm.nil, Tm.short_mk, Shorts, empty_200]
theorem two_items : Tm.two.items = [.num 1, .num 2] := rfl
theorem two_last : Tm.two.last = 8 := rfl
theorem two_words : Tm.two.words = 5 := by rw [words_pre]; simp [Tm.two, conses, Tm.num, Tm.nil, wordsR_mk, wordsRs, ownW, hasL]
theorem num_words (n : Int) : (Tm.num n).words = 1 := by rw [words_pre]; simp [Tm.num, wordsR_mk, ownW, hasL]
theorem tup_words (s : ByteArray) (n : Int) : (Tm.tup [.sym s, .num n]).words = 4 := by rw [words_pre]; simp [Tm.tup, Tm.sym, Tm.num, wordsR_mk, wordsRs, ownW, hasL]

theorem checkI_any (T : Tm) (hsz : T.size ≤ 1000000) (S : Nat → Prop) (v : Value) (w : World) (hv : Lies w S T v) (ht : ShapeTab w) :
    Calls Tryd.prog 51 #[v] w fun e w' => e = .returned (.int .i64 T.check) ∧ Below w.heap.size w w' :=
  check_any T hsz _ v w hv.inside (fun _ h => h.2) ht

theorem Lies.agg {w : World} {S : Nat → Prop} {T : Tm} {v : Value} (h : Lies w S T v) : ∃ k n s a m cap, v = .agg #[.int .i64 k, .int .i64 n, .string s, .slice a m cap] := by
  cases T
  obtain ⟨a4, p4, h4, _⟩ := h.out
  exact ⟨_, _, _, _, _, _, h4⟩

theorem sameTwo_any (a a' : Option Addr) (cap cap' : Nat) (w : World) (hl : IsL w [.num 1, .num 2] a cap) (hl' : IsL w [.num 1, .num 2] a' cap') :
    Calls Tryd.prog 16 #[.slice a 2 cap, .slice a' 2 cap'] w fun e w' => e = .returned (.bool true) ∧ Below w.heap.size w w' := by
  have h := sameAll_any [.num 1, .num 2] [.num 1, .num 2] _ _ a a' cap cap' w hl hl'
  rwa [eqL_refl] at h

end Go.Proofs.YteklhipcojioaaaDoor
