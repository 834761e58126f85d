/-
  Lists made of pairs, and tuples made of a list.
-/
import Derived.Test.YtamafhcgjbkikaaDoorTermPlain
import Derived.Test.YtamafhcgjbkikaaDoorTermItems2
namespace Go.Proofs.YtamafhcgjbkikaaDoor
open Go.RowKit Go.Deep

/-- A list of these, with this end. -/
def conses (l : List Tm) (T : Tm) : Tm := l.foldr (fun h t => .mk 9 0 ⟨#[]⟩ [h, t]) T

/-- A term has been returned: its new blocks, or those of S. -/
def Made (S : Nat → Prop) (w : World) (T : Tm) (e : Ending) (w' : World) : Prop := ∃ v, e = .returned v ∧ Lies w' (fun b => S b ∨ w.heap.size ≤ b) T v

theorem Lst.inside {w : World} {S : Nat → Prop} {l : List Tm} {a : Option Addr} {cap : Nat} (h : Lst w S l a cap) : Lst w (fun b => S b ∧ b < w.heap.size) l a cap := by
  have := (Lies.mk (k := 0) (n := 0) (s := ⟨#[]⟩) ⟨by omega, by omega, by omega, by omega, (Nat.zero_le _ : 0 ≤ 9223372036854775807)⟩ h).inside
  obtain ⟨a', cap', h1, _, h2⟩ := this.out
  simp only [Value.agg.injEq, Array.mk.injEq, List.cons.injEq, Value.slice.injEq, true_and, and_true] at h1
  obtain ⟨rfl, rfl⟩ := h1
  exact h2

theorem cons_lies {w : World} {S : Nat → Prop} {t r : Tm} {nb : Nat} {h0 h1 h2 h3 t0 t1 t2 t3 : Value} {ty : TypeId} (hc : w.heap[nb]? = some (.cells #[h0, h1, h2, h3, t0, t1, t2, t3] ty (0, 0))) (hnb : S nb)
    (ht : Lies w S t (.agg #[h0, h1, h2, h3])) (hr : Lies w S r (.agg #[t0, t1, t2, t3])) :
    Lies w S (.mk 9 0 ⟨#[]⟩ [t, r]) (.agg #[.int .i64 9, .int .i64 0, .string ⟨#[]⟩, .slice (some ⟨nb, 0, none⟩) 2 2]) := by
  refine Lies.mk (l := [t, r]) ⟨by omega, by omega, by omega, by omega, (Nat.zero_le _ : 0 ≤ 9223372036854775807)⟩ ⟨Nat.le_refl _, by omega, Or.inr ⟨_, rfl, fun _ => ⟨hnb, rfl⟩, ?_⟩⟩
  have hcell : ∀ j, w.cell? ⟨nb, j, none⟩ = #[h0, h1, h2, h3, t0, t1, t2, t3][j]? := fun j => cell_of_row w nb j _ ty (0, 0) hc
  rw [Row, Row, Row]
  exact ⟨⟨h0, h1, h2, h3, hcell 0, hcell 1, hcell 2, hcell 3, ht⟩, ⟨t0, t1, t2, t3, hcell 4, hcell 5, hcell 6, hcell 7, hr⟩, trivial⟩

theorem cons_step {w wr : World} {S : Nat → Prop} {x : Nat} {t r : Tm} {h0 h1 h2 h3 t0 t1 t2 t3 u0 u1 u2 u3 : Value} {ty : TypeId} (hS : ∀ b, S b → b < w.heap.size) (hx : w.heap.size ≤ x) (hbox : wr.heap[x]? = some (.cells #[u0, u1, u2, u3] ty))
    (ht : Lies wr S t (.agg #[h0, h1, h2, h3])) (hr : Lies wr (fun b => S b ∨ x < b) r (.agg #[t0, t1, t2, t3])) (hb : Below w.heap.size w wr) :
    let W := ((((((wr.setCell ⟨x, 0, none⟩ (.int .i64 9)).setCell ⟨x, 1, none⟩ (.int .i64 0)).setCell ⟨x, 2, none⟩ (.string ⟨#[]⟩)).setCell ⟨x, 3, none⟩ (.slice (some ⟨wr.heap.size, 0, none⟩) 2 2)).alloc (.cells #[h0, h1, h2, h3, t0, t1, t2, t3] 24))).drew
    W.heap[x]? = some (.cells #[.int .i64 9, .int .i64 0, .string ⟨#[]⟩, .slice (some ⟨wr.heap.size, 0, none⟩) 2 2] ty) ∧ (∀ k, k < wr.heap.size → k ≠ x → W.heap[k]? = wr.heap[k]?) ∧
      Lies W (fun b => S b ∨ x < b) (.mk 9 0 ⟨#[]⟩ [t, r]) (.agg #[.int .i64 9, .int .i64 0, .string ⟨#[]⟩, .slice (some ⟨wr.heap.size, 0, none⟩) 2 2]) ∧ Below w.heap.size w W := by
  intro W
  have hxr : x < wr.heap.size := (Array.getElem?_eq_some_iff.1 hbox).1
  obtain ⟨w4, hw4⟩ : ∃ w4, (((wr.setCell ⟨x, 0, none⟩ (.int .i64 9)).setCell ⟨x, 1, none⟩ (.int .i64 0)).setCell ⟨x, 2, none⟩ (.string ⟨#[]⟩)).setCell ⟨x, 3, none⟩ (.slice (some ⟨wr.heap.size, 0, none⟩) 2 2) = w4 := ⟨_, rfl⟩
  have hz4 : w4.heap.size = wr.heap.size := by rw [← hw4]; exact set4_size _ _ _ _ _ _
  have hx4 : w4.heap[x]? = some (.cells #[.int .i64 9, .int .i64 0, .string ⟨#[]⟩, .slice (some ⟨wr.heap.size, 0, none⟩) 2 2] ty) := by rw [← hw4]; exact set4_block hbox
  have ho4 : ∀ k, k ≠ x → w4.heap[k]? = wr.heap[k]? := fun k hk => by rw [← hw4]; exact set4_heap _ _ _ _ _ _ _ hk
  have hb4 : Below w.heap.size w w4 := by rw [← hw4]; exact Below.set4 hb hx
  have hW : W = (w4.alloc (.cells #[h0, h1, h2, h3, t0, t1, t2, t3] 24)).drew := by rw [← hw4]
  clear_value W
  subst hW
  have hnew : (w4.alloc (.cells #[h0, h1, h2, h3, t0, t1, t2, t3] 24)).drew.heap[wr.heap.size]? = some (.cells #[h0, h1, h2, h3, t0, t1, t2, t3] 24) := by rw [← hz4]; exact new_block _ _
  have hoth : ∀ k, k < wr.heap.size → k ≠ x → (w4.alloc (.cells #[h0, h1, h2, h3, t0, t1, t2, t3] 24)).drew.heap[k]? = wr.heap[k]? := fun k hk hn => (Below.heap_alloc _ _ _ (by omega)).trans (ho4 k hn)
  have hcell : ∀ (b o : Nat) (v : Value), b ≠ x → wr.cell? ⟨b, o, none⟩ = some v → (w4.alloc (.cells #[h0, h1, h2, h3, t0, t1, t2, t3] 24)).drew.cell? ⟨b, o, none⟩ = some v := fun b o v hn hc => by
    rw [World.cell?_of_block (w := wr) (a := ⟨b, o, none⟩) (hoth b (World.block_lt_of_cell? wr ⟨b, o, none⟩ hc) hn)]
    exact hc
  refine ⟨old_block hx4 _, hoth, cons_lies hnew (Or.inr hxr) ?_ ?_, (hb4.alloc (by have := hb.size; omega) _).drew⟩
  · exact ht.move (fun b hb => Or.inl hb) (fun b o v hb hc => hcell b o v (by have := hS b hb; omega) hc) _ _
  · exact hr.move (fun b hb => hb) (fun b o v hb hc => hcell b o v (by rcases hb with h | h <;> first | (have g := hS b h; omega) | omega) hc) _ _

theorem owns_lst {w w6 : World} {S : Nat → Prop} {l : List Tm} {xs : List Value} {sv : Value} {base : Nat} (hown : w6.ownsRow base 24 4 sv l.length xs)
    (hl : ∀ i (hi : i < l.length), ∃ v0 v1 v2 v3, xs[i * 4]? = some v0 ∧ xs[i * 4 + 1]? = some v1 ∧ xs[i * 4 + 2]? = some v2 ∧ xs[i * 4 + 3]? = some v3 ∧ Lies w S l[i] (.agg #[v0, v1, v2, v3]))
    (hw : ∀ b o v, S b → w.cell? ⟨b, o, none⟩ = some v → w6.cell? ⟨b, o, none⟩ = some v) : ∃ a cap, sv = .slice a l.length cap ∧ Lst w6 (fun b => S b ∨ base ≤ b) l a cap := by
  obtain ⟨hx, ⟨rfl, hn⟩ | ⟨g, cap, cur, rfl, hbg, hg, hc, hm, hcs, htk⟩⟩ := hown
  · have : l = [] := List.eq_nil_of_length_eq_zero hn
    subst this
    exact ⟨none, 0, rfl, lst_nil _ _⟩
  · refine ⟨_, cap, rfl, hc, hm, Or.inr ⟨_, rfl, fun _ => ⟨Or.inr hbg, rfl⟩, Row.of fun i hi => ?_⟩⟩
    obtain ⟨v0, v1, v2, v3, e0, e1, e2, e3, hL⟩ := hl i hi
    have hcell : ∀ j u, xs[j]? = some u → w6.cell? ⟨g, 0 + j, none⟩ = some u := by
      intro j u hu
      rw [Nat.zero_add]
      rw [← htk, List.getElem?_take] at hu
      split at hu
      · rw [cell_of_row w6 g j cur 24 (0, 0) hg]
        simpa using hu
      · cases hu
    exact ⟨v0, v1, v2, v3, hcell _ _ e0, hcell _ _ e1, hcell _ _ e2, hcell _ _ e3, hL.move (fun b hb => Or.inl hb) hw _ _⟩

theorem tup_small : Small 7 0 ⟨#[]⟩ := ⟨by omega, by omega, by omega, by omega, (Nat.zero_le _ : 0 ≤ 9223372036854775807)⟩

end Go.Proofs.YtamafhcgjbkikaaDoor
