/-
  The items of a list, each a copy.
-/
import Derived.Test.YtamafhcgjbkikaaDoorTermItems
namespace Go.Proofs.YtamafhcgjbkikaaDoor
open Go.RowKit Go.Deep

theorem MixP.put {w w5 : World} {nb i : Nat} {l : List Tm} {c : Array Value} {t : TypeId} {v0 v1 v2 v3 : Value} (h : MixP w nb l i) (hi : i < l.length) (hb : Below w.heap.size w w5) (hc : w5.heap[nb]? = some (.cells c t (0, 0))) (hs : c.size = l.length * 4) (hnb : nb < w.heap.size)
    (hv : Lies w5 (fun b => w.heap.size ≤ b) l[i] (.agg #[v0, v1, v2, v3])) : MixP (put4 w5 nb (i * 4) v0 v1 v2 v3) nb l (i + 1) := by
  obtain ⟨⟨e0, e1, e2, e3⟩, eo⟩ := put4_cell (o := i * 4) (v0 := v0) (v1 := v1) (v2 := v2) (v3 := v3) hc (by omega)
  have far : ∀ (b o : Nat) (v : Value), nb < b → w5.cell? ⟨b, o, none⟩ = some v → (put4 w5 nb (i * 4) v0 v1 v2 v3).cell? ⟨b, o, none⟩ = some v := fun b o v hb hc => by
    rw [World.cell?_of_block (w := w5) (a := ⟨b, o, none⟩) (put4_heap _ _ _ _ _ _ _ _ (by show b ≠ nb; omega))]
    exact hc
  intro j hj hl
  by_cases hij : j = i
  · subst hij
    exact ⟨v0, v1, v2, v3, e0, e1, e2, e3, hv.move (fun b hb => by omega) (fun b o v hb hc => far b o v (by omega) hc) _ _⟩
  · obtain ⟨u0, u1, u2, u3, d0, d1, d2, d3, hL⟩ := h j (by omega) hl
    exact ⟨u0, u1, u2, u3, (eo _ (by omega)).trans (cell_below hb _ _ _ d0), (eo _ (by omega)).trans (cell_below hb _ _ _ d1), (eo _ (by omega)).trans (cell_below hb _ _ _ d2), (eo _ (by omega)).trans (cell_below hb _ _ _ d3),
      (hL.below hb).move (fun b hb => hb) (fun b o v hb hc => far b o v hb hc) _ _⟩

theorem MixP.same {w w' : World} {nb i : Nat} {l : List Tm} (h : MixP w nb l i) (hk : ∀ k, nb ≤ k → w'.heap[k]? = w.heap[k]?) : MixP w' nb l i := by
  have cm : ∀ (b o : Nat), nb ≤ b → w'.cell? ⟨b, o, none⟩ = w.cell? ⟨b, o, none⟩ := fun b o hb => World.cell?_of_block (w := w) (a := ⟨b, o, none⟩) (hk b hb)
  intro j hj hl
  obtain ⟨u0, u1, u2, u3, d0, d1, d2, d3, hL⟩ := h j hj hl
  exact ⟨u0, u1, u2, u3, (cm _ _ (Nat.le_refl _)).trans d0, (cm _ _ (Nat.le_refl _)).trans d1, (cm _ _ (Nat.le_refl _)).trans d2, (cm _ _ (Nat.le_refl _)).trans d3, hL.move (fun b hb => hb) (fun b o v hb hc => (cm b o (by omega)).trans hc) _ _⟩
theorem MixP.lst {w : World} {nb : Nat} {l : List Tm} {S : Nat → Prop} (h : MixP w nb l l.length) (hS : ∀ b, nb ≤ b → S b) (hl : l.length ≤ 9223372036854775807) : Lst w S l (some ⟨nb, 0, none⟩) l.length :=
  ⟨Nat.le_refl _, hl, Or.inr ⟨_, rfl, fun _ => ⟨hS _ (Nat.le_refl _), rfl⟩, Row.of fun i hi => by
    obtain ⟨u0, u1, u2, u3, d0, d1, d2, d3, hL⟩ := h i hi hi
    show ∃ v0 v1 v2 v3, w.cell? ⟨nb, 0 + i * 4, none⟩ = some v0 ∧ w.cell? ⟨nb, 0 + i * 4 + 1, none⟩ = some v1 ∧ w.cell? ⟨nb, 0 + i * 4 + 2, none⟩ = some v2 ∧ w.cell? ⟨nb, 0 + i * 4 + 3, none⟩ = some v3 ∧ _
    rw [Nat.zero_add]
    exact ⟨u0, u1, u2, u3, d0, d1, d2, d3, hL.wider (fun b hb => hS b (by omega))⟩⟩⟩

/-- A slice of terms and a bool have been returned. -/
def MadeI (S' : Nat → Prop) (T : Tm) (e : Ending) (w' : World) : Prop :=
  ∃ (l : List Tm) (a : Option Addr) (cap : Nat), e = .returned (.tuple #[.slice a l.length cap, .bool (T.last == 8)]) ∧ Lst w' S' l a cap ∧ l = (if T.last = 8 then T.items else [])

theorem lst_nil (w : World) (S : Nat → Prop) : Lst w S [] none 0 := ⟨Nat.le_refl _, by simp, Or.inl ⟨rfl, rfl, rfl⟩⟩

end Go.Proofs.YtamafhcgjbkikaaDoor
