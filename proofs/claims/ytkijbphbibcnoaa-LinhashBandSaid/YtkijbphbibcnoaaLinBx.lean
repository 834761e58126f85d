/-
  An object whose box leads to rows of rows: its box at p, with whatever cells; one row at hand; a cell of the box turned.
-/
import Derived.Test.YtkijbphbibcnoaaLinRE
namespace Go.Proofs.Ytkijbphbibcnoaa
open Go.RowKit Go.Deep Go.Maps Go.WideShapes

/-- The box at p has the cells cs; v is its outer row; all memory in S. -/
structure Bx (t : TypeId) (cs : Array Value) (w : World) (p : Nat) (v : Value) (S : Nat → Prop) (B : Bks) : Prop where
  box : w.heap[p]? = some (.cells cs t)
  gd : Gd itS rwS w v B (fun k => S k ∧ k ≠ p)
  sp : S p
  lt : ∀ k, S k → k < w.heap.size
section
variable {t : TypeId} {cs : Array Value} {w w' : World} {p : Nat} {v : Value} {S : Nat → Prop} {B : Bks}
theorem Bx.kept {T : Nat → Prop} (h : Bx t cs w p v S B) (ho : Only T w w') (hT : ∀ k, S k → ¬ T k) : Bx t cs w' p v S B :=
  ⟨ho.box h.box (hT p h.sp), h.gd.kept ho (fun k hk => hT k hk.1), h.sp, fun k hk => Nat.lt_of_lt_of_le (h.lt k hk) ho.size⟩
theorem Bx.up (h : Bx t cs w p v S B) (hb : Below w.heap.size w w') : Bx t cs w' p v S B := h.kept (T := fun _ => False) (Only.up hb) (fun _ _ f => f)
theorem Bx.cell (h : Bx t cs w p v S B) (j : Nat) : w.cell? ⟨p, j, none⟩ = cs[j]? := by
  have h' := h.box
  simp [World.cell?, h']
theorem Bx.froz (h : Bx t cs w p v S B) (j : Nat) : w.frozen? ⟨p, j, none⟩ = false := by
  have h' := h.box
  simp [World.frozen?, h']
theorem Bx.slice (h : Bx t cs w p v S B) : ∃ a cap, v = .slice a B.length cap ∧ B.length ≤ cap ∧ cap ≤ maxLen := h.gd.slice
/-- A cell of the box turned. -/
theorem Bx.turn (h : Bx t cs w p v S B) (j : Nat) (u : Value) : Bx t (cs.setIfInBounds j u) (w.setCell ⟨p, j, none⟩ u) p v S B :=
  ⟨put_box h.box j u, h.gd.kept (Only.set (S := fun k => k = p) w u rfl) (fun k hk => hk.2), h.sp, fun k hk => by rw [size_setCell']; exact h.lt k hk⟩
/-- One row at hand: where it lies, and what is left when it has turned. -/
theorem Bx.focus (h : Bx t cs w p v S B) {i : Nat} (hi : i < B.length) : ∃ g cap a c, v = .slice (some ⟨g, 0, none⟩) B.length cap ∧ w.cell? ⟨g, i, none⟩ = some (.slice a B[i].length c) ∧ w.frozen? ⟨g, i, none⟩ = false ∧ Its w (.slice a B[i].length c) B[i] ∧ (∀ ad, a = some ad → S ad.block ∧ ad.block ≠ p) ∧ (S g ∧ g ≠ p) ∧ (∀ ad, a = some ad → ad.block ≠ g) ∧
    ∀ (w4 : World) (y : Value) (l : List It), Only (fun k => (Value.slice a B[i].length c).ownBlock = some k) w w4 → Its w4 y l → (∀ b, y.ownBlock = some b → (Value.slice a B[i].length c).ownBlock = some b ∨ w.heap.size ≤ b) →
      ∃ S', Bx t cs (w4.setCell ⟨g, i, none⟩ y) p v S' (B.set i l) ∧ Only S w (w4.setCell ⟨g, i, none⟩ y) ∧ ∀ k, S' k → S k ∨ w.heap.size ≤ k := by
  obtain ⟨ls, hg⟩ := h.gd
  obtain ⟨g, cap, x, rfl, _, hgS, hx, hc, hz, hn, hxi, hxg⟩ := hg.at_ outR hi
  have e : x.v = .slice x.a B[i].length x.c := by unfold Sl.v; rw [hn]
  rw [e] at hc hxi hxg
  refine ⟨g, cap, x.a, x.c, rfl, hc, hz, hxi, fun ad ha => ?_, hgS, fun ad ha => ?_, fun w4 y l ho hy hny => ?_⟩
  · exact (hxg ad.block (by rw [ha]; rfl)).1
  · exact (hxg ad.block (by rw [ha]; rfl)).2
  · obtain ⟨a, c, rfl, _⟩ := Its.slice hy
    have hxS : ∀ k, (Value.slice x.a B[i].length x.c).ownBlock = some k → S k ∧ k ≠ p := fun k hk => (hxg k hk).1
    have hgs := hg.set (y := ⟨a, l.length, c⟩) (w' := w4) outR (fun k hk => h.lt k hk.1) hx (by rw [e]; exact ho) hy (by rw [e]; exact hny)
    have hoS : Only S w w4 := ho.mono fun k hk => (hxS k hk).1
    have ho' : Only S w (w4.setCell ⟨g, i, none⟩ (.slice a l.length c)) := hoS.put hgS.1 _ _
    refine ⟨fun k => S k ∨ (Value.slice a l.length c).ownBlock = some k, ⟨?_, ?_, Or.inl h.sp, fun k hk => ?_⟩, ho', fun k hk => ?_⟩
    · exact (Only.set (S := fun k => k = g) w4 (p := g) _ rfl).box (ho.box h.box (fun hk => (hxS p hk).2 rfl)) (fun e => hgS.2 e.symm)
    · refine Gd.wider ⟨_, hgs⟩ fun k hk => ?_
      rcases hk with hk | hk
      · exact ⟨Or.inl hk.1, hk.2⟩
      · refine ⟨Or.inr hk, fun e => ?_⟩
        rcases hny k hk with e2 | e2
        · exact (hxS k e2).2 e
        · have := h.lt p h.sp; omega
    · rcases hk with hk | hk
      · exact Nat.lt_of_lt_of_le (h.lt k hk) ho'.size
      · have := hy.lt hk
        rw [size_setCell']
        exact this
    · rcases hk with hk | hk
      · exact Or.inl hk
      · rcases hny k hk with e2 | e2
        · exact Or.inl (hxS k e2).1
        · exact Or.inr e2
end
end Go.Proofs.Ytkijbphbibcnoaa
