/-
  The program's buckets and the document's, side by side.
-/
import Derived.Test.YtkijbphbibcnoaaLinSet
namespace Go.Proofs.Ytkijbphbibcnoaa
open Go.RowKit Go.Deep Go.Maps Go.WideShapes

section
variable {Lb : World → Nat → Nat → (Nat → Prop) → Bks → Prop} (K : LinOk Lb)
/-- Both, made since w; Sr: the document's memory; F: other blocks, which neither has. -/
structure Sx (Lb : World → Nat → Nat → (Nat → Prop) → Bks → Prop) (w wr : World) (p q least : Nat) (B Br : Bks) (Sr F : Nat → Prop) : Prop where
  lo : Lo Lb w wr p least B (fun k => Sr k ∨ F k)
  rb : Rb wr q least Sr Br
  own : ∀ k, Sr k → w.heap.size ≤ k
  apart : ∀ k, F k → ¬ Sr k
theorem Rb.lt {w : World} {q least : Nat} {S : Nat → Prop} {B : Bks} (h : Rb w q least S B) : ∀ k, S k → k < w.heap.size := let ⟨_, h⟩ := h; h.lt
variable {w wr w2 : World} {p q least : Nat} {B Br B' : Bks} {Sr F : Nat → Prop}
include K
theorem Sx.up (h : Sx Lb w wr p q least B Br Sr F) (hb : Below wr.heap.size wr w2) : Sx Lb w w2 p q least B Br Sr F := ⟨h.lo.up K hb, h.rb.up hb, h.own, h.apart⟩
omit K in
theorem Sx.prog (h : Sx Lb w wr p q least B Br Sr F) (hl : Lo Lb w w2 p least B' (fun k => Sr k ∨ F k)) (ho : Only (fun k => ¬ (Sr k ∨ F k)) wr w2) : Sx Lb w w2 p q least B' Br Sr F := ⟨hl, h.rb.kept ho (fun k hk hn => hn (Or.inl hk)), h.own, h.apart⟩
theorem Sx.ref (h : Sx Lb w wr p q least B Br Sr F) (hs : StR wr q least Sr B' w2) : ∃ Sr', Sx Lb w w2 p q least B B' Sr' F ∧ Only Sr wr w2 := by
  obtain ⟨Sr', h1, h2, h3⟩ := hs
  obtain ⟨⟨S0, g1, g2, g3⟩, g4⟩ := h.lo
  refine ⟨Sr', ⟨h.lo.app K (T := Sr) (G := fun k => Sr' k ∨ F k) h2 (fun k hk => ⟨Or.inl hk, h.own k hk⟩) (fun k hk => ?_), h1, fun k hk => ?_, fun k hk hr => ?_⟩, h2⟩
  · rcases hk with hk | hk
    · refine ⟨?_, h1.lt k hk⟩
      rcases h3 k hk with e | e
      · exact Or.inl (Or.inl e)
      · exact Or.inr e
    · exact ⟨Or.inl (Or.inr hk), Nat.lt_of_lt_of_le (g3 k (Or.inr hk)).1 h2.size⟩
  · rcases h3 k hk with e | e
    · exact h.own k e
    · exact Nat.le_trans g4.size e
  · rcases h3 k hr with e | e
    · exact h.apart k hk e
    · have := (g3 k (Or.inr hk)).1; omega
omit K in
theorem Sx.weaken {F' : Nat → Prop} (h : Sx Lb w wr p q least B Br Sr F) (hF : ∀ k, F' k → F k) : Sx Lb w wr p q least B Br Sr F' := ⟨h.lo.weaken (fun k hk => hk.imp id (hF k)), h.rb, h.own, fun k hk => h.apart k (hF k hk)⟩
/-- New blocks are none of theirs. -/
theorem Sx.more (h : Sx Lb w wr p q least B Br Sr F) (hb : Below wr.heap.size wr w2) (G : Nat → Prop) (hG : ∀ k, G k → wr.heap.size ≤ k ∧ k < w2.heap.size) : Sx Lb w w2 p q least B Br Sr (fun k => F k ∨ G k) :=
  ⟨(h.lo.more K hb hG).weaken (fun k hk => by rcases hk with e | e | e <;> simp [e]), h.rb.up hb, h.own, fun k hk hr => by
    rcases hk with e | e
    · exact h.apart k e hr
    · have := h.rb.lt k hr; have := (hG k e).1; omega⟩
/-- Blocks that neither has are written over. -/
theorem Sx.over (h : Sx Lb w wr p q least B Br Sr F) {T : Nat → Prop} (ho : Only T wr w2) (hT : ∀ k, T k → F k ∧ w.heap.size ≤ k) : Sx Lb w w2 p q least B Br Sr F :=
  ⟨h.lo.over K ho (fun k hk => ⟨Or.inr (hT k hk).1, (hT k hk).2⟩), h.rb.kept ho (fun k hk ht => h.apart k (hT k ht).1 hk), h.own, h.apart⟩
end
end Go.Proofs.Ytkijbphbibcnoaa
