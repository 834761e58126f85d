/-
  The program's count and the document's, side by side.
-/
import Derived.Test.YtgfelddgiabeoaaKitKf
import Derived.Test.YtgfelddgiabeoaaFixH
namespace Go.Proofs.Ytgfelddgiabeoaa
open Go.RowKit Go.Deep Go.Maps Go.WideShapes

/-- Both counts, made since w0; F: other blocks, which neither has. -/
structure TwF (w0 w : World) (p bm q : Nat) (L Lr : List Int) (F : Nat → Prop) (v : Value) : Prop where
  cn : Cn w p bm L
  rc : Rc w q v Lr
  apart : ∀ k, (k = q ∨ v.ownBlock = some k) → k ≠ p ∧ k ≠ bm
  mineA : w0.heap.size ≤ p ∧ w0.heap.size ≤ bm
  mineR : ∀ k, (k = q ∨ v.ownBlock = some k) → w0.heap.size ≤ k
  free : ∀ k, F k → k < w.heap.size ∧ (k ≠ p ∧ k ≠ bm) ∧ ¬ (k = q ∨ v.ownBlock = some k)
  below : Below w0.heap.size w0 w
def Two (w0 w : World) (p bm q : Nat) (L Lr : List Int) (F : Nat → Prop) : Prop := ∃ v, TwF w0 w p bm q L Lr F v
section
variable {w0 w w' : World} {p bm q : Nat} {L Lr : List Int} {F : Nat → Prop}
theorem Two.below (h : Two w0 w p bm q L Lr F) : Below w0.heap.size w0 w := let ⟨_, h⟩ := h; h.below
theorem Two.up (h : Two w0 w p bm q L Lr F) (hb : Below w.heap.size w w') : Two w0 w' p bm q L Lr F := by
  obtain ⟨v, h⟩ := h
  exact ⟨v, h.cn.up hb, h.rc.up hb, h.apart, h.mineA, h.mineR, fun k hk => ⟨Nat.lt_of_lt_of_le (h.free k hk).1 hb.size, (h.free k hk).2⟩, h.below.trans (hb.mono h.below.size)⟩
/-- Blocks more that neither has. -/
theorem Two.add (h : Two w0 w p bm q L Lr F) (hb : Below w.heap.size w w') (G : Nat → Prop) (hG : ∀ k, G k → w.heap.size ≤ k ∧ k < w'.heap.size) : Two w0 w' p bm q L Lr (fun k => F k ∨ G k) := by
  obtain ⟨v, h⟩ := h
  refine ⟨v, h.cn.up hb, h.rc.up hb, h.apart, h.mineA, h.mineR, fun k hk => ?_, h.below.trans (hb.mono h.below.size)⟩
  rcases hk with hk | hk
  · exact ⟨Nat.lt_of_lt_of_le (h.free k hk).1 hb.size, (h.free k hk).2⟩
  · have hg := hG k hk
    have h1 := h.cn.ltp
    have h2 := h.cn.ltb
    exact ⟨hg.2, ⟨by omega, by omega⟩, fun hS => (by have := h.rc.lt hS; omega)⟩
/-- Blocks that neither has are written over. -/
theorem Two.over (h : Two w0 w p bm q L Lr F) {T : Nat → Prop} (ho : Only T w w') (hT : ∀ k, T k → F k ∧ w0.heap.size ≤ k) : Two w0 w' p bm q L Lr F := by
  obtain ⟨v, h⟩ := h
  exact ⟨v, h.cn.kept ho (fun ht => (h.free p (hT p ht).1).2.1.1 rfl) (fun ht => (h.free bm (hT bm ht).1).2.1.2 rfl), h.rc.kept ho (fun k hk ht => (h.free k (hT k ht).1).2.2 hk), h.apart, h.mineA, h.mineR, fun k hk => ⟨Nat.lt_of_lt_of_le (h.free k hk).1 ho.size, (h.free k hk).2⟩,
    h.below.trans (ho.below (fun k hk => (hT k hk).2) h.below.size)⟩
theorem Two.weaken {F' : Nat → Prop} (h : Two w0 w p bm q L Lr F) (hF : ∀ k, F' k → F k) : Two w0 w p bm q L Lr F' := by
  obtain ⟨v, h⟩ := h
  exact ⟨v, h.cn, h.rc, h.apart, h.mineA, h.mineR, fun k hk => h.free k (hF k hk), h.below⟩
theorem TwF.stepA {v : Value} {L' : List Int} (h : TwF w0 w p bm q L Lr F v) (hs : StepC w p bm L' w') : Two w0 w' p bm q L' Lr F ∧ Kf F w w' := by
  obtain ⟨g1, g2⟩ := hs
  refine ⟨⟨v, g1, h.rc.kept g2 (fun k hk hT => hT.elim (h.apart k hk).1 (h.apart k hk).2), h.apart, h.mineA, h.mineR, fun k hk => ⟨Nat.lt_of_lt_of_le (h.free k hk).1 g2.size, (h.free k hk).2⟩, h.below.trans (g2.below (fun k hk => ?_) h.below.size)⟩, g2.mono (fun k hk hF => hk.elim (h.free k hF).2.1.1 (h.free k hF).2.1.2)⟩
  rcases hk with rfl | rfl
  · exact h.mineA.1
  · exact h.mineA.2
theorem TwF.stepR {v : Value} {L' : List Int} (h : TwF w0 w p bm q L Lr F v) (hs : StepRc w q v L' w') : Two w0 w' p bm q L L' F ∧ Kf F w w' := by
  obtain ⟨v', g1, g2, g3⟩ := hs
  have h1 := h.cn.ltp
  have h2 := h.cn.ltb
  have key : ∀ k, (k = q ∨ v'.ownBlock = some k) → (k = q ∨ v.ownBlock = some k) ∨ w.heap.size ≤ k := fun k hk => by
    rcases hk with rfl | hk
    · exact Or.inl (Or.inl rfl)
    · exact (g3 k hk).imp Or.inr id
  refine ⟨⟨v', h.cn.kept g2 (fun hT => (h.apart p hT).1 rfl) (fun hT => (h.apart bm hT).2 rfl), g1, fun k hk => ?_, h.mineA, fun k hk => ?_, fun k hk => ?_, h.below.trans (g2.below (fun k hk => h.mineR k hk) h.below.size)⟩, g2.mono (fun k hk hF => (h.free k hF).2.2 hk)⟩
  · rcases key k hk with e | e
    · exact h.apart k e
    · exact ⟨by omega, by omega⟩
  · rcases key k hk with e | e
    · exact h.mineR k e
    · exact Nat.le_trans h.below.size e
  · have hf := h.free k hk
    exact ⟨Nat.lt_of_lt_of_le hf.1 g2.size, hf.2.1, fun hS => (key k hS).elim hf.2.2 (fun e => by omega)⟩
theorem Two.good (h : Two w0 w p bm q L Lr F) : ∀ x ∈ L, 0 ≤ x ∧ x ≤ 1073741824 := let ⟨_, h⟩ := h; h.cn.good
theorem Two.addC (h : Two w0 w p bm q L Lr F) (x : Int) (hx : In64 x) (hL : L.length ≤ 1000) :
    Calls Try.prog 19 #[.pointer (some ⟨p, 0, none⟩), .int .i64 x] w fun e w' => e = .returned (.int .i64 (addE x)) ∧ Two w0 w' p bm q (addL x L) Lr F ∧ Kf F w w' := by
  obtain ⟨v, h⟩ := h
  exact (addC_any p bm L x w h.cn hx hL).mono fun e w' hh => ⟨hh.1, h.stepA hh.2⟩
theorem Two.relC (h : Two w0 w p bm q L Lr F) (x : Int) (hx : In64 x) (hL : L.length ≤ 1000) :
    Calls Try.prog 17 #[.pointer (some ⟨p, 0, none⟩), .int .i64 x] w fun e w' => e = .returned (.tuple #[.bool (relB x L), .int .i64 (relE x L)]) ∧ Two w0 w' p bm q (lessL x 1 L) Lr F ∧ Kf F w w' := by
  obtain ⟨v, h⟩ := h
  exact (relC_any p bm L x w h.cn hx hL).mono fun e w' hh => ⟨hh.1, h.stepA hh.2⟩
theorem Two.dropC (h : Two w0 w p bm q L Lr F) (x : Int) (hx : In64 x) (hL : L.length ≤ 1000) :
    Calls Try.prog 18 #[.pointer (some ⟨p, 0, none⟩), .int .i64 x] w fun e w' => e = .returned (.tuple #[.int .i64 (cnt x L), .bool (dropB x L)]) ∧ Two w0 w' p bm q (lessL x (cnt x L) L) Lr F ∧ Kf F w w' := by
  obtain ⟨v, h⟩ := h
  exact (dropC_any p bm L x w h.cn hx hL).mono fun e w' hh => ⟨hh.1, h.stepA hh.2⟩
theorem Two.addR (h : Two w0 w p bm q L Lr F) (x : Int) (hL : Lr.length ≤ 1000) :
    Calls Try.prog 22 #[.pointer (some ⟨q, 0, none⟩), .int .i64 x] w fun e w' => e = .returned (.int .i64 (addE x)) ∧ Two w0 w' p bm q L (addL x Lr) F ∧ Kf F w w' := by
  obtain ⟨v, h⟩ := h
  exact (addRc_any q v Lr x w h.rc hL).mono fun e w' hh => ⟨hh.1, h.stepR hh.2⟩
theorem Two.relR (h : Two w0 w p bm q L Lr F) (x : Int) (hL : Lr.length ≤ 1000) :
    Calls Try.prog 23 #[.pointer (some ⟨q, 0, none⟩), .int .i64 x] w fun e w' => e = .returned (.tuple #[.bool (relB x Lr), .int .i64 (relE x Lr)]) ∧ Two w0 w' p bm q L (lessL x 1 Lr) F ∧ Kf F w w' := by
  obtain ⟨v, h⟩ := h
  exact (relRc_any q v Lr x w h.rc hL).mono fun e w' hh => ⟨hh.1, h.stepR hh.2⟩
theorem Two.dropR (h : Two w0 w p bm q L Lr F) (x : Int) (hL : Lr.length ≤ 1000) :
    Calls Try.prog 24 #[.pointer (some ⟨q, 0, none⟩), .int .i64 x] w fun e w' => e = .returned (.tuple #[.int .i64 (cnt x Lr), .bool (dropB x Lr)]) ∧ Two w0 w' p bm q L (lessL x (cnt x Lr) Lr) F ∧ Kf F w w' := by
  obtain ⟨v, h⟩ := h
  exact (dropRc_any q v Lr x w h.rc hL).mono fun e w' hh => ⟨hh.1, h.stepR hh.2⟩
theorem Two.ofC (h : Two w0 w p bm q L Lr F) (x : Int) (hx : In64 x) : Calls Try.prog 9 #[.pointer (some ⟨p, 0, none⟩), .int .i64 x] w fun e w' => e = .returned (.int .i64 (cnt x L)) ∧ w = w' := by
  obtain ⟨v, h⟩ := h
  exact ofC_any p bm L x w h.cn hx
theorem Two.ofR (h : Two w0 w p bm q L Lr F) (x : Int) (hL : Lr.length ≤ 1000) : Calls Try.prog 10 #[.pointer (some ⟨q, 0, none⟩), .int .i64 x] w fun e w' => e = .returned (.int .i64 (cnt x Lr)) ∧ w = w' := by
  obtain ⟨v, h⟩ := h
  exact ofRc_any q v Lr x w h.rc hL
theorem Two.totalC (h : Two w0 w p bm q L Lr F) : Calls Try.prog 11 #[.pointer (some ⟨p, 0, none⟩)] w fun e w' => e = .returned (.int .i64 L.length) ∧ w = w' := by
  obtain ⟨v, h⟩ := h
  exact totalC_any p bm L w h.cn
theorem Two.row (h : Two w0 w p bm q L Lr F) : ∃ a cap, w.cell? ⟨q, 0, none⟩ = some (.slice a Lr.length cap) := by
  obtain ⟨v, h⟩ := h
  obtain ⟨a, cap, rfl, _⟩ := h.rc.slice
  exact ⟨a, cap, h.rc.cells.1⟩
theorem Two.holdC (h : Two w0 w p bm q L Lr F) (hL : L.length ≤ 1000) : Calls Try.prog 12 #[.pointer (some ⟨p, 0, none⟩)] w fun e w' => ∃ a cap, e = .returned (.slice a (hold L).length cap) ∧ Nums w' (.slice a (hold L).length cap) (hold L) ∧ (∀ g, (Value.slice a (hold L).length cap).ownBlock = some g → w.heap.size ≤ g ∧ g < w'.heap.size) ∧ Below w.heap.size w w' := by
  obtain ⟨v, h⟩ := h
  refine (holdC_any p bm L w h.cn hL).mono fun e w' hh => ?_
  obtain ⟨u, rfl, h1, h2, h3⟩ := hh
  obtain ⟨a, cap, rfl⟩ := owns_slice h1
  exact ⟨a, cap, rfl, h1, fun g hg => ⟨h2 g hg, nums_lt h1 hg⟩, h3⟩
theorem Two.holdR (h : Two w0 w p bm q L Lr F) (hg : ∀ x ∈ Lr, 0 ≤ x ∧ x ≤ 1073741824) (hL : Lr.length ≤ 1000) : Calls Try.prog 14 #[.pointer (some ⟨q, 0, none⟩)] w fun e w' => ∃ a cap, e = .returned (.slice a (hold Lr).length cap) ∧ CelI w' (hold Lr) a ∧ Below w.heap.size w w' := by
  obtain ⟨v, h⟩ := h
  refine (holdRc_any q v Lr w h.rc hg hL).mono fun e w' hh => ?_
  obtain ⟨u, rfl, h1, h3⟩ := hh
  obtain ⟨a, cap, rfl, hc⟩ := h1.cel
  exact ⟨a, cap, rfl, hc, h3⟩
/-- Both, made one behind the other. -/
theorem Two.made {w1 : World} (h : Cn w1 (w.heap.size + 1) w.heap.size []) (hb : Below w.heap.size w w1) : Two w (w1.alloc (.cells #[.slice none 0 0] 28)) (w.heap.size + 1) w.heap.size w1.heap.size [] [] (fun _ => False) := by
  have hb1 : Below w1.heap.size w1 (w1.alloc (.cells #[.slice none 0 0] 28)) := (Up.refl w1).alloc.out
  have h1 := h.ltp
  refine ⟨.slice none 0 0, h.up hb1, ⟨new_block _ _, ⟨rfl, Or.inl ⟨rfl, rfl⟩⟩, fun e => (by cases e)⟩, fun k hk => ?_, ⟨by omega, by omega⟩, fun k hk => ?_, fun k hk => hk.elim, hb.trans (hb1.mono hb.size)⟩
  · rcases hk with rfl | hk
    · exact ⟨by omega, by omega⟩
    · cases hk
  · rcases hk with rfl | hk
    · exact hb.size
    · cases hk
end
end Go.Proofs.Ytgfelddgiabeoaa
