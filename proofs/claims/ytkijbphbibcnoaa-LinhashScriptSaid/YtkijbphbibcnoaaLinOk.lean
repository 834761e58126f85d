/-
  What is asked of the program's buckets, whatever they lie like in memory: a law's walk stands on this alone.
-/
import Derived.Test.YtkijbphbibcnoaaLinRF
namespace Go.Proofs.Ytkijbphbibcnoaa
open Go.RowKit Go.Deep Go.Maps Go.WideShapes

/-- Buckets such as the laws have. -/
structure Fine (B : Bks) : Prop where
  placed : Placed B
  len : B.length ≤ 100000
  size : szB B ≤ 100000
/-- What a call leaves: buckets in memory of their own, the elder one or new. -/
def StL (Lb : World → Nat → Nat → (Nat → Prop) → Bks → Prop) (w : World) (p least : Nat) (S : Nat → Prop) (B' : Bks) (w' : World) : Prop := ∃ S', Lb w' p least S' B' ∧ Only S w w' ∧ ∀ k, S' k → S k ∨ w.heap.size ≤ k
/-- A list told: in new memory. -/
structure Told (w w' : World) (v : Value) (l : List It) : Prop where
  its : Its w' v l
  new : ∀ g, v.ownBlock = some g → w.heap.size ≤ g
  below : Below w.heap.size w w'
structure LinOk (Lb : World → Nat → Nat → (Nat → Prop) → Bks → Prop) : Prop where
  kept : ∀ {w w' p least S B} {T : Nat → Prop}, Lb w p least S B → Only T w w' → (∀ k, S k → ¬ T k) → Lb w' p least S B
  lt : ∀ {w p least S B}, Lb w p least S B → ∀ k, S k → k < w.heap.size
  new : ∀ (w : World) (least : Nat), 1 ≤ least → least ≤ 1024 → Calls Try.prog 7 #[.int .i64 least] w fun e w' => ∃ p S, e = .returned (.tuple #[.pointer (some ⟨p, 0, none⟩), .int .i64 0]) ∧ Lb w' p least S (List.replicate least []) ∧ (∀ k, S k → w.heap.size ≤ k) ∧ Below w.heap.size w w'
  newNot : ∀ (w : World) (n : Int), n < 1 ∨ 1024 < n → Calls Try.prog 7 #[.int .i64 n] w fun e w' => e = .returned (.tuple #[.pointer none, .int .i64 2]) ∧ Below w.heap.size w w'
  add : ∀ (w : World) (p least : Nat) (S : Nat → Prop) (B : Bks) (h : Nat) (id : Int), Lb w p least S B → Fine B → h < 4294967296 → Calls Try.prog 12 #[.pointer (some ⟨p, 0, none⟩), .int .u32 h, .int .i64 id] w fun e w' => e = .returned (.tuple #[.int .i64 (ofB B h), .int .i64 0]) ∧ StL Lb w p least S (addB B h id) w'
  remove : ∀ (w : World) (p least : Nat) (S : Nat → Prop) (B : Bks) (h : Nat) (id : Int), Lb w p least S B → Fine B → h < 4294967296 → Calls Try.prog 14 #[.pointer (some ⟨p, 0, none⟩), .int .u32 h, .int .i64 id] w fun e w' => e = .returned (.bool (hasB B h id)) ∧ StL Lb w p least S (removeB B h id) w'
  chain : ∀ (w : World) (p least : Nat) (S : Nat → Prop) (B : Bks) (h : Nat), Lb w p least S B → Fine B → h < 4294967296 → Calls Try.prog 15 #[.pointer (some ⟨p, 0, none⟩), .int .u32 h] w fun e w' => ∃ v, e = .returned v ∧ Told w w' v (chainB B h)
  at_ : ∀ (w : World) (p least : Nat) (S : Nat → Prop) (B : Bks) (n : Int), Lb w p least S B → Fine B → Calls Try.prog 13 #[.pointer (some ⟨p, 0, none⟩), .int .i64 n] w fun e w' => ∃ v, e = .returned (.tuple #[v, .int .i64 (atE B n)]) ∧ Told w w' v (atV B n)
  len : ∀ (w : World) (p least : Nat) (S : Nat → Prop) (B : Bks), Lb w p least S B → Fine B → Calls Try.prog 16 #[.pointer (some ⟨p, 0, none⟩)] w fun e w' => e = .returned (.int .i64 (szB B)) ∧ Below w.heap.size w w'
  count : ∀ (w : World) (p least : Nat) (S : Nat → Prop) (B : Bks), Lb w p least S B → Fine B → Calls Try.prog 17 #[.pointer (some ⟨p, 0, none⟩)] w fun e w' => e = .returned (.int .i64 B.length) ∧ Below w.heap.size w w'
  wants : ∀ (w : World) (p least : Nat) (S : Nat → Prop) (B : Bks), Lb w p least S B → Fine B → Calls Try.prog 18 #[.pointer (some ⟨p, 0, none⟩)] w fun e w' => e = .returned (.int .i64 (wantsB least B)) ∧ Below w.heap.size w w'
  split : ∀ (w : World) (p least : Nat) (S : Nat → Prop) (B : Bks), Lb w p least S B → Fine B → Calls Try.prog 19 #[.pointer (some ⟨p, 0, none⟩)] w fun e w' => e = .returned (.int .i64 0) ∧ StL Lb w p least S (splitB B) w'
  join : ∀ (w : World) (p least : Nat) (S : Nat → Prop) (B : Bks), Lb w p least S B → Fine B → 1 ≤ least → Calls Try.prog 20 #[.pointer (some ⟨p, 0, none⟩)] w fun e w' => e = .returned (.int .i64 (if least < B.length then 0 else 9)) ∧ StL Lb w p least S (if least < B.length then joinB B else B) w'

section
variable {Lb : World → Nat → Nat → (Nat → Prop) → Bks → Prop} (K : LinOk Lb)
/-- The law's own buckets, made since w0; F: other blocks, which they have not. -/
structure Lo (Lb : World → Nat → Nat → (Nat → Prop) → Bks → Prop) (w0 w : World) (p least : Nat) (B : Bks) (F : Nat → Prop) : Prop where
  ex : ∃ S, Lb w p least S B ∧ (∀ k, S k → w0.heap.size ≤ k) ∧ (∀ k, F k → k < w.heap.size ∧ ¬ S k)
  below : Below w0.heap.size w0 w
include K
variable {w0 w w' : World} {p least : Nat} {B B' : Bks} {F : Nat → Prop}
theorem Lo.up (h : Lo Lb w0 w p least B F) (hb : Below w.heap.size w w') : Lo Lb w0 w' p least B F := by
  obtain ⟨⟨S, h1, h2, h3⟩, h4⟩ := h
  exact ⟨⟨S, K.kept h1 (T := fun _ => False) (Only.up hb) (fun _ _ f => f), h2, fun k hk => ⟨Nat.lt_of_lt_of_le (h3 k hk).1 hb.size, (h3 k hk).2⟩⟩, h4.trans (hb.mono h4.size)⟩
/-- Blocks that they have not are written, of the law's own. -/
theorem Lo.over (h : Lo Lb w0 w p least B F) {T : Nat → Prop} (ho : Only T w w') (hT : ∀ k, T k → F k ∧ w0.heap.size ≤ k) : Lo Lb w0 w' p least B F := by
  obtain ⟨⟨S, h1, h2, h3⟩, h4⟩ := h
  exact ⟨⟨S, K.kept h1 ho (fun k hk ht => (h3 k (hT k ht).1).2 hk), h2, fun k hk => ⟨Nat.lt_of_lt_of_le (h3 k hk).1 ho.size, (h3 k hk).2⟩⟩, h4.trans (ho.below (fun k hk => (hT k hk).2) h4.size)⟩
omit K in
theorem Lo.weaken {F' : Nat → Prop} (h : Lo Lb w0 w p least B F) (hF : ∀ k, F' k → F k) : Lo Lb w0 w p least B F' := by
  obtain ⟨⟨S, h1, h2, h3⟩, h4⟩ := h
  exact ⟨⟨S, h1, h2, fun k hk => h3 k (hF k hk)⟩, h4⟩
/-- New blocks are none of theirs. -/
theorem Lo.more (h : Lo Lb w0 w p least B F) (hb : Below w.heap.size w w') {G : Nat → Prop} (hG : ∀ k, G k → w.heap.size ≤ k ∧ k < w'.heap.size) : Lo Lb w0 w' p least B (fun k => F k ∨ G k) := by
  obtain ⟨⟨S, h1, h2, h3⟩, h4⟩ := h.up K hb
  obtain ⟨⟨S0, g1, g2, g3⟩, g4⟩ := h
  refine ⟨⟨S0, K.kept g1 (T := fun _ => False) (Only.up hb) (fun _ _ f => f), g2, fun k hk => ?_⟩, h4⟩
  rcases hk with hk | hk
  · exact ⟨Nat.lt_of_lt_of_le (g3 k hk).1 hb.size, (g3 k hk).2⟩
  · exact ⟨(hG k hk).2, fun hS => (by have := K.lt g1 k hS; have := (hG k hk).1; omega)⟩
omit K in
theorem Lo.step {S : Nat → Prop} (h1 : StL Lb w p least S B' w') (h2 : ∀ k, S k → w0.heap.size ≤ k) (h3 : ∀ k, F k → k < w.heap.size ∧ ¬ S k) (h4 : Below w0.heap.size w0 w) : Lo Lb w0 w' p least B' F ∧ Only (fun k => ¬ F k) w w' := by
  obtain ⟨S', g1, g2, g3⟩ := h1
  refine ⟨⟨⟨S', g1, fun k hk => ?_, fun k hk => ⟨Nat.lt_of_lt_of_le (h3 k hk).1 g2.size, fun hS => ?_⟩⟩, h4.trans (g2.below h2 h4.size)⟩, g2.mono fun k hk hF => (h3 k hF).2 hk⟩
  · rcases g3 k hk with e | e
    · exact h2 k e
    · exact Nat.le_trans h4.size e
  · rcases g3 k hS with e | e
    · exact (h3 k hk).2 e
    · have := (h3 k hk).1; omega
theorem Lo.add (h : Lo Lb w0 w p least B F) (hf : Fine B) (x : Nat) (id : Int) (hx : x < 4294967296) : Calls Try.prog 12 #[.pointer (some ⟨p, 0, none⟩), .int .u32 x, .int .i64 id] w fun e w' => e = .returned (.tuple #[.int .i64 (ofB B x), .int .i64 0]) ∧ Lo Lb w0 w' p least (addB B x id) F ∧ Only (fun k => ¬ F k) w w' := by
  obtain ⟨⟨S, h1, h2, h3⟩, h4⟩ := h
  exact (K.add w p least S B x id h1 hf hx).mono fun e w' hh => ⟨hh.1, Lo.step hh.2 h2 h3 h4⟩
theorem Lo.remove (h : Lo Lb w0 w p least B F) (hf : Fine B) (x : Nat) (id : Int) (hx : x < 4294967296) : Calls Try.prog 14 #[.pointer (some ⟨p, 0, none⟩), .int .u32 x, .int .i64 id] w fun e w' => e = .returned (.bool (hasB B x id)) ∧ Lo Lb w0 w' p least (removeB B x id) F ∧ Only (fun k => ¬ F k) w w' := by
  obtain ⟨⟨S, h1, h2, h3⟩, h4⟩ := h
  exact (K.remove w p least S B x id h1 hf hx).mono fun e w' hh => ⟨hh.1, Lo.step hh.2 h2 h3 h4⟩
theorem Lo.split (h : Lo Lb w0 w p least B F) (hf : Fine B) : Calls Try.prog 19 #[.pointer (some ⟨p, 0, none⟩)] w fun e w' => e = .returned (.int .i64 0) ∧ Lo Lb w0 w' p least (splitB B) F ∧ Only (fun k => ¬ F k) w w' := by
  obtain ⟨⟨S, h1, h2, h3⟩, h4⟩ := h
  exact (K.split w p least S B h1 hf).mono fun e w' hh => ⟨hh.1, Lo.step hh.2 h2 h3 h4⟩
theorem Lo.join (h : Lo Lb w0 w p least B F) (hf : Fine B) (hl : 1 ≤ least) : Calls Try.prog 20 #[.pointer (some ⟨p, 0, none⟩)] w fun e w' => e = .returned (.int .i64 (if least < B.length then 0 else 9)) ∧ Lo Lb w0 w' p least (if least < B.length then joinB B else B) F ∧ Only (fun k => ¬ F k) w w' := by
  obtain ⟨⟨S, h1, h2, h3⟩, h4⟩ := h
  exact (K.join w p least S B h1 hf hl).mono fun e w' hh => ⟨hh.1, Lo.step hh.2 h2 h3 h4⟩
theorem Lo.chain (h : Lo Lb w0 w p least B F) (hf : Fine B) (x : Nat) (hx : x < 4294967296) : Calls Try.prog 15 #[.pointer (some ⟨p, 0, none⟩), .int .u32 x] w fun e w' => ∃ v, e = .returned v ∧ Told w w' v (chainB B x) := by
  obtain ⟨⟨S, h1, h2, h3⟩, h4⟩ := h
  exact K.chain w p least S B x h1 hf hx
theorem Lo.at_ (h : Lo Lb w0 w p least B F) (hf : Fine B) (n : Int) : Calls Try.prog 13 #[.pointer (some ⟨p, 0, none⟩), .int .i64 n] w fun e w' => ∃ v, e = .returned (.tuple #[v, .int .i64 (atE B n)]) ∧ Told w w' v (atV B n) := by
  obtain ⟨⟨S, h1, h2, h3⟩, h4⟩ := h
  exact K.at_ w p least S B n h1 hf
theorem Lo.len (h : Lo Lb w0 w p least B F) (hf : Fine B) : Calls Try.prog 16 #[.pointer (some ⟨p, 0, none⟩)] w fun e w' => e = .returned (.int .i64 (szB B)) ∧ Below w.heap.size w w' := by
  obtain ⟨⟨S, h1, h2, h3⟩, h4⟩ := h
  exact K.len w p least S B h1 hf
theorem Lo.count (h : Lo Lb w0 w p least B F) (hf : Fine B) : Calls Try.prog 17 #[.pointer (some ⟨p, 0, none⟩)] w fun e w' => e = .returned (.int .i64 B.length) ∧ Below w.heap.size w w' := by
  obtain ⟨⟨S, h1, h2, h3⟩, h4⟩ := h
  exact K.count w p least S B h1 hf
theorem Lo.wants (h : Lo Lb w0 w p least B F) (hf : Fine B) : Calls Try.prog 18 #[.pointer (some ⟨p, 0, none⟩)] w fun e w' => e = .returned (.int .i64 (wantsB least B)) ∧ Below w.heap.size w w' := by
  obtain ⟨⟨S, h1, h2, h3⟩, h4⟩ := h
  exact K.wants w p least S B h1 hf
theorem lo_new (w : World) (least : Nat) (h1 : 1 ≤ least) (h2 : least ≤ 1024) : Calls Try.prog 7 #[.int .i64 least] w fun e w' => ∃ p, e = .returned (.tuple #[.pointer (some ⟨p, 0, none⟩), .int .i64 0]) ∧ Lo Lb w w' p least (List.replicate least []) (fun _ => False) :=
  (K.new w least h1 h2).mono fun e w' ⟨p, S, he, g1, g2, g3⟩ => ⟨p, he, ⟨S, g1, g2, fun k hk => hk.elim⟩, g3⟩
end
end Go.Proofs.Ytkijbphbibcnoaa
