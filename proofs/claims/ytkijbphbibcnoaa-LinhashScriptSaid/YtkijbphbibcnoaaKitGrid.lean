/-
  Rows of rows: an outer row of slices, each with a row of its own behind it.
-/
import Derived.Test.YtkijbphbibcnoaaKitRow
namespace Go.Proofs.Ytkijbphbibcnoaa
open Go.RowKit Go.Deep Go.Maps Go.WideShapes

/-- A slice's three parts. -/
structure Sl where
  a : Option Addr
  n : Nat
  c : Nat
def Sl.v (x : Sl) : Value := .slice x.a x.n x.c
/-- Slices as elements. -/
def sliceSrt (t st : TypeId) (und : Try.prog.underlying st = some (.slice t)) (info : (Try.prog.info? t).map (fun i => (i.zero, i.size, i.bytes)) = some (some (.slice none 0 0), 1, 24)) : Srt Sl :=
  { t := t, st := st, k := 1, enc := fun x => [x.v], z := .slice none 0 0, bytes := 24, und := und, info := info, zc := rfl, pos := by decide, few := by decide, len := fun _ => rfl, one := fun x u hu => by rw [List.mem_singleton.1 hu]; rfl }
/-- A sort whose elements are slices of another. -/
structure Outer {α : Type} (s : Srt α) (o : Srt Sl) : Prop where
  enc : ∀ x, o.enc x = [x.v]
  k : o.k = 1
  cs : ∀ l, o.cs l = l.map Sl.v
theorem outer_slice {α : Type} (s : Srt α) (t st : TypeId) (und : Try.prog.underlying st = some (.slice t)) (info : (Try.prog.info? t).map (fun i => (i.zero, i.size, i.bytes)) = some (some (.slice none 0 0), 1, 24)) : Outer s (sliceSrt t st und info) :=
  ⟨fun _ => rfl, rfl, fun l => by induction l with
    | nil => rfl
    | cons x r ih => exact congrArg (x.v :: ·) ih⟩

section
variable {α : Type} {s : Srt α} {o : Srt Sl} {w w' : World}
/-- Rows of rows in memory: v the outer one, ls its slices, all memory in S. -/
structure GdS (s : Srt α) (o : Srt Sl) (w : World) (v : Value) (ls : List Sl) (L : List (List α)) (S : Nat → Prop) : Prop where
  outer : Ow o w v ls
  len : ls.length = L.length
  inner : ∀ (i : Nat) (x : Sl) (l : List α), ls[i]? = some x → L[i]? = some l → Ow s w x.v l
  sv : ∀ g, v.ownBlock = some g → S g
  si : ∀ (i : Nat) (x : Sl) (g : Nat), ls[i]? = some x → x.v.ownBlock = some g → S g ∧ v.ownBlock ≠ some g
  dist : ∀ (i j : Nat) (x y : Sl) (g : Nat), i ≠ j → ls[i]? = some x → ls[j]? = some y → x.v.ownBlock = some g → y.v.ownBlock ≠ some g
def Gd (s : Srt α) (o : Srt Sl) (w : World) (v : Value) (L : List (List α)) (S : Nat → Prop) : Prop := ∃ ls, GdS s o w v ls L S
variable {v : Value} {ls : List Sl} {L : List (List α)} {S : Nat → Prop}
theorem GdS.kept {T : Nat → Prop} (h : GdS s o w v ls L S) (ho : Only T w w') (hT : ∀ k, S k → ¬ T k) : GdS s o w' v ls L S :=
  ⟨h.outer.kept ho (fun g hg => hT g (h.sv g hg)), h.len, fun i x l hx hl => (h.inner i x l hx hl).kept ho (fun g hg => hT g (h.si i x g hx hg).1), h.sv, h.si, h.dist⟩
theorem Gd.kept {T : Nat → Prop} (h : Gd s o w v L S) (ho : Only T w w') (hT : ∀ k, S k → ¬ T k) : Gd s o w' v L S := let ⟨ls, h⟩ := h; ⟨ls, h.kept ho hT⟩
theorem Gd.up (h : Gd s o w v L S) (hb : Below w.heap.size w w') : Gd s o w' v L S := h.kept (T := fun _ => False) (Only.up hb) (fun _ _ f => f)
theorem Gd.wider {S' : Nat → Prop} (h : Gd s o w v L S) (hS : ∀ k, S k → S' k) : Gd s o w v L S' := by
  obtain ⟨ls, h⟩ := h
  exact ⟨ls, h.outer, h.len, h.inner, fun g hg => hS g (h.sv g hg), fun i x g hx hg => ⟨hS g (h.si i x g hx hg).1, (h.si i x g hx hg).2⟩, h.dist⟩
theorem Gd.slice (h : Gd s o w v L S) : ∃ a cap, v = .slice a L.length cap ∧ L.length ≤ cap ∧ cap ≤ maxLen := by
  obtain ⟨ls, h⟩ := h
  obtain ⟨a, cap, h1, h2, h3, _⟩ := h.outer.cells
  exact ⟨a, cap, by rw [h1, h.len], by rw [← h.len]; exact h2, h3⟩
theorem Gd.nil : Gd s o w (.slice none 0 0) [] S := ⟨[], Ow.nil w, rfl, fun i x l hx => (by simp at hx), fun g hg => (by cases hg), fun i x g hx => (by simp at hx), fun i j x y g _ hx => (by simp at hx)⟩
/-- The slice of one row, and the row. -/
theorem GdS.at_ (hO : Outer s o) (h : GdS s o w v ls L S) {i : Nat} (hi : i < L.length) : ∃ g cap x, v = .slice (some ⟨g, 0, none⟩) L.length cap ∧ L.length ≤ cap ∧ S g ∧ ls[i]? = some x ∧ w.cell? ⟨g, i, none⟩ = some x.v ∧ w.frozen? ⟨g, i, none⟩ = false ∧ x.n = L[i].length ∧ Ow s w x.v L[i] ∧
    (∀ b, x.v.ownBlock = some b → S b ∧ b ≠ g) := by
  have hil : i < ls.length := by rw [h.len]; exact hi
  obtain ⟨g, cap, rfl, h1, h2⟩ := h.outer.some_ (by omega)
  have hx := List.getElem?_eq_getElem hil
  have hin := h.inner i _ _ hx (List.getElem?_eq_getElem hi)
  refine ⟨g, cap, ls[i], by rw [h.len], by rw [← h.len]; exact h1, h.sv g rfl, hx, ?_, h.outer.frozen i, ?_, hin, fun b hb => ⟨(h.si i _ b hx hb).1, fun e => (h.si i _ b hx hb).2 (by rw [e]; rfl)⟩⟩
  · have := h.outer.cel hx (j := 0) (u := ls[i].v) (by rw [hO.enc]; rfl)
    rwa [hO.k, Nat.mul_one, Nat.add_zero] at this
  · obtain ⟨a, c, e, _⟩ := hin.cells
    unfold Sl.v at e
    simp only [Value.slice.injEq] at e
    exact e.2.1
theorem Gd.at_ (hO : Outer s o) (h : Gd s o w v L S) {i : Nat} (hi : i < L.length) : ∃ g cap a c, v = .slice (some ⟨g, 0, none⟩) L.length cap ∧ L.length ≤ cap ∧ S g ∧ w.cell? ⟨g, i, none⟩ = some (.slice a L[i].length c) ∧ w.frozen? ⟨g, i, none⟩ = false ∧ Ow s w (.slice a L[i].length c) L[i] ∧
    (∀ ad, a = some ad → S ad.block ∧ ad.block ≠ g) := by
  obtain ⟨ls, h⟩ := h
  obtain ⟨g, cap, x, h1, h2, h3, _, h4, h5, h6, h7, h8⟩ := h.at_ hO hi
  have e : x.v = .slice x.a L[i].length x.c := by unfold Sl.v; rw [h6]
  refine ⟨g, cap, x.a, x.c, h1, h2, h3, by rw [h4, e], h5, by rw [← e]; exact h7, fun ad ha => h8 _ ?_⟩
  rw [e, ha]
  rfl
/-- One row turned: y is its new slice, in the elder one's block or a new one. -/
theorem GdS.set (hO : Outer s o) {g cap n i : Nat} {x y : Sl} {l : List α} (h : GdS s o w (.slice (some ⟨g, 0, none⟩) n cap) ls L S) (hS : ∀ k, S k → k < w.heap.size) (hx : ls[i]? = some x) (ho : Only (fun k => x.v.ownBlock = some k) w w') (hy : Ow s w' y.v l)
    (hn : ∀ b, y.v.ownBlock = some b → x.v.ownBlock = some b ∨ w.heap.size ≤ b) : GdS s o (w'.setCell ⟨g, i, none⟩ y.v) (.slice (some ⟨g, 0, none⟩) n cap) (ls.set i y) (L.set i l) (fun k => S k ∨ y.v.ownBlock = some k) := by
  have hil := (List.getElem?_eq_some_iff.1 hx).1
  have hgS : S g := h.sv g rfl
  have hgl := hS g hgS
  have hyg : y.v.ownBlock ≠ some g := fun e => by
    rcases hn g e with e' | e'
    · exact (h.si i x g hx e').2 rfl
    · omega
  have hset : Only (fun k => k = g) w' (w'.setCell ⟨g, i, none⟩ y.v) := Only.set w' _ rfl
  have houter : Ow o w' (.slice (some ⟨g, 0, none⟩) n cap) ls := h.outer.kept ho (fun b hb e => (h.si i x b hx e).2 hb)
  refine ⟨houter.put i y.v ?_ (by simp), by rw [List.length_set, List.length_set, h.len], fun j z m hz hm => ?_, fun b hb => Or.inl (h.sv b hb), fun j z b hz hb => ?_, fun j q z u b hjq hz hu hb hub => ?_⟩
  · rw [hO.cs, hO.cs, List.map_set]
  · rw [List.getElem?_set] at hz hm
    by_cases e : i = j
    · subst e
      have hiL : i < L.length := by rw [← h.len]; exact hil
      rw [if_pos rfl, if_pos hil] at hz
      rw [if_pos rfl, if_pos hiL] at hm
      cases hz
      cases hm
      exact hy.kept hset (fun b hb e => hyg (by rw [hb, e]))
    · rw [if_neg e] at hz hm
      exact ((h.inner j z m hz hm).kept ho (fun b hb e' => h.dist j i z x b (fun e2 => e e2.symm) hz hx hb e')).kept hset (fun b hb e' => (h.si j z b hz hb).2 (by rw [e']; rfl))
  · rw [List.getElem?_set] at hz
    by_cases e : i = j
    · subst e
      rw [if_pos rfl, if_pos hil] at hz
      cases hz
      exact ⟨Or.inr hb, fun e => hyg (by rw [hb]; exact e.symm)⟩
    · rw [if_neg e] at hz
      exact ⟨Or.inl (h.si j z b hz hb).1, (h.si j z b hz hb).2⟩
  · have key : ∀ (p : Nat) (t : Sl), i ≠ p → ls[p]? = some t → ∀ b, t.v.ownBlock = some b → y.v.ownBlock ≠ some b := fun p t hp ht b hb e => by
      rcases hn b e with e' | e'
      · exact h.dist p i t x b (fun e2 => hp e2.symm) ht hx hb e'
      · have := hS b (h.si p t b ht hb).1
        omega
    rw [List.getElem?_set] at hz hu
    by_cases e1 : i = j
    · subst e1
      rw [if_pos rfl, if_pos hil] at hz
      rw [if_neg hjq] at hu
      cases hz
      exact key q u hjq hu b hub hb
    · rw [if_neg e1] at hz
      by_cases e2 : i = q
      · subst e2
        rw [if_pos rfl, if_pos hil] at hu
        cases hu
        exact key j z e1 hz b hb hub
      · rw [if_neg e2] at hu
        exact h.dist j q z u b hjq hz hu hb hub
/-- One row more behind all, the outer row having been appended to. -/
theorem GdS.snoc {v' : Value} {y : Sl} {l : List α} (h : GdS s o w v ls L S) (hS : ∀ k, S k → k < w.heap.size) (ho : Only (fun k => v.ownBlock = some k) w w') (hv : Ow o w' v' (ls ++ [y])) (hg : ∀ b, v'.ownBlock = some b → v.ownBlock = some b ∨ w.heap.size ≤ b) (hy : Ow s w' y.v l)
    (hn : ∀ b, y.v.ownBlock = some b → (¬ S b) ∧ v'.ownBlock ≠ some b) : GdS s o w' v' (ls ++ [y]) (L ++ [l]) (fun k => S k ∨ y.v.ownBlock = some k ∨ v'.ownBlock = some k) := by
  have hls := h.len
  have hv'i : ∀ (i : Nat) (x : Sl) (g : Nat), ls[i]? = some x → x.v.ownBlock = some g → v'.ownBlock ≠ some g := fun i x g hx hg' e => by
    have := h.si i x g hx hg'
    rcases hg g e with e' | e'
    · exact this.2 e'
    · have := hS g this.1; omega
  have old : ∀ (i : Nat) (x : Sl), (ls ++ [y])[i]? = some x → (i < ls.length ∧ ls[i]? = some x) ∨ (i = ls.length ∧ x = y) := fun i x hx => by
    by_cases e : i < ls.length
    · rw [List.getElem?_append_left e] at hx
      exact Or.inl ⟨e, hx⟩
    · rw [List.getElem?_append_right (by omega)] at hx
      have hi := (List.getElem?_eq_some_iff.1 hx).1
      have e2 : i = ls.length := by simp at hi; omega
      subst e2
      simp at hx
      exact Or.inr ⟨rfl, hx.symm⟩
  refine ⟨hv, by rw [List.length_append, List.length_append, hls]; rfl, fun i x m hx hm => ?_, fun b hb => Or.inr (Or.inr hb), fun i x b hx hb => ?_, fun i j x z b hij hx hz hb hzb => ?_⟩
  · rcases old i x hx with ⟨hi, hx'⟩ | ⟨rfl, rfl⟩
    · rw [List.getElem?_append_left (by omega)] at hm
      exact (h.inner i x m hx' hm).kept ho (fun b hb e => (h.si i x b hx' hb).2 e)
    · rw [List.getElem?_append_right (by omega), hls] at hm
      simp at hm
      subst hm
      exact hy
  · rcases old i x hx with ⟨hi, hx'⟩ | ⟨rfl, rfl⟩
    · exact ⟨Or.inl (h.si i x b hx' hb).1, hv'i i x b hx' hb⟩
    · exact ⟨Or.inr (Or.inl hb), (hn b hb).2⟩
  · rcases old i x hx with ⟨hi, hx'⟩ | ⟨hi, hxe⟩
    · rcases old j z hz with ⟨hj, hz'⟩ | ⟨hj, hze⟩
      · exact h.dist i j x z b hij hx' hz' hb hzb
      · rw [hze] at hzb
        exact (hn b hzb).1 (h.si i x b hx' hb).1
    · rcases old j z hz with ⟨hj, hz'⟩ | ⟨hj, hze⟩
      · rw [hxe] at hb
        exact (hn b hb).1 (h.si j z b hz' hzb).1
      · omega
/-- The outer row cut. -/
theorem GdS.cut {g n cap m : Nat} (h : GdS s o w (.slice (some ⟨g, 0, none⟩) n cap) ls L S) (hm : m ≤ L.length) : GdS s o w (.slice (some ⟨g, 0, none⟩) m cap) (ls.take m) (L.take m) S := by
  have hls := h.len
  have old : ∀ (i : Nat) (x : Sl), (ls.take m)[i]? = some x → ls[i]? = some x := fun i x hx => by
    rw [List.getElem?_take] at hx
    split at hx
    · exact hx
    · cases hx
  refine ⟨h.outer.take m (by omega), by rw [List.length_take, List.length_take, hls], fun i x l hx hl => h.inner i x l (old i x hx) ?_, fun b hb => h.sv b hb, fun i x b hx hb => h.si i x b (old i x hx) hb, fun i j x y b hij hx hy => h.dist i j x y b hij (old i x hx) (old j y hy)⟩
  rw [List.getElem?_take] at hl
  split at hl
  · exact hl
  · cases hl
/-- Empty rows, just made. -/
theorem GdS.made (hO : Outer s o) (w : World) (n : Nat) (hn : n ≤ 1000000) {S : Nat → Prop} (hS : S w.heap.size) : GdS s o (w.alloc (.cells (List.replicate n (Value.slice none 0 0)).toArray o.t)) (.slice (some ⟨w.heap.size, 0, none⟩) n n) (List.replicate n ⟨none, 0, 0⟩) (List.replicate n []) S := by
  have hf := Ow.fresh (s := o) w (List.replicate n ⟨none, 0, 0⟩) (by simpa using hn)
  have hc : o.cs (List.replicate n ⟨none, 0, 0⟩) = List.replicate n (Value.slice none 0 0) := by rw [hO.cs, List.map_replicate]; rfl
  rw [hc, List.length_replicate] at hf
  have each : ∀ (i : Nat) (x : Sl), (List.replicate n (⟨none, 0, 0⟩ : Sl))[i]? = some x → x = ⟨none, 0, 0⟩ := fun i x hx => by
    rw [List.getElem?_replicate] at hx
    split at hx
    · exact (Option.some.inj hx).symm
    · cases hx
  refine ⟨hf, by simp, fun i x l hx hl => ?_, fun b hb => (by cases hb; exact hS), fun i x b hx hb => ?_, fun i j x y b _ hx _ hb => ?_⟩
  · rw [each i x hx]
    rw [List.getElem?_replicate] at hl
    split at hl
    · cases hl; exact Ow.nil _
    · cases hl
  · rw [each i x hx] at hb; cases hb
  · rw [each i x hx] at hb; cases hb
end
end Go.Proofs.Ytkijbphbibcnoaa
