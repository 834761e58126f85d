/-
  strings.Clone and slices.Clone, as the program's copies call them.
-/
import Derived.Test.YtaiiicmldogjoaaDoorZTermWords
import Derived.Test.YtaiiicmldogjoaaDoorZTermOwn
import Derived.Shelf.Pu.Clone
import Derived.Deep.RegionWith
import Derived.Deep.LoopGhost
import Derived.Test.YtaiiicmldogjoaaDoorZTermSame
namespace Go.Proofs.YtaiiicmldogjoaaDoor
open Go.RowKit Go.Deep Go.Shelf

def cloneRen : Ren where
  f := fun n => if n = 25 then 76 else n
  t := fun n => match n with
    | 0 => 0
    | 3 => 3
    | 4 => 4
    | 5 => 5
    | 9 => 9
    | 37 => 26
    | 47 => 128
    | n => n
  g := fun n => n

theorem cloneLays : LaysPu.n25 Tryd.prog cloneRen := {
  mixed := by kernel_rfl
  f25 := by kernel_rfl
  t0 := by kernel_rfl
  a0 := fun _ => by kernel_rfl
  z0 := fun _ => by kernel_rfl
  v0 := fun _ => by kernel_rfl
  i0 := by kernel_rfl
  t3 := by kernel_rfl
  a3 := fun _ => by kernel_rfl
  z3 := fun _ => by kernel_rfl
  v3 := fun _ => by kernel_rfl
  i3 := by kernel_rfl
  t4 := by kernel_rfl
  a4 := fun _ => by kernel_rfl
  z4 := fun _ => by kernel_rfl
  v4 := fun _ => by kernel_rfl
  i4 := by kernel_rfl
  t5 := by kernel_rfl
  a5 := fun _ => by kernel_rfl
  z5 := fun _ => by kernel_rfl
  v5 := fun _ => by kernel_rfl
  i5 := by kernel_rfl
  t9 := by kernel_rfl
  a9 := fun _ => by kernel_rfl
  z9 := fun _ => by kernel_rfl
  v9 := fun _ => by kernel_rfl
  i9 := by kernel_rfl
  t37 := by kernel_rfl
  a37 := fun _ => by kernel_rfl
  z37 := fun _ => by kernel_rfl
  v37 := fun _ => by kernel_rfl
  i37 := by kernel_rfl
  t47 := by kernel_rfl
  a47 := fun _ => by kernel_rfl
  z47 := fun _ => by kernel_rfl
  v47 := fun _ => by kernel_rfl
  i47 := by kernel_rfl }

theorem textClone_in (s : ByteArray) (w : World) (hs : s.size ≤ 281474976710656) : Calls Tryd.prog 76 #[.string s] w fun e w' => e = .returned (.string s) ∧ Below w.heap.size w w' :=
  AnyPu.stringslite_Clone cloneLays s w hs

theorem textClone_any (s : ByteArray) (w : World) (hs : s.size ≤ 281474976710656) : Calls Tryd.prog 68 #[.string s] w fun e w' => e = .returned (.string s) ∧ Below w.heap.size w w' := by
  go_enter Tryd.func68, Tryd.ntmps68
  go_wp2_with (go_at_call 76; refine (textClone_in s _ hs).mono ?_; rintro e w1 ⟨rfl, hb⟩)
  go_ret
  exact ⟨rfl, hb⟩

/-- A slice in new memory, with these cells. -/
def RowMade (w : World) (n : Nat) (xs : List Value) (e : Ending) (w' : World) : Prop := ∃ sv, e = .returned sv ∧ w'.ownsRow w.heap.size 42 4 sv n xs

end Go.Proofs.YtaiiicmldogjoaaDoor

/-
  A term is detached, in place, from the memory that it shares with others: what has become of memory then, and how one part behind the other comes to that.
-/
namespace Go.Proofs.YtaiiicmldogjoaaDoor
open Go.RowKit Go.Deep

/-- Nothing that was there is other than it was, but for four cells of one block; and there is the term now, all its rows new. -/
structure Done (w : World) (pb po : Nat) (T : Tm) (w' : World) : Prop where
  os : w'.os = w.os
  tape : w'.tape = w.tape
  output : w'.output = w.output
  size : w.heap.size ≤ w'.heap.size
  other : ∀ k, k < w.heap.size → k ≠ pb → w'.heap[k]? = w.heap[k]?
  row : ∃ (c c' : Array Value) (t : TypeId), w.heap[pb]? = some (.cells c t (0, 0)) ∧ w'.heap[pb]? = some (.cells c' t (0, 0)) ∧ c'.size = c.size ∧ ∀ j, (j < po ∨ po + 4 ≤ j) → c'[j]? = c[j]?
  term : ∃ v0 v1 v2 v3, w'.cell? ⟨pb, po, none⟩ = some v0 ∧ w'.cell? ⟨pb, po + 1, none⟩ = some v1 ∧ w'.cell? ⟨pb, po + 2, none⟩ = some v2 ∧ w'.cell? ⟨pb, po + 3, none⟩ = some v3 ∧ Lies w' (fun b => w.heap.size ≤ b) T (.agg #[v0, v1, v2, v3])

theorem Done.keep {w w' : World} {pb po j : Nat} {T : Tm} (h : Done w pb po T w') (hj : j < po ∨ po + 4 ≤ j) : w'.cell? ⟨pb, j, none⟩ = w.cell? ⟨pb, j, none⟩ := by
  obtain ⟨c, c', t, h1, h2, _, h4⟩ := h.row
  rw [cell_of_row w pb j c t (0, 0) h1, cell_of_row w' pb j c' t (0, 0) h2, h4 j hj]
theorem Done.far {w w' : World} {pb po : Nat} {T : Tm} (h : Done w pb po T w') {b o : Nat} {v : Value} (hb : b ≠ pb) (hc : w.cell? ⟨b, o, none⟩ = some v) : w'.cell? ⟨b, o, none⟩ = some v := by
  rw [World.cell?_of_block (w := w) (a := ⟨b, o, none⟩) (h.other b (World.block_lt_of_cell? w ⟨b, o, none⟩ hc) hb)]
  exact hc

/-- A row of which the first parts are new. -/
def Mix (w : World) (S : Nat → Prop) (nb : Nat) (l : List Tm) (j : Nat) : Prop :=
  ∀ i (hi : i < l.length), ∃ v0 v1 v2 v3, w.cell? ⟨nb, i * 4, none⟩ = some v0 ∧ w.cell? ⟨nb, i * 4 + 1, none⟩ = some v1 ∧ w.cell? ⟨nb, i * 4 + 2, none⟩ = some v2 ∧ w.cell? ⟨nb, i * 4 + 3, none⟩ = some v3 ∧
    Lies w (if i < j then (fun b => nb < b) else S) l[i] (.agg #[v0, v1, v2, v3])

theorem Mix.step {w w' : World} {S : Nat → Prop} {nb n₀ j : Nat} {l : List Tm} (h : Mix w S nb l j) (hj : j < l.length) (hS : ∀ b, S b → b < n₀) (hn : n₀ ≤ nb) (hnb : nb < w.heap.size) (hd : Done w nb (j * 4) l[j] w') : Mix w' S nb l (j + 1) := by
  intro i hi
  rcases Nat.lt_trichotomy i j with hij | hij | hij
  · obtain ⟨v0, v1, v2, v3, c0, c1, c2, c3, hl⟩ := h i hi
    rw [if_pos hij] at hl
    refine ⟨v0, v1, v2, v3, (hd.keep (by omega)).trans c0, (hd.keep (by omega)).trans c1, (hd.keep (by omega)).trans c2, (hd.keep (by omega)).trans c3, ?_⟩
    rw [if_pos (by omega)]
    exact hl.move (fun _ h => h) (fun b o v hb hc => hd.far (by omega) hc) _ _
  · subst hij
    obtain ⟨v0, v1, v2, v3, c0, c1, c2, c3, hl⟩ := hd.term
    refine ⟨v0, v1, v2, v3, c0, c1, c2, c3, ?_⟩
    rw [if_pos (by omega)]
    exact hl.wider (fun b hb => by omega)
  · obtain ⟨v0, v1, v2, v3, c0, c1, c2, c3, hl⟩ := h i hi
    rw [if_neg (by omega)] at hl
    refine ⟨v0, v1, v2, v3, (hd.keep (by omega)).trans c0, (hd.keep (by omega)).trans c1, (hd.keep (by omega)).trans c2, (hd.keep (by omega)).trans c3, ?_⟩
    rw [if_neg (by omega)]
    exact hl.move (fun _ h => h) (fun b o v hb hc => hd.far (by have := hS b hb; omega) hc) _ _

theorem set_same {c : Array Value} {o : Nat} {v : Value} (h : c[o]? = some v) : c.setIfInBounds o v = c := by
  obtain ⟨hlt, hc⟩ := Array.getElem?_eq_some_iff.1 h
  apply Array.ext
  · simp
  · intro i h1 h2
    rw [Array.getElem_setIfInBounds]
    split
    · rename_i hi
      subst hi
      exact hc.symm
    · rfl

/-- A store of what is there changes nothing. -/
theorem setCell_id {w : World} {b o : Nat} {v : Value} (h : w.cell? ⟨b, o, none⟩ = some v) : w.setCell ⟨b, o, none⟩ v = w := by
  have key : ∀ h', h' = w.heap → ({ w with heap := h' } : World) = w := by
    rintro _ rfl
    rfl
  refine key _ ?_
  unfold World.cell? at h
  split at h
  · rename_i c e f hb
    have h' : c[o]? = some v := h
    obtain ⟨hltb, hcb⟩ := Array.getElem?_eq_some_iff.1 hb
    apply Array.ext
    · simp
    · intro i h1 h2
      rw [Array.getElem_modify]
      split
      · rename_i hi
        have hi' : b = i := hi
        subst hi'
        have hcb' : w.heap[b] = .cells c e f := hcb
        rw [hcb']
        show Obj.cells (c.setIfInBounds o v) e f = Obj.cells c e f
        rw [set_same h']
      · rfl
  · cases h

/-- The last part, too, is detached: the whole is. -/
theorem done_step {wr w5 w6 wq w' : World} {S : Nat → Prop} {n₀ qb qo nb m cap : Nat} {k n : Int} {s : ByteArray} {l : List Tm} {c : Array Value} {t : TypeId} (hlen : l.length = m + 1) (hcap : m + 1 ≤ cap) (hcap2 : cap ≤ 9223372036854775807) (hsm : Small k n s)
    (hc : wr.heap[qb]? = some (.cells c t (0, 0))) (c0 : c[qo]? = some (.int .i64 k)) (c1 : c[qo + 1]? = some (.int .i64 n)) (c2 : c[qo + 2]? = some (.string s)) (c3 : qo + 3 < c.size)
    (h5 : Below wr.heap.size wr w5) (h6 : Below w5.heap.size w5 w6) (hnb : w5.heap.size ≤ nb) (hnb6 : nb < w6.heap.size)
    (hos : wq.os = w6.os) (htape : wq.tape = w6.tape) (hout : wq.output = w6.output) (hsz : w6.heap.size ≤ wq.heap.size)
    (hq : ∀ j, j < w6.heap.size → j ≠ nb → wq.heap[j]? = (w6.setCell ⟨qb, qo + 3, none⟩ (.slice (some ⟨nb, 0, none⟩) (m + 1) cap)).heap[j]?) (hmix : Mix wq S nb l m) (hS : ∀ b, S b → b < n₀) (hn : n₀ ≤ nb)
    (hd : Done wq nb (m * 4) (l[m]'(by omega)) w') : Done wr qb qo (.mk k n s l) w' := by
  have z5 := h5.size
  have z6 := h6.size
  have hlt : qb < wr.heap.size := (Array.getElem?_eq_some_iff.1 hc).1
  have e6 : w6.heap[qb]? = some (.cells c t (0, 0)) := (h6.block _ (by omega)).trans ((h5.block _ hlt).trans hc)
  have e7 : (w6.setCell ⟨qb, qo + 3, none⟩ (.slice (some ⟨nb, 0, none⟩) (m + 1) cap)).heap[qb]? = some (.cells (c.setIfInBounds (qo + 3) (.slice (some ⟨nb, 0, none⟩) (m + 1) cap)) t (0, 0)) := by
    simp [World.setCell, Array.getElem?_modify, e6]
  have e' : w'.heap[qb]? = some (.cells (c.setIfInBounds (qo + 3) (.slice (some ⟨nb, 0, none⟩) (m + 1) cap)) t (0, 0)) := (hd.other qb (by omega) (by omega)).trans ((hq qb (by omega) (by omega)).trans e7)
  have hmix' := hmix.step (by omega) hS hn (by omega) hd
  refine ⟨hd.os.trans (hos.trans (h6.os.trans h5.os)), hd.tape.trans (htape.trans (h6.tape.trans h5.tape)), hd.output.trans (hout.trans (h6.output.trans h5.output)), by have := hd.size; omega, ?_, ?_, ?_⟩
  · intro j hj hne
    rw [hd.other j (by omega) (by omega), hq j (by omega) (by omega), Below.heap_setCell _ _ _ _ hne, h6.block j (by omega), h5.block j hj]
  · refine ⟨c, _, t, hc, e', by simp, fun j hj => ?_⟩
    rw [Array.getElem?_setIfInBounds_ne (by omega)]
  · have cell : ∀ j, w'.cell? ⟨qb, j, none⟩ = (c.setIfInBounds (qo + 3) (.slice (some ⟨nb, 0, none⟩) (m + 1) cap))[j]? := fun j => cell_of_row w' qb j _ t (0, 0) e'
    refine ⟨_, _, _, _, (cell _).trans ((Array.getElem?_setIfInBounds_ne (by omega)).trans c0), (cell _).trans ((Array.getElem?_setIfInBounds_ne (by omega)).trans c1), (cell _).trans ((Array.getElem?_setIfInBounds_ne (by omega)).trans c2),
      (cell _).trans (by rw [Array.getElem?_setIfInBounds_self_of_lt c3]), ?_⟩
    have hL := Lies.mk (w := w') (S := fun b => wr.heap.size ≤ b) (k := k) (n := n) (s := s) (l := l) (a := some ⟨nb, 0, none⟩) (cap := cap) hsm ⟨by omega, hcap2, Or.inr ⟨_, rfl, fun _ => ⟨by show wr.heap.size ≤ nb; omega, rfl⟩, Row.of fun i hi => ?_⟩⟩
    · rwa [hlen] at hL
    · obtain ⟨v0, v1, v2, v3, d0, d1, d2, d3, hl⟩ := hmix' i hi
      rw [if_pos (by omega)] at hl
      show ∃ v0 v1 v2 v3, w'.cell? ⟨nb, 0 + i * 4, none⟩ = some v0 ∧ w'.cell? ⟨nb, 0 + i * 4 + 1, none⟩ = some v1 ∧ w'.cell? ⟨nb, 0 + i * 4 + 2, none⟩ = some v2 ∧ w'.cell? ⟨nb, 0 + i * 4 + 3, none⟩ = some v3 ∧ _
      rw [Nat.zero_add]
      exact ⟨v0, v1, v2, v3, d0, d1, d2, d3, hl.wider (fun b hb => by omega)⟩

end Go.Proofs.YtaiiicmldogjoaaDoor

/-
  The closure that detaches a term, walked.
-/
namespace Go.Proofs.YtaiiicmldogjoaaDoor
open Go.RowKit Go.Deep

/-- The cells of a row, as a list. -/
theorem Row.list {w : World} {S : Nat → Prop} {l : List Tm} : ∀ {b o : Nat}, Row w S l b o → ∃ xs : List Value, xs.length = l.length * 4 ∧ (∀ j u, xs[j]? = some u → w.cell? ⟨b, o + j, none⟩ = some u) ∧ (∀ u ∈ xs, u.oneCell' = true) ∧
    ∀ i (hi : i < l.length), ∃ v0 v1 v2 v3, xs[i * 4]? = some v0 ∧ xs[i * 4 + 1]? = some v1 ∧ xs[i * 4 + 2]? = some v2 ∧ xs[i * 4 + 3]? = some v3 ∧ Lies w S l[i] (.agg #[v0, v1, v2, v3]) := by
  induction l with
  | nil => intro b o _; exact ⟨[], rfl, fun j u h => by simp at h, fun u h => by simp at h, fun i hi => by cases hi⟩
  | cons t r ih =>
    intro b o h
    rw [Row] at h
    obtain ⟨⟨v0, v1, v2, v3, c0, c1, c2, c3, hl⟩, hr⟩ := h
    obtain ⟨xs, hx, hc, h1, hi⟩ := ih hr
    refine ⟨v0 :: v1 :: v2 :: v3 :: xs, by simp only [List.length_cons, hx]; omega, ?_, ?_, ?_⟩
    · intro j u hu
      match j, hu with
      | 0, hu => simp at hu; subst hu; exact c0
      | 1, hu => simp at hu; subst hu; exact c1
      | 2, hu => simp at hu; subst hu; exact c2
      | 3, hu => simp at hu; subst hu; exact c3
      | j + 4, hu =>
        have := hc j u (by simpa using hu)
        rwa [show o + 4 + j = o + (j + 4) by omega] at this
    · obtain ⟨k, n, s, m⟩ := t
      obtain ⟨a, cap, hv, _, _⟩ := hl.out
      simp only [Value.agg.injEq, Array.mk.injEq, List.cons.injEq, and_true] at hv
      obtain ⟨rfl, rfl, rfl, rfl⟩ := hv
      intro u hu
      simp only [List.mem_cons] at hu
      rcases hu with rfl | rfl | rfl | rfl | hu
      · rfl
      · rfl
      · rfl
      · rfl
      · exact h1 u hu
    · intro i hi'
      cases i with
      | zero => exact ⟨v0, v1, v2, v3, rfl, rfl, rfl, rfl, hl⟩
      | succ i =>
        obtain ⟨u0, u1, u2, u3, e0, e1, e2, e3, hL⟩ := hi i (by simpa using hi')
        rw [show (i + 1) * 4 = i * 4 + 4 by omega]
        exact ⟨u0, u1, u2, u3, by simpa using e0, by simpa [show i * 4 + 4 + 1 = i * 4 + 1 + 4 by omega] using e1, by simpa [show i * 4 + 4 + 2 = i * 4 + 2 + 4 by omega] using e2, by simpa [show i * 4 + 4 + 3 = i * 4 + 3 + 4 by omega] using e3, hL⟩

/-- A row that has just been cloned. -/
theorem mix_made {w w6 : World} {S : Nat → Prop} {l : List Tm} {xs : List Value} {sv : Value} {base : Nat} (hpos : 0 < l.length) (hown : w6.ownsRow base 42 4 sv l.length xs)
    (hl : ∀ i (hi : i < l.length), ∃ v0 v1 v2 v3, xs[i * 4]? = some v0 ∧ xs[i * 4 + 1]? = some v1 ∧ xs[i * 4 + 2]? = some v2 ∧ xs[i * 4 + 3]? = some v3 ∧ Lies w S l[i] (.agg #[v0, v1, v2, v3]))
    (hb : Below w.heap.size w w6) : ∃ nb cap cur, sv = .slice (some ⟨nb, 0, none⟩) l.length cap ∧ base ≤ nb ∧ w6.heap[nb]? = some (.cells cur 42 (0, 0)) ∧ l.length ≤ cap ∧ cap ≤ 9223372036854775807 ∧ Mix w6 S nb l 0 := by
  obtain ⟨hx, ⟨_, hn⟩ | ⟨g, cap, cur, rfl, hbg, hg, hc, hm, hcs, htk⟩⟩ := hown
  · omega
  · refine ⟨g, cap, cur, rfl, hbg, hg, hc, hm, fun i hi => ?_⟩
    obtain ⟨v0, v1, v2, v3, e0, e1, e2, e3, hL⟩ := hl i hi
    have hcell : ∀ j u, xs[j]? = some u → w6.cell? ⟨g, j, none⟩ = some u := by
      intro j u hu
      rw [← htk, List.getElem?_take] at hu
      split at hu
      · rw [cell_of_row w6 g j cur 42 (0, 0) hg]
        simpa using hu
      · cases hu
    exact ⟨v0, v1, v2, v3, hcell _ _ e0, hcell _ _ e1, hcell _ _ e2, hcell _ _ e3, by rw [if_neg (by omega)]; exact hL.below hb⟩

/-- Of a term without parts. -/
theorem done_nil {wr w5 : World} {qb qo : Nat} {k n : Int} {s : ByteArray} {c : Array Value} {t : TypeId} (hsm : Small k n s)
    (hc : wr.heap[qb]? = some (.cells c t (0, 0))) (c0 : c[qo]? = some (.int .i64 k)) (c1 : c[qo + 1]? = some (.int .i64 n)) (c2 : c[qo + 2]? = some (.string s)) (c3 : qo + 3 < c.size)
    (h5 : Below wr.heap.size wr w5) : Done wr qb qo (.mk k n s []) (w5.setCell ⟨qb, qo + 3, none⟩ (.slice none 0 0)) := by
  have z5 := h5.size
  have hlt : qb < wr.heap.size := (Array.getElem?_eq_some_iff.1 hc).1
  have e5 : w5.heap[qb]? = some (.cells c t (0, 0)) := (h5.block _ hlt).trans hc
  have e' : (w5.setCell ⟨qb, qo + 3, none⟩ (.slice none 0 0)).heap[qb]? = some (.cells (c.setIfInBounds (qo + 3) (.slice none 0 0)) t (0, 0)) := by
    simp [World.setCell, Array.getElem?_modify, e5]
  refine ⟨h5.os, h5.tape, h5.output, by rw [size_setCell']; exact z5, ?_, ?_, ?_⟩
  · intro j hj hne
    rw [Below.heap_setCell _ _ _ _ hne, h5.block j hj]
  · refine ⟨c, _, t, hc, e', by simp, fun j hj => ?_⟩
    rw [Array.getElem?_setIfInBounds_ne (by omega)]
  · have cell : ∀ j, (w5.setCell ⟨qb, qo + 3, none⟩ (.slice none 0 0)).cell? ⟨qb, j, none⟩ = (c.setIfInBounds (qo + 3) (.slice none 0 0))[j]? := fun j => cell_of_row _ qb j _ t (0, 0) e'
    exact ⟨_, _, _, _, (cell _).trans ((Array.getElem?_setIfInBounds_ne (by omega)).trans c0), (cell _).trans ((Array.getElem?_setIfInBounds_ne (by omega)).trans c1), (cell _).trans ((Array.getElem?_setIfInBounds_ne (by omega)).trans c2),
      (cell _).trans (by rw [Array.getElem?_setIfInBounds_self_of_lt c3]; rfl), Lies.mk (l := []) (cap := 0) hsm ⟨Nat.le_refl _, by simp, Or.inl ⟨rfl, rfl, rfl⟩⟩⟩

/-- Four cells of a block. -/
def At4 (c : Array Value) (o : Nat) (v0 v1 v2 v3 : Value) : Prop := c[o]? = some v0 ∧ c[o + 1]? = some v1 ∧ c[o + 2]? = some v2 ∧ c[o + 3]? = some v3

end Go.Proofs.YtaiiicmldogjoaaDoor

/-
  Terms made outright: numbers, atoms, tuples, the empty list; the document's check.
-/
namespace Go.Proofs.YtaiiicmldogjoaaDoor
open Go.RowKit Go.Deep

/-- The return of a term that has just been made. -/
theorem ret_fresh {fn : Func} {R : Ending → World → Prop} {a : Act} {p : Tmp} {w : World} {v0 v1 v2 v3 : Value} {t : TypeId} (h : fn.results = #[.cell p 42]) (hp : a.tmps.getD p undef = .pointer (some ⟨w.heap.size, 0, none⟩)) (hd : a.defers = [])
    (hR : R (.returned (.agg #[v0, v1, v2, v3])) (w.alloc (.cells #[v0, v1, v2, v3] t))) : bodyPost Tryd.prog fn R .ret a (w.alloc (.cells #[v0, v1, v2, v3] t)) :=
  bodyPost_ret (results_term h _ hp (new_cell w _ _ 0) (new_cell w _ _ 1) (new_cell w _ _ 2) (new_cell w _ _ 3)) hd hR

theorem num_any (n : Int) (w : World) : Calls Tryd.prog 20 #[.int .i64 n] w fun e w' => e = .returned (.agg #[.int .i64 1, .int .i64 n, .string ⟨#[]⟩, .slice none 0 0]) ∧ Below w.heap.size w w' := by
  go_enter Tryd.func20, Tryd.ntmps20
  go_wp2
  exact ret_fresh rfl rfl rfl ⟨rfl, (Below.refl _ _).alloc (Nat.le_refl _) _⟩
theorem none_any  (w : World) : Calls Tryd.prog 23 #[] w fun e w' => e = .returned (.agg #[.int .i64 8, .int .i64 0, .string ⟨#[]⟩, .slice none 0 0]) ∧ Below w.heap.size w w' := by
  go_enter Tryd.func23, Tryd.ntmps23
  go_wp2
  exact ret_fresh rfl rfl rfl ⟨rfl, (Below.refl _ _).alloc (Nat.le_refl _) _⟩
theorem tup_any (a : Option Addr) (len cap : Nat) (w : World) : Calls Tryd.prog 19 #[.slice a len cap] w fun e w' => e = .returned (.agg #[.int .i64 7, .int .i64 0, .string ⟨#[]⟩, .slice a len cap]) ∧ Below w.heap.size w w' := by
  go_enter Tryd.func19, Tryd.ntmps19
  go_wp2
  exact ret_fresh rfl rfl rfl ⟨rfl, (Below.refl _ _).alloc (Nat.le_refl _) _⟩
theorem pick_any (x n : Int) (w : World) (hn : 1 ≤ n) (hn2 : n ≤ 4611686018427387904) : Calls Tryd.prog 28 #[.int .i64 x, .int .i64 n] w fun e w' => ∃ y : Int, e = .returned (.int .i64 y) ∧ 0 ≤ y ∧ y < n ∧ w = w' := by
  go_enter Tryd.func28, Tryd.ntmps28
  have h1 := Int.tmod_lt_of_pos x (b := n) (by omega)
  have h2 := Int.lt_tmod_of_pos x (b := n) (by omega)
  go_wp2
  all_goals go_ret
  · exact ⟨x.tmod n + n, by go_num, by omega, by omega, rfl⟩
  · exact ⟨_, rfl, by assumption, h1, rfl⟩

end Go.Proofs.YtaiiicmldogjoaaDoor
