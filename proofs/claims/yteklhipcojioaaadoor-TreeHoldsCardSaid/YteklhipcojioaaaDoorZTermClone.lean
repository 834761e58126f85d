/-
  strings.Clone and slices.Clone, as the program's copies call them.
-/
import Derived.Test.YteklhipcojioaaaDoorZTermWords
import Derived.Test.YteklhipcojioaaaDoorZTermOwn
import Derived.Shelf.Pu.Clone
import Derived.Test.YteklhipcojioaaaDoorZTermSame
import Derived.Deep.RegionWith
import Derived.Deep.LoopGhost
namespace Go.Proofs.YteklhipcojioaaaDoor
open Go.RowKit Go.Deep Go.Shelf

def cloneRen : Ren where
  f := fun n => if n = 25 then 85 else n
  t := fun n => match n with
    | 0 => 0
    | 3 => 3
    | 4 => 4
    | 5 => 5
    | 9 => 9
    | 37 => 109
    | 47 => 110
    | n => n
  g := fun n => n

theorem cloneLays : LaysPu.n25 Tryd.prog cloneRen := {
  mixed := by kernel_rfl
  f25 := by kernel_rfl
  t0 := by kernel_rfl
  a0 := fun _ => by kernel_rfl
  z0 := fun _ => by kernel_rfl
  v0 := fun _ => by kernel_rfl
  i0 := by kernel_rfl
  t3 := by kernel_rfl
  a3 := fun _ => by kernel_rfl
  z3 := fun _ => by kernel_rfl
  v3 := fun _ => by kernel_rfl
  i3 := by kernel_rfl
  t4 := by kernel_rfl
  a4 := fun _ => by kernel_rfl
  z4 := fun _ => by kernel_rfl
  v4 := fun _ => by kernel_rfl
  i4 := by kernel_rfl
  t5 := by kernel_rfl
  a5 := fun _ => by kernel_rfl
  z5 := fun _ => by kernel_rfl
  v5 := fun _ => by kernel_rfl
  i5 := by kernel_rfl
  t9 := by kernel_rfl
  a9 := fun _ => by kernel_rfl
  z9 := fun _ => by kernel_rfl
  v9 := fun _ => by kernel_rfl
  i9 := by kernel_rfl
  t37 := by kernel_rfl
  a37 := fun _ => by kernel_rfl
  z37 := fun _ => by kernel_rfl
  v37 := fun _ => by kernel_rfl
  i37 := by kernel_rfl
  t47 := by kernel_rfl
  a47 := fun _ => by kernel_rfl
  z47 := fun _ => by kernel_rfl
  v47 := fun _ => by kernel_rfl
  i47 := by kernel_rfl }

theorem textClone_in (s : ByteArray) (w : World) (hs : s.size ≤ 281474976710656) : Calls Tryd.prog 85 #[.string s] w fun e w' => e = .returned (.string s) ∧ Below w.heap.size w w' :=
  AnyPu.stringslite_Clone cloneLays s w hs

theorem textClone_any (s : ByteArray) (w : World) (hs : s.size ≤ 281474976710656) : Calls Tryd.prog 72 #[.string s] w fun e w' => e = .returned (.string s) ∧ Below w.heap.size w w' := by
  go_enter Tryd.func72, Tryd.ntmps72
  go_wp2_with (go_at_call 85; refine (textClone_in s _ hs).mono ?_; rintro e w1 ⟨rfl, hb⟩)
  go_ret
  exact ⟨rfl, hb⟩

/-- A slice in new memory, with these cells. -/
def RowMade (w : World) (n : Nat) (xs : List Value) (e : Ending) (w' : World) : Prop := ∃ sv, e = .returned sv ∧ w'.ownsRow w.heap.size 32 4 sv n xs

set_option maxHeartbeats 400000 in
theorem termsClone_any (ad : Addr) (len cap : Nat) (xs : List Value) (w : World) (hl : xs.length = len * 4) (hc : ∀ j u, xs[j]? = some u → w.cell? (ad.add j) = some u) (h1 : ∀ u ∈ xs, u.oneCell' = true) (hlen : len ≤ 1000000) :
    Calls Tryd.prog 73 #[.slice (some ad) len cap] w fun e w' => RowMade w len xs e w' ∧ Below w.heap.size w w' := by
  obtain ⟨i0, hi0, hz0, hz1, hby⟩ := info_at termInfo
  go_enter Tryd.func73, Tryd.ntmps73
  have hnil : ∀ W : World, (binOp BinOp.eql 30 (.slice (some ad) len cap) (.slice none 0 0)).run Tryd.prog W = .ok (.bool false) W := fun W => by kernel_rfl
  have hown : (w.alloc (.cells #[] 32)).ownsRow w.heap.size 32 4 (.slice (some ⟨w.heap.size, 0, none⟩) 0 0) 0 [] := World.ownsRow_made w #[] 0 (Nat.le_refl _) (Nat.zero_le _) rfl
  have hc1 : ∀ j u, xs[j]? = some u → (w.alloc (.cells #[] 32)).cell? (ad.add j) = some u := fun j u hu => by
    have h := hc j u hu
    have hlt := World.block_lt_of_cell? w _ h
    rw [((Below.refl w.heap.size w).alloc (Nat.le_refl _) (.cells #[] 32)).cell hlt]
    exact h
  go_wp2_with (at_builtin; refine wpList_append_own_at _ rfl _ _ 30 rfl w.heap.size 32 i0 _ 4 56 Tryd.underlying30 hi0 hz0 hz1 hby rfl (by decide) _ 0 [] rfl hown ad len cap xs rfl hl hc1 h1 (by unfold maxLen; omega) (by omega) (by simp) ?_; intro v' w3 hown' hgrow hnil hat)
  go_ret
  rw [Nat.zero_add, List.nil_append] at hown'
  exact ⟨⟨_, rfl, hown'⟩, ((Below.refl _ w).alloc (Nat.le_refl _) _).grown hgrow (by simp) (fun k hk => (hown.lt k hk).1)⟩

end Go.Proofs.YteklhipcojioaaaDoor

/-
  Terms made outright: numbers, atoms, tuples, the empty list; the document's check.
-/
namespace Go.Proofs.YteklhipcojioaaaDoor
open Go.RowKit Go.Deep

theorem refcheck_any (T : Tm) (hsz : T.size ≤ 1000000) (S : Nat → Prop) (v : Value) (w : World) (hv : Lies w S T v) :
    Calls Tryd.prog 64 #[v] w fun e w' => e = .returned (.int .i64 T.check) ∧ Below w.heap.size w w' := by
  have hp := Hid.mk (fun (w1 : World) (hb : Below w.heap.size w w1) => refparts_any T S v w1 (hv.below hb))
  have hw := Hid.mk (fun (w1 : World) (hb : Below w.heap.size w w1) => refwords_any T hsz S v w1 (hv.below hb))
  have hr := words_le T
  have hck : Hid (T.check = if T.fits = true then (if 65536 < T.wordsR then 3 else 0) else 2) := Hid.mk (by rw [Tm.check, fits_pre, words_pre, longE])
  generalize T.check = c at hck ⊢
  generalize T.fits = f at hp hck
  generalize T.wordsR = x at hw hck hr
  obtain ⟨k, n, s, l⟩ := T
  obtain ⟨a, cap, rfl, hs, hl⟩ := hv.out
  clear hv hl
  cases f
  all_goals
    go_enter Tryd.func64, Tryd.ntmps64
    go_wp2_with (first
      | (go_at_call 77; refine (hp.out _ ((Below.refl _ _).alloc (Nat.le_refl _) _)).mono ?_; rintro e w2 ⟨rfl, hb2⟩; obtain ⟨⟨g0, g1, g2, g3⟩, f0, f1, f2, f3⟩ := kept4 (new_block w _) hb2; have hb3 : Below w.heap.size w w2 := ((Below.refl w.heap.size w).alloc (Nat.le_refl _) _).trans (hb2.mono (by simp)); have hz := hb3.size)
      | (go_at_call 78; refine (hw.out _ hb3).mono ?_; rintro e w4 ⟨rfl, hb4⟩))
  all_goals go_ret
  · exact ⟨ret_int hck.out.symm, hb3⟩
  all_goals exact ⟨ret_int (by rw [hck.out]; simp; try omega), hb3.trans (hb4.mono hz)⟩

/-- The return of a term that has just been made. -/
theorem ret_fresh {fn : Func} {R : Ending → World → Prop} {a : Act} {p : Tmp} {w : World} {v0 v1 v2 v3 : Value} {t : TypeId} (h : fn.results = #[.cell p 32]) (hp : a.tmps.getD p undef = .pointer (some ⟨w.heap.size, 0, none⟩)) (hd : a.defers = [])
    (hR : R (.returned (.agg #[v0, v1, v2, v3])) (w.alloc (.cells #[v0, v1, v2, v3] t))) : bodyPost Tryd.prog fn R .ret a (w.alloc (.cells #[v0, v1, v2, v3] t)) :=
  bodyPost_ret (results_term h _ hp (new_cell w _ _ 0) (new_cell w _ _ 1) (new_cell w _ _ 2) (new_cell w _ _ 3)) hd hR

theorem num_any (n : Int) (w : World) : Calls Tryd.prog 28 #[.int .i64 n] w fun e w' => e = .returned (.agg #[.int .i64 1, .int .i64 n, .string ⟨#[]⟩, .slice none 0 0]) ∧ Below w.heap.size w w' := by
  go_enter Tryd.func28, Tryd.ntmps28
  go_wp2
  exact ret_fresh rfl rfl rfl ⟨rfl, (Below.refl _ _).alloc (Nat.le_refl _) _⟩
theorem sameAll_any (l l' : List Tm) (S S' : Nat → Prop) (a a' : Option Addr) (cap cap' : Nat) (w : World) (hl : Lst w S l a cap) (hl' : Lst w S' l' a' cap') :
    Calls Tryd.prog 16 #[.slice a l.length cap, .slice a' l'.length cap'] w fun e w' => e = .returned (.bool (eqL l l')) ∧ Below w.heap.size w w' := by
  have hc := Hid.mk (sameTerms_of l l' (fun t _ => sameTerm_any t) S S' a a' cap cap' w hl hl')
  go_enter Tryd.func16, Tryd.ntmps16
  go_wp2_with (go_at_call 50; refine hc.out.mono ?_; rintro e w2 ⟨rfl, hb2⟩)
  go_ret
  exact ⟨rfl, hb2⟩
theorem pick_any (x n : Int) (w : World) (hn : 1 ≤ n) (hn2 : n ≤ 4611686018427387904) : Calls Tryd.prog 33 #[.int .i64 x, .int .i64 n] w fun e w' => ∃ y : Int, e = .returned (.int .i64 y) ∧ 0 ≤ y ∧ y < n ∧ w = w' := by
  go_enter Tryd.func33, Tryd.ntmps33
  have h1 := Int.tmod_lt_of_pos x (b := n) (by omega)
  have h2 := Int.lt_tmod_of_pos x (b := n) (by omega)
  go_wp2
  all_goals go_ret
  · exact ⟨x.tmod n + n, by go_num, by omega, by omega, rfl⟩
  · exact ⟨_, rfl, by assumption, h1, rfl⟩

end Go.Proofs.YteklhipcojioaaaDoor

/-
  A term is detached, in place, from the memory that it shares with others: what has become of memory then, and how one part behind the other comes to that.
-/
namespace Go.Proofs.YteklhipcojioaaaDoor
open Go.RowKit Go.Deep

/-- Nothing that was there is other than it was, but for four cells of one block; and there is the term now, all its rows new. -/
structure Done (w : World) (pb po : Nat) (T : Tm) (w' : World) : Prop where
  os : w'.os = w.os
  tape : w'.tape = w.tape
  output : w'.output = w.output
  size : w.heap.size ≤ w'.heap.size
  other : ∀ k, k < w.heap.size → k ≠ pb → w'.heap[k]? = w.heap[k]?
  row : ∃ (c c' : Array Value) (t : TypeId), w.heap[pb]? = some (.cells c t (0, 0)) ∧ w'.heap[pb]? = some (.cells c' t (0, 0)) ∧ c'.size = c.size ∧ ∀ j, (j < po ∨ po + 4 ≤ j) → c'[j]? = c[j]?
  term : ∃ v0 v1 v2 v3, w'.cell? ⟨pb, po, none⟩ = some v0 ∧ w'.cell? ⟨pb, po + 1, none⟩ = some v1 ∧ w'.cell? ⟨pb, po + 2, none⟩ = some v2 ∧ w'.cell? ⟨pb, po + 3, none⟩ = some v3 ∧ Own w' T w.heap.size w'.heap.size (.agg #[v0, v1, v2, v3])

theorem Done.keep {w w' : World} {pb po j : Nat} {T : Tm} (h : Done w pb po T w') (hj : j < po ∨ po + 4 ≤ j) : w'.cell? ⟨pb, j, none⟩ = w.cell? ⟨pb, j, none⟩ := by
  obtain ⟨c, c', t, h1, h2, _, h4⟩ := h.row
  rw [cell_of_row w pb j c t (0, 0) h1, cell_of_row w' pb j c' t (0, 0) h2, h4 j hj]
theorem Done.far {w w' : World} {pb po : Nat} {T : Tm} (h : Done w pb po T w') {b o : Nat} {v : Value} (hb : b ≠ pb) (hc : w.cell? ⟨b, o, none⟩ = some v) : w'.cell? ⟨b, o, none⟩ = some v := by
  rw [World.cell?_of_block (w := w) (a := ⟨b, o, none⟩) (h.other b (World.block_lt_of_cell? w ⟨b, o, none⟩ hc) hb)]
  exact hc

/-- A row of which the first parts are new, each in a stretch of memory of its own. -/
structure Mix (w : World) (S : Nat → Prop) (nb cap : Nat) (l : List Tm) (j : Nat) : Prop where
  all : ∀ i (hi : i < l.length), ∃ v0 v1 v2 v3, w.cell? ⟨nb, i * 4, none⟩ = some v0 ∧ w.cell? ⟨nb, i * 4 + 1, none⟩ = some v1 ∧ w.cell? ⟨nb, i * 4 + 2, none⟩ = some v2 ∧ w.cell? ⟨nb, i * 4 + 3, none⟩ = some v3 ∧
    (j ≤ i → Lies w S l[i] (.agg #[v0, v1, v2, v3]))
  kids : ∃ xs, xs.length = j * 4 ∧ (∀ p u, xs[p]? = some u → w.cell? ⟨nb, p, none⟩ = some u) ∧ Kids w (l.take j) (nb + 1) w.heap.size (some nb) xs
  block : ∃ cur, w.heap[nb]? = some (.cells cur 32 (0, 0)) ∧ cur.size = cap * 4
  up : nb + 1 ≤ w.heap.size

theorem Mix.step {w w' : World} {S : Nat → Prop} {nb cap n₀ j : Nat} {l : List Tm} (h : Mix w S nb cap l j) (hj : j < l.length) (hS : ∀ b, S b → b < n₀) (hn : n₀ ≤ nb) (hnb : nb < w.heap.size) (hd : Done w nb (j * 4) l[j] w') : Mix w' S nb cap l (j + 1) := by
  refine ⟨fun i hi => ?_, ?_, ?_, by have := hd.size; omega⟩
  · rcases Nat.lt_trichotomy i j with hij | hij | hij
    · obtain ⟨v0, v1, v2, v3, c0, c1, c2, c3, hl⟩ := h.all i hi
      exact ⟨v0, v1, v2, v3, (hd.keep (by omega)).trans c0, (hd.keep (by omega)).trans c1, (hd.keep (by omega)).trans c2, (hd.keep (by omega)).trans c3, fun e => by omega⟩
    · subst hij
      obtain ⟨v0, v1, v2, v3, c0, c1, c2, c3, hl⟩ := hd.term
      exact ⟨v0, v1, v2, v3, c0, c1, c2, c3, fun e => by omega⟩
    · obtain ⟨v0, v1, v2, v3, c0, c1, c2, c3, hl⟩ := h.all i hi
      refine ⟨v0, v1, v2, v3, (hd.keep (by omega)).trans c0, (hd.keep (by omega)).trans c1, (hd.keep (by omega)).trans c2, (hd.keep (by omega)).trans c3, fun _ => ?_⟩
      exact (hl (by omega)).move (fun _ h => h) (fun b o v hb hc => hd.far (by have := hS b hb; omega) hc) _ _
  · obtain ⟨xs, x1, x2, x3⟩ := h.kids
    obtain ⟨v0, v1, v2, v3, c0, c1, c2, c3, hl⟩ := hd.term
    have hk := Kids.snoc (t := l[j]) hd.size (fun g hg => by cases hg; omega) hl h.up (Kids.move (w' := w') (Nat.le_refl _) (Nat.le_refl _) (fun k h1 h2 h3 => hd.other k h2 (by omega)) (fun g hg => Or.inl hg) x3)
    refine ⟨xs ++ [v0, v1, v2, v3], by simp [x1]; omega, fun p u hu => ?_, ?_⟩
    · by_cases hp : p < xs.length
      · rw [List.getElem?_append_left hp] at hu
        exact (hd.keep (by omega)).trans (x2 p u hu)
      · rw [List.getElem?_append_right (by omega)] at hu
        obtain ⟨q, hq⟩ : ∃ q, p = j * 4 + q := ⟨p - j * 4, by omega⟩
        subst hq
        rw [x1, Nat.add_sub_cancel_left] at hu
        match q, hu with
        | 0, hu => simp at hu; subst hu; exact c0
        | 1, hu => simp at hu; subst hu; exact c1
        | 2, hu => simp at hu; subst hu; exact c2
        | 3, hu => simp at hu; subst hu; exact c3
        | q + 4, hu => simp at hu
    · rw [List.take_add_one, List.getElem?_eq_getElem hj]
      exact hk
  · obtain ⟨cur, b1, b2⟩ := h.block
    obtain ⟨c, c', t, r1, r2, r3, _⟩ := hd.row
    rw [b1] at r1
    simp only [Option.some.injEq, Obj.cells.injEq, and_true] at r1
    obtain ⟨rfl, rfl⟩ := r1
    exact ⟨c', r2, r3.trans b2⟩

theorem set_same {c : Array Value} {o : Nat} {v : Value} (h : c[o]? = some v) : c.setIfInBounds o v = c := by
  obtain ⟨hlt, hc⟩ := Array.getElem?_eq_some_iff.1 h
  apply Array.ext
  · simp
  · intro i h1 h2
    rw [Array.getElem_setIfInBounds]
    split
    · rename_i hi
      subst hi
      exact hc.symm
    · rfl

/-- A store of what is there changes nothing. -/
theorem setCell_id {w : World} {b o : Nat} {v : Value} (h : w.cell? ⟨b, o, none⟩ = some v) : w.setCell ⟨b, o, none⟩ v = w := by
  have key : ∀ h', h' = w.heap → ({ w with heap := h' } : World) = w := by
    rintro _ rfl
    rfl
  refine key _ ?_
  unfold World.cell? at h
  split at h
  · rename_i c e f hb
    have h' : c[o]? = some v := h
    obtain ⟨hltb, hcb⟩ := Array.getElem?_eq_some_iff.1 hb
    apply Array.ext
    · simp
    · intro i h1 h2
      rw [Array.getElem_modify]
      split
      · rename_i hi
        have hi' : b = i := hi
        subst hi'
        have hcb' : w.heap[b] = .cells c e f := hcb
        rw [hcb']
        show Obj.cells (c.setIfInBounds o v) e f = Obj.cells c e f
        rw [set_same h']
      · rfl
  · cases h

/-- The last part, too, is detached: the whole is. -/
theorem done_step {wr w5 w6 wq w' : World} {S : Nat → Prop} {n₀ qb qo nb m cap : Nat} {k n : Int} {s : ByteArray} {l : List Tm} {c : Array Value} {t : TypeId} (hlen : l.length = m + 1) (hcap : m + 1 ≤ cap) (hcap2 : cap ≤ 9223372036854775807) (hsm : Small k n s)
    (hc : wr.heap[qb]? = some (.cells c t (0, 0))) (c0 : c[qo]? = some (.int .i64 k)) (c1 : c[qo + 1]? = some (.int .i64 n)) (c2 : c[qo + 2]? = some (.string s)) (c3 : qo + 3 < c.size)
    (h5 : Below wr.heap.size wr w5) (h6 : Below w5.heap.size w5 w6) (hnb : w5.heap.size ≤ nb) (hnb6 : nb < w6.heap.size)
    (hos : wq.os = w6.os) (htape : wq.tape = w6.tape) (hout : wq.output = w6.output) (hsz : w6.heap.size ≤ wq.heap.size)
    (hq : ∀ j, j < w6.heap.size → j ≠ nb → wq.heap[j]? = (w6.setCell ⟨qb, qo + 3, none⟩ (.slice (some ⟨nb, 0, none⟩) (m + 1) cap)).heap[j]?) (hmix : Mix wq S nb cap l m) (hS : ∀ b, S b → b < n₀) (hn : n₀ ≤ nb)
    (hd : Done wq nb (m * 4) (l[m]'(by omega)) w') : Done wr qb qo (.mk k n s l) w' := by
  have z5 := h5.size
  have z6 := h6.size
  have hlt : qb < wr.heap.size := (Array.getElem?_eq_some_iff.1 hc).1
  have e6 : w6.heap[qb]? = some (.cells c t (0, 0)) := (h6.block _ (by omega)).trans ((h5.block _ hlt).trans hc)
  have e7 : (w6.setCell ⟨qb, qo + 3, none⟩ (.slice (some ⟨nb, 0, none⟩) (m + 1) cap)).heap[qb]? = some (.cells (c.setIfInBounds (qo + 3) (.slice (some ⟨nb, 0, none⟩) (m + 1) cap)) t (0, 0)) := by
    simp [World.setCell, Array.getElem?_modify, e6]
  have e' : w'.heap[qb]? = some (.cells (c.setIfInBounds (qo + 3) (.slice (some ⟨nb, 0, none⟩) (m + 1) cap)) t (0, 0)) := (hd.other qb (by omega) (by omega)).trans ((hq qb (by omega) (by omega)).trans e7)
  have hmix' := hmix.step (by omega) hS hn (by omega) hd
  refine ⟨hd.os.trans (hos.trans (h6.os.trans h5.os)), hd.tape.trans (htape.trans (h6.tape.trans h5.tape)), hd.output.trans (hout.trans (h6.output.trans h5.output)), by have := hd.size; omega, ?_, ?_, ?_⟩
  · intro j hj hne
    rw [hd.other j (by omega) (by omega), hq j (by omega) (by omega), Below.heap_setCell _ _ _ _ hne, h6.block j (by omega), h5.block j hj]
  · refine ⟨c, _, t, hc, e', by simp, fun j hj => ?_⟩
    rw [Array.getElem?_setIfInBounds_ne (by omega)]
  · have cell : ∀ j, w'.cell? ⟨qb, j, none⟩ = (c.setIfInBounds (qo + 3) (.slice (some ⟨nb, 0, none⟩) (m + 1) cap))[j]? := fun j => cell_of_row w' qb j _ t (0, 0) e'
    refine ⟨_, _, _, _, (cell _).trans ((Array.getElem?_setIfInBounds_ne (by omega)).trans c0), (cell _).trans ((Array.getElem?_setIfInBounds_ne (by omega)).trans c1), (cell _).trans ((Array.getElem?_setIfInBounds_ne (by omega)).trans c2),
      (cell _).trans (by rw [Array.getElem?_setIfInBounds_self_of_lt c3]), ?_⟩
    obtain ⟨xs, x1, x2, x3⟩ := hmix'.kids
    obtain ⟨cur, b1, b2⟩ := hmix'.block
    rw [← hlen] at x1
    have hxs : cur.toList.take (l.length * 4) = xs := by
      rw [← x1]
      apply List.ext_getElem?
      intro p
      rw [List.getElem?_take]
      split
      · rename_i hp
        have h1 := List.getElem?_eq_getElem hp
        have h2 := x2 p _ h1
        rw [cell_of_row w' nb p cur 32 (0, 0) b1] at h2
        rw [h1]
        simpa using h2
      · rw [List.getElem?_eq_none (by omega)]
    rw [← hlen]
    refine Own.mk hsm ⟨xs, ⟨x1, Or.inr ⟨nb, cap, cur, rfl, by omega, b1, by omega, hcap2, b2, hxs⟩⟩, fun g hg => (by cases hg; show nb < _; have := hd.size; omega), ?_⟩
    rw [← hlen, List.take_length] at x3
    exact Kids.move (by omega) (Nat.le_refl _) (fun _ _ _ _ => rfl) (fun g hg => Or.inl hg) x3

end Go.Proofs.YteklhipcojioaaaDoor

/-
  The closure that detaches a term, walked.
-/
namespace Go.Proofs.YteklhipcojioaaaDoor
open Go.RowKit Go.Deep

/-- The cells of a row, as a list. -/
theorem Row.list {w : World} {S : Nat → Prop} {l : List Tm} : ∀ {b o : Nat}, Row w S l b o → ∃ xs : List Value, xs.length = l.length * 4 ∧ (∀ j u, xs[j]? = some u → w.cell? ⟨b, o + j, none⟩ = some u) ∧ (∀ u ∈ xs, u.oneCell' = true) ∧
    ∀ i (hi : i < l.length), ∃ v0 v1 v2 v3, xs[i * 4]? = some v0 ∧ xs[i * 4 + 1]? = some v1 ∧ xs[i * 4 + 2]? = some v2 ∧ xs[i * 4 + 3]? = some v3 ∧ Lies w S l[i] (.agg #[v0, v1, v2, v3]) := by
  induction l with
  | nil => intro b o _; exact ⟨[], rfl, fun j u h => by simp at h, fun u h => by simp at h, fun i hi => by cases hi⟩
  | cons t r ih =>
    intro b o h
    rw [Row] at h
    obtain ⟨⟨v0, v1, v2, v3, c0, c1, c2, c3, hl⟩, hr⟩ := h
    obtain ⟨xs, hx, hc, h1, hi⟩ := ih hr
    refine ⟨v0 :: v1 :: v2 :: v3 :: xs, by simp only [List.length_cons, hx]; omega, ?_, ?_, ?_⟩
    · intro j u hu
      match j, hu with
      | 0, hu => simp at hu; subst hu; exact c0
      | 1, hu => simp at hu; subst hu; exact c1
      | 2, hu => simp at hu; subst hu; exact c2
      | 3, hu => simp at hu; subst hu; exact c3
      | j + 4, hu =>
        have := hc j u (by simpa using hu)
        rwa [show o + 4 + j = o + (j + 4) by omega] at this
    · obtain ⟨k, n, s, m⟩ := t
      obtain ⟨a, cap, hv, _, _⟩ := hl.out
      simp only [Value.agg.injEq, Array.mk.injEq, List.cons.injEq, and_true] at hv
      obtain ⟨rfl, rfl, rfl, rfl⟩ := hv
      intro u hu
      simp only [List.mem_cons] at hu
      rcases hu with rfl | rfl | rfl | rfl | hu
      · rfl
      · rfl
      · rfl
      · rfl
      · exact h1 u hu
    · intro i hi'
      cases i with
      | zero => exact ⟨v0, v1, v2, v3, rfl, rfl, rfl, rfl, hl⟩
      | succ i =>
        obtain ⟨u0, u1, u2, u3, e0, e1, e2, e3, hL⟩ := hi i (by simpa using hi')
        rw [show (i + 1) * 4 = i * 4 + 4 by omega]
        exact ⟨u0, u1, u2, u3, by simpa using e0, by simpa [show i * 4 + 4 + 1 = i * 4 + 1 + 4 by omega] using e1, by simpa [show i * 4 + 4 + 2 = i * 4 + 2 + 4 by omega] using e2, by simpa [show i * 4 + 4 + 3 = i * 4 + 3 + 4 by omega] using e3, hL⟩

/-- A row that has just been cloned. -/
theorem mix_made {w w6 : World} {S : Nat → Prop} {l : List Tm} {xs : List Value} {sv : Value} {base : Nat} (hpos : 0 < l.length) (hown : w6.ownsRow base 32 4 sv l.length xs)
    (hl : ∀ i (hi : i < l.length), ∃ v0 v1 v2 v3, xs[i * 4]? = some v0 ∧ xs[i * 4 + 1]? = some v1 ∧ xs[i * 4 + 2]? = some v2 ∧ xs[i * 4 + 3]? = some v3 ∧ Lies w S l[i] (.agg #[v0, v1, v2, v3]))
    (hb : Below w.heap.size w w6) : ∃ nb cap cur, sv = .slice (some ⟨nb, 0, none⟩) l.length cap ∧ base ≤ nb ∧ w6.heap[nb]? = some (.cells cur 32 (0, 0)) ∧ l.length ≤ cap ∧ cap ≤ 9223372036854775807 ∧ Mix w6 S nb cap l 0 := by
  obtain ⟨hx, ⟨_, hn⟩ | ⟨g, cap, cur, rfl, hbg, hg, hc, hm, hcs, htk⟩⟩ := hown
  · omega
  · refine ⟨g, cap, cur, rfl, hbg, hg, hc, hm, ⟨fun i hi => ?_, ⟨[], rfl, fun p u hu => by simp at hu, by rw [List.take_zero, Kids]⟩, ⟨cur, hg, hcs⟩, (Array.getElem?_eq_some_iff.1 hg).1⟩⟩
    obtain ⟨v0, v1, v2, v3, e0, e1, e2, e3, hL⟩ := hl i hi
    have hcell : ∀ j u, xs[j]? = some u → w6.cell? ⟨g, j, none⟩ = some u := by
      intro j u hu
      rw [← htk, List.getElem?_take] at hu
      split at hu
      · rw [cell_of_row w6 g j cur 32 (0, 0) hg]
        simpa using hu
      · cases hu
    exact ⟨v0, v1, v2, v3, hcell _ _ e0, hcell _ _ e1, hcell _ _ e2, hcell _ _ e3, fun _ => hL.below hb⟩

/-- Of a term without parts. -/
theorem done_nil {wr w5 : World} {qb qo : Nat} {k n : Int} {s : ByteArray} {c : Array Value} {t : TypeId} (hsm : Small k n s)
    (hc : wr.heap[qb]? = some (.cells c t (0, 0))) (c0 : c[qo]? = some (.int .i64 k)) (c1 : c[qo + 1]? = some (.int .i64 n)) (c2 : c[qo + 2]? = some (.string s)) (c3 : qo + 3 < c.size)
    (h5 : Below wr.heap.size wr w5) : Done wr qb qo (.mk k n s []) (w5.setCell ⟨qb, qo + 3, none⟩ (.slice none 0 0)) := by
  have z5 := h5.size
  have hlt : qb < wr.heap.size := (Array.getElem?_eq_some_iff.1 hc).1
  have e5 : w5.heap[qb]? = some (.cells c t (0, 0)) := (h5.block _ hlt).trans hc
  have e' : (w5.setCell ⟨qb, qo + 3, none⟩ (.slice none 0 0)).heap[qb]? = some (.cells (c.setIfInBounds (qo + 3) (.slice none 0 0)) t (0, 0)) := by
    simp [World.setCell, Array.getElem?_modify, e5]
  refine ⟨h5.os, h5.tape, h5.output, by rw [size_setCell']; exact z5, ?_, ?_, ?_⟩
  · intro j hj hne
    rw [Below.heap_setCell _ _ _ _ hne, h5.block j hj]
  · refine ⟨c, _, t, hc, e', by simp, fun j hj => ?_⟩
    rw [Array.getElem?_setIfInBounds_ne (by omega)]
  · have cell : ∀ j, (w5.setCell ⟨qb, qo + 3, none⟩ (.slice none 0 0)).cell? ⟨qb, j, none⟩ = (c.setIfInBounds (qo + 3) (.slice none 0 0))[j]? := fun j => cell_of_row _ qb j _ t (0, 0) e'
    exact ⟨_, _, _, _, (cell _).trans ((Array.getElem?_setIfInBounds_ne (by omega)).trans c0), (cell _).trans ((Array.getElem?_setIfInBounds_ne (by omega)).trans c1), (cell _).trans ((Array.getElem?_setIfInBounds_ne (by omega)).trans c2),
      (cell _).trans (by rw [Array.getElem?_setIfInBounds_self_of_lt c3]), Own.mk hsm ⟨[], ⟨rfl, Or.inl ⟨rfl, rfl⟩⟩, fun g hg => (by cases hg), by rw [Kids]⟩⟩

/-- Four cells of a block. -/
def At4 (c : Array Value) (o : Nat) (v0 v1 v2 v3 : Value) : Prop := c[o]? = some v0 ∧ c[o + 1]? = some v1 ∧ c[o + 2]? = some v2 ∧ c[o + 3]? = some v3

set_option maxHeartbeats 4000000 in
set_option maxRecDepth 100000 in
theorem detach_any (z : Nat) : ∀ (T : Tm), T.size ≤ z → T.size ≤ 1000000 → T.Short → ∀ (S : Nat → Prop) (n₀ fb pb po : Nat) (c : Array Value) (t : TypeId) (v0 v1 v2 v3 : Value) (w : World), (∀ b, S b → b < n₀) → n₀ ≤ pb → n₀ ≤ fb → fb ≠ pb → fb < w.heap.size →
    w.cell? ⟨fb, 0, none⟩ = some (.func (.func 71) #[] #[.pointer (some ⟨fb, 0, none⟩)]) → w.heap[pb]? = some (.cells c t (0, 0)) → At4 c po v0 v1 v2 v3 → Lies w S T (.agg #[v0, v1, v2, v3]) →
    Calls Tryd.prog 71 #[.pointer (some ⟨pb, po, none⟩), .pointer (some ⟨fb, 0, none⟩)] w fun e w' => (∃ v, e = .returned v) ∧ Done w pb po T w' := by
  induction z with
  | zero => intro T hz; have := T.size_pos; omega
  | succ z ih0 =>
    intro T hz hmax hsh S n₀ fb pb po c t v0 v1 v2 v3 w hS hnp hnf hfp hfw hcl hc h4 hli
    have ih := Hid.mk ih0
    clear ih0
    obtain ⟨k, n, s, l⟩ := T
    obtain ⟨a, cap, hv, hsm, hl⟩ := hli.out
    simp only [Value.agg.injEq, Array.mk.injEq, List.cons.injEq, and_true] at hv
    obtain ⟨rfl, rfl, rfl, rfl⟩ := hv
    have hz' := Hid.mk hz
    have hmax' := Hid.mk hmax
    go_enter Tryd.func71, Tryd.ntmps71
    go_wp2
    go_loopg [0] (z + 1) (fun q s0 wr => ∃ (qb qo : Nat) (k' n' : Int) (s' : ByteArray) (l' : List Tm) (a' : Option Addr) (cap' : Nat) (c' : Array Value) (t' : TypeId), s0 = .pointer (some ⟨qb, qo, none⟩) ∧ Hid ((Tm.mk k' n' s' l').size ≤ q) ∧ Hid ((Tm.mk k' n' s' l').size ≤ 1000000) ∧
      q ≤ z + 1 ∧ Hid (Tm.mk k' n' s' l').Short ∧ wr.heap[qb]? = some (.cells c' t' (0, 0)) ∧ Hid (At4 c' qo (.int .i64 k') (.int .i64 n') (.string s') (.slice a' l'.length cap')) ∧ Small k' n' s' ∧ Lst wr S l' a' cap' ∧
      n₀ ≤ qb ∧ fb ≠ qb ∧ fb < wr.heap.size ∧ wr.cell? ⟨fb, 0, none⟩ = some (.func (.func 71) #[] #[.pointer (some ⟨fb, 0, none⟩)]) ∧ Hid (∀ w', Done wr qb qo (.mk k' n' s' l') w' → Done w pb po (.mk k n s l) w'))
    case atStart => exact ⟨pb, po, k, n, s, l, a, cap, c, t, rfl, hz', hmax', Nat.le_refl _, Hid.mk hsh, hc, Hid.mk h4, hsm, hl, hnp, hfp, hfw, hcl, Hid.mk (fun _ h => h)⟩
    case round =>
      obtain ⟨qb, qo, k', n', s', l', a', cap', c', t', rfl, hzq, hmq, hqz, hshq, hcq, h4q, hsmq, hlq, hnq, hfq, hfr, hclr, hK⟩ := hrel
      obtain ⟨p0, p1, p2, p3⟩ := h4q.out
      have p3lt : qo + 3 < c'.size := (Array.getElem?_eq_some_iff.1 p3).1
      have hqlt : qb < wr.heap.size := (Array.getElem?_eq_some_iff.1 hcq).1
      have g2 : wr.cell? ⟨qb, qo + 2, none⟩ = some (.string s') := (cell_of_row wr qb _ c' t' (0, 0) hcq).trans p2
      have hshs := (Tm.short_mk k' n' s' l').1 hshq.out
      have hs5 : ∀ w5 : World, Below wr.heap.size wr w5 → (w5.heap[qb]? = some (.cells c' t' (0, 0)) ∧ w5.cell? ⟨qb, qo + 2, none⟩ = some (.string s') ∧ w5.cell? ⟨qb, qo + 3, none⟩ = some (.slice a' l'.length cap') ∧ w5.frozen? ⟨qb, qo + 2, none⟩ = false ∧ w5.frozen? ⟨qb, qo + 3, none⟩ = false ∧ w5.setCell ⟨qb, qo + 2, none⟩ (.string s') = w5) := fun w5 hb5 => by
        have e5 : w5.heap[qb]? = some (.cells c' t' (0, 0)) := (hb5.block _ hqlt).trans hcq
        have g := (cell_of_row w5 qb (qo + 2) c' t' (0, 0) e5).trans p2
        exact ⟨e5, g, (cell_of_row w5 qb (qo + 3) c' t' (0, 0) e5).trans p3, by simp [World.frozen?, e5], by simp [World.frozen?, e5], setCell_id g⟩
      have hs5' := Hid.mk hs5
      have hcs := hshs.1
      clear hs5 p0 p1 p2 p3
      by_cases hl0 : l' = []
      · subst hl0
        go_wp2_with (go_at_call 72; refine (textClone_any s' _ (by omega)).mono ?_; rintro e w5 ⟨rfl, hb5⟩; obtain ⟨e5, g5, g6, f5, f6, i5⟩ := hs5'.out w5 hb5)
        obtain ⟨p0, p1, p2, p3⟩ := h4q.out
        refine bodyPost_ret (results_none rfl _ _ _) rfl ?_
        exact ⟨⟨_, rfl⟩, hK.out _ (done_nil hsmq hcq p0 p1 p2 p3lt hb5)⟩
      · have hpl : 0 < l'.length := List.length_pos_iff.2 hl0
        obtain ⟨b, o, rfl, hSb, hrow⟩ := hlq.some hpl
        obtain ⟨xs, hx, hxc, hx1, hxl⟩ := hrow.list
        obtain ⟨m, hm⟩ : ∃ m, l'.length = m + 1 := ⟨l'.length - 1, by omega⟩
        have hmlen := length_sizes l'
        have hmsz := Tm.size_mk k' n' s' l'
        have hmmax := hmq.out
        have hm6 : m + 1 ≤ 1000000 := by omega
        have hx' := Hid.mk hx
        have hxc' := Hid.mk hxc
        have hx1' := Hid.mk hx1
        have hxl' := Hid.mk hxl
        have hm0 : decide ((m : Int) < 0) = false := decide_eq_false (by omega)
        have hcap0 : m + 1 ≤ cap' := by have := hlq.1; omega
        have hcap1 : cap' ≤ 9223372036854775807 := hlq.2.1
        have hs5'' := hs5'.out
        rw [hm] at hs5''
        have hs5m := Hid.mk hs5''
        have hm' := Hid.mk hm
        clear hx hxc hx1 hxl hs5'' hs5' hmlen hmsz hmmax hm hl0 hpl
        go_wp2_with (first
          | (go_at_call 72; refine (textClone_any s' _ (by omega)).mono ?_; rintro e w5 ⟨rfl, hb5⟩; obtain ⟨e5, g5, g6, f5, f6, i5⟩ := hs5m.out w5 hb5)
          | (go_at_call 73; refine (termsClone_any ⟨b, o, none⟩ (m + 1) cap' xs w5 (by rw [hx'.out, hm'.out]) (fun j u hu => by rw [WideShapes.add_plain]; exact cell_below hb5 _ _ _ (hxc'.out j u hu)) hx1'.out hm6).mono ?_; rintro e w6 ⟨⟨sv, rfl, hown6⟩, hb6⟩; rw [← hm'.out] at hown6; obtain ⟨nb, cap6, cur6, hsv, hnb6, hh6, hcc6, hcm6, hmix6⟩ := mix_made (by rw [hm'.out]; omega) hown6 hxl'.out (hb5.trans (hb6.mono hb5.size)); rw [hm'.out] at hcc6 hsv; subst hsv; have e6 := (hb6.block _ (Array.getElem?_eq_some_iff.1 e5).1).trans e5; have k6 := (cell_of_row w6 qb (qo + 3) c' t' (0, 0) e6).trans (h4q.out.2.2.2.trans (by rw [hm'.out])); have fz6 : w6.frozen? ⟨qb, qo + 3, none⟩ = false := (by simp [World.frozen?, e6])))
        have hz5 := hb5.size
        have hz6 := hb6.size
        have hnb7 : nb < w6.heap.size := (Array.getElem?_eq_some_iff.1 hh6).1
        have hmix6' := Hid.mk hmix6
        clear hmix6 hown6 g5 g6 f5 f6 i5 k6 fz6
        have hfb6 : w6.cell? ⟨fb, 0, none⟩ = some (.func (.func 71) #[] #[.pointer (some ⟨fb, 0, none⟩)]) := cell_below (hb5.trans (hb6.mono hz5)) _ _ _ hclr
        obtain ⟨w7, hw7⟩ : ∃ w7, w6.setCell ⟨qb, qo + 3, none⟩ (.slice (some ⟨nb, 0, none⟩) (m + 1) cap6) = w7 := ⟨_, rfl⟩
        rw [hw7]
        have hz7 : w7.heap.size = w6.heap.size := by rw [← hw7, size_setCell']
        have hne : ∀ k, k ≠ qb → w7.heap[k]? = w6.heap[k]? := fun k hk => by rw [← hw7]; exact Below.heap_setCell _ _ _ _ hk
        have hq7 : w7.heap[qb]? = some (.cells (c'.setIfInBounds (qo + 3) (.slice (some ⟨nb, 0, none⟩) (m + 1) cap6)) t' (0, 0)) := by
          rw [← hw7]
          simp [World.setCell, Array.getElem?_modify, e6]
        have hos7 : w7.os = w6.os ∧ w7.tape = w6.tape ∧ w7.output = w6.output := by rw [← hw7]; exact ⟨rfl, rfl, rfl⟩
        have hmix7 : Mix w7 S nb cap6 l' 0 := by
          refine ⟨fun i hi => ?_, ⟨[], rfl, fun p u hu => by simp at hu, by rw [List.take_zero, Kids]⟩, (let ⟨cu, z1, z2⟩ := hmix6'.out.block; ⟨cu, (hne nb (by omega)).trans z1, z2⟩), by omega⟩
          obtain ⟨v0, v1, v2, v3, d0, d1, d2, d3, hL⟩ := hmix6'.out.all i hi
          have cm : ∀ (b o : Nat) (v : Value), b ≠ qb → w6.cell? ⟨b, o, none⟩ = some v → w7.cell? ⟨b, o, none⟩ = some v := fun b o v hb hc => by
            rw [World.cell?_of_block (w := w6) (a := ⟨b, o, none⟩) (hne b hb)]
            exact hc
          refine ⟨v0, v1, v2, v3, cm _ _ _ (by omega) d0, cm _ _ _ (by omega) d1, cm _ _ _ (by omega) d2, cm _ _ _ (by omega) d3, fun _ => ?_⟩
          exact (hL (Nat.zero_le _)).move (fun _ h => h) (fun b o v hb hc => cm b o v (by have := hS b hb; omega) hc) _ _
        have hw7' := Hid.mk hw7
        clear hw7
        go_loopw [33] (fun ii wq => ∃ (j : Nat) (cj : Array Value), j ≤ m ∧ ii = .int .i64 j ∧ (wq.os = w6.os ∧ wq.tape = w6.tape ∧ wq.output = w6.output) ∧ w6.heap.size ≤ wq.heap.size ∧ Hid (∀ k, k < w6.heap.size → k ≠ nb → wq.heap[k]? = w7.heap[k]?) ∧
          Hid (Mix wq S nb cap6 l' j) ∧ wq.heap[nb]? = some (.cells cj 32 (0, 0))) (fun ii _ => m - (intOf ii).toNat)
        case atStart => exact ⟨0, cur6, Nat.zero_le _, rfl, hos7, by omega, Hid.mk (fun _ _ _ => rfl), Hid.mk hmix7, (hne nb (by omega)).trans hh6⟩
        case round =>
          obtain ⟨j, cj, hj, rfl, hosq, hszq, hsame, hmixq, hcj⟩ := hrel
          have hqq := (hsame.out qb (by omega) (by omega)).trans hq7
          have k3 : wr.cell? ⟨qb, qo + 3, none⟩ = some (.slice (some ⟨nb, 0, none⟩) (m + 1) cap6) := (cell_of_row wr qb (qo + 3) _ t' (0, 0) hqq).trans (by rw [Array.getElem?_setIfInBounds_self_of_lt p3lt])
          have kf : wr.cell? ⟨fb, 0, none⟩ = some (.func (.func 71) #[] #[.pointer (some ⟨fb, 0, none⟩)]) := by
            rw [World.cell?_of_block (w := w6) (a := ⟨fb, 0, none⟩) ((hsame.out fb (by omega) (by omega)).trans (hne fb hfq))]
            exact hfb6
          have hjl : j < l'.length := by rw [hm'.out]; omega
          have hszj : l'[j].size + 1 ≤ gk ∧ l'[j].size ≤ 1000000 := by
            have h1 := sizes_at l' j hjl
            have h2 := Tm.size_mk k' n' s' l'
            have h3 := hzq.out
            have h4 := hmq.out
            exact ⟨by omega, by omega⟩
          have hshj : l'[j].Short := ((Tm.short_mk k' n' s' l').1 hshq.out).2.at j hjl
          obtain ⟨v0, v1, v2, v3, d0, d1, d2, d3, hL⟩ := hmixq.out.all j hjl
          replace hL := hL (Nat.le_refl _)
          have hcell : ∀ x, wr.cell? ⟨nb, x, none⟩ = cj[x]? := fun x => cell_of_row wr nb x cj 32 (0, 0) hcj
          have h4j : At4 cj (j * 4) v0 v1 v2 v3 := ⟨(hcell _).symm.trans d0, (hcell _).symm.trans d1, (hcell _).symm.trans d2, (hcell _).symm.trans d3⟩
          have hszj1 := hszj.1
          have hszj2 := hszj.2
          clear hcell d0 d1 d2 d3 hszj
          by_cases hlt : j < m
          · have hdr : Below wr.heap.size wr wr.drew := (Below.refl _ wr).drew
            have hic := Hid.mk (ih.out l'[j] (by omega) hszj2 hshj S n₀ fb nb (j * 4) cj 32 v0 v1 v2 v3 wr.drew hS (by omega) hnf (by omega) (by show fb < wr.heap.size; omega) kf hcj h4j (hL.below hdr))
            have hL' := Hid.mk hL
            have h4j' := Hid.mk h4j
            have hshj' := Hid.mk hshj
            clear hL h4j hshj hszj1 hszj2
            go_wp2
            go_region_with (go_at_call 71; refine hic.out.mono ?_; rintro e w8 ⟨⟨v, rfl⟩, hd⟩)
            all_goals go_wp2
            all_goals
              have hdd : Done wr nb (j * 4) l'[j] w8 := ⟨hd.os, hd.tape, hd.output, hd.size, hd.other, hd.row, hd.term⟩
              obtain ⟨cc, cc', tt, r1, r2, _, _⟩ := hdd.row
              rw [hcj] at r1
              simp only [Option.some.injEq, Obj.cells.injEq, and_true] at r1
              obtain ⟨rfl, rfl⟩ := r1
              have hzd := hdd.size
              go_roundw
              case rel =>
                exact ⟨j + 1, cc', by omega, by go_num, ⟨hdd.os.trans hosq.1, hdd.tape.trans hosq.2.1, hdd.output.trans hosq.2.2⟩, by omega, Hid.mk (fun k hk hn => (hdd.other k (by omega) hn).trans (hsame.out k hk hn)),
                  Hid.mk (hmixq.out.step hjl hS (by omega) (by omega) hdd), r2⟩
              case measure => simp [intOf]; omega
          · obtain rfl : j = m := by omega
            have hL' := Hid.mk hL
            have h4j' := Hid.mk h4j
            have hshj' := Hid.mk hshj
            clear hL h4j hshj
            go_wp2
            go_roundg (gk - 1)
            case rel =>
              have hL := hL'.out
              have hsh2 := hshj'.out
              obtain ⟨p0, p1, p2, p3⟩ := h4q.out
              have hstep : ∀ w', Done wr nb (j * 4) l'[j] w' → Done w pb po (.mk k n s l) w' := fun w' hd =>
                hK.out _ (done_step hm'.out hcc6 hcm6 hsmq hcq p0 p1 p2 p3lt hb5 hb6 hnb6 hnb7 hosq.1 hosq.2.1 hosq.2.2 hszq (fun x hx hn => (hsame.out x hx hn).trans (by rw [hw7'.out])) hmixq.out hS (by omega) hd)
              cases hT : l'[j] with
              | mk k2 n2 s2 l2 =>
                rw [hT] at hL hsh2 hszj1 hszj2
                obtain ⟨a2, cap2, hv2, hsm2, hl2⟩ := hL.out
                simp only [Value.agg.injEq, Array.mk.injEq, List.cons.injEq, and_true] at hv2
                obtain ⟨rfl, rfl, rfl, rfl⟩ := hv2
                exact ⟨nb, j * 4, k2, n2, s2, l2, a2, cap2, cj, 32, by simp, Hid.mk (by omega), Hid.mk hszj2, by omega, Hid.mk hsh2, hcj, h4j', hsm2, hl2, by omega, by omega, by omega, kf, Hid.mk (fun w' hd => hstep w' (by rw [hT]; exact hd))⟩
            case measure => omega

end Go.Proofs.YteklhipcojioaaaDoor
