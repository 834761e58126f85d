/-
  Terms made outright: numbers, atoms, tuples, the empty list; the document's check.
-/
import Derived.Test.YtamafhcgjbkikaaDoorTermRef2
import Derived.Test.YtamafhcgjbkikaaDoorTermSame
import Derived.Test.YtamafhcgjbkikaaDoorTermClone
namespace Go.Proofs.YtamafhcgjbkikaaDoor
open Go.RowKit Go.Deep

theorem refcheck_any (T : Tm) (hsz : T.size ≤ 1000000) (S : Nat → Prop) (v : Value) (w : World) (hv : Lies w S T v) :
    Calls Tryd.prog 35 #[v] w fun e w' => e = .returned (.int .i64 T.check) ∧ Below w.heap.size w w' := by
  have hp := Hid.mk (fun (w1 : World) (hb : Below w.heap.size w w1) => refparts_any T S v w1 (hv.below hb))
  have hw := Hid.mk (fun (w1 : World) (hb : Below w.heap.size w w1) => refwords_any T hsz S v w1 (hv.below hb))
  have hr := words_le T
  have hck : Hid (T.check = if T.fits = true then (if 65536 < T.wordsR then 3 else 0) else 2) := Hid.mk (by rw [Tm.check, fits_pre, words_pre, longE])
  generalize T.check = c at hck ⊢
  generalize T.fits = f at hp hck
  generalize T.wordsR = x at hw hck hr
  obtain ⟨k, n, s, l⟩ := T
  obtain ⟨a, cap, rfl, hs, hl⟩ := hv.out
  clear hv hl
  cases f
  all_goals
    go_enter Tryd.func35, Tryd.ntmps35
    go_wp2_with (first
      | (go_at_call 50; refine (hp.out _ ((Below.refl _ _).alloc (Nat.le_refl _) _)).mono ?_; rintro e w2 ⟨rfl, hb2⟩; obtain ⟨⟨g0, g1, g2, g3⟩, f0, f1, f2, f3⟩ := kept4 (new_block w _) hb2; have hb3 : Below w.heap.size w w2 := ((Below.refl w.heap.size w).alloc (Nat.le_refl _) _).trans (hb2.mono (by simp)); have hz := hb3.size)
      | (go_at_call 37; refine (hw.out _ hb3).mono ?_; rintro e w4 ⟨rfl, hb4⟩))
  all_goals go_ret
  · exact ⟨ret_int hck.out.symm, hb3⟩
  all_goals exact ⟨ret_int (by rw [hck.out]; simp; try omega), hb3.trans (hb4.mono hz)⟩

/-- The return of a term that has just been made. -/
theorem ret_fresh {fn : Func} {R : Ending → World → Prop} {a : Act} {p : Tmp} {w : World} {v0 v1 v2 v3 : Value} {t : TypeId} (h : fn.results = #[.cell p 24]) (hp : a.tmps.getD p undef = .pointer (some ⟨w.heap.size, 0, none⟩)) (hd : a.defers = [])
    (hR : R (.returned (.agg #[v0, v1, v2, v3])) (w.alloc (.cells #[v0, v1, v2, v3] t))) : bodyPost Tryd.prog fn R .ret a (w.alloc (.cells #[v0, v1, v2, v3] t)) :=
  bodyPost_ret (results_term h _ hp (new_cell w _ _ 0) (new_cell w _ _ 1) (new_cell w _ _ 2) (new_cell w _ _ 3)) hd hR

theorem num_any (n : Int) (w : World) : Calls Tryd.prog 45 #[.int .i64 n] w fun e w' => e = .returned (.agg #[.int .i64 1, .int .i64 n, .string ⟨#[]⟩, .slice none 0 0]) ∧ Below w.heap.size w w' := by
  go_enter Tryd.func45, Tryd.ntmps45
  go_wp2
  exact ret_fresh rfl rfl rfl ⟨rfl, (Below.refl _ _).alloc (Nat.le_refl _) _⟩
theorem sym_any (s : ByteArray) (w : World) : Calls Tryd.prog 44 #[.string s] w fun e w' => e = .returned (.agg #[.int .i64 2, .int .i64 0, .string s, .slice none 0 0]) ∧ Below w.heap.size w w' := by
  go_enter Tryd.func44, Tryd.ntmps44
  go_wp2
  exact ret_fresh rfl rfl rfl ⟨rfl, (Below.refl _ _).alloc (Nat.le_refl _) _⟩
theorem tup_any (a : Option Addr) (len cap : Nat) (w : World) : Calls Tryd.prog 43 #[.slice a len cap] w fun e w' => e = .returned (.agg #[.int .i64 7, .int .i64 0, .string ⟨#[]⟩, .slice a len cap]) ∧ Below w.heap.size w w' := by
  go_enter Tryd.func43, Tryd.ntmps43
  go_wp2
  exact ret_fresh rfl rfl rfl ⟨rfl, (Below.refl _ _).alloc (Nat.le_refl _) _⟩
theorem sameAll_any (l l' : List Tm) (S S' : Nat → Prop) (a a' : Option Addr) (cap cap' : Nat) (w : World) (hl : Lst w S l a cap) (hl' : Lst w S' l' a' cap') :
    Calls Tryd.prog 25 #[.slice a l.length cap, .slice a' l'.length cap'] w fun e w' => e = .returned (.bool (eqL l l')) ∧ Below w.heap.size w w' := by
  have hc := Hid.mk (sameTerms_of l l' (fun t _ => sameTerm_any t) S S' a a' cap cap' w hl hl')
  go_enter Tryd.func25, Tryd.ntmps25
  go_wp2_with (go_at_call 38; refine hc.out.mono ?_; rintro e w2 ⟨rfl, hb2⟩)
  go_ret
  exact ⟨rfl, hb2⟩
theorem copyAll_any (l : List Tm) (hsz : sizes l ≤ 1000000) (S : Nat → Prop) (a : Option Addr) (cap : Nat) (w : World) (hl : Lst w S l a cap) :
    Calls Tryd.prog 20 #[.slice a l.length cap] w fun e w' => MadeL w l e w' ∧ Below w.heap.size w w' := by
  have hc := Hid.mk (copyTerms_of l (by have := length_sizes l; omega) (fun t ht => copyTerm_any t (by
    obtain ⟨i, hi, rfl⟩ := List.getElem_of_mem ht
    have := sizes_at l i hi
    omega)) S a cap w hl)
  go_enter Tryd.func20, Tryd.ntmps20
  go_wp2_with (go_at_call 32; refine hc.out.mono ?_; rintro e w2 ⟨⟨sv, rfl, hol⟩, hb2⟩)
  go_ret
  exact ⟨⟨sv, rfl, hol⟩, hb2⟩
theorem pick_any (x n : Int) (w : World) (hn : 1 ≤ n) (hn2 : n ≤ 4611686018427387904) : Calls Tryd.prog 28 #[.int .i64 x, .int .i64 n] w fun e w' => ∃ y : Int, e = .returned (.int .i64 y) ∧ 0 ≤ y ∧ y < n ∧ w = w' := by
  go_enter Tryd.func28, Tryd.ntmps28
  have h1 := Int.tmod_lt_of_pos x (b := n) (by omega)
  have h2 := Int.lt_tmod_of_pos x (b := n) (by omega)
  go_wp2
  all_goals go_ret
  · exact ⟨x.tmod n + n, by go_num, by omega, by omega, rfl⟩
  · exact ⟨_, rfl, by assumption, h1, rfl⟩

end Go.Proofs.YtamafhcgjbkikaaDoor
