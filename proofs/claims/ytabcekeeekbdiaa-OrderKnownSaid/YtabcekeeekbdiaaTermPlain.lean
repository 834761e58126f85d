/-
  Terms made outright: numbers, atoms, tuples, the empty list; the document's check.
-/
import Derived.Test.YtabcekeeekbdiaaTermRef2
import Derived.Test.YtabcekeeekbdiaaTermSame
import Derived.Test.YtabcekeeekbdiaaTermClone
namespace Go.Proofs.Ytabcekeeekbdiaa
open Go.RowKit Go.Deep

/-- The return of a term that has just been made. -/
theorem ret_fresh {fn : Func} {R : Ending → World → Prop} {a : Act} {p : Tmp} {w : World} {v0 v1 v2 v3 : Value} {t : TypeId} (h : fn.results = #[.cell p 24]) (hp : a.tmps.getD p undef = .pointer (some ⟨w.heap.size, 0, none⟩)) (hd : a.defers = [])
    (hR : R (.returned (.agg #[v0, v1, v2, v3])) (w.alloc (.cells #[v0, v1, v2, v3] t))) : bodyPost Try.prog fn R .ret a (w.alloc (.cells #[v0, v1, v2, v3] t)) :=
  bodyPost_ret (results_term h _ hp (new_cell w _ _ 0) (new_cell w _ _ 1) (new_cell w _ _ 2) (new_cell w _ _ 3)) hd hR

theorem num_any (n : Int) (w : World) : Calls Try.prog 41 #[.int .i64 n] w fun e w' => e = .returned (.agg #[.int .i64 1, .int .i64 n, .string ⟨#[]⟩, .slice none 0 0]) ∧ Below w.heap.size w w' := by
  go_enter Try.func41, Try.ntmps41
  go_wp2
  exact ret_fresh rfl rfl rfl ⟨rfl, (Below.refl _ _).alloc (Nat.le_refl _) _⟩
theorem sym_any (s : ByteArray) (w : World) : Calls Try.prog 44 #[.string s] w fun e w' => e = .returned (.agg #[.int .i64 2, .int .i64 0, .string s, .slice none 0 0]) ∧ Below w.heap.size w w' := by
  go_enter Try.func44, Try.ntmps44
  go_wp2
  exact ret_fresh rfl rfl rfl ⟨rfl, (Below.refl _ _).alloc (Nat.le_refl _) _⟩
theorem none_any  (w : World) : Calls Try.prog 43 #[] w fun e w' => e = .returned (.agg #[.int .i64 8, .int .i64 0, .string ⟨#[]⟩, .slice none 0 0]) ∧ Below w.heap.size w w' := by
  go_enter Try.func43, Try.ntmps43
  go_wp2
  exact ret_fresh rfl rfl rfl ⟨rfl, (Below.refl _ _).alloc (Nat.le_refl _) _⟩
theorem tup_any (a : Option Addr) (len cap : Nat) (w : World) : Calls Try.prog 22 #[.slice a len cap] w fun e w' => e = .returned (.agg #[.int .i64 7, .int .i64 0, .string ⟨#[]⟩, .slice a len cap]) ∧ Below w.heap.size w w' := by
  go_enter Try.func22, Try.ntmps22
  go_wp2
  exact ret_fresh rfl rfl rfl ⟨rfl, (Below.refl _ _).alloc (Nat.le_refl _) _⟩
theorem sameAll_any (l l' : List Tm) (S S' : Nat → Prop) (a a' : Option Addr) (cap cap' : Nat) (w : World) (hl : Lst w S l a cap) (hl' : Lst w S' l' a' cap') :
    Calls Try.prog 17 #[.slice a l.length cap, .slice a' l'.length cap'] w fun e w' => e = .returned (.bool (eqL l l')) ∧ Below w.heap.size w w' := by
  have hc := Hid.mk (sameTerms_of l l' (fun t _ => sameTerm_any t) S S' a a' cap cap' w hl hl')
  go_enter Try.func17, Try.ntmps17
  go_wp2_with (go_at_call 35; refine hc.out.mono ?_; rintro e w2 ⟨rfl, hb2⟩)
  go_ret
  exact ⟨rfl, hb2⟩
theorem copyAll_any (l : List Tm) (hsz : sizes l ≤ 1000000) (S : Nat → Prop) (a : Option Addr) (cap : Nat) (w : World) (hl : Lst w S l a cap) :
    Calls Try.prog 14 #[.slice a l.length cap] w fun e w' => MadeL w l e w' ∧ Below w.heap.size w w' := by
  have hc := Hid.mk (copyTerms_of l (by have := length_sizes l; omega) (fun t ht => copyTerm_any t (by
    obtain ⟨i, hi, rfl⟩ := List.getElem_of_mem ht
    have := sizes_at l i hi
    omega)) S a cap w hl)
  go_enter Try.func14, Try.ntmps14
  go_wp2_with (go_at_call 29; refine hc.out.mono ?_; rintro e w2 ⟨⟨sv, rfl, hol⟩, hb2⟩)
  go_ret
  exact ⟨⟨sv, rfl, hol⟩, hb2⟩
end Go.Proofs.Ytabcekeeekbdiaa
