/-
  The chapter's examples, as every statement of the layer calls them.
-/
import Derived.Test.YtnpnbonodkpkdaaDoorTermPairs
namespace Go.Proofs.YtnpnbonodkpkdaaDoor
open Go.RowKit Go.Deep

def Tm.num (n : Int) : Tm := .mk 1 n ⟨#[]⟩ []
def Tm.sym (s : ByteArray) : Tm := .mk 2 0 s []
def Tm.nil : Tm := .mk 8 0 ⟨#[]⟩ []
def Tm.tup (l : List Tm) : Tm := .mk 7 0 ⟨#[]⟩ l
def Tm.two : Tm := conses [.num 1, .num 2] .nil

/-- Memory has only been added to. -/
def Up (w w' : World) : Prop := Below w.heap.size w w'
theorem Up.refl (w : World) : Up w w := Below.refl _ _
theorem Up.out {w w' : World} (h : Up w w') : Below w.heap.size w w' := h
theorem Up.call {w W w' : World} (h : Up w W) (hb : Below W.heap.size W w') : Up w w' := h.out.trans (hb.mono h.out.size)
theorem Up.alloc {w W : World} {o : Obj} (h : Up w W) : Up w (W.alloc o) := Below.alloc h h.out.size _
theorem Up.drew {w W : World} (h : Up w W) : Up w W.drew := Below.drew h
/-- All lies somewhere. -/
abbrev Is (w : World) (T : Tm) (v : Value) : Prop := Lies w (fun _ => True) T v
abbrev IsL (w : World) (l : List Tm) (a : Option Addr) (cap : Nat) : Prop := Lst w (fun _ => True) l a cap
theorem Lies.is {w : World} {S : Nat → Prop} {T : Tm} {v : Value} (h : Lies w S T v) : Is w T v := h.wider (fun _ _ => trivial)
theorem Lst.is {w : World} {S : Nat → Prop} {l : List Tm} {a : Option Addr} {cap : Nat} (h : Lst w S l a cap) : IsL w l a cap := h.wider (fun _ _ => trivial)

theorem small_of {k n : Int} {s : ByteArray} (h0 : 0 ≤ k) (h1 : k ≤ 9) (h2 : -9223372036854775808 ≤ n) (h3 : n ≤ 9223372036854775807) (h4 : s.size ≤ 281474976710656) : Small k n s := ⟨by omega, by omega, h2, h3, by omega⟩
theorem size_empty : (⟨#[]⟩ : ByteArray).size ≤ 281474976710656 := Nat.zero_le _
theorem num_is (w : World) (S : Nat → Prop) (n : Int) (h2 : -9223372036854775808 ≤ n) (h3 : n ≤ 9223372036854775807) : Lies w S (.num n) (.agg #[.int .i64 1, .int .i64 n, .string ⟨#[]⟩, .slice none 0 0]) := Lies.mk (l := []) (small_of (by omega) (by omega) h2 h3 size_empty) (lst_nil _ _)
theorem sym_is (w : World) (S : Nat → Prop) (s : ByteArray) (h : s.size ≤ 281474976710656) : Lies w S (.sym s) (.agg #[.int .i64 2, .int .i64 0, .string s, .slice none 0 0]) := Lies.mk (l := []) (small_of (by omega) (by omega) (by omega) (by omega) h) (lst_nil _ _)
theorem nil_is (w : World) (S : Nat → Prop) : Lies w S .nil (.agg #[.int .i64 8, .int .i64 0, .string ⟨#[]⟩, .slice none 0 0]) := Lies.mk (l := []) (small_of (by omega) (by omega) (by omega) (by omega) size_empty) (lst_nil _ _)
theorem lst2 {w : World} {S : Nat → Prop} {t r : Tm} {nb : Nat} {h0 h1 h2 h3 t0 t1 t2 t3 : Value} {ty : TypeId} (hc : w.heap[nb]? = some (.cells #[h0, h1, h2, h3, t0, t1, t2, t3] ty (0, 0))) (hnb : S nb)
    (ht : Lies w S t (.agg #[h0, h1, h2, h3])) (hr : Lies w S r (.agg #[t0, t1, t2, t3])) : Lst w S [t, r] (some ⟨nb, 0, none⟩) 2 := by
  obtain ⟨a, cap, h1, _, h2⟩ := (cons_lies hc hnb ht hr).out
  simp only [Value.agg.injEq, Array.mk.injEq, List.cons.injEq, Value.slice.injEq, true_and, and_true] at h1
  obtain ⟨rfl, _, rfl⟩ := h1
  exact h2

theorem two_size : Tm.two.size ≤ 1000000 := by simp [Tm.two, conses, Tm.num, Tm.nil, Tm.size_mk, sizes]
theorem empty_200 : (⟨#[]⟩ : ByteArray).size ≤ 200 := Nat.zero_le _
theorem two_short : Tm.two.Short := by simp [Tm.two, conses, Tm.num, Tm.nil, Tm.short_mk, Shorts, empty_200]
theorem two_items : Tm.two.items = [.num 1, .num 2] := rfl
theorem two_last : Tm.two.last = 8 := rfl
theorem two_words : Tm.two.words = 5 := by rw [words_pre]; simp [Tm.two, conses, Tm.num, Tm.nil, wordsR_mk, wordsRs, ownW, hasL]
theorem num_words (n : Int) : (Tm.num n).words = 1 := by rw [words_pre]; simp [Tm.num, wordsR_mk, ownW, hasL]
theorem tup_words (s : ByteArray) (n : Int) : (Tm.tup [.sym s, .num n]).words = 4 := by rw [words_pre]; simp [Tm.tup, Tm.sym, Tm.num, wordsR_mk, wordsRs, ownW, hasL]

theorem wordsI_any (T : Tm) (hsz : T.size ≤ 1000000) (S : Nat → Prop) (v : Value) (w : World) (hv : Lies w S T v) (ht : ShapeTab w) :
    Calls Tryd.prog 13 #[v] w fun e w' => e = .returned (.int .i64 T.words) ∧ Below w.heap.size w w' :=
  words_any T hsz _ v w hv.inside (fun _ h => h.2) ht
theorem checkI_any (T : Tm) (hsz : T.size ≤ 1000000) (S : Nat → Prop) (v : Value) (w : World) (hv : Lies w S T v) (ht : ShapeTab w) :
    Calls Tryd.prog 11 #[v] w fun e w' => e = .returned (.int .i64 T.check) ∧ Below w.heap.size w w' :=
  check_any T hsz _ v w hv.inside (fun _ h => h.2) ht

theorem Lies.agg {w : World} {S : Nat → Prop} {T : Tm} {v : Value} (h : Lies w S T v) : ∃ k n s a m cap, v = .agg #[.int .i64 k, .int .i64 n, .string s, .slice a m cap] := by
  cases T
  obtain ⟨a4, p4, h4, _⟩ := h.out
  exact ⟨_, _, _, _, _, _, h4⟩

set_option maxHeartbeats 1000000 in
theorem two_any (w : World) : Calls Tryd.prog 35 #[] w fun e w' => (∃ v, e = .returned v ∧ Is w' .two v) ∧ Below w.heap.size w w' := by
  have hk := Up.refl (w.alloc (.cells #[.int .i64 0, .int .i64 0, .string ⟨#[]⟩, .slice none 0 0] 24))
  go_enter Tryd.func35, Tryd.ntmps35
  go_wp2_with (first
    | (go_at_call 20; refine (num_any _ _).mono ?_; rintro e w1 ⟨rfl, hb⟩; have hk := hk.call hb)
    | (go_at_call 22; refine (none_any _).mono ?_; rintro e w2 ⟨rfl, hb⟩; have hw1 : w.heap.size < w1.heap.size := (by have := hk.out.size; rw [World.size_alloc] at this; exact this); have hk := hk.alloc.call hb; have hc := (hb.block _ (by simp)).trans (new_block w1 _))
    | (go_at_call 21; refine (pairs_any [.num 1, .num 2] (by simp) .nil _ _ _ _ _ (lst2 (S := fun b => w.heap.size < b) hc hw1 (num_is _ _ 1 (by omega) (by omega)) (num_is _ _ 2 (by omega) (by omega))) (nil_is _ _)).mono ?_; rintro e w3 ⟨⟨v, rfl, hL⟩, hb⟩; have hw2 : w.heap.size < w2.heap.size := (by have := hk.out.size; rw [World.size_alloc] at this; exact this); have hk := hk.call hb; obtain ⟨k, n, s, a, m, cap, rfl⟩ := hL.agg; obtain ⟨⟨q0, q1, q2, q3⟩, f0, f1, f2, f3⟩ := kept4 (new_block w _) hk.out))
  have hk := (Up.refl w).alloc.call hk.out
  refine ret_stored rfl rfl rfl q0 q1 q2 q3 ⟨⟨_, rfl, ?_⟩, Below.set4 hk.out (Nat.le_refl _)⟩
  refine hL.move (fun _ _ => trivial) (fun b o v hb hc => ?_) _ _
  rw [World.cell?_of_block (w := w3) (a := ⟨b, o, none⟩) (set4_heap _ _ _ _ _ _ _ (by show b ≠ w.heap.size; rcases hb with h | h <;> omega))]
  exact hc

theorem itemsTwo_any (S : Nat → Prop) (v : Value) (w : World) (hv : Lies w S .two v) :
    Calls Tryd.prog 28 #[v] w fun e w' => (∃ a cap, e = .returned (.tuple #[.slice a 2 cap, .bool true]) ∧ IsL w' [.num 1, .num 2] a cap) ∧ Below w.heap.size w w' := by
  refine (items_any .two two_size two_short S v w hv).mono ?_
  rintro e w' ⟨⟨l, a, cap, rfl, hl, hle⟩, hb⟩
  rw [two_last, if_pos rfl, two_items] at hle
  subst hle
  exact ⟨⟨a, cap, by rw [two_last]; rfl, hl.is⟩, hb⟩

theorem wordsNum_any (n : Int) (h2 : -9223372036854775808 ≤ n) (h3 : n ≤ 9223372036854775807) (w : World) (ht : ShapeTab w) :
    Calls Tryd.prog 13 #[.agg #[.int .i64 1, .int .i64 n, .string ⟨#[]⟩, .slice none 0 0]] w fun e w' => e = .returned (.int .i64 1) ∧ Below w.heap.size w w' := by
  have h := wordsI_any (.num n) (by simp [Tm.num, Tm.size_mk, sizes]) (fun _ => True) _ w (num_is w _ n h2 h3) ht
  rwa [num_words] at h
theorem wordsTwo_any (S : Nat → Prop) (v : Value) (w : World) (hv : Lies w S .two v) (ht : ShapeTab w) :
    Calls Tryd.prog 13 #[v] w fun e w' => e = .returned (.int .i64 5) ∧ Below w.heap.size w w' := by
  have h := wordsI_any .two two_size S v w hv ht
  rwa [two_words] at h
theorem wordsTup_any (s : ByteArray) (n : Int) (h1 : s.size ≤ 281474976710656) (h2 : -9223372036854775808 ≤ n) (h3 : n ≤ 9223372036854775807) (b : Nat) (w : World) (ty : TypeId)
    (hc : w.heap[b]? = some (.cells #[.int .i64 2, .int .i64 0, .string s, .slice none 0 0, .int .i64 1, .int .i64 n, .string ⟨#[]⟩, .slice none 0 0] ty)) (ht : ShapeTab w) :
    Calls Tryd.prog 13 #[.agg #[.int .i64 7, .int .i64 0, .string ⟨#[]⟩, .slice (some ⟨b, 0, none⟩) 2 2]] w fun e w' => e = .returned (.int .i64 4) ∧ Below w.heap.size w w' := by
  have h := wordsI_any (.tup [.sym s, .num n]) (by simp [Tm.tup, Tm.sym, Tm.num, Tm.size_mk, sizes]) (fun _ => True) _ w (Lies.mk (l := [.sym s, .num n]) tup_small (lst2 hc trivial (sym_is w _ s h1) (num_is w _ n h2 h3))) ht
  rwa [tup_words] at h
theorem sameTwo_any (a a' : Option Addr) (cap cap' : Nat) (w : World) (hl : IsL w [.num 1, .num 2] a cap) (hl' : IsL w [.num 1, .num 2] a' cap') :
    Calls Tryd.prog 30 #[.slice a 2 cap, .slice a' 2 cap'] w fun e w' => e = .returned (.bool true) ∧ Below w.heap.size w w' := by
  have h := sameAll_any [.num 1, .num 2] [.num 1, .num 2] _ _ a a' cap cap' w hl hl'
  rwa [eqL_refl] at h

set_option maxHeartbeats 400000 in
theorem awake_any (w : World) (ht : ShapeTab w) : Calls Tryd.prog 18 #[] w fun e w' => e = .returned (.bool true) ∧ Below w.heap.size w w' := by
  have hk := Up.refl w
  go_enter Tryd.func18, Tryd.ntmps18
  go_wp2_with (first
    | (go_at_call 35; have hg := hc; refine (two_any _).mono ?_; rintro e w1 ⟨⟨v, rfl, hL2⟩, hb⟩; have hk : Up w w1 := hk.call hb; have hq : Up w2 w1 := hq.call hb)
    | (go_at_call 35; refine (two_any _).mono ?_; rintro e w1 ⟨⟨v, rfl, hL⟩, hb⟩; have hk : Up w w1 := hk.call hb)
    | (go_at_call 28; refine (itemsTwo_any _ _ _ hL).mono ?_; rintro e w2 ⟨⟨li, lcap, rfl, hl⟩, hb⟩; have hk : Up w w2 := hk.call hb; have hq := Up.refl w2)
    | (go_at_call 20; refine (num_any _ _).mono ?_; rintro e w4 ⟨rfl, hb⟩; have hk : Up w w4 := hk.call hb; have hq : Up w2 w4 := hq.call hb)
    | (go_at_call 33; refine (sym_any _ _).mono ?_; rintro e w5 ⟨rfl, hb⟩; have hk : Up w w5 := hk.call hb; have hq : Up w2 w5 := hq.call hb)
    | (go_at_call 19; refine (tup_any _ _ _ _).mono ?_; rintro e w7 ⟨rfl, hb⟩; have hc := (hb.block _ (by simp)).trans (new_block w4 _); have hk : Up w w7 := hk.alloc.call hb; have hq : Up w2 w7 := hq.alloc.call hb)
    | (go_at_call 13; refine (wordsTwo_any _ _ _ hL2 (ht.below hk.out)).mono ?_; rintro e w6 ⟨rfl, hb⟩; have hk : Up w w6 := hk.call hb; have hq : Up w2 w6 := hq.call hb)
    | (go_at_call 13; refine (wordsTup_any _ 1 (by decide) (by omega) (by omega) _ _ _ hc (ht.below hk.out)).mono ?_; rintro e w6 ⟨rfl, hb⟩; have hk : Up w w6 := hk.call hb; have hq : Up w2 w6 := hq.call hb)
    | (go_at_call 13; refine (wordsNum_any 5 (by omega) (by omega) _ (ht.below hk.out)).mono ?_; rintro e w6 ⟨rfl, hb⟩; have hk : Up w w6 := hk.call hb; have hq : Up w2 w6 := hq.call hb)
    | (go_at_call 30; refine (sameTwo_any _ _ _ _ _ (hl.below hq.alloc.out) (lst2 (new_block w4 _) trivial (num_is _ _ 1 (by omega) (by omega)) (num_is _ _ 2 (by omega) (by omega)))).mono ?_; rintro e w8 ⟨rfl, hb⟩; have hk : Up w w8 := hk.alloc.call hb))
  go_ret
  exact ⟨rfl, hk.out⟩

end Go.Proofs.YtnpnbonodkpkdaaDoor
