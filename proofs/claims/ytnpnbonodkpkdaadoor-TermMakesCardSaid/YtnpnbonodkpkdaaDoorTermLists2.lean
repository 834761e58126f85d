/-
  TermLists: lists have their items.
-/
import Derived.Test.YtnpnbonodkpkdaaDoorTermKnown2
import Derived.Test.YtnpnbonodkpkdaaDoorTermLong
namespace Go.Proofs.YtnpnbonodkpkdaaDoor
open Go.RowKit Go.Deep

theorem conses_items (l : List Tm) : (conses l .nil).items = l := by
  induction l with
  | nil => rfl
  | cons t r ih =>
    show (Tm.mk 9 0 ⟨#[]⟩ [t, conses r .nil]).items = _
    rw [items_cons, ih]
theorem conses_last (l : List Tm) : (conses l .nil).last = 8 := by
  induction l with
  | nil => rfl
  | cons t r ih =>
    show (Tm.mk 9 0 ⟨#[]⟩ [t, conses r .nil]).last = _
    rw [last_cons, ih]
theorem conses_short (l : List Tm) (T : Tm) (h : Shorts l) (hT : T.Short) : (conses l T).Short := by
  induction l with
  | nil => exact hT
  | cons t r ih =>
    rw [Shorts] at h
    show (Tm.mk 9 0 ⟨#[]⟩ [t, conses r T]).Short
    rw [Tm.short_mk]
    exact ⟨empty_200, by rw [Shorts, Shorts, Shorts]; exact ⟨h.1, ih h.2, trivial⟩⟩
theorem conses_words (l : List Tm) : (conses l .nil).words = 1 + l.length + wordsRs l := by
  rw [words_pre]
  induction l with
  | nil => simp [conses, Tm.nil, wordsR_mk, wordsRs, ownW, hasL]
  | cons t r ih =>
    show (Tm.mk 9 0 ⟨#[]⟩ [t, conses r .nil]).wordsR = _
    rw [wordsR_mk]
    have e : hasL 9 = true := rfl
    have e2 : ownW 9 = 1 := rfl
    rw [e, if_pos rfl, e2, wordsRs, wordsRs, wordsRs, wordsRs, ih, List.length_cons]
    omega
theorem nil_short : Tm.nil.Short := by simp [Tm.nil, Tm.short_mk, Shorts, empty_200]
theorem nil_size : Tm.nil.size = 1 := by simp [Tm.nil, Tm.size_mk, sizes]

theorem itemsAll_any (l : List Tm) (hs : Shorts l) (hz : (sizes l : Int) ≤ 400) (S : Nat → Prop) (v : Value) (w : World) (hv : Lies w S (conses l .nil) v) :
    Calls Tryd.prog 28 #[v] w fun e w' => (∃ a cap, e = .returned (.tuple #[.slice a l.length cap, .bool true]) ∧ IsL w' l a cap) ∧ Below w.heap.size w w' := by
  refine (items_any _ (by have := conses_size l .nil; have := nil_size; have := length_sizes l; omega) (conses_short l _ hs nil_short) S v w hv).mono ?_
  rintro e w' ⟨⟨l', a, cap, rfl, hl, hle⟩, hb⟩
  rw [conses_last, if_pos rfl, conses_items] at hle
  subst hle
  exact ⟨⟨a, cap, by rw [conses_last]; rfl, hl.is⟩, hb⟩

set_option maxHeartbeats 4000000 in
theorem lawLists (l : List Tm) (a : Option Addr) (cap : Nat) (w : World) (ht : ShapeTab w) (hl : IsL w l a cap) :
    Calls Tryd.prog 7 #[.slice a l.length cap] w fun e w' => e = .returned (.bool true) ∧ Below w.heap.size w w' := by
  have hk := Up.refl w
  have hlw := Hid.mk hl
  have hlen : l.length ≤ 9223372036854775807 := Nat.le_trans hl.1 hl.2.1
  clear hl
  go_enter Tryd.func7, Tryd.ntmps7
  go_wp2_with (first
    | (go_at_call 6; refine (lawKnown _ (ht.below hk.out)).mono ?_; rintro e w1 ⟨rfl, hb⟩; have hk := hk.call hb)
    | (go_at_call 23; refine (largeAll_any l _ _ _ 400 _ (hlw.out.below hk.out) (by omega) (by omega)).mono ?_; rintro e w2 ⟨⟨b1, rfl, hA⟩, hb⟩; have hk := hk.call hb; have hA := Hid.mk hA)
    | (go_at_call 22; refine (none_any _).mono ?_; rintro e w3 ⟨rfl, hb⟩; have hk := hk.call hb; have hb1 : b1 = false := (by assumption); have hsl := Hid.mk (hA.out hb1); have hl4 : l.length ≤ 400 := (by have := length_sizes l; have := hsl.out.2; omega))
    | (go_at_call 26; refine (makeList_any l (by omega) .nil (fun _ => True) (fun _ => True) _ _ _ _ (hlw.out.below hk.out) (nil_is _ _)).mono ?_; rintro e w4 ⟨⟨v4, rfl, hL4⟩, hb⟩; obtain ⟨k4, n4, s4, a4, m4, c4, rfl⟩ := hL4.agg; have hk := hk.call hb)
    | (go_at_call 28; refine (itemsAll_any l hsl.out.1 hsl.out.2 (fun _ => True) _ _ (by first | exact hL4 | exact hL4.below ((Below.refl _ _).alloc (Nat.le_refl _) _))).mono ?_; rintro e w5 ⟨⟨a5, c5, rfl, hl5⟩, hb⟩; have hbx := (hb.block _ (by simp)).trans (new_block w4 _); have hk : Up w w5 := hk.alloc.call hb; have hL5 := Hid.mk ((hL4.below ((Below.refl _ _).alloc (Nat.le_refl _) _)).below hb)))
  · go_ret
    exact ⟨rfl, hk.out⟩
  have hwl := (words_le (.mk 9 0 ⟨#[]⟩ l)).2
  rw [wordsR_mk, Tm.size_mk] at hwl
  have e9 : hasL 9 = true := rfl
  have o9 : ownW 9 = 1 := rfl
  rw [e9, if_pos rfl, o9] at hwl
  have hz4 := hsl.out.2
  have hwords := Hid.mk (conses_words l)
  have hlq := Hid.mk (hlw.out.below hk.out)
  have hbxx := hbx
  clear hb hbx hL4
  go_loopw [7, 8] (fun nn ii wr => ∃ (i : Nat) (q : Int), i ≤ l.length ∧ ii = .int .i64 i ∧ nn = .int .i64 q ∧ 0 ≤ q ∧ q ≤ 2000 ∧ Hid (q = 1 + i + wordsRs (l.take i)) ∧ Up w5 wr) (fun _ ii _ => l.length - (intOf ii).toNat)
  case atStart => exact ⟨0, 1, Nat.zero_le _, rfl, rfl, by omega, by omega, Hid.mk (by simp [wordsRs]), Up.refl _⟩
  case round =>
    obtain ⟨i, q, hi, rfl, rfl, q0, q1, hq, hu⟩ := hrel
    have hkr : Up w wr := hk.call hu.out
    by_cases hlt : i < l.length
    · have hlr := hlq.out.below hu.out
      obtain ⟨b, o, rfl, _, hr⟩ := hlr.some (by omega)
      obtain ⟨k1, n1, s1, m1, a1, cap1, hT, c0, c1, c2, c3, hli⟩ := hr.part i hlt
      have hsz := sizes_at l i hlt
      have hc := wordsI_any l[i] (by omega) _ _ wr hli (ht.below hkr.out)
      rw [words_pre] at hc
      have x0 := (words_le l[i]).1
      have hxt := wordsRs_take l i hlt
      have hxm := (wordsRs_le l (i + 1)).1
      have hx1 : q + 1 + l[i].wordsR ≤ 2000 := by have := hq.out; omega
      have hxq : Hid (q + 1 + l[i].wordsR = 1 + (i + 1 : Nat) + wordsRs (l.take (i + 1))) := Hid.mk (by have := hq.out; omega)
      generalize l[i].wordsR = x at hc x0 hx1 hxq
      clear hT hli hxt hxm
      go_wp2_with (go_at_call 13; refine hc.mono ?_; rintro e w6 ⟨rfl, hb2⟩)
      go_roundw
      case rel => exact ⟨i + 1, q + 1 + x, by omega, by go_num, by go_num, by omega, hx1, hxq, hu.call hb2⟩
      case measure => simp [intOf]; omega
    · obtain rfl : i = l.length := by omega
      have hqq := hq.out
      rw [List.take_length] at hqq
      have hqw : Hid ((conses l .nil).words = q) := Hid.mk (by rw [hwords.out]; omega)
      obtain ⟨⟨g0, g1, g2, g3⟩, f0, f1, f2, f3⟩ := kept4 hbxx hu.out
      have hsz := conses_size l .nil
      rw [nil_size] at hsz
      have hlen2 := length_sizes l
      clear hqq hq
      go_wp2_with (first
        | (go_at_call 30; refine (sameAll_any l l _ _ _ _ _ _ _ (hl5.below hu.out) (hlq.out.below hu.out)).mono ?_; rintro e w7 ⟨rfl, hb7⟩; rw [eqL_refl]; have hu := hu.call hb7; obtain ⟨⟨g0, g1, g2, g3⟩, f0, f1, f2, f3⟩ := kept4 hbxx hu.out)
        | (go_at_call 13; refine (wordsI_any _ (by omega) _ _ _ (hL5.out.below hu.out) (ht.below (hk.call hu.out).out)).mono ?_; rintro e w8 ⟨rfl, hb8⟩; rw [hqw.out]; have hu := hu.call hb8))
      go_ret
      exact ⟨rfl, (hk.call hu.out).out⟩

end Go.Proofs.YtnpnbonodkpkdaaDoor
