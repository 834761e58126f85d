/-
  The document's Sort, walked.
-/
import Derived.Test.YtabcekeeekbdiaaOrdRef
import Derived.Test.YtabcekeeekbdiaaOrdBase
import Derived.Laws.AppendOwnNone
namespace Go.Proofs.Ytabcekeeekbdiaa
open Go.RowKit Go.Deep

/-- Where a term is put: behind all that are not behind it. -/
def insAt (l : List Tm) (t : Tm) : Nat := l.length - (l.reverse.takeWhile fun x => decide (0 < x.cmp t)).length
def insT (l : List Tm) (t : Tm) : List Tm := l.take (insAt l t) ++ [t] ++ l.drop (insAt l t)
def sortT (l : List Tm) : List Tm := l.foldl insT []
theorem insAt_le (l : List Tm) (t : Tm) : insAt l t ≤ l.length := by unfold insAt; omega
theorem insT_length (l : List Tm) (t : Tm) : (insT l t).length = l.length + 1 := by
  have := insAt_le l t
  simp only [insT, List.length_append, List.length_take, List.length_cons, List.length_nil, List.length_drop]
  omega
theorem sortT_take (l : List Tm) (i : Nat) (hi : i < l.length) : sortT (l.take (i + 1)) = insT (sortT (l.take i)) l[i] := by
  unfold sortT
  rw [List.take_succ_eq_append_getElem hi, List.foldl_append]
  rfl
theorem sortT_length (l : List Tm) : (sortT l).length = l.length := by
  have : ∀ (l a : List Tm), (l.foldl insT a).length = a.length + l.length := by
    intro l
    induction l with
    | nil => intro a; simp
    | cons t r ih => intro a; rw [List.foldl_cons, ih, insT_length, List.length_cons]; omega
  unfold sortT
  rw [this]
  simp
theorem insAt_is (l : List Tm) (t : Tm) : ∀ (i : Nat), i ≤ l.length → (∀ j (_ : i ≤ j) (h : j < l.length), 0 < l[j].cmp t) → (∀ h : i - 1 < l.length, 0 < i → ¬ 0 < l[i - 1].cmp t) → insAt l t = i := by
  have key : ∀ (r : List Tm) (m : Nat), m ≤ r.length → (∀ j (_ : j < m) (h : j < r.length), 0 < r[j].cmp t) → (∀ h : m < r.length, ¬ 0 < r[m].cmp t) → (r.takeWhile fun x => decide (0 < x.cmp t)).length = m := by
    intro r
    induction r with
    | nil => intro m hm _ _; simp at hm; simp [hm]
    | cons a r ih =>
      intro m hm h1 h2
      cases m with
      | zero =>
        have := h2 (by simp)
        simp only [List.getElem_cons_zero] at this
        simp [this]
      | succ m =>
        have ha := h1 0 (by omega) (by simp)
        simp only [List.getElem_cons_zero] at ha
        rw [List.takeWhile_cons, if_pos (by simpa using ha), List.length_cons]
        rw [ih m (by simpa using hm) (fun j hj h => by have := h1 (j + 1) (by omega) (by simpa using h); simpa using this) (fun h => by have := h2 (by simpa using h); simpa using this)]
  intro i hi h1 h2
  unfold insAt
  rw [key l.reverse (l.length - i) (by simp) (fun j hj h => by
    rw [List.getElem_reverse]
    exact h1 _ (by omega) _) (fun h => by
    rw [List.length_reverse] at h
    rw [List.getElem_reverse]
    have := h2 (by omega) (by omega)
    have e : l.length - 1 - (l.length - i) = i - 1 := by omega
    simp only [e]
    exact this)]
  omega

theorem Side.insert {w : World} {S : Nat → Prop} {l : List Tm} {n at' : Nat} {xs : List Value} {t : Tm} {v0 v1 v2 v3 : Value} (h : Side w S l n xs) (hn : l.length = n) (hx : xs.length = n * 4) (hat : at' ≤ n) (hl : Lies w S t (.agg #[v0, v1, v2, v3])) :
    Side w S (l.take at' ++ [t] ++ l.drop at') (n + 1) (xs.take (at' * 4) ++ [v0, v1, v2, v3] ++ xs.drop (at' * 4)) := by
  intro q hq hq2
  have hxt : (xs.take (at' * 4)).length = at' * 4 := by rw [List.length_take]; omega
  have hlt : (l.take at').length = at' := by rw [List.length_take]; omega
  rcases Nat.lt_trichotomy q at' with h1 | h1 | h1
  · obtain ⟨u0, u1, u2, u3, e0, e1, e2, e3, hL⟩ := h q (by omega) (by omega)
    have hg : (l.take at' ++ [t] ++ l.drop at')[q] = l[q]'(by omega) := by
      rw [List.getElem_append_left (by simp [hlt]; omega), List.getElem_append_left (by omega), List.getElem_take]
    refine ⟨u0, u1, u2, u3, ?_, ?_, ?_, ?_, by rw [hg]; exact hL⟩
    all_goals (rw [List.getElem?_append_left (by simp [hxt]; omega), List.getElem?_append_left (by omega), List.getElem?_take_of_lt (by omega)]; assumption)
  · subst h1
    have hg : (l.take q ++ [t] ++ l.drop q)[q] = t := by
      rw [List.getElem_append_left (by simp [hlt]), List.getElem_append_right (by omega)]
      simp [hlt]
    refine ⟨v0, v1, v2, v3, ?_, ?_, ?_, ?_, by rw [hg]; exact hl⟩
    all_goals
      rw [List.getElem?_append_left (by simp [hxt]), List.getElem?_append_right (by omega), hxt]
      simp
  · obtain ⟨u0, u1, u2, u3, e0, e1, e2, e3, hL⟩ := h (q - 1) (by omega) (by omega)
    have hg : (l.take at' ++ [t] ++ l.drop at')[q] = l[q - 1]'(by omega) := by
      rw [List.getElem_append_right (by simp [hlt]; omega), List.getElem_drop]
      congr 1
      simp [hlt]
      omega
    refine ⟨u0, u1, u2, u3, ?_, ?_, ?_, ?_, by rw [hg]; exact hL⟩
    all_goals
      rw [List.getElem?_append_right (by simp [hxt]; omega), List.getElem?_drop]
      simp only [List.length_append, List.length_cons, List.length_nil, hxt]
    · rw [show at' * 4 + (q * 4 - (at' * 4 + (0 + 1 + 1 + 1 + 1))) = (q - 1) * 4 by omega]; exact e0
    · rw [show at' * 4 + (q * 4 + 1 - (at' * 4 + (0 + 1 + 1 + 1 + 1))) = (q - 1) * 4 + 1 by omega]; exact e1
    · rw [show at' * 4 + (q * 4 + 2 - (at' * 4 + (0 + 1 + 1 + 1 + 1))) = (q - 1) * 4 + 2 by omega]; exact e2
    · rw [show at' * 4 + (q * 4 + 3 - (at' * 4 + (0 + 1 + 1 + 1 + 1))) = (q - 1) * 4 + 3 by omega]; exact e3

theorem slice_take {xs : List Value} {m : Nat} {j : Nat} {u : Value} (h : (xs.take m)[j]? = some u) : xs[j]? = some u := by
  rw [List.getElem?_take] at h
  split at h
  · exact h
  · cases h

set_option maxRecDepth 100000 in
set_option maxHeartbeats 4000000 in
theorem refsort_any (l : List Tm) (hlen : l.length ≤ 1000000) (S : Nat → Prop) (a : Option Addr) (cap : Nat) (w : World) (hl0 : Lst w S l a cap) :
    Calls Try.prog 18 #[.slice a l.length cap] w fun e w' => (∃ a' cap', e = .returned (.slice a' l.length cap') ∧ Lst w' (fun b => S b ∨ w.heap.size ≤ b) (sortT l) a' cap') ∧ Below w.heap.size w w' := by
  have hl := Hid.mk hl0.inside
  obtain ⟨i0, hi0, hz0, hz1, hby⟩ := info_at termInfo
  have hs0 := sortT_length l
  clear hl0
  go_enter Try.func18, Try.ntmps18
  go_wp2
  go_loopw [3, 4] (fun sv ii wr => ∃ (i : Nat) (xs : List Value), i ≤ l.length ∧ ii = .int .i64 i ∧ wr.ownsRow w.heap.size 24 4 sv i xs ∧ Hid (Side w (fun b => S b ∧ b < w.heap.size) (sortT (l.take i)) i xs) ∧ Hid (∀ u ∈ xs, u.oneCell' = true) ∧ (i = 0 → sv = .slice none 0 0) ∧ Below w.heap.size w wr) (fun _ ii _ => l.length - (intOf ii).toNat)
  case atStart => exact ⟨0, [], Nat.zero_le _, rfl, World.ownsRow_nil _ _ _ _, Hid.mk (fun q hq => by omega), Hid.mk (fun u hu => by cases hu), fun _ => rfl, Below.refl _ _⟩
  case round =>
    obtain ⟨i, xs, hi, rfl, hown, hsd, hone, hnil, hb⟩ := hrel
    have hzr := hb.size
    by_cases hlt : i < l.length
    · obtain ⟨b, o, rfl, hSb, hr⟩ := hl.out.some (by omega)
      obtain ⟨k1, n1, s1, m1, a1, cap1, hT1, c0, c1, c2, c3, hli⟩ := hr.part i hlt
      have e0 := cell_below hb _ _ _ c0
      have e1 := cell_below hb _ _ _ c1
      have e2 := cell_below hb _ _ _ c2
      have e3 := cell_below hb _ _ _ c3
      have hli := Hid.mk hli
      have hst := Hid.mk (sortT_take l i hlt)
      have hsl : Hid ((sortT (l.take i)).length = i) := Hid.mk (by rw [sortT_length, List.length_take]; omega)
      generalize hOO : sortT (l.take i) = O at hsd hst hsl
      have hins := Hid.mk (insAt_is O l[i])
      clear hT1 c0 c1 c2 c3 hOO
      by_cases hi1 : i = 0
      · subst hi1
        obtain rfl := hnil rfl
        clear hnil
        have hins0 := Hid.mk (hins.out 0 (Nat.zero_le _) (fun j _ h => by rw [hsl.out] at h; omega) (fun _ h => by omega))
        have hown0l : xs.length = 0 * 4 := hown.1
        have hx0 : xs = [] := List.eq_nil_of_length_eq_zero (by omega)
        subst hx0
        have hO0 : Hid (O = []) := Hid.mk (List.eq_nil_of_length_eq_zero hsl.out)
        go_wp2
        obtain ⟨wo, hwo⟩ : ∃ wo : World, wo = wr := ⟨_, rfl⟩
        subst hwo
        go_loopw [5] (fun jj wr => jj = .int .i64 0 ∧ Up wo wr) (fun _ _ => 0)
        case atStart => exact ⟨rfl, Up.refl _⟩
        case round =>
          obtain ⟨rfl, huq⟩ := hrel
          go_upto_region 6 with fail
          refine region_up (W := wr) (by kernel_rfl) (by kernel_rfl) (Up.refl _) ?_
          refine quiet_value (v := .int .i64 0) rfl (fun _ _ => rfl) ?_
          simp only [Act.put, List.setIfInBounds_toArray, List.set_cons_zero, List.set_cons_succ]
          refine quiet_value (v := .bool false) rfl (fun _ _ => (by go_simp)) ?_
          simp only [Act.put, List.setIfInBounds_toArray, List.set_cons_zero, List.set_cons_succ]
          refine quiet_value (v := .bool false) rfl (fun _ _ => rfl) ?_
          simp only [Act.put, List.setIfInBounds_toArray, List.set_cons_zero, List.set_cons_succ]
          refine quiet_not rfl ?_
          simp only [Act.put, List.setIfInBounds_toArray, List.set_cons_zero, List.set_cons_succ]
          refine quiet_not rfl ?_
          simp only [Act.put, List.setIfInBounds_toArray, List.set_cons_zero, List.set_cons_succ]
          refine quiet_not rfl ?_
          simp only [Act.put, List.setIfInBounds_toArray, List.set_cons_zero, List.set_cons_succ]
          refine quiet_not rfl ?_
          simp only [Act.put, List.setIfInBounds_toArray, List.set_cons_zero, List.set_cons_succ]
          refine quiet_not rfl ?_
          simp only [Act.put, List.setIfInBounds_toArray, List.set_cons_zero, List.set_cons_succ]
          refine quiet_not rfl ?_
          simp only [Act.put, List.setIfInBounds_toArray, List.set_cons_zero, List.set_cons_succ]
          refine quiet_not rfl ?_
          simp only [Act.put, List.setIfInBounds_toArray, List.set_cons_zero, List.set_cons_succ]
          refine quiet_not rfl ?_
          simp only [Act.put, List.setIfInBounds_toArray, List.set_cons_zero, List.set_cons_succ]
          refine quiet_not rfl ?_
          simp only [Act.put, List.setIfInBounds_toArray, List.set_cons_zero, List.set_cons_succ]
          refine quiet_not rfl ?_
          simp only [Act.put, List.setIfInBounds_toArray, List.set_cons_zero, List.set_cons_succ]
          refine quiet_not rfl ?_
          simp only [Act.put, List.setIfInBounds_toArray, List.set_cons_zero, List.set_cons_succ]
          refine quiet_value (v := .bool false) rfl (fun _ _ => rfl) ?_
          simp only [Act.put, List.setIfInBounds_toArray, List.set_cons_zero, List.set_cons_succ]
          refine quiet_nil ?_
          intro w6 hw6
          have hb6 : Below w.heap.size w w6 := hb.trans ((huq.call hw6.out).out.mono hzr)
          have hz6 := hb6.size
          have f0 : (w6.alloc (.cells #[] 24)).cell? ⟨b, o, none⟩ = some (.int .i64 k1) := by simpa using cell_below ((huq.call hw6.out).alloc (o := .cells #[] 24)).out _ _ _ e0
          have f1 : (w6.alloc (.cells #[] 24)).cell? ⟨b, o + 1, none⟩ = some (.int .i64 n1) := by simpa using cell_below ((huq.call hw6.out).alloc (o := .cells #[] 24)).out _ _ _ e1
          have f2 : (w6.alloc (.cells #[] 24)).cell? ⟨b, o + 2, none⟩ = some (.string s1) := by simpa using cell_below ((huq.call hw6.out).alloc (o := .cells #[] 24)).out _ _ _ e2
          have f3 : (w6.alloc (.cells #[] 24)).cell? ⟨b, o + 3, none⟩ = some (.slice a1 m1.length cap1) := by simpa using cell_below ((huq.call hw6.out).alloc (o := .cells #[] 24)).out _ _ _ e3
          have hown6 : (w6.alloc (.cells #[] 24)).ownsRow w.heap.size 24 4 (.slice (some ⟨w6.heap.size, 0, none⟩) 0 0) 0 [] := World.ownsRow_made w6 #[] 0 hz6 (Nat.zero_le _) rfl
          have hnw := cells_new (w6.alloc (.cells #[] 24)) [.int .i64 k1, .int .i64 n1, .string s1, .slice a1 m1.length cap1] 24
          rw [World.size_alloc] at hnw
          have hnw := Hid.mk hnw
          have hbz6 : w.heap.size ≤ (w6.alloc (.cells #[] 24)).heap.size := by rw [World.size_alloc]; omega
          have m0t := True.intro
          go_wp2_with (first
            | (at_builtin; have gg := m0t; refine wpList_append_own_none rfl _ _ 22 rfl w.heap.size 24 i0 4 Try.underlying22 hi0 _ 0 [] rfl hown6 rfl ?_; clear m0t; have m1t := True.intro)
            | (at_builtin; have gg := m1t; refine wpList_append_own_at _ rfl _ _ 22 rfl w.heap.size 24 i0 _ 4 56 Try.underlying22 hi0 hz0 hz1 hby rfl (by decide) _ 0 _ rfl (hown6.alloc _) ⟨w6.heap.size + 1, 0, none⟩ 1 1 [.int .i64 k1, .int .i64 n1, .string s1, .slice a1 m1.length cap1] rfl rfl hnw.out (fun x hx => by simp at hx; rcases hx with rfl | rfl | rfl | rfl <;> rfl) (by unfold maxLen; omega) (by omega) (by simp; omega) ?_; intro v9 w9 hown9 hgrow9 _ hat9; clear m1t; have m2t := True.intro)
            | (at_builtin; have gg := m2t; refine wpList_append_own_none rfl _ _ 22 rfl w.heap.size 24 i0 4 Try.underlying22 hi0 _ (0 + 1) _ rfl hown9 rfl ?_))
          go_roundw
          case rel =>
            have hs1 := Side.insert (at' := 0) hsd.out hsl.out hown0l (Nat.le_refl _) hli.out
            exact ⟨1, _, by omega, by go_num, hown9, Hid.mk (by rw [hst.out, insT, hins0.out]; exact hs1), Hid.mk (fun x hx => by simp at hx; rcases hx with rfl | rfl | rfl | rfl <;> rfl), fun h => by omega, (hb6.alloc (by omega) _).alloc (by rw [World.size_alloc]; omega) _ |>.grown hgrow9 (by simp; omega) (fun k hk => by cases hk; exact hz6)⟩
          case measure => simp [intOf]; omega
      · obtain ⟨g, cap', cur, rfl, hbg, hgg, hcc, hmm, hcs, hcu⟩ := owns_some hown (by omega)
        have hxl := Hid.mk hown.1
        have hcu := Hid.mk hcu
        clear hnil hown
        go_wp2
        obtain ⟨wo, hwo⟩ : ∃ wo : World, wo = wr := ⟨_, rfl⟩
        subst hwo
        go_loopw [5] (fun jj wr => ∃ q : Nat, q ≤ i ∧ jj = .int .i64 q ∧ Hid (∀ j (_ : q ≤ j) (h : j < O.length), 0 < O[j].cmp l[i]) ∧ Up wo wr) (fun jj _ => (intOf jj).toNat)
        case atStart => exact ⟨i, Nat.le_refl _, rfl, Hid.mk (fun j h1 h2 => by rw [hsl.out] at h2; omega), Up.refl _⟩
        case round =>
          obtain ⟨q, hqle, rfl, hall, huq⟩ := hrel
          by_cases hq0 : 0 < q
          · obtain ⟨v0, v1, v2, v3, x0, x1, x2, x3, hlq⟩ := hsd.out (q - 1) (by omega) (by rw [hsl.out]; omega)
            have hrw := fun j u hu => cell_below huq.out g j u ((cell_of_row wo g j cur 24 (0, 0) hgg).trans (hcu.out j u hu))
            have y0 := hrw _ _ x0
            have y1 := hrw _ _ x1
            have y2 := hrw _ _ x2
            have y3 := hrw _ _ x3
            have z0 := cell_below huq.out _ _ _ e0
            have z1 := cell_below huq.out _ _ _ e1
            have z2 := cell_below huq.out _ _ _ e2
            have z3 := cell_below huq.out _ _ _ e3
            have hqm : ((q : Int) - 1) = ((q - 1 : Nat) : Int) := by omega
            have hqp : (0 : Int) < (q : Int) := by omega
            have hqi1 : (q - 1 : Nat) < i := by omega
            have hqi2 : ((q - 1 : Nat) : Int) < (i : Int) := by omega
            have hi3 : (i : Int) < (l.length : Int) := by omega
            have hcall := Hid.mk (fun (W : World) (hW : Up wr W) => refcompare_any (O[q - 1]'(by rw [hsl.out]; omega)) l[i] _ _ _ _ W ((hlq.below hb).below (huq.call hW.out).out) ((hli.out.below hb).below (huq.call hW.out).out))
            have hmore := Hid.mk (fun (h : 0 < (O[q - 1]'(by rw [hsl.out]; omega)).cmp l[i]) => (fun j (h1 : q - 1 ≤ j) (h2 : j < O.length) => by
              by_cases e : j = q - 1
              · subst e; exact h
              · exact hall.out j (by omega) h2 : ∀ j (_ : q - 1 ≤ j) (h : j < O.length), 0 < O[j].cmp l[i]))
            have hstp := Hid.mk (fun (h : ¬ 0 < (O[q - 1]'(by rw [hsl.out]; omega)).cmp l[i]) => (fun _ _ => h : ∀ (_ : 0 < q) (h : q - 1 < O.length), ¬ 0 < O[q - 1].cmp l[i]))
            generalize hxx : (O[q - 1]'(by rw [hsl.out]; omega)).cmp l[i] = x at hcall
            have hxx := Hid.mk hxx
            have hwq : IntKind.i64.wrap ((q - 1 : Nat) : Int) = ((q - 1 : Nat) : Int) := wrap_id (by omega) (by omega)
            clear hlq hrw x0 x1 x2 x3
            by_cases hx : 0 < x
            · have hdx : decide (0 < x) = true := decide_eq_true hx
              go_upto_region 6 with fail
              refine region_up (W := wr) (by kernel_rfl) (by kernel_rfl) (Up.refl _) ?_
              refine quiet_value (v := .int .i64 q) rfl (fun _ _ => rfl) ?_
              simp only [Act.put, List.setIfInBounds_toArray, List.set_cons_zero, List.set_cons_succ]
              refine quiet_value (v := .bool true) rfl (fun _ _ => (by go_simp)) ?_
              simp only [Act.put, List.setIfInBounds_toArray, List.set_cons_zero, List.set_cons_succ]
              refine quiet_value (v := .bool true) rfl (fun _ _ => rfl) ?_
              simp only [Act.put, List.setIfInBounds_toArray, List.set_cons_zero, List.set_cons_succ]
              refine quiet_value (v := .slice (some ⟨g, 0, none⟩) i cap') rfl (fun _ _ => rfl) ?_
              simp only [Act.put, List.setIfInBounds_toArray, List.set_cons_zero, List.set_cons_succ]
              refine quiet_value (v := .int .i64 q) rfl (fun _ _ => rfl) ?_
              simp only [Act.put, List.setIfInBounds_toArray, List.set_cons_zero, List.set_cons_succ]
              refine quiet_value (v := .int .i64 ((q - 1 : Nat) : Int)) rfl (fun _ _ => (by go_simp)) ?_
              simp only [Act.put, List.setIfInBounds_toArray, List.set_cons_zero, List.set_cons_succ]
              refine quiet_value (v := .pointer (some ⟨g, (q - 1) * 4, none⟩)) rfl (fun _ _ => (by go_simp)) ?_
              simp only [Act.put, List.setIfInBounds_toArray, List.set_cons_zero, List.set_cons_succ]
              refine quiet_value (v := .agg #[v0, v1, v2, v3]) rfl (fun W h => (by have u0 := cell_below h.out _ _ _ y0; have u1 := cell_below h.out _ _ _ y1; have u2 := cell_below h.out _ _ _ y2; have u3 := cell_below h.out _ _ _ y3; go_simp)) ?_
              simp only [Act.put, List.setIfInBounds_toArray, List.set_cons_zero, List.set_cons_succ]
              refine quiet_value (v := .slice (some ⟨b, o, none⟩) l.length cap) rfl (fun _ _ => rfl) ?_
              simp only [Act.put, List.setIfInBounds_toArray, List.set_cons_zero, List.set_cons_succ]
              refine quiet_value (v := .int .i64 i) rfl (fun _ _ => rfl) ?_
              simp only [Act.put, List.setIfInBounds_toArray, List.set_cons_zero, List.set_cons_succ]
              refine quiet_value (v := .pointer (some ⟨b, o + i * 4, none⟩)) rfl (fun _ _ => (by go_simp)) ?_
              simp only [Act.put, List.setIfInBounds_toArray, List.set_cons_zero, List.set_cons_succ]
              refine quiet_value (v := .agg #[.int .i64 k1, .int .i64 n1, .string s1, .slice a1 m1.length cap1]) rfl (fun W h => (by have u0 := cell_below h.out _ _ _ z0; have u1 := cell_below h.out _ _ _ z1; have u2 := cell_below h.out _ _ _ z2; have u3 := cell_below h.out _ _ _ z3; go_simp)) ?_
              simp only [Act.put, List.setIfInBounds_toArray, List.set_cons_zero, List.set_cons_succ]
              refine quiet_call (v := .int .i64 x) rfl (fun W => (by go_simp)) (fun W h => (hcall.out W h).mono fun e w' ⟨he, hb⟩ => ⟨he, h.call hb⟩) ?_
              simp only [Act.put, List.setIfInBounds_toArray, List.set_cons_zero, List.set_cons_succ]
              refine quiet_value (v := .bool true) rfl (fun _ _ => (by go_simp)) ?_
              simp only [Act.put, List.setIfInBounds_toArray, List.set_cons_zero, List.set_cons_succ]
              refine quiet_value (v := .bool true) rfl (fun _ _ => rfl) ?_
              simp only [Act.put, List.setIfInBounds_toArray, List.set_cons_zero, List.set_cons_succ]
              refine quiet_nil ?_
              intro w6 hw6
              go_wp2
              go_roundw
              case rel => exact ⟨q - 1, by omega, rfl, Hid.mk (hmore.out (by rw [hxx.out]; exact hx)), huq.call hw6.out⟩
              case measure => simp [intOf]; omega
            · have hdx : decide (0 < x) = false := decide_eq_false hx
              have hstop := Hid.mk (hstp.out (by rw [hxx.out]; exact hx))
              go_upto_region 6 with fail
              refine region_up (W := wr) (by kernel_rfl) (by kernel_rfl) (Up.refl _) ?_
              refine quiet_value (v := .int .i64 q) rfl (fun _ _ => rfl) ?_
              simp only [Act.put, List.setIfInBounds_toArray, List.set_cons_zero, List.set_cons_succ]
              refine quiet_value (v := .bool true) rfl (fun _ _ => (by go_simp)) ?_
              simp only [Act.put, List.setIfInBounds_toArray, List.set_cons_zero, List.set_cons_succ]
              refine quiet_value (v := .bool true) rfl (fun _ _ => rfl) ?_
              simp only [Act.put, List.setIfInBounds_toArray, List.set_cons_zero, List.set_cons_succ]
              refine quiet_value (v := .slice (some ⟨g, 0, none⟩) i cap') rfl (fun _ _ => rfl) ?_
              simp only [Act.put, List.setIfInBounds_toArray, List.set_cons_zero, List.set_cons_succ]
              refine quiet_value (v := .int .i64 q) rfl (fun _ _ => rfl) ?_
              simp only [Act.put, List.setIfInBounds_toArray, List.set_cons_zero, List.set_cons_succ]
              refine quiet_value (v := .int .i64 ((q - 1 : Nat) : Int)) rfl (fun _ _ => (by go_simp)) ?_
              simp only [Act.put, List.setIfInBounds_toArray, List.set_cons_zero, List.set_cons_succ]
              refine quiet_value (v := .pointer (some ⟨g, (q - 1) * 4, none⟩)) rfl (fun _ _ => (by go_simp)) ?_
              simp only [Act.put, List.setIfInBounds_toArray, List.set_cons_zero, List.set_cons_succ]
              refine quiet_value (v := .agg #[v0, v1, v2, v3]) rfl (fun W h => (by have u0 := cell_below h.out _ _ _ y0; have u1 := cell_below h.out _ _ _ y1; have u2 := cell_below h.out _ _ _ y2; have u3 := cell_below h.out _ _ _ y3; go_simp)) ?_
              simp only [Act.put, List.setIfInBounds_toArray, List.set_cons_zero, List.set_cons_succ]
              refine quiet_value (v := .slice (some ⟨b, o, none⟩) l.length cap) rfl (fun _ _ => rfl) ?_
              simp only [Act.put, List.setIfInBounds_toArray, List.set_cons_zero, List.set_cons_succ]
              refine quiet_value (v := .int .i64 i) rfl (fun _ _ => rfl) ?_
              simp only [Act.put, List.setIfInBounds_toArray, List.set_cons_zero, List.set_cons_succ]
              refine quiet_value (v := .pointer (some ⟨b, o + i * 4, none⟩)) rfl (fun _ _ => (by go_simp)) ?_
              simp only [Act.put, List.setIfInBounds_toArray, List.set_cons_zero, List.set_cons_succ]
              refine quiet_value (v := .agg #[.int .i64 k1, .int .i64 n1, .string s1, .slice a1 m1.length cap1]) rfl (fun W h => (by have u0 := cell_below h.out _ _ _ z0; have u1 := cell_below h.out _ _ _ z1; have u2 := cell_below h.out _ _ _ z2; have u3 := cell_below h.out _ _ _ z3; go_simp)) ?_
              simp only [Act.put, List.setIfInBounds_toArray, List.set_cons_zero, List.set_cons_succ]
              refine quiet_call (v := .int .i64 x) rfl (fun W => (by go_simp)) (fun W h => (hcall.out W h).mono fun e w' ⟨he, hb⟩ => ⟨he, h.call hb⟩) ?_
              simp only [Act.put, List.setIfInBounds_toArray, List.set_cons_zero, List.set_cons_succ]
              refine quiet_value (v := .bool false) rfl (fun _ _ => (by go_simp)) ?_
              simp only [Act.put, List.setIfInBounds_toArray, List.set_cons_zero, List.set_cons_succ]
              refine quiet_value (v := .bool false) rfl (fun _ _ => rfl) ?_
              simp only [Act.put, List.setIfInBounds_toArray, List.set_cons_zero, List.set_cons_succ]
              refine quiet_nil ?_
              intro w6 hw6
              clear hqm hwq y0 y1 y2 y3 z0 z1 z2 z3 hcall hmore hstp
              have hb6 : Below w.heap.size w w6 := hb.trans ((huq.call hw6.out).out.mono hzr)
              have hu6 := huq.call hw6.out
              have hz6 := hu6.out.size
              have hgl : g < wo.heap.size := (Array.getElem?_eq_some_iff.1 hgg).1
              have hown6 : (w6.alloc (.cells #[] 24)).ownsRow w.heap.size 24 4 (.slice (some ⟨w6.heap.size, 0, none⟩) 0 0) 0 [] := World.ownsRow_made w6 #[] 0 (by omega) (Nat.zero_le _) rfl
              have hrow : Hid (∀ W', Up wo W' → ∀ (j : Nat) (u : Value), xs[j]? = some u → W'.cell? ⟨g, j, none⟩ = some u) := Hid.mk (fun W' hW j u hu => cell_below hW.out _ _ _ ((cell_of_row wo g j cur 24 (0, 0) hgg).trans (hcu.out j u hu)))
              have hn1 : Hid (∀ (j : Nat) (u : Value), (xs.take (q * 4))[j]? = some u → (w6.alloc (.cells #[] 24)).cell? ((⟨g, 0, none⟩ : Addr).add j) = some u) := Hid.mk (fun j u hu => by rw [WideShapes.add_plain, Nat.zero_add]; exact hrow.out _ hu6.alloc j u (slice_take hu))
              have hlt1 : (xs.take (q * 4)).length = q * 4 := by rw [List.length_take, hxl.out]; omega
              have hbz6 : w.heap.size ≤ (w6.alloc (.cells #[] 24)).heap.size := by rw [World.size_alloc]; omega
              have hlt2 : (xs.drop (q * 4)).length = (i - q) * 4 := by rw [List.length_drop, hxl.out]; omega
              have hqc1 : ¬ cap' < q := by omega
              have hqc2 : ¬ (cap' : Int) < (q : Int) := by omega
              have hqi : ¬ i < q := by omega
              have hsq := hins.out q (by rw [hsl.out]; omega) (fun j h1 h2 => hall.out j h1 h2) (fun h h0 => by first | exact hstop.out h0 h | exact Int.not_lt.1 (hstop.out h0 h))
              have hsq := Hid.mk hsq
              have m0t := True.intro
              by_cases hqc : cap' = q
              · obtain rfl : q = cap' := hqc.symm
                have hiq : Hid (i - q = 0) := Hid.mk (by omega)
                go_wp2_with (first
                  | (at_builtin; have gg := m0t; refine wpList_append_own_at _ rfl _ _ 22 rfl w.heap.size 24 i0 _ 4 56 Try.underlying22 hi0 hz0 hz1 hby rfl (by decide) _ 0 [] rfl hown6 ⟨g, 0, none⟩ q q (xs.take (q * 4)) rfl hlt1 hn1.out (fun u hu => hone.out u (List.mem_of_mem_take hu)) (by unfold maxLen; omega) (by omega) hbz6 ?_; intro v7 w7 hown7 hgrow7 _ hat7; have hu7 : Up wo w7 := hu6.alloc.out.grown hgrow7 (by rw [World.size_alloc]; omega) (fun k hk => by cases hk; exact hz6); have hz7 := hu7.out.size; have hown7g : ∀ k, v7.ownBlock = some k → wo.heap.size ≤ k := (fun k hk => by rcases hat7 with h | h <;> (rw [hk] at h; injection h with h; rw [h]; first | exact hz6 | (rw [World.size_alloc]; omega))); have f0 := cell_below hu7.out _ _ _ e0; have f1 := cell_below hu7.out _ _ _ e1; have f2 := cell_below hu7.out _ _ _ e2; have f3 := cell_below hu7.out _ _ _ e3; clear m0t; have m1t := True.intro)
                  | (at_builtin; have gg := m1t; refine wpList_append_own_at _ rfl _ _ 22 rfl w.heap.size 24 i0 _ 4 56 Try.underlying22 hi0 hz0 hz1 hby rfl (by decide) _ _ _ rfl (hown7.alloc _) ⟨w7.heap.size, 0, none⟩ 1 1 [.int .i64 k1, .int .i64 n1, .string s1, .slice a1 m1.length cap1] rfl rfl (cells_new _ _ _) (fun x hx => by simp at hx; rcases hx with rfl | rfl | rfl | rfl <;> rfl) (by unfold maxLen; omega) (by omega) (by rw [World.size_alloc]; omega) ?_; intro v8 w8 hown8 hgrow8 _ hat8; have hu8 : Up wo w8 := hu7.alloc.out.grown hgrow8 (by rw [World.size_alloc]; omega) hown7g; have hz8 := hu8.out.size; have hown8g : ∀ k, v8.ownBlock = some k → wo.heap.size ≤ k := (fun k hk => by rcases hat8 with h | h <;> first | exact hown7g k (h.symm.trans hk) | (rw [hk] at h; injection h with h; rw [h, World.size_alloc]; omega)); clear m1t; have m2t := True.intro)
                  | (at_builtin; have gg := m2t; refine wpList_append_own_at _ rfl _ _ 22 rfl w.heap.size 24 i0 _ 4 56 Try.underlying22 hi0 hz0 hz1 hby rfl (by decide) _ _ _ rfl hown8 ⟨g, 0, none⟩ 0 0 (xs.drop (q * 4)) rfl (by have := hiq.out; omega) (fun j u hu => by rw [List.getElem?_eq_none (by have := hiq.out; omega)] at hu; cases hu) (fun u hu => hone.out u (List.mem_of_mem_drop hu)) (by unfold maxLen; omega) (by omega) (by omega) ?_; intro v9 w9 hown9 hgrow9 _ hat9; have hu9 : Up wo w9 := hu8.out.grown hgrow9 (by omega) hown8g))
                go_roundw
                case rel =>
                  have hown9' : w9.ownsRow w.heap.size 24 4 v9 (i + 1) (xs.take (q * 4) ++ [.int .i64 k1, .int .i64 n1, .string s1, .slice a1 m1.length cap1] ++ xs.drop (q * 4)) := by
                    have h := hown9
                    rw [List.nil_append, show 0 + q + 1 + 0 = i + 1 by omega] at h
                    exact h
                  have hs9 := Side.insert hsd.out hsl.out hxl.out hqle hli.out
                  rw [← hsq.out] at hs9
                  exact ⟨i + 1, _, hlt, by go_num, hown9', Hid.mk (by rw [hst.out, insT, hsq.out]; rw [hsq.out] at hs9; exact hs9), Hid.mk (fun u hu => by
                    simp only [List.mem_append] at hu
                    rcases hu with (hu | hu) | hu
                    · exact hone.out u (List.mem_of_mem_take hu)
                    · (simp only [List.mem_cons, List.not_mem_nil, or_false] at hu; rcases hu with rfl | rfl | rfl | rfl <;> rfl)
                    · exact hone.out u (List.mem_of_mem_drop hu)), fun h => by omega, hb.trans (hu9.out.mono hzr)⟩
                case measure => simp [intOf]; omega
              · have hqcb : (cap' == q) = false := by simpa using hqc
                go_wp2_with (first
                  | (at_builtin; have gg := m0t; refine wpList_append_own_at _ rfl _ _ 22 rfl w.heap.size 24 i0 _ 4 56 Try.underlying22 hi0 hz0 hz1 hby rfl (by decide) _ 0 [] rfl hown6 ⟨g, 0, none⟩ q cap' (xs.take (q * 4)) rfl hlt1 hn1.out (fun u hu => hone.out u (List.mem_of_mem_take hu)) (by unfold maxLen; omega) (by omega) hbz6 ?_; intro v7 w7 hown7 hgrow7 _ hat7; have hu7 : Up wo w7 := hu6.alloc.out.grown hgrow7 (by rw [World.size_alloc]; omega) (fun k hk => by cases hk; exact hz6); have hz7 := hu7.out.size; have hown7g : ∀ k, v7.ownBlock = some k → wo.heap.size ≤ k := (fun k hk => by rcases hat7 with h | h <;> (rw [hk] at h; injection h with h; rw [h]; first | exact hz6 | (rw [World.size_alloc]; omega))); have f0 := cell_below hu7.out _ _ _ e0; have f1 := cell_below hu7.out _ _ _ e1; have f2 := cell_below hu7.out _ _ _ e2; have f3 := cell_below hu7.out _ _ _ e3; clear m0t; have m1t := True.intro)
                  | (at_builtin; have gg := m1t; refine wpList_append_own_at _ rfl _ _ 22 rfl w.heap.size 24 i0 _ 4 56 Try.underlying22 hi0 hz0 hz1 hby rfl (by decide) _ _ _ rfl (hown7.alloc _) ⟨w7.heap.size, 0, none⟩ 1 1 [.int .i64 k1, .int .i64 n1, .string s1, .slice a1 m1.length cap1] rfl rfl (cells_new _ _ _) (fun x hx => by simp at hx; rcases hx with rfl | rfl | rfl | rfl <;> rfl) (by unfold maxLen; omega) (by omega) (by rw [World.size_alloc]; omega) ?_; intro v8 w8 hown8 hgrow8 _ hat8; have hu8 : Up wo w8 := hu7.alloc.out.grown hgrow8 (by rw [World.size_alloc]; omega) hown7g; have hz8 := hu8.out.size; have hown8g : ∀ k, v8.ownBlock = some k → wo.heap.size ≤ k := (fun k hk => by rcases hat8 with h | h <;> first | exact hown7g k (h.symm.trans hk) | (rw [hk] at h; injection h with h; rw [h, World.size_alloc]; omega)); clear m1t; have m2t := True.intro)
                  | (at_builtin; have gg := m2t; refine wpList_append_own_at _ rfl _ _ 22 rfl w.heap.size 24 i0 _ 4 56 Try.underlying22 hi0 hz0 hz1 hby rfl (by decide) _ _ _ rfl hown8 ⟨g, q * 4, none⟩ (i - q) (cap' - q) (xs.drop (q * 4)) rfl hlt2 (fun j u hu => by rw [WideShapes.add_plain]; rw [List.getElem?_drop] at hu; exact hrow.out _ hu8 _ u hu) (fun u hu => hone.out u (List.mem_of_mem_drop hu)) (by unfold maxLen; omega) (by omega) (by omega) ?_; intro v9 w9 hown9 hgrow9 _ hat9; have hu9 : Up wo w9 := hu8.out.grown hgrow9 (by omega) hown8g))
                go_roundw
                case rel =>
                  have hown9' : w9.ownsRow w.heap.size 24 4 v9 (i + 1) (xs.take (q * 4) ++ [.int .i64 k1, .int .i64 n1, .string s1, .slice a1 m1.length cap1] ++ xs.drop (q * 4)) := by
                    have h := hown9
                    rw [List.nil_append, show 0 + q + 1 + (i - q) = i + 1 by omega] at h
                    exact h
                  have hs9 := Side.insert hsd.out hsl.out hxl.out hqle hli.out
                  rw [← hsq.out] at hs9
                  exact ⟨i + 1, _, hlt, by go_num, hown9', Hid.mk (by rw [hst.out, insT, hsq.out]; rw [hsq.out] at hs9; exact hs9), Hid.mk (fun u hu => by
                    simp only [List.mem_append] at hu
                    rcases hu with (hu | hu) | hu
                    · exact hone.out u (List.mem_of_mem_take hu)
                    · (simp only [List.mem_cons, List.not_mem_nil, or_false] at hu; rcases hu with rfl | rfl | rfl | rfl <;> rfl)
                    · exact hone.out u (List.mem_of_mem_drop hu)), fun h => by omega, hb.trans (hu9.out.mono hzr)⟩
                case measure => simp [intOf]; omega
          · have hqp : ¬ (0 : Int) < (q : Int) := by omega
            have hstop : Hid (∀ (_ : 0 < q) (h : q - 1 < O.length), ¬ 0 < O[q - 1].cmp l[i]) := Hid.mk (fun h => by omega)
            go_upto_region 6 with fail
            refine region_up (W := wr) (by kernel_rfl) (by kernel_rfl) (Up.refl _) ?_
            refine quiet_value (v := .int .i64 q) rfl (fun _ _ => rfl) ?_
            simp only [Act.put, List.setIfInBounds_toArray, List.set_cons_zero, List.set_cons_succ]
            refine quiet_value (v := .bool false) rfl (fun _ _ => (by go_simp)) ?_
            simp only [Act.put, List.setIfInBounds_toArray, List.set_cons_zero, List.set_cons_succ]
            refine quiet_value (v := .bool false) rfl (fun _ _ => rfl) ?_
            simp only [Act.put, List.setIfInBounds_toArray, List.set_cons_zero, List.set_cons_succ]
            refine quiet_not rfl ?_
            simp only [Act.put, List.setIfInBounds_toArray, List.set_cons_zero, List.set_cons_succ]
            refine quiet_not rfl ?_
            simp only [Act.put, List.setIfInBounds_toArray, List.set_cons_zero, List.set_cons_succ]
            refine quiet_not rfl ?_
            simp only [Act.put, List.setIfInBounds_toArray, List.set_cons_zero, List.set_cons_succ]
            refine quiet_not rfl ?_
            simp only [Act.put, List.setIfInBounds_toArray, List.set_cons_zero, List.set_cons_succ]
            refine quiet_not rfl ?_
            simp only [Act.put, List.setIfInBounds_toArray, List.set_cons_zero, List.set_cons_succ]
            refine quiet_not rfl ?_
            simp only [Act.put, List.setIfInBounds_toArray, List.set_cons_zero, List.set_cons_succ]
            refine quiet_not rfl ?_
            simp only [Act.put, List.setIfInBounds_toArray, List.set_cons_zero, List.set_cons_succ]
            refine quiet_not rfl ?_
            simp only [Act.put, List.setIfInBounds_toArray, List.set_cons_zero, List.set_cons_succ]
            refine quiet_not rfl ?_
            simp only [Act.put, List.setIfInBounds_toArray, List.set_cons_zero, List.set_cons_succ]
            refine quiet_not rfl ?_
            simp only [Act.put, List.setIfInBounds_toArray, List.set_cons_zero, List.set_cons_succ]
            refine quiet_not rfl ?_
            simp only [Act.put, List.setIfInBounds_toArray, List.set_cons_zero, List.set_cons_succ]
            refine quiet_value (v := .bool false) rfl (fun _ _ => rfl) ?_
            simp only [Act.put, List.setIfInBounds_toArray, List.set_cons_zero, List.set_cons_succ]
            refine quiet_nil ?_
            intro w6 hw6
            have hb6 : Below w.heap.size w w6 := hb.trans ((huq.call hw6.out).out.mono hzr)
            have hu6 := huq.call hw6.out
            have hz6 := hu6.out.size
            have hgl : g < wo.heap.size := (Array.getElem?_eq_some_iff.1 hgg).1
            have hown6 : (w6.alloc (.cells #[] 24)).ownsRow w.heap.size 24 4 (.slice (some ⟨w6.heap.size, 0, none⟩) 0 0) 0 [] := World.ownsRow_made w6 #[] 0 (by omega) (Nat.zero_le _) rfl
            have hrow : Hid (∀ W', Up wo W' → ∀ (j : Nat) (u : Value), xs[j]? = some u → W'.cell? ⟨g, j, none⟩ = some u) := Hid.mk (fun W' hW j u hu => cell_below hW.out _ _ _ ((cell_of_row wo g j cur 24 (0, 0) hgg).trans (hcu.out j u hu)))
            have hn1 : Hid (∀ (j : Nat) (u : Value), (xs.take (q * 4))[j]? = some u → (w6.alloc (.cells #[] 24)).cell? ((⟨g, 0, none⟩ : Addr).add j) = some u) := Hid.mk (fun j u hu => by rw [WideShapes.add_plain, Nat.zero_add]; exact hrow.out _ hu6.alloc j u (slice_take hu))
            have hlt1 : (xs.take (q * 4)).length = q * 4 := by rw [List.length_take, hxl.out]; omega
            have hbz6 : w.heap.size ≤ (w6.alloc (.cells #[] 24)).heap.size := by rw [World.size_alloc]; omega
            have hlt2 : (xs.drop (q * 4)).length = (i - q) * 4 := by rw [List.length_drop, hxl.out]; omega
            have hqc1 : ¬ cap' < q := by omega
            have hqc2 : ¬ (cap' : Int) < (q : Int) := by omega
            have hqi : ¬ i < q := by omega
            have hsq := hins.out q (by rw [hsl.out]; omega) (fun j h1 h2 => hall.out j h1 h2) (fun h h0 => by first | exact hstop.out h0 h | exact Int.not_lt.1 (hstop.out h0 h))
            have hsq := Hid.mk hsq
            have m0t := True.intro
            by_cases hqc : cap' = q
            · exfalso
              omega
            · have hqcb : (cap' == q) = false := by simpa using hqc
              go_wp2_with (first
                | (at_builtin; have gg := m0t; refine wpList_append_own_at _ rfl _ _ 22 rfl w.heap.size 24 i0 _ 4 56 Try.underlying22 hi0 hz0 hz1 hby rfl (by decide) _ 0 [] rfl hown6 ⟨g, 0, none⟩ q cap' (xs.take (q * 4)) rfl hlt1 hn1.out (fun u hu => hone.out u (List.mem_of_mem_take hu)) (by unfold maxLen; omega) (by omega) hbz6 ?_; intro v7 w7 hown7 hgrow7 _ hat7; have hu7 : Up wo w7 := hu6.alloc.out.grown hgrow7 (by rw [World.size_alloc]; omega) (fun k hk => by cases hk; exact hz6); have hz7 := hu7.out.size; have hown7g : ∀ k, v7.ownBlock = some k → wo.heap.size ≤ k := (fun k hk => by rcases hat7 with h | h <;> (rw [hk] at h; injection h with h; rw [h]; first | exact hz6 | (rw [World.size_alloc]; omega))); have f0 := cell_below hu7.out _ _ _ e0; have f1 := cell_below hu7.out _ _ _ e1; have f2 := cell_below hu7.out _ _ _ e2; have f3 := cell_below hu7.out _ _ _ e3; clear m0t; have m1t := True.intro)
                | (at_builtin; have gg := m1t; refine wpList_append_own_at _ rfl _ _ 22 rfl w.heap.size 24 i0 _ 4 56 Try.underlying22 hi0 hz0 hz1 hby rfl (by decide) _ _ _ rfl (hown7.alloc _) ⟨w7.heap.size, 0, none⟩ 1 1 [.int .i64 k1, .int .i64 n1, .string s1, .slice a1 m1.length cap1] rfl rfl (cells_new _ _ _) (fun x hx => by simp at hx; rcases hx with rfl | rfl | rfl | rfl <;> rfl) (by unfold maxLen; omega) (by omega) (by rw [World.size_alloc]; omega) ?_; intro v8 w8 hown8 hgrow8 _ hat8; have hu8 : Up wo w8 := hu7.alloc.out.grown hgrow8 (by rw [World.size_alloc]; omega) hown7g; have hz8 := hu8.out.size; have hown8g : ∀ k, v8.ownBlock = some k → wo.heap.size ≤ k := (fun k hk => by rcases hat8 with h | h <;> first | exact hown7g k (h.symm.trans hk) | (rw [hk] at h; injection h with h; rw [h, World.size_alloc]; omega)); clear m1t; have m2t := True.intro)
                | (at_builtin; have gg := m2t; refine wpList_append_own_at _ rfl _ _ 22 rfl w.heap.size 24 i0 _ 4 56 Try.underlying22 hi0 hz0 hz1 hby rfl (by decide) _ _ _ rfl hown8 ⟨g, q * 4, none⟩ (i - q) (cap' - q) (xs.drop (q * 4)) rfl hlt2 (fun j u hu => by rw [WideShapes.add_plain]; rw [List.getElem?_drop] at hu; exact hrow.out _ hu8 _ u hu) (fun u hu => hone.out u (List.mem_of_mem_drop hu)) (by unfold maxLen; omega) (by omega) (by omega) ?_; intro v9 w9 hown9 hgrow9 _ hat9; have hu9 : Up wo w9 := hu8.out.grown hgrow9 (by omega) hown8g))
              go_roundw
              case rel =>
                have hown9' : w9.ownsRow w.heap.size 24 4 v9 (i + 1) (xs.take (q * 4) ++ [.int .i64 k1, .int .i64 n1, .string s1, .slice a1 m1.length cap1] ++ xs.drop (q * 4)) := by
                  have h := hown9
                  rw [List.nil_append, show 0 + q + 1 + (i - q) = i + 1 by omega] at h
                  exact h
                have hs9 := Side.insert hsd.out hsl.out hxl.out hqle hli.out
                rw [← hsq.out] at hs9
                exact ⟨i + 1, _, hlt, by go_num, hown9', Hid.mk (by rw [hst.out, insT, hsq.out]; rw [hsq.out] at hs9; exact hs9), Hid.mk (fun u hu => by
                  simp only [List.mem_append] at hu
                  rcases hu with (hu | hu) | hu
                  · exact hone.out u (List.mem_of_mem_take hu)
                  · (simp only [List.mem_cons, List.not_mem_nil, or_false] at hu; rcases hu with rfl | rfl | rfl | rfl <;> rfl)
                  · exact hone.out u (List.mem_of_mem_drop hu)), fun h => by omega, hb.trans (hu9.out.mono hzr)⟩
              case measure => simp [intOf]; omega
    · obtain rfl : i = l.length := by omega
      have hsd' := hsd.out
      rw [List.take_length] at hsd'
      obtain ⟨a2, cap2, rfl, hlr⟩ := owns_lst (l := sortT l) (w := w) (S := fun b => S b ∧ b < w.heap.size) (by rw [sortT_length]; exact hown) (fun q hq => hsd' q (by rw [sortT_length] at hq; exact hq) hq) (fun b o v hb' hc => cell_below hb _ _ _ hc)
      have hlr := Hid.mk hlr
      rw [sortT_length]
      clear hown hsd hsd'
      go_wp2
      go_ret
      exact ⟨⟨a2, cap2, rfl, hlr.out.wider (fun b hb => hb.imp (fun h => h.1) id)⟩, hb⟩

end Go.Proofs.Ytabcekeeekbdiaa
