/-
  What the program says that is needed.
-/
import Derived.Test.YtamafhcgjbkikaaDoorNeedPlain
import Derived.Test.YtamafhcgjbkikaaDoorTermAwake
import Derived.Test.YtamafhcgjbkikaaDoorArenaRound
import Derived.Test.YtamafhcgjbkikaaDoorRegionUp
import Derived.Deep.RegionHeld3
import Derived.Deep.DeepCutAuto
namespace Go.Proofs.YtamafhcgjbkikaaDoor
open Go.RowKit Go.Deep

/-- The table of kinds lies in the variable's block. -/
structure KindTab (w : World) : Prop where
  c0 : ∀ k : Nat, k < 5 → w.cell? ⟨0, k * 3, none⟩ = some (.int .i64 (tableN k))
  c1 : ∀ k : Nat, k < 5 → w.cell? ⟨0, k * 3 + 1, none⟩ = some (.int .i64 (nodeN k))
  c2 : ∀ k : Nat, k < 5 → w.cell? ⟨0, k * 3 + 2, none⟩ = some (.bool (hashB k))
  size : 0 < w.heap.size
theorem KindTab.below {w w' : World} (h : KindTab w) (hb : Below w.heap.size w w') : KindTab w' :=
  ⟨fun k hk => cell_below hb _ _ _ (h.c0 k hk), fun k hk => cell_below hb _ _ _ (h.c1 k hk), fun k hk => cell_below hb _ _ _ (h.c2 k hk), Nat.lt_of_lt_of_le h.size hb.size⟩
/-- Both tables. -/
structure Tabs (w : World) : Prop where
  shape : ShapeTab w
  kind : KindTab w
theorem Tabs.below {w w' : World} (h : Tabs w) (hb : Below w.heap.size w w') : Tabs w' := ⟨h.shape.below hb, h.kind.below hb⟩

theorem knownN_any (k : Int) (w : World) : Calls Tryd.prog 39 #[.int .i64 k] w fun e w' => e = .returned (.bool (kindB k)) ∧ w = w' := by
  go_enter Tryd.func39, Tryd.ntmps39
  go_wp2
  all_goals go_ret
  all_goals exact ⟨ret_bool (by unfold kindB; first | exact decide_eq_decide.2 (by omega) | exact (decide_eq_true (by omega)).symm | exact (decide_eq_false (by omega)).symm), rfl⟩
theorem mayN_any (k b : Int) (w : World) : Calls Tryd.prog 41 #[.int .i64 k, .int .i64 b] w fun e w' => e = .returned (.bool (decide ((1 ≤ k ∧ k ≤ 4) ∧ 0 ≤ b ∧ b ≤ 1048576))) ∧ w = w' := by
  cases hk : kindB k
  · have hk' := kindB_no.1 hk
    go_enter Tryd.func41, Tryd.ntmps41
    go_wp2_with (go_at_call 39; refine (knownN_any _ _).mono ?_; rintro e w' ⟨rfl, rfl⟩)
    all_goals go_ret
    all_goals exact ⟨ret_bool (decide_eq_false (by omega)).symm, rfl⟩
  · have hk' := kindB_yes.1 hk
    go_enter Tryd.func41, Tryd.ntmps41
    go_wp2_with (go_at_call 39; refine (knownN_any _ _).mono ?_; rintro e w' ⟨rfl, rfl⟩)
    all_goals go_ret
    all_goals refine ⟨ret_bool ?_, rfl⟩
    all_goals first | exact decide_eq_decide.2 (by omega) | (simp; omega)
theorem nodeI_any (k : Int) (w : World) (ht : KindTab w) : Calls Tryd.prog 12 #[.int .i64 k] w fun e w' => e = .returned (.int .i64 (nodeN k)) ∧ w = w' := by
  cases hk : kindB k
  · have hk' := kindB_no.1 hk
    go_enter Tryd.func12, Tryd.ntmps12
    go_wp2_with (go_at_call 39; refine (knownN_any _ _).mono ?_; rintro e w' ⟨rfl, rfl⟩)
    go_ret
    exact ⟨ret_int (by unfold nodeN; rw [if_neg (by omega), if_neg (by omega)]), rfl⟩
  · have hk' := kindB_yes.1 hk
    obtain ⟨j, rfl⟩ := Int.eq_ofNat_of_zero_le (by omega : 0 ≤ k)
    have hj : j < 5 := by omega
    have hc := ht.c1 j hj
    clear ht hk'
    go_enter Tryd.func12, Tryd.ntmps12
    go_wp2_with (go_at_call 39; refine (knownN_any _ _).mono ?_; rintro e w' ⟨rfl, rfl⟩)
    go_ret
    exact ⟨rfl, rfl⟩
theorem tableI_any (k : Int) (w : World) (ht : KindTab w) : Calls Tryd.prog 14 #[.int .i64 k] w fun e w' => e = .returned (.int .i64 (tableN k)) ∧ w = w' := by
  cases hk : kindB k
  · have hk' := kindB_no.1 hk
    go_enter Tryd.func14, Tryd.ntmps14
    go_wp2_with (go_at_call 39; refine (knownN_any _ _).mono ?_; rintro e w' ⟨rfl, rfl⟩)
    go_ret
    exact ⟨ret_int (by unfold tableN; rw [if_neg (by omega)]), rfl⟩
  · have hk' := kindB_yes.1 hk
    obtain ⟨j, rfl⟩ := Int.eq_ofNat_of_zero_le (by omega : 0 ≤ k)
    have hj : j < 5 := by omega
    have hc := ht.c0 j hj
    clear ht hk'
    go_enter Tryd.func14, Tryd.ntmps14
    go_wp2_with (go_at_call 39; refine (knownN_any _ _).mono ?_; rintro e w' ⟨rfl, rfl⟩)
    go_ret
    exact ⟨rfl, rfl⟩
theorem bucketsI_any (b : Int) (w : World) : Calls Tryd.prog 16 #[.int .i64 b] w fun e w' => e = .returned (.int .i64 (bktN b)) ∧ w = w' := by
  by_cases h1 : b < 1
  · have e : bktN b = 0 := by unfold bktN; rw [if_neg (by omega)]
    go_enter Tryd.func16, Tryd.ntmps16
    go_wp2
    go_ret
    exact ⟨ret_int (by first | exact e.symm | rfl), rfl⟩
  by_cases h2 : 1048576 < b
  · have e : bktN b = 0 := by unfold bktN; rw [if_neg (by omega)]
    go_enter Tryd.func16, Tryd.ntmps16
    go_wp2
    go_ret
    exact ⟨ret_int (by first | exact e.symm | rfl), rfl⟩
  have e : bktN b = (b + 15) / 16 * 16 := by unfold bktN; rw [if_pos (by omega)]
  have e1 : IntKind.i64.wrap (IntKind.i64.wrap (b + 16) - 1) = b + 15 := by rw [wrap_id (x := b + 16) (by omega) (by omega), wrap_id (by omega) (by omega)]; omega
  have e2 := mask16 (b + 15) (by omega) (by omega)
  rw [e]
  go_enter Tryd.func16, Tryd.ntmps16
  go_wp2
  go_ret
  refine ⟨ret_int ?_, rfl⟩
  rw [← e2]
  congr 1
  omega
theorem moreI_any (b c : Int) (hb : 0 ≤ b ∧ b ≤ 1048576) (hc : 0 ≤ c ∧ c ≤ 16777216) (w : World) : Calls Tryd.prog 42 #[.int .i64 b, .int .i64 c] w fun e w' => e = .returned (.int .i64 (moreN b c)) ∧ w = w' := by
  have w1 : IntKind.i64.wrap (c + 1) = c + 1 := wrap_id (by omega) (by omega)
  have w2 : IntKind.i64.wrap (2 * b) = 2 * b := wrap_id (by omega) (by omega)
  have w3 : IntKind.i64.wrap (b + 1) = b + 1 := wrap_id (by omega) (by omega)
  have r1 := bktN_range b
  have r2 := bktN_range (b + 1)
  have w4 : IntKind.i64.wrap (bktN (b + 1) - bktN b) = bktN (b + 1) - bktN b := wrap_id (by omega) (by omega)
  by_cases h1 : c + 1 ≤ 2 * b
  · have e : moreN b c = 0 := by unfold moreN; rw [if_neg (by omega)]
    go_enter Tryd.func42, Tryd.ntmps42
    go_wp2
    go_ret
    exact ⟨ret_int (by first | exact e.symm | rfl), rfl⟩
  by_cases h2 : b = 1048576
  · have e : moreN b c = 0 := by unfold moreN; rw [if_neg (by omega)]
    subst h2
    go_enter Tryd.func42, Tryd.ntmps42
    go_wp2
    go_ret
    exact ⟨ret_int (by first | exact e.symm | rfl), rfl⟩
  have e : moreN b c = bktN (b + 1) - bktN b := by unfold moreN; rw [if_pos (by omega)]
  have h3 : (b == 1048576) = false := by simpa using h2
  have B1 := Hid.mk (bucketsI_any (b + 1))
  have B2 := Hid.mk (bucketsI_any b)
  rw [e]
  generalize bktN (b + 1) = X at *
  generalize bktN b = Y at *
  clear e h2
  go_enter Tryd.func42, Tryd.ntmps42
  go_wp2_with (first
    | (go_at_call 16; have g := first1; refine (B2.out _).mono ?_; rintro e w2 ⟨rfl, rfl⟩)
    | (go_at_call 16; refine (B1.out _).mono ?_; rintro e w1 ⟨rfl, rfl⟩; have first1 := True.intro))
  go_ret
  exact ⟨rfl, rfl⟩
theorem objectI_any (T : Tm) (hsz : T.size ≤ 1000000) (S : Nat → Prop) (v : Value) (w : World) (hv : Lies w S T v) (ht : ShapeTab w) :
    Calls Tryd.prog 9 #[v] w fun e w' => e = .returned (.tuple #[.int .i64 (objV T), .int .i64 T.check]) ∧ Below w.heap.size w w' := by
  obtain ⟨k, n, s, a, m, cap, rfl⟩ := hv.agg
  obtain ⟨W0, hW0⟩ : ∃ W0, w.alloc (.cells #[.int .i64 k, .int .i64 n, .string s, .slice a m cap] 24) = W0 := ⟨_, rfl⟩
  have hu0 : Up w W0 := by rw [← hW0]; exact (Up.refl w).alloc
  have hbx : W0.heap[w.heap.size]? = some (.cells #[.int .i64 k, .int .i64 n, .string s, .slice a m cap] 24) := by rw [← hW0]; exact new_block _ _
  have hv0 := Hid.mk (hv.below hu0.out)
  have ht0 := Hid.mk (ht.below hu0.out)
  have hret : Hid (∀ W, Up W0 W → Below w.heap.size w W) := Hid.mk (fun W h => (hu0.call h.out).out)
  have hc := Hid.mk (fun (W : World) (h : Up W0 W) => checkI_any T hsz S _ W (hv0.out.below h.out) (ht0.out.below h.out))
  have hw := Hid.mk (fun (W : World) (h : Up W0 W) => wordsI_any T hsz S _ W (hv0.out.below h.out) (ht0.out.below h.out))
  have ho : Hid ((T.check = 0 → objV T = rnd T.words) ∧ (T.check ≠ 0 → objV T = 0)) := Hid.mk ⟨fun h => if_pos h, fun h => if_neg h⟩
  have hr := Hid.mk (round_any T.words)
  generalize objV T = O at *
  generalize T.check = C at *
  have hq : Up W0 W0 := Up.refl W0
  obtain ⟨g0, g1, g2, g3⟩ := hq.four hbx
  have hW0' := Hid.mk hW0
  clear hv ht hu0 hW0
  go_enter Tryd.func9, Tryd.ntmps9
  go_upto_region 1 with fail
  rw [hW0'.out]
  by_cases hz : C = 0
  · subst hz
    have hO := ho.out.1 rfl
    go_wp2_with (first
      | (go_at_call 33; refine (hc.out _ hq).mono ?_; rintro e w1 ⟨rfl, hb⟩; have hq := hq.call hb; obtain ⟨g0, g1, g2, g3⟩ := hq.four hbx; clear hb)
      | (go_at_call 34; refine (hw.out _ hq).mono ?_; rintro e w2 ⟨rfl, hb⟩; have hq := hq.call hb; clear hb)
      | (go_at_call 29; refine (hr.out _).mono ?_; rintro e w3 ⟨rfl, rfl⟩))
    go_ret2
    exact ⟨by rw [hO]; rfl, hret.out _ hq⟩
  · have hO := ho.out.2 hz
    have hz' : (C == 0) = false := by simpa using hz
    go_wp2_with (first
      | (go_at_call 33; refine (hc.out _ hq).mono ?_; rintro e w1 ⟨rfl, hb⟩; have hq := hq.call hb; clear hb))
    go_ret2
    exact ⟨by rw [hO]; rfl, hret.out _ hq⟩
theorem putI_any (k b c : Int) (T : Tm) (hsz : T.size ≤ 1000000) (S : Nat → Prop) (v : Value) (w : World) (hv : Lies w S T v) (ht : Tabs w) :
    Calls Tryd.prog 23 #[.int .i64 k, .int .i64 b, .int .i64 c, v] w fun e w' => e = .returned (.tuple #[.int .i64 (putV k b c T), .int .i64 (putE k b c T)]) ∧ Below w.heap.size w w' := by
  obtain ⟨kk, n, s, a, m, cap, rfl⟩ := hv.agg
  obtain ⟨W0, hW0⟩ : ∃ W0, w.alloc (.cells #[.int .i64 kk, .int .i64 n, .string s, .slice a m cap] 24) = W0 := ⟨_, rfl⟩
  have hu0 : Up w W0 := by rw [← hW0]; exact (Up.refl w).alloc
  have hbx : W0.heap[w.heap.size]? = some (.cells #[.int .i64 kk, .int .i64 n, .string s, .slice a m cap] 24) := by rw [← hW0]; exact new_block _ _
  have hv0 := Hid.mk (hv.below hu0.out)
  have ht0 := Hid.mk (ht.below hu0.out)
  have hret : Hid (∀ W, Up W0 W → Below w.heap.size w W) := Hid.mk (fun W h => (hu0.call h.out).out)
  have hob := Hid.mk (fun (W : World) (h : Up W0 W) => objectI_any T hsz S _ W (hv0.out.below h.out) (ht0.out.below h.out).shape)
  have hnd := Hid.mk (fun (W : World) (h : Up W0 W) => nodeI_any k W (ht0.out.below h.out).kind)
  have hmy := Hid.mk (mayN_any k b)
  have hq : Up W0 W0 := Up.refl W0
  obtain ⟨g0, g1, g2, g3⟩ := hq.four hbx
  have hW0' := Hid.mk hW0
  clear hv ht hu0 hW0
  by_cases hk : (1 ≤ k ∧ k ≤ 4) ∧ 0 ≤ b ∧ b ≤ 1048576
  · rw [decide_eq_true hk] at hmy
    by_cases hc : 0 ≤ c ∧ c ≤ 16777216
    · have hE : putE k b c T = T.check := putE_yes ⟨hk.1, hk.2, hc⟩
      have hV : Hid ((T.check ≠ 0 → putV k b c T = 0) ∧ (T.check = 0 → putV k b c T = rnd T.words + nodeN k + (if k = 2 then 0 else moreN b c))) :=
        Hid.mk ⟨fun h => by unfold putV; rw [hE, if_neg h], fun h => by unfold putV; rw [hE, if_pos h]⟩
      have hmo := Hid.mk (moreI_any b c hk.2 hc)
      have ho : Hid (T.check = 0 → objV T = rnd T.words) := Hid.mk (fun h => if_pos h)
      have hor := objV_range T
      have hnr := nodeN_range k
      have hmr := moreN_range (b := b) (c := c) hk.2.1
      have hB : Hid (hashB k = true ∧ k ≠ 2 ∨ hashB k = false ∧ k = 2) := Hid.mk (by
        by_cases h2 : k = 2
        · exact Or.inr ⟨by subst h2; rfl, h2⟩
        · exact Or.inl ⟨decide_eq_true (by omega), h2⟩)
      rw [hE]
      obtain ⟨j, rfl⟩ := Int.eq_ofNat_of_zero_le (show 0 ≤ k by omega)
      have hj : j < 5 := by omega
      have hcell := Hid.mk (fun (W : World) (h : Up W0 W) => (ht0.out.below h.out).kind.c2 j hj)
      have hV3 : Hid (T.check = 0 → hashB j = true → putV j b c T = objV T + nodeN j + moreN b c) := Hid.mk (fun h h2 => by
        rw [hV.out.2 h, ho.out h]
        rcases hB.out with h3 | h3
        · rw [if_neg h3.2]
        · rw [h3.1] at h2; cases h2)
      have hV4 : Hid (T.check = 0 → hashB j = false → putV j b c T = objV T + nodeN j) := Hid.mk (fun h h2 => by
        rw [hV.out.2 h, ho.out h]
        rcases hB.out with h3 | h3
        · rw [h3.1] at h2; cases h2
        · rw [if_pos h3.2]; omega)
      have hV1 : Hid (T.check ≠ 0 → putV j b c T = 0) := Hid.mk hV.out.1
      clear hV ho hB
      generalize putV j b c T = V at *
      generalize objV T = O at *
      generalize T.check = C at *
      generalize nodeN j = N at *
      generalize moreN b c = M at *
      have hc1 : ¬ c < 0 := by omega
      have hc2 : ¬ 16777216 < c := by omega
      have w1 : IntKind.i64.wrap (O + N) = O + N := wrap_id (by omega) (by omega)
      have w2 : IntKind.i64.wrap (O + N + M) = O + N + M := wrap_id (by omega) (by omega)
      by_cases hz : C = 0
      · subst hz
        have HR := Hid.mk (And.intro hor (And.intro hnr hmr))
        clear hor hnr hmr
        cases hh : hashB j
        · have hV := hV4.out rfl hh
          rw [hh] at hcell
          clear hh hV3 hV4
          subst hV
          go_enter Tryd.func23, Tryd.ntmps23
          go_upto_region 1 with fail
          rw [hW0'.out]
          go_wp2_with (first
            | (go_at_call 41; refine (hmy.out _).mono ?_; rintro e w1 ⟨rfl, rfl⟩)
            | (go_at_call 9; refine (hob.out _ hq).mono ?_; rintro e w1 ⟨rfl, hb⟩; have hq := hq.call hb; have hcl := hcell.out _ hq; clear hb)
            | (go_at_call 12; refine (hnd.out _ hq).mono ?_; rintro e w2 ⟨rfl, rfl⟩))
          go_ret2
          exact ⟨rfl, hret.out _ hq⟩
        · have hV := hV3.out rfl hh
          rw [hh] at hcell
          clear hh hV3 hV4
          subst hV
          go_enter Tryd.func23, Tryd.ntmps23
          go_upto_region 1 with fail
          rw [hW0'.out]
          go_wp2_with (first
            | (go_at_call 41; refine (hmy.out _).mono ?_; rintro e w1 ⟨rfl, rfl⟩)
            | (go_at_call 9; refine (hob.out _ hq).mono ?_; rintro e w1 ⟨rfl, hb⟩; have hq := hq.call hb; have hcl := hcell.out _ hq; clear hb)
            | (go_at_call 12; refine (hnd.out _ hq).mono ?_; rintro e w2 ⟨rfl, rfl⟩)
            | (go_at_call 42; refine (hmo.out _).mono ?_; rintro e w3 ⟨rfl, rfl⟩))
          go_ret2
          exact ⟨rfl, hret.out _ hq⟩
      · have hV := hV1.out hz
        have hz' : (C == 0) = false := by simpa using hz
        go_enter Tryd.func23, Tryd.ntmps23
        go_upto_region 1 with fail
        rw [hW0'.out]
        go_wp2_with (first
          | (go_at_call 41; refine (hmy.out _).mono ?_; rintro e w1 ⟨rfl, rfl⟩)
          | (go_at_call 9; refine (hob.out _ hq).mono ?_; rintro e w1 ⟨rfl, hb⟩; have hq := hq.call hb; clear hb))
        go_ret2
        exact ⟨by rw [hV]; rfl, hret.out _ hq⟩
    · have hE : putE k b c T = 2 := putE_no (fun h => hc h.2.2)
      have hV : putV k b c T = 0 := putV_no (fun h => hc h.2.2)
      rw [hE, hV]
      clear hE hV hk
      by_cases hc1 : c < 0
      · clear hc
        go_enter Tryd.func23, Tryd.ntmps23
        go_upto_region 1 with fail
        rw [hW0'.out]
        go_wp2_with (go_at_call 41; refine (hmy.out _).mono ?_; rintro e w1 ⟨rfl, rfl⟩)
        go_ret2
        exact ⟨rfl, hret.out _ hq⟩
      · have hc2 : 16777216 < c := by omega
        clear hc
        go_enter Tryd.func23, Tryd.ntmps23
        go_upto_region 1 with fail
        rw [hW0'.out]
        go_wp2_with (go_at_call 41; refine (hmy.out _).mono ?_; rintro e w1 ⟨rfl, rfl⟩)
        go_ret2
        exact ⟨rfl, hret.out _ hq⟩
  · have hE : putE k b c T = 2 := putE_no (fun h => hk ⟨h.1, h.2.1⟩)
    have hV : putV k b c T = 0 := putV_no (fun h => hk ⟨h.1, h.2.1⟩)
    rw [decide_eq_false hk] at hmy
    rw [hE, hV]
    clear hE hV hk
    go_enter Tryd.func23, Tryd.ntmps23
    go_upto_region 1 with fail
    rw [hW0'.out]
    go_wp2_with (go_at_call 41; refine (hmy.out _).mono ?_; rintro e w1 ⟨rfl, rfl⟩)
    go_ret2
    exact ⟨rfl, hret.out _ hq⟩
end Go.Proofs.YtamafhcgjbkikaaDoor
