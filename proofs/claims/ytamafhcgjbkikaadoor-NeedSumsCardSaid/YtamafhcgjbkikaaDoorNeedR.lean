/-
  What the document says that is needed.
-/
import Derived.Test.YtamafhcgjbkikaaDoorNeedA
import Derived.Test.YtamafhcgjbkikaaDoorTermPlain
namespace Go.Proofs.YtamafhcgjbkikaaDoor
open Go.RowKit Go.Deep

theorem kindR_any (k : Int) (w : World) : Calls Tryd.prog 40 #[.int .i64 k] w fun e w' => e = .returned (.bool (kindB k)) ∧ w = w' := by
  go_enter Tryd.func40, Tryd.ntmps40
  go_wp2
  all_goals go_ret
  all_goals exact ⟨ret_bool (by unfold kindB; first | exact decide_eq_decide.2 (by omega) | exact (decide_eq_true (by omega)).symm | exact (decide_eq_false (by omega)).symm), rfl⟩
theorem nodeR_any (k : Int) (w : World) : Calls Tryd.prog 13 #[.int .i64 k] w fun e w' => e = .returned (.int .i64 (nodeN k)) ∧ w = w' := by
  by_cases h2 : k = 2
  · subst h2
    go_enter Tryd.func13, Tryd.ntmps13
    go_wp2
    go_ret
    exact ⟨rfl, rfl⟩
  have h2' : (k == 2) = false := by simpa using h2
  have hk := Hid.mk (kindR_any k)
  have e : nodeN k = if kindB k = true then 4 else 0 := by
    unfold nodeN kindB
    rw [if_neg h2]
    by_cases h : 1 ≤ k ∧ k ≤ 4
    · rw [if_pos h, decide_eq_true h]; rfl
    · rw [if_neg h, decide_eq_false h]; rfl
  rw [e]
  generalize kindB k = B at *
  clear e h2
  cases B
  · go_enter Tryd.func13, Tryd.ntmps13
    go_wp2_with (go_at_call 40; refine (hk.out _).mono ?_; rintro e w' ⟨rfl, rfl⟩)
    go_ret
    exact ⟨rfl, rfl⟩
  · go_enter Tryd.func13, Tryd.ntmps13
    go_wp2_with (go_at_call 40; refine (hk.out _).mono ?_; rintro e w' ⟨rfl, rfl⟩)
    go_ret
    exact ⟨rfl, rfl⟩
theorem tableR_any (k : Int) (w : World) : Calls Tryd.prog 15 #[.int .i64 k] w fun e w' => e = .returned (.int .i64 (tableN k)) ∧ w = w' := by
  have hk := Hid.mk (kindR_any k)
  have e : tableN k = if kindB k = true then 16 else 0 := by
    unfold tableN kindB
    by_cases h : 1 ≤ k ∧ k ≤ 4
    · rw [if_pos h, decide_eq_true h]; rfl
    · rw [if_neg h, decide_eq_false h]; rfl
  rw [e]
  generalize kindB k = B at *
  clear e
  cases B
  · go_enter Tryd.func15, Tryd.ntmps15
    go_wp2_with (go_at_call 40; refine (hk.out _).mono ?_; rintro e w' ⟨rfl, rfl⟩)
    go_ret
    exact ⟨rfl, rfl⟩
  · go_enter Tryd.func15, Tryd.ntmps15
    go_wp2_with (go_at_call 40; refine (hk.out _).mono ?_; rintro e w' ⟨rfl, rfl⟩)
    go_ret
    exact ⟨rfl, rfl⟩
theorem bucketsR_any (b : Int) (w : World) : Calls Tryd.prog 17 #[.int .i64 b] w fun e w' => e = .returned (.int .i64 (bktN b)) ∧ w = w' := by
  by_cases h1 : b < 1
  · have e : bktN b = 0 := by unfold bktN; rw [if_neg (by omega)]
    rw [e]
    go_enter Tryd.func17, Tryd.ntmps17
    go_wp2
    go_ret
    exact ⟨rfl, rfl⟩
  by_cases h2 : 1048576 < b
  · have e : bktN b = 0 := by unfold bktN; rw [if_neg (by omega)]
    rw [e]
    go_enter Tryd.func17, Tryd.ntmps17
    go_wp2
    go_ret
    exact ⟨rfl, rfl⟩
  obtain ⟨B, rfl⟩ := Int.eq_ofNat_of_zero_le (show 0 ≤ b by omega)
  have e := Hid.mk (show bktN B = ((B : Int) + 15) / 16 * 16 by unfold bktN; rw [if_pos (by omega)])
  have hB : 1 ≤ B ∧ B ≤ 1048576 := by omega
  go_enter Tryd.func17, Tryd.ntmps17
  go_wp2
  go_loop [3, 4] (fun nn ii => ∃ i : Nat, i * 16 ≤ B + 15 ∧ nn = .int .i64 ((i * 16 : Nat) : Int) ∧ ii = .int .i64 ((i * 16 : Nat) : Int)) (fun _ ii => B + 16 - (intOf ii).toNat)
  case atStart => exact ⟨0, by omega, rfl, rfl⟩
  case round =>
    obtain ⟨i, hi, rfl, rfl⟩ := hrel
    obtain ⟨m, hm⟩ : ∃ m, m = i * 16 := ⟨_, rfl⟩
    rw [← hm]
    have hmm := Hid.mk hm
    by_cases hlt : m < B
    · have hm1 : m ≤ 1048576 := by omega
      have h3 : ((i + 1) * 16 : Nat) = m + 16 := by omega
      have h4 := Hid.mk h3
      clear hm h3
      go_wp2
      go_round
      case rel => exact ⟨i + 1, by have := hmm.out; omega, by rw [h4.out]; go_num, by rw [h4.out]; go_num⟩
      case measure => simp [intOf]; omega
    · have h5 := Hid.mk (show bktN B = (m : Int) by rw [e.out]; omega)
      clear hm hi
      go_wp2
      go_ret
      exact ⟨ret_int h5.out.symm, rfl⟩
theorem objectR_any (T : Tm) (hsz : T.size ≤ 1000000) (S : Nat → Prop) (v : Value) (w : World) (hv : Lies w S T v) :
    Calls Tryd.prog 10 #[v] w fun e w' => e = .returned (.tuple #[.int .i64 (objV T), .int .i64 T.check]) ∧ Below w.heap.size w w' := by
  obtain ⟨k, n, s, a, m, cap, rfl⟩ := hv.agg
  obtain ⟨W0, hW0⟩ : ∃ W0, w.alloc (.cells #[.int .i64 k, .int .i64 n, .string s, .slice a m cap] 24) = W0 := ⟨_, rfl⟩
  have hu0 : Up w W0 := by rw [← hW0]; exact (Up.refl w).alloc
  have hbx : W0.heap[w.heap.size]? = some (.cells #[.int .i64 k, .int .i64 n, .string s, .slice a m cap] 24) := by rw [← hW0]; exact new_block _ _
  have hv0 := Hid.mk (hv.below hu0.out)
  have hret : Hid (∀ W, Up W0 W → Below w.heap.size w W) := Hid.mk (fun W h => (hu0.call h.out).out)
  have hc := Hid.mk (fun (W : World) (h : Up W0 W) => refcheck_any T hsz S _ W (hv0.out.below h.out))
  have hw := Hid.mk (fun (W : World) (h : Up W0 W) => words_pre T ▸ refwords_any T hsz S _ W (hv0.out.below h.out))
  have ho : Hid ((T.check = 0 → objV T = rnd T.words) ∧ (T.check ≠ 0 → objV T = 0)) := Hid.mk ⟨fun h => if_pos h, fun h => if_neg h⟩
  have hr := Hid.mk (roundR_any T.words)
  generalize objV T = O at *
  generalize T.check = C at *
  have hq : Up W0 W0 := Up.refl W0
  obtain ⟨g0, g1, g2, g3⟩ := hq.four hbx
  have hW0' := Hid.mk hW0
  clear hv hu0 hW0
  go_enter Tryd.func10, Tryd.ntmps10
  go_upto_region 1 with fail
  rw [hW0'.out]
  by_cases hz : C = 0
  · subst hz
    have hO := ho.out.1 rfl
    go_wp2_with (first
      | (go_at_call 35; refine (hc.out _ hq).mono ?_; rintro e w1 ⟨rfl, hb⟩; have hq := hq.call hb; obtain ⟨g0, g1, g2, g3⟩ := hq.four hbx; clear hb)
      | (go_at_call 37; refine (hw.out _ hq).mono ?_; rintro e w2 ⟨rfl, hb⟩; have hq := hq.call hb; clear hb)
      | (go_at_call 36; refine (hr.out _).mono ?_; rintro e w3 ⟨rfl, rfl⟩))
    go_ret2
    exact ⟨by rw [hO]; rfl, hret.out _ hq⟩
  · have hO := ho.out.2 hz
    have hz' : (C == 0) = false := by simpa using hz
    go_wp2_with (first
      | (go_at_call 35; refine (hc.out _ hq).mono ?_; rintro e w1 ⟨rfl, hb⟩; have hq := hq.call hb; clear hb))
    go_ret2
    exact ⟨by rw [hO]; rfl, hret.out _ hq⟩
end Go.Proofs.YtamafhcgjbkikaaDoor
