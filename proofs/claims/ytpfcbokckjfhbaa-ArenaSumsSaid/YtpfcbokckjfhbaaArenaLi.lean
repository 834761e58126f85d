/-
  ArenaRises returns true.
-/
import Derived.Test.YtpfcbokckjfhbaaArenaW
namespace Go.Proofs.Ytpfcbokckjfhbaa
open Go.RowKit Go.Deep Go.Maps Go.WideShapes

theorem round_at {N C : Nat} (h1 : 1 ≤ N) (h2 : N ≤ 16777216) (hC : cls N = C) (w : World) : Calls Try.prog 13 #[.int .i64 N] w fun e w' => e = .returned (.int .i64 C) ∧ w = w' := by
  have := round_any (N : Int) w
  rw [rnd_in h1 h2, hC] at this
  exact this
set_option maxRecDepth 100000 in
set_option maxHeartbeats 2000000 in
theorem lawRises8 (n m : Int) (w : World) : Calls Try.prog 7 #[.int .i64 n, .int .i64 m] w fun e w' => e = .returned (.bool true) ∧ Below w.heap.size w w' := by
  by_cases hr : (1 ≤ n ∧ n ≤ 16777216) ∧ (1 ≤ m ∧ m ≤ 16777216)
  · obtain ⟨N, rfl⟩ := Int.eq_ofNat_of_zero_le (show 0 ≤ n by omega)
    obtain ⟨M, rfl⟩ := Int.eq_ofNat_of_zero_le (show 0 ≤ m by omega)
    obtain ⟨C, hC⟩ : ∃ C, cls N = C := ⟨_, rfl⟩
    obtain ⟨E, hE⟩ : ∃ E, cls M = E := ⟨_, rfl⟩
    have hCC : cls C = C := by rw [← hC]; exact cls_cls N
    have hge := cls_ge N
    have hp := cls_pos N
    have hm := cls_most (n := N) (by omega)
    have hm2 := cls_most (n := M) (by omega)
    have hmono : N ≤ M → C ≤ E := fun h => by rw [← hC, ← hE]; exact cls_mono h
    have hwaste : 1 < N → 2 * C < 3 * N := fun h => by rw [← hC]; exact cls_waste h
    have hone : N = 1 → C = 2 := fun h => by subst h; exact hC.symm.trans cls_one
    rw [hC] at hge hp hm
    rw [hE] at hm2
    have r1 := Hid.mk (round_at (N := N) (C := C) (by omega) (by omega) hC)
    have r2 := Hid.mk (round_at (N := M) (C := E) (by omega) (by omega) hE)
    have r3 := Hid.mk (round_at (N := C) (C := C) (by omega) (by omega) hCC)
    have a1 : ¬ (N : Int) < 1 := by omega
    have a2 : ¬ (16777216 : Int) < N := by omega
    have a3 : ¬ (M : Int) < 1 := by omega
    have a4 : ¬ (16777216 : Int) < M := by omega
    have a5 : (N : Int) ≤ C := by omega
    have w1 : IntKind.i64.wrap (2 * (C : Int)) = 2 * (C : Int) := wrap_id (by omega) (by omega)
    have w2 : IntKind.i64.wrap (3 * (N : Int)) = 3 * (N : Int) := wrap_id (by omega) (by omega)
    have HL := Hid.mk (show (N = 1 → C = 2) ∧ (1 < N → 2 * C < 3 * N) ∧ (N ≤ M → C ≤ E) ∧ 1 ≤ N from ⟨hone, hwaste, hmono, by omega⟩)
    have b1 : N = 1 → ((C : Int) == 2) = true := fun h => by rw [hone h]; rfl
    have b2 : N ≠ 1 → ((N : Int) == 1) = false := fun h => by simp; omega
    have HB := Hid.mk (And.intro b1 b2)
    clear hr hC hE hCC hge hp hm hm2 hmono hwaste hone b1 b2
    by_cases h1 : N = 1
    · have hC2 := HL.out.1 h1
      have e4 : (2 : Int) ≤ E := by have := HL.out.2.2.1 (by omega); omega
      have e3 : ¬ (M : Int) < 1 := by omega
      subst h1 hC2
      have r1 : Hid (∀ w, Calls Try.prog 13 #[.int .i64 1] w fun e w' => e = .returned (.int .i64 2) ∧ w = w') := r1
      have r3 : Hid (∀ w, Calls Try.prog 13 #[.int .i64 2] w fun e w' => e = .returned (.int .i64 2) ∧ w = w') := r3
      clear HL HB a1 a2 a5 w1 w2
      show Calls Try.prog 7 #[.int .i64 1, .int .i64 M] w _
      go_enter Try.func7, Try.ntmps7
      go_wp2_with (first
          | (go_at_call 6; refine (known8_any _).mono ?_; rintro e x1 ⟨rfl, hb⟩; have hb1 := Hid.mk hb; clear hb)
          | (go_at_call 13; have g := m2; refine (r3.out _).mono ?_; rintro e x2 ⟨rfl, rfl⟩)
          | (go_at_call 13; have g := m1; refine (r2.out _).mono ?_; rintro e x2 ⟨rfl, rfl⟩; have m2 := True.intro)
          | (go_at_call 13; refine (r1.out _).mono ?_; rintro e x2 ⟨rfl, rfl⟩; have m1 := True.intro))
      go_ret
      exact ⟨ret_bool (by simp; try omega), hb1.out⟩
    · have e1 := HB.out.2 h1
      have e0 : (1 : Int) < N := by have := HL.out.2.2.2; omega
      have e4' : N ≤ M → (C : Int) ≤ E := fun h => by have := HL.out.2.2.1 h; omega
      have e2 : 2 * (C : Int) < 3 * N := by have := HL.out.2.2.2; have := HL.out.2.1 (by omega); omega
      clear h1 HB HL
      by_cases hnm : M < N
      · have e3 : (M : Int) < N := by omega
        clear hnm e4'
        go_enter Try.func7, Try.ntmps7
        go_wp2_with (first
          | (go_at_call 6; refine (known8_any _).mono ?_; rintro e x1 ⟨rfl, hb⟩; have hb1 := Hid.mk hb; clear hb)
          | (go_at_call 13; have g := m2; refine (r3.out _).mono ?_; rintro e x2 ⟨rfl, rfl⟩)
          | (go_at_call 13; have g := m1; refine (r2.out _).mono ?_; rintro e x2 ⟨rfl, rfl⟩; have m2 := True.intro)
          | (go_at_call 13; refine (r1.out _).mono ?_; rintro e x2 ⟨rfl, rfl⟩; have m1 := True.intro))
        go_ret
        exact ⟨ret_bool (by simp; try omega), hb1.out⟩
      · have e3 : ¬ (M : Int) < N := by omega
        have e4 : (C : Int) ≤ E := e4' (by omega)
        clear hnm e4'
        go_enter Try.func7, Try.ntmps7
        go_wp2_with (first
          | (go_at_call 6; refine (known8_any _).mono ?_; rintro e x1 ⟨rfl, hb⟩; have hb1 := Hid.mk hb; clear hb)
          | (go_at_call 13; have g := m2; refine (r3.out _).mono ?_; rintro e x2 ⟨rfl, rfl⟩)
          | (go_at_call 13; have g := m1; refine (r2.out _).mono ?_; rintro e x2 ⟨rfl, rfl⟩; have m2 := True.intro)
          | (go_at_call 13; refine (r1.out _).mono ?_; rintro e x2 ⟨rfl, rfl⟩; have m1 := True.intro))
        go_ret
        exact ⟨ret_bool (by simp; try omega), hb1.out⟩
  · by_cases h1 : n < 1
    · clear hr
      go_enter Try.func7, Try.ntmps7
      go_wp2_with (go_at_call 6; refine (known8_any _).mono ?_; rintro e x1 ⟨rfl, hb⟩)
      go_ret
      exact ⟨rfl, hb⟩
    · by_cases h2 : 16777216 < n
      · clear hr
        go_enter Try.func7, Try.ntmps7
        go_wp2_with (go_at_call 6; refine (known8_any _).mono ?_; rintro e x1 ⟨rfl, hb⟩)
        go_ret
        exact ⟨rfl, hb⟩
      · by_cases h3 : m < 1
        · clear hr
          go_enter Try.func7, Try.ntmps7
          go_wp2_with (go_at_call 6; refine (known8_any _).mono ?_; rintro e x1 ⟨rfl, hb⟩)
          go_ret
          exact ⟨rfl, hb⟩
        · have h4 : 16777216 < m := by omega
          clear hr
          go_enter Try.func7, Try.ntmps7
          go_wp2_with (go_at_call 6; refine (known8_any _).mono ?_; rintro e x1 ⟨rfl, hb⟩)
          go_ret
          exact ⟨rfl, hb⟩

end Go.Proofs.Ytpfcbokckjfhbaa
