/-
  A number rounded up: the program's way and the document's.
-/
import Derived.Test.YtamafhcgjbkikaaDoorArenaPlain
namespace Go.Proofs.YtamafhcgjbkikaaDoor
open Go.RowKit Go.Deep

set_option maxHeartbeats 2000000 in
theorem round_any (n : Int) (w : World) : Calls Tryd.prog 29 #[.int .i64 n] w fun e w' => e = .returned (.int .i64 (rnd n)) ∧ w = w' := by
  by_cases hr : 1 ≤ n ∧ n ≤ 16777216
  · obtain ⟨N, rfl⟩ := Int.eq_ofNat_of_zero_le (show 0 ≤ n by omega)
    rw [rnd_in (by omega) (by omega)]
    obtain ⟨M, hM⟩ : ∃ M, M = max N 2 := ⟨_, rfl⟩
    have hMi : max (N : Int) 2 = (M : Int) := by omega
    have hM2 : 2 ≤ M ∧ M ≤ 16777216 := by omega
    have hlen : lenN (M - 1) ≤ 24 := lenN_le (by omega)
    obtain ⟨m, hm⟩ : ∃ m, m = 2 ^ lenN (M - 1) := ⟨_, rfl⟩
    have hcl := Hid.mk (hM ▸ cls_prog (n := N) (m := m) (by omega) (by rw [hm, hM]))
    have hbl : Hid (∀ x : Int, x = (M : Int) - 1 → ∀ w1, Calls Tryd.prog 46 #[.int .u64 x] w1 fun e w' => e = .returned (.int .i64 (lenN (M - 1))) ∧ w' = w1) := Hid.mk (fun x hx w1 => by
      obtain rfl : x = ((M - 1 : Nat) : Int) := by omega
      exact bitsLen_any (M - 1) (by omega) w1)
    generalize lenN (M - 1) = L at hlen hm hbl
    have hm24 : m ≤ 16777216 := by rw [hm]; exact Nat.pow_le_pow_right (n := 2) (by omega) hlen
    have hpw : (2 : Int) ^ L = (m : Int) := by rw [hm]; simp
    have hn1 : ¬ (N : Int) < 1 := by omega
    have hn2 : ¬ (16777216 : Int) < N := by omega
    have HM := Hid.mk hM
    clear hr hM hm
    go_enter Tryd.func29, Tryd.ntmps29
    go_wp2_with (go_at_call 46; refine (hbl.out _ (by omega) _).mono ?_; rintro e w2 ⟨rfl, rfl⟩)
    · go_ret
      have := hcl.out
      exact ⟨ret_int (by rw [this.2.1 (by omega)]; omega), rfl⟩
    · go_ret
      have := hcl.out
      exact ⟨ret_int (by rw [this.2.2 (by omega)]), rfl⟩
  · rw [rnd_out (by omega)]
    by_cases h1 : n < 1
    · clear hr
      go_enter Tryd.func29, Tryd.ntmps29
      go_wp2
      go_ret
      exact ⟨rfl, rfl⟩
    · have h3 : 16777216 < n := by omega
      clear hr
      go_enter Tryd.func29, Tryd.ntmps29
      go_wp2
      go_ret
      exact ⟨rfl, rfl⟩

theorem three_mod (k : Nat) : 3 * 2 ^ k % 3 = 0 := by omega
theorem four_mod (k : Nat) : 4 * 2 ^ k % 3 ≠ 0 := by
  induction k with
  | zero => decide
  | succ k ih => rw [Nat.pow_succ]; omega
/-- The class behind a class that is too small, as the document makes it. -/
theorem Cl.next {c n : Nat} (h : Cl c) (hn : c < n) (hl : ∀ d, Cl d → n ≤ d → c ≤ d) :
    (c = 2 ∧ Cl 3 ∧ ∀ d, Cl d → n ≤ d → 3 ≤ d) ∨ (c ≠ 2 ∧ c % 3 = 0 ∧ Cl (c / 3 * 4) ∧ c < c / 3 * 4 ∧ ∀ d, Cl d → n ≤ d → c / 3 * 4 ≤ d) ∨ (c ≠ 2 ∧ c % 3 ≠ 0 ∧ Cl (c / 2 * 3) ∧ c < c / 2 * 3 ∧ ∀ d, Cl d → n ≤ d → c / 2 * 3 ≤ d) := by
  rcases h with rfl | ⟨k, rfl | rfl⟩
  · exact Or.inl ⟨rfl, Or.inr ⟨0, Or.inl rfl⟩, fun d hd hnd => by omega⟩
  · have hp := Nat.two_pow_pos k
    refine Or.inr (Or.inl ⟨by omega, three_mod k, ?_⟩)
    have e : 3 * 2 ^ k / 3 * 4 = 4 * 2 ^ k := by omega
    rw [e]
    exact ⟨Or.inr ⟨k, Or.inr rfl⟩, by omega, fun d hd hnd => hd.after3 (by omega)⟩
  · have hp := Nat.two_pow_pos k
    refine Or.inr (Or.inr ⟨by omega, four_mod k, ?_⟩)
    have e : 4 * 2 ^ k / 2 * 3 = 3 * 2 ^ (k + 1) := by rw [Nat.pow_succ]; omega
    rw [e]
    exact ⟨Or.inr ⟨k + 1, Or.inl rfl⟩, by rw [Nat.pow_succ]; omega, fun d hd hnd => hd.after4 (by omega)⟩

set_option maxHeartbeats 2000000 in
theorem roundR_any (n : Int) (w : World) : Calls Tryd.prog 36 #[.int .i64 n] w fun e w' => e = .returned (.int .i64 (rnd n)) ∧ w = w' := by
  by_cases hr : 1 ≤ n ∧ n ≤ 16777216
  · obtain ⟨N, rfl⟩ := Int.eq_ofNat_of_zero_le (show 0 ≤ n by omega)
    rw [rnd_in (by omega) (by omega)]
    have hN := Hid.mk (show 1 ≤ N ∧ N ≤ 16777216 by omega)
    have hn1 : ¬ (N : Int) < 1 := by omega
    have hn2 : ¬ (16777216 : Int) < N := by omega
    clear hr
    go_enter Tryd.func36, Tryd.ntmps36
    go_wp2
    go_loop [3] (fun cc => ∃ (c : Nat), cc = .int .i64 c ∧ Hid (Cl c ∧ (∀ d, Cl d → N ≤ d → c ≤ d)) ∧ c ≤ 16777216) (fun cc => 16777216 - (intOf cc).toNat)
    case atStart => exact ⟨2, rfl, Hid.mk ⟨Or.inl rfl, fun d hd _ => hd.least⟩, by omega⟩
    case round =>
      obtain ⟨c, rfl, hc, hcm⟩ := hrel
      by_cases hlt : c < N
      · rcases hc.out.1.next hlt hc.out.2 with ⟨rfl, h1, h2⟩ | ⟨h0, h3, h1, h4, h2⟩ | ⟨h0, h3, h1, h4, h2⟩
        · have HC := Hid.mk (show Cl 3 ∧ ∀ d, Cl d → N ≤ d → 3 ≤ d from ⟨h1, h2⟩)
          clear h1 h2 hc
          go_wp2
          go_round
          case rel => exact ⟨3, by go_num, HC, by omega⟩
          case measure => simp [intOf]
        · have h5 := h2 _ most_cl hN.out.2
          have HC := Hid.mk (show Cl (c / 3 * 4) ∧ ∀ d, Cl d → N ≤ d → c / 3 * 4 ≤ d from ⟨h1, h2⟩)
          have h3i : (c : Int) % 3 = 0 := by omega
          have e0 : ((c : Int) == 2) = false := by simp; omega
          have HQ := Hid.mk (And.intro h4 h5)
          clear h1 h2 hc h4 h5
          go_wp2
          go_round
          case rel => exact ⟨c / 3 * 4, by go_num, HC, HQ.out.2⟩
          case measure => have := HQ.out; simp [intOf]; omega
        · have h5 := h2 _ most_cl hN.out.2
          have HC := Hid.mk (show Cl (c / 2 * 3) ∧ ∀ d, Cl d → N ≤ d → c / 2 * 3 ≤ d from ⟨h1, h2⟩)
          have h3i : ¬ (c : Int) % 3 = 0 := by omega
          have e0 : ((c : Int) == 2) = false := by simp; omega
          have HQ := Hid.mk (And.intro h4 h5)
          clear h1 h2 hc h4 h5
          go_wp2
          go_round
          case rel => exact ⟨c / 2 * 3, by go_num, HC, HQ.out.2⟩
          case measure => have := HQ.out; simp [intOf]; omega
      · have hE := Hid.mk (cls_of (n := N) (c := c) ⟨hc.out.1, by omega, hc.out.2⟩)
        clear hc
        go_wp2
        go_ret
        exact ⟨ret_int (by rw [hE.out]), rfl⟩
  · rw [rnd_out (by omega)]
    by_cases h1 : n < 1
    · clear hr
      go_enter Tryd.func36, Tryd.ntmps36
      go_wp2
      go_ret
      exact ⟨rfl, rfl⟩
    · have h3 : 16777216 < n := by omega
      clear hr
      go_enter Tryd.func36, Tryd.ntmps36
      go_wp2
      go_ret
      exact ⟨rfl, rfl⟩

end Go.Proofs.YtamafhcgjbkikaaDoor
