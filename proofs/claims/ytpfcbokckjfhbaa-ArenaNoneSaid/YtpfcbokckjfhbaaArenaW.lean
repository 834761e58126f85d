/-
  ArenaKnown returns true: the chapter's examples are answered as it says.
-/
import Derived.Test.YtpfcbokckjfhbaaArenaK
namespace Go.Proofs.Ytpfcbokckjfhbaa
open Go.RowKit Go.Deep Go.Maps Go.WideShapes

theorem below_grown {w w' : World} (h : w.grownBy w' none) : Below w.heap.size w w' := ⟨h.os, h.tape, h.output, h.size, fun k hk => h.block k hk (by simp)⟩
theorem in64_small {n : Int} (h : 0 ≤ n) (h1 : n ≤ 1000) : In64 n := ⟨by omega, by omega⟩
abbrev K2 : Blks := [some (zers 5), some (zers 3)]
abbrev K3 : Blks := [none, some (zers 3)]
abbrev K4 : Blks := [none, some (zers 3), some (zers 6)]
section
variable {B0 p bm : Nat} {w0 w : World} {a : Option Addr} {cap : Nat}
theorem k_take (h : Now B0 w0 w p bm 10 K2) (hc : Cel w (zers 1) a) : Calls Try.prog 15 #[.pointer (some ⟨p, 0, none⟩), .slice a 1 cap] w fun e w' => e = .returned (.tuple #[.int .i64 0, .int .i64 11]) ∧ Now B0 w0 w' p bm 10 K2 := by
  have := h.take (zers 1) a cap hc (by decide) (by decide)
  rw [t3] at this
  exact this
theorem k_drop (h : Now B0 w0 w p bm 10 K2) : Calls Try.prog 18 #[.pointer (some ⟨p, 0, none⟩), .int .i64 1] w fun e w' => e = .returned (.int .i64 0) ∧ Now B0 w0 w' p bm 10 K3 := by
  have := h.drop 1 (in64_small (by decide) (by decide))
  rw [t4] at this
  exact this
theorem k_blocks (h : Now B0 w0 w p bm 10 K4) : Calls Try.prog 21 #[.pointer (some ⟨p, 0, none⟩)] w fun e w' => ∃ a cap, e = .returned (.slice a 2 cap) ∧ CelI w' [2, 3] a ∧ Now B0 w0 w' p bm 10 K4 := by
  refine (h.blocks (by decide)).mono fun e w' hh => ?_
  obtain ⟨v, rfl, h1, _, h3⟩ := hh
  obtain ⟨a, cap, rfl, hc⟩ := h1.cel
  exact ⟨a, cap, rfl, hc, h.up h3⟩
theorem k_get (h : Now B0 w0 w p bm 10 K4) : Calls Try.prog 16 #[.pointer (some ⟨p, 0, none⟩), .int .i64 1] w fun e w' => ∃ v, e = .returned (.tuple #[v, .int .i64 6]) ∧ Now B0 w0 w' p bm 10 K4 := by
  refine (h.get 1 (in64_small (by decide) (by decide))).mono fun e w' hh => ?_
  obtain ⟨v, h1, _, _, h4⟩ := hh
  exact ⟨v, h1, h4⟩
theorem k_set2 (h : Now B0 w0 w p bm 10 K4) (hc : Cel w (zers 2) a) : Calls Try.prog 17 #[.pointer (some ⟨p, 0, none⟩), .int .i64 2, .slice a 2 cap] w fun e w' => e = .returned (.int .i64 2) ∧ Now B0 w0 w' p bm 10 K4 := by
  have := h.set 2 (zers 2) a cap (in64_small (by decide) (by decide)) hc (by decide) (by decide)
  rw [t6] at this
  exact this
theorem k_set3 (h : Now B0 w0 w p bm 10 K4) (hc : Cel w (zers 3) a) : Calls Try.prog 17 #[.pointer (some ⟨p, 0, none⟩), .int .i64 2, .slice a 3 cap] w fun e w' => e = .returned (.int .i64 0) ∧ Now B0 w0 w' p bm 10 K4 := by
  have := h.set 2 (zers 3) a cap (in64_small (by decide) (by decide)) hc (by decide) (by decide)
  rw [t7] at this
  exact this
end

theorem made_three (w : World) : ∃ w', (Instr.makeSlice 31 (.int .i64 3) (.int .i64 3)).run Try.prog w = .ok (.slice (some ⟨w.heap.size, 0, none⟩) 3 3) w' ∧ Wds w' (.slice (some ⟨w.heap.size, 0, none⟩) 3 3) (zers 3) ∧ Below w.heap.size w w' := by
  obtain ⟨i0, hi0, hz0, hz1, hby⟩ := info_parts wordInfo
  obtain ⟨w', h1, h2, h3⟩ := run_make_full (P := Try.prog) w 0 31 72 i0 _ 1 Try.underlying31 hi0 hz0 hz1 .i64 .i64 3 (by rw [hby]; decide) (by decide) (Nat.zero_le _)
  exact ⟨w', h1, made_words h2, below_grown h3⟩
set_option maxRecDepth 100000 in
set_option maxHeartbeats 4000000 in
theorem known8_any (w : World) : Calls Try.prog 6 #[] w fun e w' => e = .returned (.bool true) ∧ Below w.heap.size w w' := by
  obtain ⟨i0, hi0, hz0, hz1, hby⟩ := info_parts wordInfo
  have r6 : ∀ w, Calls Try.prog 13 #[.int .i64 6] w fun e w' => e = .returned (.int .i64 6) ∧ w = w' := fun w => round_any 6 w
  have r7 : ∀ w, Calls Try.prog 13 #[.int .i64 7] w fun e w' => e = .returned (.int .i64 8) ∧ w = w' := fun w => round_any 7 w
  have r13 : ∀ w, Calls Try.prog 13 #[.int .i64 13] w fun e w' => e = .returned (.int .i64 16) ∧ w = w' := fun w => round_any 13 w
  have r0 : ∀ w, Calls Try.prog 13 #[.int .i64 0] w fun e w' => e = .returned (.int .i64 0) ∧ w = w' := fun w => round_any 0 w
  go_enter Try.func6, Try.ntmps6
  go_wp2_with (first
    | (go_at_call 9; refine (now_new (W := 10) _ (by decide) (by decide)).mono ?_; rintro e w1 ⟨rfl, h⟩; have n0 := Hid.mk h; clear h)
    | (go_at_call 22; have g := n5; refine (takes_yes n5.out 6 3 (by decide) (by decide) t5).mono ?_; rintro e x6 ⟨rfl, h⟩; have n6 := Hid.mk h; clear h)
    | (go_at_call 22; have g := n1; refine (takes_yes n1.out 3 2 (by decide) (by decide) t2).mono ?_; rintro e x2 ⟨rfl, h⟩; have n2 := Hid.mk h; clear h)
    | (go_at_call 22; refine (takes_yes n0.out 5 1 (by decide) (by decide) t1).mono ?_; rintro e x1 ⟨rfl, h⟩; have n1 := Hid.mk h; clear h)
    | (at_make; have g := n9; refine wpList_make_full _ rfl _ _ 31 rfl 0 72 i0 _ 1 Try.underlying31 hi0 hz0 hz1 .i64 .i64 2 2 2 rfl rfl rfl rfl (by rw [hby]; decide) (by decide) (by omega) ?_; intro x10 hown hgrow; have HW := Hid.mk (made_words hown); have n10 := Hid.mk (n9.out.up (below_grown hgrow)); clear hown hgrow)
    | (at_make; refine wpList_make_full _ rfl _ _ 31 rfl 0 72 i0 _ 1 Try.underlying31 hi0 hz0 hz1 .i64 .i64 1 1 1 rfl rfl rfl rfl (by rw [hby]; decide) (by decide) (by omega) ?_; intro x3 hown hgrow; have HW := Hid.mk (made_words hown); have n3 := Hid.mk (n2.out.up (below_grown hgrow)); clear hown hgrow)
    | (go_at_call 15; refine (k_take n3.out HW.out.celA).mono ?_; rintro e x4 ⟨rfl, h⟩; have n4 := Hid.mk h; clear h)
    | (go_at_call 18; refine (k_drop n4.out).mono ?_; rintro e x5 ⟨rfl, h⟩; have n5 := Hid.mk h; clear h)
    | (go_at_call 21; refine (k_blocks n6.out).mono ?_; rintro e x7 ⟨ba, bcap, rfl, hb, h⟩; have n7 := Hid.mk h; have HB := Hid.mk hb; clear h hb)
    | (go_at_call 23; refine (sameInts_any [2, 3] [2, 3] ba (some ⟨x7.heap.size, 0, none⟩) bcap 2 _ (HB.out.up (Up.refl _).alloc.out) (celI_at (new_block x7 _)) (by decide)).mono ?_; rintro e x8 ⟨rfl, h⟩; have n8 := Hid.mk ((n7.out.up (Up.refl x7).alloc.out).up h); clear h)
    | (go_at_call 16; refine (k_get n8.out).mono ?_; rintro e x9 ⟨gv, rfl, h⟩; have n9 := Hid.mk h; clear h)
    | (go_at_call 17; have g := n12; refine (k_set3 n12.out HW.out.celA).mono ?_; rintro e x13 ⟨rfl, h⟩; have n13 := Hid.mk h; clear h)
    | (go_at_call 17; refine (k_set2 n10.out HW.out.celA).mono ?_; rintro e x11 ⟨rfl, h⟩; have n11 := Hid.mk h; clear h; obtain ⟨x12, hmk, hw, hb⟩ := made_three x11; have HW := Hid.mk hw; have n12 := Hid.mk (n11.out.up hb); clear hw hb)
    | (go_at_call 11; refine (awake8_any _).mono ?_; rintro e x14 ⟨rfl, h⟩; have n14 := Hid.mk (n13.out.up h); clear h)
    | (go_at_call 13; have g := m3; refine (r0 _).mono ?_; rintro e y ⟨rfl, rfl⟩)
    | (go_at_call 13; have g := m2; refine (r13 _).mono ?_; rintro e y ⟨rfl, rfl⟩; have m3 := True.intro)
    | (go_at_call 13; have g := m1; refine (r7 _).mono ?_; rintro e y ⟨rfl, rfl⟩; have m2 := True.intro)
    | (go_at_call 13; refine (r6 _).mono ?_; rintro e y ⟨rfl, rfl⟩; have m1 := True.intro))
  go_ret
  exact ⟨rfl, n14.out.below⟩

end Go.Proofs.Ytpfcbokckjfhbaa
