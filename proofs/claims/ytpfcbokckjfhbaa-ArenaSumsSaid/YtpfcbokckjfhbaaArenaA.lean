/-
  The program's arenas: one is made; whether one was made; what is left, in use; words cloned.
-/
import Derived.Test.YtpfcbokckjfhbaaArenaBase
import Derived.Deep.Fields
import Derived.BigQuiet
namespace Go.Proofs.Ytpfcbokckjfhbaa
open Go.RowKit Go.Deep Go.Maps Go.WideShapes

set_option maxHeartbeats 1000000 in
theorem newA_any (W : Nat) (w : World) (h1 : 1 ≤ W) (h2 : W ≤ 16777216) : Calls Try.prog 9 #[.int .i64 W] w fun e w' =>
    e = .returned (.tuple #[.pointer (some ⟨w.heap.size + 1, 0, none⟩), .int .i64 0]) ∧ Ar w' (w.heap.size + 1) w.heap.size (fun k => w.heap.size ≤ k ∧ k < w.heap.size + 2) W [] ∧ Below w.heap.size w w' := by
  have hmm := @run_makeMap Try.prog
  have hn1 : ¬ (W : Int) < 1 := by omega
  have hn2 : ¬ (16777216 : Int) < W := by omega
  go_enter Try.func9, Try.ntmps9
  go_wp2
  go_ret2
  refine ⟨rfl, ?_, ?_⟩
  · refine ⟨new_block2 _ _ _, ⟨.map [], (World.ownsMap_made w _ _ _).alloc _, MapOk.nil _ _ _ _⟩, by omega, ⟨by omega, by omega⟩, ⟨by omega, by omega⟩, fun k hk => (by have : k < w.heap.size + 2 := hk.2; simp; omega), fun l hl => (by cases hl), (by simp [usedB]), h2⟩
  · exact ((Below.refl _ _).alloc (Nat.le_refl _) _).alloc (by simp) _
theorem newA_not (n : Int) (w : World) (h : n < 1 ∨ 16777216 < n) : Calls Try.prog 9 #[.int .i64 n] w fun e w' => e = .returned (.tuple #[.pointer none, .int .i64 2]) ∧ w = w' := by
  by_cases h1 : n < 1
  · clear h
    go_enter Try.func9, Try.ntmps9
    go_wp2
    go_ret2
    exact ⟨rfl, rfl⟩
  · have h2 : 16777216 < n := by omega
    clear h
    go_enter Try.func9, Try.ntmps9
    go_wp2
    go_ret2
    exact ⟨rfl, rfl⟩

theorem eql_selfA (p : Nat) (w : World) : (binOp .eql 23 (.pointer (some ⟨p, 0, none⟩)) (.pointer (some ⟨p, 0, none⟩))).run Try.prog w = .ok (.bool true) w := by
  obtain ⟨i0, hi⟩ : ∃ i0, Try.prog.info? 40 = some i0 := Option.isSome_iff_exists.1 (by kernel_rfl)
  exact run_eql_ptr_same w _ Try.underlying23 hi
theorem madeA_yes (p bm W : Nat) (S : Nat → Prop) (B : Blks) (w : World) (h : Ar w p bm S W B) : Calls Try.prog 36 #[.pointer (some ⟨p, 0, none⟩)] w fun e w' => e = .returned (.bool true) ∧ w = w' := by
  obtain ⟨⟨c0, _⟩, _⟩ := boxA_cells h.box
  have he := eql_selfA p
  go_enter Try.func36, Try.ntmps36
  go_wp2
  go_ret
  exact ⟨rfl, rfl⟩
theorem madeA_nil (w : World) : Calls Try.prog 36 #[.pointer none] w fun e w' => e = .returned (.bool false) ∧ w = w' := by
  go_enter Try.func36, Try.ntmps36
  go_wp2
  go_ret
  exact ⟨rfl, rfl⟩
theorem madeA_zero (p : Nat) (w : World) (c0 : w.cell? ⟨p, 0, none⟩ = some (.pointer none)) : Calls Try.prog 36 #[.pointer (some ⟨p, 0, none⟩)] w fun e w' => e = .returned (.bool false) ∧ w = w' := by
  have he : ∀ w : World, (binOp .eql 23 (.pointer none) (.pointer (some ⟨p, 0, none⟩))).run Try.prog w = .ok (.bool false) w := fun w => by
    obtain ⟨i0, hi⟩ : ∃ i0, Try.prog.info? 40 = some i0 := Option.isSome_iff_exists.1 (by kernel_rfl)
    have h : ∀ d : Nat, (Op.equalIn (d + 1) 23 (.pointer none) (.pointer (some ⟨p, 0, none⟩))).run Try.prog w = .ok false w := fun d => by
      simp [Op.equalIn, run_underlying Try.underlying23, sizeOf, typeInfo, hi]
    simp only [binOp]
    simp [Op.equal, Op.maxDepth, h 9999]
  go_enter Try.func36, Try.ntmps36
  go_wp2
  go_ret
  exact ⟨rfl, rfl⟩

theorem used_any (p bm W : Nat) (S : Nat → Prop) (B : Blks) (w : World) (h : Ar w p bm S W B) : Calls Try.prog 20 #[.pointer (some ⟨p, 0, none⟩)] w fun e w' => e = .returned (.int .i64 (usedB B)) ∧ Below w.heap.size w w' := by
  obtain ⟨⟨c0, c1, c2, c3, c4⟩, f3, f4⟩ := boxA_cells h.box
  have hA := Hid.mk h
  clear h
  go_enter Try.func20, Try.ntmps20
  go_wp2_with (first
    | (go_at_call 36; refine (madeA_yes _ _ _ _ _ _ hA.out).mono ?_; rintro e w1 ⟨rfl, rfl⟩))
  go_ret
  exact ⟨rfl, Below.refl _ _⟩
set_option maxHeartbeats 1000000 in
theorem left_any (p bm W : Nat) (S : Nat → Prop) (B : Blks) (w : World) (h : Ar w p bm S W B) : Calls Try.prog 19 #[.pointer (some ⟨p, 0, none⟩)] w fun e w' => e = .returned (.int .i64 ((W : Int) - usedB B)) ∧ Below w.heap.size w w' := by
  obtain ⟨⟨c0, c1, c2, c3, c4⟩, f3, f4⟩ := boxA_cells h.box
  have hr := h.room
  have hm := h.most
  have hA := Hid.mk h
  generalize usedB B = U at *
  have hw : IntKind.i64.wrap ((W : Int) - U) = (W : Int) - U := by rw [wrap_id (by omega) (by omega)]
  have HR := Hid.mk hr
  have HM := Hid.mk hm
  clear h hr hm
  go_enter Try.func19, Try.ntmps19
  go_wp2_with (first
    | (go_at_call 36; refine (madeA_yes _ _ _ _ _ _ hA.out).mono ?_; rintro e w1 ⟨rfl, rfl⟩)
    | (go_quiet (fail)))
  go_ret
  exact ⟨rfl, below_drewN (Below.refl _ _) _⟩

set_option maxHeartbeats 1000000 in
theorem cloneW_any (xs : List Int) (a : Option Addr) (cap : Nat) (w : World) (h : Cel w xs a) (h1 : 1 ≤ xs.length) (hl : xs.length ≤ 1000) :
    Calls Try.prog 37 #[.slice a xs.length cap] w fun e w' => ∃ v', e = .returned v' ∧ Wds w' v' xs ∧ (∀ g, v'.ownBlock = some g → w.heap.size ≤ g) ∧ Below w.heap.size w w' := by
  obtain ⟨W1, hW1⟩ : ∃ W1, w.alloc (.cells #[] 72) = W1 := ⟨_, rfl⟩
  have hb1 : Below w.heap.size w W1 := by rw [← hW1]; exact (Up.refl w).alloc.out
  have hz1 : W1.heap.size = w.heap.size + 1 := by rw [← hW1]; simp
  have hw1 : Wds W1 (.slice (some ⟨w.heap.size, 0, none⟩) 0 0) [] := by
    rw [← hW1]
    exact ⟨rfl, Or.inr ⟨w.heap.size, 0, #[], rfl, Nat.zero_le _, new_block _ _, Nat.le_refl _, by rw [maxLen]; omega, rfl, rfl⟩⟩
  obtain ⟨b, o, rfl, hc⟩ := h h1
  have hcel : Cel W1 xs (some ⟨b, o, none⟩) := fun h0 => ⟨b, o, rfl, fun j hj => cell_below hb1 _ _ _ (hc j hj)⟩
  obtain ⟨v2, w2, hr, h2, hg2, ha2⟩ := append_words W1 31 _ [] xs hw1 _ cap hcel (fun e => by cases e) (by simp; omega)
  rw [List.nil_append] at h2
  have hnew : Hid (∀ g, v2.ownBlock = some g → w.heap.size ≤ g) := Hid.mk fun g hg => by
    rcases ha2 with e | e
    · rw [e] at hg; cases hg; exact Nat.le_refl _
    · rw [e] at hg; cases hg; omega
  have hbel : Hid (Below w.heap.size w w2) := Hid.mk (hb1.grown hg2 hb1.size (fun k hk => by cases hk; exact Nat.le_refl _))
  have H2 := Hid.mk h2
  have hq : ∀ W : World, (binOp .eql 31 (.slice (some ⟨b, o, none⟩) xs.length cap) (.slice none 0 0)).run Try.prog W = .ok (.bool false) W := fun W => by kernel_rfl
  clear hb1 hz1 hw1 h hc hcel hg2 ha2 h2 h1 hl
  go_enter Try.func37, Try.ntmps37
  go_wp2_with (first
    | (at_builtin; refine Lib.wpList_append_run _ rfl _ _ _ _ rfl _ _ rfl rfl _ _ hr ?_))
  go_ret
  exact ⟨v2, rfl, H2.out, hnew.out, hbel.out⟩

end Go.Proofs.Ytpfcbokckjfhbaa
