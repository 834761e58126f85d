/-
  Write: the text of a term that may be, or the error.
-/
import Derived.Test.YtnbekfpkmebmbaaGreatDoorZTextW1
import Derived.Test.YtnbekfpkmebmbaaGreatDoorZTermChecks2
namespace Go.Proofs.YtnbekfpkmebmbaaGreatDoor
open Go.RowKit Go.Deep

theorem bld_new (w : World) : Bld 71 w.heap.size [] (w.alloc (.cells #[.pointer none, .slice none 0 0] 71)) := by
  refine ⟨Or.inl rfl, Or.inl ⟨Nat.le_refl _, .slice none 0 0, new_block w _, ⟨rfl, Or.inl ⟨rfl, rfl⟩⟩, by simp [Value.ownBlock]⟩, fun _ => ?_⟩
  simp

set_option maxHeartbeats 2000000 in
theorem write_any (T : Tm) (hsz : T.size ≤ 1000000) (S : Nat → Prop) (v : Value) (w : World) (hv : Lies w S T v) (hw : Wld w) :
    Calls Tryz.prog 36 #[v] w fun e w' => e = .returned (.tuple #[.string (tx (if T.check = 0 then T.text else [])), .int .i64 T.check]) ∧ Below w.heap.size w w' := by
  have hc := Hid.mk (fun w1 (h : Below w.heap.size w w1) => checkI_any T hsz S v w1 (hv.below h) (hw.next h).shapes)
  have hcf := Hid.mk (@fits_of_check T)
  have hlen : Hid (T.fits = true → T.text.length ≤ 300000000) := Hid.mk (fun hf => by have := (text_len T hf).1; omega)
  have hin := Hid.mk (fun w1 (h : Below w.heap.size w w1) => hv.inside.below h)
  have ht := Hid.mk (fun hf => wt_all T.size T (Nat.le_refl _) hf)
  unfold WT at ht
  have hcr : T.check = 0 ∨ T.check = 2 ∨ T.check = 3 := by
    rw [Tm.check, longE]
    split
    · split <;> simp
    · simp
  obtain ⟨X, hX⟩ : ∃ X, T.text = X := ⟨_, rfl⟩
  rw [hX] at ht hlen ⊢
  generalize T.check = c at hc hcf hcr ⊢
  obtain ⟨k, n, s, l⟩ := T
  obtain ⟨a, cap, rfl, hs, hl⟩ := hv.out
  clear hv hl hX
  have t1 := True.intro
  rcases hcr with rfl | rfl | rfl
  · have hf := hcf.out rfl
    have hl0 := Hid.mk (hlen.out hf)
    have ht := Hid.mk (ht.out hf)
    clear hlen hcf hf
    go_enter Tryz.func36, Tryz.ntmps36
    go_wp2_with (first
      | (go_at_call 22; have g := t1; clear t1; refine (hc.out _ ((Below.refl _ _).alloc (Nat.le_refl _) _)).mono ?_; rintro e w2 ⟨rfl, hb2⟩; have hb3 : Below w.heap.size w w2 := ((Below.refl w.heap.size w).alloc (Nat.le_refl _) _).trans (hb2.mono (by simp)); have hz := hb3.size; have hz2 := hb2.size; obtain ⟨W3, hW3⟩ : ∃ W3, w2.alloc (.cells #[.pointer none, .slice none 0 0] 71) = W3 := ⟨_, rfl⟩; have hB3 : Bld 71 w2.heap.size [] W3 := (by rw [← hW3]; exact bld_new w2); have u3 : Below w2.heap.size w2 W3 := (by rw [← hW3]; exact (Below.refl _ _).alloc (Nat.le_refl _) _); obtain ⟨⟨g0, g1, g2, g3⟩, f0, f1, f2, f3⟩ := kept4 (new_block w _) (hb2.trans (u3.mono hz2)); have u4 : Below w.heap.size w W3 := hb3.trans (u3.mono hz); have hw3 := hw.next u4)
      | (go_at_call 58; refine (ht.out _ w2.heap.size [] _ _ W3 hB3 hw3 (Nat.le_trans hw.size hz) (by have := hl0.out; simp only [List.length_nil]; omega) (hin.out _ u4) (fun k h => Nat.lt_of_lt_of_le h.2 hz)).mono ?_; rintro e w4 ⟨⟨u, rfl⟩, h4, k4⟩)
      | (go_at_call 59; refine (bldOut_any _ _ _ _ h4).mono ?_; rintro e w5 ⟨rfl, h5, k5⟩))
    first | go_ret2 | go_ret
    exact ⟨rfl, u4.trans ((k4.below.trans k5.below).mono hz)⟩
  all_goals
    go_enter Tryz.func36, Tryz.ntmps36
    go_wp2_with (go_at_call 22; refine (hc.out _ ((Below.refl _ _).alloc (Nat.le_refl _) _)).mono ?_; rintro e w2 ⟨rfl, hb2⟩; obtain ⟨⟨g0, g1, g2, g3⟩, f0, f1, f2, f3⟩ := kept4 (new_block w _) hb2; have hb3 : Below w.heap.size w w2 := ((Below.refl w.heap.size w).alloc (Nat.le_refl _) _).trans (hb2.mono (by simp)); have hz := hb3.size)
    first | go_ret2 | go_ret
    exact ⟨rfl, hb3⟩

end Go.Proofs.YtnbekfpkmebmbaaGreatDoor
