/-
  Buckets split and joined as long as it is wanted; a law's row of items beside them.
-/
import Derived.Test.YtkijbphbibcnoaaLinBand
namespace Go.Proofs.Ytkijbphbibcnoaa
open Go.RowKit Go.Deep Go.Maps Go.WideShapes

section
variable {Lb : World → Nat → Nat → (Nat → Prop) → Bks → Prop} (K : LinOk Lb)
include K
theorem Lo.app {w0 w w' : World} {p least : Nat} {B : Bks} {F T G : Nat → Prop} (h : Lo Lb w0 w p least B F) (ho : Only T w w') (hT : ∀ k, T k → F k ∧ w0.heap.size ≤ k) (hG : ∀ k, G k → (F k ∨ w.heap.size ≤ k) ∧ k < w'.heap.size) : Lo Lb w0 w' p least B G := by
  obtain ⟨⟨S, h1, h2, h3⟩, h4⟩ := h
  refine ⟨⟨S, K.kept h1 ho (fun k hk ht => (h3 k (hT k ht).1).2 hk), h2, fun k hk => ⟨(hG k hk).2, fun hS => ?_⟩⟩, h4.trans (ho.below (fun k hk => (hT k hk).2) h4.size)⟩
  rcases (hG k hk).1 with e | e
  · exact (h3 k e).2 hS
  · have := K.lt h1 k hS; omega

set_option maxHeartbeats 4000000 in
theorem settled_any {w0 w : World} {p least : Nat} {B : Bks} {F : Nat → Prop} (h : Lo Lb w0 w p least B F) (hf : Fine B) (hl : 1 ≤ least) (hb : B.length < 90000) :
    Calls Try.prog 25 #[.pointer (some ⟨p, 0, none⟩)] w fun e w' => e = .returned (.bool true) ∧ Lo Lb w0 w' p least (stepB least (stepB least B)) F ∧ Only (fun k => ¬ F k) w w' := by
  have H0 := Hid.mk (And.intro h (And.intro hf (And.intro hl hb)))
  clear h hf hl hb
  go_enter Try.func25, Try.ntmps25
  go_wp2
  go_loopw [3] (fun ii wr => ∃ (i : Nat) (C : Bks), i ≤ 2 ∧ ii = .int .i64 i ∧ Hid (Lo Lb w0 wr p least C F ∧ Only (fun k => ¬ F k) w wr) ∧ Hid (Fine C ∧ C.length ≤ B.length + i ∧ (i = 0 ∧ C = B ∨ i = 1 ∧ C = stepB least B ∨ i = 2 ∧ C = stepB least (stepB least B)))) (fun ii _ => 2 - (intOf ii).toNat)
  case atStart => exact ⟨0, B, by omega, rfl, Hid.mk ⟨H0.out.1, Only.refl _ _⟩, Hid.mk ⟨H0.out.2.1, Nat.le_refl _, Or.inl ⟨rfl, rfl⟩⟩⟩
  case round =>
    obtain ⟨i, C, hi, rfl, hL, hC⟩ := hrel
    by_cases hlt : i < 2
    · have hil : (i : Int) < 2 := by omega
      have hwi : IntKind.i64.wrap ((i : Int) + 1) = ((i + 1 : Nat) : Int) := by rw [wrap_id (by omega) (by omega)]; omega
      have hnext : Hid (∀ D, D = stepB least C → Fine D ∧ D.length ≤ B.length + (i + 1) ∧ (i + 1 = 0 ∧ D = B ∨ i + 1 = 1 ∧ D = stepB least B ∨ i + 1 = 2 ∧ D = stepB least (stepB least B))) := Hid.mk fun D hD => by
        obtain ⟨c1, c2, c3⟩ := hC.out
        have := H0.out.2.2
        obtain ⟨g1, _, _, g4, _⟩ := stepB_fine (least := least) c1 (by omega) (by omega)
        subst hD
        refine ⟨g1, by omega, ?_⟩
        rcases c3 with ⟨rfl, rfl⟩ | ⟨rfl, rfl⟩ | ⟨rfl, rfl⟩
        · exact Or.inr (Or.inl ⟨rfl, rfl⟩)
        · exact Or.inr (Or.inr ⟨rfl, rfl⟩)
        · omega
      have hdone : Hid (wantsB least C = 0 → C = stepB least (stepB least B)) := Hid.mk fun e => by
        obtain ⟨_, _, c3⟩ := hC.out
        rcases c3 with ⟨_, rfl⟩ | ⟨_, rfl⟩ | ⟨_, rfl⟩
        · rw [stepB_zero e, stepB_zero e]
        · rw [stepB_zero e]
        · rfl
      have HI := Hid.mk hlt
      clear hlt
      rcases wants_cases least C with ⟨e, _⟩ | ⟨e, hj, _⟩ | ⟨e, _⟩
      · have hw := Hid.mk e
        have hs := Hid.mk (stepB_one e)
        clear e
        go_wp2_with (first
          | (go_at_call 19; refine (H3.out.split K hC.out.1).mono ?_; rintro e w4 ⟨rfl, h, ho⟩; rw [← hs.out] at h; have H4 := Hid.mk (And.intro h (O3.out.trans ho (fun _ k => Or.inl k))); clear h ho)
          | (have g := H2; go_at_call 18; refine (H2.out.wants K hC.out.1).mono ?_; rintro e w3 ⟨rfl, hb⟩; rw [hw.out]; have H3 := Hid.mk (H2.out.up K hb); have O3 := Hid.mk (O2.out.call hb); clear hb)
          | (go_at_call 18; refine (hL.out.1.wants K hC.out.1).mono ?_; rintro e w2 ⟨rfl, hb⟩; rw [hw.out]; have H2 := Hid.mk (hL.out.1.up K hb); have O2 := Hid.mk (hL.out.2.call hb); clear hb))
        go_roundw
        case rel => exact ⟨i + 1, _, HI.out, by first | rfl | go_num, H4, Hid.mk (hnext.out _ rfl)⟩
        case measure => have h1 : i < 2 := HI.out; simp [intOf]; omega
      · have hw := Hid.mk e
        have hs := Hid.mk (stepB_neg e)
        have hj' := Hid.mk hj
        clear e hj
        go_wp2_with (first
          | (go_at_call 20; refine (H3.out.join K hC.out.1 H0.out.2.2.1).mono ?_; rintro e w4 ⟨rfl, h, ho⟩; rw [if_pos hj'.out] at h; rw [if_pos hj'.out]; rw [← hs.out] at h; have H4 := Hid.mk (And.intro h (O3.out.trans ho (fun _ k => Or.inl k))); clear h ho)
          | (have g := H2; go_at_call 18; refine (H2.out.wants K hC.out.1).mono ?_; rintro e w3 ⟨rfl, hb⟩; rw [hw.out]; have H3 := Hid.mk (H2.out.up K hb); have O3 := Hid.mk (O2.out.call hb); clear hb)
          | (go_at_call 18; refine (hL.out.1.wants K hC.out.1).mono ?_; rintro e w2 ⟨rfl, hb⟩; rw [hw.out]; have H2 := Hid.mk (hL.out.1.up K hb); have O2 := Hid.mk (hL.out.2.call hb); clear hb))
        go_roundw
        case rel => exact ⟨i + 1, _, HI.out, by first | rfl | go_num, H4, Hid.mk (hnext.out _ rfl)⟩
        case measure => have h1 : i < 2 := HI.out; simp [intOf]; omega
      · have hw := Hid.mk e
        have hE := Hid.mk (hdone.out e)
        clear e
        go_wp2_with (go_at_call 18; refine (hL.out.1.wants K hC.out.1).mono ?_; rintro e w2 ⟨rfl, hb⟩; rw [hw.out]; have H2 := Hid.mk (hL.out.1.up K hb); have O2 := Hid.mk (hL.out.2.call hb); clear hb)
        go_ret
        exact ⟨rfl, by rw [← hE.out]; exact H2.out, O2.out⟩
    · obtain rfl : i = 2 := by omega
      clear hlt
      have hE : Hid (C = stepB least (stepB least B)) := Hid.mk (by
        obtain ⟨_, _, c3⟩ := hC.out
        rcases c3 with ⟨e, _⟩ | ⟨e, _⟩ | ⟨_, e⟩
        · omega
        · omega
        · exact e)
      go_wp2
      go_ret
      exact ⟨rfl, by rw [← hE.out]; exact hL.out.1, hL.out.2⟩
end
end Go.Proofs.Ytkijbphbibcnoaa
