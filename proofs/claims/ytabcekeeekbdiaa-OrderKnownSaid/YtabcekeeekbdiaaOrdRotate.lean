/-
  slices' rotateCmpFunc at terms.
-/
import Derived.Test.YtabcekeeekbdiaaOrdSwap
namespace Go.Proofs.Ytabcekeeekbdiaa
open Go.RowKit Go.Deep

theorem swapparts_any (w0 : World) (S : Nat → Prop) (g cap L : Nat) (A X B Y C : List Tm) (hXY : X.length = Y.length) (x y z : Int) (hx : x = A.length) (hy : y = A.length + X.length + B.length) (hz : z = X.length)
    (hL : (A ++ X ++ B ++ Y ++ C).length = L) (hcap : L ≤ cap) (hlen : L ≤ 1000000) (w : World) (h : Rw w0 S g (A ++ X ++ B ++ Y ++ C) w) :
    Calls Try.prog 60 #[.slice (some ⟨g, 0, none⟩) L cap, .int .i64 x, .int .i64 y, .int .i64 z, cmpV] w fun e w' => e = .returned (.tuple #[]) ∧ Rw w0 S g (A ++ Y ++ B ++ X ++ C) w' := by
  subst hL
  have := swaprange_any w0 S g cap (A ++ X ++ B ++ Y ++ C) A.length (A.length + X.length + B.length) X.length (by omega) (by simp only [List.length_append]; omega) hcap hlen w h
  rw [swapR_parts A X B Y C hXY] at this
  subst hx; subst hy; subst hz
  have e1 : ((A.length : Int) + X.length + B.length) = ((A.length + X.length + B.length : Nat) : Int) := by omega
  rw [e1]
  refine Calls.mono this ?_
  rintro e w' ⟨h1, h2, _⟩
  exact ⟨h1, h2⟩

set_option maxHeartbeats 2000000 in
theorem rotate_any (w0 : World) (S : Nat → Prop) (g cap L : Nat) (A U V C : List Tm) (hU : 0 < U.length) (hV : 0 < V.length) (x y z : Int) (hx : x = A.length) (hy : y = A.length + U.length) (hz : z = A.length + U.length + V.length)
    (hL : (A ++ U ++ V ++ C).length = L) (hcap : L ≤ cap) (hlen : L ≤ 1000000) (w : World) (h : Rw w0 S g (A ++ U ++ V ++ C) w) :
    Calls Try.prog 59 #[.slice (some ⟨g, 0, none⟩) L cap, .int .i64 x, .int .i64 y, .int .i64 z, cmpV] w fun e w' => e = .returned (.tuple #[]) ∧ Rw w0 S g (A ++ V ++ U ++ C) w' := by
  have h0 := Hid.mk h
  clear h
  obtain ⟨a, ha⟩ : ∃ a, A.length = a := ⟨_, rfl⟩
  obtain ⟨m, hm⟩ : ∃ m, A.length + U.length = m := ⟨_, rfl⟩
  obtain ⟨b, hb⟩ : ∃ b, A.length + U.length + V.length = b := ⟨_, rfl⟩
  have hbL : b ≤ L := by simp only [List.length_append] at hL; omega
  obtain rfl : x = a := by omega
  obtain rfl : y = m := by omega
  obtain rfl : z = b := by omega
  have ham : a < m := by omega
  have hmb : m < b := by omega
  have hAl := Hid.mk ha
  have hml := Hid.mk hm
  have hbl := Hid.mk hb
  have hLl := Hid.mk hL
  clear hx hy hz ha hm hb hL hU hV
  go_enter Try.func59, Try.ntmps59
  go_wp2
  go_loopw [10, 11] (fun s10 s11 wr => ∃ (i j : Nat) (L1 P Q R : List Tm), s10 = .int .i64 i ∧ s11 = .int .i64 j ∧ 0 < i ∧ 0 < j ∧ i ≤ m ∧ j ≤ L ∧ Hid (L1.length + i = m) ∧ Hid (P.length = i) ∧ Hid (Q.length = j) ∧ Hid (L1 ++ Q ++ P ++ R = A ++ V ++ U ++ C) ∧ Hid (Rw w0 S g (L1 ++ P ++ Q ++ R) wr)) (fun s10 s11 _ => (intOf s10).toNat + (intOf s11).toNat)
  case atStart => exact ⟨m - a, b - m, A, U, V, C, by congr 1; omega, by congr 1; omega, by omega, by omega, by omega, by omega, Hid.mk (by have := hAl.out; omega), Hid.mk (by have := hAl.out; have := hml.out; omega), Hid.mk (by have := hml.out; have := hbl.out; omega), Hid.mk rfl, h0⟩
  case round =>
    obtain ⟨i, j, L1, P, Q, R, rfl, rfl, hi0, hj0, him, hjL, hL1, hP, hQ, hR, hrw⟩ := hrel
    have hmj : m + j ≤ L := by
      have h1 := congrArg List.length hR.out
      simp only [List.length_append] at h1
      have h2 := hLl.out
      simp only [List.length_append] at h2
      have := hL1.out; have := hP.out; have := hQ.out; have := hml.out
      omega
    rcases Nat.lt_trichotomy i j with hij | hij | hij
    · have hne : ((i : Int) != (j : Int)) = true := by simp; omega
      have hgt : decide ((i : Int) > (j : Int)) = false := by simp; omega
      obtain ⟨Q1, Q2, hQe, hQ1, hQ2⟩ : ∃ Q1 Q2, Q = Q1 ++ Q2 ∧ Q1.length = j - i ∧ Q2.length = i := ⟨Q.take (j - i), Q.drop (j - i), (List.take_append_drop _ _).symm, by rw [List.length_take]; have := hQ.out; omega, by rw [List.length_drop]; have := hQ.out; omega⟩
      subst hQe
      have hcall := Hid.mk (swapparts_any w0 S g cap L L1 P Q1 Q2 R (by rw [hP.out, hQ2]) ((m : Int) - i) ((m : Int) + j - i) i (by have := hL1.out; omega) (by have := hL1.out; have := hP.out; omega) (by rw [hP.out])
        (by have h1 := congrArg List.length hR.out; have h2 := hLl.out; simp only [List.length_append] at h1 h2 ⊢; omega) hcap hlen wr (by have := hrw.out; simp only [List.append_assoc] at this ⊢; exact this))
      go_wp2_with (go_at_call 60; refine hcall.out.mono ?_; rintro e w2 ⟨rfl, h2⟩; have h2 := Hid.mk h2)
      go_roundw
      case rel => exact ⟨i, j - i, L1, Q2, Q1, P ++ R, rfl, by congr 1; omega, hi0, by omega, him, by omega, hL1, Hid.mk hQ2, Hid.mk hQ1, Hid.mk (by rw [← hR.out]; simp only [List.append_assoc]), Hid.mk (by have := h2.out; simp only [List.append_assoc] at this ⊢; exact this)⟩
      case measure => simp [intOf]; omega
    · subst hij
      have hne : ((i : Int) != (i : Int)) = false := by simp
      have hcall := Hid.mk (swapparts_any w0 S g cap L L1 P [] Q R (by rw [hP.out, hQ.out]) ((m : Int) - i) m i (by have := hL1.out; omega) (by have := hL1.out; have := hP.out; simp only [List.length_nil]; omega) (by rw [hP.out])
        (by have h1 := congrArg List.length hR.out; have h2 := hLl.out; simp only [List.length_append, List.length_nil] at h1 h2 ⊢; omega) hcap hlen wr (by have := hrw.out; simp only [List.append_nil, List.append_assoc] at this ⊢; exact this))
      go_wp2_with (go_at_call 60; refine hcall.out.mono ?_; rintro e w2 ⟨rfl, h2⟩; have h2 := Hid.mk h2)
      refine bodyPost_end (results_none rfl _ _ _) rfl ⟨rfl, ?_⟩
      rw [← hR.out]
      have := h2.out
      simp only [List.append_nil] at this
      exact this
    · have hne : ((i : Int) != (j : Int)) = true := by simp; omega
      have hgt : decide ((i : Int) > (j : Int)) = true := by simp; omega
      obtain ⟨P1, P2, hPe, hP1, hP2⟩ : ∃ P1 P2, P = P1 ++ P2 ∧ P1.length = j ∧ P2.length = i - j := ⟨P.take j, P.drop j, (List.take_append_drop _ _).symm, by rw [List.length_take]; have := hP.out; omega, by rw [List.length_drop]; have := hP.out; omega⟩
      subst hPe
      have hcall := Hid.mk (swapparts_any w0 S g cap L L1 P1 P2 Q R (by rw [hP1, hQ.out]) ((m : Int) - i) m j (by have := hL1.out; omega) (by have := hL1.out; omega) (by rw [hP1])
        (by have h1 := congrArg List.length hR.out; have h2 := hLl.out; simp only [List.length_append] at h1 h2 ⊢; omega) hcap hlen wr (by have := hrw.out; simp only [List.append_assoc] at this ⊢; exact this))
      go_wp2_with (go_at_call 60; refine hcall.out.mono ?_; rintro e w2 ⟨rfl, h2⟩; have h2 := Hid.mk h2)
      go_roundw
      case rel => exact ⟨i - j, j, L1 ++ Q, P2, P1, R, by congr 1; omega, rfl, by omega, hj0, by omega, hjL, Hid.mk (by rw [List.length_append, hQ.out]; have := hL1.out; omega), Hid.mk hP2, Hid.mk hP1, Hid.mk (by rw [← hR.out]; simp only [List.append_assoc]), Hid.mk (by have := h2.out; simp only [List.append_assoc] at this ⊢; exact this)⟩
      case measure => simp [intOf]; omega

end Go.Proofs.Ytabcekeeekbdiaa
