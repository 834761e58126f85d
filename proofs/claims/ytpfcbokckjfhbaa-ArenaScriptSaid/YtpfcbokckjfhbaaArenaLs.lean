/-
  ArenaScript returns true.
-/
import Derived.Test.YtpfcbokckjfhbaaArenaActA
import Derived.Test.YtpfcbokckjfhbaaArenaActB
import Derived.Test.YtpfcbokckjfhbaaArenaActC
namespace Go.Proofs.Ytpfcbokckjfhbaa
open Go.RowKit Go.Deep Go.Maps Go.WideShapes

theorem act_any (w0 w : World) (p bm q W : Nat) (B : Blks) (F : Nat → Prop) (A : Ac) (la : Option Addr) (lcap : Nat) (h : Tw w0 w p bm q W B B F) (hx : Wrd w0 A.l la lcap) (hn : la = none → lcap = 0) (hi : In64 A.n) (hl : A.l.length ≤ 100) (hB : B.length ≤ 900) :
    Calls Try.prog 12 #[.pointer (some ⟨p, 0, none⟩), .pointer (some ⟨q, 0, none⟩), .agg #[.int .i64 A.k, .int .i64 A.n, .slice la A.l.length lcap]] w fun e w' => ∃ B', e = .returned (.bool true) ∧ Tw w0 w' p bm q W B' B' F ∧ B'.length ≤ B.length + 1 := by
  obtain ⟨k, n, l⟩ := A
  by_cases h0 : k = 0
  · subst h0; exact act0_any w0 w p bm q W B F n l la lcap h hx hn hi hl hB
  · by_cases h1 : k = 1
    · subst h1; exact act1_any w0 w p bm q W B F n l la lcap h hx hn hi hl hB
    · by_cases h2 : k = 2
      · subst h2; exact act2_any w0 w p bm q W B F n l la lcap h hx hn hi hl hB
      · by_cases h3 : k = 3
        · subst h3; exact act3_any w0 w p bm q W B F n l la lcap h hx hn hi hl hB
        · exact actN_any k w0 w p bm q W B F n l la lcap ⟨h0, h1, h2, h3⟩ h hx hn hi hl hB
/-- The calls that came in, in a later world. -/
theorem Els.call {w w' : World} {L : List Ac} {a : Option Addr} (h : Els w 3 (AcOk w) L a) (hb : Below w.heap.size w w') {i : Nat} (hi : i < L.length) : ∃ b o la lcap, a = some ⟨b, o, none⟩ ∧
    w'.cell? ⟨b, o + i * 3, none⟩ = some (.int .i64 L[i].k) ∧ w'.cell? ⟨b, o + i * 3 + 1, none⟩ = some (.int .i64 L[i].n) ∧ w'.cell? ⟨b, o + i * 3 + 2, none⟩ = some (.slice la L[i].l.length lcap) ∧ Wrd w L[i].l la lcap ∧ (la = none → lcap = 0) ∧ In64 L[i].n := by
  obtain ⟨b, o, e, hlt, hat⟩ := h.at_ (by omega)
  obtain ⟨us, hus, ⟨la, lcap, rfl, h1, h2, h3, h4⟩, hc⟩ := hat i hi
  have z0 := cell_below hb _ _ _ (hc 0 (by simp))
  have z1 := cell_below hb _ _ _ (hc 1 (by simp))
  have z2 := cell_below hb _ _ _ (hc 2 (by simp))
  exact ⟨b, o, la, lcap, e, by simpa using z0, by simpa [Nat.add_assoc] using z1, by simpa [Nat.add_assoc] using z2, h1, h2, h4⟩

set_option maxRecDepth 100000 in
set_option maxHeartbeats 4000000 in
theorem lawScript8 (n : Int) (L : List Ac) (a : Option Addr) (cap : Nat) (w : World) (hE : Els w 3 (AcOk w) L a) :
    Calls Try.prog 3 #[.int .i64 n, .slice a L.length cap] w fun e w' => e = .returned (.bool true) ∧ Below w.heap.size w w' := by
  by_cases h40 : 40 < L.length
  · have e2 : decide ((40 : Int) < L.length) = true := by rw [decide_eq_true_eq]; omega
    have e1 : decide (40 < L.length) = true := by rw [decide_eq_true_eq]; omega
    clear h40 hE
    go_enter Try.func3, Try.ntmps3
    go_wp2
    go_ret
    exact ⟨rfl, Below.refl _ _⟩
  · have e2 : decide ((40 : Int) < L.length) = false := by rw [decide_eq_false_iff_not]; omega
    have e1 : decide (40 < L.length) = false := by rw [decide_eq_false_iff_not]; omega
    have hL := Hid.mk (show L.length ≤ 40 by omega)
    have HE := Hid.mk hE
    clear h40 hE
    by_cases hr : 1 ≤ n ∧ n ≤ 16777216
    · obtain ⟨W, rfl⟩ := Int.eq_ofNat_of_zero_le (show 0 ≤ n by omega)
      have HW := Hid.mk (show 1 ≤ W ∧ W ≤ 16777216 by omega)
      clear hr
      go_enter Try.func3, Try.ntmps3
      go_wp2_with (first
        | (go_at_call 9; refine (now_new (W := W) _ HW.out.1 HW.out.2).mono ?_; rintro e w1 ⟨rfl, h⟩; have T0 := Hid.mk (Tw.made h); clear h)
        | (go_at_call 10; refine (newR_any W _ HW.out.1 HW.out.2).mono ?_; rintro e w2 ⟨rfl, hw2⟩; rw [← hw2] at T0; clear hw2))
      go_loopw [9] (fun ii wr => ∃ (i : Nat) (B : Blks), i ≤ L.length ∧ ii = .int .i64 i ∧ Hid (Tw w wr (w.heap.size + 1) w.heap.size w1.heap.size W B B (fun _ => False)) ∧ Hid (B.length ≤ i)) (fun ii _ => L.length - (intOf ii).toNat)
      case atStart => exact ⟨0, [], Nat.zero_le _, rfl, T0, Hid.mk (Nat.le_refl _)⟩
      case round =>
        obtain ⟨i, B, hi, rfl, hT, hBi⟩ := hrel
        by_cases hlt : i < L.length
        · obtain ⟨b, o, la, lcap, rfl, d0, d1, d2, hx, hn, hin⟩ := HE.out.call hT.out.below hlt
          have hwi : IntKind.i64.wrap ((i : Int) + 1) = ((i + 1 : Nat) : Int) := by have := hL.out; rw [wrap_id (by omega) (by omega)]; omega
          have hli : (i : Int) < L.length := by omega
          obtain ⟨A, hA⟩ : ∃ A, L[i]'hlt = A := ⟨_, rfl⟩
          rw [hA] at d0 d1 d2 hx hin
          have HX := Hid.mk (And.intro hx (And.intro hn hin))
          have HL := Hid.mk hlt
          clear hA hx hn hin hlt
          by_cases h100 : 100 < A.l.length
          · have e3 : decide ((100 : Int) < A.l.length) = true := by rw [decide_eq_true_eq]; omega
            have e4 : decide (100 < A.l.length) = true := by rw [decide_eq_true_eq]; omega
            clear h100
            go_wp2
            go_ret
            exact ⟨rfl, hT.out.below⟩
          · have e3 : decide ((100 : Int) < A.l.length) = false := by rw [decide_eq_false_iff_not]; omega
            have e4 : decide (100 < A.l.length) = false := by rw [decide_eq_false_iff_not]; omega
            have HA := Hid.mk (show A.l.length ≤ 100 by omega)
            clear h100
            go_wp2_with (first
              | (go_at_call 12; refine (act_any w wr _ _ _ W B _ A la lcap hT.out HX.out.1 HX.out.2.1 HX.out.2.2 HA.out (by have := hBi.out; have := hL.out; have h1 : i < L.length := HL.out; omega)).mono ?_; rintro e w3 ⟨B', rfl, h3, h4⟩; have T3 := Hid.mk h3; have HB3 := Hid.mk h4; clear h3 h4))
            go_roundw
            case rel => exact ⟨i + 1, B', HL.out, by first | rfl | go_num, T3, Hid.mk (by have := HB3.out; have := hBi.out; omega)⟩
            case measure => have h1 : i < L.length := HL.out; simp [intOf]; omega
        · obtain rfl : i = L.length := by omega
          clear hlt
          go_wp2_with (go_at_call 11; refine (awake8_any _).mono ?_; rintro e w3 ⟨rfl, h⟩; have T3 := Hid.mk (hT.out.up h); clear h)
          go_ret
          exact ⟨rfl, T3.out.below⟩
    · have hr' : n < 1 ∨ 16777216 < n := by omega
      have HR := Hid.mk hr'
      clear hr hr'
      go_enter Try.func3, Try.ntmps3
      go_wp2_with (first
        | (go_at_call 9; refine (newA_not n _ HR.out).mono ?_; rintro e w1 ⟨rfl, rfl⟩)
        | (go_at_call 10; refine (newR_not n _ HR.out).mono ?_; rintro e w2 ⟨rfl, rfl⟩)
        | (go_at_call 11; refine (awake8_any _).mono ?_; rintro e w3 ⟨rfl, h⟩; have HB := Hid.mk h; clear h))
      go_ret
      exact ⟨rfl, HB.out⟩
end Go.Proofs.Ytpfcbokckjfhbaa
