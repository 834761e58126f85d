/-
  slices' stableCmpFunc and SortStableFunc at terms.
-/
import Derived.Test.YtabcekeeekbdiaaOrdSymM
import Derived.Test.YtabcekeeekbdiaaOrdWin
namespace Go.Proofs.Ytabcekeeekbdiaa
open Go.RowKit Go.Deep

theorem symmerge_any (w0 : World) (S : Nat → Prop) (g cap L : Nat) (hcap : L ≤ cap) (hlen : L ≤ 1000000) : ∀ N, SymSays w0 S g cap L N := by
  intro N
  induction N with
  | zero => intro A X Y C _ _ hX hY hN; omega
  | succ N ih =>
    intro A X Y C sX sY hX hY hN x y z hx hy hz hL w hw
    obtain rfl : x = (A.length : Nat) := hx
    obtain ⟨m, hm⟩ : ∃ m, A.length + X.length = m := ⟨_, rfl⟩
    obtain ⟨b, hb⟩ : ∃ b, m + Y.length = b := ⟨_, rfl⟩
    obtain rfl : y = (m : Nat) := by omega
    obtain rfl : z = (b : Nat) := by omega
    by_cases h1 : X.length = 1
    · obtain ⟨x, rfl⟩ := List.length_eq_one_iff.1 h1
      have e : A ++ [x] ++ Y ++ C = A ++ x :: (Y ++ C) := by simp
      rw [e] at hw hL
      exact symleft_any w0 S g cap L A x Y C sY hY A.length m b rfl hm.symm hb.symm hL hcap hlen w hw
    by_cases h2 : Y.length = 1
    · obtain ⟨y, rfl⟩ := List.length_eq_one_iff.1 h2
      have e : A ++ X ++ [y] ++ C = A ++ X ++ y :: C := by simp
      rw [e] at hw hL
      exact symright_any w0 S g cap L A X y C sX (by omega) A.length m b rfl hm.symm hb.symm hL hcap hlen w hw
    · exact symmid_of w0 S g cap L N ih A X Y C sX sY (by omega) (by omega) (by omega) A.length m b rfl hm.symm hb.symm hL hcap hlen w hw

/-- What a merge of two stretches of a row does, in terms of its sorted stretches. -/
theorem merge_step (w0 : World) (S : Nat → Prop) (g cap L : Nat) (hcap : L ≤ cap) (hlen : L ≤ 1000000) (cur : List Tm) (hL : cur.length = L) (a m b : Nat) (ham : a < m) (hmb : m < b) (hb : b ≤ L) (h1 : Win cur a m) (h2 : Win cur m b) (x y z : Int) (hx : x = a) (hy : y = m) (hz : z = b) (w : World) (hw : Rw w0 S g cur w) :
    Calls Try.prog 58 #[.slice (some ⟨g, 0, none⟩) L cap, .int .i64 x, .int .i64 y, .int .i64 z, cmpV] w fun e w' => e = .returned (.tuple #[]) ∧ ∃ cur', Rw w0 S g cur' w' ∧ cur'.length = L ∧ (∀ u, alikes u cur' = alikes u cur) ∧
      Win cur' a b ∧ (∀ p q, q ≤ a → Win cur p q → Win cur' p q) ∧ ∀ p q, b ≤ p → Win cur p q → Win cur' p q := by
  obtain ⟨A, X, Y, C, rfl, hA, hX, hY⟩ := split3 cur a m b (by omega) (by omega) (by omega)
  have sX : Sorted X := sorted_of (A := A) (C := Y ++ C) (b := m) hA (by omega) (by rw [← List.append_assoc]; exact h1)
  have sY : Sorted Y := sorted_of (A := A ++ X) (C := C) (by rw [List.length_append]; omega) (by omega) h2
  refine (symmerge_any w0 S g cap L hcap hlen (X.length + Y.length) A X Y C sX sY (by omega) (by omega) (Nat.le_refl _) x y z (by omega) (by omega) (by omega) hL w hw).mono ?_
  rintro e w' ⟨he, hw'⟩
  have hl : (sortT (X ++ Y)).length = (X ++ Y).length := sortT_length _
  have hst := win_step (A := A) (Z := sortT (X ++ Y)) (Z0 := X ++ Y) (C := C) (a := a) (b := b) hA (by rw [hl, List.length_append]; omega) hl.symm (sortT_sorted _)
  rw [← List.append_assoc A X Y] at hst
  refine ⟨he, _, hw', ?_, fun u => ?_, hst⟩
  · simp only [List.length_append] at hL hl ⊢
    omega
  · rw [sorts_alikes, ← List.append_assoc A X Y]
theorem insertion_step (w0 : World) (S : Nat → Prop) (g cap L : Nat) (hcap : L ≤ cap) (hlen : L ≤ 1000000) (cur : List Tm) (hL : cur.length = L) (a b : Nat) (hab : a ≤ b) (hb : b ≤ L) (x y : Int) (hx : x = a) (hy : y = b) (w : World) (hw : Rw w0 S g cur w) :
    Calls Try.prog 57 #[.slice (some ⟨g, 0, none⟩) L cap, .int .i64 x, .int .i64 y, cmpV] w fun e w' => e = .returned (.tuple #[]) ∧ ∃ cur', Rw w0 S g cur' w' ∧ cur'.length = L ∧ (∀ u, alikes u cur' = alikes u cur) ∧
      Win cur' a b ∧ (∀ p q, q ≤ a → Win cur p q → Win cur' p q) := by
  obtain ⟨A, X, C, rfl, hA, hX⟩ := split2 cur a b (by omega) (by omega)
  refine (insertion_any w0 S g cap L A X C x y (by omega) (by omega) hL hcap hlen w hw).mono ?_
  rintro e w' ⟨he, hw'⟩
  have hl : (sortT X).length = X.length := sortT_length _
  have hst := win_step (A := A) (Z := sortT X) (Z0 := X) (C := C) (a := a) (b := b) hA (by omega) hl.symm (sortT_sorted _)
  refine ⟨he, _, hw', ?_, fun u => sorts_alikes u A X C, hst.1, hst.2.1⟩
  simp only [List.length_append] at hL hl ⊢
  omega

set_option maxRecDepth 100000 in
set_option maxHeartbeats 4000000 in
theorem stable_any (w0 : World) (S : Nat → Prop) (g cap L : Nat) (l : List Tm) (hl : l.length = L) (hcap : L ≤ cap) (hlen : L ≤ 1000000) (w : World) (h : Rw w0 S g l w) :
    Calls Try.prog 55 #[.slice (some ⟨g, 0, none⟩) L cap, .int .i64 L, cmpV] w fun e w' => e = .returned (.tuple #[]) ∧ Rw w0 S g (sortT l) w' := by
  have h0 := Hid.mk h
  have hll := Hid.mk hl
  clear h hl
  go_enter Try.func55, Try.ntmps55
  go_wp2
  go_loopw [7, 8] (fun aa bb wr => ∃ (a : Nat) (cur : List Tm), aa = .int .i64 a ∧ bb = .int .i64 (a + 20 : Nat) ∧ a ≤ L ∧ Hid (∃ j, a = j * 20) ∧ Hid (∀ k, (k + 1) * 20 ≤ a → Win cur (k * 20) ((k + 1) * 20)) ∧ Hid (cur.length = L) ∧ Hid (∀ u, alikes u cur = alikes u l) ∧ Hid (Rw w0 S g cur wr)) (fun aa _ _ => L + 1 - (intOf aa).toNat)
  case atStart => exact ⟨0, l, rfl, rfl, Nat.zero_le _, Hid.mk ⟨0, rfl⟩, Hid.mk (fun k hk => by omega), hll, Hid.mk (fun _ => rfl), h0⟩
  case round =>
    clear h0
    obtain ⟨a, cur, rfl, rfl, haL, hj, hwin, hcl, hal, hrw⟩ := hrel
    obtain ⟨b, hb⟩ : ∃ b, a + 20 = b := ⟨_, rfl⟩
    rw [hb]
    by_cases hbL : b ≤ L
    · have hd : decide ((b : Int) ≤ (L : Int)) = true := by simp; omega
      have hcall := Hid.mk (insertion_step w0 S g cap L hcap hlen cur hcl.out a b (by omega) hbL a b rfl rfl wr hrw.out)
      have hab : a < b := by omega
      have hbh := Hid.mk hb
      clear hb
      go_wp2_with (go_at_call 57; refine hcall.out.mono ?_; rintro e w2 ⟨rfl, h2⟩; have h2 := Hid.mk h2)
      go_roundw
      case rel =>
        obtain ⟨cur', q1, q2, q3, q4, q5⟩ := h2.out
        obtain ⟨j, hj⟩ := hj.out
        have hb := hbh.out
        exact ⟨b, cur', rfl, by congr 1, hbL, Hid.mk ⟨j + 1, by omega⟩, Hid.mk (fun k hk => by
          by_cases hk' : (k + 1) * 20 ≤ a
          · exact q5 _ _ hk' (hwin.out k hk')
          · rw [show k * 20 = a by omega, show (k + 1) * 20 = b by omega]
            exact q4), Hid.mk q2, Hid.mk (fun u => (q3 u).trans (hal.out u)), Hid.mk q1⟩
      case measure => simp [intOf]; omega
    · have hd : decide ((b : Int) ≤ (L : Int)) = false := by simp; omega
      have hcall := Hid.mk (insertion_step w0 S g cap L hcap hlen cur hcl.out a L haL (Nat.le_refl _) a L rfl rfl wr hrw.out)
      have hbh := Hid.mk hb
      clear hb
      go_wp2_with (go_at_call 57; refine hcall.out.mono ?_; rintro e w2 ⟨rfl, h2⟩; have h2 := Hid.mk h2)
      have hst : Hid (∃ cur', Rw w0 S g cur' w2 ∧ cur'.length = L ∧ (∀ u, alikes u cur' = alikes u l) ∧ ∀ k, Win cur' (k * 20) (k * 20 + 20)) := Hid.mk (by
        obtain ⟨cur', q1, q2, q3, q4, q5⟩ := h2.out
        obtain ⟨j, hj⟩ := hj.out
        have hb := hbh.out
        refine ⟨cur', q1, q2, fun u => (q3 u).trans (hal.out u), fun k => ?_⟩
        by_cases hk' : (k + 1) * 20 ≤ a
        · have := q5 _ _ hk' (hwin.out k hk')
          rwa [show (k + 1) * 20 = k * 20 + 20 by omega] at this
        by_cases hk2 : k * 20 = a
        · rw [hk2]; exact q4.over (by omega)
        · exact Win.none (by omega))
      clear hcall h2 hwin hj hrw hal hcl hbh hd hbL haL
      go_loopw [6] (fun ss wr => ∃ (bs : Nat) (cur : List Tm), ss = .int .i64 bs ∧ 0 < bs ∧ bs ≤ 2 * L + 20 ∧ Hid (∀ k, Win cur (k * bs) (k * bs + bs)) ∧ Hid (cur.length = L) ∧ Hid (∀ u, alikes u cur = alikes u l) ∧ Hid (Rw w0 S g cur wr)) (fun ss _ => L + 1 - (intOf ss).toNat)
      case atStart =>
        obtain ⟨cur', q1, q2, q3, q4⟩ := hst.out
        exact ⟨20, cur', rfl, by omega, by omega, Hid.mk q4, Hid.mk q2, Hid.mk q3, Hid.mk q1⟩
      case round =>
        clear hst
        obtain ⟨bs, cur, rfl, hbs0, hbs1, hwin, hcl, hal, hrw⟩ := hrel
        by_cases hgo : bs < L
        rotate_left
        · have hd : decide ((bs : Int) < (L : Int)) = false := by simp; omega
          go_wp2
          refine bodyPost_end (results_none rfl _ _ _) rfl ⟨rfl, ?_⟩
          have hs : cur = sortT l := by
            refine sortT_only l cur (sorted_all ?_) hal.out
            have := hwin.out 0
            rw [Nat.zero_mul] at this
            exact this.less (Nat.le_refl _) (by have := hcl.out; omega)
          rw [← hs]
          exact hrw.out
        have hd : decide ((bs : Int) < (L : Int)) = true := by simp; omega
        obtain ⟨tb, htb⟩ : ∃ tb, 2 * bs = tb := ⟨_, rfl⟩
        have htb1 : 2 * (bs : Int) = (tb : Int) := by omega
        have htb2 : (bs : Int) * 2 = (tb : Int) := by omega
        have htbL : bs < tb ∧ tb ≤ 2 * L := by omega
        have htbh := Hid.mk htb
        clear htb
        go_wp2
        go_loopw [7, 8] (fun aa bb wr => ∃ (a b : Nat) (cur : List Tm), aa = .int .i64 a ∧ bb = .int .i64 b ∧ a ≤ L ∧ a + tb = b ∧ Hid (∃ j, a = j * tb) ∧ Hid (∀ k, k * tb + tb ≤ a → Win cur (k * tb) (k * tb + tb)) ∧ Hid (∀ p, a ≤ p → (∃ j, p = j * bs) → Win cur p (p + bs)) ∧ Hid (cur.length = L) ∧ Hid (∀ u, alikes u cur = alikes u l) ∧ Hid (Rw w0 S g cur wr)) (fun aa _ _ => L + 1 - (intOf aa).toNat)
        case atStart => exact ⟨0, tb, cur, rfl, rfl, Nat.zero_le _, by omega, Hid.mk ⟨0, by omega⟩, Hid.mk (fun k hk => by omega), Hid.mk (fun p _ ⟨j, hj⟩ => by rw [hj]; exact hwin.out j), hcl, hal, hrw⟩
        case round =>
          clear hwin hcl hal hrw
          obtain ⟨a, b, cur, rfl, rfl, haL, hab, hj, hw1, hw2, hcl, hal, hrw⟩ := hrel
          obtain ⟨m, hm⟩ : ∃ m, a + bs = m := ⟨_, rfl⟩
          have hm1 : (a : Int) + (bs : Int) = (m : Int) := by omega
          have ham : a < m ∧ m < b := by omega
          obtain ⟨b2, hb2⟩ : ∃ b2, b + tb = b2 := ⟨_, rfl⟩
          have hb1 : (b : Int) + (tb : Int) = (b2 : Int) := by omega
          have hb2h := Hid.mk hb2
          clear hb2
          have hja : ∃ j, a = j * bs := by
            obtain ⟨j, hj⟩ := hj.out
            exact ⟨j * 2, by have := htbh.out; rw [hj, ← this, Nat.mul_assoc]⟩
          have hjm : ∃ j, m = j * bs := by
            obtain ⟨j, hj⟩ := hja
            exact ⟨j + 1, by rw [← hm, hj, Nat.add_mul, Nat.one_mul]⟩
          have hwx := hw2.out a (Nat.le_refl _) hja
          have hwy := hw2.out m (by omega) hjm
          by_cases hbL : b ≤ L
          · have hdl : decide ((b : Int) ≤ (L : Int)) = true := by simp; omega
            have hcall := Hid.mk (merge_step w0 S g cap L hcap hlen cur hcl.out a m b ham.1 ham.2 hbL (by rw [hm] at hwx; exact hwx) (hwy.less (Nat.le_refl _) (by have := htbh.out; omega)) a m b rfl rfl rfl wr hrw.out)
            have hmh := Hid.mk hm
            have habh := Hid.mk hab
            clear hm hab hwx hwy hja hjm
            go_wp2_with (go_at_call 58; refine hcall.out.mono ?_; rintro e w3 ⟨rfl, h3⟩; have h3 := Hid.mk h3)
            go_roundw
            case rel =>
              obtain ⟨cur', q1, q2, q3, q4, q5, q6⟩ := h3.out
              obtain ⟨j, hj⟩ := hj.out
              have hab := habh.out
              exact ⟨b, b2, cur', rfl, rfl, hbL, hb2h.out, Hid.mk ⟨j + 1, by rw [Nat.add_mul, Nat.one_mul]; omega⟩, Hid.mk (fun k hk => by
                by_cases hk' : k * tb + tb ≤ a
                · exact q5 _ _ hk' (hw1.out k hk')
                · have hkj : k = j := by
                    have h1 : k * tb + tb = (k + 1) * tb := by rw [Nat.add_mul, Nat.one_mul]
                    have h2 : b = (j + 1) * tb := by rw [Nat.add_mul, Nat.one_mul]; omega
                    rw [h1] at hk hk'
                    rw [h2] at hk
                    rw [hj] at hk'
                    have h3 := Nat.le_of_mul_le_mul_right hk (by omega)
                    have h4 : ¬ k + 1 ≤ j := fun h => hk' (Nat.mul_le_mul_right _ h)
                    omega
                  rw [hkj, ← hj, hab]
                  exact q4), Hid.mk (fun p hp hpj => q6 _ _ hp (hw2.out p (by omega) hpj)), Hid.mk q2, Hid.mk (fun u => (q3 u).trans (hal.out u)), Hid.mk q1⟩
            case measure => simp [intOf]; omega
          · have hdl : decide ((b : Int) ≤ (L : Int)) = false := by simp; omega
            by_cases hmL : m < L
            · have hdm : decide ((m : Int) < (L : Int)) = true := by simp; omega
              have hcall := Hid.mk (merge_step w0 S g cap L hcap hlen cur hcl.out a m L ham.1 hmL (Nat.le_refl _) (by rw [hm] at hwx; exact hwx) (hwy.over (q' := L) (by have := htbh.out; have := hcl.out; omega)) a m L rfl rfl rfl wr hrw.out)
              have hmh := Hid.mk hm
              have habh := Hid.mk hab
              clear hm hab hwx hwy hja hjm
              go_wp2_with (go_at_call 58; refine hcall.out.mono ?_; rintro e w3 ⟨rfl, h3⟩; have h3 := Hid.mk h3)
              go_roundw
              case rel =>
                obtain ⟨cur', q1, q2, q3, q4, q5, q6⟩ := h3.out
                obtain ⟨j, hj⟩ := hj.out
                have hab := habh.out
                exact ⟨tb, cur', rfl, by omega, by omega, Hid.mk (fun k => by
                  by_cases hk' : k * tb + tb ≤ a
                  · exact q5 _ _ hk' (hw1.out k hk')
                  by_cases hk2 : k * tb = a
                  · rw [hk2]; exact q4.over (by omega)
                  · refine Win.none ?_
                    have h4 : ¬ k < j := fun h => hk' (by rw [hj]; have := Nat.mul_le_mul_right tb (show k + 1 ≤ j from h); rw [Nat.add_mul, Nat.one_mul] at this; exact this)
                    have h5 : k ≠ j := fun h => hk2 (by rw [h, hj])
                    have := Nat.mul_le_mul_right tb (show j + 1 ≤ k by omega)
                    rw [Nat.add_mul, Nat.one_mul, ← hj] at this
                    omega), Hid.mk q2, Hid.mk (fun u => (q3 u).trans (hal.out u)), Hid.mk q1⟩
              case measure => simp [intOf]; omega
            · have hdm : decide ((m : Int) < (L : Int)) = false := by simp; omega
              have hmh := Hid.mk hm
              have habh := Hid.mk hab
              have hwx := Hid.mk hwx
              clear hm hab hwy hja hjm
              go_wp2
              go_roundw
              case rel =>
                obtain ⟨j, hj⟩ := hj.out
                have hab := habh.out
                have hm := hmh.out
                have hcl1 := hcl.out
                exact ⟨tb, cur, rfl, by omega, by omega, Hid.mk (fun k => by
                  by_cases hk' : k * tb + tb ≤ a
                  · exact hw1.out k hk'
                  by_cases hk2 : k * tb = a
                  · rw [hk2]; exact hwx.out.over (by omega)
                  · refine Win.none ?_
                    have h4 : ¬ k < j := fun h => hk' (by rw [hj]; have := Nat.mul_le_mul_right tb (show k + 1 ≤ j from h); rw [Nat.add_mul, Nat.one_mul] at this; exact this)
                    have h5 : k ≠ j := fun h => hk2 (by rw [h, hj])
                    have := Nat.mul_le_mul_right tb (show j + 1 ≤ k by omega)
                    rw [Nat.add_mul, Nat.one_mul, ← hj] at this
                    omega), hcl, hal, hrw⟩
              case measure => simp [intOf]; omega

theorem sortstable_any (w0 : World) (S : Nat → Prop) (g cap L : Nat) (l : List Tm) (hl : l.length = L) (hcap : L ≤ cap) (hlen : L ≤ 1000000) (w : World) (h : Rw w0 S g l w) :
    Calls Try.prog 49 #[.slice (some ⟨g, 0, none⟩) L cap, cmpV] w fun e w' => e = .returned (.tuple #[]) ∧ Rw w0 S g (sortT l) w' := by
  go_enter Try.func49, Try.ntmps49
  go_wp2_with (go_at_call 55; refine (stable_any w0 S g cap L l hl hcap hlen _ h).mono ?_; rintro e w2 ⟨rfl, h2⟩)
  exact bodyPost_end (results_none rfl _ _ _) rfl ⟨rfl, h2⟩

end Go.Proofs.Ytabcekeeekbdiaa
