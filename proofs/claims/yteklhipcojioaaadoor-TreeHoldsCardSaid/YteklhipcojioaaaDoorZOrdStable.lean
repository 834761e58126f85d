/-
  slices' stableCmpFunc and SortStableFunc at terms.
-/
import Derived.Test.YteklhipcojioaaaDoorZOrdSymM
import Derived.Test.YteklhipcojioaaaDoorZOrdSym
import Derived.Test.YteklhipcojioaaaDoorZOrdSortRef
import Derived.Lib.SliceRun
import Derived.Test.YteklhipcojioaaaDoorZTermMore
namespace Go.Proofs.YteklhipcojioaaaDoor
open Go.RowKit Go.Deep

theorem symmerge_any (w0 : World) (S : Nat → Prop) (g cap L : Nat) (hcap : L ≤ cap) (hlen : L ≤ 1000000) : ∀ N, SymSays w0 S g cap L N := by
  intro N
  induction N with
  | zero => intro A X Y C _ _ hX hY hN; omega
  | succ N ih =>
    intro A X Y C sX sY hX hY hN x y z hx hy hz hL w hw
    obtain rfl : x = (A.length : Nat) := hx
    obtain ⟨m, hm⟩ : ∃ m, A.length + X.length = m := ⟨_, rfl⟩
    obtain ⟨b, hb⟩ : ∃ b, m + Y.length = b := ⟨_, rfl⟩
    obtain rfl : y = (m : Nat) := by omega
    obtain rfl : z = (b : Nat) := by omega
    by_cases h1 : X.length = 1
    · obtain ⟨x, rfl⟩ := List.length_eq_one_iff.1 h1
      have e : A ++ [x] ++ Y ++ C = A ++ x :: (Y ++ C) := by simp
      rw [e] at hw hL
      exact symleft_any w0 S g cap L A x Y C sY hY A.length m b rfl hm.symm hb.symm hL hcap hlen w hw
    by_cases h2 : Y.length = 1
    · obtain ⟨y, rfl⟩ := List.length_eq_one_iff.1 h2
      have e : A ++ X ++ [y] ++ C = A ++ X ++ y :: C := by simp
      rw [e] at hw hL
      exact symright_any w0 S g cap L A X y C sX (by omega) A.length m b rfl hm.symm hb.symm hL hcap hlen w hw
    · exact symmid_of w0 S g cap L N ih A X Y C sX sY (by omega) (by omega) (by omega) A.length m b rfl hm.symm hb.symm hL hcap hlen w hw

/-- What a merge of two stretches of a row does, in terms of its sorted stretches. -/
theorem merge_step (w0 : World) (S : Nat → Prop) (g cap L : Nat) (hcap : L ≤ cap) (hlen : L ≤ 1000000) (cur : List Tm) (hL : cur.length = L) (a m b : Nat) (ham : a < m) (hmb : m < b) (hb : b ≤ L) (h1 : Win cur a m) (h2 : Win cur m b) (x y z : Int) (hx : x = a) (hy : y = m) (hz : z = b) (w : World) (hw : Rw w0 S g cur w) :
    Calls Tryd.prog 98 #[.slice (some ⟨g, 0, none⟩) L cap, .int .i64 x, .int .i64 y, .int .i64 z, cmpV] w fun e w' => e = .returned (.tuple #[]) ∧ ∃ cur', Rw w0 S g cur' w' ∧ cur'.length = L ∧ (∀ u, alikes u cur' = alikes u cur) ∧
      Win cur' a b ∧ (∀ p q, q ≤ a → Win cur p q → Win cur' p q) ∧ ∀ p q, b ≤ p → Win cur p q → Win cur' p q := by
  obtain ⟨A, X, Y, C, rfl, hA, hX, hY⟩ := split3 cur a m b (by omega) (by omega) (by omega)
  have sX : Sorted X := sorted_of (A := A) (C := Y ++ C) (b := m) hA (by omega) (by rw [← List.append_assoc]; exact h1)
  have sY : Sorted Y := sorted_of (A := A ++ X) (C := C) (by rw [List.length_append]; omega) (by omega) h2
  refine (symmerge_any w0 S g cap L hcap hlen (X.length + Y.length) A X Y C sX sY (by omega) (by omega) (Nat.le_refl _) x y z (by omega) (by omega) (by omega) hL w hw).mono ?_
  rintro e w' ⟨he, hw'⟩
  have hl : (sortT (X ++ Y)).length = (X ++ Y).length := sortT_length _
  have hst := win_step (A := A) (Z := sortT (X ++ Y)) (Z0 := X ++ Y) (C := C) (a := a) (b := b) hA (by rw [hl, List.length_append]; omega) hl.symm (sortT_sorted _)
  rw [← List.append_assoc A X Y] at hst
  refine ⟨he, _, hw', ?_, fun u => ?_, hst⟩
  · simp only [List.length_append] at hL hl ⊢
    omega
  · rw [sorts_alikes, ← List.append_assoc A X Y]
theorem insertion_step (w0 : World) (S : Nat → Prop) (g cap L : Nat) (hcap : L ≤ cap) (hlen : L ≤ 1000000) (cur : List Tm) (hL : cur.length = L) (a b : Nat) (hab : a ≤ b) (hb : b ≤ L) (x y : Int) (hx : x = a) (hy : y = b) (w : World) (hw : Rw w0 S g cur w) :
    Calls Tryd.prog 97 #[.slice (some ⟨g, 0, none⟩) L cap, .int .i64 x, .int .i64 y, cmpV] w fun e w' => e = .returned (.tuple #[]) ∧ ∃ cur', Rw w0 S g cur' w' ∧ cur'.length = L ∧ (∀ u, alikes u cur' = alikes u cur) ∧
      Win cur' a b ∧ (∀ p q, q ≤ a → Win cur p q → Win cur' p q) := by
  obtain ⟨A, X, C, rfl, hA, hX⟩ := split2 cur a b (by omega) (by omega)
  refine (insertion_any w0 S g cap L A X C x y (by omega) (by omega) hL hcap hlen w hw).mono ?_
  rintro e w' ⟨he, hw'⟩
  have hl : (sortT X).length = X.length := sortT_length _
  have hst := win_step (A := A) (Z := sortT X) (Z0 := X) (C := C) (a := a) (b := b) hA (by omega) hl.symm (sortT_sorted _)
  refine ⟨he, _, hw', ?_, fun u => sorts_alikes u A X C, hst.1, hst.2.1⟩
  simp only [List.length_append] at hL hl ⊢
  omega

set_option maxRecDepth 100000 in
set_option maxHeartbeats 4000000 in
theorem stable_any (w0 : World) (S : Nat → Prop) (g cap L : Nat) (l : List Tm) (hl : l.length = L) (hcap : L ≤ cap) (hlen : L ≤ 1000000) (w : World) (h : Rw w0 S g l w) :
    Calls Tryd.prog 88 #[.slice (some ⟨g, 0, none⟩) L cap, .int .i64 L, cmpV] w fun e w' => e = .returned (.tuple #[]) ∧ Rw w0 S g (sortT l) w' := by
  have h0 := Hid.mk h
  have hll := Hid.mk hl
  clear h hl
  go_enter Tryd.func88, Tryd.ntmps88
  go_wp2
  go_loopw [7, 8] (fun aa bb wr => ∃ (a : Nat) (cur : List Tm), aa = .int .i64 a ∧ bb = .int .i64 (a + 20 : Nat) ∧ a ≤ L ∧ Hid (∃ j, a = j * 20) ∧ Hid (∀ k, (k + 1) * 20 ≤ a → Win cur (k * 20) ((k + 1) * 20)) ∧ Hid (cur.length = L) ∧ Hid (∀ u, alikes u cur = alikes u l) ∧ Hid (Rw w0 S g cur wr)) (fun aa _ _ => L + 1 - (intOf aa).toNat)
  case atStart => exact ⟨0, l, rfl, rfl, Nat.zero_le _, Hid.mk ⟨0, rfl⟩, Hid.mk (fun k hk => by omega), hll, Hid.mk (fun _ => rfl), h0⟩
  case round =>
    clear h0
    obtain ⟨a, cur, rfl, rfl, haL, hj, hwin, hcl, hal, hrw⟩ := hrel
    obtain ⟨b, hb⟩ : ∃ b, a + 20 = b := ⟨_, rfl⟩
    rw [hb]
    by_cases hbL : b ≤ L
    · have hd : decide ((b : Int) ≤ (L : Int)) = true := by simp; omega
      have hcall := Hid.mk (insertion_step w0 S g cap L hcap hlen cur hcl.out a b (by omega) hbL a b rfl rfl wr hrw.out)
      have hab : a < b := by omega
      have hbh := Hid.mk hb
      clear hb
      go_wp2_with (go_at_call 97; refine hcall.out.mono ?_; rintro e w2 ⟨rfl, h2⟩; have h2 := Hid.mk h2)
      go_roundw
      case rel =>
        obtain ⟨cur', q1, q2, q3, q4, q5⟩ := h2.out
        obtain ⟨j, hj⟩ := hj.out
        have hb := hbh.out
        exact ⟨b, cur', rfl, by congr 1, hbL, Hid.mk ⟨j + 1, by omega⟩, Hid.mk (fun k hk => by
          by_cases hk' : (k + 1) * 20 ≤ a
          · exact q5 _ _ hk' (hwin.out k hk')
          · rw [show k * 20 = a by omega, show (k + 1) * 20 = b by omega]
            exact q4), Hid.mk q2, Hid.mk (fun u => (q3 u).trans (hal.out u)), Hid.mk q1⟩
      case measure => simp [intOf]; omega
    · have hd : decide ((b : Int) ≤ (L : Int)) = false := by simp; omega
      have hcall := Hid.mk (insertion_step w0 S g cap L hcap hlen cur hcl.out a L haL (Nat.le_refl _) a L rfl rfl wr hrw.out)
      have hbh := Hid.mk hb
      clear hb
      go_wp2_with (go_at_call 97; refine hcall.out.mono ?_; rintro e w2 ⟨rfl, h2⟩; have h2 := Hid.mk h2)
      have hst : Hid (∃ cur', Rw w0 S g cur' w2 ∧ cur'.length = L ∧ (∀ u, alikes u cur' = alikes u l) ∧ ∀ k, Win cur' (k * 20) (k * 20 + 20)) := Hid.mk (by
        obtain ⟨cur', q1, q2, q3, q4, q5⟩ := h2.out
        obtain ⟨j, hj⟩ := hj.out
        have hb := hbh.out
        refine ⟨cur', q1, q2, fun u => (q3 u).trans (hal.out u), fun k => ?_⟩
        by_cases hk' : (k + 1) * 20 ≤ a
        · have := q5 _ _ hk' (hwin.out k hk')
          rwa [show (k + 1) * 20 = k * 20 + 20 by omega] at this
        by_cases hk2 : k * 20 = a
        · rw [hk2]; exact q4.over (by omega)
        · exact Win.none (by omega))
      clear hcall h2 hwin hj hrw hal hcl hbh hd hbL haL
      go_loopw [6] (fun ss wr => ∃ (bs : Nat) (cur : List Tm), ss = .int .i64 bs ∧ 0 < bs ∧ bs ≤ 2 * L + 20 ∧ Hid (∀ k, Win cur (k * bs) (k * bs + bs)) ∧ Hid (cur.length = L) ∧ Hid (∀ u, alikes u cur = alikes u l) ∧ Hid (Rw w0 S g cur wr)) (fun ss _ => L + 1 - (intOf ss).toNat)
      case atStart =>
        obtain ⟨cur', q1, q2, q3, q4⟩ := hst.out
        exact ⟨20, cur', rfl, by omega, by omega, Hid.mk q4, Hid.mk q2, Hid.mk q3, Hid.mk q1⟩
      case round =>
        clear hst
        obtain ⟨bs, cur, rfl, hbs0, hbs1, hwin, hcl, hal, hrw⟩ := hrel
        by_cases hgo : bs < L
        rotate_left
        · have hd : decide ((bs : Int) < (L : Int)) = false := by simp; omega
          go_wp2
          refine bodyPost_end (results_none rfl _ _ _) rfl ⟨rfl, ?_⟩
          have hs : cur = sortT l := by
            refine sortT_only l cur (sorted_all ?_) hal.out
            have := hwin.out 0
            rw [Nat.zero_mul] at this
            exact this.less (Nat.le_refl _) (by have := hcl.out; omega)
          rw [← hs]
          exact hrw.out
        have hd : decide ((bs : Int) < (L : Int)) = true := by simp; omega
        obtain ⟨tb, htb⟩ : ∃ tb, 2 * bs = tb := ⟨_, rfl⟩
        have htb1 : 2 * (bs : Int) = (tb : Int) := by omega
        have htb2 : (bs : Int) * 2 = (tb : Int) := by omega
        have htbL : bs < tb ∧ tb ≤ 2 * L := by omega
        have htbh := Hid.mk htb
        clear htb
        go_wp2
        go_loopw [7, 8] (fun aa bb wr => ∃ (a b : Nat) (cur : List Tm), aa = .int .i64 a ∧ bb = .int .i64 b ∧ a ≤ L ∧ a + tb = b ∧ Hid (∃ j, a = j * tb) ∧ Hid (∀ k, k * tb + tb ≤ a → Win cur (k * tb) (k * tb + tb)) ∧ Hid (∀ p, a ≤ p → (∃ j, p = j * bs) → Win cur p (p + bs)) ∧ Hid (cur.length = L) ∧ Hid (∀ u, alikes u cur = alikes u l) ∧ Hid (Rw w0 S g cur wr)) (fun aa _ _ => L + 1 - (intOf aa).toNat)
        case atStart => exact ⟨0, tb, cur, rfl, rfl, Nat.zero_le _, by omega, Hid.mk ⟨0, by omega⟩, Hid.mk (fun k hk => by omega), Hid.mk (fun p _ ⟨j, hj⟩ => by rw [hj]; exact hwin.out j), hcl, hal, hrw⟩
        case round =>
          clear hwin hcl hal hrw
          obtain ⟨a, b, cur, rfl, rfl, haL, hab, hj, hw1, hw2, hcl, hal, hrw⟩ := hrel
          obtain ⟨m, hm⟩ : ∃ m, a + bs = m := ⟨_, rfl⟩
          have hm1 : (a : Int) + (bs : Int) = (m : Int) := by omega
          have ham : a < m ∧ m < b := by omega
          obtain ⟨b2, hb2⟩ : ∃ b2, b + tb = b2 := ⟨_, rfl⟩
          have hb1 : (b : Int) + (tb : Int) = (b2 : Int) := by omega
          have hb2h := Hid.mk hb2
          clear hb2
          have hja : ∃ j, a = j * bs := by
            obtain ⟨j, hj⟩ := hj.out
            exact ⟨j * 2, by have := htbh.out; rw [hj, ← this, Nat.mul_assoc]⟩
          have hjm : ∃ j, m = j * bs := by
            obtain ⟨j, hj⟩ := hja
            exact ⟨j + 1, by rw [← hm, hj, Nat.add_mul, Nat.one_mul]⟩
          have hwx := hw2.out a (Nat.le_refl _) hja
          have hwy := hw2.out m (by omega) hjm
          by_cases hbL : b ≤ L
          · have hdl : decide ((b : Int) ≤ (L : Int)) = true := by simp; omega
            have hcall := Hid.mk (merge_step w0 S g cap L hcap hlen cur hcl.out a m b ham.1 ham.2 hbL (by rw [hm] at hwx; exact hwx) (hwy.less (Nat.le_refl _) (by have := htbh.out; omega)) a m b rfl rfl rfl wr hrw.out)
            have hmh := Hid.mk hm
            have habh := Hid.mk hab
            clear hm hab hwx hwy hja hjm
            go_wp2_with (go_at_call 98; refine hcall.out.mono ?_; rintro e w3 ⟨rfl, h3⟩; have h3 := Hid.mk h3)
            go_roundw
            case rel =>
              obtain ⟨cur', q1, q2, q3, q4, q5, q6⟩ := h3.out
              obtain ⟨j, hj⟩ := hj.out
              have hab := habh.out
              exact ⟨b, b2, cur', rfl, rfl, hbL, hb2h.out, Hid.mk ⟨j + 1, by rw [Nat.add_mul, Nat.one_mul]; omega⟩, Hid.mk (fun k hk => by
                by_cases hk' : k * tb + tb ≤ a
                · exact q5 _ _ hk' (hw1.out k hk')
                · have hkj : k = j := by
                    have h1 : k * tb + tb = (k + 1) * tb := by rw [Nat.add_mul, Nat.one_mul]
                    have h2 : b = (j + 1) * tb := by rw [Nat.add_mul, Nat.one_mul]; omega
                    rw [h1] at hk hk'
                    rw [h2] at hk
                    rw [hj] at hk'
                    have h3 := Nat.le_of_mul_le_mul_right hk (by omega)
                    have h4 : ¬ k + 1 ≤ j := fun h => hk' (Nat.mul_le_mul_right _ h)
                    omega
                  rw [hkj, ← hj, hab]
                  exact q4), Hid.mk (fun p hp hpj => q6 _ _ hp (hw2.out p (by omega) hpj)), Hid.mk q2, Hid.mk (fun u => (q3 u).trans (hal.out u)), Hid.mk q1⟩
            case measure => simp [intOf]; omega
          · have hdl : decide ((b : Int) ≤ (L : Int)) = false := by simp; omega
            by_cases hmL : m < L
            · have hdm : decide ((m : Int) < (L : Int)) = true := by simp; omega
              have hcall := Hid.mk (merge_step w0 S g cap L hcap hlen cur hcl.out a m L ham.1 hmL (Nat.le_refl _) (by rw [hm] at hwx; exact hwx) (hwy.over (q' := L) (by have := htbh.out; have := hcl.out; omega)) a m L rfl rfl rfl wr hrw.out)
              have hmh := Hid.mk hm
              have habh := Hid.mk hab
              clear hm hab hwx hwy hja hjm
              go_wp2_with (go_at_call 98; refine hcall.out.mono ?_; rintro e w3 ⟨rfl, h3⟩; have h3 := Hid.mk h3)
              go_roundw
              case rel =>
                obtain ⟨cur', q1, q2, q3, q4, q5, q6⟩ := h3.out
                obtain ⟨j, hj⟩ := hj.out
                have hab := habh.out
                exact ⟨tb, cur', rfl, by omega, by omega, Hid.mk (fun k => by
                  by_cases hk' : k * tb + tb ≤ a
                  · exact q5 _ _ hk' (hw1.out k hk')
                  by_cases hk2 : k * tb = a
                  · rw [hk2]; exact q4.over (by omega)
                  · refine Win.none ?_
                    have h4 : ¬ k < j := fun h => hk' (by rw [hj]; have := Nat.mul_le_mul_right tb (show k + 1 ≤ j from h); rw [Nat.add_mul, Nat.one_mul] at this; exact this)
                    have h5 : k ≠ j := fun h => hk2 (by rw [h, hj])
                    have := Nat.mul_le_mul_right tb (show j + 1 ≤ k by omega)
                    rw [Nat.add_mul, Nat.one_mul, ← hj] at this
                    omega), Hid.mk q2, Hid.mk (fun u => (q3 u).trans (hal.out u)), Hid.mk q1⟩
              case measure => simp [intOf]; omega
            · have hdm : decide ((m : Int) < (L : Int)) = false := by simp; omega
              have hmh := Hid.mk hm
              have habh := Hid.mk hab
              have hwx := Hid.mk hwx
              clear hm hab hwy hja hjm
              go_wp2
              go_roundw
              case rel =>
                obtain ⟨j, hj⟩ := hj.out
                have hab := habh.out
                have hm := hmh.out
                have hcl1 := hcl.out
                exact ⟨tb, cur, rfl, by omega, by omega, Hid.mk (fun k => by
                  by_cases hk' : k * tb + tb ≤ a
                  · exact hw1.out k hk'
                  by_cases hk2 : k * tb = a
                  · rw [hk2]; exact hwx.out.over (by omega)
                  · refine Win.none ?_
                    have h4 : ¬ k < j := fun h => hk' (by rw [hj]; have := Nat.mul_le_mul_right tb (show k + 1 ≤ j from h); rw [Nat.add_mul, Nat.one_mul] at this; exact this)
                    have h5 : k ≠ j := fun h => hk2 (by rw [h, hj])
                    have := Nat.mul_le_mul_right tb (show j + 1 ≤ k by omega)
                    rw [Nat.add_mul, Nat.one_mul, ← hj] at this
                    omega), hcl, hal, hrw⟩
              case measure => simp [intOf]; omega

theorem sortstable_any (w0 : World) (S : Nat → Prop) (g cap L : Nat) (l : List Tm) (hl : l.length = L) (hcap : L ≤ cap) (hlen : L ≤ 1000000) (w : World) (h : Rw w0 S g l w) :
    Calls Tryd.prog 76 #[.slice (some ⟨g, 0, none⟩) L cap, cmpV] w fun e w' => e = .returned (.tuple #[]) ∧ Rw w0 S g (sortT l) w' := by
  go_enter Tryd.func76, Tryd.ntmps76
  go_wp2_with (go_at_call 88; refine (stable_any w0 S g cap L l hl hcap hlen _ h).mono ?_; rintro e w2 ⟨rfl, h2⟩)
  exact bodyPost_end (results_none rfl _ _ _) rfl ⟨rfl, h2⟩

end Go.Proofs.YteklhipcojioaaaDoor

/-
  slices' CompactFunc at terms that are sorted.
-/
namespace Go.Proofs.YteklhipcojioaaaDoor
open Go.RowKit Go.Deep

/-- Package order's alike, as a value. -/
abbrev alikeV : Value := .func (.func 62) #[] #[]

theorem setCells_block {g : Nat} {t : TypeId} : ∀ (vs : List Value) (o : Nat) (w : World) (cur : Array Value), w.heap[g]? = some (.cells cur t (0, 0)) →
    ∃ cur' : Array Value, (w.setCells g o vs).heap[g]? = some (.cells cur' t (0, 0)) ∧ cur'.size = cur.size ∧ ∀ j, j < o → cur'[j]? = cur[j]? := by
  intro vs
  induction vs with
  | nil => intro o w cur h; exact ⟨cur, h, rfl, fun _ _ => rfl⟩
  | cons v r ih =>
    intro o w cur h
    obtain ⟨cur', h1, h2, h3⟩ := ih (o + 1) (w.setCell ⟨g, o, none⟩ v) (cur.setIfInBounds o v) (by simp [World.setCell, Array.getElem?_modify, h])
    exact ⟨cur', h1, by rw [h2, Array.size_setIfInBounds], fun j hj => by rw [h3 j (by omega), Array.getElem?_setIfInBounds, if_neg (by omega)]⟩
theorem setCells_up {w0 : World} {g : Nat} (hg : w0.heap.size ≤ g) : ∀ (vs : List Value) (o : Nat) (w : World), Up w0 w → Up w0 (w.setCells g o vs) := by
  intro vs
  induction vs with
  | nil => intro o w h; exact h
  | cons v r ih => intro o w h; exact ih (o + 1) _ (Below.setCell (p := ⟨g, o, none⟩) h hg v)
theorem Rw.cut {w0 w : World} {S : Nat → Prop} {g : Nat} {l : List Tm} (h : Rw w0 S g l w) (k : Nat) (vs : List Value) : Rw w0 S g (l.take k) (w.setCells g (k * 4) vs) := by
  obtain ⟨cur, hc, hs, hx⟩ := h.row
  obtain ⟨cur', h1, h2, h3⟩ := setCells_block vs (k * 4) w cur hc
  refine ⟨h.new, setCells_up h.new vs _ _ h.up, cur', h1, by rw [List.length_take]; omega, fun i hi => ?_⟩
  rw [List.length_take] at hi
  obtain ⟨k', n, s, a, m, cap, hL, c0, c1, c2, c3⟩ := hx i (by omega)
  exact ⟨k', n, s, a, m, cap, by rw [List.getElem_take]; exact hL, (h3 _ (by omega)).trans c0, (h3 _ (by omega)).trans c1, (h3 _ (by omega)).trans c2, (h3 _ (by omega)).trans c3⟩
theorem zero_term (w : World) : (zeroValue 32).run Tryd.prog w = .ok (.agg #[.int .i64 0, .int .i64 0, .string ⟨#[]⟩, .slice none 0 0]) w := by
  go_simp
theorem zero_cells : (Value.agg #[.int .i64 0, .int .i64 0, .string ⟨#[]⟩, .slice none 0 0]).cells = #[.int .i64 0, .int .i64 0, .string ⟨#[]⟩, .slice none 0 0] := by
  go_simp
theorem run_clear_term {w0 w : World} {S : Nat → Prop} {g : Nat} {l : List Tm} (h : Rw w0 S g l w) (k c : Nat) (hk : k < l.length) :
    ∃ vs : List Value, ∀ ty, (Builtin.clear_ #[30] ty #[.slice (some ⟨g, k * 4, none⟩) (l.length - k) c]).run Tryd.prog w = .ok (.tuple #[]) (w.setCells g (k * 4) vs) := by
  obtain ⟨cur, hc, hs, hx⟩ := h.row
  refine ⟨(Builtin.zeroCells (Value.agg #[.int .i64 0, .int .i64 0, .string ⟨#[]⟩, .slice none 0 0]).cells (l.length - k)).toList, fun ty => ?_⟩
  have hl : (Builtin.zeroCells (Value.agg #[.int .i64 0, .int .i64 0, .string ⟨#[]⟩, .slice none 0 0]).cells (l.length - k)).toList.length = (l.length - k) * 4 := by
    rw [Array.length_toList, size_zeroCells, zero_cells]; rfl
  have hst := run_storeCells_cells (P := Tryd.prog) g (k * 4) (Builtin.zeroCells (Value.agg #[.int .i64 0, .int .i64 0, .string ⟨#[]⟩, .slice none 0 0]).cells (l.length - k)).toList 0 w
    (fun j hj => by
      rw [cell_of_row w g _ cur _ (0, 0) hc]
      rw [hl] at hj
      rw [Array.getElem?_eq_getElem (by omega)]
      rfl) (fun j hj => by simp [World.frozen?, hc]) (fun v hv => by
      rw [zero_cells] at hv
      simp only [Builtin.zeroCells, Array.toList_map, List.mem_map] at hv
      obtain ⟨i, _, rfl⟩ := hv
      have h4 : i % #[Value.int .i64 0, .int .i64 0, .string ⟨#[]⟩, .slice none 0 0].size = i % 4 := rfl
      rw [h4]
      rcases (by omega : i % 4 = 0 ∨ i % 4 = 1 ∨ i % 4 = 2 ∨ i % 4 = 3) with e | e | e | e <;> rw [e] <;> rfl)
  simp only [Nat.add_zero] at hst
  obtain ⟨m, hm⟩ : ∃ m, l.length - k = m + 1 := ⟨l.length - k - 1, by omega⟩
  rw [hm] at hst ⊢
  simp [Builtin.clear_, run_underlying Tryd.underlying30, hst]

theorem uniq_keep {l : List Tm} {i : Nat} (h0 : 0 < i) (hi : i < l.length) (b : Bool) (hb : (l[i].cmp (l[i - 1]'(by omega)) == 0) = b) : uniqT (l.take (i + 1)) = uniqT (l.take i) ++ (if b = true then [] else [l[i]]) := by
  rw [uniqT_take l i hi, keep_succ l i h0 hi]
  have h1 := cmp_neg l[i] l[i - 1]
  have : (l[i - 1].cmp l[i] != 0) = !b := by
    rw [← hb, h1]
    generalize l[i].cmp l[i - 1] = x
    by_cases hx : x = 0
    · subst hx; rfl
    · have e1 : (x == 0) = false := by simpa using hx
      have e2 : (-x != 0) = true := by simp; omega
      rw [e1, e2]; rfl
  rw [this]
  cases b <;> rfl
theorem uniq_short {l : List Tm} (h : l.length < 2) : uniqT l = l := by
  match l, h with
  | [], _ => rfl
  | [x], _ => rfl

set_option maxRecDepth 100000 in
set_option maxHeartbeats 4000000 in
theorem compact_any (w0 : World) (S : Nat → Prop) (g cap L : Nat) (l : List Tm) (hl : l.length = L) (_hcap : L ≤ cap) (_hcap2 : cap ≤ 9223372036854775807) (hlen : L ≤ 1000000) (w : World) (h : Rw w0 S g l w) :
    Calls Tryd.prog 60 #[.slice (some ⟨g, 0, none⟩) L cap, alikeV] w fun e w' => e = .returned (.slice (some ⟨g, 0, none⟩) (uniqT l).length cap) ∧ Rw w0 S g (uniqT l) w' := by
  have h0 := Hid.mk h
  have hll := Hid.mk hl
  clear h
  by_cases h2 : L < 2
  · have hu := Hid.mk (uniq_short (l := l) (by omega))
    have hd : decide ((L : Int) < 2) = true := by simp; omega
    clear hl
    go_enter Tryd.func60, Tryd.ntmps60
    go_wp2
    go_ret
    exact ⟨by rw [hu.out, hll.out]; rfl, by rw [hu.out]; exact h0.out⟩
  have hd2 : decide ((L : Int) < 2) = false := by simp; omega
  clear hl
  go_enter Tryd.func60, Tryd.ntmps60
  go_wp2
  go_loopw [5] (fun kk wr => ∃ k : Nat, kk = .int .i64 k ∧ 0 < k ∧ k ≤ L ∧ Hid (uniqT (l.take k) = l.take k) ∧ Hid (Rw w0 S g l wr)) (fun kk _ => L - (intOf kk).toNat)
  case atStart => exact ⟨1, rfl, by omega, by omega, Hid.mk (uniq_short (by rw [List.length_take]; omega)), h0⟩
  case round =>
    clear h0
    obtain ⟨k, rfl, hk0, hkL, hun, hrw⟩ := hrel
    by_cases hlt : k < L
    rotate_left
    · have hd : decide ((k : Int) < (L : Int)) = false := by simp; omega
      have hu : Hid (uniqT l = l) := Hid.mk (by have h1 := hun.out; rwa [List.take_of_length_le (by have := hll.out; omega)] at h1)
      go_wp2
      go_ret
      exact ⟨by rw [hu.out, hll.out]; rfl, by rw [hu.out]; exact hrw.out⟩
    have hd : decide ((k : Int) < (L : Int)) = true := by simp; omega
    obtain ⟨p, hp⟩ : ∃ p, k - 1 = p := ⟨_, rfl⟩
    have hkl : k < l.length := by have := hll.out; omega
    have hpl : p < l.length := by omega
    obtain ⟨k2, n2, s2, a2, m2, c2, hly, y0, y1, y2, y3⟩ := hrw.out.at k hkl
    obtain ⟨k1, n1, s1, a1, m1, c1, hlx, x0, x1, x2, x3⟩ := hrw.out.at p hpl
    have hcall := Hid.mk (fun (W : World) (hW : Up wr W) => alike_any l[k] l[p] S S _ _ W ((hrw.out.later hW).is hly) ((hrw.out.later hW).is hlx))
    obtain ⟨z, hz⟩ : ∃ z, (l[k].cmp l[p] == 0) = z := ⟨_, rfl⟩
    rw [hz] at hcall
    have hkeep := Hid.mk (uniq_keep hk0 hkl z (by simp only [hp]; exact hz))
    have wS : IntKind.i64.wrap ((k : Int) - 1) = (p : Int) := by rw [IntKind.wrap_i64]; omega
    have dk : (0 : Int) ≤ (k : Int) := by omega
    have dp : (0 : Int) ≤ (p : Int) := by omega
    have dk' : (k : Int) < (L : Int) := by omega
    have dp' : (p : Int) < (L : Int) := by omega
    have dpn : p < L := by omega
    have hph := Hid.mk hp
    clear hp hz hly hlx
    by_cases hzt : z = true
    rotate_left
    · have hzf : z = false := by simpa using hzt
      subst hzf
      go_upto_region 6 with fail
      refine region_up (W := wr) (by kernel_rfl) (by kernel_rfl) (Up.refl _) ?_
      refine quiet_value (v := alikeV) rfl (fun _ _ => rfl) ?_
      simp only [Act.put, List.setIfInBounds_toArray, List.set_cons_zero, List.set_cons_succ]
      refine quiet_value (v := .slice (some ⟨g, 0, none⟩) L cap) rfl (fun _ _ => rfl) ?_
      simp only [Act.put, List.setIfInBounds_toArray, List.set_cons_zero, List.set_cons_succ]
      refine quiet_value (v := .int .i64 k) rfl (fun _ _ => rfl) ?_
      simp only [Act.put, List.setIfInBounds_toArray, List.set_cons_zero, List.set_cons_succ]
      refine quiet_value (v := .pointer (some ⟨g, k * 4, none⟩)) rfl (fun _ _ => (by go_simp)) ?_
      simp only [Act.put, List.setIfInBounds_toArray, List.set_cons_zero, List.set_cons_succ]
      refine quiet_value (v := .agg #[.int .i64 k2, .int .i64 n2, .string s2, .slice a2 m2 c2]) rfl (fun W h => (by have u0 := cell_below h.out _ _ _ y0; have u1 := cell_below h.out _ _ _ y1; have u2 := cell_below h.out _ _ _ y2; have u3 := cell_below h.out _ _ _ y3; go_simp)) ?_
      simp only [Act.put, List.setIfInBounds_toArray, List.set_cons_zero, List.set_cons_succ]
      refine quiet_value (v := .slice (some ⟨g, 0, none⟩) L cap) rfl (fun _ _ => rfl) ?_
      simp only [Act.put, List.setIfInBounds_toArray, List.set_cons_zero, List.set_cons_succ]
      refine quiet_value (v := .int .i64 k) rfl (fun _ _ => rfl) ?_
      simp only [Act.put, List.setIfInBounds_toArray, List.set_cons_zero, List.set_cons_succ]
      refine quiet_value (v := .int .i64 p) rfl (fun _ _ => (by go_simp)) ?_
      simp only [Act.put, List.setIfInBounds_toArray, List.set_cons_zero, List.set_cons_succ]
      refine quiet_value (v := .pointer (some ⟨g, p * 4, none⟩)) rfl (fun _ _ => (by go_simp)) ?_
      simp only [Act.put, List.setIfInBounds_toArray, List.set_cons_zero, List.set_cons_succ]
      refine quiet_value (v := .agg #[.int .i64 k1, .int .i64 n1, .string s1, .slice a1 m1 c1]) rfl (fun W h => (by have u0 := cell_below h.out _ _ _ x0; have u1 := cell_below h.out _ _ _ x1; have u2 := cell_below h.out _ _ _ x2; have u3 := cell_below h.out _ _ _ x3; go_simp)) ?_
      simp only [Act.put, List.setIfInBounds_toArray, List.set_cons_zero, List.set_cons_succ]
      refine quiet_call (v := .bool false) rfl (fun W => (by go_simp)) (fun W h => (hcall.out W h).mono fun e w' ⟨he, hb⟩ => ⟨he, h.call hb⟩) ?_
      simp only [Act.put, List.setIfInBounds_toArray, List.set_cons_zero, List.set_cons_succ]
      refine quiet_nil ?_
      intro w6 hw6
      go_wp2
      go_roundw
      case rel => exact ⟨k + 1, by go_num, by omega, by omega, Hid.mk (by rw [hkeep.out, hun.out, if_neg (by simp), ← List.take_succ_eq_append_getElem hkl]), Hid.mk (hrw.out.later hw6)⟩
      case measure => simp [intOf]; omega
    subst hzt
    go_upto_region 6 with fail
    refine region_up (W := wr) (by kernel_rfl) (by kernel_rfl) (Up.refl _) ?_
    refine quiet_value (v := alikeV) rfl (fun _ _ => rfl) ?_
    simp only [Act.put, List.setIfInBounds_toArray, List.set_cons_zero, List.set_cons_succ]
    refine quiet_value (v := .slice (some ⟨g, 0, none⟩) L cap) rfl (fun _ _ => rfl) ?_
    simp only [Act.put, List.setIfInBounds_toArray, List.set_cons_zero, List.set_cons_succ]
    refine quiet_value (v := .int .i64 k) rfl (fun _ _ => rfl) ?_
    simp only [Act.put, List.setIfInBounds_toArray, List.set_cons_zero, List.set_cons_succ]
    refine quiet_value (v := .pointer (some ⟨g, k * 4, none⟩)) rfl (fun _ _ => (by go_simp)) ?_
    simp only [Act.put, List.setIfInBounds_toArray, List.set_cons_zero, List.set_cons_succ]
    refine quiet_value (v := .agg #[.int .i64 k2, .int .i64 n2, .string s2, .slice a2 m2 c2]) rfl (fun W h => (by have u0 := cell_below h.out _ _ _ y0; have u1 := cell_below h.out _ _ _ y1; have u2 := cell_below h.out _ _ _ y2; have u3 := cell_below h.out _ _ _ y3; go_simp)) ?_
    simp only [Act.put, List.setIfInBounds_toArray, List.set_cons_zero, List.set_cons_succ]
    refine quiet_value (v := .slice (some ⟨g, 0, none⟩) L cap) rfl (fun _ _ => rfl) ?_
    simp only [Act.put, List.setIfInBounds_toArray, List.set_cons_zero, List.set_cons_succ]
    refine quiet_value (v := .int .i64 k) rfl (fun _ _ => rfl) ?_
    simp only [Act.put, List.setIfInBounds_toArray, List.set_cons_zero, List.set_cons_succ]
    refine quiet_value (v := .int .i64 p) rfl (fun _ _ => (by go_simp)) ?_
    simp only [Act.put, List.setIfInBounds_toArray, List.set_cons_zero, List.set_cons_succ]
    refine quiet_value (v := .pointer (some ⟨g, p * 4, none⟩)) rfl (fun _ _ => (by go_simp)) ?_
    simp only [Act.put, List.setIfInBounds_toArray, List.set_cons_zero, List.set_cons_succ]
    refine quiet_value (v := .agg #[.int .i64 k1, .int .i64 n1, .string s1, .slice a1 m1 c1]) rfl (fun W h => (by have u0 := cell_below h.out _ _ _ x0; have u1 := cell_below h.out _ _ _ x1; have u2 := cell_below h.out _ _ _ x2; have u3 := cell_below h.out _ _ _ x3; go_simp)) ?_
    simp only [Act.put, List.setIfInBounds_toArray, List.set_cons_zero, List.set_cons_succ]
    refine quiet_call (v := .bool true) rfl (fun W => (by go_simp)) (fun W h => (hcall.out W h).mono fun e w' ⟨he, hb⟩ => ⟨he, h.call hb⟩) ?_
    simp only [Act.put, List.setIfInBounds_toArray, List.set_cons_zero, List.set_cons_succ]
    refine quiet_nil ?_
    intro w6 hw6
    have hst : Hid (Rw w0 S g l w6) := Hid.mk (hrw.out.later hw6)
    have hu1 : Hid (uniqT (l.take (k + 1)) = l.take k) := Hid.mk (by rw [hkeep.out, hun.out, if_pos rfl, List.append_nil])
    clear hrw hcall hkeep x0 x1 x2 x3 y0 y1 y2 y3 hun wS dp dp' dpn hph hpl
    obtain ⟨M, hM⟩ : ∃ M, L - k = M := ⟨_, rfl⟩
    go_wp2

    have hML : k + M = L := by omega
    clear hM
    go_loopw [5, 7] (fun jj qq wr => ∃ (j q : Nat) (R : List Tm), jj = .int .i64 j ∧ qq = .int .i64 q ∧ 0 < q ∧ q ≤ M ∧ j + 1 ≤ k + q ∧ 0 < j ∧ Hid (R.length = L) ∧ Hid (R.take j = uniqT (l.take (k + q))) ∧ Hid (∀ i, k + q - 1 ≤ i → R[i]? = l[i]?) ∧ Hid (Rw w0 S g R wr)) (fun _ qq _ => M + 1 - (intOf qq).toNat)
    case atStart => exact ⟨k, 1, l, rfl, rfl, by omega, by omega, by omega, hk0, hll, Hid.mk hu1.out.symm, Hid.mk (fun _ _ => rfl), hst⟩
    case round =>
      clear hst hu1 hd hd2
      obtain ⟨j, q, R, rfl, rfl, hq0, hqM, hjq, hj0, hRl, hRt, hRs, hrw⟩ := hrel
      by_cases hlq : q < M
      rotate_left
      · have hd : decide ((q : Int) < (M : Int)) = false := by simp; omega
        have hfin : Hid (R.take j = uniqT l) := Hid.mk (by rw [hRt.out, List.take_of_length_le (by have := hll.out; omega)])
        have hjl : j < R.length := by have := hRl.out; omega
        obtain ⟨vs, hclr⟩ := run_clear_term hrw.out j (cap - j) hjl
        rw [hRl.out] at hclr
        have hjL : j < L := by omega
        have hend := Hid.mk (hrw.out.cut j vs)
        have hul : Hid ((uniqT l).length = j) := Hid.mk (by rw [← hfin.out, List.length_take]; omega)
        clear hjl hrw hRs
        go_wp2
        go_ret
        exact ⟨by rw [hul.out]; rfl, by rw [← hfin.out]; exact hend.out⟩
      have hd : decide ((q : Int) < (M : Int)) = true := by simp; omega
      obtain ⟨i, hi⟩ : ∃ i, k + q = i := ⟨_, rfl⟩
      obtain ⟨p, hp⟩ : ∃ p, q - 1 = p := ⟨_, rfl⟩
      have hil : i < l.length := by have := hll.out; omega
      have gi : R[i]? = some l[i] := (hRs.out i (by omega)).trans (List.getElem?_eq_getElem hil)
      have gp : R[i - 1]? = some (l[i - 1]'(by omega)) := (hRs.out (i - 1) (by omega)).trans (List.getElem?_eq_getElem (by omega))
      obtain ⟨k2, n2, s2, a2, m2, c2, hly, y0, y1, y2, y3⟩ := hrw.out.pick gi
      obtain ⟨k1, n1, s1, a1, m1, c1, hlx, x0, x1, x2, x3⟩ := hrw.out.pick gp
      have hcall := Hid.mk (fun (W : World) (hW : Up wr W) => alike_any l[i] (l[i - 1]'(by omega)) S S _ _ W ((hrw.out.later hW).is hly) ((hrw.out.later hW).is hlx))
      obtain ⟨z, hz⟩ : ∃ z, (l[i].cmp (l[i - 1]'(by omega)) == 0) = z := ⟨_, rfl⟩
      rw [hz] at hcall
      have hkeep := Hid.mk (uniq_keep (by omega) hil z hz)
      rw [show i * 4 = k * 4 + q * 4 by omega] at y0 y1 y2 y3
      rw [show (i - 1) * 4 = k * 4 + p * 4 by omega] at x0 x1 x2 x3
      have wS : IntKind.i64.wrap ((q : Int) - 1) = (p : Int) := by rw [IntKind.wrap_i64]; omega
      have dq : (0 : Int) ≤ (q : Int) := by omega
      have dp : (0 : Int) ≤ (p : Int) := by omega
      have dq' : (q : Int) < (M : Int) := by omega
      have dp' : (p : Int) < (M : Int) := by omega
      have dpn : p < M := by omega
      have djL : j < L := by omega
      have hjl : j < R.length := by have := hRl.out; omega
      obtain ⟨cur, hcur, hcsz⟩ := hrw.out.room j hjl
      have hput := Hid.mk (fun (W : World) (hW : Up wr W) => (hrw.out.later hW).put j hjl hly)
      have hcw := Hid.mk (fun (W : World) (hW : Up wr W) => (hW.out.block _ (Array.getElem?_eq_some_iff.1 hcur).1).trans hcur)
      have hph := Hid.mk hp
      have hih := Hid.mk hi
      have hrl := Hid.mk (fun (W : World) (hW : Up wr W) => hrw.out.later hW)
      clear hp hi hz hly hlx hcur hrw gi gp hjl
      by_cases hzt : z = true
      · subst hzt
        go_upto_region 11 with fail
        refine region_up (W := wr) (by kernel_rfl) (by kernel_rfl) (Up.refl _) ?_
        refine quiet_value (v := alikeV) rfl (fun _ _ => rfl) ?_
        simp only [Act.put, List.setIfInBounds_toArray, List.set_cons_zero, List.set_cons_succ]
        refine quiet_value (v := .slice (some ⟨g, k * 4, none⟩) M (cap - k)) rfl (fun _ _ => rfl) ?_
        simp only [Act.put, List.setIfInBounds_toArray, List.set_cons_zero, List.set_cons_succ]
        refine quiet_value (v := .int .i64 q) rfl (fun _ _ => rfl) ?_
        simp only [Act.put, List.setIfInBounds_toArray, List.set_cons_zero, List.set_cons_succ]
        refine quiet_value (v := .pointer (some ⟨g, k * 4 + q * 4, none⟩)) rfl (fun _ _ => (by go_simp)) ?_
        simp only [Act.put, List.setIfInBounds_toArray, List.set_cons_zero, List.set_cons_succ]
        refine quiet_value (v := .agg #[.int .i64 k2, .int .i64 n2, .string s2, .slice a2 m2 c2]) rfl (fun W h => (by have u0 := cell_below h.out _ _ _ y0; have u1 := cell_below h.out _ _ _ y1; have u2 := cell_below h.out _ _ _ y2; have u3 := cell_below h.out _ _ _ y3; go_simp)) ?_
        simp only [Act.put, List.setIfInBounds_toArray, List.set_cons_zero, List.set_cons_succ]
        refine quiet_value (v := .slice (some ⟨g, k * 4, none⟩) M (cap - k)) rfl (fun _ _ => rfl) ?_
        simp only [Act.put, List.setIfInBounds_toArray, List.set_cons_zero, List.set_cons_succ]
        refine quiet_value (v := .int .i64 q) rfl (fun _ _ => rfl) ?_
        simp only [Act.put, List.setIfInBounds_toArray, List.set_cons_zero, List.set_cons_succ]
        refine quiet_value (v := .int .i64 p) rfl (fun _ _ => (by go_simp)) ?_
        simp only [Act.put, List.setIfInBounds_toArray, List.set_cons_zero, List.set_cons_succ]
        refine quiet_value (v := .pointer (some ⟨g, k * 4 + p * 4, none⟩)) rfl (fun _ _ => (by go_simp)) ?_
        simp only [Act.put, List.setIfInBounds_toArray, List.set_cons_zero, List.set_cons_succ]
        refine quiet_value (v := .agg #[.int .i64 k1, .int .i64 n1, .string s1, .slice a1 m1 c1]) rfl (fun W h => (by have u0 := cell_below h.out _ _ _ x0; have u1 := cell_below h.out _ _ _ x1; have u2 := cell_below h.out _ _ _ x2; have u3 := cell_below h.out _ _ _ x3; go_simp)) ?_
        simp only [Act.put, List.setIfInBounds_toArray, List.set_cons_zero, List.set_cons_succ]
        refine quiet_call (v := .bool true) rfl (fun W => (by go_simp)) (fun W h => (hcall.out W h).mono fun e w' ⟨he, hb⟩ => ⟨he, h.call hb⟩) ?_
        simp only [Act.put, List.setIfInBounds_toArray, List.set_cons_zero, List.set_cons_succ]
        refine quiet_value (v := .bool false) rfl (fun _ _ => (by go_simp)) ?_
        simp only [Act.put, List.setIfInBounds_toArray, List.set_cons_zero, List.set_cons_succ]
        refine quiet_nil ?_
        intro w6 hw6
        go_wp2
        go_roundw
        case rel => exact ⟨j, q + 1, R, rfl, by go_num, by omega, by omega, by omega, hj0, hRl, Hid.mk (by have h1 := hkeep.out; rw [if_pos rfl, List.append_nil, ← hih.out] at h1; rw [hRt.out, ← h1]; rfl), Hid.mk (fun i hi => hRs.out i (by omega)), Hid.mk (hrl.out w6 hw6)⟩
        case measure => simp [intOf]; omega
      · have hzf : z = false := by simpa using hzt
        subst hzf
        go_upto_region 11 with fail
        refine region_up (W := wr) (by kernel_rfl) (by kernel_rfl) (Up.refl _) ?_
        refine quiet_value (v := alikeV) rfl (fun _ _ => rfl) ?_
        simp only [Act.put, List.setIfInBounds_toArray, List.set_cons_zero, List.set_cons_succ]
        refine quiet_value (v := .slice (some ⟨g, k * 4, none⟩) M (cap - k)) rfl (fun _ _ => rfl) ?_
        simp only [Act.put, List.setIfInBounds_toArray, List.set_cons_zero, List.set_cons_succ]
        refine quiet_value (v := .int .i64 q) rfl (fun _ _ => rfl) ?_
        simp only [Act.put, List.setIfInBounds_toArray, List.set_cons_zero, List.set_cons_succ]
        refine quiet_value (v := .pointer (some ⟨g, k * 4 + q * 4, none⟩)) rfl (fun _ _ => (by go_simp)) ?_
        simp only [Act.put, List.setIfInBounds_toArray, List.set_cons_zero, List.set_cons_succ]
        refine quiet_value (v := .agg #[.int .i64 k2, .int .i64 n2, .string s2, .slice a2 m2 c2]) rfl (fun W h => (by have u0 := cell_below h.out _ _ _ y0; have u1 := cell_below h.out _ _ _ y1; have u2 := cell_below h.out _ _ _ y2; have u3 := cell_below h.out _ _ _ y3; go_simp)) ?_
        simp only [Act.put, List.setIfInBounds_toArray, List.set_cons_zero, List.set_cons_succ]
        refine quiet_value (v := .slice (some ⟨g, k * 4, none⟩) M (cap - k)) rfl (fun _ _ => rfl) ?_
        simp only [Act.put, List.setIfInBounds_toArray, List.set_cons_zero, List.set_cons_succ]
        refine quiet_value (v := .int .i64 q) rfl (fun _ _ => rfl) ?_
        simp only [Act.put, List.setIfInBounds_toArray, List.set_cons_zero, List.set_cons_succ]
        refine quiet_value (v := .int .i64 p) rfl (fun _ _ => (by go_simp)) ?_
        simp only [Act.put, List.setIfInBounds_toArray, List.set_cons_zero, List.set_cons_succ]
        refine quiet_value (v := .pointer (some ⟨g, k * 4 + p * 4, none⟩)) rfl (fun _ _ => (by go_simp)) ?_
        simp only [Act.put, List.setIfInBounds_toArray, List.set_cons_zero, List.set_cons_succ]
        refine quiet_value (v := .agg #[.int .i64 k1, .int .i64 n1, .string s1, .slice a1 m1 c1]) rfl (fun W h => (by have u0 := cell_below h.out _ _ _ x0; have u1 := cell_below h.out _ _ _ x1; have u2 := cell_below h.out _ _ _ x2; have u3 := cell_below h.out _ _ _ x3; go_simp)) ?_
        simp only [Act.put, List.setIfInBounds_toArray, List.set_cons_zero, List.set_cons_succ]
        refine quiet_call (v := .bool false) rfl (fun W => (by go_simp)) (fun W h => (hcall.out W h).mono fun e w' ⟨he, hb⟩ => ⟨he, h.call hb⟩) ?_
        simp only [Act.put, List.setIfInBounds_toArray, List.set_cons_zero, List.set_cons_succ]
        refine quiet_value (v := .bool true) rfl (fun _ _ => (by go_simp)) ?_
        simp only [Act.put, List.setIfInBounds_toArray, List.set_cons_zero, List.set_cons_succ]
        refine quiet_nil ?_
        intro w6 hw6
        have hc6 := hcw.out w6 hw6
        have f : ∀ o, w6.frozen? ⟨g, o, none⟩ = false := fun o => by simp [World.frozen?, hc6]
        have e : ∀ o, w6.cell? ⟨g, o, none⟩ = cur[o]? := fun o => cell_of_row w6 g o cur _ (0, 0) hc6
        have e0 := (e (j * 4)).trans (Array.getElem?_eq_getElem (by omega))
        have e1 := (e (j * 4 + 1)).trans (Array.getElem?_eq_getElem (by omega))
        have e2 := (e (j * 4 + 2)).trans (Array.getElem?_eq_getElem (by omega))
        have e3 := (e (j * 4 + 3)).trans (Array.getElem?_eq_getElem (by omega))
        have f0 := f (j * 4)
        have f1 := f (j * 4 + 1)
        have f2 := f (j * 4 + 2)
        have f3 := f (j * 4 + 3)
        have y0 := cell_below hw6.out _ _ _ y0
        have y1 := cell_below hw6.out _ _ _ y1
        have y2 := cell_below hw6.out _ _ _ y2
        have y3 := cell_below hw6.out _ _ _ y3
        have hput6 := Hid.mk (hput.out w6 hw6)
        clear e f hc6 hcw hput
        go_wp2
        go_roundw
        case rel => exact ⟨j + 1, q + 1, R.set j (l[i]'(by have := hll.out; have := hih.out; omega)), by go_num, by go_num, by omega, by omega, by omega, by omega, Hid.mk (by rw [List.length_set]; exact hRl.out), Hid.mk (by
          have h1 := hkeep.out
          rw [if_neg (by simp)] at h1
          rw [List.take_succ_eq_append_getElem (by rw [List.length_set]; have := hRl.out; omega), List.getElem_set_self, List.take_set_of_le (Nat.le_refl _), hRt.out, show k + (q + 1) = i + 1 by have := hih.out; omega, h1, (by rw [hih.out] : uniqT (l.take (k + q)) = uniqT (l.take i))]), Hid.mk (fun i' hi' => by
          rw [List.getElem?_set_ne (by omega)]
          exact hRs.out i' (by omega)), hput6⟩
        case measure => simp [intOf]; omega

end Go.Proofs.YteklhipcojioaaaDoor

/-
  Package order's sorted, detach, Sort and Unique.
-/
namespace Go.Proofs.YteklhipcojioaaaDoor
open Go.RowKit Go.Deep

theorem sortnone_any (w : World) : Calls Tryd.prog 76 #[.slice none 0 0, cmpV] w fun e w' => e = .returned (.tuple #[]) ∧ w = w' := by
  have h1 : Calls Tryd.prog 97 #[.slice none 0 0, .int .i64 0, .int .i64 0, cmpV] w fun e w' => e = .returned (.tuple #[]) ∧ w = w' := by
    go_enter Tryd.func97, Tryd.ntmps97
    go_wp2
    go_loopw [8] (fun ii wr => ii = .int .i64 1 ∧ w = wr) (fun _ _ => 0)
    case atStart => exact ⟨rfl, rfl⟩
    case round =>
      obtain ⟨rfl, rfl⟩ := hrel
      go_wp2
      exact bodyPost_end (results_none rfl _ _ _) rfl ⟨rfl, rfl⟩
  have h2 : Calls Tryd.prog 88 #[.slice none 0 0, .int .i64 0, cmpV] w fun e w' => e = .returned (.tuple #[]) ∧ w = w' := by
    have h1 := Hid.mk h1
    go_enter Tryd.func88, Tryd.ntmps88
    go_wp2
    go_loopw [7, 8] (fun aa bb wr => aa = .int .i64 0 ∧ bb = .int .i64 20 ∧ w = wr) (fun _ _ _ => 0)
    case atStart => exact ⟨rfl, rfl, rfl⟩
    case round =>
      obtain ⟨rfl, rfl, rfl⟩ := hrel
      go_wp2_with (go_at_call 97; refine h1.out.mono ?_; rintro e w2 ⟨rfl, rfl⟩)
      go_loopw [6] (fun ss wr => ss = .int .i64 20 ∧ w = wr) (fun _ _ => 0)
      case atStart => exact ⟨rfl, rfl⟩
      case round =>
        obtain ⟨rfl, rfl⟩ := hrel
        go_wp2
        exact bodyPost_end (results_none rfl _ _ _) rfl ⟨rfl, rfl⟩
  have h2 := Hid.mk h2
  clear h1
  go_enter Tryd.func76, Tryd.ntmps76
  go_wp2_with (go_at_call 88; refine h2.out.mono ?_; rintro e w2 ⟨rfl, rfl⟩)
  exact bodyPost_end (results_none rfl _ _ _) rfl ⟨rfl, rfl⟩

theorem rw_new {w w3 : World} {S : Nat → Prop} {l : List Tm} {g : Nat} {cur : Array Value} {xs : List Value} (hbg : w.heap.size ≤ g) (hb3 : Up w w3) (hgg : w3.heap[g]? = some (.cells cur 32 (0, 0))) (hcs : l.length * 4 ≤ cur.size) (hcu : ∀ (j : Nat) (u : Value), xs[j]? = some u → cur[j]? = some u)
    (hxl : ∀ i (hi : i < l.length), ∃ v0 v1 v2 v3, xs[i * 4]? = some v0 ∧ xs[i * 4 + 1]? = some v1 ∧ xs[i * 4 + 2]? = some v2 ∧ xs[i * 4 + 3]? = some v3 ∧ Lies w S l[i] (.agg #[v0, v1, v2, v3])) : Rw w S g l w3 :=
  ⟨hbg, hb3, cur, hgg, hcs, fun i hi => by
    obtain ⟨v0, v1, v2, v3, e0, e1, e2, e3, hLi⟩ := hxl i hi
    obtain ⟨k, n, s, a, m, c, hv⟩ := hLi.agg
    simp only [Value.agg.injEq, Array.mk.injEq, List.cons.injEq, and_true] at hv
    obtain ⟨rfl, rfl, rfl, rfl⟩ := hv
    exact ⟨k, n, s, a, m, c, hLi, hcu _ _ e0, hcu _ _ e1, hcu _ _ e2, hcu _ _ e3⟩⟩

/-- A new list of a call: its row and its terms lie in memory that wasn't there before. -/
structure NewL (w : World) (l : List Tm) (a : Option Addr) (cap : Nat) (w' : World) : Prop where
  lst : Lst w' (fun b => w.heap.size ≤ b) l a cap
  row : 0 < l.length → ∃ g cur, a = some ⟨g, 0, none⟩ ∧ w.heap.size ≤ g ∧ w'.heap[g]? = some (.cells cur 32 (0, 0)) ∧ l.length * 4 ≤ cur.size

/-- What is sorted stands in a row of its own. -/
def SortedRow (w : World) (S : Nat → Prop) (l : List Tm) (a' : Option Addr) (cap' : Nat) (w' : World) : Prop :=
  (l.length = 0 ∧ a' = none ∧ cap' = 0) ∨ ∃ g, a' = some ⟨g, 0, none⟩ ∧ 0 < l.length ∧ l.length ≤ cap' ∧ cap' ≤ 9223372036854775807 ∧ Rw w (fun b => S b ∧ b < w.heap.size) g (sortT l) w'

set_option maxHeartbeats 1000000 in
theorem sorted_any (l : List Tm) (hlen : l.length ≤ 1000000) (S : Nat → Prop) (a : Option Addr) (cap : Nat) (w : World) (hl0 : Lst w S l a cap) :
    Calls Tryd.prog 61 #[.slice a l.length cap] w fun e w' => (∃ a' cap', e = .returned (.slice a' l.length cap') ∧ SortedRow w S l a' cap' w') ∧ Up w w' := by
  have hl := Hid.mk hl0.inside
  obtain ⟨i0, hi0, hz0, hz1, hby⟩ := info_at termInfo
  have hcap := hl0.2.1
  have hnil : w.ownsRow w.heap.size 32 4 (.slice none 0 0) 0 [] := World.ownsRow_nil _ _ _ _
  by_cases h0 : l.length = 0
  · have hln : l = [] := List.eq_nil_of_length_eq_zero h0
    subst hln
    rcases hl0.2.2 with ⟨rfl, _, hc⟩ | ⟨p, rfl, _, _⟩
    · subst hc
      clear hl0 hl
      go_enter Tryd.func61, Tryd.ntmps61
      go_wp2_with (first
        | (at_builtin; refine wpList_append_own_none rfl _ _ 30 rfl w.heap.size 32 i0 4 Tryd.underlying30 hi0 _ 0 [] rfl hnil rfl ?_)
        | (go_at_call 76; refine (sortnone_any _).mono ?_; rintro e w2 ⟨rfl, rfl⟩))
      go_ret
      exact ⟨⟨none, 0, rfl, Or.inl ⟨rfl, rfl, rfl⟩⟩, Up.refl _⟩
    · clear hl0 hl
      go_enter Tryd.func61, Tryd.ntmps61
      go_wp2_with (first
        | (at_builtin; refine wpList_append_own_at _ rfl _ _ 30 rfl w.heap.size 32 i0 _ 4 56 Tryd.underlying30 hi0 hz0 hz1 hby rfl (by decide) _ 0 [] rfl hnil p 0 cap [] rfl rfl (fun j u hu => by simp at hu) (fun u hu => by cases hu) (by unfold maxLen; omega) (by omega) (Nat.le_refl _) ?_; intro v' w3 hown' hgrow hiff hat; obtain rfl := hiff.2 ⟨rfl, rfl⟩; have hb3 : Up w w3 := (Up.refl w).out.grown hgrow (Nat.le_refl _) (fun k hk => by cases hk))
        | (go_at_call 76; refine (sortnone_any _).mono ?_; rintro e w2 ⟨rfl, rfl⟩))
      go_ret
      exact ⟨⟨none, 0, rfl, Or.inl ⟨rfl, rfl, rfl⟩⟩, hb3⟩
  · obtain ⟨b, o, rfl, hSb, hrow⟩ := hl.out.some (by omega)
    obtain ⟨xs, hx, hxc, hx1, hxl⟩ := hrow.list
    obtain ⟨L, hL⟩ : ∃ L, l.length = L := ⟨_, rfl⟩
    rw [hL] at hx hlen h0 ⊢
    have hxc' : ∀ j u, xs[j]? = some u → w.cell? ((⟨b, o, none⟩ : Addr).add j) = some u := fun j u hu => by
      rw [WideShapes.add_plain]
      exact hxc j u hu
    have hxc' := Hid.mk hxc'
    have hxl := Hid.mk hxl
    have hLh := Hid.mk hL
    have hx1 := Hid.mk hx1
    clear hl0 hl hrow hxc hL
    go_enter Tryd.func61, Tryd.ntmps61
    go_wp2_with (first
      | (at_builtin; refine wpList_append_own_at _ rfl _ _ 30 rfl w.heap.size 32 i0 _ 4 56 Tryd.underlying30 hi0 hz0 hz1 hby rfl (by decide) _ 0 [] rfl hnil ⟨b, o, none⟩ L cap xs rfl hx hxc'.out hx1.out (by unfold maxLen; omega) (by omega) (Nat.le_refl _) ?_; intro v' w3 hown' hgrow hiff hat; have hb3 : Up w w3 := (Up.refl w).out.grown hgrow (Nat.le_refl _) (fun k hk => by cases hk); obtain ⟨g, cap', cur, rfl, hbg, hgg, hcc, hcm, hcs, hcu⟩ := owns_some hown' (by omega); simp only [Nat.zero_add, List.nil_append] at hcc hcs hcu; have hrw := Hid.mk (rw_new (w := w) (S := fun b => S b ∧ b < w.heap.size) hbg hb3 hgg (by rw [hLh.out]; exact hcs) hcu hxl.out); clear hown' hgrow hiff hat hcu hcs hgg)
      | (go_at_call 76; refine (sortstable_any w (fun b => S b ∧ b < w.heap.size) g cap' L l hLh.out (by omega) hlen _ hrw.out).mono ?_; rintro e w2 ⟨rfl, h2⟩))
    go_ret
    exact ⟨⟨some ⟨g, 0, none⟩, cap', by simp, Or.inr ⟨g, rfl, by rw [hLh.out]; omega, by rw [hLh.out]; exact hcc, hcm, h2⟩⟩, h2.up⟩

/-- The row's first i terms have memory of their own. -/
structure Dt (w0 : World) (S : Nat → Prop) (g N : Nat) (l : List Tm) (i : Nat) (w : World) : Prop where
  new : w0.heap.size ≤ g
  gN : g < N
  Nw : N ≤ w.heap.size
  N0 : w0.heap.size ≤ N
  up : Up w0 w
  row : ∃ cur : Array Value, w.heap[g]? = some (.cells cur 32 (0, 0)) ∧ l.length * 4 ≤ cur.size ∧
    ∀ q (hq : q < l.length), ∃ k n s a m cap, (if q < i then Lies w (fun b => N ≤ b) l[q] (.agg #[.int .i64 k, .int .i64 n, .string s, .slice a m cap]) else Lies w0 S l[q] (.agg #[.int .i64 k, .int .i64 n, .string s, .slice a m cap])) ∧
      cur[q * 4]? = some (.int .i64 k) ∧ cur[q * 4 + 1]? = some (.int .i64 n) ∧ cur[q * 4 + 2]? = some (.string s) ∧ cur[q * 4 + 3]? = some (.slice a m cap)
section
variable {w0 w w2 : World} {S : Nat → Prop} {g N i : Nat} {l : List Tm}
theorem Dt.start (h : Rw w0 S g l w) : Dt w0 S g w.heap.size l 0 w := by
  obtain ⟨cur, hc, hs, hx⟩ := h.row
  refine ⟨h.new, h.lt, Nat.le_refl _, h.up.out.size, h.up, cur, hc, hs, fun q hq => ?_⟩
  obtain ⟨k, n, s, a, m, cap, hL, hcs⟩ := hx q hq
  exact ⟨k, n, s, a, m, cap, by rw [if_neg (by omega)]; exact hL, hcs⟩
theorem Dt.step (h : Dt w0 S g N l i w) (hi : i < l.length) (hu : Up w w2) {k n : Int} {s : ByteArray} {a : Option Addr} {m cap : Nat} (ht : Lies w2 (fun b => w.heap.size ≤ b) l[i] (.agg #[.int .i64 k, .int .i64 n, .string s, .slice a m cap])) :
    Dt w0 S g N l (i + 1) (put4 w2 g (i * 4) (.int .i64 k) (.int .i64 n) (.string s) (.slice a m cap)) := by
  obtain ⟨cur, hc, hs, hx⟩ := h.row
  have hc2 := (hu.out.block _ (Array.getElem?_eq_some_iff.1 hc).1).trans hc
  have hsz := hu.out.size
  have hN := h.Nw
  have hg := h.gN
  have mv : ∀ {S' : Nat → Prop} {t : Tm} {v : Value}, (∀ b, S' b → b ≠ g) → Lies w2 S' t v → Lies (put4 w2 g (i * 4) (.int .i64 k) (.int .i64 n) (.string s) (.slice a m cap)) S' t v := fun hS hL =>
    hL.move (fun _ h => h) (fun b o v hb hcl => (World.cell?_of_block (w := w2) (a := ⟨b, o, none⟩) (put4_heap _ _ _ _ _ _ _ _ (hS b hb))).trans hcl) _ _
  refine ⟨h.new, h.gN, by rw [put4_size]; omega, h.N0, Below.put4 (h.up.call hu.out).out h.new, _, put4_block hc2, ?_, fun q hq => ?_⟩
  · simp only [Array.size_setIfInBounds]; exact hs
  · by_cases hqi : q = i
    · subst hqi
      refine ⟨k, n, s, a, m, cap, ?_, ?_, ?_, ?_, ?_⟩
      · rw [if_pos (by omega)]
        exact (mv (fun b hb => by omega) ht).wider (fun b hb => by omega)
      all_goals (simp only [Array.getElem?_setIfInBounds, Array.size_setIfInBounds]; simp; omega)
    · obtain ⟨k', n', s', a', m', cap', hL, c0, c1, c2, c3⟩ := hx q hq
      refine ⟨k', n', s', a', m', cap', ?_, ?_, ?_, ?_, ?_⟩
      · by_cases hlt : q < i
        · rw [if_pos hlt] at hL
          rw [if_pos (by omega)]
          exact mv (fun b hb => by omega) (hL.below hu.out)
        · rw [if_neg hlt] at hL
          rw [if_neg (by omega)]
          exact hL
      all_goals
        simp only [Array.getElem?_setIfInBounds, Array.size_setIfInBounds]
        rw [if_neg (by omega), if_neg (by omega), if_neg (by omega), if_neg (by omega)]
        assumption
theorem Dt.at (h : Dt w0 S g N l i w) (hi : i < l.length) : ∃ cur k n s a m cap, Lies w S l[i] (.agg #[.int .i64 k, .int .i64 n, .string s, .slice a m cap]) ∧ w.heap[g]? = some (.cells cur 32 (0, 0)) ∧ i * 4 + 3 < cur.size ∧
    cur[i * 4]? = some (.int .i64 k) ∧ cur[i * 4 + 1]? = some (.int .i64 n) ∧ cur[i * 4 + 2]? = some (.string s) ∧ cur[i * 4 + 3]? = some (.slice a m cap) := by
  obtain ⟨cur, hc, hs, hx⟩ := h.row
  obtain ⟨k, n, s, a, m, cap, hL, c0, c1, c2, c3⟩ := hx i hi
  rw [if_neg (by omega)] at hL
  exact ⟨cur, k, n, s, a, m, cap, hL.below h.up.out, hc, by omega, c0, c1, c2, c3⟩
theorem Dt.done (h : Dt w0 S g N l l.length w) (cap : Nat) (h1 : l.length ≤ cap) (h2 : cap ≤ 9223372036854775807) : NewL w0 l (some ⟨g, 0, none⟩) cap w := by
  obtain ⟨cur, hc, hs, hx⟩ := h.row
  have hcell : ∀ j, w.cell? ⟨g, 0 + j, none⟩ = _ := fun j => cell_of_row w g (0 + j) cur 32 (0, 0) hc
  simp only [Nat.zero_add] at hcell
  refine ⟨⟨h1, h2, Or.inr ⟨_, rfl, fun _ => ⟨h.new, rfl⟩, Row.of fun q hq => ?_⟩⟩, fun _ => ⟨g, cur, rfl, h.new, hc, hs⟩⟩
  obtain ⟨k, n, s, a, m, c, hL, c0, c1, c2, c3⟩ := hx q hq
  rw [if_pos hq] at hL
  rw [Nat.zero_add]
  have := h.N0
  exact ⟨_, _, _, _, (hcell _).trans c0, (hcell _).trans c1, (hcell _).trans c2, (hcell _).trans c3, hL.wider (fun b hb => by omega)⟩
end

set_option maxHeartbeats 1000000 in
theorem detachR_any (w0 : World) (S : Nat → Prop) (g cap L : Nat) (l : List Tm) (hl : l.length = L) (hlen : L ≤ 1000000) (hcap : L ≤ cap) (hcap2 : cap ≤ 9223372036854775807) (hsz : ∀ t ∈ l, t.size ≤ 1000000 ∧ t.Short) (w : World) (h : Rw w0 S g l w) :
    Calls Tryd.prog 59 #[.slice (some ⟨g, 0, none⟩) L cap] w fun e w' => e = .returned (.slice (some ⟨g, 0, none⟩) L cap) ∧ NewL w0 l (some ⟨g, 0, none⟩) cap w' ∧ Up w0 w' := by
  have h0 := Hid.mk (Dt.start h)
  have hll := Hid.mk hl
  have hsz := Hid.mk hsz
  obtain ⟨N, hN⟩ : ∃ N, w.heap.size = N := ⟨_, rfl⟩
  rw [hN] at h0
  clear h hl hN
  go_enter Tryd.func59, Tryd.ntmps59
  go_wp2
  go_loopw [6] (fun ii wr => ∃ i : Nat, i ≤ L ∧ ii = .int .i64 i ∧ Hid (Dt w0 S g N l i wr)) (fun ii _ => L - (intOf ii).toNat)
  case atStart => exact ⟨0, Nat.zero_le _, rfl, h0⟩
  case round =>
    clear h0
    obtain ⟨i, hi, rfl, hD⟩ := hrel
    by_cases hlt : i < L
    · have hil : i < l.length := by have := hll.out; omega
      obtain ⟨cur, k, n, s, a, m, c, hL, hc, hcs, c0, c1, c2, c3⟩ := hD.out.at hil
      have hcl : ∀ j, wr.cell? ⟨g, j, none⟩ = cur[j]? := fun j => cell_of_row wr g j cur _ (0, 0) hc
      have e0 := (hcl _).trans c0
      have e1 := (hcl _).trans c1
      have e2 := (hcl _).trans c2
      have e3 := (hcl _).trans c3
      have hss := hsz.out l[i] (List.getElem_mem hil)
      have hcopy := Hid.mk (copyC_any l[i] hss.1 hss.2 S _ wr hL)
      have hstep := Hid.mk (fun (w2 : World) (hu : Up wr w2) (k n : Int) (s : ByteArray) (a : Option Addr) (m cap : Nat) ht => hD.out.step (w2 := w2) hil hu (k := k) (n := n) (s := s) (a := a) (m := m) (cap := cap) ht)
      have hfc := Hid.mk (fun (w2 : World) (hu : Up wr w2) => (⟨cell_below hu.out _ _ _ e0, cell_below hu.out _ _ _ e1, cell_below hu.out _ _ _ e2, cell_below hu.out _ _ _ e3, (by
        have hc2 := (hu.out.block _ (Array.getElem?_eq_some_iff.1 hc).1).trans hc
        exact fun o => by simp [World.frozen?, hc2] : ∀ o, w2.frozen? ⟨g, o, none⟩ = false)⟩ : _ ∧ _ ∧ _ ∧ _ ∧ _))
      clear hss hcl c0 c1 c2 c3 hL hc
      go_wp2_with (go_at_call 54; refine hcopy.out.mono ?_; rintro e w2 ⟨⟨v, rfl, hLv⟩, hb2⟩; obtain ⟨k7, n7, s7, a7, m7, c7, hv7⟩ := hLv.agg; subst hv7; have hst := Hid.mk (hstep.out w2 hb2 _ _ _ _ _ _ hLv); obtain ⟨e0, e1, e2, e3, hf⟩ := hfc.out w2 hb2; have f0 := hf (i * 4); have f1 := hf (i * 4 + 1); have f2 := hf (i * 4 + 2); have f3 := hf (i * 4 + 3); clear hf hLv)
      go_roundw
      case rel => exact ⟨i + 1, hlt, by go_num, hst⟩
      case measure => simp [intOf]; omega
    · obtain rfl : i = L := by omega
      go_wp2
      go_ret
      have hD := hD.out
      have hll := hll.out
      rw [← hll] at hD hcap ⊢
      exact ⟨rfl, hD.done cap hcap hcap2, hD.up⟩
theorem detachN_any (w : World) : Calls Tryd.prog 59 #[.slice none 0 0] w fun e w' => e = .returned (.slice none 0 0) ∧ w = w' := by
  go_enter Tryd.func59, Tryd.ntmps59
  go_wp2
  go_loopw [6] (fun ii wr => ii = .int .i64 0 ∧ w = wr) (fun _ _ => 0)
  case atStart => exact ⟨rfl, rfl⟩
  case round =>
    obtain ⟨rfl, rfl⟩ := hrel
    go_wp2
    go_ret
    exact ⟨rfl, rfl⟩
theorem compactN_any (w : World) : Calls Tryd.prog 60 #[.slice none 0 0, alikeV] w fun e w' => e = .returned (.slice none 0 0) ∧ w = w' := by
  go_enter Tryd.func60, Tryd.ntmps60
  go_wp2
  go_ret
  exact ⟨rfl, rfl⟩

theorem newL_nil (w w' : World) : NewL w [] none 0 w' := ⟨lst_nil _ _, fun h => by cases h⟩
theorem uniqT_mem {l : List Tm} (h : Sorted l) {x : Tm} (hx : x ∈ uniqT l) : x ∈ l := (uniqG_rising l none h (fun q hq => by cases hq)).2.2.1 x hx
theorem unique_any (l : List Tm) (hlen : l.length ≤ 1000000) (hsz : ∀ t ∈ l, t.size ≤ 1000000 ∧ t.Short) (S : Nat → Prop) (a : Option Addr) (cap : Nat) (w : World) (hl0 : Lst w S l a cap) :
    Calls Tryd.prog 31 #[.slice a l.length cap] w fun e w' => (∃ a' cap', e = .returned (.slice a' (uniqT (sortT l)).length cap') ∧ NewL w (uniqT (sortT l)) a' cap' w') ∧ Up w w' := by
  have hl := Hid.mk (sorted_any l hlen S a cap w hl0)
  have hsz := Hid.mk hsz
  obtain ⟨L, hL⟩ : ∃ L, l.length = L := ⟨_, rfl⟩
  rw [hL] at hl hlen ⊢
  have hLh := Hid.mk hL
  have hSl := Hid.mk (sortT_length l)
  have hUl := Hid.mk (uniqT_length (sortT l))
  clear hl0 hL
  go_enter Tryd.func31, Tryd.ntmps31
  go_wp2_with (go_at_call 61; refine hl.out.mono ?_; rintro e w2 ⟨⟨a', cap', rfl, hr⟩, hu⟩; have hr := Hid.mk hr)
  rcases hr.out with ⟨h0, rfl, rfl⟩ | ⟨g, rfl, h0, hc1, hc2, hrw⟩
  · obtain rfl : L = 0 := by have := hLh.out; omega
    have hln : l = [] := List.eq_nil_of_length_eq_zero h0
    subst hln
    refine (compactN_any _).mono ?_
    rintro e w3 ⟨rfl, rfl⟩
    go_wp2_with (go_at_call 59; refine (detachN_any _).mono ?_; rintro e w4 ⟨rfl, rfl⟩)
    go_ret
    exact ⟨⟨none, 0, rfl, newL_nil _ _⟩, hu⟩
  · have hcm := compact_any w (fun b => S b ∧ b < w.heap.size) g cap' L (sortT l) (by rw [hSl.out, hLh.out]) (by have := hLh.out; omega) hc2 hlen _ hrw
    refine hcm.mono ?_
    rintro e w3 ⟨rfl, hrw3⟩
    have hd := Hid.mk (detachR_any w (fun b => S b ∧ b < w.heap.size) g cap' _ (uniqT (sortT l)) rfl (by have := hSl.out; have := hUl.out; have := hLh.out; omega) (by have := hSl.out; have := hUl.out; omega) hc2 (fun t ht => hsz.out t (sortT_mem.1 (uniqT_mem (sortT_sorted l) ht))) _ hrw3)
    go_wp2_with (go_at_call 59; refine hd.out.mono ?_; rintro e w4 ⟨rfl, hn, hu3⟩; have hn := Hid.mk hn)
    go_ret
    exact ⟨⟨some ⟨g, 0, none⟩, cap', rfl, hn.out⟩, hu3⟩

end Go.Proofs.YteklhipcojioaaaDoor
