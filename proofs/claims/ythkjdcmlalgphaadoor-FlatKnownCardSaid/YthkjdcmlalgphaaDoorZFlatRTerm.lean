/-
  The document's reader of flat words: term.
-/
import Derived.Test.YthkjdcmlalgphaaDoorZFlatRTake
namespace Go.Proofs.YthkjdcmlalgphaaDoor
open Go.RowKit Go.Deep

theorem headR_7 (xs : List Int) (i : Nat) : headR 7 xs i = (hdN xs i 10).map fun n => (1, 0, n.toNat) := by
  rw [headR, if_neg (by decide), hdN]
  cases xs[i]? with
  | none => rfl
  | some h =>
    simp only
    by_cases hk : Wd.unK h = 10
    · rw [if_pos (by simp [hk]), if_pos hk]; rfl
    · rw [if_neg (fun h => hk h.2), if_neg (by simp), if_neg hk]; rfl
theorem headR_5 (xs : List Int) (i : Nat) : headR 5 xs i = (hdN xs i 11).map fun n => (1, n / 128, (n % 128).toNat) := by
  rw [headR, if_neg (by decide), hdN]
  cases xs[i]? with
  | none => rfl
  | some h =>
    simp only
    by_cases hk : Wd.unK h = 11
    · rw [if_neg (by simp), if_pos (by simp [hk]), if_pos hk]; rfl
    · rw [if_neg (by simp), if_neg (fun h => hk h.2), if_neg hk]; rfl
theorem hdN_rng {xs : List Int} {i : Nat} {k n : Int} (h : hdN xs i k = some n) (hk : k = 10 ∨ k = 11) : i < xs.length ∧ 0 ≤ n ∧ n ≤ 137438953536 ∧ (k = 10 → n ≤ 64) := by
  rw [hdN] at h
  split at h
  · cases h
  · rename_i y hy
    obtain ⟨hlt, _⟩ := List.getElem?_eq_some_iff.1 hy
    split at h
    · rename_i hu
      cases h
      have h2 := unN_rng y k hu hk
      refine ⟨hlt, h2.1, h2.2, fun e => ?_⟩
      subst e
      have hub : Wd.unB y = true := by
        by_cases hub : Wd.unB y = true
        · exact hub
        · rw [Wd.unK, if_neg hub] at hu; omega
      have ho := (Wd.okB_iff _ _).1 hub
      rw [Wd.unK, if_pos hub] at hu
      rw [Wd.unN, if_pos hub]
      rw [hu, show Wd.hi 10 = 64 from rfl] at ho
      exact ho.2.2.2.1
    · cases h
theorem head_some {w0 w : World} {xb q lcap i : Nat} {la : Option Addr} {xs : List Int} (h : RfW w0 w xb q la xs.length lcap i false) (hx : Wrd w0 xs la lcap) (hne : ∀ b o, 0 < xs.length → la = some ⟨b, o, none⟩ → b ≠ xb) (hi : i ≤ xs.length) (hl : xs.length ≤ 100000) {k n : Int} (hk : k = 10 ∨ k = 11) (hn : hdN xs i k = some n) :
    Calls Tryd.prog 76 #[.pointer (some ⟨xb, 0, none⟩), .int .i64 k] w fun e w' => e = .returned (.int .i64 n) ∧ Only (fun k => k = xb) w w' ∧ RfW w0 w' xb q la xs.length lcap (i + 1) false :=
  (head_any h hx hne hi hl k hk).mono fun e w' ⟨h1, h2⟩ => by
    rcases h2 with ⟨n', h3, h4, h5⟩ | ⟨h3, _⟩
    · rw [hn] at h3
      cases h3
      exact ⟨h4, h1, h5⟩
    · rw [hn] at h3; cases h3
theorem head_none {w0 w : World} {xb q lcap i : Nat} {la : Option Addr} {xs : List Int} (h : RfW w0 w xb q la xs.length lcap i false) (hx : Wrd w0 xs la lcap) (hne : ∀ b o, 0 < xs.length → la = some ⟨b, o, none⟩ → b ≠ xb) (hi : i ≤ xs.length) (hl : xs.length ≤ 100000) {k : Int} (hk : k = 10 ∨ k = 11) (hn : hdN xs i k = none) :
    Calls Tryd.prog 76 #[.pointer (some ⟨xb, 0, none⟩), .int .i64 k] w fun e w' => e = .returned (.int .i64 0) ∧ Only (fun k => k = xb) w w' ∧ ∃ j, RfW w0 w' xb q la xs.length lcap j true :=
  (head_any h hx hne hi hl k hk).mono fun e w' ⟨h1, h2⟩ => by
    rcases h2 with ⟨n', h3, _⟩ | ⟨_, h4, h5⟩
    · rw [hn] at h3; cases h3
    · exact ⟨h4, h1, h5⟩
theorem oneR_bad {L : List ByteArray} {xs : List Int} {f i : Nat} {x : Int} (h : Wd.unB x = false ∨ Wd.kd x < 1 ∨ 9 < Wd.kd x ∨ (hasL (Wd.kd x) = true ∧ Wd.nm x ≠ i)) : oneR L xs (f + 1) x i = none := by
  rw [oneR]
  by_cases hu : Wd.unB x = false
  · rw [if_pos hu]
  · rw [if_neg hu]
    rcases h with h | h | h | h
    · exact absurd h hu
    · have hl : hasL (Wd.kd x) = false := by simp [hasL]; omega
      rw [if_pos hl, plainR, if_neg (by omega), if_neg (by omega)]
      rfl
    · have hl : hasL (Wd.kd x) = false := by simp [hasL]; omega
      rw [if_pos hl, plainR, if_neg (by omega), if_neg (by omega)]
      rfl
    · rw [if_neg (by rw [h.1]; simp), if_pos h.2]
theorem oneR_boxed {L : List ByteArray} {xs : List Int} {f i : Nat} {x : Int} (hu : Wd.unB x = true) (hl : hasL (Wd.kd x) = true) (hn : Wd.nm x = i) : oneR L xs (f + 1) x i = match headR (Wd.kd x) xs i with
    | none => none
    | some (h, n, m) => mkO (Wd.kd x) n (someR (oneR L xs f) xs m (i + h)) := by
  rw [oneR, if_neg (by rw [hu]; simp), if_neg (by rw [hl]; simp), if_neg (by simpa using hn)]
  cases headR (Wd.kd x) xs i with
  | none => rfl
  | some z => rfl

set_option maxHeartbeats 8000000 in
set_option maxRecDepth 100000 in
theorem term_any {w0 : World} {q : Nat} {vq : Value} {L : List ByteArray} {xs : List Int} {la : Option Addr} {lcap xb : Nat} (hC : RfCtx w0 q vq L xs la lcap xb) : ∀ f, TermC w0 q L xs la lcap xb f := by
  intro f
  induction f with
  | zero => intro w i x _ hi _ _ hfu; omega
  | succ f ih =>
    intro w i x hw hi hx0 hx1 hfu
    have hparts := Hid.mk (parts_good hC f ih)
    clear ih
    have HC := Hid.mk hC
    have hfew := hC.few
    obtain ⟨W0, hW0⟩ : ∃ W0, w.alloc (.cells #[.int .i64 0, .int .i64 0, .string ⟨#[]⟩, .slice none 0 0] 25) = W0 := ⟨_, rfl⟩
    have hb0 : Below w.heap.size w W0 := by rw [← hW0]; exact (Below.refl _ _).alloc (Nat.le_refl _) _
    have hz0 : W0.heap.size = w.heap.size + 1 := by rw [← hW0]; simp
    have hbx : W0.heap[w.heap.size]? = some (.cells #[.int .i64 0, .int .i64 0, .string ⟨#[]⟩, .slice none 0 0] 25) := by rw [← hW0]; exact new_block _ _
    have hwz := hw.only.size
    have hlta := hC.lt
    have h0 := hw.up hb0
    have hun := refunpack_any x W0 hx0 hx1
    have hbox := Hid.mk (refboxed_any x W0 hx0)
    have HW := Hid.mk hw
    have H0 := Hid.mk h0
    have HB0 := Hid.mk hb0
    have HBX := Hid.mk hbx
    have HZ0 := Hid.mk hz0
    have HI := Hid.mk (show i ≤ xs.length ∧ xs.length ≤ 100000 ∧ xs.length < f + 1 + i ∧ xb < w.heap.size from ⟨hi, hfew, hfu, by omega⟩)
    obtain ⟨⟨t0, t1, t2, t3⟩, f0, f1, f2, f3⟩ := kept4 hbx (Below.refl _ _)
    obtain ⟨⟨x0, x1, x2, x3⟩, g2, g3⟩ := h0.cells
    have HWo := Hid.mk h0.worse
    have nxr : xb ≠ w.heap.size := by omega
    have nrx : w.heap.size ≠ xb := by omega
    clear hw h0 hb0 hbx hz0 hwz hlta hi hfew hfu hx0 hx1 hC
    cases hub : Wd.unB x with
    | false =>
      have e1 : oneR L xs (f + 1) x i = none := oneR_bad (Or.inl hub)
      rw [e1]
      have k1 : Wd.unK x = 0 := by rw [Wd.unK, hub]; rfl
      have k2 : Wd.unN x = 0 := by rw [Wd.unN, hub]; rfl
      have k3 : Wd.unE x = 4 := by rw [Wd.unE, hub]; rfl
      rw [k1, k2, k3] at hun
      have hun := Hid.mk hun
      clear e1 k1 k2 k3 hub
      go_enter Tryd.func50, Tryd.ntmps50
      go_upto_region 1 with fail
      try rw [hW0]
      clear hW0
      go_wp2_with (first
        | (go_at_call 74; refine hun.out.mono ?_; rintro e w1 ⟨rfl, rfl⟩)
        | (go_at_call 75; refine hbox.out.mono ?_; rintro e w2 ⟨rfl, rfl⟩))
      refine ret_stored rfl rfl rfl ((World.cell?_setCell_other _ _ _ _ (by simp <;> omega)).trans t0) ((World.cell?_setCell_other _ _ _ _ (by simp <;> omega)).trans t1) ((World.cell?_setCell_other _ _ _ _ (by simp <;> omega)).trans t2) ((World.cell?_setCell_other _ _ _ _ (by simp <;> omega)).trans t3) ⟨_, _, _, _, _, _, rfl, (Only.put (S := fun k => k = xb) (p := xb) (Only.up HB0.out) rfl _ _).new4 (Nat.le_refl _) _ _ _ _, Or.inl ⟨by first | rfl | trivial, i, ?_⟩⟩
      exact ⟨(HW.out.only.trans ((Only.put (S := fun k => k = xb) (p := xb) (Only.up HB0.out) rfl 3 (.bool true)).new4 (Nat.le_refl _) _ _ _ _) (fun k hk => Or.inl hk)), (set4_heap _ _ _ _ _ _ _ nxr).trans HWo.out.box⟩
    | true =>
      have hok := (Wd.okB_iff _ _).1 hub
      have k1 : Wd.unK x = Wd.kd x := by rw [Wd.unK, hub]; rfl
      have k2 : Wd.unN x = Wd.nm x := by rw [Wd.unN, hub]; rfl
      have k3 : Wd.unE x = 0 := by rw [Wd.unE, hub]; rfl
      have hbd := Wd.nm_bd x
      rw [k1, k2, k3] at hun
      have hun := Hid.mk hun
      have hbi := boxedB_is x
      have HLO := Hid.mk (fun e : Wd.kd x = 2 => (by rw [e] at hok; rw [show Wd.lo 2 = 0 from rfl] at hok; exact hok.2.2.1 : 0 ≤ Wd.nm x))
      have HN := Hid.mk hbd
      have hK0 : 0 ≤ Wd.kd x := hok.1
      have hK1 : Wd.kd x < 12 := hok.2.1
      clear k1 k2 k3 hbd hok
      by_cases hk1 : Wd.kd x < 1
      · rw [oneR_bad (Or.inr (Or.inl hk1))]
        generalize Wd.kd x = K at *
        have hK : K = 0 := by omega
        subst hK
        rw [hbi] at hbox
        clear hub hbi hk1
        go_enter Tryd.func50, Tryd.ntmps50
        go_upto_region 1 with fail
        try rw [hW0]
        clear hW0
        go_wp2_with (first
          | (go_at_call 74; refine hun.out.mono ?_; rintro e w1 ⟨rfl, rfl⟩)
          | (go_at_call 75; refine hbox.out.mono ?_; rintro e w2 ⟨rfl, rfl⟩))
        refine ret_stored rfl rfl rfl ((World.cell?_setCell_other _ _ _ _ (by simp <;> omega)).trans t0) ((World.cell?_setCell_other _ _ _ _ (by simp <;> omega)).trans t1) ((World.cell?_setCell_other _ _ _ _ (by simp <;> omega)).trans t2) ((World.cell?_setCell_other _ _ _ _ (by simp <;> omega)).trans t3) ⟨_, _, _, _, _, _, rfl, (Only.put (S := fun k => k = xb) (p := xb) (Only.up HB0.out) rfl _ _).new4 (Nat.le_refl _) _ _ _ _, Or.inl ⟨by first | rfl | trivial, i, ?_⟩⟩
        exact ⟨(HW.out.only.trans ((Only.put (S := fun k => k = xb) (p := xb) (Only.up HB0.out) rfl 3 (.bool true)).new4 (Nat.le_refl _) _ _ _ _) (fun k hk => Or.inl hk)), (set4_heap _ _ _ _ _ _ _ nxr).trans HWo.out.box⟩
      · by_cases hk9 : 9 < Wd.kd x
        · rw [oneR_bad (Or.inr (Or.inr (Or.inl hk9)))]
          rw [hbi] at hbox
          generalize Wd.kd x = K at *
          have d1 : decide (K < 1) = false := by rw [decide_eq_false_iff_not]; omega
          have d2 : decide (9 < K) = true := by rw [decide_eq_true_eq]; omega
          have d3 : ¬ K < 1 := by omega
          clear hub hbi hk1
          go_enter Tryd.func50, Tryd.ntmps50
          go_upto_region 1 with fail
          try rw [hW0]
          clear hW0
          go_wp2_with (first
            | (go_at_call 74; refine hun.out.mono ?_; rintro e w1 ⟨rfl, rfl⟩)
            | (go_at_call 75; refine hbox.out.mono ?_; rintro e w2 ⟨rfl, rfl⟩))
          refine ret_stored rfl rfl rfl ((World.cell?_setCell_other _ _ _ _ (by simp <;> omega)).trans t0) ((World.cell?_setCell_other _ _ _ _ (by simp <;> omega)).trans t1) ((World.cell?_setCell_other _ _ _ _ (by simp <;> omega)).trans t2) ((World.cell?_setCell_other _ _ _ _ (by simp <;> omega)).trans t3) ⟨_, _, _, _, _, _, rfl, (Only.put (S := fun k => k = xb) (p := xb) (Only.up HB0.out) rfl _ _).new4 (Nat.le_refl _) _ _ _ _, Or.inl ⟨by first | rfl | trivial, i, ?_⟩⟩
          exact ⟨(HW.out.only.trans ((Only.put (S := fun k => k = xb) (p := xb) (Only.up HB0.out) rfl 3 (.bool true)).new4 (Nat.le_refl _) _ _ _ _) (fun k hk => Or.inl hk)), (set4_heap _ _ _ _ _ _ _ nxr).trans HWo.out.box⟩
        · have d1 : ¬ Wd.kd x < 1 := by omega
          have d2 : ¬ 9 < Wd.kd x := by omega
          cases hl : hasL (Wd.kd x) with
          | true =>
            rw [hbi, hl] at hbox
            by_cases hni : Wd.nm x = i
            · rw [oneR_boxed hub hl hni]
              have hK : Wd.kd x = 7 ∨ Wd.kd x = 5 ∨ Wd.kd x = 9 := by
                simp only [hasL, decide_eq_true_eq] at hl
                omega
              rw [hni] at hun
              generalize Wd.kd x = K at *
              clear hub hbi hni HLO HN
              obtain ⟨W1, hW1⟩ : ∃ W1, W0.alloc (.cells #[.int .i64 K, .int .i64 0, .string ⟨#[]⟩, .slice none 0 0] 25) = W1 := ⟨_, rfl⟩
              obtain ⟨tb, htb⟩ : ∃ tb, W0.heap.size = tb := ⟨_, rfl⟩
              have hb1 : Below W0.heap.size W0 W1 := by rw [← hW1]; exact (Below.refl _ _).alloc (Nat.le_refl _) _
              have hx1 : W1.heap[tb]? = some (.cells #[.int .i64 K, .int .i64 0, .string ⟨#[]⟩, .slice none 0 0] 25) := by rw [← hW1, ← htb]; exact new_block _ _
              have h1 := H0.out.up hb1
              have hz1 : tb = w.heap.size + 1 := by rw [← htb, HZ0.out]
              have hir := HI.out
              have htx : tb ≠ xb := by omega
              have htr : tb ≠ w.heap.size := by omega
              have hrb1 := (hb1.block _ (Array.getElem?_eq_some_iff.1 HBX.out).1).trans HBX.out
              have H1 := Hid.mk h1
              have HX1 := Hid.mk hx1
              have HRB1 := Hid.mk hrb1
              have ho1 : Only (fun k => k = xb) w W1 := (Only.up HB0.out).call hb1
              have HO1 := Hid.mk ho1
              have HZ1 := Hid.mk hz1
              have hwz := HW.out.only.size
              have HWZ := Hid.mk hwz
              have hmvR : ∀ (w' : World) (v : Value) (j : Nat) (b : Bool) (o : Nat), RfW w0 w' xb q la xs.length lcap j b → RfW w0 (w'.setCell ⟨tb, o, none⟩ v) xb q la xs.length lcap j b := fun w' v j b o h =>
                ⟨h.only.trans (S' := fun k => k = tb) (Only.set _ _ rfl) (fun k hk => Or.inr (by omega)), (Below.heap_setCell _ _ _ _ (fun e => htx e.symm)).trans h.box⟩
              have HMV := Hid.mk hmvR
              clear hb1 hx1 h1 hrb1 ho1 hz1 hwz hmvR
              rcases hK with rfl | rfl | rfl
              · have hpack : ∃ (R : Option (List Tm × Nat)) (HN : Nat) (TN : Nat) (PH PT : World → Prop), (match headR 7 xs i with
                      | none => none
                      | some (h, n, m) => mkO 7 n (someR (oneR L xs f) xs m (i + h))) = mkO 7 0 R ∧
                    (Calls Tryd.prog 76 #[.pointer (some ⟨xb, 0, none⟩), .int .i64 10] W1 fun e w' => e = .returned (.int .i64 HN) ∧ Only (fun k => k = xb) W1 w' ∧ PH w') ∧
                    (∀ w', PH w' → Calls Tryd.prog 77 #[.pointer (some ⟨xb, 0, none⟩), .int .i64 HN] w' fun e w2 => e = .returned (.int .i64 TN) ∧ Only (fun k => k = xb) w' w2 ∧ PT w2) ∧
                    (∀ w', PT w' → Calls Tryd.prog 78 #[.pointer (some ⟨xb, 0, none⟩), .int .i64 TN, .int .i64 HN] w' fun e w2 => ∃ a n c, e = .returned (.slice a n c) ∧ Only (fun k => k = xb) w' w2 ∧
                      ((R = none ∧ ∃ j, RfW w0 w2 xb q la xs.length lcap j true) ∨ ∃ ts j, R = some (ts, j) ∧ j ≤ xs.length ∧ RfW w0 w2 xb q la xs.length lcap j false ∧ n = ts.length ∧ Lst w2 (fun b => w'.heap.size ≤ b) ts a c)) := by
                  cases hd : hdN xs i 10 with
                  | none =>
                    refine ⟨none, 0, 0, fun w' => ∃ j, RfW w0 w' xb q la xs.length lcap j true, fun w' => ∃ j, RfW w0 w' xb q la xs.length lcap j true, by rw [headR_7, hd]; rfl, head_none H1.out HC.out.wrd HC.out.nw hir.1 hir.2.1 (Or.inl rfl) hd, fun w' ⟨j, hj⟩ => (take_bad hj _).mono fun e w2 ⟨a, b, c⟩ => ⟨a, c, j, b⟩, fun w' ⟨j, hj⟩ => (parts_bad hj _ _).mono fun e w2 ⟨a, b⟩ => ⟨none, 0, 0, a, by rw [← b]; exact Only.refl _ _, Or.inl ⟨rfl, j, by rw [← b]; exact hj⟩⟩⟩
                  | some n =>
                    obtain ⟨r1, r2, r3, r4⟩ := hdN_rng hd (Or.inl rfl)
                    obtain ⟨m, rfl⟩ := Int.eq_ofNat_of_zero_le r2
                    have r5 := r4 rfl
                    have e1 : (match headR 7 xs i with
                      | none => none
                      | some (h, n, m) => mkO 7 n (someR (oneR L xs f) xs m (i + h))) = mkO 7 0 (someR (oneR L xs f) xs m (i + 1)) := by rw [headR_7, hd]; rfl
                    by_cases hlen : xs.length < i + 1 + m
                    · refine ⟨none, m, 0, fun w' => RfW w0 w' xb q la xs.length lcap (i + 1) false, fun w' => ∃ j, RfW w0 w' xb q la xs.length lcap j true, by rw [e1, someR, if_pos hlen], head_some H1.out HC.out.wrd HC.out.nw hir.1 hir.2.1 (Or.inl rfl) hd, fun w' hj => (take_no hj m (by omega) (by omega) (by omega) hir.2.1).mono fun e w2 ⟨a, b, c⟩ => ⟨a, c, _, b⟩, fun w' ⟨j, hj⟩ => (parts_bad hj _ _).mono fun e w2 ⟨a, b⟩ => ⟨none, 0, 0, a, by rw [← b]; exact Only.refl _ _, Or.inl ⟨rfl, j, by rw [← b]; exact hj⟩⟩⟩
                    · refine ⟨goes (oneR L xs f) ((xs.drop (i + 1)).take m) (i + 1 + m), m, i + 1, fun w' => RfW w0 w' xb q la xs.length lcap (i + 1) false, fun w' => RfW w0 w' xb q la xs.length lcap (i + 1 + m) false, by rw [e1, someR, if_neg hlen], head_some H1.out HC.out.wrd HC.out.nw hir.1 hir.2.1 (Or.inl rfl) hd, fun w' hj => (take_yes hj m (by omega) hir.2.1).mono fun e w2 ⟨a, b, c⟩ => ⟨a, c, b⟩, fun w' hj => hparts.out w' (i + 1 + m) (i + 1) m hj (by omega) (by omega) (Or.inr (by omega))⟩
                obtain ⟨R, HN, TN, PH, PT, hexp, hhead, htake, hprt⟩ := hpack
                rw [hexp]
                have HHead := Hid.mk hhead
                have HTake := Hid.mk htake
                have HPrt := Hid.mk hprt
                clear hexp hhead htake hprt hir hl
                have HTB := Hid.mk htb
                have HWE := Hid.mk hW1
                clear htb hW1
                go_enter Tryd.func50, Tryd.ntmps50
                go_upto_region 1 with fail
                try rw [hW0]
                clear hW0
                go_upto_region 9 with (first
                  | (go_at_call 74; refine hun.out.mono ?_; rintro e w1 ⟨rfl, rfl⟩)
                  | (go_at_call 75; refine hbox.out.mono ?_; rintro e w2 ⟨rfl, rfl⟩))
                rw [HWE.out, HTB.out]
                go_wp2_with (first
                  | (go_at_call 76; refine HHead.out.mono ?_; rintro e w3 ⟨rfl, ho3, hp3⟩; have HO3 := Hid.mk ho3; have HP3 := Hid.mk hp3; clear ho3 hp3)
                  | (go_at_call 77; refine (HTake.out _ HP3.out).mono ?_; rintro e w4 ⟨rfl, ho4, hp4⟩; have HO4 := Hid.mk ho4; have HP4 := Hid.mk hp4; clear ho4 hp4)
                  | (go_at_call 78; refine (HPrt.out _ HP4.out).mono ?_; rintro e w5 ⟨a5, n5, c5, rfl, ho5, hp5⟩
                     have ho15 := (HO3.out.trans HO4.out (fun k hk => Or.inl hk)).trans ho5 (fun k hk => Or.inl hk)
                     have hx5 := ho15.box HX1.out htx
                     have hr5 := ho15.box HRB1.out nrx
                     obtain ⟨⟨y0, y1, y2, y3⟩, z0, z1, z2, z3⟩ := kept4 hx5 (Below.refl _ _)
                     obtain ⟨W6, hW6⟩ : ∃ W6, w5.setCell ⟨tb, 3, none⟩ (.slice a5 n5 c5) = W6 := ⟨_, rfl⟩
                     have hx6 : W6.heap[tb]? = some (.cells #[.int .i64 7, .int .i64 0, .string ⟨#[]⟩, .slice a5 n5 c5] 25) := (by rw [← hW6]; simp [World.setCell, Array.getElem?_modify, hx5])
                     have hr6 : W6.heap[w.heap.size]? = some (.cells #[.int .i64 0, .int .i64 0, .string ⟨#[]⟩, .slice none 0 0] 25) := (by rw [← hW6, Below.heap_setCell _ _ _ _ (fun e => htr e.symm)]; exact hr5)
                     obtain ⟨⟨u0, u1, u2, u3⟩, _⟩ := kept4 hx6 (Below.refl _ _)
                     obtain ⟨⟨q0, q1, q2, q3⟩, r0, r1, r2, r3⟩ := kept4 hr6 (Below.refl _ _)
                     have ho6 : Only (fun k => k = xb) w W6 := (by rw [← hW6]; exact (HO1.out.trans ho15 (fun k hk => Or.inl hk)).trans (S' := fun k => k = tb) (Only.set _ _ rfl) (fun k hk => Or.inr (by have := HZ1.out; omega)))
                     have hp6 : (R = none ∧ ∃ j, RfW w0 W6 xb q la xs.length lcap j true) ∨ ∃ ts j, R = some (ts, j) ∧ j ≤ xs.length ∧ RfW w0 W6 xb q la xs.length lcap j false ∧ n5 = ts.length ∧ Lst W6 (fun b => tb < b) ts a5 c5 := (by
                       rw [← hW6]
                       rcases hp5 with ⟨a, j, b⟩ | ⟨ts, j, a, b, c, d, e⟩
                       · exact Or.inl ⟨a, j, HMV.out _ _ _ _ _ b⟩
                       · refine Or.inr ⟨ts, j, a, b, HMV.out _ _ _ _ _ c, d, ?_⟩
                         have htl : tb < w4.heap.size := Nat.lt_of_lt_of_le (Array.getElem?_eq_some_iff.1 HX1.out).1 (Nat.le_trans HO3.out.size HO4.out.size)
                         exact e.move (fun b hb => by omega) (fun b o u hb hc => by
                           rw [World.cell?_setCell_other _ _ _ _ (by simp <;> omega)]
                           exact hc))
                     have HO6 := Hid.mk ho6
                     have HP6 := Hid.mk hp6
                     clear ho15 hx5 hr5 hx6 hr6 ho6 hp6 ho5 hp5))
                refine ret_stored rfl rfl rfl q0 q1 q2 q3 ⟨_, _, _, _, _, _, rfl, HO6.out.new4 (Nat.le_refl _) _ _ _ _, ?_⟩
                have hmv6 : ∀ jj bb v0 v1 v2 v3, RfW w0 W6 xb q la xs.length lcap jj bb → RfW w0 ((((W6.setCell ⟨w.heap.size, 0, none⟩ v0).setCell ⟨w.heap.size, 1, none⟩ v1).setCell ⟨w.heap.size, 2, none⟩ v2).setCell ⟨w.heap.size, 3, none⟩ v3) xb q la xs.length lcap jj bb := fun jj bb v0 v1 v2 v3 h =>
                  ⟨HW.out.only.trans (HO6.out.new4 (Nat.le_refl _) _ _ _ _) (fun k hk => Or.inl hk), (set4_heap _ _ _ _ _ _ _ nxr).trans h.box⟩
                rcases HP6.out with ⟨rfl, j, hb⟩ | ⟨ts, j, rfl, hj, hg, rfl, hlst⟩
                · exact Or.inl ⟨rfl, j, hmv6 _ _ _ _ _ _ hb⟩
                · refine Or.inr ⟨_, j, rfl, hj, hmv6 _ _ _ _ _ _ hg, Lies.mk (l := ts) ⟨by decide, by decide, by decide, by decide, by decide⟩ ?_⟩
                  have hz1 := HZ1.out
                  exact hlst.move (fun b hb => by omega) (fun b o u hb hc => by
                    rw [World.cell?_of_block (w := W6) (a := ⟨b, o, none⟩) (set4_heap _ _ _ _ _ _ _ (by show b ≠ w.heap.size; omega))]
                    exact hc)
              · have hpack : ∃ (R : Option (List Tm × Nat)) (HN ND NM : Nat) (TN : Nat) (PH PT : World → Prop), (match headR 5 xs i with
                      | none => none
                      | some (h, n, m) => mkO 5 n (someR (oneR L xs f) xs m (i + h))) = mkO 5 ND R ∧ HN / 128 = ND ∧ HN % 128 = NM ∧ ND ≤ 1073741824 ∧
                    (Calls Tryd.prog 76 #[.pointer (some ⟨xb, 0, none⟩), .int .i64 11] W1 fun e w' => e = .returned (.int .i64 HN) ∧ Only (fun k => k = xb) W1 w' ∧ PH w') ∧
                    (∀ w' v, PH w' → PH (w'.setCell ⟨tb, 1, none⟩ v)) ∧
                    (∀ w', PH w' → Calls Tryd.prog 77 #[.pointer (some ⟨xb, 0, none⟩), .int .i64 NM] w' fun e w2 => e = .returned (.int .i64 TN) ∧ Only (fun k => k = xb) w' w2 ∧ PT w2) ∧
                    (∀ w', PT w' → Calls Tryd.prog 78 #[.pointer (some ⟨xb, 0, none⟩), .int .i64 TN, .int .i64 NM] w' fun e w2 => ∃ a n c, e = .returned (.slice a n c) ∧ Only (fun k => k = xb) w' w2 ∧
                      ((R = none ∧ ∃ j, RfW w0 w2 xb q la xs.length lcap j true) ∨ ∃ ts j, R = some (ts, j) ∧ j ≤ xs.length ∧ RfW w0 w2 xb q la xs.length lcap j false ∧ n = ts.length ∧ Lst w2 (fun b => w'.heap.size ≤ b) ts a c)) := by
                  cases hd : hdN xs i 11 with
                  | none =>
                    refine ⟨none, 0, 0, 0, 0, fun w' => ∃ j, RfW w0 w' xb q la xs.length lcap j true, fun w' => ∃ j, RfW w0 w' xb q la xs.length lcap j true, by rw [headR_5, hd]; rfl, rfl, rfl, by decide, head_none H1.out HC.out.wrd HC.out.nw hir.1 hir.2.1 (Or.inr rfl) hd, fun w' v ⟨j, hj⟩ => ⟨j, HMV.out _ _ _ _ _ hj⟩, fun w' ⟨j, hj⟩ => (take_bad hj _).mono fun e w2 ⟨a, b, c⟩ => ⟨a, c, j, b⟩, fun w' ⟨j, hj⟩ => (parts_bad hj _ _).mono fun e w2 ⟨a, b⟩ => ⟨none, 0, 0, a, by rw [← b]; exact Only.refl _ _, Or.inl ⟨rfl, j, by rw [← b]; exact hj⟩⟩⟩
                  | some n =>
                    obtain ⟨r1, r2, r3, r4⟩ := hdN_rng hd (Or.inr rfl)
                    obtain ⟨m, rfl⟩ := Int.eq_ofNat_of_zero_le r2
                    have e1 : (match headR 5 xs i with
                      | none => none
                      | some (h, n, m) => mkO 5 n (someR (oneR L xs f) xs m (i + h))) = mkO 5 ((m / 128 : Nat) : Int) (someR (oneR L xs f) xs (m % 128) (i + 1)) := by
                      rw [headR_5, hd]
                      have e2 : (((m : Int) % 128).toNat : Nat) = m % 128 := by omega
                      simp only [Option.map_some, e2]
                      rfl
                    by_cases hlen : xs.length < i + 1 + m % 128
                    · refine ⟨none, m, m / 128, m % 128, 0, fun w' => RfW w0 w' xb q la xs.length lcap (i + 1) false, fun w' => ∃ j, RfW w0 w' xb q la xs.length lcap j true, by rw [e1, someR, if_pos hlen], rfl, rfl, by omega, head_some H1.out HC.out.wrd HC.out.nw hir.1 hir.2.1 (Or.inr rfl) hd, fun w' v hj => HMV.out _ _ _ _ _ hj, fun w' hj => (take_no hj (m % 128) (by omega) (by omega) (by omega) hir.2.1).mono fun e w2 ⟨a, b, c⟩ => ⟨a, c, _, b⟩, fun w' ⟨j, hj⟩ => (parts_bad hj _ _).mono fun e w2 ⟨a, b⟩ => ⟨none, 0, 0, a, by rw [← b]; exact Only.refl _ _, Or.inl ⟨rfl, j, by rw [← b]; exact hj⟩⟩⟩
                    · refine ⟨goes (oneR L xs f) ((xs.drop (i + 1)).take (m % 128)) (i + 1 + m % 128), m, m / 128, m % 128, i + 1, fun w' => RfW w0 w' xb q la xs.length lcap (i + 1) false, fun w' => RfW w0 w' xb q la xs.length lcap (i + 1 + m % 128) false, by rw [e1, someR, if_neg hlen], rfl, rfl, by omega, head_some H1.out HC.out.wrd HC.out.nw hir.1 hir.2.1 (Or.inr rfl) hd, fun w' v hj => HMV.out _ _ _ _ _ hj, fun w' hj => (take_yes hj (m % 128) (by omega) hir.2.1).mono fun e w2 ⟨a, b, c⟩ => ⟨a, c, b⟩, fun w' hj => hparts.out w' (i + 1 + m % 128) (i + 1) (m % 128) hj (by omega) (by omega) (Or.inr (by omega))⟩
                obtain ⟨R, HN, ND, NM, TN, PH, PT, hexp, hdv, hmd, hnd, hhead, hpmv, htake, hprt⟩ := hpack
                rw [hexp]
                have HHead := Hid.mk hhead
                have HPM := Hid.mk hpmv
                have HTake := Hid.mk htake
                have HPrt := Hid.mk hprt
                have HND := Hid.mk hnd
                have e3 : (HN : Int).tdiv 128 = ND := by rw [Int.tdiv_eq_ediv_of_nonneg (by omega)]; omega
                have e4 : (HN : Int).tmod 128 = NM := by rw [Int.tmod_eq_emod_of_nonneg (by omega)]; omega
                have e5 : IntKind.i64.wrap (ND : Int) = ND := wrap_id (by omega) (by omega)
                have e6 : IntKind.i64.wrap (NM : Int) = NM := wrap_id (by omega) (by omega)
                clear hexp hhead htake hprt hir hl hdv hmd hnd hpmv
                have HTB := Hid.mk htb
                have HWE := Hid.mk hW1
                clear htb hW1
                go_enter Tryd.func50, Tryd.ntmps50
                go_upto_region 1 with fail
                try rw [hW0]
                clear hW0
                go_upto_region 9 with (first
                  | (go_at_call 74; refine hun.out.mono ?_; rintro e w1 ⟨rfl, rfl⟩)
                  | (go_at_call 75; refine hbox.out.mono ?_; rintro e w2 ⟨rfl, rfl⟩))
                rw [HWE.out, HTB.out]
                go_wp2_with (first
                  | (go_at_call 76; refine HHead.out.mono ?_; rintro e w3 ⟨rfl, ho3, hp3⟩
                     have hx3 := ho3.box HX1.out htx
                     have hr3 := ho3.box HRB1.out nrx
                     obtain ⟨⟨b0, b1, b2, b3⟩, d0, d1, d2, d3⟩ := kept4 hx3 (Below.refl _ _)
                     obtain ⟨W3, hW3⟩ : ∃ W3, w3.setCell ⟨tb, 1, none⟩ (.int .i64 ND) = W3 := ⟨_, rfl⟩
                     have hx4 : W3.heap[tb]? = some (.cells #[.int .i64 5, .int .i64 ND, .string ⟨#[]⟩, .slice none 0 0] 25) := (by rw [← hW3]; simp [World.setCell, Array.getElem?_modify, hx3])
                     have hr4 : W3.heap[w.heap.size]? = some (.cells #[.int .i64 0, .int .i64 0, .string ⟨#[]⟩, .slice none 0 0] 25) := (by rw [← hW3, Below.heap_setCell _ _ _ _ (fun e => htr e.symm)]; exact hr3)
                     have HX3 := Hid.mk hx4
                     have HR3 := Hid.mk hr4
                     have hp33 : PH W3 := (by rw [← hW3]; exact HPM.out _ _ hp3)
                     have HP3 := Hid.mk hp33
                     have ho33 : Only (fun k => k = xb) w W3 := (by rw [← hW3]; exact (HO1.out.trans ho3 (fun k hk => Or.inl hk)).trans (S' := fun k => k = tb) (Only.set _ _ rfl) (fun k hk => Or.inr (by have := HZ1.out; omega)))
                     have HO3 := Hid.mk ho33
                     clear ho3 hp3 hx3 hr3 hx4 hr4 hp33 ho33)
                  | (go_at_call 77; refine (HTake.out _ HP3.out).mono ?_; rintro e w4 ⟨rfl, ho4, hp4⟩; have HO4 := Hid.mk ho4; have HP4 := Hid.mk hp4; clear ho4 hp4)
                  | (go_at_call 78; refine (HPrt.out _ HP4.out).mono ?_; rintro e w5 ⟨a5, n5, c5, rfl, ho5, hp5⟩
                     have ho15 := HO4.out.trans ho5 (fun k hk => Or.inl hk)
                     have hx5 := ho15.box HX3.out htx
                     have hr5 := ho15.box HR3.out nrx
                     obtain ⟨⟨y0, y1, y2, y3⟩, z0, z1, z2, z3⟩ := kept4 hx5 (Below.refl _ _)
                     obtain ⟨W6, hW6⟩ : ∃ W6, w5.setCell ⟨tb, 3, none⟩ (.slice a5 n5 c5) = W6 := ⟨_, rfl⟩
                     have hx6 : W6.heap[tb]? = some (.cells #[.int .i64 5, .int .i64 ND, .string ⟨#[]⟩, .slice a5 n5 c5] 25) := (by rw [← hW6]; simp [World.setCell, Array.getElem?_modify, hx5])
                     have hr6 : W6.heap[w.heap.size]? = some (.cells #[.int .i64 0, .int .i64 0, .string ⟨#[]⟩, .slice none 0 0] 25) := (by rw [← hW6, Below.heap_setCell _ _ _ _ (fun e => htr e.symm)]; exact hr5)
                     obtain ⟨⟨u0, u1, u2, u3⟩, _⟩ := kept4 hx6 (Below.refl _ _)
                     obtain ⟨⟨q0, q1, q2, q3⟩, r0, r1, r2, r3⟩ := kept4 hr6 (Below.refl _ _)
                     have ho6 : Only (fun k => k = xb) w W6 := (by rw [← hW6]; exact (HO3.out.trans ho15 (fun k hk => Or.inl hk)).trans (S' := fun k => k = tb) (Only.set _ _ rfl) (fun k hk => Or.inr (by have := HZ1.out; omega)))
                     have hp6 : (R = none ∧ ∃ j, RfW w0 W6 xb q la xs.length lcap j true) ∨ ∃ ts j, R = some (ts, j) ∧ j ≤ xs.length ∧ RfW w0 W6 xb q la xs.length lcap j false ∧ n5 = ts.length ∧ Lst W6 (fun b => tb < b) ts a5 c5 := (by
                       rw [← hW6]
                       rcases hp5 with ⟨a, j, b⟩ | ⟨ts, j, a, b, c, d, e⟩
                       · exact Or.inl ⟨a, j, HMV.out _ _ _ _ _ b⟩
                       · refine Or.inr ⟨ts, j, a, b, HMV.out _ _ _ _ _ c, d, ?_⟩
                         have htl : tb < w4.heap.size := Nat.lt_of_lt_of_le (Array.getElem?_eq_some_iff.1 HX3.out).1 HO4.out.size
                         exact e.move (fun b hb => by omega) (fun b o u hb hc => by
                           rw [World.cell?_setCell_other _ _ _ _ (by simp <;> omega)]
                           exact hc))
                     have HO6 := Hid.mk ho6
                     have HP6 := Hid.mk hp6
                     clear ho15 hx5 hr5 hx6 hr6 ho6 hp6 ho5 hp5))
                refine ret_stored rfl rfl rfl q0 q1 q2 q3 ⟨_, _, _, _, _, _, rfl, HO6.out.new4 (Nat.le_refl _) _ _ _ _, ?_⟩
                have hmv6 : ∀ jj bb v0 v1 v2 v3, RfW w0 W6 xb q la xs.length lcap jj bb → RfW w0 ((((W6.setCell ⟨w.heap.size, 0, none⟩ v0).setCell ⟨w.heap.size, 1, none⟩ v1).setCell ⟨w.heap.size, 2, none⟩ v2).setCell ⟨w.heap.size, 3, none⟩ v3) xb q la xs.length lcap jj bb := fun jj bb v0 v1 v2 v3 h =>
                  ⟨HW.out.only.trans (HO6.out.new4 (Nat.le_refl _) _ _ _ _) (fun k hk => Or.inl hk), (set4_heap _ _ _ _ _ _ _ nxr).trans h.box⟩
                rcases HP6.out with ⟨rfl, j, hb⟩ | ⟨ts, j, rfl, hj, hg, rfl, hlst⟩
                · exact Or.inl ⟨rfl, j, hmv6 _ _ _ _ _ _ hb⟩
                · refine Or.inr ⟨_, j, rfl, hj, hmv6 _ _ _ _ _ _ hg, Lies.mk (l := ts) ⟨by decide, by decide, by omega, by have := HND.out; omega, by decide⟩ ?_⟩
                  have hz1 := HZ1.out
                  exact hlst.move (fun b hb => by omega) (fun b o u hb hc => by
                    rw [World.cell?_of_block (w := W6) (a := ⟨b, o, none⟩) (set4_heap _ _ _ _ _ _ _ (by show b ≠ w.heap.size; omega))]
                    exact hc)
              · have hpack : ∃ (R : Option (List Tm × Nat)) (TN : Nat) (PT : World → Prop), (match headR 9 xs i with
                      | none => none
                      | some (h, n, m) => mkO 9 n (someR (oneR L xs f) xs m (i + h))) = mkO 9 0 R ∧
                    (Calls Tryd.prog 77 #[.pointer (some ⟨xb, 0, none⟩), .int .i64 2] W1 fun e w2 => e = .returned (.int .i64 TN) ∧ Only (fun k => k = xb) W1 w2 ∧ PT w2) ∧
                    (∀ w', PT w' → Calls Tryd.prog 78 #[.pointer (some ⟨xb, 0, none⟩), .int .i64 TN, .int .i64 2] w' fun e w2 => ∃ a n c, e = .returned (.slice a n c) ∧ Only (fun k => k = xb) w' w2 ∧
                      ((R = none ∧ ∃ j, RfW w0 w2 xb q la xs.length lcap j true) ∨ ∃ ts j, R = some (ts, j) ∧ j ≤ xs.length ∧ RfW w0 w2 xb q la xs.length lcap j false ∧ n = ts.length ∧ Lst w2 (fun b => w'.heap.size ≤ b) ts a c)) := by
                  have e1 : (match headR 9 xs i with
                      | none => none
                      | some (h, n, m) => mkO 9 n (someR (oneR L xs f) xs m (i + h))) = mkO 9 0 (someR (oneR L xs f) xs 2 i) := by rw [headR, if_pos rfl]; rfl
                  by_cases hlen : xs.length < i + 2
                  · refine ⟨none, 0, fun w' => ∃ j, RfW w0 w' xb q la xs.length lcap j true, by rw [e1, someR, if_pos hlen], (take_no H1.out 2 (by omega) (by omega) (by omega) hir.2.1).mono fun e w2 ⟨a, b, c⟩ => ⟨a, c, _, b⟩, fun w' ⟨j, hj⟩ => (parts_bad hj _ _).mono fun e w2 ⟨a, b⟩ => ⟨none, 0, 0, a, by rw [← b]; exact Only.refl _ _, Or.inl ⟨rfl, j, by rw [← b]; exact hj⟩⟩⟩
                  · refine ⟨goes (oneR L xs f) ((xs.drop i).take 2) (i + 2), i, fun w' => RfW w0 w' xb q la xs.length lcap (i + 2) false, by rw [e1, someR, if_neg hlen], (take_yes H1.out 2 (by omega) hir.2.1).mono fun e w2 ⟨a, b, c⟩ => ⟨a, c, b⟩, fun w' hj => hparts.out w' (i + 2) i 2 hj (by omega) (by omega) (Or.inr (by omega))⟩
                obtain ⟨R, TN, PT, hexp, htake, hprt⟩ := hpack
                rw [hexp]
                have HTake := Hid.mk htake
                have HPrt := Hid.mk hprt
                clear hexp htake hprt hir hl
                have HTB := Hid.mk htb
                have HWE := Hid.mk hW1
                clear htb hW1
                go_enter Tryd.func50, Tryd.ntmps50
                go_upto_region 1 with fail
                try rw [hW0]
                clear hW0
                go_upto_region 9 with (first
                  | (go_at_call 74; refine hun.out.mono ?_; rintro e w1 ⟨rfl, rfl⟩)
                  | (go_at_call 75; refine hbox.out.mono ?_; rintro e w2 ⟨rfl, rfl⟩))
                rw [HWE.out, HTB.out]
                go_wp2_with (first
                  | (go_at_call 77; refine HTake.out.mono ?_; rintro e w4 ⟨rfl, ho4, hp4⟩; have HO4 := Hid.mk ho4; have HP4 := Hid.mk hp4; clear ho4 hp4)
                  | (go_at_call 78; refine (HPrt.out _ HP4.out).mono ?_; rintro e w5 ⟨a5, n5, c5, rfl, ho5, hp5⟩
                     have ho15 := HO4.out.trans ho5 (fun k hk => Or.inl hk)
                     have hx5 := ho15.box HX1.out htx
                     have hr5 := ho15.box HRB1.out nrx
                     obtain ⟨⟨y0, y1, y2, y3⟩, z0, z1, z2, z3⟩ := kept4 hx5 (Below.refl _ _)
                     obtain ⟨W6, hW6⟩ : ∃ W6, w5.setCell ⟨tb, 3, none⟩ (.slice a5 n5 c5) = W6 := ⟨_, rfl⟩
                     have hx6 : W6.heap[tb]? = some (.cells #[.int .i64 9, .int .i64 0, .string ⟨#[]⟩, .slice a5 n5 c5] 25) := (by rw [← hW6]; simp [World.setCell, Array.getElem?_modify, hx5])
                     have hr6 : W6.heap[w.heap.size]? = some (.cells #[.int .i64 0, .int .i64 0, .string ⟨#[]⟩, .slice none 0 0] 25) := (by rw [← hW6, Below.heap_setCell _ _ _ _ (fun e => htr e.symm)]; exact hr5)
                     obtain ⟨⟨u0, u1, u2, u3⟩, _⟩ := kept4 hx6 (Below.refl _ _)
                     obtain ⟨⟨q0, q1, q2, q3⟩, r0, r1, r2, r3⟩ := kept4 hr6 (Below.refl _ _)
                     have ho6 : Only (fun k => k = xb) w W6 := (by rw [← hW6]; exact (HO1.out.trans ho15 (fun k hk => Or.inl hk)).trans (S' := fun k => k = tb) (Only.set _ _ rfl) (fun k hk => Or.inr (by have := HZ1.out; omega)))
                     have hp6 : (R = none ∧ ∃ j, RfW w0 W6 xb q la xs.length lcap j true) ∨ ∃ ts j, R = some (ts, j) ∧ j ≤ xs.length ∧ RfW w0 W6 xb q la xs.length lcap j false ∧ n5 = ts.length ∧ Lst W6 (fun b => tb < b) ts a5 c5 := (by
                       rw [← hW6]
                       rcases hp5 with ⟨a, j, b⟩ | ⟨ts, j, a, b, c, d, e⟩
                       · exact Or.inl ⟨a, j, HMV.out _ _ _ _ _ b⟩
                       · refine Or.inr ⟨ts, j, a, b, HMV.out _ _ _ _ _ c, d, ?_⟩
                         have htl : tb < w4.heap.size := Nat.lt_of_lt_of_le (Array.getElem?_eq_some_iff.1 HX1.out).1 HO4.out.size
                         exact e.move (fun b hb => by omega) (fun b o u hb hc => by
                           rw [World.cell?_setCell_other _ _ _ _ (by simp <;> omega)]
                           exact hc))
                     have HO6 := Hid.mk ho6
                     have HP6 := Hid.mk hp6
                     clear ho15 hx5 hr5 hx6 hr6 ho6 hp6 ho5 hp5))
                refine ret_stored rfl rfl rfl q0 q1 q2 q3 ⟨_, _, _, _, _, _, rfl, HO6.out.new4 (Nat.le_refl _) _ _ _ _, ?_⟩
                have hmv6 : ∀ jj bb v0 v1 v2 v3, RfW w0 W6 xb q la xs.length lcap jj bb → RfW w0 ((((W6.setCell ⟨w.heap.size, 0, none⟩ v0).setCell ⟨w.heap.size, 1, none⟩ v1).setCell ⟨w.heap.size, 2, none⟩ v2).setCell ⟨w.heap.size, 3, none⟩ v3) xb q la xs.length lcap jj bb := fun jj bb v0 v1 v2 v3 h =>
                  ⟨HW.out.only.trans (HO6.out.new4 (Nat.le_refl _) _ _ _ _) (fun k hk => Or.inl hk), (set4_heap _ _ _ _ _ _ _ nxr).trans h.box⟩
                rcases HP6.out with ⟨rfl, j, hb⟩ | ⟨ts, j, rfl, hj, hg, rfl, hlst⟩
                · exact Or.inl ⟨rfl, j, hmv6 _ _ _ _ _ _ hb⟩
                · refine Or.inr ⟨_, j, rfl, hj, hmv6 _ _ _ _ _ _ hg, Lies.mk (l := ts) ⟨by decide, by decide, by decide, by decide, by decide⟩ ?_⟩
                  have hz1 := HZ1.out
                  exact hlst.move (fun b hb => by omega) (fun b o u hb hc => by
                    rw [World.cell?_of_block (w := W6) (a := ⟨b, o, none⟩) (set4_heap _ _ _ _ _ _ _ (by show b ≠ w.heap.size; omega))]
                    exact hc)
            · rw [oneR_bad (Or.inr (Or.inr (Or.inr ⟨hl, hni⟩)))]
              generalize Wd.kd x = K at *
              generalize Wd.nm x = N at *
              have e1 : (N == (i : Int)) = false := by simpa using hni
              have e2 : ¬ N = (i : Int) := hni
              have e3 : (N != (i : Int)) = true := by simpa using hni
              clear hub hbi hl
              go_enter Tryd.func50, Tryd.ntmps50
              go_upto_region 1 with fail
              try rw [hW0]
              clear hW0
              go_wp2_with (first
                | (go_at_call 74; refine hun.out.mono ?_; rintro e w1 ⟨rfl, rfl⟩)
                | (go_at_call 75; refine hbox.out.mono ?_; rintro e w2 ⟨rfl, rfl⟩))
              refine ret_stored rfl rfl rfl ((World.cell?_setCell_other _ _ _ _ (by simp <;> omega)).trans t0) ((World.cell?_setCell_other _ _ _ _ (by simp <;> omega)).trans t1) ((World.cell?_setCell_other _ _ _ _ (by simp <;> omega)).trans t2) ((World.cell?_setCell_other _ _ _ _ (by simp <;> omega)).trans t3) ⟨_, _, _, _, _, _, rfl, (Only.put (S := fun k => k = xb) (p := xb) (Only.up HB0.out) rfl _ _).new4 (Nat.le_refl _) _ _ _ _, Or.inl ⟨by first | rfl | trivial, i, ?_⟩⟩
              exact ⟨(HW.out.only.trans ((Only.put (S := fun k => k = xb) (p := xb) (Only.up HB0.out) rfl 3 (.bool true)).new4 (Nat.le_refl _) _ _ _ _) (fun k hk => Or.inl hk)), (set4_heap _ _ _ _ _ _ _ nxr).trans HWo.out.box⟩
          | false =>
            rw [hbi, hl] at hbox
            have e1 : oneR L xs (f + 1) x i = (plainR L (Wd.kd x) (Wd.nm x)).map fun t => (t, i) := by rw [oneR, if_neg (by rw [hub]; simp), if_pos hl]
            rw [e1]
            simp only [hasL, decide_eq_false_iff_not] at hl
            generalize Wd.kd x = K at *
            generalize Wd.nm x = N at *
            clear e1 hub hbi
            obtain ⟨W1, hW1⟩ : ∃ W1, W0.alloc (.cells #[.int .i64 K, .int .i64 N, .string ⟨#[]⟩, .slice none 0 0] 25) = W1 := ⟨_, rfl⟩
            obtain ⟨tb, htb⟩ : ∃ tb, W0.heap.size = tb := ⟨_, rfl⟩
            have hb1 : Below W0.heap.size W0 W1 := by rw [← hW1]; exact (Below.refl _ _).alloc (Nat.le_refl _) _
            have hx1 : W1.heap[tb]? = some (.cells #[.int .i64 K, .int .i64 N, .string ⟨#[]⟩, .slice none 0 0] 25) := by rw [← hW1, ← htb]; exact new_block _ _
            have h1 := H0.out.up hb1
            have hz1 : tb = w.heap.size + 1 := by rw [← htb, HZ0.out]
            have hir := HI.out
            have htx : tb ≠ xb := by omega
            have htr : tb ≠ w.heap.size := by omega
            have hxt : xb ≠ tb := by omega
            have hrt : w.heap.size ≠ tb := by omega
            have hrb1 := (hb1.block _ (Array.getElem?_eq_some_iff.1 HBX.out).1).trans HBX.out
            obtain ⟨⟨u0, u1, u2, u3⟩, v0, v1, v2, v3⟩ := kept4 hx1 (Below.refl _ _)
            obtain ⟨⟨q0, q1, q2, q3⟩, r0, r1, r2, r3⟩ := kept4 hrb1 (Below.refl _ _)
            obtain ⟨⟨y0, y1, y2, y3⟩, z2, z3⟩ := h1.cells
            have ho1 : Only (fun k => k = xb) w W1 := (Only.up HB0.out).call hb1
            have HO1 := Hid.mk ho1
            have H1 := Hid.mk h1
            have HX1 := Hid.mk hx1
            have HRB1 := Hid.mk hrb1
            have HTB := Hid.mk htb
            have HWE := Hid.mk hW1
            have HZ1 := Hid.mk hz1
            clear ho1 hW1 htb hz1 hrb1 hir
            by_cases h2 : K = 2
            · subst h2
              obtain ⟨m, rfl⟩ := Int.eq_ofNat_of_zero_le (HLO.out rfl)
              have hT1 : RTab W1 q vq L := HC.out.tab.kept H1.out.only (fun k hk e => HC.out.ne (e ▸ hk))
              have hql := hT1.lt (Or.inl rfl)
              have cq := hT1.cell.1
              obtain ⟨va, vc, hv⟩ := hT1.row.slice
              by_cases hm : m < L.length
              · obtain ⟨g, cap, hv', hcs⟩ := hT1.row.at_ (by omega)
                rw [hv'] at cq
                have cg := hcs m hm
                have e1 : plainR L 2 m = some (.mk 2 0 L[m] []) := by rw [plainR, if_pos rfl, Int.toNat_natCast, List.getElem?_eq_getElem hm]
                rw [e1]
                have hT0 := HC.out.tab.kept H0.out.only (fun k hk e => HC.out.ne (e ▸ hk))
                have hqt : q ≠ tb := by have := hT0.lt (Or.inl rfl); have := HTB.out; omega
                have hgt : g ≠ tb := by have := hT0.lt (k := g) (Or.inr (by rw [hv']; rfl)); have := HTB.out; omega
                have hsh := HC.out.short _ (List.getElem_mem hm)
                generalize L[m] = s at *
                obtain ⟨W2, hW2⟩ : ∃ W2, W1.setCell ⟨tb, 1, none⟩ (.int .i64 0) = W2 := ⟨_, rfl⟩
                obtain ⟨W3, hW3⟩ : ∃ W3, W2.setCell ⟨tb, 2, none⟩ (.string s) = W3 := ⟨_, rfl⟩
                have hx2 : W2.heap[tb]? = some (.cells #[.int .i64 2, .int .i64 0, .string ⟨#[]⟩, .slice none 0 0] 25) := by rw [← hW2]; simp [World.setCell, Array.getElem?_modify, hx1]
                have hx3 : W3.heap[tb]? = some (.cells #[.int .i64 2, .int .i64 0, .string s, .slice none 0 0] 25) := by rw [← hW3]; simp [World.setCell, Array.getElem?_modify, hx2]
                have hc2 : ∀ b o, b ≠ tb → W2.cell? ⟨b, o, none⟩ = W1.cell? ⟨b, o, none⟩ := fun b o hb => by rw [← hW2]; exact World.cell?_setCell_other _ _ _ _ (by simp <;> omega)
                have hc3 : ∀ b o, b ≠ tb → W3.cell? ⟨b, o, none⟩ = W2.cell? ⟨b, o, none⟩ := fun b o hb => by rw [← hW3]; exact World.cell?_setCell_other _ _ _ _ (by simp <;> omega)
                have y02 := (hc2 xb 0 hxt).trans y0
                have cq2 := (hc2 q 0 hqt).trans cq
                have cg2 := (hc2 g m hgt).trans cg
                obtain ⟨⟨i0, i1, i2, i3⟩, j0, j1, j2, j3⟩ := kept4 hx2 (Below.refl _ _)
                obtain ⟨⟨k0, k1, k2, k3⟩, _⟩ := kept4 hx3 (Below.refl _ _)
                have hr3 : W3.heap[w.heap.size]? = some (.cells #[.int .i64 0, .int .i64 0, .string ⟨#[]⟩, .slice none 0 0] 25) := by rw [← hW3, Below.heap_setCell _ _ _ _ (show w.heap.size ≠ tb from hrt), ← hW2, Below.heap_setCell _ _ _ _ (show w.heap.size ≠ tb from hrt)]; exact HRB1.out
                have hb3 : W3.heap[xb]? = W1.heap[xb]? := by rw [← hW3, Below.heap_setCell _ _ _ _ (show xb ≠ tb from hxt), ← hW2, Below.heap_setCell _ _ _ _ (show xb ≠ tb from hxt)]
                have ho3 : Only (fun k => k = xb) w W3 := by
                  rw [← hW3, ← hW2]
                  exact (HO1.out.trans (S' := fun k => k = tb) (Only.set _ _ rfl) (fun k hk => Or.inr (by have := HZ1.out; omega))).trans (S' := fun k => k = tb) (Only.set _ _ rfl) (fun k hk => Or.inr (by have := HZ1.out; omega))
                obtain ⟨⟨l0, l1, l2, l3⟩, p0, p1, p2, p3⟩ := kept4 hr3 (Below.refl _ _)
                have d3 : decide ((L.length : Int) ≤ m) = false := by rw [decide_eq_false_iff_not]; omega
                have d4 : decide (L.length ≤ m) = false := by rw [decide_eq_false_iff_not]; omega
                have d5 : ¬ L.length ≤ m := by omega
                have HB3 := Hid.mk hb3
                have HO3 := Hid.mk ho3
                have HSH := Hid.mk hsh
                clear hv hv' hcs e1 hT1 hT0 hb1 hx1 h1 hl hsh hx2 hx3 hc2 hc3 hr3 hb3 ho3 hql
                go_enter Tryd.func50, Tryd.ntmps50
                go_upto_region 1 with fail
                try rw [hW0]
                clear hW0
                go_upto_region 9 with (first
                  | (go_at_call 74; refine hun.out.mono ?_; rintro e w1 ⟨rfl, rfl⟩)
                  | (go_at_call 75; refine hbox.out.mono ?_; rintro e w2 ⟨rfl, rfl⟩))
                rw [HWE.out, HTB.out]
                go_wp2
                refine ret_stored rfl rfl rfl l0 l1 l2 l3 ⟨_, _, _, _, _, _, rfl, HO3.out.new4 (Nat.le_refl _) _ _ _ _, Or.inr ⟨_, i, rfl, HI.out.1, ⟨HW.out.only.trans (HO3.out.new4 (Nat.le_refl _) _ _ _ _) (fun k hk => Or.inl hk), ?_⟩, Lies.mk (l := []) ⟨by decide, by decide, by decide, by decide, by have := HSH.out; omega⟩ (lst_nil _ _)⟩⟩
                exact (set4_heap _ _ _ _ _ _ _ nxr).trans (HB3.out.trans H1.out.box)
              · have e1 : plainR L 2 m = none := by rw [plainR, if_pos rfl, Int.toNat_natCast, List.getElem?_eq_none (by omega)]
                rw [e1]
                rw [hv] at cq
                have d3 : decide ((L.length : Int) ≤ m) = true := by rw [decide_eq_true_eq]; omega
                have d4 : decide (L.length ≤ m) = true := by rw [decide_eq_true_eq]; omega
                have HW1 := Hid.mk h1.worse
                clear hv e1 hT1 hb1 h1 hl hx1 hql
                go_enter Tryd.func50, Tryd.ntmps50
                go_upto_region 1 with fail
                try rw [hW0]
                clear hW0
                go_upto_region 9 with (first
                  | (go_at_call 74; refine hun.out.mono ?_; rintro e w1 ⟨rfl, rfl⟩)
                  | (go_at_call 75; refine hbox.out.mono ?_; rintro e w2 ⟨rfl, rfl⟩))
                rw [HWE.out, HTB.out]
                go_wp2
                refine ret_stored rfl rfl rfl ((World.cell?_setCell_other _ _ _ _ (by simp <;> omega)).trans q0) ((World.cell?_setCell_other _ _ _ _ (by simp <;> omega)).trans q1) ((World.cell?_setCell_other _ _ _ _ (by simp <;> omega)).trans q2) ((World.cell?_setCell_other _ _ _ _ (by simp <;> omega)).trans q3) ⟨_, _, _, _, _, _, rfl, (Only.put (S := fun k => k = xb) (p := xb) HO1.out rfl _ _).new4 (Nat.le_refl _) _ _ _ _, Or.inl ⟨by first | rfl | trivial, i, ?_⟩⟩
                exact ⟨(HW.out.only.trans ((Only.put (S := fun k => k = xb) (p := xb) HO1.out rfl 3 (.bool true)).new4 (Nat.le_refl _) _ _ _ _) (fun k hk => Or.inl hk)), (set4_heap _ _ _ _ _ _ _ nxr).trans HW1.out.box⟩
            · have e1 : plainR L K N = some (.mk K N ⟨#[]⟩ []) := by rw [plainR, if_neg h2, if_pos (by omega)]
              rw [e1]
              have HSM := Hid.mk (show Small K N ⟨#[]⟩ from ⟨by omega, by omega, by have := HN.out; omega, by have := HN.out; omega, by decide⟩)
              have hKK : K = 1 ∨ K = 3 ∨ K = 4 ∨ K = 6 ∨ K = 8 := by omega
              clear e1 hl h2 d1 d2 hk1 hk9 HLO hK0 hK1 hb1 hx1 h1
              rcases hKK with rfl | rfl | rfl | rfl | rfl
              · skip
                go_enter Tryd.func50, Tryd.ntmps50
                go_upto_region 1 with fail
                try rw [hW0]
                clear hW0
                go_upto_region 9 with (first
                  | (go_at_call 74; refine hun.out.mono ?_; rintro e w1 ⟨rfl, rfl⟩)
                  | (go_at_call 75; refine hbox.out.mono ?_; rintro e w2 ⟨rfl, rfl⟩))
                rw [HWE.out, HTB.out]
                go_wp2
                refine ret_stored rfl rfl rfl q0 q1 q2 q3 ⟨_, _, _, _, _, _, rfl, HO1.out.new4 (Nat.le_refl _) _ _ _ _, Or.inr ⟨_, i, rfl, HI.out.1, ⟨HW.out.only.trans (HO1.out.new4 (Nat.le_refl _) _ _ _ _) (fun k hk => Or.inl hk), ?_⟩, Lies.mk (l := []) HSM.out (lst_nil _ _)⟩⟩
                exact (set4_heap _ _ _ _ _ _ _ nxr).trans H1.out.box
              · skip
                go_enter Tryd.func50, Tryd.ntmps50
                go_upto_region 1 with fail
                try rw [hW0]
                clear hW0
                go_upto_region 9 with (first
                  | (go_at_call 74; refine hun.out.mono ?_; rintro e w1 ⟨rfl, rfl⟩)
                  | (go_at_call 75; refine hbox.out.mono ?_; rintro e w2 ⟨rfl, rfl⟩))
                rw [HWE.out, HTB.out]
                go_wp2
                refine ret_stored rfl rfl rfl q0 q1 q2 q3 ⟨_, _, _, _, _, _, rfl, HO1.out.new4 (Nat.le_refl _) _ _ _ _, Or.inr ⟨_, i, rfl, HI.out.1, ⟨HW.out.only.trans (HO1.out.new4 (Nat.le_refl _) _ _ _ _) (fun k hk => Or.inl hk), ?_⟩, Lies.mk (l := []) HSM.out (lst_nil _ _)⟩⟩
                exact (set4_heap _ _ _ _ _ _ _ nxr).trans H1.out.box
              · skip
                go_enter Tryd.func50, Tryd.ntmps50
                go_upto_region 1 with fail
                try rw [hW0]
                clear hW0
                go_upto_region 9 with (first
                  | (go_at_call 74; refine hun.out.mono ?_; rintro e w1 ⟨rfl, rfl⟩)
                  | (go_at_call 75; refine hbox.out.mono ?_; rintro e w2 ⟨rfl, rfl⟩))
                rw [HWE.out, HTB.out]
                go_wp2
                refine ret_stored rfl rfl rfl q0 q1 q2 q3 ⟨_, _, _, _, _, _, rfl, HO1.out.new4 (Nat.le_refl _) _ _ _ _, Or.inr ⟨_, i, rfl, HI.out.1, ⟨HW.out.only.trans (HO1.out.new4 (Nat.le_refl _) _ _ _ _) (fun k hk => Or.inl hk), ?_⟩, Lies.mk (l := []) HSM.out (lst_nil _ _)⟩⟩
                exact (set4_heap _ _ _ _ _ _ _ nxr).trans H1.out.box
              · skip
                go_enter Tryd.func50, Tryd.ntmps50
                go_upto_region 1 with fail
                try rw [hW0]
                clear hW0
                go_upto_region 9 with (first
                  | (go_at_call 74; refine hun.out.mono ?_; rintro e w1 ⟨rfl, rfl⟩)
                  | (go_at_call 75; refine hbox.out.mono ?_; rintro e w2 ⟨rfl, rfl⟩))
                rw [HWE.out, HTB.out]
                go_wp2
                refine ret_stored rfl rfl rfl q0 q1 q2 q3 ⟨_, _, _, _, _, _, rfl, HO1.out.new4 (Nat.le_refl _) _ _ _ _, Or.inr ⟨_, i, rfl, HI.out.1, ⟨HW.out.only.trans (HO1.out.new4 (Nat.le_refl _) _ _ _ _) (fun k hk => Or.inl hk), ?_⟩, Lies.mk (l := []) HSM.out (lst_nil _ _)⟩⟩
                exact (set4_heap _ _ _ _ _ _ _ nxr).trans H1.out.box
              · skip
                go_enter Tryd.func50, Tryd.ntmps50
                go_upto_region 1 with fail
                try rw [hW0]
                clear hW0
                go_upto_region 9 with (first
                  | (go_at_call 74; refine hun.out.mono ?_; rintro e w1 ⟨rfl, rfl⟩)
                  | (go_at_call 75; refine hbox.out.mono ?_; rintro e w2 ⟨rfl, rfl⟩))
                rw [HWE.out, HTB.out]
                go_wp2
                refine ret_stored rfl rfl rfl q0 q1 q2 q3 ⟨_, _, _, _, _, _, rfl, HO1.out.new4 (Nat.le_refl _) _ _ _ _, Or.inr ⟨_, i, rfl, HI.out.1, ⟨HW.out.only.trans (HO1.out.new4 (Nat.le_refl _) _ _ _ _) (fun k hk => Or.inl hk), ?_⟩, Lies.mk (l := []) HSM.out (lst_nil _ _)⟩⟩
                exact (set4_heap _ _ _ _ _ _ _ nxr).trans H1.out.box
end Go.Proofs.YthkjdcmlalgphaaDoor
