/-
  FixScript returns true.
-/
import Derived.Test.YtgfelddgiabeoaaFixAct
import Derived.Test.YtgfelddgiabeoaaFixK
import Derived.Test.YtgfelddgiabeoaaFixOpen
namespace Go.Proofs.Ytgfelddgiabeoaa
open Go.RowKit Go.Deep Go.Maps Go.WideShapes

theorem nums_celA {w : World} {a : Option Addr} {n cap : Nat} {xs : List Int} (h : Nums w (.slice a n cap) xs) : CelI w xs a := by
  obtain ⟨a', cap', hv, hc⟩ := Nums.cel h
  cases hv
  exact hc
theorem sameInts_refl (xs : List Int) (a b : Option Addr) (ca cb : Nat) (w : World) (hx : CelI w xs a) (hy : CelI w xs b) (hl : xs.length ≤ 1000000) :
    Calls Try.prog 13 #[.slice a xs.length ca, .slice b xs.length cb] w fun e w' => e = .returned (.bool true) ∧ Below w.heap.size w w' := by
  have := sameInts_any xs xs a b ca cb w hx hy hl
  rwa [decide_eq_true (rfl : xs = xs)] at this

set_option maxRecDepth 100000 in
set_option maxHeartbeats 8000000 in
theorem lawScript12 (L : List Ac12) (a : Option Addr) (cap : Nat) (x : Int) (w : World) (hE : Els w 2 Ac12Ok L a) (hx : In64 x) :
    Calls Try.prog 3 #[.slice a L.length cap, .int .i64 x] w fun e w' => e = .returned (.bool true) ∧ Below w.heap.size w w' := by
  by_cases h60 : 60 < L.length
  · have e2 : decide ((60 : Int) < L.length) = true := by rw [decide_eq_true_eq]; omega
    have e1 : decide (60 < L.length) = true := by rw [decide_eq_true_eq]; omega
    clear h60 hE
    go_enter Try.func3, Try.ntmps3
    go_wp2
    go_ret
    exact ⟨rfl, Below.refl _ _⟩
  · have e2 : decide ((60 : Int) < L.length) = false := by rw [decide_eq_false_iff_not]; omega
    have e1 : decide (60 < L.length) = false := by rw [decide_eq_false_iff_not]; omega
    have hL := Hid.mk (show L.length ≤ 60 by omega)
    have HE := Hid.mk hE
    have HX := Hid.mk hx
    clear h60 hE hx
    go_enter Try.func3, Try.ntmps3
    go_upto_region 4 with (first
      | (go_at_call 7; refine (newC_any _).mono ?_; rintro e w1 ⟨rfl, hn, hb⟩; have T0 := Hid.mk (Two.made hn hb); clear hn hb))
    obtain ⟨w2, hw2⟩ : ∃ w2, w1.alloc (.cells #[.slice none 0 0] 28) = w2 := ⟨_, rfl⟩
    rw [hw2] at T0 ⊢
    obtain ⟨p, hp⟩ : ∃ p, w.heap.size + 1 = p := ⟨_, rfl⟩
    obtain ⟨q, hq⟩ : ∃ q, w1.heap.size = q := ⟨_, rfl⟩
    obtain ⟨bm, hbm⟩ : ∃ bm, bm = w.heap.size := ⟨_, rfl⟩
    have T0 := Hid.mk (show Two w w2 p bm q [] [] (fun _ => False) by rw [← hp, ← hq, hbm]; exact T0.out)
    rw [hp, hq]
    clear hw2 hp hq hbm
    go_wp2
    go_loopw [7] (fun ii wr => ∃ (i : Nat) (R : List Int), i ≤ L.length ∧ ii = .int .i64 i ∧ Hid (Two w wr p bm q R R (fun _ => False)) ∧ Hid (R.length ≤ i)) (fun ii _ => L.length - (Go.RowKit.intOf ii).toNat)
    case atStart => exact ⟨0, [], Nat.zero_le _, rfl, T0, Hid.mk (Nat.le_refl _)⟩
    case round =>
      obtain ⟨i, R, hi, rfl, hT, hRi⟩ := hrel
      by_cases hlt : i < L.length
      · obtain ⟨b, o, rfl, d0, d1, hk, hn⟩ := HE.out.call12 (Below.refl _ w) hlt
        have hwi : IntKind.i64.wrap ((i : Int) + 1) = ((i + 1 : Nat) : Int) := by have := hL.out; rw [wrap_id (by omega) (by omega)]; omega
        have hli : (i : Int) < L.length := by omega
        obtain ⟨A, hA⟩ : ∃ A, L[i]'hlt = A := ⟨_, rfl⟩
        rw [hA] at d0 d1 hk hn
        obtain ⟨k, n⟩ := A
        simp only at d0 d1 hk hn
        have HN := Hid.mk hn
        have HL := Hid.mk hlt
        have HR := Hid.mk (show R.length ≤ 900 by have := hRi.out; have := hL.out; omega)
        clear hA hk hn hlt
        go_upto_region 9 with fail
        have hU0 : Up w wr.drew := Up.drew hT.out.below
        refine wp_region_held (S := Up w) (by kernel_rfl) ?_
        refine chain_take (i := 0) (d := 23) (v := .pointer (some ⟨p, 0, none⟩)) rfl rfl (by kernel_rfl) (by kernel_rfl) (by kernel_rfl) rfl (fun _ _ => rfl) (fun _ _ _ h => h) hU0 ?_
        simp only [Act.put, List.setIfInBounds_toArray, List.set_cons_zero, List.set_cons_succ]
        refine chain_take (i := 1) (d := 24) (v := .pointer (some ⟨q, 0, none⟩)) rfl rfl (by kernel_rfl) (by kernel_rfl) (by kernel_rfl) rfl (fun _ _ => rfl) (fun _ _ _ h => h) hU0 ?_
        simp only [Act.put, List.setIfInBounds_toArray, List.set_cons_zero, List.set_cons_succ]
        refine chain_take (i := 2) (d := 25) (v := .slice (some ⟨b, o, none⟩) L.length cap) rfl rfl (by kernel_rfl) (by kernel_rfl) (by kernel_rfl) rfl (fun _ _ => rfl) (fun _ _ _ h => h) hU0 ?_
        simp only [Act.put, List.setIfInBounds_toArray, List.set_cons_zero, List.set_cons_succ]
        refine chain_take (i := 3) (d := 26) (v := .int .i64 i) rfl rfl (by kernel_rfl) (by kernel_rfl) (by kernel_rfl) rfl (fun _ _ => rfl) (fun _ _ _ h => h) hU0 ?_
        simp only [Act.put, List.setIfInBounds_toArray, List.set_cons_zero, List.set_cons_succ]
        refine chain_take (i := 4) (d := 27) (v := .pointer (some ⟨b, o + i * 2, none⟩)) rfl rfl (by kernel_rfl) (by kernel_rfl) (by kernel_rfl) rfl (fun _ _ => (by go_simp)) (fun _ _ _ h => h) hU0 ?_
        simp only [Act.put, List.setIfInBounds_toArray, List.set_cons_zero, List.set_cons_succ]
        refine chain_take (i := 5) (d := 28) (v := .agg #[.int .i64 k, .int .i64 n]) rfl rfl (by kernel_rfl) (by kernel_rfl) (by kernel_rfl) rfl (fun W h => (by have u0 := cell_below h.out _ _ _ d0; have u1 := cell_below h.out _ _ _ d1; go_simp)) (fun _ _ _ h => h) hU0 ?_
        simp only [Act.put, List.setIfInBounds_toArray, List.set_cons_zero, List.set_cons_succ]
        refine chain_call (i := 6) (d := 29) (f := 8) (args := #[.pointer (some ⟨p, 0, none⟩), .pointer (some ⟨q, 0, none⟩), .agg #[.int .i64 k, .int .i64 n]]) (by kernel_rfl) rfl rfl rfl (by go_simp) ?_
        refine (act12_any k n w _ p bm q R _ (hT.out.up (Below.drew (Below.refl wr.heap.size wr))) HN.out HR.out).mono ?_
        rintro e w3 ⟨R', rfl, h3, h4⟩
        refine ⟨.bool true, rfl, h3.below, ?_⟩
        simp only [Act.put, List.setIfInBounds_toArray, List.set_cons_zero, List.set_cons_succ]
        have hR1 : R'.length ≤ 1000 := by have := HR.out; omega
        obtain ⟨ra, rc, q0⟩ := h3.row
        have d0 := cell_below h3.below _ _ _ d0
        have d1 := cell_below h3.below _ _ _ d1
        refine chain_class (S' := Up w3) (fun W hW => h3.below.trans (hW.out.mono h3.below.size)) _ ?_
        have hU3 := Up.refl w3
        refine chain_take (i := 7) (d := 30) (v := .bool false) rfl rfl (by kernel_rfl) (by kernel_rfl) (by kernel_rfl) rfl (fun _ _ => (by go_simp)) (fun _ _ _ h => h) hU3 ?_
        simp only [Act.put, List.setIfInBounds_toArray, List.set_cons_zero, List.set_cons_succ]
        refine chain_take (i := 8) (d := 31) (v := .bool false) rfl rfl (by kernel_rfl) (by kernel_rfl) (by kernel_rfl) rfl (fun _ _ => rfl) (fun _ _ _ h => h) hU3 ?_
        simp only [Act.put, List.setIfInBounds_toArray, List.set_cons_zero, List.set_cons_succ]
        refine chain_take (i := 9) (d := 32) (v := .pointer (some ⟨p, 0, none⟩)) rfl rfl (by kernel_rfl) (by kernel_rfl) (by kernel_rfl) rfl (fun _ _ => rfl) (fun _ _ _ h => h) hU3 ?_
        simp only [Act.put, List.setIfInBounds_toArray, List.set_cons_zero, List.set_cons_succ]
        refine chain_take (i := 10) (d := 33) (v := .int .i64 x) rfl rfl (by kernel_rfl) (by kernel_rfl) (by kernel_rfl) rfl (fun _ _ => rfl) (fun _ _ _ h => h) hU3 ?_
        simp only [Act.put, List.setIfInBounds_toArray, List.set_cons_zero, List.set_cons_succ]
        refine chain_take (i := 12) (d := 35) (v := .pointer (some ⟨q, 0, none⟩)) rfl rfl (by kernel_rfl) (by kernel_rfl) (by kernel_rfl) rfl (fun _ _ => rfl) (fun _ _ _ h => h) hU3 ?_
        simp only [Act.put, List.setIfInBounds_toArray, List.set_cons_zero, List.set_cons_succ]
        refine chain_take (i := 13) (d := 36) (v := .int .i64 x) rfl rfl (by kernel_rfl) (by kernel_rfl) (by kernel_rfl) rfl (fun _ _ => rfl) (fun _ _ _ h => h) hU3 ?_
        simp only [Act.put, List.setIfInBounds_toArray, List.set_cons_zero, List.set_cons_succ]
        refine chain_call (i := 11) (d := 34) (f := 9) (args := #[.pointer (some ⟨p, 0, none⟩), .int .i64 x]) (by kernel_rfl) rfl rfl rfl (by go_simp) ?_
        refine (h3.ofC x HX.out).mono ?_
        rintro e w4 ⟨rfl, rfl⟩
        refine ⟨.int .i64 (cnt x R'), rfl, (Up.refl w3), ?_⟩
        simp only [Act.put, List.setIfInBounds_toArray, List.set_cons_zero, List.set_cons_succ]
        refine chain_call (i := 14) (d := 37) (f := 10) (args := #[.pointer (some ⟨q, 0, none⟩), .int .i64 x]) (by kernel_rfl) rfl rfl rfl (by go_simp) ?_
        refine (h3.ofR x hR1).mono ?_
        rintro e w4 ⟨rfl, rfl⟩
        refine ⟨.int .i64 (cnt x R'), rfl, (Up.refl w3), ?_⟩
        simp only [Act.put, List.setIfInBounds_toArray, List.set_cons_zero, List.set_cons_succ]
        refine chain_take (i := 15) (d := 38) (v := .bool false) rfl rfl (by kernel_rfl) (by kernel_rfl) (by kernel_rfl) rfl (fun _ _ => (by go_simp)) (fun _ _ _ h => h) hU3 ?_
        simp only [Act.put, List.setIfInBounds_toArray, List.set_cons_zero, List.set_cons_succ]
        refine chain_take (i := 16) (d := 39) (v := .bool false) rfl rfl (by kernel_rfl) (by kernel_rfl) (by kernel_rfl) rfl (fun _ _ => (by go_simp)) (fun _ _ _ h => h) hU3 ?_
        simp only [Act.put, List.setIfInBounds_toArray, List.set_cons_zero, List.set_cons_succ]
        refine chain_take (i := 17) (d := 40) (v := .bool false) rfl rfl (by kernel_rfl) (by kernel_rfl) (by kernel_rfl) rfl (fun _ _ => rfl) (fun _ _ _ h => h) hU3 ?_
        simp only [Act.put, List.setIfInBounds_toArray, List.set_cons_zero, List.set_cons_succ]
        refine chain_take (i := 18) (d := 41) (v := .pointer (some ⟨p, 0, none⟩)) rfl rfl (by kernel_rfl) (by kernel_rfl) (by kernel_rfl) rfl (fun _ _ => rfl) (fun _ _ _ h => h) hU3 ?_
        simp only [Act.put, List.setIfInBounds_toArray, List.set_cons_zero, List.set_cons_succ]
        refine chain_take (i := 19) (d := 42) (v := .slice (some ⟨b, o, none⟩) L.length cap) rfl rfl (by kernel_rfl) (by kernel_rfl) (by kernel_rfl) rfl (fun _ _ => rfl) (fun _ _ _ h => h) hU3 ?_
        simp only [Act.put, List.setIfInBounds_toArray, List.set_cons_zero, List.set_cons_succ]
        refine chain_take (i := 20) (d := 43) (v := .int .i64 i) rfl rfl (by kernel_rfl) (by kernel_rfl) (by kernel_rfl) rfl (fun _ _ => rfl) (fun _ _ _ h => h) hU3 ?_
        simp only [Act.put, List.setIfInBounds_toArray, List.set_cons_zero, List.set_cons_succ]
        refine chain_take (i := 21) (d := 44) (v := .pointer (some ⟨b, o + i * 2, none⟩)) rfl rfl (by kernel_rfl) (by kernel_rfl) (by kernel_rfl) rfl (fun _ _ => (by go_simp)) (fun _ _ _ h => h) hU3 ?_
        simp only [Act.put, List.setIfInBounds_toArray, List.set_cons_zero, List.set_cons_succ]
        refine chain_take (i := 22) (d := 45) (v := .pointer (some ⟨b, o + i * 2 + 1, none⟩)) rfl rfl (by kernel_rfl) (by kernel_rfl) (by kernel_rfl) rfl (fun _ _ => (by go_simp)) (fun _ _ _ h => h) hU3 ?_
        simp only [Act.put, List.setIfInBounds_toArray, List.set_cons_zero, List.set_cons_succ]
        refine chain_take (i := 23) (d := 46) (v := .int .i64 n) rfl rfl (by kernel_rfl) (by kernel_rfl) (by kernel_rfl) rfl (fun W h => (by have u0 := cell_below h.out _ _ _ d1; go_simp)) (fun _ _ _ h => h) hU3 ?_
        simp only [Act.put, List.setIfInBounds_toArray, List.set_cons_zero, List.set_cons_succ]
        refine chain_take (i := 25) (d := 48) (v := .pointer (some ⟨q, 0, none⟩)) rfl rfl (by kernel_rfl) (by kernel_rfl) (by kernel_rfl) rfl (fun _ _ => rfl) (fun _ _ _ h => h) hU3 ?_
        simp only [Act.put, List.setIfInBounds_toArray, List.set_cons_zero, List.set_cons_succ]
        refine chain_take (i := 26) (d := 49) (v := .slice (some ⟨b, o, none⟩) L.length cap) rfl rfl (by kernel_rfl) (by kernel_rfl) (by kernel_rfl) rfl (fun _ _ => rfl) (fun _ _ _ h => h) hU3 ?_
        simp only [Act.put, List.setIfInBounds_toArray, List.set_cons_zero, List.set_cons_succ]
        refine chain_take (i := 27) (d := 50) (v := .int .i64 i) rfl rfl (by kernel_rfl) (by kernel_rfl) (by kernel_rfl) rfl (fun _ _ => rfl) (fun _ _ _ h => h) hU3 ?_
        simp only [Act.put, List.setIfInBounds_toArray, List.set_cons_zero, List.set_cons_succ]
        refine chain_take (i := 28) (d := 51) (v := .pointer (some ⟨b, o + i * 2, none⟩)) rfl rfl (by kernel_rfl) (by kernel_rfl) (by kernel_rfl) rfl (fun _ _ => (by go_simp)) (fun _ _ _ h => h) hU3 ?_
        simp only [Act.put, List.setIfInBounds_toArray, List.set_cons_zero, List.set_cons_succ]
        refine chain_take (i := 29) (d := 52) (v := .pointer (some ⟨b, o + i * 2 + 1, none⟩)) rfl rfl (by kernel_rfl) (by kernel_rfl) (by kernel_rfl) rfl (fun _ _ => (by go_simp)) (fun _ _ _ h => h) hU3 ?_
        simp only [Act.put, List.setIfInBounds_toArray, List.set_cons_zero, List.set_cons_succ]
        refine chain_take (i := 30) (d := 53) (v := .int .i64 n) rfl rfl (by kernel_rfl) (by kernel_rfl) (by kernel_rfl) rfl (fun W h => (by have u0 := cell_below h.out _ _ _ d1; go_simp)) (fun _ _ _ h => h) hU3 ?_
        simp only [Act.put, List.setIfInBounds_toArray, List.set_cons_zero, List.set_cons_succ]
        refine chain_call (i := 24) (d := 47) (f := 9) (args := #[.pointer (some ⟨p, 0, none⟩), .int .i64 n]) (by kernel_rfl) rfl rfl rfl (by go_simp) ?_
        refine (h3.ofC n HN.out).mono ?_
        rintro e w4 ⟨rfl, rfl⟩
        refine ⟨.int .i64 (cnt n R'), rfl, (Up.refl w3), ?_⟩
        simp only [Act.put, List.setIfInBounds_toArray, List.set_cons_zero, List.set_cons_succ]
        refine chain_call (i := 31) (d := 54) (f := 10) (args := #[.pointer (some ⟨q, 0, none⟩), .int .i64 n]) (by kernel_rfl) rfl rfl rfl (by go_simp) ?_
        refine (h3.ofR n hR1).mono ?_
        rintro e w4 ⟨rfl, rfl⟩
        refine ⟨.int .i64 (cnt n R'), rfl, (Up.refl w3), ?_⟩
        simp only [Act.put, List.setIfInBounds_toArray, List.set_cons_zero, List.set_cons_succ]
        refine chain_take (i := 32) (d := 55) (v := .bool false) rfl rfl (by kernel_rfl) (by kernel_rfl) (by kernel_rfl) rfl (fun _ _ => (by go_simp)) (fun _ _ _ h => h) hU3 ?_
        simp only [Act.put, List.setIfInBounds_toArray, List.set_cons_zero, List.set_cons_succ]
        refine chain_take (i := 33) (d := 56) (v := .bool false) rfl rfl (by kernel_rfl) (by kernel_rfl) (by kernel_rfl) rfl (fun _ _ => (by go_simp)) (fun _ _ _ h => h) hU3 ?_
        simp only [Act.put, List.setIfInBounds_toArray, List.set_cons_zero, List.set_cons_succ]
        refine chain_take (i := 34) (d := 57) (v := .bool false) rfl rfl (by kernel_rfl) (by kernel_rfl) (by kernel_rfl) rfl (fun _ _ => rfl) (fun _ _ _ h => h) hU3 ?_
        simp only [Act.put, List.setIfInBounds_toArray, List.set_cons_zero, List.set_cons_succ]
        refine chain_take (i := 35) (d := 58) (v := .pointer (some ⟨p, 0, none⟩)) rfl rfl (by kernel_rfl) (by kernel_rfl) (by kernel_rfl) rfl (fun _ _ => rfl) (fun _ _ _ h => h) hU3 ?_
        simp only [Act.put, List.setIfInBounds_toArray, List.set_cons_zero, List.set_cons_succ]
        refine chain_take (i := 37) (d := 60) (v := .pointer (some ⟨q, 0, none⟩)) rfl rfl (by kernel_rfl) (by kernel_rfl) (by kernel_rfl) rfl (fun _ _ => rfl) (fun _ _ _ h => h) hU3 ?_
        simp only [Act.put, List.setIfInBounds_toArray, List.set_cons_zero, List.set_cons_succ]
        refine chain_take (i := 38) (d := 61) (v := .pointer (some ⟨q, 0, none⟩)) rfl rfl (by kernel_rfl) (by kernel_rfl) (by kernel_rfl) rfl (fun _ _ => (by go_simp)) (fun _ _ _ h => h) hU3 ?_
        simp only [Act.put, List.setIfInBounds_toArray, List.set_cons_zero, List.set_cons_succ]
        refine chain_take (i := 39) (d := 62) (v := .pointer (some ⟨q, 0, none⟩)) rfl rfl (by kernel_rfl) (by kernel_rfl) (by kernel_rfl) rfl (fun _ _ => (by go_simp)) (fun _ _ _ h => h) hU3 ?_
        simp only [Act.put, List.setIfInBounds_toArray, List.set_cons_zero, List.set_cons_succ]
        refine chain_take (i := 40) (d := 63) (v := .slice ra R'.length rc) rfl rfl (by kernel_rfl) (by kernel_rfl) (by kernel_rfl) rfl (fun W h => (by have u0 := cell_below h.out _ _ _ q0; go_simp)) (fun _ _ _ h => h) hU3 ?_
        simp only [Act.put, List.setIfInBounds_toArray, List.set_cons_zero, List.set_cons_succ]
        refine chain_take (i := 41) (d := 64) (v := .int .i64 R'.length) rfl rfl (by kernel_rfl) (by kernel_rfl) (by kernel_rfl) rfl (fun _ _ => (by go_simp)) (fun _ _ _ h => h) hU3 ?_
        simp only [Act.put, List.setIfInBounds_toArray, List.set_cons_zero, List.set_cons_succ]
        refine chain_call (i := 36) (d := 59) (f := 11) (args := #[.pointer (some ⟨p, 0, none⟩)]) (by kernel_rfl) rfl rfl rfl (by go_simp) ?_
        refine (h3.totalC).mono ?_
        rintro e w4 ⟨rfl, rfl⟩
        refine ⟨.int .i64 R'.length, rfl, (Up.refl w3), ?_⟩
        simp only [Act.put, List.setIfInBounds_toArray, List.set_cons_zero, List.set_cons_succ]
        refine chain_take (i := 42) (d := 65) (v := .bool false) rfl rfl (by kernel_rfl) (by kernel_rfl) (by kernel_rfl) rfl (fun _ _ => (by go_simp)) (fun _ _ _ h => h) hU3 ?_
        simp only [Act.put, List.setIfInBounds_toArray, List.set_cons_zero, List.set_cons_succ]
        refine chain_take (i := 43) (d := 66) (v := .bool false) rfl rfl (by kernel_rfl) (by kernel_rfl) (by kernel_rfl) rfl (fun _ _ => (by go_simp)) (fun _ _ _ h => h) hU3 ?_
        simp only [Act.put, List.setIfInBounds_toArray, List.set_cons_zero, List.set_cons_succ]
        refine wpAnyH_done (by kernel_rfl) ?_ _
        have T3 := Hid.mk h3
        have H4 := Hid.mk h4
        have HR1 := Hid.mk hR1
        clear h3 h4 hR1 q0 d0 d1
        go_wp2_with (first
          | (go_at_call 12; refine (T3.out.holdC HR1.out).mono ?_; rintro e w4 ⟨ha, hc, rfl, hrow, hg, hb⟩; have T4 := Hid.mk (T3.out.add hb (fun k => (Value.slice ha (hold R').length hc).ownBlock = some k) hg); have N4 := Hid.mk hrow; have G4 := Hid.mk hg; clear hrow hg hb)
          | (go_at_call 14; refine (T4.out.holdR T4.out.good HR1.out).mono ?_; rintro e w5 ⟨ka, kc, rfl, hcel, hb⟩; have T5 := Hid.mk (T4.out.up hb); have N5 := Hid.mk (nums_kept N4.out (Only.up (S := fun _ => False) hb) (fun _ _ f => f)); have C5 := Hid.mk hcel; clear hcel hb)
          | (go_at_call 13; refine (sameInts_refl (hold R') ha ka hc kc _ (nums_celA N5.out) C5.out (by have := hold_len R'; have := HR1.out; omega)).mono ?_; rintro e w6 ⟨rfl, hb⟩; have T6 := Hid.mk (T5.out.up hb); have N6 := Hid.mk (nums_kept N5.out (Only.up (S := fun _ => False) hb) (fun _ _ f => f)); clear hb)
          | (go_at_call 15; refine (overInts_any (hold R') ha _ hc _ N6.out).mono ?_; rintro e w7 ⟨⟨ux, rfl⟩, ho⟩; have T7 := Hid.mk ((T6.out.over ho (fun k hk => ⟨Or.inr hk, Nat.le_trans T3.out.below.size (G4.out k hk).1⟩)).weaken (F' := fun _ => False) (fun _ f => f.elim)); clear ho))
        go_roundw
        case rel => exact ⟨i + 1, R', HL.out, by first | rfl | go_num, T7, Hid.mk (by have := H4.out; have := hRi.out; omega)⟩
        case measure => have h1 : i < L.length := HL.out; simp [Go.RowKit.intOf]; omega
      · obtain rfl : i = L.length := by omega
        clear hlt
        go_wp2_with (go_at_call 16; refine (awake12_any _).mono ?_; rintro e w3 ⟨rfl, h⟩; have T3 := Hid.mk (hT.out.up h); clear h)
        go_ret
        exact ⟨rfl, T3.out.below⟩
end Go.Proofs.Ytgfelddgiabeoaa
