/-
  FixSums returns true.
-/
import Derived.Test.YtgfelddgiabeoaaFixK
import Derived.Test.YtgfelddgiabeoaaFixLs
import Derived.Test.YtgfelddgiabeoaaKitPick
namespace Go.Proofs.Ytgfelddgiabeoaa
open Go.RowKit Go.Deep Go.Maps Go.WideShapes

theorem NowC.holdN {B0 p bm : Nat} {w0 w : World} {L : List Int} (h : NowC B0 w0 w p bm L) (hL : L.length ≤ 1000) : Calls Try.prog 12 #[.pointer (some ⟨p, 0, none⟩)] w fun e w' => ∃ a cap, e = .returned (.slice a (hold L).length cap) ∧ CelI w' (hold L) a ∧ Below w.heap.size w w' := h.holders hL rfl
theorem rel_says {y : Int} {R : List Int} (h : R.length ≤ 1000) : ∃ (be : Bool) (mw : Int), ((relE y R : Int) == 0) = be ∧ IntKind.i64.wrap ((R.length : Int) - 1) = mw ∧ (((lessL y 1 R).length : Int) == mw) = be ∧ relB y R = (decide (0 < R.length) && (((lessL y 1 R).length : Int) == 0)) := by
  by_cases h0 : cnt y R = 0
  · refine ⟨false, (R.length : Int) - 1, ?_, wrap_id (by omega) (by omega), ?_, ?_⟩
    · unfold relE; rw [if_pos h0]; rfl
    · rw [lessL_none 1 h0]; simp; omega
    · unfold relB
      rw [if_pos h0, lessL_none 1 h0]
      by_cases hr : 0 < R.length
      · have : ((R.length : Int) == 0) = false := by simp; exact fun e => by subst e; simp at hr
        rw [this]; simp
      · simp [hr]
  · have h1 := lessL_len y R 1 (by omega)
    refine ⟨true, (R.length : Int) - 1, ?_, wrap_id (by omega) (by omega), ?_, ?_⟩
    · unfold relE; rw [if_neg h0]; rfl
    · simp; omega
    · unfold relB
      rw [if_neg h0, decide_eq_true (by omega), Bool.true_and]
theorem drop_says {y : Int} {R : List Int} : dropB y R = (decide (0 < R.length) && (((lessL y (cnt y R) R).length : Int) == 0)) ∧ (lessL y (cnt y R) R).length + cnt y R = R.length ∧ cnt y (lessL y (cnt y R) R) = 0 := by
  have h1 := lessL_len y R (cnt y R) (Nat.le_refl _)
  refine ⟨?_, h1, by rw [lessL_cnt, if_pos rfl]; omega⟩
  unfold dropB
  by_cases h0 : cnt y R = 0
  · rw [if_pos h0, lessL_none _ h0]
    by_cases hr : 0 < R.length
    · have : ((R.length : Int) == 0) = false := by simp; exact fun e => by subst e; simp at hr
      rw [this]; simp
    · simp [hr]
  · have := cnt_le y R
    rw [if_neg h0, decide_eq_true (by omega), Bool.true_and]

set_option maxRecDepth 100000 in
set_option maxHeartbeats 16000000 in
theorem lawSums12 (L : List Ac12) (a : Option Addr) (cap : Nat) (w : World) (hE : Els w 2 Ac12Ok L a) :
    Calls Try.prog 6 #[.slice a L.length cap] w fun e w' => e = .returned (.bool true) ∧ Below w.heap.size w w' := by
  by_cases h60 : 60 < L.length
  · have e2 : (60 : Int) < L.length := by omega
    clear hE
    go_enter Try.func6, Try.ntmps6
    go_wp2_with (first
      | (go_at_call 5; refine (known12_any _).mono ?_; rintro e w1 ⟨rfl, hb⟩; have hb1 := Hid.mk hb; clear hb)
      | (go_at_call 7; refine (now_newC _).mono ?_; rintro e w2 ⟨rfl, h⟩; have T0 := Hid.mk h; clear h))
    go_ret
    exact ⟨rfl, hb1.out.trans (T0.out.below.mono hb1.out.size)⟩
  · have e2 : ¬ (60 : Int) < L.length := by omega
    have hL := Hid.mk (show L.length ≤ 60 by omega)
    have HE := Hid.mk hE
    clear hE
    go_enter Try.func6, Try.ntmps6
    go_wp2_with (first
      | (go_at_call 5; refine (known12_any _).mono ?_; rintro e w1 ⟨rfl, hb⟩; have hb1 := Hid.mk hb; clear hb)
      | (go_at_call 7; refine (now_newC _).mono ?_; rintro e w2 ⟨rfl, h⟩; have T0 := Hid.mk h; clear h))
    clear e2 h60
    go_loopw [5] (fun ii wr => ∃ (i : Nat) (R : List Int), i ≤ L.length ∧ ii = .int .i64 i ∧ Hid (NowC w1.heap.size w1 wr (w1.heap.size + 1) w1.heap.size R) ∧ Hid (R.length ≤ i)) (fun ii _ => L.length - (Go.RowKit.intOf ii).toNat)
    case atStart => exact ⟨0, [], Nat.zero_le _, rfl, T0, Hid.mk (Nat.le_refl _)⟩
    case round =>
      obtain ⟨i, R, hi, rfl, hT, hRi⟩ := hrel
      by_cases hlt : i < L.length
      · obtain ⟨b, o, rfl, d0, d1, hk, hn⟩ := HE.out.call12 (hb1.out.trans (hT.out.below.mono hb1.out.size)) hlt
        have hwi : IntKind.i64.wrap ((i : Int) + 1) = ((i + 1 : Nat) : Int) := by have := hL.out; rw [wrap_id (by omega) (by omega)]; omega
        have hli : (i : Int) < L.length := by omega
        obtain ⟨A, hA⟩ : ∃ A, L[i]'hlt = A := ⟨_, rfl⟩
        rw [hA] at d0 d1
        obtain ⟨k, n⟩ := A
        simp only at d0 d1
        have HL := Hid.mk hlt
        have HR := Hid.mk (show R.length ≤ 900 by have := hRi.out; have := hL.out; omega)
        obtain ⟨y, hy4, hp1⟩ := pick_fun n 4 (by decide) (by decide)
        obtain ⟨z, hz3, hp2⟩ := pick_fun k 3 (by decide) (by decide)
        have HP1 := Hid.mk hp1
        have HP2 := Hid.mk hp2
        have HY := Hid.mk hy4
        obtain ⟨m0, hm0⟩ : ∃ m0, R.length = m0 := ⟨_, rfl⟩
        have HM0 := Hid.mk hm0
        have htot := hT.out.total
        rw [hm0] at htot
        have HTOT := Hid.mk htot
        clear hA hk hn hlt hp1 hp2 hy4 htot
        by_cases hz0 : z = 0
        · clear hz3
          have hz3 : (z : Int) < 1 := by omega
          obtain rfl : z = 0 := by omega
          have HF := Hid.mk (show ∃ R', R' = R ++ [(y : Int)] ∧ R'.length ≤ i + 1 ∧ R'.length ≤ 1000 ∧ false = (decide (0 < m0) && ((R'.length : Int) == 0)) from ⟨_, rfl, by have := hRi.out; simp; omega, by have := HR.out; simp; omega, by have e : (((R ++ [(y : Int)]).length : Int) == 0) = false := by { simp; omega }; rw [e]; simp⟩)
          obtain ⟨R', hR', hF⟩ := HF.out
          have HF' := Hid.mk hF
          have hC := fun (h0 : NowC w1.heap.size w1 wr (w1.heap.size + 1) w1.heap.size R) => h0.add y (by omega) (by have := HY.out; omega) (by have := HR.out; omega)
          rw [← hR'] at hC
          have HC := Hid.mk hC
          obtain ⟨lb, hlb⟩ : ∃ lb, false = lb := ⟨_, rfl⟩
          have hlb' := hF.2.2
          clear hz3 hm0 HF hR' hF hC hlb hlb'
          go_wp2_with (first
            | (go_at_call 21; have g := tk1; refine (HP2.out _).mono ?_; rintro e x2 ⟨rfl, rfl⟩; have tk2 := True.intro)
            | (go_at_call 21; refine (HP1.out _).mono ?_; rintro e x1 ⟨rfl, rfl⟩; have tk1 := True.intro)
            | (go_at_call 11; refine HTOT.out.mono ?_; rintro e x3 ⟨rfl, rfl⟩; have tk3 := True.intro)
            | (go_at_call 19; refine (HC.out hT.out).mono ?_; rintro e w3 ⟨rfl, h⟩; have T3 := Hid.mk h; clear h)
            | (go_at_call 12; refine (T3.out.holdN HF'.out.2.1).mono ?_; rintro e w4 ⟨ha, hc, rfl, hcel, hb⟩; have T4 := Hid.mk (T3.out.up hb); have C4 := Hid.mk hcel; clear hcel hb))
          obtain ⟨N, hN⟩ : ∃ N, (hold R').length = N := ⟨_, rfl⟩
          have HN := Hid.mk (show (hold R').length = N ∧ N ≤ R'.length ∧ R'.length ≤ 1000 from ⟨hN, by rw [← hN]; exact hold_len R', HF'.out.2.1⟩)
          rw [hN]
          clear hN d0 d1
          go_loopw [13, 15] (fun ss kk w5 => ∃ (j : Nat), j ≤ N ∧ ss = .int .i64 (sumH R' j) ∧ kk = .int .i64 j ∧ Hid (NowC w1.heap.size w1 w5 (w1.heap.size + 1) w1.heap.size R') ∧ Hid (CelI w5 (hold R') ha)) (fun _ kk _ => N - (Go.RowKit.intOf kk).toNat)
          case atStart => exact ⟨0, Nat.zero_le _, rfl, rfl, T4, C4⟩
          case round =>
            obtain ⟨j, hj, rfl, rfl, hT5, hC5⟩ := hrel
            obtain ⟨hNN, hNR, hR1⟩ := HN.out
            by_cases hlt : j < N
            · obtain ⟨b2, o2, rfl, hcell⟩ := hC5.out (by omega)
              have hjj : j < (hold R').length := by omega
              have f0 := hcell j hjj
              have hst := sumH_succ hjj
              have hle := sumH_le R' (k := j + 1) (by omega)
              have hpos := cnt_pos (List.getElem_mem hjj)
              have hgd := hT5.out.cn.good _ (hold_mem.1 (List.getElem_mem hjj))
              obtain ⟨hv, hhv⟩ : ∃ hv, (hold R')[j]'hjj = hv := ⟨_, rfl⟩
              have hmid := fun (h0 : 0 < j) => (show ∃ x, wr.cell? ⟨b2, o2 + (j - 1), none⟩ = some (.int .i64 x) ∧ x < hv from ⟨_, hcell (j - 1) (by omega), by rw [← hhv]; exact hold_lt (by omega) hjj⟩)
              rw [hhv] at f0 hst hpos hgd
              obtain ⟨S0, hS0⟩ : ∃ S0, sumH R' j = S0 := ⟨_, rfl⟩
              obtain ⟨cv, hcv⟩ : ∃ cv, cnt hv R' = cv := ⟨_, rfl⟩
              rw [hS0, hcv] at hst
              rw [hS0]
              rw [hcv] at hpos
              have hwj : IntKind.i64.wrap ((j : Int) + 1) = ((j + 1 : Nat) : Int) := by rw [wrap_id (by omega) (by omega)]; omega
              have hws : IntKind.i64.wrap ((S0 : Int) + cv) = ((S0 + cv : Nat) : Int) := by rw [wrap_id (by omega) (by omega)]; omega
              have hjm : (j : Int) < N := by omega
              have HO := Hid.mk (hT5.out.of hv ⟨by omega, by omega⟩ hcv)
              have HST := Hid.mk hst
              have HJ := Hid.mk hlt
              have hcv1 : decide ((cv : Int) < 1) = false := by rw [decide_eq_false_iff_not]; omega
              obtain ⟨S1, hS1⟩ : ∃ S1, S0 + cv = S1 := ⟨_, rfl⟩
              rw [hS1] at hws HST
              obtain ⟨J1, hJ1⟩ : ∃ J1, j + 1 = J1 := ⟨_, rfl⟩
              rw [hJ1] at hwj HST
              have HJ1 := Hid.mk hJ1
              by_cases h0 : 0 < j
              · obtain ⟨xv, f1, hxv⟩ := hmid h0
                have hj0 : decide ((0 : Int) < j) = true := by rw [decide_eq_true_eq]; omega
                have hcmp : decide (hv ≤ xv) = false := by rw [decide_eq_false_iff_not]; omega
                have hwp : IntKind.i64.wrap ((j : Int) - 1) = ((j - 1 : Nat) : Int) := by rw [wrap_id (by omega) (by omega)]; omega
                obtain ⟨jp, hjp⟩ : ∃ jp, j - 1 = jp := ⟨_, rfl⟩
                have hjpN : (jp : Int) < N := by omega
                have hjpN' : jp < N := by omega
                rw [hjp] at f1 hwp
                have HF1 := Hid.mk f1
                have H0 := Hid.mk h0
                clear hmid hcell hst hle hhv hpos hgd hS0 hcv hjj hlt hNN hNR hR1 hj h0 hxv hjp hS1 hJ1
                go_upto_region 32 with (first
                  | (go_at_call 9; refine HO.out.mono ?_; rintro e x5 ⟨rfl, rfl⟩))
                refine region_up (W := wr) (by kernel_rfl) (by kernel_rfl) (Up.refl _) ?_
                refine quiet_value (v := .int .i64 cv) rfl (fun _ _ => rfl) ?_
                simp only [Act.put, List.setIfInBounds_toArray, List.set_cons_zero, List.set_cons_succ]
                refine quiet_value (v := .bool false) rfl (fun _ _ => (by go_simp)) ?_
                simp only [Act.put, List.setIfInBounds_toArray, List.set_cons_zero, List.set_cons_succ]
                refine quiet_value (v := .bool false) rfl (fun _ _ => rfl) ?_
                simp only [Act.put, List.setIfInBounds_toArray, List.set_cons_zero, List.set_cons_succ]
                refine quiet_value (v := .int .i64 j) rfl (fun _ _ => rfl) ?_
                simp only [Act.put, List.setIfInBounds_toArray, List.set_cons_zero, List.set_cons_succ]
                refine quiet_value (v := .bool true) rfl (fun _ _ => (by go_simp; (have := H0.out; omega))) ?_
                simp only [Act.put, List.setIfInBounds_toArray, List.set_cons_zero, List.set_cons_succ]
                refine quiet_value (v := .bool true) rfl (fun _ _ => rfl) ?_
                simp only [Act.put, List.setIfInBounds_toArray, List.set_cons_zero, List.set_cons_succ]
                refine quiet_value (v := .slice (some ⟨b2, o2, none⟩) N hc) rfl (fun _ _ => rfl) ?_
                simp only [Act.put, List.setIfInBounds_toArray, List.set_cons_zero, List.set_cons_succ]
                refine quiet_value (v := .int .i64 j) rfl (fun _ _ => rfl) ?_
                simp only [Act.put, List.setIfInBounds_toArray, List.set_cons_zero, List.set_cons_succ]
                refine quiet_value (v := .pointer (some ⟨b2, o2 + j, none⟩)) rfl (fun _ _ => (by go_simp)) ?_
                simp only [Act.put, List.setIfInBounds_toArray, List.set_cons_zero, List.set_cons_succ]
                refine quiet_value (v := .int .i64 hv) rfl (fun W h => (by have u0 := cell_below h.out _ _ _ f0; go_simp)) ?_
                simp only [Act.put, List.setIfInBounds_toArray, List.set_cons_zero, List.set_cons_succ]
                refine quiet_value (v := .slice (some ⟨b2, o2, none⟩) N hc) rfl (fun _ _ => rfl) ?_
                simp only [Act.put, List.setIfInBounds_toArray, List.set_cons_zero, List.set_cons_succ]
                refine quiet_value (v := .int .i64 j) rfl (fun _ _ => rfl) ?_
                simp only [Act.put, List.setIfInBounds_toArray, List.set_cons_zero, List.set_cons_succ]
                refine quiet_value (v := .int .i64 jp) rfl (fun _ _ => (by go_simp)) ?_
                simp only [Act.put, List.setIfInBounds_toArray, List.set_cons_zero, List.set_cons_succ]
                refine quiet_value (v := .pointer (some ⟨b2, o2 + jp, none⟩)) rfl (fun _ _ => (by go_simp)) ?_
                simp only [Act.put, List.setIfInBounds_toArray, List.set_cons_zero, List.set_cons_succ]
                refine quiet_value (v := .int .i64 xv) rfl (fun W h => (by have u0 := cell_below h.out _ _ _ f1; go_simp)) ?_
                simp only [Act.put, List.setIfInBounds_toArray, List.set_cons_zero, List.set_cons_succ]
                refine quiet_value (v := .bool false) rfl (fun _ _ => (by go_simp)) ?_
                simp only [Act.put, List.setIfInBounds_toArray, List.set_cons_zero, List.set_cons_succ]
                refine quiet_value (v := .bool false) rfl (fun _ _ => (by go_simp)) ?_
                simp only [Act.put, List.setIfInBounds_toArray, List.set_cons_zero, List.set_cons_succ]
                refine quiet_value (v := .bool false) rfl (fun _ _ => (by go_simp)) ?_
                simp only [Act.put, List.setIfInBounds_toArray, List.set_cons_zero, List.set_cons_succ]
                refine quiet_nil ?_
                intro w6 hw6
                have T6 := Hid.mk (hT5.out.up hw6.out)
                have C6 := Hid.mk (hC5.out.up hw6.out)
                go_wp2
                go_roundw
                case rel => exact ⟨J1, by have := HJ1.out; have : j < N := HJ.out; omega, by rw [HST.out], by first | rfl | go_num, T6, C6⟩
                case measure => have h1 : j < N := HJ.out; have := HJ1.out; simp [Go.RowKit.intOf]; omega
              · have hj0 : decide ((0 : Int) < j) = false := by rw [decide_eq_false_iff_not]; omega
                have H0 := Hid.mk h0
                clear hmid hcell hst hle hhv hpos hgd hS0 hcv hjj hlt hNN hNR hR1 hj h0 hS1 hJ1
                go_upto_region 32 with (first
                  | (go_at_call 9; refine HO.out.mono ?_; rintro e x5 ⟨rfl, rfl⟩))
                refine region_up (W := wr) (by kernel_rfl) (by kernel_rfl) (Up.refl _) ?_
                refine quiet_value (v := .int .i64 cv) rfl (fun _ _ => rfl) ?_
                simp only [Act.put, List.setIfInBounds_toArray, List.set_cons_zero, List.set_cons_succ]
                refine quiet_value (v := .bool false) rfl (fun _ _ => (by go_simp)) ?_
                simp only [Act.put, List.setIfInBounds_toArray, List.set_cons_zero, List.set_cons_succ]
                refine quiet_value (v := .bool false) rfl (fun _ _ => rfl) ?_
                simp only [Act.put, List.setIfInBounds_toArray, List.set_cons_zero, List.set_cons_succ]
                refine quiet_value (v := .int .i64 j) rfl (fun _ _ => rfl) ?_
                simp only [Act.put, List.setIfInBounds_toArray, List.set_cons_zero, List.set_cons_succ]
                refine quiet_value (v := .bool false) rfl (fun _ _ => (by go_simp; (have := H0.out; omega))) ?_
                simp only [Act.put, List.setIfInBounds_toArray, List.set_cons_zero, List.set_cons_succ]
                refine quiet_value (v := .bool false) rfl (fun _ _ => rfl) ?_
                simp only [Act.put, List.setIfInBounds_toArray, List.set_cons_zero, List.set_cons_succ]
                refine quiet_not rfl ?_
                simp only [Act.put, List.setIfInBounds_toArray, List.set_cons_zero, List.set_cons_succ]
                refine quiet_not rfl ?_
                simp only [Act.put, List.setIfInBounds_toArray, List.set_cons_zero, List.set_cons_succ]
                refine quiet_not rfl ?_
                simp only [Act.put, List.setIfInBounds_toArray, List.set_cons_zero, List.set_cons_succ]
                refine quiet_not rfl ?_
                simp only [Act.put, List.setIfInBounds_toArray, List.set_cons_zero, List.set_cons_succ]
                refine quiet_not rfl ?_
                simp only [Act.put, List.setIfInBounds_toArray, List.set_cons_zero, List.set_cons_succ]
                refine quiet_not rfl ?_
                simp only [Act.put, List.setIfInBounds_toArray, List.set_cons_zero, List.set_cons_succ]
                refine quiet_not rfl ?_
                simp only [Act.put, List.setIfInBounds_toArray, List.set_cons_zero, List.set_cons_succ]
                refine quiet_not rfl ?_
                simp only [Act.put, List.setIfInBounds_toArray, List.set_cons_zero, List.set_cons_succ]
                refine quiet_not rfl ?_
                simp only [Act.put, List.setIfInBounds_toArray, List.set_cons_zero, List.set_cons_succ]
                refine quiet_not rfl ?_
                simp only [Act.put, List.setIfInBounds_toArray, List.set_cons_zero, List.set_cons_succ]
                refine quiet_value (v := .bool false) rfl (fun _ _ => (by go_simp)) ?_
                simp only [Act.put, List.setIfInBounds_toArray, List.set_cons_zero, List.set_cons_succ]
                refine quiet_value (v := .bool false) rfl (fun _ _ => (by go_simp)) ?_
                simp only [Act.put, List.setIfInBounds_toArray, List.set_cons_zero, List.set_cons_succ]
                refine quiet_nil ?_
                intro w6 hw6
                have T6 := Hid.mk (hT5.out.up hw6.out)
                have C6 := Hid.mk (hC5.out.up hw6.out)
                go_wp2
                go_roundw
                case rel => exact ⟨J1, by have := HJ1.out; have : j < N := HJ.out; omega, by rw [HST.out], by first | rfl | go_num, T6, C6⟩
                case measure => have h1 : j < N := HJ.out; have := HJ1.out; simp [Go.RowKit.intOf]; omega
            · obtain rfl : j = N := by omega
              have hsum : sumH R' j = R'.length := by rw [← hNN]; exact sumH_all R'
              rw [hsum]
              obtain ⟨M1, hM1⟩ : ∃ M1, R'.length = M1 := ⟨_, rfl⟩
              have htt := hT5.out.total
              have hlb := HF'.out.2.2
              have hl1 := HF'.out.1
              rw [hM1] at htt hlb hl1
              rw [hM1]
              have HTT := Hid.mk htt
              have HL1 := Hid.mk (And.intro hM1 hl1)
              by_cases hw0 : 0 < m0
              · have hw0' : (0 : Int) < m0 := by omega
                rw [decide_eq_true hw0, Bool.true_and] at hlb
                replace hlb := hlb.symm
                clear hlt hNN hNR hR1 hsum hM1 htt hl1
                go_wp2_with (go_at_call 11; refine HTT.out.mono ?_; rintro e x6 ⟨rfl, rfl⟩)
                go_roundw
                case rel => exact ⟨i + 1, R', HL.out, by first | rfl | go_num, hT5, Hid.mk (by have := HL1.out; omega)⟩
                case measure => have h1 : i < L.length := HL.out; simp [Go.RowKit.intOf]; omega
              · have hw0' : ¬ (0 : Int) < m0 := by omega
                rw [decide_eq_false hw0, Bool.false_and] at hlb
                clear hlb
                clear hlt hNN hNR hR1 hsum hM1 htt hl1
                go_wp2_with (go_at_call 11; refine HTT.out.mono ?_; rintro e x6 ⟨rfl, rfl⟩)
                go_roundw
                case rel => exact ⟨i + 1, R', HL.out, by first | rfl | go_num, hT5, Hid.mk (by have := HL1.out; omega)⟩
                case measure => have h1 : i < L.length := HL.out; simp [Go.RowKit.intOf]; omega
        · by_cases hz1 : z = 1
          · obtain rfl : z = 1 := by omega
            obtain ⟨be, mw, r1, r2, r3, r4⟩ := rel_says (y := y) (R := R) (by have := HR.out; omega)
            have hF : (lessL y 1 R).length ≤ i + 1 ∧ (lessL y 1 R).length ≤ 1000 ∧ relB y R = (decide (0 < m0) && (((lessL y 1 R).length : Int) == 0)) := ⟨by have := hRi.out; have := lessL_le y R 1; omega, by have := HR.out; have := lessL_le y R 1; omega, by rw [← hm0]; exact r4⟩
            have hC := hT.out.rel y (by have := HY.out; unfold In64; omega) (by have := HR.out; omega) rfl rfl rfl
            obtain ⟨R', hR'⟩ : ∃ R', lessL y 1 R = R' := ⟨_, rfl⟩
            obtain ⟨lb, hlb⟩ : ∃ lb, relB y R = lb := ⟨_, rfl⟩
            obtain ⟨er, her⟩ : ∃ er : Nat, relE y R = er := ⟨_, rfl⟩
            rw [hR', hlb] at hF
            rw [hR', hlb, her] at hC
            rw [hR'] at r3
            rw [her] at r1
            rw [hm0] at r2
            have HF' := Hid.mk hF
            have HC := Hid.mk hC
            obtain ⟨N1, hN1⟩ : ∃ N1, R'.length = N1 := ⟨_, rfl⟩
            have HN1 := Hid.mk hN1
            rw [hN1] at r3
            clear hz3 hm0 r4 hF hC hR' hlb her hN1
            go_wp2_with (first
              | (go_at_call 21; have g := tk1; refine (HP2.out _).mono ?_; rintro e x2 ⟨rfl, rfl⟩; have tk2 := True.intro)
              | (go_at_call 21; refine (HP1.out _).mono ?_; rintro e x1 ⟨rfl, rfl⟩; have tk1 := True.intro)
              | (go_at_call 11; have g := T3; have htt := T3.out.total; rw [HN1.out] at htt; refine htt.mono ?_; rintro e x3 ⟨rfl, rfl⟩; clear htt)
              | (go_at_call 11; refine HTOT.out.mono ?_; rintro e x3 ⟨rfl, rfl⟩; have tk3 := True.intro)
              | (go_at_call 17; refine HC.out.mono ?_; rintro e w3 ⟨rfl, h⟩; have T3 := Hid.mk h; clear h)
              | (go_at_call 12; refine (T3.out.holdN HF'.out.2.1).mono ?_; rintro e w4 ⟨ha, hc, rfl, hcel, hb⟩; have T4 := Hid.mk (T3.out.up hb); have C4 := Hid.mk hcel; clear hcel hb))
            clear r1 r2 r3
            obtain ⟨N, hN⟩ : ∃ N, (hold R').length = N := ⟨_, rfl⟩
            have HN := Hid.mk (show (hold R').length = N ∧ N ≤ R'.length ∧ R'.length ≤ 1000 from ⟨hN, by rw [← hN]; exact hold_len R', HF'.out.2.1⟩)
            rw [hN]
            clear hN d0 d1
            go_loopw [13, 15] (fun ss kk w5 => ∃ (j : Nat), j ≤ N ∧ ss = .int .i64 (sumH R' j) ∧ kk = .int .i64 j ∧ Hid (NowC w1.heap.size w1 w5 (w1.heap.size + 1) w1.heap.size R') ∧ Hid (CelI w5 (hold R') ha)) (fun _ kk _ => N - (Go.RowKit.intOf kk).toNat)
            case atStart => exact ⟨0, Nat.zero_le _, rfl, rfl, T4, C4⟩
            case round =>
              obtain ⟨j, hj, rfl, rfl, hT5, hC5⟩ := hrel
              obtain ⟨hNN, hNR, hR1⟩ := HN.out
              by_cases hlt : j < N
              · obtain ⟨b2, o2, rfl, hcell⟩ := hC5.out (by omega)
                have hjj : j < (hold R').length := by omega
                have f0 := hcell j hjj
                have hst := sumH_succ hjj
                have hle := sumH_le R' (k := j + 1) (by omega)
                have hpos := cnt_pos (List.getElem_mem hjj)
                have hgd := hT5.out.cn.good _ (hold_mem.1 (List.getElem_mem hjj))
                obtain ⟨hv, hhv⟩ : ∃ hv, (hold R')[j]'hjj = hv := ⟨_, rfl⟩
                have hmid := fun (h0 : 0 < j) => (show ∃ x, wr.cell? ⟨b2, o2 + (j - 1), none⟩ = some (.int .i64 x) ∧ x < hv from ⟨_, hcell (j - 1) (by omega), by rw [← hhv]; exact hold_lt (by omega) hjj⟩)
                rw [hhv] at f0 hst hpos hgd
                obtain ⟨S0, hS0⟩ : ∃ S0, sumH R' j = S0 := ⟨_, rfl⟩
                obtain ⟨cv, hcv⟩ : ∃ cv, cnt hv R' = cv := ⟨_, rfl⟩
                rw [hS0, hcv] at hst
                rw [hS0]
                rw [hcv] at hpos
                have hwj : IntKind.i64.wrap ((j : Int) + 1) = ((j + 1 : Nat) : Int) := by rw [wrap_id (by omega) (by omega)]; omega
                have hws : IntKind.i64.wrap ((S0 : Int) + cv) = ((S0 + cv : Nat) : Int) := by rw [wrap_id (by omega) (by omega)]; omega
                have hjm : (j : Int) < N := by omega
                have HO := Hid.mk (hT5.out.of hv ⟨by omega, by omega⟩ hcv)
                have HST := Hid.mk hst
                have HJ := Hid.mk hlt
                have hcv1 : decide ((cv : Int) < 1) = false := by rw [decide_eq_false_iff_not]; omega
                obtain ⟨S1, hS1⟩ : ∃ S1, S0 + cv = S1 := ⟨_, rfl⟩
                rw [hS1] at hws HST
                obtain ⟨J1, hJ1⟩ : ∃ J1, j + 1 = J1 := ⟨_, rfl⟩
                rw [hJ1] at hwj HST
                have HJ1 := Hid.mk hJ1
                by_cases h0 : 0 < j
                · obtain ⟨xv, f1, hxv⟩ := hmid h0
                  have hj0 : decide ((0 : Int) < j) = true := by rw [decide_eq_true_eq]; omega
                  have hcmp : decide (hv ≤ xv) = false := by rw [decide_eq_false_iff_not]; omega
                  have hwp : IntKind.i64.wrap ((j : Int) - 1) = ((j - 1 : Nat) : Int) := by rw [wrap_id (by omega) (by omega)]; omega
                  obtain ⟨jp, hjp⟩ : ∃ jp, j - 1 = jp := ⟨_, rfl⟩
                  have hjpN : (jp : Int) < N := by omega
                  have hjpN' : jp < N := by omega
                  rw [hjp] at f1 hwp
                  have HF1 := Hid.mk f1
                  have H0 := Hid.mk h0
                  clear hmid hcell hst hle hhv hpos hgd hS0 hcv hjj hlt hNN hNR hR1 hj h0 hxv hjp hS1 hJ1
                  go_upto_region 32 with (first
                    | (go_at_call 9; refine HO.out.mono ?_; rintro e x5 ⟨rfl, rfl⟩))
                  refine region_up (W := wr) (by kernel_rfl) (by kernel_rfl) (Up.refl _) ?_
                  refine quiet_value (v := .int .i64 cv) rfl (fun _ _ => rfl) ?_
                  simp only [Act.put, List.setIfInBounds_toArray, List.set_cons_zero, List.set_cons_succ]
                  refine quiet_value (v := .bool false) rfl (fun _ _ => (by go_simp)) ?_
                  simp only [Act.put, List.setIfInBounds_toArray, List.set_cons_zero, List.set_cons_succ]
                  refine quiet_value (v := .bool false) rfl (fun _ _ => rfl) ?_
                  simp only [Act.put, List.setIfInBounds_toArray, List.set_cons_zero, List.set_cons_succ]
                  refine quiet_value (v := .int .i64 j) rfl (fun _ _ => rfl) ?_
                  simp only [Act.put, List.setIfInBounds_toArray, List.set_cons_zero, List.set_cons_succ]
                  refine quiet_value (v := .bool true) rfl (fun _ _ => (by go_simp; (have := H0.out; omega))) ?_
                  simp only [Act.put, List.setIfInBounds_toArray, List.set_cons_zero, List.set_cons_succ]
                  refine quiet_value (v := .bool true) rfl (fun _ _ => rfl) ?_
                  simp only [Act.put, List.setIfInBounds_toArray, List.set_cons_zero, List.set_cons_succ]
                  refine quiet_value (v := .slice (some ⟨b2, o2, none⟩) N hc) rfl (fun _ _ => rfl) ?_
                  simp only [Act.put, List.setIfInBounds_toArray, List.set_cons_zero, List.set_cons_succ]
                  refine quiet_value (v := .int .i64 j) rfl (fun _ _ => rfl) ?_
                  simp only [Act.put, List.setIfInBounds_toArray, List.set_cons_zero, List.set_cons_succ]
                  refine quiet_value (v := .pointer (some ⟨b2, o2 + j, none⟩)) rfl (fun _ _ => (by go_simp)) ?_
                  simp only [Act.put, List.setIfInBounds_toArray, List.set_cons_zero, List.set_cons_succ]
                  refine quiet_value (v := .int .i64 hv) rfl (fun W h => (by have u0 := cell_below h.out _ _ _ f0; go_simp)) ?_
                  simp only [Act.put, List.setIfInBounds_toArray, List.set_cons_zero, List.set_cons_succ]
                  refine quiet_value (v := .slice (some ⟨b2, o2, none⟩) N hc) rfl (fun _ _ => rfl) ?_
                  simp only [Act.put, List.setIfInBounds_toArray, List.set_cons_zero, List.set_cons_succ]
                  refine quiet_value (v := .int .i64 j) rfl (fun _ _ => rfl) ?_
                  simp only [Act.put, List.setIfInBounds_toArray, List.set_cons_zero, List.set_cons_succ]
                  refine quiet_value (v := .int .i64 jp) rfl (fun _ _ => (by go_simp)) ?_
                  simp only [Act.put, List.setIfInBounds_toArray, List.set_cons_zero, List.set_cons_succ]
                  refine quiet_value (v := .pointer (some ⟨b2, o2 + jp, none⟩)) rfl (fun _ _ => (by go_simp)) ?_
                  simp only [Act.put, List.setIfInBounds_toArray, List.set_cons_zero, List.set_cons_succ]
                  refine quiet_value (v := .int .i64 xv) rfl (fun W h => (by have u0 := cell_below h.out _ _ _ f1; go_simp)) ?_
                  simp only [Act.put, List.setIfInBounds_toArray, List.set_cons_zero, List.set_cons_succ]
                  refine quiet_value (v := .bool false) rfl (fun _ _ => (by go_simp)) ?_
                  simp only [Act.put, List.setIfInBounds_toArray, List.set_cons_zero, List.set_cons_succ]
                  refine quiet_value (v := .bool false) rfl (fun _ _ => (by go_simp)) ?_
                  simp only [Act.put, List.setIfInBounds_toArray, List.set_cons_zero, List.set_cons_succ]
                  refine quiet_value (v := .bool false) rfl (fun _ _ => (by go_simp)) ?_
                  simp only [Act.put, List.setIfInBounds_toArray, List.set_cons_zero, List.set_cons_succ]
                  refine quiet_nil ?_
                  intro w6 hw6
                  have T6 := Hid.mk (hT5.out.up hw6.out)
                  have C6 := Hid.mk (hC5.out.up hw6.out)
                  go_wp2
                  go_roundw
                  case rel => exact ⟨J1, by have := HJ1.out; have : j < N := HJ.out; omega, by rw [HST.out], by first | rfl | go_num, T6, C6⟩
                  case measure => have h1 : j < N := HJ.out; have := HJ1.out; simp [Go.RowKit.intOf]; omega
                · have hj0 : decide ((0 : Int) < j) = false := by rw [decide_eq_false_iff_not]; omega
                  have H0 := Hid.mk h0
                  clear hmid hcell hst hle hhv hpos hgd hS0 hcv hjj hlt hNN hNR hR1 hj h0 hS1 hJ1
                  go_upto_region 32 with (first
                    | (go_at_call 9; refine HO.out.mono ?_; rintro e x5 ⟨rfl, rfl⟩))
                  refine region_up (W := wr) (by kernel_rfl) (by kernel_rfl) (Up.refl _) ?_
                  refine quiet_value (v := .int .i64 cv) rfl (fun _ _ => rfl) ?_
                  simp only [Act.put, List.setIfInBounds_toArray, List.set_cons_zero, List.set_cons_succ]
                  refine quiet_value (v := .bool false) rfl (fun _ _ => (by go_simp)) ?_
                  simp only [Act.put, List.setIfInBounds_toArray, List.set_cons_zero, List.set_cons_succ]
                  refine quiet_value (v := .bool false) rfl (fun _ _ => rfl) ?_
                  simp only [Act.put, List.setIfInBounds_toArray, List.set_cons_zero, List.set_cons_succ]
                  refine quiet_value (v := .int .i64 j) rfl (fun _ _ => rfl) ?_
                  simp only [Act.put, List.setIfInBounds_toArray, List.set_cons_zero, List.set_cons_succ]
                  refine quiet_value (v := .bool false) rfl (fun _ _ => (by go_simp; (have := H0.out; omega))) ?_
                  simp only [Act.put, List.setIfInBounds_toArray, List.set_cons_zero, List.set_cons_succ]
                  refine quiet_value (v := .bool false) rfl (fun _ _ => rfl) ?_
                  simp only [Act.put, List.setIfInBounds_toArray, List.set_cons_zero, List.set_cons_succ]
                  refine quiet_not rfl ?_
                  simp only [Act.put, List.setIfInBounds_toArray, List.set_cons_zero, List.set_cons_succ]
                  refine quiet_not rfl ?_
                  simp only [Act.put, List.setIfInBounds_toArray, List.set_cons_zero, List.set_cons_succ]
                  refine quiet_not rfl ?_
                  simp only [Act.put, List.setIfInBounds_toArray, List.set_cons_zero, List.set_cons_succ]
                  refine quiet_not rfl ?_
                  simp only [Act.put, List.setIfInBounds_toArray, List.set_cons_zero, List.set_cons_succ]
                  refine quiet_not rfl ?_
                  simp only [Act.put, List.setIfInBounds_toArray, List.set_cons_zero, List.set_cons_succ]
                  refine quiet_not rfl ?_
                  simp only [Act.put, List.setIfInBounds_toArray, List.set_cons_zero, List.set_cons_succ]
                  refine quiet_not rfl ?_
                  simp only [Act.put, List.setIfInBounds_toArray, List.set_cons_zero, List.set_cons_succ]
                  refine quiet_not rfl ?_
                  simp only [Act.put, List.setIfInBounds_toArray, List.set_cons_zero, List.set_cons_succ]
                  refine quiet_not rfl ?_
                  simp only [Act.put, List.setIfInBounds_toArray, List.set_cons_zero, List.set_cons_succ]
                  refine quiet_not rfl ?_
                  simp only [Act.put, List.setIfInBounds_toArray, List.set_cons_zero, List.set_cons_succ]
                  refine quiet_value (v := .bool false) rfl (fun _ _ => (by go_simp)) ?_
                  simp only [Act.put, List.setIfInBounds_toArray, List.set_cons_zero, List.set_cons_succ]
                  refine quiet_value (v := .bool false) rfl (fun _ _ => (by go_simp)) ?_
                  simp only [Act.put, List.setIfInBounds_toArray, List.set_cons_zero, List.set_cons_succ]
                  refine quiet_nil ?_
                  intro w6 hw6
                  have T6 := Hid.mk (hT5.out.up hw6.out)
                  have C6 := Hid.mk (hC5.out.up hw6.out)
                  go_wp2
                  go_roundw
                  case rel => exact ⟨J1, by have := HJ1.out; have : j < N := HJ.out; omega, by rw [HST.out], by first | rfl | go_num, T6, C6⟩
                  case measure => have h1 : j < N := HJ.out; have := HJ1.out; simp [Go.RowKit.intOf]; omega
              · obtain rfl : j = N := by omega
                have hsum : sumH R' j = R'.length := by rw [← hNN]; exact sumH_all R'
                rw [hsum]
                obtain ⟨M1, hM1⟩ : ∃ M1, R'.length = M1 := ⟨_, rfl⟩
                have htt := hT5.out.total
                have hlb := HF'.out.2.2
                have hl1 := HF'.out.1
                rw [hM1] at htt hlb hl1
                rw [hM1]
                have HTT := Hid.mk htt
                have HL1 := Hid.mk (And.intro hM1 hl1)
                by_cases hw0 : 0 < m0
                · have hw0' : (0 : Int) < m0 := by omega
                  rw [decide_eq_true hw0, Bool.true_and] at hlb
                  subst hlb
                  clear hlt hNN hNR hR1 hsum hM1 htt hl1
                  go_wp2_with (go_at_call 11; refine HTT.out.mono ?_; rintro e x6 ⟨rfl, rfl⟩)
                  go_roundw
                  case rel => exact ⟨i + 1, R', HL.out, by first | rfl | go_num, hT5, Hid.mk (by have := HL1.out; omega)⟩
                  case measure => have h1 : i < L.length := HL.out; simp [Go.RowKit.intOf]; omega
                · have hw0' : ¬ (0 : Int) < m0 := by omega
                  rw [decide_eq_false hw0, Bool.false_and] at hlb
                  subst hlb
                  clear hlt hNN hNR hR1 hsum hM1 htt hl1
                  go_wp2_with (go_at_call 11; refine HTT.out.mono ?_; rintro e x6 ⟨rfl, rfl⟩)
                  go_roundw
                  case rel => exact ⟨i + 1, R', HL.out, by first | rfl | go_num, hT5, Hid.mk (by have := HL1.out; omega)⟩
                  case measure => have h1 : i < L.length := HL.out; simp [Go.RowKit.intOf]; omega
          · obtain rfl : z = 2 := by omega
            obtain ⟨r4, r5, r6⟩ := drop_says (y := y) (R := R)
            have hF : (lessL y (cnt y R) R).length ≤ i + 1 ∧ (lessL y (cnt y R) R).length ≤ 1000 ∧ dropB y R = (decide (0 < m0) && (((lessL y (cnt y R) R).length : Int) == 0)) := ⟨by have := hRi.out; omega, by have := HR.out; omega, by rw [← hm0]; exact r4⟩
            have hC := hT.out.drop y (by have := HY.out; unfold In64; omega) (by have := HR.out; omega) rfl rfl rfl
            obtain ⟨cn, hcn⟩ : ∃ cn : Nat, cnt y R = cn := ⟨_, rfl⟩
            rw [hcn] at hF hC r5 r6
            obtain ⟨R', hR'⟩ : ∃ R', lessL y cn R = R' := ⟨_, rfl⟩
            obtain ⟨lb, hlb⟩ : ∃ lb, dropB y R = lb := ⟨_, rfl⟩
            rw [hR', hlb] at hF
            rw [hR', hlb] at hC
            rw [hR'] at r5 r6
            rw [hm0] at r5
            have HF' := Hid.mk hF
            have HC := Hid.mk hC
            have HOF := Hid.mk (fun w3 (h3 : NowC w1.heap.size w1 w3 (w1.heap.size + 1) w1.heap.size R') => h3.of y (by have := HY.out; unfold In64; omega) r6)
            obtain ⟨N1, hN1⟩ : ∃ N1, R'.length = N1 := ⟨_, rfl⟩
            have HN1 := Hid.mk hN1
            have r2 : IntKind.i64.wrap ((m0 : Int) - cn) = (N1 : Int) := by have := HR.out; rw [wrap_id (by omega) (by omega)]; omega
            clear hz3 hm0 r4 r5 r6 hF hC hR' hlb hcn hN1
            go_wp2_with (first
              | (go_at_call 21; have g := tk1; refine (HP2.out _).mono ?_; rintro e x2 ⟨rfl, rfl⟩; have tk2 := True.intro)
              | (go_at_call 21; refine (HP1.out _).mono ?_; rintro e x1 ⟨rfl, rfl⟩; have tk1 := True.intro)
              | (go_at_call 11; have g := T3; have htt := T3.out.total; rw [HN1.out] at htt; refine htt.mono ?_; rintro e x3 ⟨rfl, rfl⟩; clear htt)
              | (go_at_call 11; refine HTOT.out.mono ?_; rintro e x3 ⟨rfl, rfl⟩; have tk3 := True.intro)
              | (go_at_call 18; refine HC.out.mono ?_; rintro e w3 ⟨rfl, h⟩; have T3 := Hid.mk h; clear h)
              | (go_at_call 9; refine (HOF.out _ T3.out).mono ?_; rintro e x4 ⟨rfl, rfl⟩)
              | (go_at_call 12; refine (T3.out.holdN HF'.out.2.1).mono ?_; rintro e w4 ⟨ha, hc, rfl, hcel, hb⟩; have T4 := Hid.mk (T3.out.up hb); have C4 := Hid.mk hcel; clear hcel hb))
            clear r2
            obtain ⟨N, hN⟩ : ∃ N, (hold R').length = N := ⟨_, rfl⟩
            have HN := Hid.mk (show (hold R').length = N ∧ N ≤ R'.length ∧ R'.length ≤ 1000 from ⟨hN, by rw [← hN]; exact hold_len R', HF'.out.2.1⟩)
            rw [hN]
            clear hN d0 d1
            go_loopw [13, 15] (fun ss kk w5 => ∃ (j : Nat), j ≤ N ∧ ss = .int .i64 (sumH R' j) ∧ kk = .int .i64 j ∧ Hid (NowC w1.heap.size w1 w5 (w1.heap.size + 1) w1.heap.size R') ∧ Hid (CelI w5 (hold R') ha)) (fun _ kk _ => N - (Go.RowKit.intOf kk).toNat)
            case atStart => exact ⟨0, Nat.zero_le _, rfl, rfl, T4, C4⟩
            case round =>
              obtain ⟨j, hj, rfl, rfl, hT5, hC5⟩ := hrel
              obtain ⟨hNN, hNR, hR1⟩ := HN.out
              by_cases hlt : j < N
              · obtain ⟨b2, o2, rfl, hcell⟩ := hC5.out (by omega)
                have hjj : j < (hold R').length := by omega
                have f0 := hcell j hjj
                have hst := sumH_succ hjj
                have hle := sumH_le R' (k := j + 1) (by omega)
                have hpos := cnt_pos (List.getElem_mem hjj)
                have hgd := hT5.out.cn.good _ (hold_mem.1 (List.getElem_mem hjj))
                obtain ⟨hv, hhv⟩ : ∃ hv, (hold R')[j]'hjj = hv := ⟨_, rfl⟩
                have hmid := fun (h0 : 0 < j) => (show ∃ x, wr.cell? ⟨b2, o2 + (j - 1), none⟩ = some (.int .i64 x) ∧ x < hv from ⟨_, hcell (j - 1) (by omega), by rw [← hhv]; exact hold_lt (by omega) hjj⟩)
                rw [hhv] at f0 hst hpos hgd
                obtain ⟨S0, hS0⟩ : ∃ S0, sumH R' j = S0 := ⟨_, rfl⟩
                obtain ⟨cv, hcv⟩ : ∃ cv, cnt hv R' = cv := ⟨_, rfl⟩
                rw [hS0, hcv] at hst
                rw [hS0]
                rw [hcv] at hpos
                have hwj : IntKind.i64.wrap ((j : Int) + 1) = ((j + 1 : Nat) : Int) := by rw [wrap_id (by omega) (by omega)]; omega
                have hws : IntKind.i64.wrap ((S0 : Int) + cv) = ((S0 + cv : Nat) : Int) := by rw [wrap_id (by omega) (by omega)]; omega
                have hjm : (j : Int) < N := by omega
                have HO := Hid.mk (hT5.out.of hv ⟨by omega, by omega⟩ hcv)
                have HST := Hid.mk hst
                have HJ := Hid.mk hlt
                have hcv1 : decide ((cv : Int) < 1) = false := by rw [decide_eq_false_iff_not]; omega
                obtain ⟨S1, hS1⟩ : ∃ S1, S0 + cv = S1 := ⟨_, rfl⟩
                rw [hS1] at hws HST
                obtain ⟨J1, hJ1⟩ : ∃ J1, j + 1 = J1 := ⟨_, rfl⟩
                rw [hJ1] at hwj HST
                have HJ1 := Hid.mk hJ1
                by_cases h0 : 0 < j
                · obtain ⟨xv, f1, hxv⟩ := hmid h0
                  have hj0 : decide ((0 : Int) < j) = true := by rw [decide_eq_true_eq]; omega
                  have hcmp : decide (hv ≤ xv) = false := by rw [decide_eq_false_iff_not]; omega
                  have hwp : IntKind.i64.wrap ((j : Int) - 1) = ((j - 1 : Nat) : Int) := by rw [wrap_id (by omega) (by omega)]; omega
                  obtain ⟨jp, hjp⟩ : ∃ jp, j - 1 = jp := ⟨_, rfl⟩
                  have hjpN : (jp : Int) < N := by omega
                  have hjpN' : jp < N := by omega
                  rw [hjp] at f1 hwp
                  have HF1 := Hid.mk f1
                  have H0 := Hid.mk h0
                  clear hmid hcell hst hle hhv hpos hgd hS0 hcv hjj hlt hNN hNR hR1 hj h0 hxv hjp hS1 hJ1
                  go_upto_region 32 with (first
                    | (go_at_call 9; refine HO.out.mono ?_; rintro e x5 ⟨rfl, rfl⟩))
                  refine region_up (W := wr) (by kernel_rfl) (by kernel_rfl) (Up.refl _) ?_
                  refine quiet_value (v := .int .i64 cv) rfl (fun _ _ => rfl) ?_
                  simp only [Act.put, List.setIfInBounds_toArray, List.set_cons_zero, List.set_cons_succ]
                  refine quiet_value (v := .bool false) rfl (fun _ _ => (by go_simp)) ?_
                  simp only [Act.put, List.setIfInBounds_toArray, List.set_cons_zero, List.set_cons_succ]
                  refine quiet_value (v := .bool false) rfl (fun _ _ => rfl) ?_
                  simp only [Act.put, List.setIfInBounds_toArray, List.set_cons_zero, List.set_cons_succ]
                  refine quiet_value (v := .int .i64 j) rfl (fun _ _ => rfl) ?_
                  simp only [Act.put, List.setIfInBounds_toArray, List.set_cons_zero, List.set_cons_succ]
                  refine quiet_value (v := .bool true) rfl (fun _ _ => (by go_simp; (have := H0.out; omega))) ?_
                  simp only [Act.put, List.setIfInBounds_toArray, List.set_cons_zero, List.set_cons_succ]
                  refine quiet_value (v := .bool true) rfl (fun _ _ => rfl) ?_
                  simp only [Act.put, List.setIfInBounds_toArray, List.set_cons_zero, List.set_cons_succ]
                  refine quiet_value (v := .slice (some ⟨b2, o2, none⟩) N hc) rfl (fun _ _ => rfl) ?_
                  simp only [Act.put, List.setIfInBounds_toArray, List.set_cons_zero, List.set_cons_succ]
                  refine quiet_value (v := .int .i64 j) rfl (fun _ _ => rfl) ?_
                  simp only [Act.put, List.setIfInBounds_toArray, List.set_cons_zero, List.set_cons_succ]
                  refine quiet_value (v := .pointer (some ⟨b2, o2 + j, none⟩)) rfl (fun _ _ => (by go_simp)) ?_
                  simp only [Act.put, List.setIfInBounds_toArray, List.set_cons_zero, List.set_cons_succ]
                  refine quiet_value (v := .int .i64 hv) rfl (fun W h => (by have u0 := cell_below h.out _ _ _ f0; go_simp)) ?_
                  simp only [Act.put, List.setIfInBounds_toArray, List.set_cons_zero, List.set_cons_succ]
                  refine quiet_value (v := .slice (some ⟨b2, o2, none⟩) N hc) rfl (fun _ _ => rfl) ?_
                  simp only [Act.put, List.setIfInBounds_toArray, List.set_cons_zero, List.set_cons_succ]
                  refine quiet_value (v := .int .i64 j) rfl (fun _ _ => rfl) ?_
                  simp only [Act.put, List.setIfInBounds_toArray, List.set_cons_zero, List.set_cons_succ]
                  refine quiet_value (v := .int .i64 jp) rfl (fun _ _ => (by go_simp)) ?_
                  simp only [Act.put, List.setIfInBounds_toArray, List.set_cons_zero, List.set_cons_succ]
                  refine quiet_value (v := .pointer (some ⟨b2, o2 + jp, none⟩)) rfl (fun _ _ => (by go_simp)) ?_
                  simp only [Act.put, List.setIfInBounds_toArray, List.set_cons_zero, List.set_cons_succ]
                  refine quiet_value (v := .int .i64 xv) rfl (fun W h => (by have u0 := cell_below h.out _ _ _ f1; go_simp)) ?_
                  simp only [Act.put, List.setIfInBounds_toArray, List.set_cons_zero, List.set_cons_succ]
                  refine quiet_value (v := .bool false) rfl (fun _ _ => (by go_simp)) ?_
                  simp only [Act.put, List.setIfInBounds_toArray, List.set_cons_zero, List.set_cons_succ]
                  refine quiet_value (v := .bool false) rfl (fun _ _ => (by go_simp)) ?_
                  simp only [Act.put, List.setIfInBounds_toArray, List.set_cons_zero, List.set_cons_succ]
                  refine quiet_value (v := .bool false) rfl (fun _ _ => (by go_simp)) ?_
                  simp only [Act.put, List.setIfInBounds_toArray, List.set_cons_zero, List.set_cons_succ]
                  refine quiet_nil ?_
                  intro w6 hw6
                  have T6 := Hid.mk (hT5.out.up hw6.out)
                  have C6 := Hid.mk (hC5.out.up hw6.out)
                  go_wp2
                  go_roundw
                  case rel => exact ⟨J1, by have := HJ1.out; have : j < N := HJ.out; omega, by rw [HST.out], by first | rfl | go_num, T6, C6⟩
                  case measure => have h1 : j < N := HJ.out; have := HJ1.out; simp [Go.RowKit.intOf]; omega
                · have hj0 : decide ((0 : Int) < j) = false := by rw [decide_eq_false_iff_not]; omega
                  have H0 := Hid.mk h0
                  clear hmid hcell hst hle hhv hpos hgd hS0 hcv hjj hlt hNN hNR hR1 hj h0 hS1 hJ1
                  go_upto_region 32 with (first
                    | (go_at_call 9; refine HO.out.mono ?_; rintro e x5 ⟨rfl, rfl⟩))
                  refine region_up (W := wr) (by kernel_rfl) (by kernel_rfl) (Up.refl _) ?_
                  refine quiet_value (v := .int .i64 cv) rfl (fun _ _ => rfl) ?_
                  simp only [Act.put, List.setIfInBounds_toArray, List.set_cons_zero, List.set_cons_succ]
                  refine quiet_value (v := .bool false) rfl (fun _ _ => (by go_simp)) ?_
                  simp only [Act.put, List.setIfInBounds_toArray, List.set_cons_zero, List.set_cons_succ]
                  refine quiet_value (v := .bool false) rfl (fun _ _ => rfl) ?_
                  simp only [Act.put, List.setIfInBounds_toArray, List.set_cons_zero, List.set_cons_succ]
                  refine quiet_value (v := .int .i64 j) rfl (fun _ _ => rfl) ?_
                  simp only [Act.put, List.setIfInBounds_toArray, List.set_cons_zero, List.set_cons_succ]
                  refine quiet_value (v := .bool false) rfl (fun _ _ => (by go_simp; (have := H0.out; omega))) ?_
                  simp only [Act.put, List.setIfInBounds_toArray, List.set_cons_zero, List.set_cons_succ]
                  refine quiet_value (v := .bool false) rfl (fun _ _ => rfl) ?_
                  simp only [Act.put, List.setIfInBounds_toArray, List.set_cons_zero, List.set_cons_succ]
                  refine quiet_not rfl ?_
                  simp only [Act.put, List.setIfInBounds_toArray, List.set_cons_zero, List.set_cons_succ]
                  refine quiet_not rfl ?_
                  simp only [Act.put, List.setIfInBounds_toArray, List.set_cons_zero, List.set_cons_succ]
                  refine quiet_not rfl ?_
                  simp only [Act.put, List.setIfInBounds_toArray, List.set_cons_zero, List.set_cons_succ]
                  refine quiet_not rfl ?_
                  simp only [Act.put, List.setIfInBounds_toArray, List.set_cons_zero, List.set_cons_succ]
                  refine quiet_not rfl ?_
                  simp only [Act.put, List.setIfInBounds_toArray, List.set_cons_zero, List.set_cons_succ]
                  refine quiet_not rfl ?_
                  simp only [Act.put, List.setIfInBounds_toArray, List.set_cons_zero, List.set_cons_succ]
                  refine quiet_not rfl ?_
                  simp only [Act.put, List.setIfInBounds_toArray, List.set_cons_zero, List.set_cons_succ]
                  refine quiet_not rfl ?_
                  simp only [Act.put, List.setIfInBounds_toArray, List.set_cons_zero, List.set_cons_succ]
                  refine quiet_not rfl ?_
                  simp only [Act.put, List.setIfInBounds_toArray, List.set_cons_zero, List.set_cons_succ]
                  refine quiet_not rfl ?_
                  simp only [Act.put, List.setIfInBounds_toArray, List.set_cons_zero, List.set_cons_succ]
                  refine quiet_value (v := .bool false) rfl (fun _ _ => (by go_simp)) ?_
                  simp only [Act.put, List.setIfInBounds_toArray, List.set_cons_zero, List.set_cons_succ]
                  refine quiet_value (v := .bool false) rfl (fun _ _ => (by go_simp)) ?_
                  simp only [Act.put, List.setIfInBounds_toArray, List.set_cons_zero, List.set_cons_succ]
                  refine quiet_nil ?_
                  intro w6 hw6
                  have T6 := Hid.mk (hT5.out.up hw6.out)
                  have C6 := Hid.mk (hC5.out.up hw6.out)
                  go_wp2
                  go_roundw
                  case rel => exact ⟨J1, by have := HJ1.out; have : j < N := HJ.out; omega, by rw [HST.out], by first | rfl | go_num, T6, C6⟩
                  case measure => have h1 : j < N := HJ.out; have := HJ1.out; simp [Go.RowKit.intOf]; omega
              · obtain rfl : j = N := by omega
                have hsum : sumH R' j = R'.length := by rw [← hNN]; exact sumH_all R'
                rw [hsum]
                obtain ⟨M1, hM1⟩ : ∃ M1, R'.length = M1 := ⟨_, rfl⟩
                have htt := hT5.out.total
                have hlb := HF'.out.2.2
                have hl1 := HF'.out.1
                rw [hM1] at htt hlb hl1
                rw [hM1]
                have HTT := Hid.mk htt
                have HL1 := Hid.mk (And.intro hM1 hl1)
                by_cases hw0 : 0 < m0
                · have hw0' : (0 : Int) < m0 := by omega
                  rw [decide_eq_true hw0, Bool.true_and] at hlb
                  subst hlb
                  clear hlt hNN hNR hR1 hsum hM1 htt hl1
                  go_wp2_with (go_at_call 11; refine HTT.out.mono ?_; rintro e x6 ⟨rfl, rfl⟩)
                  go_roundw
                  case rel => exact ⟨i + 1, R', HL.out, by first | rfl | go_num, hT5, Hid.mk (by have := HL1.out; omega)⟩
                  case measure => have h1 : i < L.length := HL.out; simp [Go.RowKit.intOf]; omega
                · have hw0' : ¬ (0 : Int) < m0 := by omega
                  rw [decide_eq_false hw0, Bool.false_and] at hlb
                  subst hlb
                  clear hlt hNN hNR hR1 hsum hM1 htt hl1
                  go_wp2_with (go_at_call 11; refine HTT.out.mono ?_; rintro e x6 ⟨rfl, rfl⟩)
                  go_roundw
                  case rel => exact ⟨i + 1, R', HL.out, by first | rfl | go_num, hT5, Hid.mk (by have := HL1.out; omega)⟩
                  case measure => have h1 : i < L.length := HL.out; simp [Go.RowKit.intOf]; omega
      · obtain rfl : i = L.length := by omega
        clear hlt
        go_wp2
        go_ret
        exact ⟨rfl, hb1.out.trans (hT.out.below.mono hb1.out.size)⟩
end Go.Proofs.Ytgfelddgiabeoaa
