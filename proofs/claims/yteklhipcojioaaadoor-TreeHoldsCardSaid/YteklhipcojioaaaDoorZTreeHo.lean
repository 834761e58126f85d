/-
  TreeHolds returns true.
-/
import Derived.Test.YteklhipcojioaaaDoorZTreeHp
import Derived.Test.YteklhipcojioaaaDoorZTreeLs
namespace Go.Proofs.YteklhipcojioaaaDoor
open Go.RowKit Go.Deep Go.Maps Go.WideShapes

theorem check_fitsH {T : Tm} (h : T.check = 0) : T.fits = true := by
  unfold Tm.check at h
  split at h
  · rename_i h1
    rwa [fits_pre] at h1
  · exact absurd h (by decide)
theorem loop1_step {L : List Nd} {put l : List Tm} {T : Tm} {i : Nat} {c c' n : Int} (h : (∀ x, x ∈ keysN L ↔ x ∈ put) ∧ (∀ x ∈ put, x.check = 0 ∧ x ∈ l) ∧ put.length ≤ i ∧ L.length ≤ i ∧ 0 ≤ c ∧ c ≤ 39 * i) (hc : T.check = 0) (hm : T ∈ l) (hi : i ≤ 1000) (hlo : c ≤ c' ∧ LowI (c' - c) L.length) :
    (∀ x, x ∈ keysN (putN L T n) ↔ x ∈ put ++ [T]) ∧ (∀ x ∈ put ++ [T], x.check = 0 ∧ x ∈ l) ∧ (put ++ [T]).length ≤ i + 1 ∧ (putN L T n).length ≤ i + 1 ∧ 0 ≤ c' ∧ c' ≤ 39 * ((i + 1 : Nat) : Int) := by
  obtain ⟨h1, h2, h3, h4, h5, h6⟩ := h
  have hl := low_log hlo.2 (by omega)
  refine ⟨fun x => ?_, fun x hx => ?_, ?_, ?_, by omega, by omega⟩
  · rw [keysN_put (fun y hy => check_fitsH (h2 y ((h1 y).1 hy)).1) (check_fitsH hc), h1, List.mem_append, List.mem_singleton]
  · rcases List.mem_append.1 hx with hx | hx
    · exact h2 x hx
    · rw [List.mem_singleton] at hx
      subst hx
      exact ⟨hc, hm⟩
  · rw [List.length_append]
    simpa using h3
  · rw [putN_len]
    split <;> omega
set_option maxHeartbeats 8000000 in
set_option maxRecDepth 100000 in
theorem lawHolds11 (l : List Tm) (a : Option Addr) (cap : Nat) (B : List Bool) (ba : Option Addr) (bc : Nat) (w : World) (hl : Lst w (fun b => b < w.heap.size) l a cap) (hB : CelB w B ba) (hst : ShapeTab w) :
    Calls Tryd.prog 6 #[.slice a l.length cap, .slice ba B.length bc] w fun e w' => e = .returned (.bool true) ∧ Below w.heap.size w w' := by
  have HST := Hid.mk hst
  have HL := Hid.mk hl
  have HCB := Hid.mk hB
  clear hst hl hB
  by_cases h120 : 120 < l.length
  · have d1 : decide ((120 : Int) < (l.length : Nat)) = true := by rw [decide_eq_true_eq]; omega
    have d2 : decide (120 < l.length) = true := decide_eq_true h120
    go_enter Tryd.func6, Tryd.ntmps6
    go_wp2_with (first
      | (go_at_call 8; refine (to_new _).mono ?_; rintro e w2 ⟨p, rfl, h⟩; have H2 := Hid.mk h; clear h)
      | (go_at_call 5; refine (known11 w HST.out).mono ?_; rintro e w1 ⟨rfl, hb⟩; have B1 := Hid.mk hb; clear hb))
    go_ret
    exact ⟨rfl, B1.out.trans (H2.out.below.mono B1.out.size)⟩
  · have d1 : decide ((120 : Int) < (l.length : Nat)) = false := by rw [decide_eq_false_iff_not]; omega
    have d2 : decide (120 < l.length) = false := decide_eq_false h120
    have H120 := Hid.mk (show l.length ≤ 120 by omega)
    clear h120
    go_enter Tryd.func6, Tryd.ntmps6
    go_wp2_with (first
      | (go_at_call 30; refine (largeAll_any l _ _ _ 300 _ (HL.out.below (B1.out.trans (H2.out.below.mono B1.out.size))) (by omega) (by omega)).mono ?_; rintro e w3 ⟨⟨b1, rfl, hB⟩, hb⟩; have HB := Hid.mk hB; have H3 := Hid.mk (H2.out.up hb); clear hb hB; rcases b1 with _ | _)
      | (go_at_call 8; refine (to_new _).mono ?_; rintro e w2 ⟨p, rfl, h⟩; have H2 := Hid.mk h; clear h)
      | (go_at_call 5; refine (known11 w HST.out).mono ?_; rintro e w1 ⟨rfl, hb⟩; have B1 := Hid.mk hb; clear hb))
    rotate_left
    · go_ret
      exact ⟨rfl, B1.out.trans (H3.out.below.mono B1.out.size)⟩
    · obtain ⟨hsh, hsz⟩ := HB.out (by trivial)
      have HSH := Hid.mk hsh
      have HSZ := Hid.mk hsz
      have HP0 := Hid.mk (Pt.start H3.out (F := fun b => b < w.heap.size) (fun b hb => Nat.lt_of_lt_of_le hb B1.out.size))
      clear hsh hsz
      go_loopw [7, 8] (fun pv ii wr => ∃ (i : Nat) (v : Value) (hs : List Th) (put : List Tm) (L : List Nd) (c ht : Int), i ≤ l.length ∧ pv = v ∧ ii = .int .i64 i ∧ Hid (Pt w1 wr p L c ht v hs put (fun b => b < w.heap.size)) ∧ Hid ((∀ x, x ∈ keysN L ↔ x ∈ put) ∧ (∀ x ∈ put, x.check = 0 ∧ x ∈ l) ∧ put.length ≤ i ∧ L.length ≤ i ∧ 0 ≤ c ∧ c ≤ 39 * i)) (fun _ ii _ => l.length - (intOf ii).toNat)
      case atStart => exact ⟨0, _, _, _, _, _, _, Nat.zero_le _, rfl, rfl, HP0, Hid.mk ⟨fun x => by simp [keysN], fun x hx => (by cases hx), Nat.le_refl _, Nat.le_refl _, by omega, by omega⟩⟩
      case round =>
        obtain ⟨i, v, hs, put, L, c, ht, hi, rfl, rfl, hP, hI⟩ := hrel
        have h12 := H120.out
        by_cases hlt : i < l.length
        · have hbw := B1.out.trans (hP.out.tree.below.mono B1.out.size)
          obtain ⟨b, o, rfl, hb, hrow⟩ := HL.out.some (by omega)
          obtain ⟨k, n, s, m, xa, xc, hT, z0, z1, z2, z3, hlies⟩ := hrow.part i hlt
          have HZ := Hid.mk (And.intro z0 (And.intro z1 (And.intro z2 z3)))
          have c0 := cell_below hbw _ _ _ z0
          have c1 := cell_below hbw _ _ _ z1
          have c2 := cell_below hbw _ _ _ z2
          have c3 := cell_below hbw _ _ _ z3
          have hmem := List.getElem_mem hlt
          rw [hT] at hlies hmem
          have HT := Hid.mk (hlies.below hbw)
          have HIL := Hid.mk hlt
          have hil : (i : Int) < l.length := by omega
          have hwi : IntKind.i64.wrap ((i : Int) + 1) = ((i + 1 : Nat) : Int) := by rw [wrap_id (by omega) (by omega)]; omega
          have HTS := Hid.mk (show (Tm.mk k n s m).size ≤ 1000000 ∧ (Tm.mk k n s m).Short by rw [← hT]; exact ⟨by have h1 := sizes_at l i hlt; have h2 := HSZ.out; omega, HSH.out.at i hlt⟩)
          have HZT := Hid.mk (show SizeT L c by have h := hI.out.2.2; exact ⟨by omega, by omega, by omega⟩)
          clear hrow hlies hT hlt h12 z0 z1 z2 z3 hbw
          have HMEM := Hid.mk hmem
          by_cases hc : (Tm.mk k n s m).check = 0
          · have HCK := Hid.mk hc
            go_upto_region 10 with (go_at_call 20; refine (hP.out.tree.put HZT.out HT.out (fun b hb => Or.inl (Nat.lt_of_lt_of_le hb B1.out.size)) HTS.out.1 HTS.out.2 (HST.out.below B1.out)).mono ?_; rw [if_pos hc, if_pos hc, if_pos hc, hc]; rintro e w4 ⟨rfl, c', ht', h4, hlo, hon⟩; have H4 := Hid.mk (hP.out.turn h4 hon); have HC := Hid.mk hlo; clear h4 hlo hon)
            clear c0 c1 c2 c3
            have hb4 := B1.out.trans (H4.out.tree.below.mono B1.out.size)
            obtain ⟨z0, z1, z2, z3⟩ := HZ.out
            have c0 := cell_below hb4 _ _ _ z0
            have c1 := cell_below hb4 _ _ _ z1
            have c2 := cell_below hb4 _ _ _ z2
            have c3 := cell_below hb4 _ _ _ z3
            obtain ⟨v2, w5, hr5, h5⟩ := H4.out.app ⟨k, n, s, xa, m.length, xc⟩ (Tm.mk k n s m) (low_same H4.out.low HT.out hP.out.tree.below H4.out.tree.below) (by have h1 := hI.out.2.2.1; have h2 := H120.out; have h3 := H4.out.keys.len; have h4 := HIL.out; omega)
            have H5 := Hid.mk h5
            clear z0 z1 z2 z3 h5
            go_wp2_with (at_builtin; refine Lib.wpList_append_run _ rfl _ _ _ _ rfl _ _ rfl rfl _ _ hr5 ?_)
            go_roundw
            case rel => exact ⟨i + 1, _, _, _, _, _, _, HIL.out, rfl, by first | rfl | simp, H5, Hid.mk (loop1_step hI.out HCK.out HMEM.out (by have := H120.out; have := HIL.out; omega) HC.out)⟩
            case measure => have h1 : i < l.length := HIL.out; simp [intOf]; omega
          · obtain ⟨ce, hce⟩ : ∃ ce, (Tm.mk k n s m).check = ce := ⟨_, rfl⟩
            have hcn : ¬ ce = 0 := by rw [← hce]; exact hc
            have HCE := Hid.mk hce
            have HCN := Hid.mk hc
            clear hce hc
            go_wp2_with (go_at_call 20; refine (hP.out.tree.put HZT.out HT.out (fun b hb => Or.inl (Nat.lt_of_lt_of_le hb B1.out.size)) HTS.out.1 HTS.out.2 (HST.out.below B1.out)).mono ?_; rw [if_neg HCN.out, if_neg HCN.out, if_neg HCN.out, HCE.out]; rintro e w4 ⟨rfl, c', ht', h4, hlo, hon⟩; have H4 := Hid.mk (hP.out.turn h4 hon); have HC := Hid.mk hlo; clear h4 hlo hon c0 c1 c2 c3)
            go_roundw
            case rel => exact ⟨i + 1, _, _, _, _, _, _, HIL.out, rfl, by first | rfl | simp, H4, Hid.mk ⟨hI.out.1, hI.out.2.1, by have := hI.out.2.2.1; omega, by have := hI.out.2.2.2.1; omega, by have := hI.out.2.2.2.2; have h2 := HC.out; omega, by have := hI.out.2.2.2.2; have h2 := (low_log HC.out.2 (by have := hI.out.2.2.2.1; have := H120.out; omega)); omega⟩⟩
            case measure => have h1 : i < l.length := HIL.out; simp [intOf]; omega
        · obtain rfl : i = l.length := by omega
          have hbw := B1.out.trans (hP.out.tree.below.mono B1.out.size)
          obtain ⟨pa, pc, rfl, hput⟩ := tr_lst hP.out.row hP.out.keys
          have hun := keysN_unique hP.out.tree.rise hI.out.1 (fun x hx => check_fitsH (hI.out.2.1 x hx).1)
          have hps : ∀ t ∈ put, t.size ≤ 1000000 ∧ t.Short := fun t ht => by
            obtain ⟨j, hj, e⟩ := List.mem_iff_getElem.1 (hI.out.2.1 t ht).2
            subst e
            exact ⟨by have h1 := sizes_at l j hj; have h2 := HSZ.out; omega, HSH.out.at j hj⟩
          have hpl : put.length ≤ 1000000 := by have := hI.out.2.2.1; omega
          have hu := unique_any put hpl hps _ pa pc wr hput
          rw [← hun] at hu
          have HU := Hid.mk hu
          obtain ⟨N, hN⟩ : ∃ N, (keysN L).length = N := ⟨_, rfl⟩
          have HN := Hid.mk hN
          clear hbw hput hun hps hu hlt h12 hpl hN
          have HHL := Hid.mk hI.out.2.2
          clear hI
          go_wp2_with (go_at_call 31; refine HU.out.mono ?_; rw [HN.out]; rintro e w6 ⟨⟨ua, uc, rfl, hnew⟩, hup⟩; have HLS := Hid.mk hnew.lst.inside; have H6 := Hid.mk (Pg.of_pt hP.out hup.out); clear hnew hup)
          obtain ⟨X, hX⟩ : ∃ X, keysN L = X := ⟨_, rfl⟩
          have HKX := Hid.mk hX
          have HXN : Hid (X.length = N) := Hid.mk (by rw [← hX]; exact HN.out)
          rw [hX] at HLS
          obtain ⟨G, hG⟩ : ∃ G : Nat → Prop, (fun b => wr.heap.size ≤ b ∧ b < w6.heap.size) = G := ⟨_, rfl⟩
          rw [hG] at HLS H6
          have HI2 : Hid (I2 L X [] 0 l.length c) := Hid.mk ⟨by rw [hX]; simp, Nat.le_refl _, HHL.out.2.2.1, by have := HHL.out.2.2.2; simpa using this⟩
          have HNL : Hid (N ≤ 120) := Hid.mk (by have h1 := HN.out; have h2 := HHL.out.2.1; have h3 := H120.out; simp only [keysN, List.length_map] at h1; omega)
          clear hX hG HU hP HN HHL
          go_loopw [12, 14] (fun pv ii wq => ∃ (j : Nat) (v2 : Value) (hs2 : List Th) (left : List Tm) (L2 : List Nd) (c2 ht2 : Int), j ≤ N ∧ pv = v2 ∧ ii = .int .i64 j ∧ Hid (Pg w1 wq p L2 c2 ht2 v2 hs2 left G G) ∧ Hid (Lst wq G X ua uc) ∧ Hid (I2 L2 X left j l.length c2)) (fun _ ii _ => N - (intOf ii).toNat)
          case atStart => exact ⟨0, _, _, _, _, _, _, Nat.zero_le _, rfl, rfl, H6, HLS, HI2⟩
          case round =>
            obtain ⟨j, v2, hs2, left, L2, c2, ht2, hj, rfl, rfl, hP, hLS, hI⟩ := hrel
            by_cases hlt : j < N
            · have hbw := B1.out.trans (hP.out.tree.below.mono B1.out.size)
              have hjx : j < X.length := by have := HXN.out; omega
              obtain ⟨b, o, rfl, hb, hrow⟩ := hLS.out.some (by omega)
              obtain ⟨k, n, s, m, xa, xc, hT, z0, z1, z2, z3, hlies⟩ := hrow.part j hjx
              have HTE : Hid (∃ h : j < X.length, X[j]'h = Tm.mk k n s m) := Hid.mk ⟨hjx, hT⟩
              rw [hT] at hlies
              have HT := Hid.mk hlies
              have HIX := Hid.mk hjx
              have HIS := Hid.mk (show isN L2 (Tm.mk k n s m) = true by rw [← hT]; exact (hI.out.out hjx hP.out.tree.rise (Int.le_refl _) (by omega)).1)
              have hjn : (j : Int) < N := by omega
              have h120 := HNL.out
              have hwj : IntKind.i64.wrap ((j : Int) + 1) = ((j + 1 : Nat) : Int) := by rw [wrap_id (by omega) (by omega)]; omega
              have HJ := Hid.mk hlt
              have HZT := Hid.mk (show SizeT L2 c2 by have h := hI.out; have h2 := h.len (by omega); have h3 := h.few; have h4 := HXN.out; have h5 := H120.out; have h6 := h.low; have h7 := h.up; exact ⟨by omega, by omega, by omega⟩)
              have HCW := Hid.mk (HCB.out.up hbw)
              by_cases hjb : j < B.length
              · obtain ⟨bb, ob, rfl, hbc⟩ := HCW.out.at_ hjb
                have hjbi : (j : Int) < B.length := by omega
                replace hbc : ∃ bv, wr.cell? ⟨bb, ob + j, none⟩ = some (.bool bv) := ⟨_, hbc⟩
                obtain ⟨bv, hbc⟩ := hbc
                clear hrow hlies hT hjx h120 hlt hjb hb hbw
                rcases bv with _ | _
                · obtain ⟨v3, w5, hr5, h5, hg5⟩ := hP.out.app ⟨k, n, s, xa, m.length, xc⟩ (Tm.mk k n s m) HT.out (by have h1 := hP.out.keys.len; have h2 := hI.out.few; have h3 := HNL.out; omega)
                  have H5 := Hid.mk h5
                  have HL5 := Hid.mk (lst_blocks hLS.out hg5)
                  have HI5 := Hid.mk (hI.out.keep HIX.out)
                  clear h5 hg5
                  go_wp2_with (at_builtin; refine Lib.wpList_append_run _ rfl _ _ _ _ rfl _ _ rfl rfl _ _ hr5 ?_)
                  go_roundw
                  case rel => exact ⟨j + 1, _, _, _, _, _, _, HJ.out, rfl, by first | rfl | simp, H5, HL5, by have h := HI5; obtain ⟨_, e⟩ := HTE.out; rw [e] at h; exact h⟩
                  case measure => have h1 : j < N := HJ.out; simp [intOf]; omega
                · go_wp2_with (go_at_call 22; refine (hP.out.remove HZT.out HT.out).mono ?_; rw [HIS.out]; rintro e w4 ⟨rfl, c', ht', h4, hc4, hon⟩; have H4 := Hid.mk h4; have HC := Hid.mk hc4; have HL4 := Hid.mk (hP.out.lst hLS.out hon (fun k hk hg => hk (Or.inr hg))); clear h4 hc4 hon)
                  go_roundw
                  case rel => exact ⟨j + 1, _, _, _, _, _, _, HJ.out, rfl, by first | rfl | simp, H4, HL4, Hid.mk (by have h := (hI.out.out HIX.out hP.out.tree.rise HC.out.1 HC.out.2).2; obtain ⟨_, e⟩ := HTE.out; rw [e] at h; exact h)⟩
                  case measure => have h1 : j < N := HJ.out; simp [intOf]; omega
              · have hjbi : ¬ (j : Int) < B.length := by omega
                clear hrow hlies hT hjx h120 hlt hjb hb hbw
                obtain ⟨v3, w5, hr5, h5, hg5⟩ := hP.out.app ⟨k, n, s, xa, m.length, xc⟩ (Tm.mk k n s m) HT.out (by have h1 := hP.out.keys.len; have h2 := hI.out.few; have h3 := HNL.out; omega)
                have H5 := Hid.mk h5
                have HL5 := Hid.mk (lst_blocks hLS.out hg5)
                have HI5 := Hid.mk (hI.out.keep HIX.out)
                clear h5 hg5
                go_wp2_with (at_builtin; refine Lib.wpList_append_run _ rfl _ _ _ _ rfl _ _ rfl rfl _ _ hr5 ?_)
                go_roundw
                case rel => exact ⟨j + 1, _, _, _, _, _, _, HJ.out, rfl, by first | rfl | simp, H5, HL5, by have h := HI5; obtain ⟨_, e⟩ := HTE.out; rw [e] at h; exact h⟩
                case measure => have h1 : j < N := HJ.out; simp [intOf]; omega
            · obtain rfl : j = N := by omega
              have hk : keysN L2 = left := by
                rw [hI.out.keys, List.drop_of_length_le (by have := HXN.out; omega), List.append_nil]
              obtain ⟨ka, kc, hv2, hleft⟩ := tr_lst hP.out.row hP.out.keys
              have hll : L2.length = left.length := by rw [← hk]; simp [keysN]
              obtain ⟨M, hM⟩ : ∃ M, left.length = M := ⟨_, rfl⟩
              have HM := Hid.mk (show L2.length = M by omega)
              have HLM := Hid.mk hM
              have hm120 : M ≤ 120 := by have h1 := hI.out.few; have h2 := HNL.out; omega
              have HK := Hid.mk hk
              have HLF := Hid.mk hleft
              rw [hM] at hv2
              subst hv2
              have HZT := Hid.mk (show SizeT L2 c2 by have h := hI.out; have h1 := HM.out; have h5 := H120.out; have h6 := h.low; have h7 := h.up; have h8 := HNL.out; exact ⟨by omega, by omega, by omega⟩)
              clear hk hleft hlt hll hM
              go_upto_region 22 with (fail)
              go_cut [135] from 104 to 135 (fun s135 wx => s135 = .bool false ∧ Hid (Pg w1 wx p L2 c2 ht2 (.slice ka M kc) hs2 left G G))
              case first =>
                by_cases hh2 : 2 < ht2
                · obtain ⟨kk, M1, MM, hw1, hw2, hw3, hw4, hw5⟩ := low_facts (by have h := hP.out.tree.low.1; rw [HM.out] at h; exact h) (by omega) hh2
                  have HW5 := Hid.mk hw5
                  clear hw5
                  go_wp2_with (first
                  | (have g := H10; go_at_call 14; refine H10.out.tree.height.mono ?_; rintro e w11 ⟨rfl, hb⟩; have H11 := Hid.mk (H10.out.up hb); clear hb)
                  | (go_at_call 14; refine H9.out.tree.height.mono ?_; rintro e w10 ⟨rfl, hb⟩; have H10 := Hid.mk (H9.out.up hb); clear hb)
                  | (go_at_call 13; refine H8.out.tree.len.mono ?_; rw [HM.out]; rintro e w9 ⟨rfl, hb⟩; have H9 := Hid.mk (H8.out.up hb); clear hb)
                  | (go_at_call 16; refine (sameAllN left HLM.out _ _ _ _ _ _ _ HKY.out (HLF.out.below HUP.out)).mono ?_; rintro e w8 ⟨rfl, hb⟩; have H8 := Hid.mk (H7.out.up hb); clear hb)
                  | (go_at_call 15; refine (hP.out.tree.keysl HZT.out).mono ?_; rw [HM.out]; rintro e w7 ⟨a7, cap7, rfl, hl7, hb⟩; have H7 := Hid.mk (hP.out.up hb); have HKY := Hid.mk (show Lst w7 (fun b => wr.heap.size ≤ b ∧ b < w7.heap.size) left a7 cap7 by rw [← HK.out]; exact hl7); have HUP := Hid.mk hb; clear hb hl7))
                  go_meet
                  case rel => exact ⟨by simp only [decide_eq_false (Int.not_lt.2 HW5.out)], H11⟩
                · go_wp2_with (first
                  | (have g := H10; go_at_call 14; refine H10.out.tree.height.mono ?_; rintro e w11 ⟨rfl, hb⟩; have H11 := Hid.mk (H10.out.up hb); clear hb)
                  | (go_at_call 14; refine H9.out.tree.height.mono ?_; rintro e w10 ⟨rfl, hb⟩; have H10 := Hid.mk (H9.out.up hb); clear hb)
                  | (go_at_call 13; refine H8.out.tree.len.mono ?_; rw [HM.out]; rintro e w9 ⟨rfl, hb⟩; have H9 := Hid.mk (H8.out.up hb); clear hb)
                  | (go_at_call 16; refine (sameAllN left HLM.out _ _ _ _ _ _ _ HKY.out (HLF.out.below HUP.out)).mono ?_; rintro e w8 ⟨rfl, hb⟩; have H8 := Hid.mk (H7.out.up hb); clear hb)
                  | (go_at_call 15; refine (hP.out.tree.keysl HZT.out).mono ?_; rw [HM.out]; rintro e w7 ⟨a7, cap7, rfl, hl7, hb⟩; have H7 := Hid.mk (hP.out.up hb); have HKY := Hid.mk (show Lst w7 (fun b => wr.heap.size ≤ b ∧ b < w7.heap.size) left a7 cap7 by rw [← HK.out]; exact hl7); have HUP := Hid.mk hb; clear hb hl7))
                  go_meet
                  case rel => exact ⟨by first | rfl | simp, H10⟩
              case rest =>
                obtain ⟨rfl, HP3⟩ := hcut
                obtain ⟨GS, hGS⟩ : ∃ GS : Nat → Prop, (fun k => (Value.slice ka M kc).ownBlock = some k ∨ G k) = GS := ⟨_, rfl⟩
                have ht3 := HP3.out.tree
                rw [hGS] at ht3
                have HT3 := Hid.mk ht3
                obtain ⟨ka3, kc3, hv3, hl3⟩ := tr_lst HP3.out.row HP3.out.keys
                have HL3 : Hid (Lst wc GS left ka kc) := Hid.mk (by
                  have h := hl3.wider (S' := GS) (fun b hb => by rw [← hGS]; exact hb.symm)
                  simp only [Value.slice.injEq] at hv3
                  rw [hv3.1, hv3.2.2]
                  exact h)
                have HC3 : Hid (0 ≤ c2 ∧ c2 ≤ 9360 + 78 * ((0 : Nat) : Int)) := Hid.mk (by have h := hI.out; have h2 := HNL.out; have h3 := H120.out; have h6 := h.low; have h7 := h.up; omega)
                have HM120 := Hid.mk hm120
                clear ht3 hv3 hl3 hGS HP3 hI hLS hP hm120
                go_wp2
                go_loopw [17] (fun ii wq => ∃ (i : Nat) (c3 : Int), i ≤ M ∧ ii = .int .i64 i ∧ Hid (To w1 wq p L2 c3 ht2 GS) ∧ Hid (Lst wq GS left ka kc) ∧ Hid (0 ≤ c3 ∧ c3 ≤ 9360 + 78 * (i : Int))) (fun ii _ => M - (intOf ii).toNat)
                case atStart => exact ⟨0, _, Nat.zero_le _, rfl, HT3, HL3, HC3⟩
                case round =>
                  obtain ⟨i, c3, hi, rfl, hT, hL, hC⟩ := hrel
                  by_cases hlt : i < M
                  · have hil : i < left.length := by have := HLM.out; omega
                    obtain ⟨bk, ok, rfl, hb, hrow⟩ := hL.out.some (by omega)
                    obtain ⟨k, n, s, m, xa0, xc0, hTm, z0, z1, z2, z3, hlies⟩ := hrow.part i hil
                    have HTK := Hid.mk hlies
                    have HILL := Hid.mk hil
                    have HILT := Hid.mk hlt
                    have HIM := Hid.mk (show i < M from hlt)
                    have hin : (i : Int) < M := by omega
                    obtain ⟨i1, hi1⟩ : ∃ i1, i + 1 = i1 := ⟨_, rfl⟩
                    obtain ⟨ip, hip⟩ : ∃ ip, i - 1 = ip := ⟨_, rfl⟩
                    have HIP := Hid.mk hip
                    have hwi : IntKind.i64.wrap ((i : Int) + 1) = (i1 : Int) := by have h := HM120.out; rw [wrap_id (by omega) (by omega)]; omega
                    obtain ⟨b1, hb1⟩ : ∃ b1, decide (i + 1 < left.length) = b1 := ⟨_, rfl⟩
                    obtain ⟨b2, hb2⟩ : ∃ b2, decide (0 < i) = b2 := ⟨_, rfl⟩
                    have HB1 : Hid ((b1 = true ↔ i1 < left.length) ∧ i + 1 = i1) := Hid.mk ⟨by rw [← hb1, decide_eq_true_eq, hi1], hi1⟩
                    have HB2 : Hid (b2 = true ↔ 0 < i) := Hid.mk (by rw [← hb2, decide_eq_true_eq])
                    have HE1 := Hid.mk hb1
                    have HE2 := Hid.mk hb2
                    have HKL : Hid (keysN L2 = left) := HK
                    have HZ0 := Hid.mk (show SizeT L2 c3 by have h := hC.out; have h2 := HM.out; have h3 := HM120.out; exact ⟨by omega, by omega, by omega⟩)
                    clear hrow hlies hTm hb1 hb2 hi1 hip hb
                    go_upto_region 28 with (go_at_call 25; refine (hT.out.nextG HZ0.out HKL.out HILL.out HTK.out).mono ?_; rintro e w5 ⟨tv, n5, A5, he, hA5, ho5, c5, h5, hc5, hon5⟩; rw [HE1.out] at he; subst he; obtain ⟨ak, an, az, aa, am, ac, rfl⟩ := ho5.agg; have HO5 := Hid.mk (And.intro ho5 hon5.size); have H5 := Hid.mk h5; have HC5 := Hid.mk hc5; have HA5 := Hid.mk hA5; have HL5 := Hid.mk (Lst.move (fun _ h => h) (fun _ _ _ hk hc => hon5.cellS (fun hn => hn hk) hc) hL.out); clear ho5 h5 hc5 hA5 hon5)
                    obtain ⟨nb5, W6, hnb5, hW6, hbW6, hT6, hTA6⟩ := told_box H5.out HO5.out.2 HO5.out.1
                    have HT6 := Hid.mk hT6
                    have TA6 := Hid.mk hTA6
                    have HL6 := Hid.mk (HL5.out.below hbW6)
                    have HZ6 := Hid.mk (show SizeT L2 c5 by have h := HC5.out; have h1 := hC.out; have h2 := HM.out; have h3 := HM120.out; exact ⟨by omega, by omega, by omega⟩)
                    rw [hW6, hnb5]
                    clear hnb5 hW6 hT6 hTA6 hbW6 z0 z1 z2 z3
                    obtain ⟨bk2, ok2, he2, _, hrow2⟩ := HL6.out.some (by omega)
                    simp only [Option.some.injEq, Addr.mk.injEq, and_true] at he2
                    obtain ⟨rfl, rfl⟩ := he2
                    obtain ⟨k2, n2, s2, m2, xa2, xc2, _, z0, z1, z2, z3, hlies2⟩ := hrow2.part i hil
                    have HTK6 := Hid.mk hlies2
                    clear hrow2 hlies2
                    go_upto_region 29 with (go_at_call 26; refine (HT6.out.prevG HZ6.out HKL.out HILL.out (HTK6.out.wider (fun _ h => Or.inl h))).mono ?_; rintro e w7 ⟨tv, n7, D7, he, hD7, ho7, c7, h7, hc7, hon7⟩; rw [HE2.out] at he; subst he; obtain ⟨dk, dn, ds, da, dm, dc, rfl⟩ := ho7.agg; have HO7 := Hid.mk (And.intro ho7 hon7.size); have H7 := Hid.mk h7; have HC7 := Hid.mk hc7; have HD7 := Hid.mk hD7; have HL7 := Hid.mk (Lst.move (fun _ h => h) (fun _ _ _ hk hc => hon7.cellS (fun hn => hn (Or.inl hk)) hc) HL6.out); have TA7 := Hid.mk (TA6.out.kept hon7 (fun k hk hn => hn (Or.inr hk))); clear ho7 h7 hc7 hD7 hon7)
                    clear z0 z1 z2 z3
                    obtain ⟨nb7, W8, hnb7, hW8, hbW8, hT8, hTD8⟩ := told_box H7.out HO7.out.2 HO7.out.1
                    have HT8 : Hid (To w1 W8 p L2 c7 ht2 GS) := Hid.mk (hT8.weaken (fun k hk => Or.inl (Or.inl hk)))
                    have TD8 := Hid.mk hTD8
                    have TA8 := Hid.mk (TA7.out.up hbW8)
                    have HL8 := Hid.mk (HL7.out.below hbW8)
                    have HC8 : Hid (0 ≤ c7 ∧ c7 ≤ 9360 + 78 * ((i + 1 : Nat) : Int)) := Hid.mk (by have h := HC5.out; have h1 := hC.out; have h2 := HC7.out; omega)
                    rw [hW8, hnb7]
                    clear hnb7 hW8 hT8 hTD8 hbW8
                    obtain ⟨a0, a1, a2, a3, _, _⟩ := TA8.out
                    obtain ⟨d0, d1, d2, d3, _, _⟩ := TD8.out
                    rcases b1 with _ | _
                    · rcases b2 with _ | _
                      · have e1 := Hid.mk (show M ≤ i1 by have h1 := HLM.out; have h2 := HB1.out; have h3 : ¬ i1 < left.length := (fun h => by have := h2.1.2 h; cases this); omega)
                        have e3 := Hid.mk (show i = 0 by have h2 := HB2.out; have h3 : ¬ 0 < i := (fun h => by have := h2.2 h; cases this); omega)
                        refine region_up (W := W8) (by kernel_rfl) (by kernel_rfl) (Up.refl _) ?_
                        refine quiet_value (v := .bool false) rfl (fun _ _ => rfl) ?_
                        simp only [Act.put, List.setIfInBounds_toArray, List.set_cons_zero, List.set_cons_succ]
                        refine quiet_value (v := .int .i64 i) rfl (fun _ _ => rfl) ?_
                        simp only [Act.put, List.setIfInBounds_toArray, List.set_cons_zero, List.set_cons_succ]
                        refine quiet_value (v := .int .i64 i1) rfl (fun _ _ => (by go_simp)) ?_
                        simp only [Act.put, List.setIfInBounds_toArray, List.set_cons_zero, List.set_cons_succ]
                        refine quiet_value (v := .slice (some ⟨bk, ok, none⟩) M kc) rfl (fun _ _ => rfl) ?_
                        simp only [Act.put, List.setIfInBounds_toArray, List.set_cons_zero, List.set_cons_succ]
                        refine quiet_value (v := .int .i64 M) rfl (fun _ _ => (by go_simp)) ?_
                        simp only [Act.put, List.setIfInBounds_toArray, List.set_cons_zero, List.set_cons_succ]
                        refine quiet_value (v := .bool false) rfl (fun _ _ => (by go_simp; exact e1.out)) ?_
                        simp only [Act.put, List.setIfInBounds_toArray, List.set_cons_zero, List.set_cons_succ]
                        refine quiet_value (v := .bool false) rfl (fun _ _ => (by go_simp)) ?_
                        simp only [Act.put, List.setIfInBounds_toArray, List.set_cons_zero, List.set_cons_succ]
                        refine quiet_value (v := .bool false) rfl (fun _ _ => rfl) ?_
                        simp only [Act.put, List.setIfInBounds_toArray, List.set_cons_zero, List.set_cons_succ]
                        refine quiet_value (v := .bool false) rfl (fun _ _ => rfl) ?_
                        simp only [Act.put, List.setIfInBounds_toArray, List.set_cons_zero, List.set_cons_succ]
                        refine quiet_value (v := .int .i64 i) rfl (fun _ _ => rfl) ?_
                        simp only [Act.put, List.setIfInBounds_toArray, List.set_cons_zero, List.set_cons_succ]
                        refine quiet_value (v := .bool false) rfl (fun _ _ => (by go_simp; exact e3.out)) ?_
                        simp only [Act.put, List.setIfInBounds_toArray, List.set_cons_zero, List.set_cons_succ]
                        refine quiet_value (v := .bool false) rfl (fun _ _ => (by go_simp)) ?_
                        simp only [Act.put, List.setIfInBounds_toArray, List.set_cons_zero, List.set_cons_succ]
                        refine quiet_value (v := .bool false) rfl (fun _ _ => (by go_simp)) ?_
                        simp only [Act.put, List.setIfInBounds_toArray, List.set_cons_zero, List.set_cons_succ]
                        refine quiet_value (v := .bool false) rfl (fun _ _ => rfl) ?_
                        simp only [Act.put, List.setIfInBounds_toArray, List.set_cons_zero, List.set_cons_succ]
                        refine quiet_value (v := .bool false) rfl (fun _ _ => rfl) ?_
                        simp only [Act.put, List.setIfInBounds_toArray, List.set_cons_zero, List.set_cons_succ]
                        refine quiet_value (v := .bool false) rfl (fun _ _ => rfl) ?_
                        simp only [Act.put, List.setIfInBounds_toArray, List.set_cons_zero, List.set_cons_succ]
                        refine quiet_not rfl ?_
                        simp only [Act.put, List.setIfInBounds_toArray, List.set_cons_zero, List.set_cons_succ]
                        refine quiet_not rfl ?_
                        simp only [Act.put, List.setIfInBounds_toArray, List.set_cons_zero, List.set_cons_succ]
                        refine quiet_not rfl ?_
                        simp only [Act.put, List.setIfInBounds_toArray, List.set_cons_zero, List.set_cons_succ]
                        refine quiet_not rfl ?_
                        simp only [Act.put, List.setIfInBounds_toArray, List.set_cons_zero, List.set_cons_succ]
                        refine quiet_not rfl ?_
                        simp only [Act.put, List.setIfInBounds_toArray, List.set_cons_zero, List.set_cons_succ]
                        refine quiet_not rfl ?_
                        simp only [Act.put, List.setIfInBounds_toArray, List.set_cons_zero, List.set_cons_succ]
                        refine quiet_not rfl ?_
                        simp only [Act.put, List.setIfInBounds_toArray, List.set_cons_zero, List.set_cons_succ]
                        refine quiet_not rfl ?_
                        simp only [Act.put, List.setIfInBounds_toArray, List.set_cons_zero, List.set_cons_succ]
                        refine quiet_value (v := .bool false) rfl (fun _ _ => (by go_simp)) ?_
                        simp only [Act.put, List.setIfInBounds_toArray, List.set_cons_zero, List.set_cons_succ]
                        refine quiet_value (v := .bool false) rfl (fun _ _ => (by go_simp)) ?_
                        simp only [Act.put, List.setIfInBounds_toArray, List.set_cons_zero, List.set_cons_succ]
                        refine quiet_value (v := .bool false) rfl (fun _ _ => rfl) ?_
                        simp only [Act.put, List.setIfInBounds_toArray, List.set_cons_zero, List.set_cons_succ]
                        refine quiet_value (v := .bool false) rfl (fun _ _ => rfl) ?_
                        simp only [Act.put, List.setIfInBounds_toArray, List.set_cons_zero, List.set_cons_succ]
                        refine quiet_value (v := .bool false) rfl (fun _ _ => rfl) ?_
                        simp only [Act.put, List.setIfInBounds_toArray, List.set_cons_zero, List.set_cons_succ]
                        refine quiet_not rfl ?_
                        simp only [Act.put, List.setIfInBounds_toArray, List.set_cons_zero, List.set_cons_succ]
                        refine quiet_not rfl ?_
                        simp only [Act.put, List.setIfInBounds_toArray, List.set_cons_zero, List.set_cons_succ]
                        refine quiet_not rfl ?_
                        simp only [Act.put, List.setIfInBounds_toArray, List.set_cons_zero, List.set_cons_succ]
                        refine quiet_not rfl ?_
                        simp only [Act.put, List.setIfInBounds_toArray, List.set_cons_zero, List.set_cons_succ]
                        refine quiet_not rfl ?_
                        simp only [Act.put, List.setIfInBounds_toArray, List.set_cons_zero, List.set_cons_succ]
                        refine quiet_not rfl ?_
                        simp only [Act.put, List.setIfInBounds_toArray, List.set_cons_zero, List.set_cons_succ]
                        refine quiet_not rfl ?_
                        simp only [Act.put, List.setIfInBounds_toArray, List.set_cons_zero, List.set_cons_succ]
                        refine quiet_not rfl ?_
                        simp only [Act.put, List.setIfInBounds_toArray, List.set_cons_zero, List.set_cons_succ]
                        refine quiet_value (v := .bool false) rfl (fun _ _ => (by go_simp)) ?_
                        simp only [Act.put, List.setIfInBounds_toArray, List.set_cons_zero, List.set_cons_succ]
                        refine quiet_value (v := .bool false) rfl (fun _ _ => (by go_simp)) ?_
                        simp only [Act.put, List.setIfInBounds_toArray, List.set_cons_zero, List.set_cons_succ]
                        refine quiet_nil ?_
                        intro w9 hw9
                        have H9 := Hid.mk (HT8.out.up hw9.out)
                        have HL9 := Hid.mk (HL8.out.below hw9.out)
                        clear hw9
                        go_wp2
                        go_roundw
                        case rel => exact ⟨i1, _, by have h1 := HILT.out; have h2 := HB1.out.2; omega, by first | rfl | simp, H9, HL9, by rw [← HB1.out.2]; exact HC8⟩
                        case measure => have h1 : i < M := HILT.out; have h2 := HB1.out.2; simp [intOf]; omega
                      · have e1 := Hid.mk (show M ≤ i1 by have h1 := HLM.out; have h2 := HB1.out; have h3 : ¬ i1 < left.length := (fun h => by have := h2.1.2 h; cases this); omega)
                        have hip : ip < left.length := by have h1 := HIP.out; have h2 := HIM.out; have h3 := HLM.out; omega
                        obtain ⟨bk2, ok2, he2, hb2, hrow2⟩ := HL8.out.some (by omega)
                        simp only [Option.some.injEq, Addr.mk.injEq, and_true] at he2
                        obtain ⟨rfl, rfl⟩ := he2
                        obtain ⟨yk, yn, ys, ym, ya, yc, hX, y0, y1, y2, y3, hxl⟩ := hrow2.part ip hip
                        rw [hX] at hxl
                        have HYL := Hid.mk hxl
                        have HDY : Hid (Lies W8 (fun k => W6.heap.size ≤ k ∧ k < W8.heap.size) (Tm.mk yk yn ys ym) (.agg #[.int .i64 dk, .int .i64 dn, .string ds, .slice da dm dc])) := Hid.mk (by have h := TD8.out.lies; rw [HD7.out (HB2.out.1 rfl)] at h; simp only [HIP.out, hX] at h; exact h)
                        have e3 := Hid.mk (show 0 < i from HB2.out.1 rfl)
                        have e4 : (ip : Int) < M := by have h1 := HLM.out; omega
                        have hwp : IntKind.i64.wrap ((i : Int) - 1) = (ip : Int) := by have h1 := HIP.out; have h2 := HB2.out.1 rfl; have h3 := HM120.out; rw [wrap_id (by omega) (by omega)]; omega
                        clear hX hxl hrow2 hb2
                        refine region_up (W := W8) (by kernel_rfl) (by kernel_rfl) (Up.refl _) ?_
                        refine quiet_value (v := .bool false) rfl (fun _ _ => rfl) ?_
                        simp only [Act.put, List.setIfInBounds_toArray, List.set_cons_zero, List.set_cons_succ]
                        refine quiet_value (v := .int .i64 i) rfl (fun _ _ => rfl) ?_
                        simp only [Act.put, List.setIfInBounds_toArray, List.set_cons_zero, List.set_cons_succ]
                        refine quiet_value (v := .int .i64 i1) rfl (fun _ _ => (by go_simp)) ?_
                        simp only [Act.put, List.setIfInBounds_toArray, List.set_cons_zero, List.set_cons_succ]
                        refine quiet_value (v := .slice (some ⟨bk, ok, none⟩) M kc) rfl (fun _ _ => rfl) ?_
                        simp only [Act.put, List.setIfInBounds_toArray, List.set_cons_zero, List.set_cons_succ]
                        refine quiet_value (v := .int .i64 M) rfl (fun _ _ => (by go_simp)) ?_
                        simp only [Act.put, List.setIfInBounds_toArray, List.set_cons_zero, List.set_cons_succ]
                        refine quiet_value (v := .bool false) rfl (fun _ _ => (by go_simp; exact e1.out)) ?_
                        simp only [Act.put, List.setIfInBounds_toArray, List.set_cons_zero, List.set_cons_succ]
                        refine quiet_value (v := .bool false) rfl (fun _ _ => (by go_simp)) ?_
                        simp only [Act.put, List.setIfInBounds_toArray, List.set_cons_zero, List.set_cons_succ]
                        refine quiet_value (v := .bool false) rfl (fun _ _ => rfl) ?_
                        simp only [Act.put, List.setIfInBounds_toArray, List.set_cons_zero, List.set_cons_succ]
                        refine quiet_value (v := .bool true) rfl (fun _ _ => rfl) ?_
                        simp only [Act.put, List.setIfInBounds_toArray, List.set_cons_zero, List.set_cons_succ]
                        refine quiet_value (v := .int .i64 i) rfl (fun _ _ => rfl) ?_
                        simp only [Act.put, List.setIfInBounds_toArray, List.set_cons_zero, List.set_cons_succ]
                        refine quiet_value (v := .bool true) rfl (fun _ _ => (by go_simp; exact e3.out)) ?_
                        simp only [Act.put, List.setIfInBounds_toArray, List.set_cons_zero, List.set_cons_succ]
                        refine quiet_value (v := .bool false) rfl (fun _ _ => (by go_simp)) ?_
                        simp only [Act.put, List.setIfInBounds_toArray, List.set_cons_zero, List.set_cons_succ]
                        refine quiet_value (v := .bool false) rfl (fun _ _ => (by go_simp)) ?_
                        simp only [Act.put, List.setIfInBounds_toArray, List.set_cons_zero, List.set_cons_succ]
                        refine quiet_value (v := .bool false) rfl (fun _ _ => rfl) ?_
                        simp only [Act.put, List.setIfInBounds_toArray, List.set_cons_zero, List.set_cons_succ]
                        refine quiet_value (v := .bool false) rfl (fun _ _ => rfl) ?_
                        simp only [Act.put, List.setIfInBounds_toArray, List.set_cons_zero, List.set_cons_succ]
                        refine quiet_value (v := .bool false) rfl (fun _ _ => rfl) ?_
                        simp only [Act.put, List.setIfInBounds_toArray, List.set_cons_zero, List.set_cons_succ]
                        refine quiet_not rfl ?_
                        simp only [Act.put, List.setIfInBounds_toArray, List.set_cons_zero, List.set_cons_succ]
                        refine quiet_not rfl ?_
                        simp only [Act.put, List.setIfInBounds_toArray, List.set_cons_zero, List.set_cons_succ]
                        refine quiet_not rfl ?_
                        simp only [Act.put, List.setIfInBounds_toArray, List.set_cons_zero, List.set_cons_succ]
                        refine quiet_not rfl ?_
                        simp only [Act.put, List.setIfInBounds_toArray, List.set_cons_zero, List.set_cons_succ]
                        refine quiet_not rfl ?_
                        simp only [Act.put, List.setIfInBounds_toArray, List.set_cons_zero, List.set_cons_succ]
                        refine quiet_not rfl ?_
                        simp only [Act.put, List.setIfInBounds_toArray, List.set_cons_zero, List.set_cons_succ]
                        refine quiet_not rfl ?_
                        simp only [Act.put, List.setIfInBounds_toArray, List.set_cons_zero, List.set_cons_succ]
                        refine quiet_not rfl ?_
                        simp only [Act.put, List.setIfInBounds_toArray, List.set_cons_zero, List.set_cons_succ]
                        refine quiet_value (v := .bool false) rfl (fun _ _ => (by go_simp)) ?_
                        simp only [Act.put, List.setIfInBounds_toArray, List.set_cons_zero, List.set_cons_succ]
                        refine quiet_value (v := .bool false) rfl (fun _ _ => (by go_simp)) ?_
                        simp only [Act.put, List.setIfInBounds_toArray, List.set_cons_zero, List.set_cons_succ]
                        refine quiet_value (v := .bool false) rfl (fun _ _ => rfl) ?_
                        simp only [Act.put, List.setIfInBounds_toArray, List.set_cons_zero, List.set_cons_succ]
                        refine quiet_value (v := .bool true) rfl (fun _ _ => rfl) ?_
                        simp only [Act.put, List.setIfInBounds_toArray, List.set_cons_zero, List.set_cons_succ]
                        refine quiet_value (v := .bool true) rfl (fun _ _ => rfl) ?_
                        simp only [Act.put, List.setIfInBounds_toArray, List.set_cons_zero, List.set_cons_succ]
                        refine quiet_value (v := .agg #[.int .i64 dk, .int .i64 dn, .string ds, .slice da dm dc]) rfl (fun W h => (by have u0 := cell_below h.out _ _ _ d0; have u1 := cell_below h.out _ _ _ d1; have u2 := cell_below h.out _ _ _ d2; have u3 := cell_below h.out _ _ _ d3; go_simp)) ?_
                        simp only [Act.put, List.setIfInBounds_toArray, List.set_cons_zero, List.set_cons_succ]
                        refine quiet_value (v := .slice (some ⟨bk, ok, none⟩) M kc) rfl (fun _ _ => rfl) ?_
                        simp only [Act.put, List.setIfInBounds_toArray, List.set_cons_zero, List.set_cons_succ]
                        refine quiet_value (v := .int .i64 i) rfl (fun _ _ => rfl) ?_
                        simp only [Act.put, List.setIfInBounds_toArray, List.set_cons_zero, List.set_cons_succ]
                        refine quiet_value (v := .int .i64 ip) rfl (fun _ _ => (by go_simp)) ?_
                        simp only [Act.put, List.setIfInBounds_toArray, List.set_cons_zero, List.set_cons_succ]
                        refine quiet_value (v := .pointer (some ⟨bk, ok + ip * 4, none⟩)) rfl (fun _ _ => (by go_simp)) ?_
                        simp only [Act.put, List.setIfInBounds_toArray, List.set_cons_zero, List.set_cons_succ]
                        refine quiet_value (v := .agg #[.int .i64 yk, .int .i64 yn, .string ys, .slice ya ym.length yc]) rfl (fun W h => (by have u0 := cell_below h.out _ _ _ y0; have u1 := cell_below h.out _ _ _ y1; have u2 := cell_below h.out _ _ _ y2; have u3 := cell_below h.out _ _ _ y3; go_simp)) ?_
                        simp only [Act.put, List.setIfInBounds_toArray, List.set_cons_zero, List.set_cons_succ]
                        refine quiet_call (v := .bool true) rfl (fun W => (by go_simp)) (fun W h => (sameTermRefl (Tm.mk yk yn ys ym) _ _ _ _ W (HDY.out.below h.out) (HYL.out.below h.out)).mono fun e w' ⟨he, hb⟩ => ⟨he, h.call hb⟩) ?_
                        simp only [Act.put, List.setIfInBounds_toArray, List.set_cons_zero, List.set_cons_succ]
                        refine quiet_value (v := .bool false) rfl (fun _ _ => (by go_simp)) ?_
                        simp only [Act.put, List.setIfInBounds_toArray, List.set_cons_zero, List.set_cons_succ]
                        refine quiet_value (v := .bool false) rfl (fun _ _ => (by go_simp)) ?_
                        simp only [Act.put, List.setIfInBounds_toArray, List.set_cons_zero, List.set_cons_succ]
                        refine quiet_value (v := .bool false) rfl (fun _ _ => (by go_simp)) ?_
                        simp only [Act.put, List.setIfInBounds_toArray, List.set_cons_zero, List.set_cons_succ]
                        refine quiet_nil ?_
                        intro w9 hw9
                        have H9 := Hid.mk (HT8.out.up hw9.out)
                        have HL9 := Hid.mk (HL8.out.below hw9.out)
                        clear hw9
                        go_wp2
                        go_roundw
                        case rel => exact ⟨i1, _, by have h1 := HILT.out; have h2 := HB1.out.2; omega, by first | rfl | simp, H9, HL9, by rw [← HB1.out.2]; exact HC8⟩
                        case measure => have h1 : i < M := HILT.out; have h2 := HB1.out.2; simp [intOf]; omega
                    · rcases b2 with _ | _
                      · have hi1 : i1 < left.length := by have h1 := HLM.out; have h2 := HB1.out.1.1 rfl; omega
                        obtain ⟨bk2, ok2, he2, hb2, hrow2⟩ := HL8.out.some (by omega)
                        simp only [Option.some.injEq, Addr.mk.injEq, and_true] at he2
                        obtain ⟨rfl, rfl⟩ := he2
                        obtain ⟨xk, xn, xs, xm, xa, xc, hX, x0, x1, x2, x3, hxl⟩ := hrow2.part i1 hi1
                        rw [hX] at hxl
                        have HXL := Hid.mk hxl
                        have HAX : Hid (Lies W8 (fun k => wr.heap.size ≤ k ∧ k < W6.heap.size) (Tm.mk xk xn xs xm) (.agg #[.int .i64 ak, .int .i64 an, .string az, .slice aa am ac])) := Hid.mk (by have h := TA8.out.lies; rw [HA5.out (by have h1 := HB1.out.2; omega)] at h; simp only [HB1.out.2, hX] at h; exact h)
                        have e1 : decide ((i1 : Int) < M) = true := by rw [decide_eq_true_eq]; have h1 := HLM.out; omega
                        have e2 : (i1 : Int) < M := of_decide_eq_true e1
                        clear hX hxl hrow2 hb2
                        have e3 := Hid.mk (show i = 0 by have h2 := HB2.out; have h3 : ¬ 0 < i := (fun h => by have := h2.2 h; cases this); omega)
                        refine region_up (W := W8) (by kernel_rfl) (by kernel_rfl) (Up.refl _) ?_
                        refine quiet_value (v := .bool true) rfl (fun _ _ => rfl) ?_
                        simp only [Act.put, List.setIfInBounds_toArray, List.set_cons_zero, List.set_cons_succ]
                        refine quiet_value (v := .int .i64 i) rfl (fun _ _ => rfl) ?_
                        simp only [Act.put, List.setIfInBounds_toArray, List.set_cons_zero, List.set_cons_succ]
                        refine quiet_value (v := .int .i64 i1) rfl (fun _ _ => (by go_simp)) ?_
                        simp only [Act.put, List.setIfInBounds_toArray, List.set_cons_zero, List.set_cons_succ]
                        refine quiet_value (v := .slice (some ⟨bk, ok, none⟩) M kc) rfl (fun _ _ => rfl) ?_
                        simp only [Act.put, List.setIfInBounds_toArray, List.set_cons_zero, List.set_cons_succ]
                        refine quiet_value (v := .int .i64 M) rfl (fun _ _ => (by go_simp)) ?_
                        simp only [Act.put, List.setIfInBounds_toArray, List.set_cons_zero, List.set_cons_succ]
                        refine quiet_value (v := .bool true) rfl (fun _ _ => (by go_simp)) ?_
                        simp only [Act.put, List.setIfInBounds_toArray, List.set_cons_zero, List.set_cons_succ]
                        refine quiet_value (v := .bool false) rfl (fun _ _ => (by go_simp)) ?_
                        simp only [Act.put, List.setIfInBounds_toArray, List.set_cons_zero, List.set_cons_succ]
                        refine quiet_value (v := .bool false) rfl (fun _ _ => rfl) ?_
                        simp only [Act.put, List.setIfInBounds_toArray, List.set_cons_zero, List.set_cons_succ]
                        refine quiet_value (v := .bool false) rfl (fun _ _ => rfl) ?_
                        simp only [Act.put, List.setIfInBounds_toArray, List.set_cons_zero, List.set_cons_succ]
                        refine quiet_value (v := .int .i64 i) rfl (fun _ _ => rfl) ?_
                        simp only [Act.put, List.setIfInBounds_toArray, List.set_cons_zero, List.set_cons_succ]
                        refine quiet_value (v := .bool false) rfl (fun _ _ => (by go_simp; exact e3.out)) ?_
                        simp only [Act.put, List.setIfInBounds_toArray, List.set_cons_zero, List.set_cons_succ]
                        refine quiet_value (v := .bool false) rfl (fun _ _ => (by go_simp)) ?_
                        simp only [Act.put, List.setIfInBounds_toArray, List.set_cons_zero, List.set_cons_succ]
                        refine quiet_value (v := .bool false) rfl (fun _ _ => (by go_simp)) ?_
                        simp only [Act.put, List.setIfInBounds_toArray, List.set_cons_zero, List.set_cons_succ]
                        refine quiet_value (v := .bool false) rfl (fun _ _ => rfl) ?_
                        simp only [Act.put, List.setIfInBounds_toArray, List.set_cons_zero, List.set_cons_succ]
                        refine quiet_value (v := .bool true) rfl (fun _ _ => rfl) ?_
                        simp only [Act.put, List.setIfInBounds_toArray, List.set_cons_zero, List.set_cons_succ]
                        refine quiet_value (v := .bool true) rfl (fun _ _ => rfl) ?_
                        simp only [Act.put, List.setIfInBounds_toArray, List.set_cons_zero, List.set_cons_succ]
                        refine quiet_value (v := .agg #[.int .i64 ak, .int .i64 an, .string az, .slice aa am ac]) rfl (fun W h => (by have u0 := cell_below h.out _ _ _ a0; have u1 := cell_below h.out _ _ _ a1; have u2 := cell_below h.out _ _ _ a2; have u3 := cell_below h.out _ _ _ a3; go_simp)) ?_
                        simp only [Act.put, List.setIfInBounds_toArray, List.set_cons_zero, List.set_cons_succ]
                        refine quiet_value (v := .slice (some ⟨bk, ok, none⟩) M kc) rfl (fun _ _ => rfl) ?_
                        simp only [Act.put, List.setIfInBounds_toArray, List.set_cons_zero, List.set_cons_succ]
                        refine quiet_value (v := .int .i64 i) rfl (fun _ _ => rfl) ?_
                        simp only [Act.put, List.setIfInBounds_toArray, List.set_cons_zero, List.set_cons_succ]
                        refine quiet_value (v := .int .i64 i1) rfl (fun _ _ => (by go_simp)) ?_
                        simp only [Act.put, List.setIfInBounds_toArray, List.set_cons_zero, List.set_cons_succ]
                        refine quiet_value (v := .pointer (some ⟨bk, ok + i1 * 4, none⟩)) rfl (fun _ _ => (by go_simp)) ?_
                        simp only [Act.put, List.setIfInBounds_toArray, List.set_cons_zero, List.set_cons_succ]
                        refine quiet_value (v := .agg #[.int .i64 xk, .int .i64 xn, .string xs, .slice xa xm.length xc]) rfl (fun W h => (by have u0 := cell_below h.out _ _ _ x0; have u1 := cell_below h.out _ _ _ x1; have u2 := cell_below h.out _ _ _ x2; have u3 := cell_below h.out _ _ _ x3; go_simp)) ?_
                        simp only [Act.put, List.setIfInBounds_toArray, List.set_cons_zero, List.set_cons_succ]
                        refine quiet_call (v := .bool true) rfl (fun W => (by go_simp)) (fun W h => (sameTermRefl (Tm.mk xk xn xs xm) _ _ _ _ W (HAX.out.below h.out) (HXL.out.below h.out)).mono fun e w' ⟨he, hb⟩ => ⟨he, h.call hb⟩) ?_
                        simp only [Act.put, List.setIfInBounds_toArray, List.set_cons_zero, List.set_cons_succ]
                        refine quiet_value (v := .bool false) rfl (fun _ _ => (by go_simp)) ?_
                        simp only [Act.put, List.setIfInBounds_toArray, List.set_cons_zero, List.set_cons_succ]
                        refine quiet_value (v := .bool false) rfl (fun _ _ => (by go_simp)) ?_
                        simp only [Act.put, List.setIfInBounds_toArray, List.set_cons_zero, List.set_cons_succ]
                        refine quiet_value (v := .bool false) rfl (fun _ _ => (by go_simp)) ?_
                        simp only [Act.put, List.setIfInBounds_toArray, List.set_cons_zero, List.set_cons_succ]
                        refine quiet_value (v := .bool false) rfl (fun _ _ => rfl) ?_
                        simp only [Act.put, List.setIfInBounds_toArray, List.set_cons_zero, List.set_cons_succ]
                        refine quiet_value (v := .bool false) rfl (fun _ _ => rfl) ?_
                        simp only [Act.put, List.setIfInBounds_toArray, List.set_cons_zero, List.set_cons_succ]
                        refine quiet_value (v := .bool false) rfl (fun _ _ => rfl) ?_
                        simp only [Act.put, List.setIfInBounds_toArray, List.set_cons_zero, List.set_cons_succ]
                        refine quiet_not rfl ?_
                        simp only [Act.put, List.setIfInBounds_toArray, List.set_cons_zero, List.set_cons_succ]
                        refine quiet_not rfl ?_
                        simp only [Act.put, List.setIfInBounds_toArray, List.set_cons_zero, List.set_cons_succ]
                        refine quiet_not rfl ?_
                        simp only [Act.put, List.setIfInBounds_toArray, List.set_cons_zero, List.set_cons_succ]
                        refine quiet_not rfl ?_
                        simp only [Act.put, List.setIfInBounds_toArray, List.set_cons_zero, List.set_cons_succ]
                        refine quiet_not rfl ?_
                        simp only [Act.put, List.setIfInBounds_toArray, List.set_cons_zero, List.set_cons_succ]
                        refine quiet_not rfl ?_
                        simp only [Act.put, List.setIfInBounds_toArray, List.set_cons_zero, List.set_cons_succ]
                        refine quiet_not rfl ?_
                        simp only [Act.put, List.setIfInBounds_toArray, List.set_cons_zero, List.set_cons_succ]
                        refine quiet_not rfl ?_
                        simp only [Act.put, List.setIfInBounds_toArray, List.set_cons_zero, List.set_cons_succ]
                        refine quiet_value (v := .bool false) rfl (fun _ _ => (by go_simp)) ?_
                        simp only [Act.put, List.setIfInBounds_toArray, List.set_cons_zero, List.set_cons_succ]
                        refine quiet_value (v := .bool false) rfl (fun _ _ => (by go_simp)) ?_
                        simp only [Act.put, List.setIfInBounds_toArray, List.set_cons_zero, List.set_cons_succ]
                        refine quiet_nil ?_
                        intro w9 hw9
                        have H9 := Hid.mk (HT8.out.up hw9.out)
                        have HL9 := Hid.mk (HL8.out.below hw9.out)
                        clear hw9
                        go_wp2
                        go_roundw
                        case rel => exact ⟨i1, _, by have h1 := HILT.out; have h2 := HB1.out.2; omega, by first | rfl | simp, H9, HL9, by rw [← HB1.out.2]; exact HC8⟩
                        case measure => have h1 : i < M := HILT.out; have h2 := HB1.out.2; simp [intOf]; omega
                      · have hi1 : i1 < left.length := by have h1 := HLM.out; have h2 := HB1.out.1.1 rfl; omega
                        obtain ⟨bk2, ok2, he2, hb2, hrow2⟩ := HL8.out.some (by omega)
                        simp only [Option.some.injEq, Addr.mk.injEq, and_true] at he2
                        obtain ⟨rfl, rfl⟩ := he2
                        obtain ⟨xk, xn, xs, xm, xa, xc, hX, x0, x1, x2, x3, hxl⟩ := hrow2.part i1 hi1
                        rw [hX] at hxl
                        have HXL := Hid.mk hxl
                        have HAX : Hid (Lies W8 (fun k => wr.heap.size ≤ k ∧ k < W6.heap.size) (Tm.mk xk xn xs xm) (.agg #[.int .i64 ak, .int .i64 an, .string az, .slice aa am ac])) := Hid.mk (by have h := TA8.out.lies; rw [HA5.out (by have h1 := HB1.out.2; omega)] at h; simp only [HB1.out.2, hX] at h; exact h)
                        have e1 : decide ((i1 : Int) < M) = true := by rw [decide_eq_true_eq]; have h1 := HLM.out; omega
                        have e2 : (i1 : Int) < M := of_decide_eq_true e1
                        clear hX hxl hrow2 hb2
                        have hip : ip < left.length := by have h1 := HIP.out; have h2 := HIM.out; have h3 := HLM.out; omega
                        obtain ⟨bk2, ok2, he2, hb2, hrow2⟩ := HL8.out.some (by omega)
                        simp only [Option.some.injEq, Addr.mk.injEq, and_true] at he2
                        obtain ⟨rfl, rfl⟩ := he2
                        obtain ⟨yk, yn, ys, ym, ya, yc, hX, y0, y1, y2, y3, hxl⟩ := hrow2.part ip hip
                        rw [hX] at hxl
                        have HYL := Hid.mk hxl
                        have HDY : Hid (Lies W8 (fun k => W6.heap.size ≤ k ∧ k < W8.heap.size) (Tm.mk yk yn ys ym) (.agg #[.int .i64 dk, .int .i64 dn, .string ds, .slice da dm dc])) := Hid.mk (by have h := TD8.out.lies; rw [HD7.out (HB2.out.1 rfl)] at h; simp only [HIP.out, hX] at h; exact h)
                        have e3 := Hid.mk (show 0 < i from HB2.out.1 rfl)
                        have e4 : (ip : Int) < M := by have h1 := HLM.out; omega
                        have hwp : IntKind.i64.wrap ((i : Int) - 1) = (ip : Int) := by have h1 := HIP.out; have h2 := HB2.out.1 rfl; have h3 := HM120.out; rw [wrap_id (by omega) (by omega)]; omega
                        clear hX hxl hrow2 hb2
                        refine region_up (W := W8) (by kernel_rfl) (by kernel_rfl) (Up.refl _) ?_
                        refine quiet_value (v := .bool true) rfl (fun _ _ => rfl) ?_
                        simp only [Act.put, List.setIfInBounds_toArray, List.set_cons_zero, List.set_cons_succ]
                        refine quiet_value (v := .int .i64 i) rfl (fun _ _ => rfl) ?_
                        simp only [Act.put, List.setIfInBounds_toArray, List.set_cons_zero, List.set_cons_succ]
                        refine quiet_value (v := .int .i64 i1) rfl (fun _ _ => (by go_simp)) ?_
                        simp only [Act.put, List.setIfInBounds_toArray, List.set_cons_zero, List.set_cons_succ]
                        refine quiet_value (v := .slice (some ⟨bk, ok, none⟩) M kc) rfl (fun _ _ => rfl) ?_
                        simp only [Act.put, List.setIfInBounds_toArray, List.set_cons_zero, List.set_cons_succ]
                        refine quiet_value (v := .int .i64 M) rfl (fun _ _ => (by go_simp)) ?_
                        simp only [Act.put, List.setIfInBounds_toArray, List.set_cons_zero, List.set_cons_succ]
                        refine quiet_value (v := .bool true) rfl (fun _ _ => (by go_simp)) ?_
                        simp only [Act.put, List.setIfInBounds_toArray, List.set_cons_zero, List.set_cons_succ]
                        refine quiet_value (v := .bool false) rfl (fun _ _ => (by go_simp)) ?_
                        simp only [Act.put, List.setIfInBounds_toArray, List.set_cons_zero, List.set_cons_succ]
                        refine quiet_value (v := .bool false) rfl (fun _ _ => rfl) ?_
                        simp only [Act.put, List.setIfInBounds_toArray, List.set_cons_zero, List.set_cons_succ]
                        refine quiet_value (v := .bool true) rfl (fun _ _ => rfl) ?_
                        simp only [Act.put, List.setIfInBounds_toArray, List.set_cons_zero, List.set_cons_succ]
                        refine quiet_value (v := .int .i64 i) rfl (fun _ _ => rfl) ?_
                        simp only [Act.put, List.setIfInBounds_toArray, List.set_cons_zero, List.set_cons_succ]
                        refine quiet_value (v := .bool true) rfl (fun _ _ => (by go_simp; exact e3.out)) ?_
                        simp only [Act.put, List.setIfInBounds_toArray, List.set_cons_zero, List.set_cons_succ]
                        refine quiet_value (v := .bool false) rfl (fun _ _ => (by go_simp)) ?_
                        simp only [Act.put, List.setIfInBounds_toArray, List.set_cons_zero, List.set_cons_succ]
                        refine quiet_value (v := .bool false) rfl (fun _ _ => (by go_simp)) ?_
                        simp only [Act.put, List.setIfInBounds_toArray, List.set_cons_zero, List.set_cons_succ]
                        refine quiet_value (v := .bool false) rfl (fun _ _ => rfl) ?_
                        simp only [Act.put, List.setIfInBounds_toArray, List.set_cons_zero, List.set_cons_succ]
                        refine quiet_value (v := .bool true) rfl (fun _ _ => rfl) ?_
                        simp only [Act.put, List.setIfInBounds_toArray, List.set_cons_zero, List.set_cons_succ]
                        refine quiet_value (v := .bool true) rfl (fun _ _ => rfl) ?_
                        simp only [Act.put, List.setIfInBounds_toArray, List.set_cons_zero, List.set_cons_succ]
                        refine quiet_value (v := .agg #[.int .i64 ak, .int .i64 an, .string az, .slice aa am ac]) rfl (fun W h => (by have u0 := cell_below h.out _ _ _ a0; have u1 := cell_below h.out _ _ _ a1; have u2 := cell_below h.out _ _ _ a2; have u3 := cell_below h.out _ _ _ a3; go_simp)) ?_
                        simp only [Act.put, List.setIfInBounds_toArray, List.set_cons_zero, List.set_cons_succ]
                        refine quiet_value (v := .slice (some ⟨bk, ok, none⟩) M kc) rfl (fun _ _ => rfl) ?_
                        simp only [Act.put, List.setIfInBounds_toArray, List.set_cons_zero, List.set_cons_succ]
                        refine quiet_value (v := .int .i64 i) rfl (fun _ _ => rfl) ?_
                        simp only [Act.put, List.setIfInBounds_toArray, List.set_cons_zero, List.set_cons_succ]
                        refine quiet_value (v := .int .i64 i1) rfl (fun _ _ => (by go_simp)) ?_
                        simp only [Act.put, List.setIfInBounds_toArray, List.set_cons_zero, List.set_cons_succ]
                        refine quiet_value (v := .pointer (some ⟨bk, ok + i1 * 4, none⟩)) rfl (fun _ _ => (by go_simp)) ?_
                        simp only [Act.put, List.setIfInBounds_toArray, List.set_cons_zero, List.set_cons_succ]
                        refine quiet_value (v := .agg #[.int .i64 xk, .int .i64 xn, .string xs, .slice xa xm.length xc]) rfl (fun W h => (by have u0 := cell_below h.out _ _ _ x0; have u1 := cell_below h.out _ _ _ x1; have u2 := cell_below h.out _ _ _ x2; have u3 := cell_below h.out _ _ _ x3; go_simp)) ?_
                        simp only [Act.put, List.setIfInBounds_toArray, List.set_cons_zero, List.set_cons_succ]
                        refine quiet_call (v := .bool true) rfl (fun W => (by go_simp)) (fun W h => (sameTermRefl (Tm.mk xk xn xs xm) _ _ _ _ W (HAX.out.below h.out) (HXL.out.below h.out)).mono fun e w' ⟨he, hb⟩ => ⟨he, h.call hb⟩) ?_
                        simp only [Act.put, List.setIfInBounds_toArray, List.set_cons_zero, List.set_cons_succ]
                        refine quiet_value (v := .bool false) rfl (fun _ _ => (by go_simp)) ?_
                        simp only [Act.put, List.setIfInBounds_toArray, List.set_cons_zero, List.set_cons_succ]
                        refine quiet_value (v := .bool false) rfl (fun _ _ => (by go_simp)) ?_
                        simp only [Act.put, List.setIfInBounds_toArray, List.set_cons_zero, List.set_cons_succ]
                        refine quiet_value (v := .bool false) rfl (fun _ _ => (by go_simp)) ?_
                        simp only [Act.put, List.setIfInBounds_toArray, List.set_cons_zero, List.set_cons_succ]
                        refine quiet_value (v := .bool false) rfl (fun _ _ => rfl) ?_
                        simp only [Act.put, List.setIfInBounds_toArray, List.set_cons_zero, List.set_cons_succ]
                        refine quiet_value (v := .bool true) rfl (fun _ _ => rfl) ?_
                        simp only [Act.put, List.setIfInBounds_toArray, List.set_cons_zero, List.set_cons_succ]
                        refine quiet_value (v := .bool true) rfl (fun _ _ => rfl) ?_
                        simp only [Act.put, List.setIfInBounds_toArray, List.set_cons_zero, List.set_cons_succ]
                        refine quiet_value (v := .agg #[.int .i64 dk, .int .i64 dn, .string ds, .slice da dm dc]) rfl (fun W h => (by have u0 := cell_below h.out _ _ _ d0; have u1 := cell_below h.out _ _ _ d1; have u2 := cell_below h.out _ _ _ d2; have u3 := cell_below h.out _ _ _ d3; go_simp)) ?_
                        simp only [Act.put, List.setIfInBounds_toArray, List.set_cons_zero, List.set_cons_succ]
                        refine quiet_value (v := .slice (some ⟨bk, ok, none⟩) M kc) rfl (fun _ _ => rfl) ?_
                        simp only [Act.put, List.setIfInBounds_toArray, List.set_cons_zero, List.set_cons_succ]
                        refine quiet_value (v := .int .i64 i) rfl (fun _ _ => rfl) ?_
                        simp only [Act.put, List.setIfInBounds_toArray, List.set_cons_zero, List.set_cons_succ]
                        refine quiet_value (v := .int .i64 ip) rfl (fun _ _ => (by go_simp)) ?_
                        simp only [Act.put, List.setIfInBounds_toArray, List.set_cons_zero, List.set_cons_succ]
                        refine quiet_value (v := .pointer (some ⟨bk, ok + ip * 4, none⟩)) rfl (fun _ _ => (by go_simp)) ?_
                        simp only [Act.put, List.setIfInBounds_toArray, List.set_cons_zero, List.set_cons_succ]
                        refine quiet_value (v := .agg #[.int .i64 yk, .int .i64 yn, .string ys, .slice ya ym.length yc]) rfl (fun W h => (by have u0 := cell_below h.out _ _ _ y0; have u1 := cell_below h.out _ _ _ y1; have u2 := cell_below h.out _ _ _ y2; have u3 := cell_below h.out _ _ _ y3; go_simp)) ?_
                        simp only [Act.put, List.setIfInBounds_toArray, List.set_cons_zero, List.set_cons_succ]
                        refine quiet_call (v := .bool true) rfl (fun W => (by go_simp)) (fun W h => (sameTermRefl (Tm.mk yk yn ys ym) _ _ _ _ W (HDY.out.below h.out) (HYL.out.below h.out)).mono fun e w' ⟨he, hb⟩ => ⟨he, h.call hb⟩) ?_
                        simp only [Act.put, List.setIfInBounds_toArray, List.set_cons_zero, List.set_cons_succ]
                        refine quiet_value (v := .bool false) rfl (fun _ _ => (by go_simp)) ?_
                        simp only [Act.put, List.setIfInBounds_toArray, List.set_cons_zero, List.set_cons_succ]
                        refine quiet_value (v := .bool false) rfl (fun _ _ => (by go_simp)) ?_
                        simp only [Act.put, List.setIfInBounds_toArray, List.set_cons_zero, List.set_cons_succ]
                        refine quiet_value (v := .bool false) rfl (fun _ _ => (by go_simp)) ?_
                        simp only [Act.put, List.setIfInBounds_toArray, List.set_cons_zero, List.set_cons_succ]
                        refine quiet_nil ?_
                        intro w9 hw9
                        have H9 := Hid.mk (HT8.out.up hw9.out)
                        have HL9 := Hid.mk (HL8.out.below hw9.out)
                        clear hw9
                        go_wp2
                        go_roundw
                        case rel => exact ⟨i1, _, by have h1 := HILT.out; have h2 := HB1.out.2; omega, by first | rfl | simp, H9, HL9, by rw [← HB1.out.2]; exact HC8⟩
                        case measure => have h1 : i < M := HILT.out; have h2 := HB1.out.2; simp [intOf]; omega
                  · obtain rfl : i = M := by omega
                    go_wp2
                    go_ret
                    exact ⟨rfl, B1.out.trans (hT.out.below.mono B1.out.size)⟩
end Go.Proofs.YteklhipcojioaaaDoor
