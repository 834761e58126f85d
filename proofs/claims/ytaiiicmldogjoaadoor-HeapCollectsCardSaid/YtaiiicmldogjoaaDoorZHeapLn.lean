/-
  HeapCollects returns true.
-/
import Derived.Test.YtaiiicmldogjoaaDoorZHeapRows
import Derived.Test.YtaiiicmldogjoaaDoorZHeapS
import Derived.Test.YtaiiicmldogjoaaDoorZKitInts
import Derived.Test.YtaiiicmldogjoaaDoorZKitPick
namespace Go.Proofs.YtaiiicmldogjoaaDoor
open Go.RowKit Go.Deep Go.Maps Go.WideShapes

/-- Rows of numbers that came in. -/
def RowsIn (w : World) (tu : List (List Int)) (ta : Option Addr) : Prop := ∀ i (h : i < tu.length), ∃ b o ia ic, ta = some ⟨b, o, none⟩ ∧ w.cell? ⟨b, o + i, none⟩ = some (.slice ia tu[i].length ic) ∧ CelI w tu[i] ia
theorem RowsIn.up {w w' : World} {tu : List (List Int)} {ta : Option Addr} (h : RowsIn w tu ta) (hb : Below w.heap.size w w') : RowsIn w' tu ta := fun i hi => by
  obtain ⟨b, o, ia, ic, h1, h2, h3⟩ := h i hi
  exact ⟨b, o, ia, ic, h1, cell_below hb _ _ _ h2, h3.up hb⟩
theorem Hl.start {W0 w : World} {hb : Nat} {S : Nat → Prop} (h : St W0 w hb S [] 100000 [] []) (hW : WordTab W0) (hS : ShapeTab W0) : Hl W0 w hb S [] [] [] (fun b => b < W0.heap.size) [] :=
  ⟨h, fun b hb' => h.old_safe hb', fun r hr => (by cases hr), fun r hr => (by cases hr), ⟨hW.size, hS.size⟩, List.Pairwise.nil⟩

set_option maxHeartbeats 32000000 in
set_option maxRecDepth 100000 in
theorem lawCollects9 (l : List Tm) (a : Option Addr) (c : Nat) (tu : List (List Int)) (ta : Option Addr) (tc : Nat) (ro : List Int) (ra : Option Addr) (rc : Nat) (w : World) (S0 : Nat → Prop) (hl : Lst w S0 l a c) (ht : RowsIn w tu ta) (hr : CelI w ro ra) (hW : WordTab w) (hH : ShapeTab w) :
    Calls Tryd.prog 5 #[.slice a l.length c, .slice ta tu.length tc, .slice ra ro.length rc] w fun e w' => e = .returned (.bool true) ∧ Below w.heap.size w w' := by
  have HWH := Hid.mk (show WordTab w ∧ ShapeTab w from ⟨hW, hH⟩)
  have HLI := Hid.mk hl.inside
  have HTU := Hid.mk ht
  have HRO := Hid.mk hr
  clear hl ht hr hW hH
  go_enter Tryd.func5, Tryd.ntmps5
  go_upto_region 3 with (first
    | (go_at_call 4; refine (known9_any _ HWH.out.1 HWH.out.2).mono ?_; rintro e w1 ⟨rfl, hb1⟩; have B1 := Hid.mk hb1; clear hb1)
    | (go_at_call 25; refine (new_any _).mono ?_; rintro e w2 ⟨rfl, hT2, hb2⟩; have M2 := Hid.mk (fun k (hk : Mine (w1.heap.size + 1) w1.heap.size (.slice none 0 0) k) => Nat.le_trans B1.out.size (mine_new w1 k hk)); have T2 := Hid.mk hT2; have B2 := Hid.mk (B1.out.trans (hb2.mono B1.out.size)); clear hT2 hb2)
    | (go_at_call 16; refine (newH_lit _ _ _ 100000 100000 w _ rfl T2.out (by decide) B2.out (fun k hk => M2.out k hk) HWH.out.1 HWH.out.2).mono ?_; rintro e w3 ⟨hb, S, rfl, h3, _⟩; have H3 := Hid.mk (Hl.start h3 HWH.out.1 HWH.out.2); clear h3))
  clear T2 M2 B1 B2
  by_cases h8 : 8 < l.length
  · have d1 : decide ((8 : Int) < (l.length : Nat)) = true := by rw [decide_eq_true_eq]; omega
    have d2 : decide (8 < l.length) = true := decide_eq_true h8
    go_wp2
    go_ret
    exact ⟨rfl, H3.out.st.below⟩
  · have d1 : decide ((8 : Int) < (l.length : Nat)) = false := by rw [decide_eq_false_iff_not]; omega
    have d2 : decide (8 < l.length) = false := decide_eq_false h8
    by_cases h20 : 20 < tu.length
    · have d3 : decide ((20 : Int) < (tu.length : Nat)) = true := by rw [decide_eq_true_eq]; omega
      have d4 : decide (20 < tu.length) = true := decide_eq_true h20
      go_wp2_with (go_at_call 26; refine (largeAll_any l _ _ _ 40 _ (HLI.out.below H3.out.st.below) (by omega) (by omega)).mono ?_; rintro e w4 ⟨⟨b, rfl, _⟩, hb4⟩; have H4 := Hid.mk (H3.out.up hb4); clear hb4)
      all_goals go_ret
      all_goals exact ⟨rfl, H4.out.st.below⟩
    · have d3 : decide ((20 : Int) < (tu.length : Nat)) = false := by rw [decide_eq_false_iff_not]; omega
      have d4 : decide (20 < tu.length) = false := decide_eq_false h20
      by_cases hr20 : 20 < ro.length
      · have d5 : decide ((20 : Int) < (ro.length : Nat)) = true := by rw [decide_eq_true_eq]; omega
        have d6 : decide (20 < ro.length) = true := decide_eq_true hr20
        go_wp2_with (go_at_call 26; refine (largeAll_any l _ _ _ 40 _ (HLI.out.below H3.out.st.below) (by omega) (by omega)).mono ?_; rintro e w4 ⟨⟨b, rfl, _⟩, hb4⟩; have H4 := Hid.mk (H3.out.up hb4); clear hb4)
        all_goals go_ret
        all_goals exact ⟨rfl, H4.out.st.below⟩
      · have d5 : decide ((20 : Int) < (ro.length : Nat)) = false := by rw [decide_eq_false_iff_not]; omega
        have d6 : decide (20 < ro.length) = false := decide_eq_false hr20
        have HN := Hid.mk (show l.length ≤ 8 ∧ tu.length ≤ 20 ∧ ro.length ≤ 20 by omega)
        clear h8 h20 hr20
        go_upto_region 8 with (go_at_call 26; refine (largeAll_any l _ _ _ 40 _ (HLI.out.below H3.out.st.below) (by omega) (by omega)).mono ?_; rintro e w4 ⟨⟨b, rfl, hbf⟩, hb4⟩; have H4 := Hid.mk (H3.out.up hb4); have HBF := Hid.mk hbf; clear hb4 hbf)
        · go_ret
          exact ⟨rfl, H4.out.st.below⟩
        · have hsz : sizes l ≤ 40 := by have := (HBF.out (by cases b <;> first | rfl | contradiction | simp_all)).2; omega
          have HSZ := Hid.mk hsz
          clear hsz HBF
          have H5 := Hid.mk ((H4.out.push (r := .ts (.slice none 0 0) []) (Tms.nil _ _) rfl).push (r := .ws (.slice none 0 0) []) (show Wds w4 (.slice none 0 0) [] from World.ownsRow_nil _ _ _ _) rfl)
          clear H4 H3
          go_loopw [10, 11, 12] (fun av tv ii wr => ∃ (i : Nat) (S : Nat → Prop) (L : List ByteArray) (xs ks al : List Int) (tl : List Tm), ii = .int .i64 i ∧ Hid (i ≤ l.length) ∧ Hid (Hl w wr hb S L xs ks (fun b => b < w.heap.size) [.ws av al, .ts tv tl]) ∧ Hid (Dn L xs ks al tl) ∧
            Hid (L.length ≤ sizes (l.take i) ∧ bytesOf L ≤ 64 * sizes (l.take i) ∧ xs.length ≤ 2 * sizes (l.take i) ∧ al.length ≤ i)) (fun _ _ ii _ => 10 - (intOf ii).toNat)
          case atStart => exact ⟨0, S, [], [], [], [], [], rfl, Hid.mk (Nat.zero_le _), H5, Hid.mk Dn.nil, Hid.mk ⟨Nat.zero_le _, (by simp [bytesOf]), Nat.zero_le _, Nat.le_refl _⟩⟩
          case round =>
            clear H5
            obtain ⟨i, S, L, xs, ks, al, tl, rfl, hi, H, hD, hB⟩ := hrel
            by_cases hlt : i < l.length
            · have e1 : decide ((i : Int) < (l.length : Nat)) = true := by rw [decide_eq_true_eq]; omega
              have e2 : (i : Int) < (l.length : Nat) := by omega
              have hwi : IntKind.i64.wrap ((i : Int) + 1) = ((i + 1 : Nat) : Int) := by have := HN.out; rw [wrap_id (by omega) (by omega)]; omega
              obtain ⟨lb, lo, hla, _, hrow⟩ := HLI.out.some (by omega)
              obtain ⟨k, n, z, m, pa, pc, hte, q0, q1, q2, q3, hli⟩ := hrow.part i hlt
              subst hla
              have hst := sizes_take l i hlt
              have hsl := sizes_le l (i + 1)
              have hpos := (l[i]).size_pos
              obtain ⟨T, hT⟩ : ∃ T, l[i] = T := ⟨_, rfl⟩
              rw [hT] at hst hpos hli
              have hT40 : T.size ≤ 40 := by have := HSZ.out; omega
              have hw2 := wordsR_two T
              have HQ := Hid.mk (fun W (hb' : Below w.heap.size w W) => (show _ ∧ _ ∧ _ ∧ _ from ⟨cell_below hb' _ _ _ q0, cell_below hb' _ _ _ q1, cell_below hb' _ _ _ q2, cell_below hb' _ _ _ q3⟩))
              have HLIE := Hid.mk (fun W (hb' : Below w.heap.size w W) => hli.below hb')
              have HCK := Hid.mk (fun W (hb' : Below w.heap.size w W) => checkI_any T (by omega) _ _ W (hli.below hb') (HWH.out.2.below hb'))
              have hbw := H.out.st.below
              obtain ⟨q0, q1, q2, q3⟩ := HQ.out wr hbw
              have HLT := Hid.mk hlt
              have hSf : ∀ {W : World} {S' : Nat → Prop} {L' : List ByteArray} {xs' ks' : List Int}, St w W hb S' L' 100000 xs' ks' → Lies W (Sf S' W) T (.agg #[.int .i64 k, .int .i64 n, .string z, .slice pa m.length pc]) := fun hs => (HLIE.out _ hs.below).wider fun b hb' => hs.old_safe hb'.2
              have HSF := @hSf
              clear hSf
              by_cases hc : T.check = 0
              · have hfit := fits_check hc
                have hB' := hB.out
                have hs40 := HSZ.out
                have hroom := nums_room T hfit L (by omega) (by omega)
                have hlay := laid_length (T.nums L).2 T hfit xs.length
                have hst5 := H.out.st.fit
                have hkl : ks.length = xs.length := H.out.st.wf.len
                have hdp := den_put (xs := xs) (ks := ks) hc hroom.1 hkl (by omega) (by omega)
                have hD2 := (hD.out.mono (nums_pre T L) (zs := T.laid (T.nums L).2 xs.length) (zs' := T.kds)).snoc hdp (by omega)
                have HP0 := H.out.st.put (HSF H.out.st) hc hroom.1 (by omega) (by omega)
                obtain ⟨L2, hL2⟩ : ∃ L2, (T.nums L).2 = L2 := ⟨_, rfl⟩
                rw [hL2] at hroom hlay hdp hD2 HP0
                obtain ⟨x2, hx2⟩ : ∃ x2, T.own L2 xs.length = x2 := ⟨_, rfl⟩
                obtain ⟨xs2, hxs2⟩ : ∃ xs2, xs ++ T.laid L2 xs.length = xs2 := ⟨_, rfl⟩
                obtain ⟨ks2, hks2⟩ : ∃ ks2, ks ++ T.kds = ks2 := ⟨_, rfl⟩
                have hxl2 : xs2.length ≤ 2 * sizes (l.take (i + 1)) := by rw [← hxs2, List.length_append]; omega
                rw [hx2, hxs2, hks2] at hdp hD2 HP0
                have hbd2 := Hid.mk (show L2.length ≤ sizes (l.take (i + 1)) ∧ bytesOf L2 ≤ 64 * sizes (l.take (i + 1)) ∧ xs2.length ≤ 2 * sizes (l.take (i + 1)) ∧ al.length + 1 ≤ i + 1 by omega)
                have HP := Hid.mk HP0
                have HDP := Hid.mk hdp
                have HD2 := Hid.mk hD2
                have HW6 := Hid.mk (show T.wordsR ≤ 65536 by omega)
                have HAL := Hid.mk (show al.length ≤ 8 ∧ tl.length ≤ 8 by have h1 := hD.out.len; have h2 := HN.out; omega)
                rw [hc] at HCK
                clear hs40 hc hfit hB' hroom hlay hst5 hkl hdp hD2 HP0 hL2 hx2 hxs2 hks2 hxl2 hst hsl hpos hli hrow hte hT hT40 hw2 hlt hbw
                go_upto_region 14 with (first
                  | (go_at_call 6; refine HP.out.mono ?_; rintro e w5 ⟨S2, rfl, hst5, hsp5⟩; have H6 := Hid.mk (H.out.heap hst5 hsp5); obtain ⟨q0, q1, q2, q3⟩ := HQ.out w5 H6.out.st.below; clear hst5 hsp5)
                  | (go_at_call 27; refine (HCK.out _ H6.out.st.below).mono ?_; rintro e w7 ⟨rfl, hb7⟩; have H7 := Hid.mk (H6.out.up hb7); obtain ⟨q0, q1, q2, q3⟩ := HQ.out w7 H7.out.st.below; clear hb7)
                  | (go_at_call 21; refine (got_any _ H7.out.st HDP.out HW6.out (HLIE.out _ H7.out.st.below)).mono ?_; rintro e w8 ⟨rfl, hb8⟩; have H8 := Hid.mk (H7.out.up hb8); clear hb8))
                obtain ⟨W8, hW8⟩ : ∃ W8, w8.alloc (.cells #[.int .u64 x2] 22) = W8 := ⟨_, rfl⟩
                have hb8 : Below w8.heap.size w8 W8 := by rw [← hW8]; exact (Below.refl _ _).alloc (Nat.le_refl _) _
                have hx8 : W8.heap[w8.heap.size]? = some (.cells #[.int .u64 x2] 22) := by rw [← hW8]; exact new_block _ _
                have h8' := H8.out.up hb8
                obtain ⟨av9, w9, hr9, hA9, hg9, ho9⟩ := append_word W8 25 u10 al (h8'.at_ (r := .ws u10 al) (by simp)) w8.heap.size x2 hx8 (by have := HAL.out; omega)
                have H9 := Hid.mk (h8'.app (A := []) (r' := .ws av9 (al ++ [x2])) hA9 hg9 ho9)
                obtain ⟨W10, hW10⟩ : ∃ W10, w9.alloc (.cells #[.int .i64 k, .int .i64 n, .string z, .slice pa m.length pc] 42) = W10 := ⟨_, rfl⟩
                have hb10 : Below w9.heap.size w9 W10 := by rw [← hW10]; exact (Below.refl _ _).alloc (Nat.le_refl _) _
                have hx10 : W10.heap[w9.heap.size]? = some (.cells #[.int .i64 k, .int .i64 n, .string z, .slice pa m.length pc] 42) := by rw [← hW10]; exact new_block _ _
                have h10 := H9.out.up hb10
                obtain ⟨tv11, w11, hr11, hA11, hg11, ho11⟩ := append_term W10 40 _ u11 tl (h10.at_ (r := .ts u11 tl) (by simp)) T w9.heap.size k n z pa m.length pc hx10 ((HLIE.out _ h10.st.below).wider fun b hb' => hb'.2) (fun g hg => (h10.safe (.ts u11 tl) (by simp) g hg).2.1) (by have := HAL.out; omega)
                have H11 := Hid.mk (h10.app (A := [.ws av9 (al ++ [x2])]) (r' := .ts tv11 (tl ++ [T])) hA11 hg11 ho11)
                obtain ⟨q0, q1, q2, q3⟩ := HQ.out w9 H9.out.st.below
                clear hb8 hx8 h8' hA9 hg9 ho9 hb10 hx10 h10 hA11 hg11 ho11
                go_wp2_with (first
                  | (at_builtin; refine Lib.wpList_append_run _ rfl _ _ _ _ rfl _ _ rfl rfl _ _ hr9 ?_)
                  | (at_builtin; refine Lib.wpList_append_run _ rfl _ _ _ _ rfl _ _ rfl rfl _ _ hr11 ?_))
                go_roundw
                case rel => exact ⟨i + 1, S2, L2, xs2, ks2, al ++ [x2], tl ++ [T], by first | rfl | go_num, Hid.mk HLT.out, H11, HD2, Hid.mk (by have := hbd2.out; rw [List.length_append]; exact this)⟩
                case measure => have := HN.out; have := HLT.out; simp [intOf]; omega
              · have hck : (T.check != 0) = true := by simpa using hc
                have HP := Hid.mk (H.out.st.put_bad (HLIE.out wr hbw) hc (by omega))
                have HST := Hid.mk (show _ ∧ _ from ⟨hst, hpos⟩)
                clear hc hst hsl hpos hli hrow hte hT hT40 hw2 hlt HSF hbw
                generalize T.check = ck at *
                go_wp2_with (first
                  | (go_at_call 6; refine HP.out.mono ?_; rintro e w5 ⟨rfl, hb5⟩; have H6 := Hid.mk (H.out.up hb5); obtain ⟨q0, q1, q2, q3⟩ := HQ.out w5 H6.out.st.below; clear hb5)
                  | (go_at_call 27; refine (HCK.out _ H6.out.st.below).mono ?_; rintro e w7 ⟨rfl, hb7⟩; have H7 := Hid.mk (H6.out.up hb7); clear hb7))
                go_roundw
                case rel => exact ⟨i + 1, S, L, xs, ks, al, tl, by first | rfl | go_num, Hid.mk HLT.out, H7, hD, Hid.mk (by have h1 := hB.out; have h2 := HST.out.1; omega)⟩
                case measure => have := HN.out; have := HLT.out; simp [intOf]; omega
            · have e1 : decide ((i : Int) < (l.length : Nat)) = false := by rw [decide_eq_false_iff_not]; omega
              have hB2 : Hid (xs.length ≤ 80 ∧ al.length ≤ 8) := Hid.mk (by
                have h1 := hB.out
                have h2 := sizes_le l i
                have h3 := HSZ.out
                have h4 := HN.out
                have h5 := hi.out
                omega)
              have e2 : decide (i < l.length) = false := decide_eq_false hlt
              go_upto_region 17 with fail
              clear e1 e2 hlt
              go_loopw [10, 11, 15] (fun av tv ii wr => ∃ (i : Nat) (S : Nat → Prop) (xs ks al : List Int) (F : Nat → Prop) (tl : List Tm), ii = .int .i64 i ∧ Hid (i ≤ tu.length) ∧ Hid (Hl w wr hb S L xs ks F [.ws av al, .ts tv tl]) ∧ Hid (Dn L xs ks al tl) ∧ Hid (xs.length ≤ 80 + 5 * i ∧ al.length ≤ 8 + i)) (fun _ _ ii _ => 30 - (intOf ii).toNat)
              case atStart => exact ⟨0, S, xs, ks, al, _, tl, rfl, Hid.mk (Nat.zero_le _), H, hD, Hid.mk (by have := hB2.out; omega)⟩
              case round =>
                clear H hD hB hB2 hi
                obtain ⟨i, S, xs, ks, al, F, tl, rfl, hi, H, hD, hB⟩ := hrel
                obtain ⟨aa, ac, hav, hac, hacn⟩ := (show Wds _ u10 al from H.out.at_ (r := .ws u10 al) (by simp)).cel0
                subst hav
                have hwi : IntKind.i64.wrap ((i : Int) + 1) = ((i + 1 : Nat) : Int) := by have := HN.out; have := hi.out; rw [wrap_id (by omega) (by omega)]; omega
                by_cases hlt : i < tu.length ∧ 0 < al.length
                · obtain ⟨hlt, hal⟩ := hlt
                  have e1 : decide ((i : Int) < (tu.length : Nat)) = true := by rw [decide_eq_true_eq]; omega
                  have e2 : decide ((0 : Int) < (al.length : Nat)) = true := by rw [decide_eq_true_eq]; omega
                  have e3 : decide (0 < al.length) = true := by rw [decide_eq_true_eq]; omega
                  have e4 : (i : Int) < (tu.length : Nat) := by omega
                  obtain ⟨tb, too, ia, ic, hta, htc, hti⟩ := HTU.out i hlt
                  subst hta
                  obtain ⟨tp, htp⟩ : ∃ tp, tu[i] = tp := ⟨_, rfl⟩
                  rw [htp] at htc hti
                  have HTC := Hid.mk (fun W (hb' : Below w.heap.size w W) => cell_below hb' _ _ _ htc)
                  have HTI := Hid.mk (fun W (hb' : Below w.heap.size w W) => hti.up hb')
                  have HLT := Hid.mk hlt
                  have HAL := Hid.mk hal
                  clear htp htc hti hlt hal
                  have H2 := Hid.mk ((H.out.push (r := .ts (.slice none 0 0) []) (Tms.nil _ _) rfl).push (r := .ws (.slice none 0 0) []) (show Wds _ (.slice none 0 0) [] from World.ownsRow_nil _ _ _ _) rfl)
                  go_upto_region 22 with fail
                  go_loopw [16, 17, 18] (fun wv sv kk wq => ∃ (k : Nat) (ws : List Int) (ts : List Tm), kk = .int .i64 k ∧ Hid (k ≤ 4 ∧ ws.length = k) ∧ Hid (Hl w wq hb S L xs ks F [.ws wv ws, .ts sv ts, .ws (.slice aa al.length ac) al, .ts u11 tl]) ∧ Hid (Dn L xs ks ws ts)) (fun _ _ kk _ => 10 - (intOf kk).toNat)
                  case atStart => exact ⟨0, [], [], rfl, Hid.mk ⟨Nat.zero_le _, rfl⟩, H2, Hid.mk Dn.nil⟩
                  case round =>
                    clear H2 H
                    obtain ⟨k, ws, ts, rfl, hk, H, hDw⟩ := hrel
                    have ct := HTC.out _ H.out.st.below
                    have hwk : IntKind.i64.wrap ((k : Int) + 1) = ((k + 1 : Nat) : Int) := by have := hk.out; rw [wrap_id (by omega) (by omega)]; omega
                    by_cases hkt : k < tp.length ∧ k < 4
                    · obtain ⟨hk1, hk2⟩ := hkt
                      have d1 : decide ((k : Int) < (tp.length : Nat)) = true := by rw [decide_eq_true_eq]; omega
                      have d2 : decide ((k : Int) < 4) = true := by rw [decide_eq_true_eq]; omega
                      have d3 : decide (k < 4) = true := by rw [decide_eq_true_eq]; omega
                      have d4 : (k : Int) < (tp.length : Nat) := by omega
                      obtain ⟨ib, io, hia, hic⟩ := HTI.out _ H.out.st.below (by omega)
                      subst hia
                      have cx := hic k hk1
                      obtain ⟨x, hx⟩ : ∃ x, tp[k] = x := ⟨_, rfl⟩
                      rw [hx] at cx
                      have hal9 : al.length ≤ 100 := by have h1 := hB.out; have h2 := HN.out; have h3 := HLT.out; omega
                      obtain ⟨y, hy, hpk⟩ := pick_fun x (al.length : Nat) (by have := HAL.out; omega) (by omega)
                      have hya : y < al.length := by omega
                      have hyt : y < tl.length := by have := hD.out.len; omega
                      have hyt2 : (y : Int) < (tl.length : Nat) := by omega
                      have HPK := Hid.mk hpk
                      obtain ⟨ag, acp, hle, _, hacc⟩ := (show Wds _ (.slice aa al.length ac) al from H.out.at_ (r := .ws (.slice aa al.length ac) al) (by simp)).slice (by omega)
                      cases hle
                      have ca := hacc y hya
                      have hdy := hD.out.den y hyt hya
                      have hsy := hD.out.size _ (List.getElem_mem hyt)
                      obtain ⟨z, hz⟩ : ∃ z, al[y] = z := ⟨_, rfl⟩
                      obtain ⟨T, hT⟩ : ∃ T, tl[y] = T := ⟨_, rfl⟩
                      rw [hz] at ca hdy
                      rw [hT] at hdy hsy
                      have HD2 := Hid.mk (hDw.out.snoc hdy hsy)
                      obtain ⟨W1, hW1⟩ : ∃ W1, wr.alloc (.cells #[.int .u64 z] 22) = W1 := ⟨_, rfl⟩
                      have hb1 : Below wr.heap.size wr W1 := by rw [← hW1]; exact (Below.refl _ _).alloc (Nat.le_refl _) _
                      have hx1 : W1.heap[wr.heap.size]? = some (.cells #[.int .u64 z] 22) := by rw [← hW1]; exact new_block _ _
                      have h1 := H.out.up hb1
                      obtain ⟨wv2, w2, hr2, hA2, hg2, ho2⟩ := append_word W1 25 u16 ws (h1.at_ (r := .ws u16 ws) (by simp)) wr.heap.size z hx1 (by have := hk.out; omega)
                      have h2 := h1.app (A := []) (r' := .ws wv2 (ws ++ [z])) hA2 hg2 ho2
                      obtain ⟨tg, tcp, tk, tn, tz, tpa, tm, tpc, htv, q0, q1, q2, q3, hLy⟩ := (show Tms w2 F u11 tl from h2.at_ (r := .ts u11 tl) (by simp)).part y hyt
                      rw [hT] at hLy
                      subst htv
                      obtain ⟨W3, hW3⟩ : ∃ W3, w2.alloc (.cells #[.int .i64 tk, .int .i64 tn, .string tz, .slice tpa tm tpc] 42) = W3 := ⟨_, rfl⟩
                      have hb3 : Below w2.heap.size w2 W3 := by rw [← hW3]; exact (Below.refl _ _).alloc (Nat.le_refl _) _
                      have hx3 : W3.heap[w2.heap.size]? = some (.cells #[.int .i64 tk, .int .i64 tn, .string tz, .slice tpa tm tpc] 42) := by rw [← hW3]; exact new_block _ _
                      have h3 := h2.up hb3
                      obtain ⟨tv4, w4, hr4, hA4, hg4, ho4⟩ := append_term W3 40 _ u17 ts (h3.at_ (r := .ts u17 ts) (by simp)) T w2.heap.size tk tn tz tpa tm tpc hx3 (hLy.below hb3) (fun g hg => (h3.safe (.ts u17 ts) (by simp) g hg).2.1) (by have h5 := hDw.out.len; have h6 := hk.out; omega)
                      have H4 := Hid.mk (h3.app (A := [.ws wv2 (ws ++ [z])]) (r' := .ts tv4 (ts ++ [T])) hA4 hg4 ho4)
                      have HKK := Hid.mk (show k < 4 ∧ ws.length = k from ⟨hk2, hk.out.2⟩)
                      clear hic hx hacc hdy hsy hb1 hx1 h1 hA2 hg2 ho2 h2 hLy hb3 hx3 h3 hA4 hg4 ho4 hpk hk1 hk2 hT hz
                      go_wp2_with (first
                        | (go_at_call 28; refine (HPK.out _).mono ?_; rintro e wz ⟨rfl, rfl⟩)
                        | (at_builtin; refine Lib.wpList_append_run _ rfl _ _ _ _ rfl _ _ rfl rfl _ _ hr2 ?_)
                        | (at_builtin; refine Lib.wpList_append_run _ rfl _ _ _ _ rfl _ _ rfl rfl _ _ hr4 ?_))
                      go_roundw
                      case rel => exact ⟨k + 1, ws ++ [z], ts ++ [T], by first | rfl | go_num, Hid.mk (by have := HKK.out; rw [List.length_append, List.length_singleton]; omega), H4, HD2⟩
                      case measure => have := HKK.out; simp [intOf]; omega
                    · by_cases hk1 : k < tp.length
                      · have hk2 : ¬ k < 4 := fun h => hkt ⟨hk1, h⟩
                        have d1 : decide ((k : Int) < (tp.length : Nat)) = true := by rw [decide_eq_true_eq]; omega
                        have d0 : decide (k < tp.length) = true := decide_eq_true hk1
                        have d2 : decide ((k : Int) < 4) = false := by rw [decide_eq_false_iff_not]; omega
                        have d3 : decide (k < 4) = false := decide_eq_false hk2
                        clear hkt hk1 hk2
                        obtain ⟨sa, sc, hsv, hLs⟩ := (show Tms wr F u17 ts from H.out.at_ (r := .ts u17 ts) (by simp)).lst
                        subst hsv
                        obtain ⟨wa, wc, hwv, _, hwn⟩ := (show Wds wr u16 ws from H.out.at_ (r := .ws u16 ws) (by simp)).cel0
                        subst hwv
                        have HLS := Hid.mk hLs
                        have HWN := Hid.mk hwn
                        clear hLs hwn
                        go_upto_region 29 with (go_at_call 26; refine (largeAll_any ts _ sa sc 500 _ HLS.out (by omega) (by omega)).mono ?_; rintro e w5 ⟨⟨b5, rfl, hbf5⟩, hb5⟩; have H5 := Hid.mk (H.out.up hb5); have HBF5 := Hid.mk hbf5; clear hb5 hbf5)
                        · go_ret
                          exact ⟨rfl, H5.out.st.below⟩
                        · have hs500 : sizes ts ≤ 500 := by have := (HBF5.out (by cases b5 <;> first | rfl | contradiction | simp_all)).2; omega
                          have hwl : ws.length ≤ 4 := by have := hk.out; omega
                          have hkl : ks.length = xs.length := H5.out.st.wf.len
                          have hbx := hB.out
                          have hit := HLT.out
                          have hn20 := HN.out
                          have hall : (∀ x ∈ ws, 0 ≤ x ∧ x < 18446744073709551616) ∧ ws.all (mayB L ks) = true := by
                            constructor
                            · intro x hx
                              obtain ⟨j, hj, rfl⟩ := List.getElem_of_mem hx
                              exact (den_word (hDw.out.den j (by have := hDw.out.len; omega) hj)).1
                            · rw [List.all_eq_true]
                              intro x hx
                              obtain ⟨j, hj, rfl⟩ := List.getElem_of_mem hx
                              exact (den_word (hDw.out.den j (by have := hDw.out.len; omega) hj)).2
                          have hD6 := (hD.out.mono (List.prefix_refl L) (zs := leadW 7 0 ws.length ++ ws) (zs' := kbox 7 (1 + ws.length))).snoc (den_tuple hDw.out hkl (by omega) (by omega)) (by rw [Tm.tup, Tm.size_mk]; omega)
                          have hT0 := H5.out.st.tuple (ys := ws) (a := wa) (c := wc) (by omega) (show Wds _ (.slice wa ws.length wc) ws from H5.out.at_ (r := .ws (.slice wa ws.length wc) ws) (by simp)).celA HWN.out hall.1 hall.2 (by omega)
                          obtain ⟨x2, hx2⟩ : ∃ x2, Wd.packW 7 xs.length = x2 := ⟨_, rfl⟩
                          obtain ⟨xs2, hxs2⟩ : ∃ xs2, xs ++ (leadW 7 0 ws.length ++ ws) = xs2 := ⟨_, rfl⟩
                          obtain ⟨ks2, hks2⟩ : ∃ ks2, ks ++ kbox 7 (1 + ws.length) = ks2 := ⟨_, rfl⟩
                          have hxl : xs2.length = xs.length + (1 + ws.length) := by rw [← hxs2, List.length_append, List.length_append]; rfl
                          rw [hx2, hxs2, hks2] at hD6 hT0
                          have HD6 := Hid.mk hD6
                          have HT0 := Hid.mk hT0
                          have HBD := Hid.mk (show xs2.length ≤ 80 + 5 * (i + 1) ∧ al.length + 1 ≤ 8 + (i + 1) ∧ al.length ≤ 100 ∧ tl.length ≤ 100 by have := hD.out.len; omega)
                          clear hs500 hwl hkl hbx hit hn20 hall hD6 hT0 hx2 hxs2 hks2 hxl
                          go_wp2_with (first
                            | (go_at_call 8; refine HT0.out.mono ?_; rintro e w6 ⟨S6, rfl, hst6, hsp6⟩
                               have h6 := H5.out.heap hst6 hsp6
                               obtain ⟨W8, hW8⟩ : ∃ W8, w6.alloc (.cells #[.int .u64 x2] 22) = W8 := ⟨_, rfl⟩
                               have hb8 : Below w6.heap.size w6 W8 := (by rw [← hW8]; exact (Below.refl _ _).alloc (Nat.le_refl _) _)
                               have hx8 : W8.heap[w6.heap.size]? = some (.cells #[.int .u64 x2] 22) := (by rw [← hW8]; exact new_block _ _)
                               have h8 := h6.up hb8
                               obtain ⟨av9, w9, hr9, hA9, hg9, ho9⟩ := append_word W8 25 (.slice aa al.length ac) al (h8.at_ (r := .ws (.slice aa al.length ac) al) (by simp)) w6.heap.size x2 hx8 (by have := HBD.out; omega)
                               have H9 := Hid.mk (h8.app (A := [.ws (.slice wa ws.length wc) ws, .ts (.slice sa ts.length sc) ts]) (r' := .ws av9 (al ++ [x2])) hA9 hg9 ho9)
                               clear h6 hst6 hsp6 hb8 hx8 h8 hA9 hg9 ho9)
                            | (go_at_call 19; refine (tup_any sa ts.length sc _).mono ?_; rintro e w10 ⟨rfl, hb10⟩
                               obtain ⟨F12, tv12, w12, hr12, h12⟩ := (H9.out.up hb10).tupled 40 (by have := HBD.out; omega)
                               have H12 := Hid.mk h12
                               clear hb10 h12)
                            | (at_builtin; refine Lib.wpList_append_run _ rfl _ _ _ _ rfl _ _ rfl rfl _ _ hr9 ?_)
                            | (at_builtin; refine Lib.wpList_append_run _ rfl _ _ _ _ rfl _ _ rfl rfl _ _ hr12 ?_))
                          go_roundw
                          case rel => exact ⟨i + 1, S6, xs2, ks2, al ++ [x2], _, tl ++ [.tup ts], by first | rfl | go_num, Hid.mk HLT.out, H12, HD6, Hid.mk (by have := HBD.out; rw [List.length_append, List.length_singleton]; omega)⟩
                          case measure => have := HN.out; have := HLT.out; simp [intOf]; omega
                      · have d1 : decide ((k : Int) < (tp.length : Nat)) = false := by rw [decide_eq_false_iff_not]; omega
                        have d0 : decide (k < tp.length) = false := decide_eq_false hk1
                        clear hkt hk1
                        obtain ⟨sa, sc, hsv, hLs⟩ := (show Tms wr F u17 ts from H.out.at_ (r := .ts u17 ts) (by simp)).lst
                        subst hsv
                        obtain ⟨wa, wc, hwv, _, hwn⟩ := (show Wds wr u16 ws from H.out.at_ (r := .ws u16 ws) (by simp)).cel0
                        subst hwv
                        have HLS := Hid.mk hLs
                        have HWN := Hid.mk hwn
                        clear hLs hwn
                        go_upto_region 29 with (go_at_call 26; refine (largeAll_any ts _ sa sc 500 _ HLS.out (by omega) (by omega)).mono ?_; rintro e w5 ⟨⟨b5, rfl, hbf5⟩, hb5⟩; have H5 := Hid.mk (H.out.up hb5); have HBF5 := Hid.mk hbf5; clear hb5 hbf5)
                        · go_ret
                          exact ⟨rfl, H5.out.st.below⟩
                        · have hs500 : sizes ts ≤ 500 := by have := (HBF5.out (by cases b5 <;> first | rfl | contradiction | simp_all)).2; omega
                          have hwl : ws.length ≤ 4 := by have := hk.out; omega
                          have hkl : ks.length = xs.length := H5.out.st.wf.len
                          have hbx := hB.out
                          have hit := HLT.out
                          have hn20 := HN.out
                          have hall : (∀ x ∈ ws, 0 ≤ x ∧ x < 18446744073709551616) ∧ ws.all (mayB L ks) = true := by
                            constructor
                            · intro x hx
                              obtain ⟨j, hj, rfl⟩ := List.getElem_of_mem hx
                              exact (den_word (hDw.out.den j (by have := hDw.out.len; omega) hj)).1
                            · rw [List.all_eq_true]
                              intro x hx
                              obtain ⟨j, hj, rfl⟩ := List.getElem_of_mem hx
                              exact (den_word (hDw.out.den j (by have := hDw.out.len; omega) hj)).2
                          have hD6 := (hD.out.mono (List.prefix_refl L) (zs := leadW 7 0 ws.length ++ ws) (zs' := kbox 7 (1 + ws.length))).snoc (den_tuple hDw.out hkl (by omega) (by omega)) (by rw [Tm.tup, Tm.size_mk]; omega)
                          have hT0 := H5.out.st.tuple (ys := ws) (a := wa) (c := wc) (by omega) (show Wds _ (.slice wa ws.length wc) ws from H5.out.at_ (r := .ws (.slice wa ws.length wc) ws) (by simp)).celA HWN.out hall.1 hall.2 (by omega)
                          obtain ⟨x2, hx2⟩ : ∃ x2, Wd.packW 7 xs.length = x2 := ⟨_, rfl⟩
                          obtain ⟨xs2, hxs2⟩ : ∃ xs2, xs ++ (leadW 7 0 ws.length ++ ws) = xs2 := ⟨_, rfl⟩
                          obtain ⟨ks2, hks2⟩ : ∃ ks2, ks ++ kbox 7 (1 + ws.length) = ks2 := ⟨_, rfl⟩
                          have hxl : xs2.length = xs.length + (1 + ws.length) := by rw [← hxs2, List.length_append, List.length_append]; rfl
                          rw [hx2, hxs2, hks2] at hD6 hT0
                          have HD6 := Hid.mk hD6
                          have HT0 := Hid.mk hT0
                          have HBD := Hid.mk (show xs2.length ≤ 80 + 5 * (i + 1) ∧ al.length + 1 ≤ 8 + (i + 1) ∧ al.length ≤ 100 ∧ tl.length ≤ 100 by have := hD.out.len; omega)
                          clear hs500 hwl hkl hbx hit hn20 hall hD6 hT0 hx2 hxs2 hks2 hxl
                          go_wp2_with (first
                            | (go_at_call 8; refine HT0.out.mono ?_; rintro e w6 ⟨S6, rfl, hst6, hsp6⟩
                               have h6 := H5.out.heap hst6 hsp6
                               obtain ⟨W8, hW8⟩ : ∃ W8, w6.alloc (.cells #[.int .u64 x2] 22) = W8 := ⟨_, rfl⟩
                               have hb8 : Below w6.heap.size w6 W8 := (by rw [← hW8]; exact (Below.refl _ _).alloc (Nat.le_refl _) _)
                               have hx8 : W8.heap[w6.heap.size]? = some (.cells #[.int .u64 x2] 22) := (by rw [← hW8]; exact new_block _ _)
                               have h8 := h6.up hb8
                               obtain ⟨av9, w9, hr9, hA9, hg9, ho9⟩ := append_word W8 25 (.slice aa al.length ac) al (h8.at_ (r := .ws (.slice aa al.length ac) al) (by simp)) w6.heap.size x2 hx8 (by have := HBD.out; omega)
                               have H9 := Hid.mk (h8.app (A := [.ws (.slice wa ws.length wc) ws, .ts (.slice sa ts.length sc) ts]) (r' := .ws av9 (al ++ [x2])) hA9 hg9 ho9)
                               clear h6 hst6 hsp6 hb8 hx8 h8 hA9 hg9 ho9)
                            | (go_at_call 19; refine (tup_any sa ts.length sc _).mono ?_; rintro e w10 ⟨rfl, hb10⟩
                               obtain ⟨F12, tv12, w12, hr12, h12⟩ := (H9.out.up hb10).tupled 40 (by have := HBD.out; omega)
                               have H12 := Hid.mk h12
                               clear hb10 h12)
                            | (at_builtin; refine Lib.wpList_append_run _ rfl _ _ _ _ rfl _ _ rfl rfl _ _ hr9 ?_)
                            | (at_builtin; refine Lib.wpList_append_run _ rfl _ _ _ _ rfl _ _ rfl rfl _ _ hr12 ?_))
                          go_roundw
                          case rel => exact ⟨i + 1, S6, xs2, ks2, al ++ [x2], _, tl ++ [.tup ts], by first | rfl | go_num, Hid.mk HLT.out, H12, HD6, Hid.mk (by have := HBD.out; rw [List.length_append, List.length_singleton]; omega)⟩
                          case measure => have := HN.out; have := HLT.out; simp [intOf]; omega
                · by_cases hk1 : i < tu.length
                  · have hk2 : ¬ 0 < al.length := fun h => hlt ⟨hk1, h⟩
                    have e1 : decide ((i : Int) < (tu.length : Nat)) = true := by rw [decide_eq_true_eq]; omega
                    have e0 : decide (i < tu.length) = true := decide_eq_true hk1
                    have e2 : decide ((0 : Int) < (al.length : Nat)) = false := by rw [decide_eq_false_iff_not]; omega
                    have e3 : decide (0 < al.length) = false := decide_eq_false hk2
                    clear hlt
                    go_upto_region 37 with fail
                    clear e1 e0
                    try clear e2 e3
                    try clear hk2
                    have H2 := Hid.mk ((H.out.push (r := .ts (.slice none 0 0) []) (Tms.nil _ _) rfl).push (r := .ws (.slice none 0 0) []) (show Wds _ (.slice none 0 0) [] from World.ownsRow_nil _ _ _ _) rfl)
                    go_loopw [22, 23, 24] (fun kv wv jj wq => ∃ (j : Nat) (keep : List Int) (want : List Tm), jj = .int .i64 j ∧ Hid (j ≤ ro.length ∧ keep.length ≤ j) ∧ Hid (Hl w wq hb S L xs ks F [.ws kv keep, .ts wv want, .ws (.slice aa al.length ac) al, .ts u11 tl]) ∧ Hid (Dn L xs ks keep want)) (fun _ _ jj _ => 30 - (intOf jj).toNat)
                    case atStart => exact ⟨0, [], [], rfl, Hid.mk ⟨Nat.zero_le _, Nat.le_refl _⟩, H2, Hid.mk Dn.nil⟩
                    case round =>
                      clear H2 H
                      obtain ⟨j, keep, want, rfl, hj, H, hDw⟩ := hrel
                      have hwj : IntKind.i64.wrap ((j : Int) + 1) = ((j + 1 : Nat) : Int) := by have := hj.out; have := HN.out; rw [wrap_id (by omega) (by omega)]; omega
                      by_cases hjt : j < ro.length
                      · have d1 : decide ((j : Int) < (ro.length : Nat)) = true := by rw [decide_eq_true_eq]; omega
                        have d0 : decide (j < ro.length) = true := decide_eq_true hjt
                        have d4 : (j : Int) < (ro.length : Nat) := by omega
                        by_cases hal : 0 < al.length
                        · have c2 : decide ((0 : Int) < (al.length : Nat)) = true := by rw [decide_eq_true_eq]; omega
                          have c3 : decide (0 < al.length) = true := decide_eq_true hal
                          obtain ⟨rb, rof, hra, hrc⟩ := (HRO.out.up H.out.st.below) (by omega)
                          subst hra
                          have cx := hrc j hjt
                          obtain ⟨x, hx⟩ : ∃ x, ro[j] = x := ⟨_, rfl⟩
                          rw [hx] at cx
                          obtain ⟨y, hy, hpk⟩ := pick_fun x (al.length : Nat) (by omega) (by have h1 := hB.out; have h2 := HN.out; have h3 := hi.out; omega)
                          have hya : y < al.length := by omega
                          have hyt : y < tl.length := by have := hD.out.len; omega
                          have hyt2 : (y : Int) < (tl.length : Nat) := by omega
                          have HPK := Hid.mk hpk
                          obtain ⟨ag, acp, hle, _, hacc⟩ := (show Wds _ (.slice aa al.length ac) al from H.out.at_ (r := .ws (.slice aa al.length ac) al) (by simp)).slice (by omega)
                          cases hle
                          have ca := hacc y hya
                          have hdy := hD.out.den y hyt hya
                          have hsy := hD.out.size _ (List.getElem_mem hyt)
                          obtain ⟨z, hz⟩ : ∃ z, al[y] = z := ⟨_, rfl⟩
                          obtain ⟨T, hT⟩ : ∃ T, tl[y] = T := ⟨_, rfl⟩
                          rw [hz] at ca hdy
                          rw [hT] at hdy hsy
                          have HD2 := Hid.mk (hDw.out.snoc hdy hsy)
                          obtain ⟨W1, hW1⟩ : ∃ W1, wr.alloc (.cells #[.int .u64 z] 22) = W1 := ⟨_, rfl⟩
                          have hb1 : Below wr.heap.size wr W1 := by rw [← hW1]; exact (Below.refl _ _).alloc (Nat.le_refl _) _
                          have hx1 : W1.heap[wr.heap.size]? = some (.cells #[.int .u64 z] 22) := by rw [← hW1]; exact new_block _ _
                          have h1 := H.out.up hb1
                          have hjn := hj.out
                          have hnn := HN.out
                          obtain ⟨wv2, w2, hr2, hA2, hg2, ho2⟩ := append_word W1 25 u22 keep (h1.at_ (r := .ws u22 keep) (by simp)) wr.heap.size z hx1 (by omega)
                          have h2 := h1.app (A := []) (r' := .ws wv2 (keep ++ [z])) hA2 hg2 ho2
                          obtain ⟨tg, tcp, tk, tn, tz, tpa, tm, tpc, htv, q0, q1, q2, q3, hLy⟩ := (show Tms w2 F u11 tl from h2.at_ (r := .ts u11 tl) (by simp)).part y hyt
                          rw [hT] at hLy
                          subst htv
                          obtain ⟨W3, hW3⟩ : ∃ W3, w2.alloc (.cells #[.int .i64 tk, .int .i64 tn, .string tz, .slice tpa tm tpc] 42) = W3 := ⟨_, rfl⟩
                          have hb3 : Below w2.heap.size w2 W3 := by rw [← hW3]; exact (Below.refl _ _).alloc (Nat.le_refl _) _
                          have hx3 : W3.heap[w2.heap.size]? = some (.cells #[.int .i64 tk, .int .i64 tn, .string tz, .slice tpa tm tpc] 42) := by rw [← hW3]; exact new_block _ _
                          have h3 := h2.up hb3
                          obtain ⟨tv4, w4, hr4, hA4, hg4, ho4⟩ := append_term W3 40 _ u23 want (h3.at_ (r := .ts u23 want) (by simp)) T w2.heap.size tk tn tz tpa tm tpc hx3 (hLy.below hb3) (fun g hg => (h3.safe (.ts u23 want) (by simp) g hg).2.1) (by have h5 := hDw.out.len; omega)
                          have H4 := Hid.mk (h3.app (A := [.ws wv2 (keep ++ [z])]) (r' := .ts tv4 (want ++ [T])) hA4 hg4 ho4)
                          have HKK := Hid.mk (show j < ro.length ∧ keep.length ≤ j from ⟨hjt, hjn.2⟩)
                          clear hrc hx hacc hdy hsy hb1 hx1 h1 hA2 hg2 ho2 h2 hLy hb3 hx3 h3 hA4 hg4 ho4 hpk hT hz hjn hnn hjt
                          go_wp2_with (first
                            | (go_at_call 28; refine (HPK.out _).mono ?_; rintro e wz ⟨rfl, rfl⟩)
                            | (at_builtin; refine Lib.wpList_append_run _ rfl _ _ _ _ rfl _ _ rfl rfl _ _ hr2 ?_)
                            | (at_builtin; refine Lib.wpList_append_run _ rfl _ _ _ _ rfl _ _ rfl rfl _ _ hr4 ?_))
                          go_roundw
                          case rel => exact ⟨j + 1, keep ++ [z], want ++ [T], by first | rfl | go_num, Hid.mk (by have := HKK.out; rw [List.length_append, List.length_singleton]; omega), H4, HD2⟩
                          case measure => have := HKK.out; have := HN.out; simp [intOf]; omega
                        · have c2 : decide ((0 : Int) < (al.length : Nat)) = false := by rw [decide_eq_false_iff_not]; omega
                          have c3 : decide (0 < al.length) = false := decide_eq_false hal
                          have hkw : Wds wr u22 keep := H.out.at_ (r := .ws u22 keep) (by simp)
                          obtain ⟨sa, sc, hsv, hLs⟩ := (show Tms wr F u23 want from H.out.at_ (r := .ts u23 want) (by simp)).lst
                          have hcol := collected_any (W0 := w) wr H.out.st (by decide) (by have := hB.out; have := hi.out; have := HN.out; omega) hkw (by have := hj.out; have := HN.out; omega) (fun g hg => (H.out.safe (.ws u22 keep) (by simp) g hg).1) (hLs.wider fun b hb' => hb'.elim (fun h => H.out.fs b h) fun h => (H.out.safe (.ts u23 want) (by simp) b h).1) hDw.out.len hDw.out.den (fun T hT => by have h1 := hDw.out.size T hT; have h2 := wordsR_two T; omega)
                          subst hsv
                          have HCOL := Hid.mk hcol
                          clear hkw hLs hcol
                          go_wp2_with (go_at_call 29; refine HCOL.out.mono ?_; rintro e w9 ⟨rfl, hb9⟩; have H9 := Hid.mk hb9; clear hb9)
                          go_ret
                          exact ⟨rfl, H9.out⟩
                      · have d1 : decide ((j : Int) < (ro.length : Nat)) = false := by rw [decide_eq_false_iff_not]; omega
                        have d0 : decide (j < ro.length) = false := decide_eq_false hjt
                        have hkw : Wds wr u22 keep := H.out.at_ (r := .ws u22 keep) (by simp)
                        obtain ⟨sa, sc, hsv, hLs⟩ := (show Tms wr F u23 want from H.out.at_ (r := .ts u23 want) (by simp)).lst
                        have hcol := collected_any (W0 := w) wr H.out.st (by decide) (by have := hB.out; have := hi.out; have := HN.out; omega) hkw (by have := hj.out; have := HN.out; omega) (fun g hg => (H.out.safe (.ws u22 keep) (by simp) g hg).1) (hLs.wider fun b hb' => hb'.elim (fun h => H.out.fs b h) fun h => (H.out.safe (.ts u23 want) (by simp) b h).1) hDw.out.len hDw.out.den (fun T hT => by have h1 := hDw.out.size T hT; have h2 := wordsR_two T; omega)
                        subst hsv
                        have HCOL := Hid.mk hcol
                        clear hkw hLs hcol
                        go_wp2_with (go_at_call 29; refine HCOL.out.mono ?_; rintro e w9 ⟨rfl, hb9⟩; have H9 := Hid.mk hb9; clear hb9)
                        go_ret
                        exact ⟨rfl, H9.out⟩
                  · have e1 : decide ((i : Int) < (tu.length : Nat)) = false := by rw [decide_eq_false_iff_not]; omega
                    have e0 : decide (i < tu.length) = false := decide_eq_false hk1
                    clear hlt
                    go_upto_region 37 with fail
                    clear e1 e0
                    try clear e2 e3
                    try clear hk2
                    have H2 := Hid.mk ((H.out.push (r := .ts (.slice none 0 0) []) (Tms.nil _ _) rfl).push (r := .ws (.slice none 0 0) []) (show Wds _ (.slice none 0 0) [] from World.ownsRow_nil _ _ _ _) rfl)
                    go_loopw [22, 23, 24] (fun kv wv jj wq => ∃ (j : Nat) (keep : List Int) (want : List Tm), jj = .int .i64 j ∧ Hid (j ≤ ro.length ∧ keep.length ≤ j) ∧ Hid (Hl w wq hb S L xs ks F [.ws kv keep, .ts wv want, .ws (.slice aa al.length ac) al, .ts u11 tl]) ∧ Hid (Dn L xs ks keep want)) (fun _ _ jj _ => 30 - (intOf jj).toNat)
                    case atStart => exact ⟨0, [], [], rfl, Hid.mk ⟨Nat.zero_le _, Nat.le_refl _⟩, H2, Hid.mk Dn.nil⟩
                    case round =>
                      clear H2 H
                      obtain ⟨j, keep, want, rfl, hj, H, hDw⟩ := hrel
                      have hwj : IntKind.i64.wrap ((j : Int) + 1) = ((j + 1 : Nat) : Int) := by have := hj.out; have := HN.out; rw [wrap_id (by omega) (by omega)]; omega
                      by_cases hjt : j < ro.length
                      · have d1 : decide ((j : Int) < (ro.length : Nat)) = true := by rw [decide_eq_true_eq]; omega
                        have d0 : decide (j < ro.length) = true := decide_eq_true hjt
                        have d4 : (j : Int) < (ro.length : Nat) := by omega
                        by_cases hal : 0 < al.length
                        · have c2 : decide ((0 : Int) < (al.length : Nat)) = true := by rw [decide_eq_true_eq]; omega
                          have c3 : decide (0 < al.length) = true := decide_eq_true hal
                          obtain ⟨rb, rof, hra, hrc⟩ := (HRO.out.up H.out.st.below) (by omega)
                          subst hra
                          have cx := hrc j hjt
                          obtain ⟨x, hx⟩ : ∃ x, ro[j] = x := ⟨_, rfl⟩
                          rw [hx] at cx
                          obtain ⟨y, hy, hpk⟩ := pick_fun x (al.length : Nat) (by omega) (by have h1 := hB.out; have h2 := HN.out; have h3 := hi.out; omega)
                          have hya : y < al.length := by omega
                          have hyt : y < tl.length := by have := hD.out.len; omega
                          have hyt2 : (y : Int) < (tl.length : Nat) := by omega
                          have HPK := Hid.mk hpk
                          obtain ⟨ag, acp, hle, _, hacc⟩ := (show Wds _ (.slice aa al.length ac) al from H.out.at_ (r := .ws (.slice aa al.length ac) al) (by simp)).slice (by omega)
                          cases hle
                          have ca := hacc y hya
                          have hdy := hD.out.den y hyt hya
                          have hsy := hD.out.size _ (List.getElem_mem hyt)
                          obtain ⟨z, hz⟩ : ∃ z, al[y] = z := ⟨_, rfl⟩
                          obtain ⟨T, hT⟩ : ∃ T, tl[y] = T := ⟨_, rfl⟩
                          rw [hz] at ca hdy
                          rw [hT] at hdy hsy
                          have HD2 := Hid.mk (hDw.out.snoc hdy hsy)
                          obtain ⟨W1, hW1⟩ : ∃ W1, wr.alloc (.cells #[.int .u64 z] 22) = W1 := ⟨_, rfl⟩
                          have hb1 : Below wr.heap.size wr W1 := by rw [← hW1]; exact (Below.refl _ _).alloc (Nat.le_refl _) _
                          have hx1 : W1.heap[wr.heap.size]? = some (.cells #[.int .u64 z] 22) := by rw [← hW1]; exact new_block _ _
                          have h1 := H.out.up hb1
                          have hjn := hj.out
                          have hnn := HN.out
                          obtain ⟨wv2, w2, hr2, hA2, hg2, ho2⟩ := append_word W1 25 u22 keep (h1.at_ (r := .ws u22 keep) (by simp)) wr.heap.size z hx1 (by omega)
                          have h2 := h1.app (A := []) (r' := .ws wv2 (keep ++ [z])) hA2 hg2 ho2
                          obtain ⟨tg, tcp, tk, tn, tz, tpa, tm, tpc, htv, q0, q1, q2, q3, hLy⟩ := (show Tms w2 F u11 tl from h2.at_ (r := .ts u11 tl) (by simp)).part y hyt
                          rw [hT] at hLy
                          subst htv
                          obtain ⟨W3, hW3⟩ : ∃ W3, w2.alloc (.cells #[.int .i64 tk, .int .i64 tn, .string tz, .slice tpa tm tpc] 42) = W3 := ⟨_, rfl⟩
                          have hb3 : Below w2.heap.size w2 W3 := by rw [← hW3]; exact (Below.refl _ _).alloc (Nat.le_refl _) _
                          have hx3 : W3.heap[w2.heap.size]? = some (.cells #[.int .i64 tk, .int .i64 tn, .string tz, .slice tpa tm tpc] 42) := by rw [← hW3]; exact new_block _ _
                          have h3 := h2.up hb3
                          obtain ⟨tv4, w4, hr4, hA4, hg4, ho4⟩ := append_term W3 40 _ u23 want (h3.at_ (r := .ts u23 want) (by simp)) T w2.heap.size tk tn tz tpa tm tpc hx3 (hLy.below hb3) (fun g hg => (h3.safe (.ts u23 want) (by simp) g hg).2.1) (by have h5 := hDw.out.len; omega)
                          have H4 := Hid.mk (h3.app (A := [.ws wv2 (keep ++ [z])]) (r' := .ts tv4 (want ++ [T])) hA4 hg4 ho4)
                          have HKK := Hid.mk (show j < ro.length ∧ keep.length ≤ j from ⟨hjt, hjn.2⟩)
                          clear hrc hx hacc hdy hsy hb1 hx1 h1 hA2 hg2 ho2 h2 hLy hb3 hx3 h3 hA4 hg4 ho4 hpk hT hz hjn hnn hjt
                          go_wp2_with (first
                            | (go_at_call 28; refine (HPK.out _).mono ?_; rintro e wz ⟨rfl, rfl⟩)
                            | (at_builtin; refine Lib.wpList_append_run _ rfl _ _ _ _ rfl _ _ rfl rfl _ _ hr2 ?_)
                            | (at_builtin; refine Lib.wpList_append_run _ rfl _ _ _ _ rfl _ _ rfl rfl _ _ hr4 ?_))
                          go_roundw
                          case rel => exact ⟨j + 1, keep ++ [z], want ++ [T], by first | rfl | go_num, Hid.mk (by have := HKK.out; rw [List.length_append, List.length_singleton]; omega), H4, HD2⟩
                          case measure => have := HKK.out; have := HN.out; simp [intOf]; omega
                        · have c2 : decide ((0 : Int) < (al.length : Nat)) = false := by rw [decide_eq_false_iff_not]; omega
                          have c3 : decide (0 < al.length) = false := decide_eq_false hal
                          have hkw : Wds wr u22 keep := H.out.at_ (r := .ws u22 keep) (by simp)
                          obtain ⟨sa, sc, hsv, hLs⟩ := (show Tms wr F u23 want from H.out.at_ (r := .ts u23 want) (by simp)).lst
                          have hcol := collected_any (W0 := w) wr H.out.st (by decide) (by have := hB.out; have := hi.out; have := HN.out; omega) hkw (by have := hj.out; have := HN.out; omega) (fun g hg => (H.out.safe (.ws u22 keep) (by simp) g hg).1) (hLs.wider fun b hb' => hb'.elim (fun h => H.out.fs b h) fun h => (H.out.safe (.ts u23 want) (by simp) b h).1) hDw.out.len hDw.out.den (fun T hT => by have h1 := hDw.out.size T hT; have h2 := wordsR_two T; omega)
                          subst hsv
                          have HCOL := Hid.mk hcol
                          clear hkw hLs hcol
                          go_wp2_with (go_at_call 29; refine HCOL.out.mono ?_; rintro e w9 ⟨rfl, hb9⟩; have H9 := Hid.mk hb9; clear hb9)
                          go_ret
                          exact ⟨rfl, H9.out⟩
                      · have d1 : decide ((j : Int) < (ro.length : Nat)) = false := by rw [decide_eq_false_iff_not]; omega
                        have d0 : decide (j < ro.length) = false := decide_eq_false hjt
                        have hkw : Wds wr u22 keep := H.out.at_ (r := .ws u22 keep) (by simp)
                        obtain ⟨sa, sc, hsv, hLs⟩ := (show Tms wr F u23 want from H.out.at_ (r := .ts u23 want) (by simp)).lst
                        have hcol := collected_any (W0 := w) wr H.out.st (by decide) (by have := hB.out; have := hi.out; have := HN.out; omega) hkw (by have := hj.out; have := HN.out; omega) (fun g hg => (H.out.safe (.ws u22 keep) (by simp) g hg).1) (hLs.wider fun b hb' => hb'.elim (fun h => H.out.fs b h) fun h => (H.out.safe (.ts u23 want) (by simp) b h).1) hDw.out.len hDw.out.den (fun T hT => by have h1 := hDw.out.size T hT; have h2 := wordsR_two T; omega)
                        subst hsv
                        have HCOL := Hid.mk hcol
                        clear hkw hLs hcol
                        go_wp2_with (go_at_call 29; refine HCOL.out.mono ?_; rintro e w9 ⟨rfl, hb9⟩; have H9 := Hid.mk hb9; clear hb9)
                        go_ret
                        exact ⟨rfl, H9.out⟩
end Go.Proofs.YtaiiicmldogjoaaDoor
