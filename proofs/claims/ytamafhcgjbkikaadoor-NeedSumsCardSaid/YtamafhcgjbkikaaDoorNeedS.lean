/-
  What the document says that one more object, and a whole table needs.
-/
import Derived.Test.YtamafhcgjbkikaaDoorNeedR
namespace Go.Proofs.YtamafhcgjbkikaaDoor
open Go.RowKit Go.Deep

theorem putR_any (k b c : Int) (T : Tm) (hsz : T.size ≤ 1000000) (S : Nat → Prop) (v : Value) (w : World) (hv : Lies w S T v) :
    Calls Tryd.prog 24 #[.int .i64 k, .int .i64 b, .int .i64 c, v] w fun e w' => e = .returned (.tuple #[.int .i64 (putV k b c T), .int .i64 (putE k b c T)]) ∧ Below w.heap.size w w' := by
  obtain ⟨kk, n, s, a, m, cap, rfl⟩ := hv.agg
  obtain ⟨W0, hW0⟩ : ∃ W0, w.alloc (.cells #[.int .i64 kk, .int .i64 n, .string s, .slice a m cap] 24) = W0 := ⟨_, rfl⟩
  have hu0 : Up w W0 := by rw [← hW0]; exact (Up.refl w).alloc
  have hbx : W0.heap[w.heap.size]? = some (.cells #[.int .i64 kk, .int .i64 n, .string s, .slice a m cap] 24) := by rw [← hW0]; exact new_block _ _
  have hv0 := Hid.mk (hv.below hu0.out)
  have hret : Hid (∀ W, Up W0 W → Below w.heap.size w W) := Hid.mk (fun W h => (hu0.call h.out).out)
  have hob := Hid.mk (fun (W : World) (h : Up W0 W) => objectR_any T hsz S _ W (hv0.out.below h.out))
  have hnd := Hid.mk (nodeR_any k)
  have hkd := Hid.mk (kindR_any k)
  have hb1 := Hid.mk (bucketsR_any (b + 1))
  have hb0 := Hid.mk (bucketsR_any b)
  have hq : Up W0 W0 := Up.refl W0
  obtain ⟨g0, g1, g2, g3⟩ := hq.four hbx
  have hW0' := Hid.mk hW0
  clear hv hu0 hW0
  by_cases hk : (1 ≤ k ∧ k ≤ 4) ∧ (0 ≤ b ∧ b ≤ 1048576) ∧ 0 ≤ c ∧ c ≤ 16777216
  · have hE : putE k b c T = T.check := putE_yes hk
    have hV : Hid ((T.check ≠ 0 → putV k b c T = 0) ∧ (T.check = 0 → putV k b c T = rnd T.words + nodeN k + (if k = 2 then 0 else moreN b c))) :=
      Hid.mk ⟨fun h => by unfold putV; rw [hE, if_neg h], fun h => by unfold putV; rw [hE, if_pos h]⟩
    have ho : Hid (T.check = 0 → objV T = rnd T.words) := Hid.mk (fun h => if_pos h)
    have hor := objV_range T
    have hnr := nodeN_range k
    have r1 := bktN_range b
    have r2 := bktN_range (b + 1)
    have hkB : kindB k = true := kindB_yes.2 hk.1
    rw [hE]
    rw [hkB] at hkd
    have hc1 : ¬ b < 0 := by omega
    have hc2 : ¬ 1048576 < b := by omega
    have hc3 : ¬ c < 0 := by omega
    have hc4 : ¬ 16777216 < c := by omega
    have hV1 : Hid (T.check ≠ 0 → putV k b c T = 0) := Hid.mk hV.out.1
    have hV2 : Hid (T.check = 0 → (k ≠ 2 ∧ 2 * b < c + 1 ∧ b < 1048576) → putV k b c T = objV T + nodeN k + bktN (b + 1) - bktN b) := Hid.mk (fun h h2 => by
      rw [hV.out.2 h, ho.out h, if_neg h2.1]; unfold moreN; rw [if_pos h2.2]; omega)
    have hV3 : Hid (T.check = 0 → ¬ (k ≠ 2 ∧ 2 * b < c + 1 ∧ b < 1048576) → putV k b c T = objV T + nodeN k) := Hid.mk (fun h h2 => by
      rw [hV.out.2 h, ho.out h]; unfold moreN
      by_cases h3 : k = 2
      · rw [if_pos h3]; omega
      · rw [if_neg h3, if_neg (by omega)]; omega)
    clear hV ho hkB hE
    generalize putV k b c T = V at *
    generalize objV T = O at *
    generalize T.check = C at *
    generalize nodeN k = N at *
    have w1 : IntKind.i64.wrap (c + 1) = c + 1 := wrap_id (by omega) (by omega)
    have w2 : IntKind.i64.wrap (2 * b) = 2 * b := wrap_id (by omega) (by omega)
    have w3 : IntKind.i64.wrap (b + 1) = b + 1 := wrap_id (by omega) (by omega)
    have w4 : IntKind.i64.wrap (O + N) = O + N := wrap_id (by omega) (by omega)
    have w5 : IntKind.i64.wrap (O + N + bktN (b + 1)) = O + N + bktN (b + 1) := wrap_id (by omega) (by omega)
    have w6 : IntKind.i64.wrap (O + N + bktN (b + 1) - bktN b) = O + N + bktN (b + 1) - bktN b := wrap_id (by omega) (by omega)
    have HH := Hid.mk hk
    clear hk hor hnr r1 r2
    by_cases hz : C = 0
    · subst hz
      generalize bktN (b + 1) = X at *
      generalize bktN b = Y at *
      by_cases h2 : k = 2
      · have hV := hV3.out rfl (fun h => h.1 h2)
        clear hV1 hV2 hV3
        subst h2
        go_enter Tryd.func24, Tryd.ntmps24
        go_upto_region 1 with fail
        rw [hW0'.out]
        go_wp2_with (first
          | (go_at_call 40; refine (hkd.out _).mono ?_; rintro e w1 ⟨rfl, rfl⟩)
          | (go_at_call 10; refine (hob.out _ hq).mono ?_; rintro e w1 ⟨rfl, hb⟩; have hq := hq.call hb; clear hb)
          | (go_at_call 13; refine (hnd.out _).mono ?_; rintro e w2 ⟨rfl, rfl⟩))
        go_ret2
        exact ⟨by first | rfl | (rw [hV]; rfl), hret.out _ hq⟩
      · have h2' : (k != 2) = true := by simpa using h2
        by_cases h3 : 2 * b < c + 1
        · by_cases h4 : b < 1048576
          · have hV := hV2.out rfl ⟨h2, h3, h4⟩
            clear hV1 hV2 hV3
            go_enter Tryd.func24, Tryd.ntmps24
            go_upto_region 1 with fail
            rw [hW0'.out]
            go_wp2_with (first
              | (go_at_call 40; refine (hkd.out _).mono ?_; rintro e w1 ⟨rfl, rfl⟩)
              | (go_at_call 10; refine (hob.out _ hq).mono ?_; rintro e w1 ⟨rfl, hb⟩; have hq := hq.call hb; clear hb)
              | (go_at_call 13; refine (hnd.out _).mono ?_; rintro e w2 ⟨rfl, rfl⟩)
              | (go_at_call 17; have g := first1; refine (hb0.out _).mono ?_; rintro e w4 ⟨rfl, rfl⟩)
              | (go_at_call 17; refine (hb1.out _).mono ?_; rintro e w3 ⟨rfl, rfl⟩; have first1 := True.intro))
            go_ret2
            exact ⟨by first | rfl | (rw [hV]; rfl), hret.out _ hq⟩
          · have hV := hV3.out rfl (fun h => h4 h.2.2)
            clear hV1 hV2 hV3
            go_enter Tryd.func24, Tryd.ntmps24
            go_upto_region 1 with fail
            rw [hW0'.out]
            go_wp2_with (first
              | (go_at_call 40; refine (hkd.out _).mono ?_; rintro e w1 ⟨rfl, rfl⟩)
              | (go_at_call 10; refine (hob.out _ hq).mono ?_; rintro e w1 ⟨rfl, hb⟩; have hq := hq.call hb; clear hb)
              | (go_at_call 13; refine (hnd.out _).mono ?_; rintro e w2 ⟨rfl, rfl⟩))
            go_ret2
            exact ⟨by first | rfl | (rw [hV]; rfl), hret.out _ hq⟩
        · have hV := hV3.out rfl (fun h => h3 h.2.1)
          clear hV1 hV2 hV3
          go_enter Tryd.func24, Tryd.ntmps24
          go_upto_region 1 with fail
          rw [hW0'.out]
          go_wp2_with (first
            | (go_at_call 40; refine (hkd.out _).mono ?_; rintro e w1 ⟨rfl, rfl⟩)
            | (go_at_call 10; refine (hob.out _ hq).mono ?_; rintro e w1 ⟨rfl, hb⟩; have hq := hq.call hb; clear hb)
            | (go_at_call 13; refine (hnd.out _).mono ?_; rintro e w2 ⟨rfl, rfl⟩))
          go_ret2
          exact ⟨by first | rfl | (rw [hV]; rfl), hret.out _ hq⟩
    · have hV := hV1.out hz
      have hz' : (C == 0) = false := by simpa using hz
      clear hV1 hV2 hV3
      go_enter Tryd.func24, Tryd.ntmps24
      go_upto_region 1 with fail
      rw [hW0'.out]
      go_wp2_with (first
        | (go_at_call 40; refine (hkd.out _).mono ?_; rintro e w1 ⟨rfl, rfl⟩)
        | (go_at_call 10; refine (hob.out _ hq).mono ?_; rintro e w1 ⟨rfl, hb⟩; have hq := hq.call hb; clear hb))
      go_ret2
      exact ⟨by first | rfl | (rw [hV]; rfl), hret.out _ hq⟩
  · have hE : putE k b c T = 2 := putE_no hk
    have hV : putV k b c T = 0 := putV_no hk
    rw [hE, hV]
    clear hE hV
    cases hB : kindB k
    · rw [hB] at hkd
      clear hk hB
      go_enter Tryd.func24, Tryd.ntmps24
      go_upto_region 1 with fail
      rw [hW0'.out]
      go_wp2_with (go_at_call 40; refine (hkd.out _).mono ?_; rintro e w1 ⟨rfl, rfl⟩)
      go_ret2
      exact ⟨rfl, hret.out _ hq⟩
    · rw [hB] at hkd
      have hB' := kindB_yes.1 hB
      by_cases d1 : b < 0
      · clear hk hB hB'
        go_enter Tryd.func24, Tryd.ntmps24
        go_upto_region 1 with fail
        rw [hW0'.out]
        go_wp2_with (go_at_call 40; refine (hkd.out _).mono ?_; rintro e w1 ⟨rfl, rfl⟩)
        go_ret2
        exact ⟨rfl, hret.out _ hq⟩
      by_cases d2 : 1048576 < b
      · clear hk hB hB'
        go_enter Tryd.func24, Tryd.ntmps24
        go_upto_region 1 with fail
        rw [hW0'.out]
        go_wp2_with (go_at_call 40; refine (hkd.out _).mono ?_; rintro e w1 ⟨rfl, rfl⟩)
        go_ret2
        exact ⟨rfl, hret.out _ hq⟩
      by_cases d3 : c < 0
      · clear hk hB hB'
        go_enter Tryd.func24, Tryd.ntmps24
        go_upto_region 1 with fail
        rw [hW0'.out]
        go_wp2_with (go_at_call 40; refine (hkd.out _).mono ?_; rintro e w1 ⟨rfl, rfl⟩)
        go_ret2
        exact ⟨rfl, hret.out _ hq⟩
      have d4 : 16777216 < c := by omega
      clear hk hB hB'
      go_enter Tryd.func24, Tryd.ntmps24
      go_upto_region 1 with fail
      rw [hW0'.out]
      go_wp2_with (go_at_call 40; refine (hkd.out _).mono ?_; rintro e w1 ⟨rfl, rfl⟩)
      go_ret2
      exact ⟨rfl, hret.out _ hq⟩

theorem sumR_any (k b : Int) (l : List Tm) (hsz : sizes l ≤ 1000000) (S : Nat → Prop) (a : Option Addr) (cap : Nat) (w : World) (hl : Lst w S l a cap) :
    Calls Tryd.prog 22 #[.int .i64 k, .int .i64 b, .slice a l.length cap] w fun e w' => e = .returned (.tuple #[.int .i64 (sumV k b l), .int .i64 (sumE k b l)]) ∧ Below w.heap.size w w' := by
  have hkd := Hid.mk (kindR_any k)
  by_cases hk : (1 ≤ k ∧ k ≤ 4) ∧ 0 ≤ b ∧ b ≤ 1048576
  · have hE : sumE k b l = firstE l := sumE_yes hk
    have hkB : kindB k = true := kindB_yes.2 hk.1
    have hlen := length_sizes l
    have hlm : l.length ≤ 9223372036854775807 := by omega
    have hc1 : ¬ b < 0 := by omega
    have hc2 : ¬ 1048576 < b := by omega
    obtain ⟨TN, hTN⟩ : ∃ TN, TN = tableN k + (if k = 2 then 0 else bktN b) := ⟨_, rfl⟩
    have hV0 : Hid (firstE l ≠ 0 → sumV k b l = 0) := Hid.mk (fun h => by unfold sumV; rw [hE, if_neg h])
    have hV1 : Hid (firstE l = 0 → sumV k b l = TN + allN k l) := Hid.mk (fun h => by unfold sumV; rw [hE, if_pos h, hTN]; omega)
    have hLs := Hid.mk (fun (W : World) (h : Below w.heap.size w W) => hl.below h)
    have htr := tableN_range k
    have hnr := nodeN_range k
    have hbr := bktN_range b
    have htn : 0 ≤ TN ∧ TN ≤ 1048592 := by rw [hTN]; split <;> omega
    have hnd := Hid.mk (nodeR_any k)
    have htb := Hid.mk (tableR_any k)
    have hbk := Hid.mk (bucketsR_any b)
    have w1 : IntKind.i64.wrap (tableN k + bktN b) = tableN k + bktN b := wrap_id (by omega) (by omega)
    have HT := Hid.mk hTN
    have HH := Hid.mk hk
    rw [hkB] at hkd
    rw [hE]
    clear hE hkB hl hk hTN htr hbr
    by_cases h2 : k = 2
    · subst h2
      have hTN : Hid (tableN 2 = TN) := Hid.mk (by rw [HT.out, if_pos rfl]; omega)
      clear HT
      generalize tableN 2 = T0 at *
      generalize bktN b = B0 at *
      go_enter Tryd.func22, Tryd.ntmps22
      go_wp2_with (first
        | (go_at_call 40; refine (hkd.out _).mono ?_; rintro e w1 ⟨rfl, rfl⟩)
        | (go_at_call 15; refine (htb.out _).mono ?_; rintro e w1 ⟨rfl, rfl⟩)
        | (go_at_call 17; refine (hbk.out _).mono ?_; rintro e w1 ⟨rfl, rfl⟩))
      go_loopw [8, 9] (fun sv ii wr => ∃ (i : Nat) (s : Int), i ≤ l.length ∧ ii = .int .i64 i ∧ sv = .int .i64 s ∧ Hid (s = TN + allN 2 (l.take i)) ∧ Hid (firstE (l.take i) = 0) ∧ Below w.heap.size w wr) (fun _ ii _ => l.length - (intOf ii).toNat)
      case atStart => exact ⟨0, _, Nat.zero_le _, rfl, rfl, Hid.mk (by simp [allN]; exact hTN.out), Hid.mk (by simp [firstE]), Below.refl _ _⟩
      case round =>
        obtain ⟨i, s, hi, rfl, rfl, hs, hf, hb⟩ := hrel
        have hzr := hb.size
        by_cases hlt : i < l.length
        · obtain ⟨bb, o, rfl, _, hr⟩ := (hLs.out _ hb).some (by omega)
          obtain ⟨k', n', s', m', a', cap', hT, c0, c1, c2, c3, hli⟩ := hr.part i hlt
          have hsz1 := sizes_at l i hlt
          have hob := Hid.mk (fun (W : World) (h : Below wr.heap.size wr W) => objectR_any l[i] (by omega) S _ W (hli.below h))
          have hft := firstE_take hlt hf.out
          have hal := allN_take 2 hlt
          have ho : Hid (l[i].check = 0 → objV l[i] = rnd l[i].words) := Hid.mk (fun h => if_pos h)
          have hor := objV_range l[i]
          have har := allN_range 2 (l.take i)
          have hlt2 : (l.take i).length = i := by simp; omega
          rw [hlt2] at har
          have hx := hs.out
          have hft := Hid.mk hft
          have hal := Hid.mk hal
          have hT := Hid.mk hT
          have hli := Hid.mk hli
          generalize objV l[i] = O at *
          generalize l[i].check = C at *
          have hnx := Hid.mk hnr
          by_cases hz : C = 0
          · subst hz
            have hO := ho.out rfl
            have w1 : IntKind.i64.wrap (s + O) = s + O := wrap_id (by omega) (by omega)
            have w2 : IntKind.i64.wrap (s + O + nodeN 2) = s + O + nodeN 2 := wrap_id (by omega) (by omega)
            have hs2 : Hid (s + O + nodeN 2 = TN + allN 2 (l.take (i + 1))) := Hid.mk (by rw [hal.out, ← hO]; omega)
            have hf2 : Hid (firstE (l.take (i + 1)) = 0) := Hid.mk hft.out.1
            clear hx har hor hO hlt2 hlen hnr htn hsz1
            generalize nodeN 2 = N at *
            go_wp2_with (first
              | (go_at_call 10; refine (hob.out _ (Below.refl _ _)).mono ?_; rintro e w2 ⟨rfl, hbb⟩)
              | (go_at_call 13; refine (hnd.out _).mono ?_; rintro e w3 ⟨rfl, rfl⟩))
            go_roundw
            case rel => exact ⟨i + 1, _, by omega, by go_num, rfl, hs2, hf2, hb.trans (hbb.mono hzr)⟩
            case measure => simp [intOf]; omega
          · have hz' : (C == 0) = false := by simpa using hz
            have hfe := hft.out.2 hz
            have hV := hV0.out (by rw [hfe]; exact hz)
            clear hx har hor hlt2 hlen hnr htn hsz1
            go_wp2_with (first
              | (go_at_call 10; refine (hob.out _ (Below.refl _ _)).mono ?_; rintro e w2 ⟨rfl, hbb⟩))
            go_ret2
            exact ⟨by rw [hV, hfe]; rfl, hb.trans (hbb.mono hzr)⟩
        · obtain rfl : i = l.length := by omega
          rw [List.take_length] at hs hf
          have hV := hV1.out hf.out
          rw [← hs.out] at hV
          have hV2 := Hid.mk hV
          clear hV
          go_wp2_with fail
          go_ret2
          exact ⟨by rw [hf.out, hV2.out]; rfl, hb⟩
    · have hTN : Hid (tableN k + bktN b = TN) := Hid.mk (by rw [HT.out, if_neg h2])
      clear HT
      generalize tableN k = T0 at *
      generalize bktN b = B0 at *
      go_enter Tryd.func22, Tryd.ntmps22
      go_wp2_with (first
        | (go_at_call 40; refine (hkd.out _).mono ?_; rintro e w1 ⟨rfl, rfl⟩)
        | (go_at_call 15; refine (htb.out _).mono ?_; rintro e w1 ⟨rfl, rfl⟩)
        | (go_at_call 17; refine (hbk.out _).mono ?_; rintro e w1 ⟨rfl, rfl⟩))
      go_loopw [8, 9] (fun sv ii wr => ∃ (i : Nat) (s : Int), i ≤ l.length ∧ ii = .int .i64 i ∧ sv = .int .i64 s ∧ Hid (s = TN + allN k (l.take i)) ∧ Hid (firstE (l.take i) = 0) ∧ Below w.heap.size w wr) (fun _ ii _ => l.length - (intOf ii).toNat)
      case atStart => exact ⟨0, _, Nat.zero_le _, rfl, rfl, Hid.mk (by simp [allN]; exact hTN.out), Hid.mk (by simp [firstE]), Below.refl _ _⟩
      case round =>
        obtain ⟨i, s, hi, rfl, rfl, hs, hf, hb⟩ := hrel
        have hzr := hb.size
        by_cases hlt : i < l.length
        · obtain ⟨bb, o, rfl, _, hr⟩ := (hLs.out _ hb).some (by omega)
          obtain ⟨k', n', s', m', a', cap', hT, c0, c1, c2, c3, hli⟩ := hr.part i hlt
          have hsz1 := sizes_at l i hlt
          have hob := Hid.mk (fun (W : World) (h : Below wr.heap.size wr W) => objectR_any l[i] (by omega) S _ W (hli.below h))
          have hft := firstE_take hlt hf.out
          have hal := allN_take k hlt
          have ho : Hid (l[i].check = 0 → objV l[i] = rnd l[i].words) := Hid.mk (fun h => if_pos h)
          have hor := objV_range l[i]
          have har := allN_range k (l.take i)
          have hlt2 : (l.take i).length = i := by simp; omega
          rw [hlt2] at har
          have hx := hs.out
          have hft := Hid.mk hft
          have hal := Hid.mk hal
          have hT := Hid.mk hT
          have hli := Hid.mk hli
          generalize objV l[i] = O at *
          generalize l[i].check = C at *
          have hnx := Hid.mk hnr
          by_cases hz : C = 0
          · subst hz
            have hO := ho.out rfl
            have w1 : IntKind.i64.wrap (s + O) = s + O := wrap_id (by omega) (by omega)
            have w2 : IntKind.i64.wrap (s + O + nodeN k) = s + O + nodeN k := wrap_id (by omega) (by omega)
            have hs2 : Hid (s + O + nodeN k = TN + allN k (l.take (i + 1))) := Hid.mk (by rw [hal.out, ← hO]; omega)
            have hf2 : Hid (firstE (l.take (i + 1)) = 0) := Hid.mk hft.out.1
            clear hx har hor hO hlt2 hlen hnr htn hsz1
            generalize nodeN k = N at *
            go_wp2_with (first
              | (go_at_call 10; refine (hob.out _ (Below.refl _ _)).mono ?_; rintro e w2 ⟨rfl, hbb⟩)
              | (go_at_call 13; refine (hnd.out _).mono ?_; rintro e w3 ⟨rfl, rfl⟩))
            go_roundw
            case rel => exact ⟨i + 1, _, by omega, by go_num, rfl, hs2, hf2, hb.trans (hbb.mono hzr)⟩
            case measure => simp [intOf]; omega
          · have hz' : (C == 0) = false := by simpa using hz
            have hfe := hft.out.2 hz
            have hV := hV0.out (by rw [hfe]; exact hz)
            clear hx har hor hlt2 hlen hnr htn hsz1
            go_wp2_with (first
              | (go_at_call 10; refine (hob.out _ (Below.refl _ _)).mono ?_; rintro e w2 ⟨rfl, hbb⟩))
            go_ret2
            exact ⟨by rw [hV, hfe]; rfl, hb.trans (hbb.mono hzr)⟩
        · obtain rfl : i = l.length := by omega
          rw [List.take_length] at hs hf
          have hV := hV1.out hf.out
          rw [← hs.out] at hV
          have hV2 := Hid.mk hV
          clear hV
          go_wp2_with fail
          go_ret2
          exact ⟨by rw [hf.out, hV2.out]; rfl, hb⟩
  · have hE : sumE k b l = 2 := sumE_no hk
    have hV : sumV k b l = 0 := sumV_no hk
    rw [hE, hV]
    clear hE hV
    cases hB : kindB k
    · rw [hB] at hkd
      clear hk hB
      go_enter Tryd.func22, Tryd.ntmps22
      go_wp2_with (go_at_call 40; refine (hkd.out _).mono ?_; rintro e w1 ⟨rfl, rfl⟩)
      go_ret2
      exact ⟨rfl, Below.refl _ _⟩
    · rw [hB] at hkd
      have hB' := kindB_yes.1 hB
      by_cases d1 : b < 0
      · clear hk hB hB'
        go_enter Tryd.func22, Tryd.ntmps22
        go_wp2_with (go_at_call 40; refine (hkd.out _).mono ?_; rintro e w1 ⟨rfl, rfl⟩)
        go_ret2
        exact ⟨rfl, Below.refl _ _⟩
      have d2 : 1048576 < b := by omega
      clear hk hB hB'
      go_enter Tryd.func22, Tryd.ntmps22
      go_wp2_with (go_at_call 40; refine (hkd.out _).mono ?_; rintro e w1 ⟨rfl, rfl⟩)
      go_ret2
      exact ⟨rfl, Below.refl _ _⟩
end Go.Proofs.YtamafhcgjbkikaaDoor
