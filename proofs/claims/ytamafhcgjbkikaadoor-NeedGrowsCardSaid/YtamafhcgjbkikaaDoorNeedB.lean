/-
  What the program says that a whole table needs.
-/
import Derived.Test.YtamafhcgjbkikaaDoorNeedA
namespace Go.Proofs.YtamafhcgjbkikaaDoor
open Go.RowKit Go.Deep

theorem sumI_any (k b : Int) (l : List Tm) (hsz : sizes l ≤ 1000000) (S : Nat → Prop) (a : Option Addr) (cap : Nat) (w : World) (hl : Lst w S l a cap) (ht : Tabs w) :
    Calls Tryd.prog 21 #[.int .i64 k, .int .i64 b, .slice a l.length cap] w fun e w' => e = .returned (.tuple #[.int .i64 (sumV k b l), .int .i64 (sumE k b l)]) ∧ Below w.heap.size w w' := by
  have hmy := Hid.mk (mayN_any k b)
  by_cases hk : (1 ≤ k ∧ k ≤ 4) ∧ 0 ≤ b ∧ b ≤ 1048576
  · rw [decide_eq_true hk] at hmy
    have hE : sumE k b l = firstE l := sumE_yes hk
    rw [hE]
    have HK := Hid.mk hk
    clear hk
    go_enter Tryd.func21, Tryd.ntmps21
    go_wp2_with (first
      | (go_at_call 41; refine (hmy.out _).mono ?_; rintro e w1 ⟨rfl, rfl⟩)
      | (go_at_call 14; refine (tableI_any k _ ht.kind).mono ?_; rintro e w1 ⟨rfl, rfl⟩))
    have hlen := length_sizes l
    have hlm : l.length ≤ 9223372036854775807 := by omega
    have hV0 : Hid (firstE l ≠ 0 → sumV k b l = 0) := Hid.mk (fun h => by unfold sumV; rw [hE, if_neg h])
    have hV1 : Hid (firstE l = 0 → sumV k b l = tableN k + allN k l + (if k = 2 then 0 else bktN b)) := Hid.mk (fun h => by unfold sumV; rw [hE, if_pos h])
    have hnd := Hid.mk (fun (W : World) (h : Below w.heap.size w W) => nodeI_any k W (ht.below h).kind)
    have hLs := Hid.mk (fun (W : World) (h : Below w.heap.size w W) => hl.below h)
    have hTs := Hid.mk (fun (W : World) (h : Below w.heap.size w W) => ht.below h)
    have htr := tableN_range k
    have hnr := nodeN_range k
    clear hE ht hl
    generalize tableN k = TN at *
    go_loopw [8, 21] (fun sv ii wr => ∃ (i : Nat) (s : Int), i ≤ l.length ∧ ii = .int .i64 i ∧ sv = .int .i64 s ∧ Hid (s = TN + allN k (l.take i)) ∧ Hid (firstE (l.take i) = 0) ∧ Below w.heap.size w wr) (fun _ ii _ => l.length - (intOf ii).toNat)
    case atStart => exact ⟨0, TN, Nat.zero_le _, rfl, rfl, Hid.mk (by simp [allN]), Hid.mk (by simp [firstE]), Below.refl _ _⟩
    case round =>
      obtain ⟨i, s, hi, rfl, rfl, hs, hf, hb⟩ := hrel
      have hzr := hb.size
      by_cases hlt : i < l.length
      · obtain ⟨bb, o, rfl, _, hr⟩ := (hLs.out _ hb).some (by omega)
        obtain ⟨k', n', s', m', a', cap', hT, c0, c1, c2, c3, hli⟩ := hr.part i hlt
        have hsz1 := sizes_at l i hlt
        have hob := Hid.mk (fun (W : World) (h : Below wr.heap.size wr W) => objectI_any l[i] (by omega) S _ W (hli.below h) (hTs.out _ (hb.trans (h.mono hzr))).shape)
        have hft := firstE_take hlt hf.out
        have hal := allN_take k hlt
        have ho : Hid (l[i].check = 0 → objV l[i] = rnd l[i].words) := Hid.mk (fun h => if_pos h)
        have hor := objV_range l[i]
        have har := allN_range k (l.take i)
        have hlt2 : (l.take i).length = i := by simp; omega
        rw [hlt2] at har
        have hx := hs.out
        have hft := Hid.mk hft
        have hal := Hid.mk hal
        have hT := Hid.mk hT
        have hli := Hid.mk hli
        generalize objV l[i] = O at *
        generalize l[i].check = C at *
        have hnx := Hid.mk hnr
        by_cases hz : C = 0
        · subst hz
          have hO := ho.out rfl
          have w1 : IntKind.i64.wrap (O + nodeN k) = O + nodeN k := wrap_id (by omega) (by omega)
          have w2 : IntKind.i64.wrap (s + (O + nodeN k)) = s + (O + nodeN k) := wrap_id (by omega) (by omega)
          have hs2 : Hid (s + (O + nodeN k) = TN + allN k (l.take (i + 1))) := Hid.mk (by rw [hal.out, ← hO]; omega)
          have hf2 : Hid (firstE (l.take (i + 1)) = 0) := Hid.mk hft.out.1
          clear hx har hor hO hlt2 hlen hnr htr hsz1
          generalize nodeN k = N at *
          go_wp2_with (first
            | (go_at_call 9; refine (hob.out _ ((Below.refl _ _).alloc (Nat.le_refl _) _)).mono ?_; rintro e w2 ⟨rfl, hb2⟩; have hbb : Below wr.heap.size wr w2 := ((Below.refl _ _).alloc (Nat.le_refl _) _).trans (hb2.mono (by simp)))
            | (go_at_call 12; refine (hnd.out _ (hb.trans (hbb.mono hzr))).mono ?_; rintro e w3 ⟨rfl, rfl⟩))
          go_roundw
          case rel => exact ⟨i + 1, _, by omega, by go_num, rfl, hs2, hf2, hb.trans (hbb.mono hzr)⟩
          case measure => simp [intOf]; omega
        · have hz' : (C == 0) = false := by simpa using hz
          have hfe := hft.out.2 hz
          have hV := hV0.out (by rw [hfe]; exact hz)
          clear hx har hor hlt2 hlen hnr htr hsz1
          go_wp2_with (first
            | (go_at_call 9; refine (hob.out _ ((Below.refl _ _).alloc (Nat.le_refl _) _)).mono ?_; rintro e w2 ⟨rfl, hb2⟩; have hbb : Below wr.heap.size wr w2 := ((Below.refl _ _).alloc (Nat.le_refl _) _).trans (hb2.mono (by simp))))
          go_ret2
          exact ⟨by rw [hV, hfe]; rfl, hb.trans (hbb.mono hzr)⟩
      · obtain rfl : i = l.length := by omega
        rw [List.take_length] at hs hf
        have hV := hV1.out hf.out
        have hk := HK.out
        have hx := hs.out
        have har := allN_range k l
        have hbr := bktN_range b
        obtain ⟨j, rfl⟩ := Int.eq_ofNat_of_zero_le (show 0 ≤ k by omega)
        have hcell := (hTs.out _ hb).kind.c2 j (by omega)
        have hB : Hid (hashB j = true ∧ (j : Int) ≠ 2 ∨ hashB j = false ∧ (j : Int) = 2) := Hid.mk (by
          by_cases h2 : (j : Int) = 2
          · exact Or.inr ⟨by rw [h2]; rfl, h2⟩
          · exact Or.inl ⟨decide_eq_true (by omega), h2⟩)
        have hj : j < 5 := by omega
        have w1 : IntKind.i64.wrap (s + bktN b) = s + bktN b := wrap_id (by omega) (by omega)
        cases hh : hashB j
        · have hV2 : sumV j b l = s := by
            rcases hB.out with h3 | h3
            · rw [h3.1] at hh; cases hh
            · rw [hV, if_pos h3.2, hx]; omega
          rw [hh] at hcell
          clear hV hx hh hk w1 har hbr
          have hV2 := Hid.mk hV2
          go_wp2_with fail
          go_ret2
          exact ⟨by rw [hf.out, hV2.out]; rfl, hb⟩
        · have hV2 : sumV j b l = s + bktN b := by
            rcases hB.out with h3 | h3
            · rw [hV, if_neg h3.2, hx]
            · rw [h3.1] at hh; cases hh
          rw [hh] at hcell
          have hbk := Hid.mk (bucketsI_any b)
          have hV2 := Hid.mk hV2
          clear hV hx hh hk har hbr
          generalize bktN b = BK at *
          go_wp2_with (go_at_call 16; refine (hbk.out _).mono ?_; rintro e w3 ⟨rfl, rfl⟩)
          go_ret2
          exact ⟨by rw [hf.out, hV2.out]; rfl, hb⟩
  · have hE : sumE k b l = 2 := sumE_no hk
    have hV : sumV k b l = 0 := sumV_no hk
    rw [decide_eq_false hk] at hmy
    rw [hE, hV]
    clear hE hV hk
    go_enter Tryd.func21, Tryd.ntmps21
    go_wp2_with (go_at_call 41; refine (hmy.out _).mono ?_; rintro e w1 ⟨rfl, rfl⟩)
    go_ret2
    exact ⟨rfl, Below.refl _ _⟩
end Go.Proofs.YtamafhcgjbkikaaDoor
