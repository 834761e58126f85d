/-
  FlatReads returns true.
-/
import Derived.Test.YthkjdcmlalgphaaDoorZFlatLent
import Derived.Test.YthkjdcmlalgphaaDoorZFlatBk
namespace Go.Proofs.YthkjdcmlalgphaaDoor
open Go.RowKit Go.Deep

theorem Wrd.only {P : Nat → Prop} {w w' : World} {xs : List Int} {la : Option Addr} {cap : Nat} (h : Wrd w xs la cap) (o : Only P w w') (hS : ∀ ad, la = some ad → 0 < xs.length → ¬ P ad.block) : Wrd w' xs la cap :=
  ⟨h.len, h.rng, fun h0 => by
    obtain ⟨b, oo, e, hc⟩ := h.cells h0
    exact ⟨b, oo, e, fun j hj => o.cellS (hS _ e h0) (hc j hj)⟩⟩
theorem lent_wrd {w : World} {xs : List Int} {g cap : Nat} (h : Wds w (.slice (some ⟨g, 0, none⟩) (xs.length + 3) cap) (xs ++ [77, 78, 79])) (hc : xs.length + 3 ≤ cap) (hm : cap ≤ maxLen) (hr : ∀ x ∈ xs, 0 ≤ x ∧ x < 18446744073709551616) : Wrd w xs (some ⟨g, 0, none⟩) cap :=
  ⟨⟨by omega, by rw [maxLen] at hm; omega⟩, hr, fun _ => ⟨g, 0, rfl, fun j hj => by
    obtain ⟨b, o, he, hcel⟩ := h.celA (by simp)
    cases he
    have := hcel j (by rw [List.length_append]; omega)
    rwa [List.getElem_append_left hj] at this⟩⟩
theorem partW_small (L : List ByteArray) (xs : List Int) (n : Int) (h : xs.length ≤ 60000) : (partW L xs n).length ≤ 1000000 := by
  rw [partW]
  split
  · simp
  · rename_i t ht
    refine flatW_small t L ?_
    rw [partT] at ht
    split at ht
    · cases ht
    · rename_i k nn s l hr
      split at ht
      · have hs := readR_size hr
        rw [Tm.size_mk] at hs
        have := size_mem (List.mem_of_getElem? ht)
        omega
      · cases ht

set_option maxHeartbeats 8000000 in
set_option maxRecDepth 100000 in
theorem lawReads7 (l : List ByteArray) (a : Option Addr) (cap : Nat) (xs : List Int) (la : Option Addr) (lcap : Nat) (n : Int) (w : World) (hl : Str w l a cap) (hx : Wrd w xs la lcap) (hn : la = none → lcap = 0) (hn0 : -9223372036854775808 ≤ n) (hn1 : n ≤ 9223372036854775807) (hW : WordTab w) (hH : ShapeTab w) :
    Calls Tryd.prog 4 #[.slice a l.length cap, .slice la xs.length lcap, .int .i64 n] w fun e w' => e = .returned (.bool true) ∧ Below w.heap.size w w' := by
  have HS := Hid.mk hl
  have HX := Hid.mk hx
  have HN := Hid.mk hn
  have HNN := Hid.mk (show -9223372036854775808 ≤ n ∧ n ≤ 9223372036854775807 from ⟨hn0, hn1⟩)
  have HWH := Hid.mk (show WordTab w ∧ ShapeTab w from ⟨hW, hH⟩)
  clear hl hx hn hn0 hn1 hW hH
  by_cases h300 : 1000 < xs.length
  · have e1 : decide ((1000 : Int) < xs.length) = true := by rw [decide_eq_true_eq]; omega
    have e2 : decide (1000 < xs.length) = true := by rw [decide_eq_true_eq]; exact h300
    clear h300
    go_enter Tryd.func4, Tryd.ntmps4
    go_wp2_with (go_at_call 8; refine (longTexts_any l a cap 20 _ HS.out).mono ?_; rintro e w2' ⟨⟨b1, rfl, h1⟩, rfl⟩; clear h1)
    all_goals go_ret
    all_goals exact ⟨rfl, Below.refl _ _⟩
  · have e1 : decide ((1000 : Int) < xs.length) = false := by rw [decide_eq_false_iff_not]; omega
    have e2 : decide (1000 < xs.length) = false := by rw [decide_eq_false_iff_not]; exact h300
    have HXL := Hid.mk (show xs.length ≤ 1000 by omega)
    clear h300
    go_enter Tryd.func4, Tryd.ntmps4
    go_wp2_with (first
      | (go_at_call 8
         refine (longTexts_any l a cap 20 _ HS.out).mono ?_
         rintro e w1' ⟨⟨b1, rfl, h1⟩, rfl⟩
         have H1 := Hid.mk h1
         clear h1)
      | (go_at_call 10
         refine (atoms_any l a cap _ HS.out (H1.out (by first | assumption | simpa using ‹¬ b1 = true›)).2).mono ?_
         rintro e w1 ⟨q, L, rfl, h1, n1⟩
         obtain ⟨v, vr, hT1, hR1, hdis, hm1, hm2, hb1, hs1⟩ := h1
         have T1 := Hid.mk hT1; have R1 := Hid.mk hR1; have D1 := Hid.mk hdis; have M1 := Hid.mk hm1; have M2 := Hid.mk hm2; have B1 := Hid.mk hb1; have N1 := Hid.mk n1; have G1 := Hid.mk hT1.good
         have V1 := Hid.mk (fun k hk => hT1.lt (k := k) hk); have V2 := Hid.mk (fun k hk => hR1.lt (k := k) hk); have S1 := Hid.mk hs1
         clear hT1 hR1 hdis hm1 hm2 hb1 hs1 n1)
      | (go_at_call 18
         refine (lentWords_any xs la lcap _ (HX.out.below B1.out) HN.out HXL.out).mono ?_
         rintro e w2 ⟨g, icap, rfl, hr2, hg2, hc2, hc2', hb2⟩
         have B2 := Hid.mk hb2; have I2 := Hid.mk hr2; have G2 := Hid.mk (show w1.heap.size ≤ g ∧ g < w2.heap.size ∧ xs.length + 3 ≤ icap ∧ icap ≤ maxLen from ⟨hg2, hr2.block_lt rfl, hc2, hc2'⟩)
         clear hr2 hg2 hc2 hc2' hb2)
      | (go_at_call 19
         refine (readF_any _ _ v L xs (some ⟨g, 0, none⟩) icap _ (T1.out.up B2.out) (lent_wrd I2.out G2.out.2.2.1 G2.out.2.2.2 HX.out.rng) ((HWH.out.1.below B1.out).below B2.out) (by have := HXL.out; omega)).mono ?_
         rintro e w3 ⟨k3, n3, s3, a3, m3, c3, rfl, hl3, hb3⟩
         obtain ⟨W4, hW4⟩ : ∃ W4, w3.alloc (.cells #[.int .i64 k3, .int .i64 n3, .string s3, .slice a3 m3 c3] 25) = W4 := ⟨_, rfl⟩
         have hbW4 : Below w3.heap.size w3 W4 := (by rw [← hW4]; exact (Up.refl w3).alloc.out)
         have hxW4 : W4.heap[w3.heap.size]? = some (.cells #[.int .i64 k3, .int .i64 n3, .string s3, .slice a3 m3 c3] 25) := (by rw [← hW4]; exact new_block _ _)
         have U4 := Hid.mk ((show Up w2 w3 from hb3).call hbW4)
         have L4 := Hid.mk (hl3.below hbW4); have X4 := Hid.mk hxW4; have Z3 := Hid.mk (show w2.heap.size ≤ w3.heap.size from hb3.size)
         clear hl3 hb3 hbW4 hxW4)
      | (go_at_call 20
         refine (readRf_any q vr L xs la lcap _ ((R1.out.up B2.out).up U4.out.out) (((HX.out.below B1.out).below B2.out).below U4.out.out) G1.out N1.out (by have := HXL.out; omega)).mono ?_
         rintro e w5 ⟨k5, n5, s5, a5, m5, c5, rfl, hl5, hb5⟩
         obtain ⟨W6, hW6⟩ : ∃ W6, w5.alloc (.cells #[.int .i64 k5, .int .i64 n5, .string s5, .slice a5 m5 c5] 25) = W6 := ⟨_, rfl⟩
         have hbW6 : Below w5.heap.size w5 W6 := (by rw [← hW6]; exact (Up.refl w5).alloc.out)
         have hxW6 : W6.heap[w5.heap.size]? = some (.cells #[.int .i64 k5, .int .i64 n5, .string s5, .slice a5 m5 c5] 25) := (by rw [← hW6]; exact new_block _ _)
         have U6 := Hid.mk ((show Up W4 w5 from hb5).call hbW6)
         have E6 := Hid.mk (show w1.heap.size ≤ W4.heap.size ∧ W4.heap.size ≤ w5.heap.size ∧ W4.heap.size ≤ W6.heap.size from ⟨by have := B2.out.size; have := U4.out.out.size; omega, hb5.size, by have := hb5.size; have := hbW6.size; omega⟩)
         have LU6 := Hid.mk ((hl5.below hbW6).inside); have XU6 := Hid.mk hxW6
         have LT6 := Hid.mk ((L4.out.below U6.out.out).inside); have XT6 := Hid.mk ((U6.out.out.block _ (Array.getElem?_eq_some_iff.1 X4.out).1).trans X4.out)
         have I6 := Hid.mk ((I2.out.up U4.out.out).up U6.out.out)
         have K6 := Hid.mk ((((HX.out.below B1.out).below B2.out).below U4.out.out).below U6.out.out)
         have T6 := Hid.mk (((T1.out.up B2.out).up U4.out.out).up U6.out.out); have R6 := Hid.mk (((R1.out.up B2.out).up U4.out.out).up U6.out.out)
         have B6 := Hid.mk (show Below w.heap.size w W6 from B1.out.trans ((((show Up w1 w2 from B2.out).call U4.out.out).call U6.out.out).out.mono B1.out.size))
         have TB := Hid.mk (fun k (hk : Mine _ _ v k) => show w.heap.size ≤ k ∧ k < w1.heap.size from ⟨M1.out k hk, V1.out k hk⟩)
         have RB := Hid.mk (fun k (hk : MineR q vr k) => show w.heap.size ≤ k ∧ k < w1.heap.size from ⟨M2.out k hk, V2.out k hk⟩)
         clear hl5 hb5 hbW6 hxW6)
      | (go_at_call 21
         refine (partF_any _ _ v L xs (some ⟨g, 0, none⟩) icap n _ T6.out (lent_wrd I6.out G2.out.2.2.1 G2.out.2.2.2 HX.out.rng) (HWH.out.1.below B6.out) (HWH.out.2.below B6.out) (fun hk => by have := (TB.out _ hk).1; have := HWH.out.1.size; omega) (by have := HXL.out; omega) HNN.out.1 HNN.out.2).mono ?_
         rintro e w7 ⟨rv, v7, rfl, h7⟩
         have Y7 := Hid.mk h7
         have R7 := Hid.mk (R6.out.kept h7.only (fun k hk hk2 => D1.out k hk2 hk))
         have K7 := Hid.mk (K6.out.only h7.only (fun ad e h0 hk => by have := (TB.out _ hk).1; have := HX.out.lt h0 e; omega))
         have I7 := Hid.mk (I6.out.kept h7.only (fun g' e hk => by obtain rfl : g = g' := Option.some.inj e; have := (TB.out _ hk).2; have := G2.out.1; omega))
         have XT7 := Hid.mk (h7.only.box XT6.out (fun hk => by have := (TB.out _ hk).2; have := Z3.out; have := B2.out.size; omega))
         have XU7 := Hid.mk (h7.only.box XU6.out (fun hk => by have := (TB.out _ hk).2; have := E6.out; omega))
         have LT7 := Hid.mk (h7.only.lies (fun b hb => ⟨hb.2, fun hk => by have h1 := (TB.out _ hk).2; have h2 := hb.1; have := B2.out.size; omega⟩) LT6.out)
         have LU7 := Hid.mk (h7.only.lies (fun b hb => ⟨hb.2, fun hk => by have h1 := (TB.out _ hk).2; have h2 := hb.1; have := E6.out; omega⟩) LU6.out)
         have Z7 := Hid.mk h7.only.size
         obtain ⟨ra, rcap, rfl, _⟩ := h7.row.cel
         clear h7)
      | (go_at_call 22
         refine (partRf_any q vr L xs la lcap n _ R7.out K7.out G1.out N1.out (by have := HXL.out; omega) HNN.out.1 HNN.out.2).mono ?_
         rintro e w8 ⟨rv8, v8, rfl, h8⟩
         have Y8 := Hid.mk h8
         have hsep : ∀ k, MineR q vr k → ¬ Mine (w.heap.size + 1) w.heap.size v k ∧ k < w1.heap.size ∧ w.heap.size ≤ k := (fun k hk => ⟨fun h => D1.out k h hk, (RB.out k hk).2, (RB.out k hk).1⟩)
         have T8 := Hid.mk (Y7.out.tab.kept h8.only (fun k hk hk2 => (Y7.out.mine k hk).elim (hsep k hk2).1 (fun h => by have := (hsep k hk2).2; have := E6.out; omega)))
         have P8 := Hid.mk (Y7.out.row.kept h8.only (fun g' hg hk2 => (Y7.out.own g' hg).1.elim (hsep g' hk2).1 (fun h => by have := (hsep g' hk2).2; have := E6.out; omega)))
         have R8 := Hid.mk h8.tab
         have K8 := Hid.mk (K7.out.only h8.only (fun ad e h0 hk => by have := (hsep _ hk).2.2; have := HX.out.lt h0 e; omega))
         have I8 := Hid.mk (I7.out.kept h8.only (fun g' e hk => by obtain rfl : g = g' := Option.some.inj e; have := (hsep _ hk).2.1; have := G2.out.1; omega))
         have XT8 := Hid.mk (h8.only.box XT7.out (fun hk => by have := (hsep _ hk).2.1; have := Z3.out; have := B2.out.size; omega))
         have XU8 := Hid.mk (h8.only.box XU7.out (fun hk => by have := (hsep _ hk).2.1; have := E6.out; omega))
         have LT8 := Hid.mk (h8.only.lies (fun b hb => ⟨by have h2 := hb.2; have := Z7.out; omega, fun hk => by have h1 := (hsep _ hk).2.1; have h2 := hb.1; have := B2.out.size; omega⟩) LT7.out)
         have LU8 := Hid.mk (h8.only.lies (fun b hb => ⟨by have h2 := hb.2; have := Z7.out; omega, fun hk => by have h1 := (hsep _ hk).2.1; have h2 := hb.1; have := E6.out; omega⟩) LU7.out)
         have B8 := Hid.mk (show Below w.heap.size w w8 from B6.out.trans ((Y7.out.only.below (B := w.heap.size) (fun k hk => (TB.out k hk).1) B6.out.size).trans (h8.only.below (B := w.heap.size) (fun k hk => (RB.out k hk).1) (by have := B6.out.size; have := Z7.out; omega))))
         obtain ⟨sa, scap, rfl, _, _, hc8⟩ := h8.row.cel
         have Q8 := Hid.mk hc8
         obtain ⟨⟨p0, p1, p2, p3⟩, _⟩ := kept4 XT8.out (Below.refl _ _)
         obtain ⟨⟨q0, q1, q2, q3⟩, _⟩ := kept4 XU8.out (Below.refl _ _)
         clear h8 hsep hc8)
      | (go_at_call 16
         refine (sameTerm_any (readT L xs) (readT L xs) _ _ _ _ _ LT8.out LU8.out).mono ?_
         rintro e w9 ⟨rfl, hb9⟩
         rw [eqB_refl]
         have B9 := Hid.mk (show Up w8 w9 from hb9)
         clear hb9 p0 p1 p2 p3 q0 q1 q2 q3)
      | (go_at_call 14
         refine (sameWords_any (partW L xs n) (partW L xs n) _ _ _ _ _ (P8.out.up B9.out.out).celA (Q8.out.up B9.out.out) (partW_small L xs n (by have := HXL.out; omega))).mono ?_
         rintro e w10 ⟨rfl, hb10⟩
         rw [decide_eq_true (rfl : partW L xs n = partW L xs n)]
         have B10 := Hid.mk (B9.out.call hb10)
         clear hb10)
      | (go_at_call 23
         refine (overWords_any (partW L xs n) _ _ _ _ (P8.out.up B10.out.out)).mono ?_
         rintro e w11 ⟨⟨u11, rfl⟩, ho11⟩
         have hgx : ∀ k, (Value.slice ra (partW L xs n).length rcap).ownBlock = some k → (Mine (w.heap.size + 1) w.heap.size v k ∨ W6.heap.size ≤ k) ∧ ¬ Mine (w.heap.size + 1) w.heap.size v7 k ∧ k < w7.heap.size := (fun k hk => ⟨(Y7.out.own k hk).1, (Y7.out.own k hk).2, Y7.out.row.block_lt hk⟩)
         have T11 := Hid.mk ((T8.out.up B10.out.out).kept ho11 (fun k hk hk2 => (hgx k hk2).2.1 hk))
         have R11 := Hid.mk ((R8.out.up B10.out.out).kept ho11 (fun k hk hk2 => (Y8.out.mine k hk).elim (fun h => (hgx k hk2).1.elim (fun h2 => D1.out k h2 h) (fun h2 => by have := (RB.out k h).2; have := E6.out; omega)) (fun h => by have := (hgx k hk2).2.2; omega)))
         have K11 := Hid.mk ((K8.out.below B10.out.out).only ho11 (fun ad e h0 hk => by have h2 := HX.out.lt h0 e; have := B6.out.size; exact (hgx _ hk).1.elim (fun h => by have := (TB.out _ h).1; omega) (fun h => by omega)))
         have I11 := Hid.mk ((I8.out.up B10.out.out).kept ho11 (fun g' e hk => by obtain rfl : g = g' := Option.some.inj e; have := G2.out; have := U4.out.out.size; have := U6.out.out.size; exact (hgx _ hk).1.elim (fun h => by have := (TB.out _ h).2; omega) (fun h => by omega)))
         have B11 := Hid.mk (show Below w.heap.size w w11 from B8.out.trans ((B10.out.out.mono B8.out.size).trans (ho11.below (B := w.heap.size) (fun k hk => by have := B6.out.size; exact (hgx _ hk).1.elim (fun h => by have := (TB.out _ h).1; omega) (fun h => by omega)) (by have := B8.out.size; have := B10.out.out.size; omega))))
         clear ho11 hgx)
      | (go_at_call 24
         refine (keptWords_any xs g icap la lcap _ I11.out G2.out.2.2.1 K11.out.cel HXL.out).mono ?_
         rintro e w12 ⟨rfl, hb12⟩
         have B12 := Hid.mk (show Up w11 w12 from hb12)
         clear hb12)
      | (go_at_call 15
         refine (sameAtoms_any _ _ q _ _ _ _ (T11.out.up B12.out.out) (R11.out.up B12.out.out)).mono ?_
         rintro e w13 ⟨rfl, hb13⟩
         have B13 := Hid.mk (B12.out.call hb13)
         clear hb13)
      | (go_at_call 17
         refine (awake7_any _ ((HWH.out.1.below B11.out).below B13.out.out) ((HWH.out.2.below B11.out).below B13.out.out)).mono ?_
         rintro e w14 ⟨rfl, hb14⟩
         have B14 := Hid.mk (B13.out.call hb14)
         clear hb14))
    all_goals go_ret
    all_goals first | exact ⟨rfl, B11.out.trans (B14.out.out.mono B11.out.size)⟩ | exact ⟨rfl, Below.refl _ _⟩
end Go.Proofs.YthkjdcmlalgphaaDoor
