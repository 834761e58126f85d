/-
  The document's Flatten.
-/
import Derived.Test.YthkjdcmlalgphaaDoorZFlatRLay
import Derived.Test.YthkjdcmlalgphaaDoorZFlatFlat
namespace Go.Proofs.YthkjdcmlalgphaaDoor
open Go.RowKit Go.Deep

/-- What the document's Flatten leaves. -/
structure FlatRR (w : World) (q : Nat) (v : Value) (T : Tm) (L : List ByteArray) (rv v' : Value) (w' : World) : Prop where
  row : Wds w' rv (flatW T L)
  own : ∀ g, rv.ownBlock = some g → (MineR q v g ∨ w.heap.size ≤ g) ∧ ¬ MineR q v' g
  tab : RTab w' q v' (flatL T L)
  only : Only (MineR q v) w w'
  mine : ∀ k, MineR q v' k → MineR q v k ∨ w.heap.size ≤ k
theorem FlatRR.none {w w' : World} {q : Nat} {v : Value} {T : Tm} {L : List ByteArray} (hT : RTab w q v L) (hb : Below w.heap.size w w') (hc : flatW T L = []) (hL : flatL T L = L) : FlatRR w q v T L (.slice none 0 0) v w' :=
  ⟨by rw [hc]; exact World.ownsRow_nil _ _ _ _, fun g hg => (by cases hg), by rw [hL]; exact hT.up hb, Only.up hb, fun k hk => Or.inl hk⟩

set_option maxHeartbeats 4000000 in
set_option maxRecDepth 100000 in
theorem flattenR_any (T : Tm) (S : Nat → Prop) (tv : Value) (w : World) (q : Nat) (v : Value) (L : List ByteArray) (h : RTab w q v L) (hT : Lies w S T tv) (hS : ∀ b, S b → ¬ MineR q v b) (hsz : T.size ≤ 400000) :
    Calls Tryd.prog 13 #[.pointer (some ⟨q, 0, none⟩), tv] w fun e w' => ∃ rv v', e = .returned (.tuple #[rv, .int .i64 (flatE T L)]) ∧ FlatRR w q v T L rv v' w' := by
  obtain ⟨k, n, s, l⟩ := T
  obtain ⟨a, cap, rfl, hsm, hl⟩ := hT.out
  generalize hTT : Tm.mk k n s l = T at *
  obtain ⟨W0, hW0⟩ : ∃ W0, w.alloc (.cells #[.int .i64 k, .int .i64 n, .string s, .slice a l.length cap] 25) = W0 := ⟨_, rfl⟩
  have hb0 : Below w.heap.size w W0 := by rw [← hW0]; exact (Below.refl _ _).alloc (Nat.le_refl _) _
  have hz0 : W0.heap.size = w.heap.size + 1 := by rw [← hW0]; simp
  have hbx1 : W0.heap[w.heap.size]? = some (.cells #[.int .i64 k, .int .i64 n, .string s, .slice a l.length cap] 25) := by rw [← hW0]; exact new_block _ _
  obtain ⟨⟨t0, t1, t2, t3⟩, _⟩ := kept4 hbx1 (Below.refl _ _)
  have h0 := Hid.mk (h.up hb0)
  have hT0 := hT.below hb0
  have hchk := Hid.mk (refcheck_any T (by omega) S _ W0 hT0)
  have HB0 := Hid.mk hb0
  have HT := Hid.mk h
  have HL := Hid.mk hT
  have HS := Hid.mk hS
  have HX1 := Hid.mk hbx1
  have HZ0 := Hid.mk hz0
  clear hT0 hb0 hT h hS hbx1 hz0 hl hsm hsz
  by_cases hc : T.check = 0
  · obtain ⟨hf, hwr⟩ := check_zero hc
    have hmk : ∀ w', (Instr.makeSlice 33 (.int .i64 1) (.int .i64 1)).run Tryd.prog w' = .ok (.slice (some ⟨w'.heap.size, 0, none⟩) 1 1) (w'.alloc (.cells (madeCells (Value.int .u64 0).cells 1) 62)) := fun w' => by
      have hi := wordInfo
      cases hq : Tryd.prog.info? 62 with
      | none => rw [hq] at hi; cases hi
      | some i =>
        rw [hq] at hi
        simp only [Option.map_some, Option.some.injEq, Prod.mk.injEq] at hi
        obtain ⟨hz, hs, hb⟩ := hi
        have := run_make (P := Tryd.prog) w' 33 62 i _ Tryd.underlying33 hq hz .i64 .i64 1 1 (by omega) (by omega) (by rw [hb]; omega) (by omega)
        rw [hs] at this
        exact this
    have hchk2 := hchk.out
    rw [hc] at hchk2
    have hchk := Hid.mk hchk2
    have HC := Hid.mk hc
    have HF := Hid.mk hf
    have HWR := Hid.mk hwr
    clear hchk2 hc hf hwr
    go_enter Tryd.func13, Tryd.ntmps13
    go_upto_region 1 with fail
    try rw [hW0]
    clear hW0
    go_upto_region 5 with (first
      | (go_at_call 44; refine hchk.out.mono ?_; rintro e w2 ⟨rfl, hb2⟩; have hu2 : Up W0 w2 := hb2; have e0 := cell_below hu2.out _ _ _ t0; have e1 := cell_below hu2.out _ _ _ t1; have e2 := cell_below hu2.out _ _ _ t2; have e3 := cell_below hu2.out _ _ _ t3))
    obtain ⟨W4, hW4⟩ : ∃ W4, (w2.alloc (.cells (madeCells #[Value.int .u64 0] 1) 62)).alloc (.cells #[.pointer (some ⟨q, 0, none⟩), .slice (some ⟨w2.heap.size, 0, none⟩) 1 1] 81) = W4 := ⟨_, rfl⟩
    have h34 : Below w2.heap.size w2 W4 := by rw [← hW4]; exact ((Below.refl _ _).alloc (Nat.le_refl _) _).alloc (by simp) _
    have hz4 : W4.heap.size = w2.heap.size + 1 + 1 := by rw [← hW4]; simp
    have hrow : Wds W4 (.slice (some ⟨w2.heap.size, 0, none⟩) 1 1) [0] := by
      have := zero_row w2 62 1 (Nat.le_refl _) (by unfold maxLen; omega)
      rw [← hW4]
      exact this.up ((Below.refl _ _).alloc (Nat.le_refl _) _)
    have hxb : W4.heap[w2.heap.size + 1]? = some (.cells #[.pointer (some ⟨q, 0, none⟩), .slice (some ⟨w2.heap.size, 0, none⟩) 1 1] 81) := by
      rw [← hW4]
      exact new_block2 _ _ _
    rw [hW4]
    have cx : W4.cell? ⟨w2.heap.size + 1, 0, none⟩ = some (.pointer (some ⟨q, 0, none⟩)) := by simp [World.cell?, hxb]
    have hu4 := hu2.call h34
    have g0 := cell_below hu4.out _ _ _ t0
    have g1 := cell_below hu4.out _ _ _ t1
    have g2 := cell_below hu4.out _ _ _ t2
    have g3 := cell_below hu4.out _ _ _ t3
    have hz3 := hu2.out.size
    have hz0 := HZ0.out
    have hMlt : ∀ k, MineR q v k → k < w.heap.size := fun k hk => HT.out.lt hk
    have hRS : RSt (MineR q v) W4 W4 q L v := ⟨h0.out.up hu4.out, Only.refl _ _, fun _ hk => Or.inl hk⟩
    have nxb : ¬ MineR q v (w2.heap.size + 1) := fun hk => by have := hMlt _ hk; omega
    have nrb : ¬ MineR q v w2.heap.size := fun hk => by have := hMlt _ hk; omega
    have ntb : ¬ MineR q v w.heap.size := fun hk => by have := hMlt _ hk; omega
    have hTv := (HL.out.inside.below HB0.out).below hu4.out
    have hSS : ∀ b, (S b ∧ b < w.heap.size) → b < W4.heap.size ∧ ¬ MineR q v b := fun b hb => ⟨by omega, HS.out b hb.1⟩
    have hnum := numbersR_any T HF.out _ _ W4 q (w2.heap.size + 1) _ cx nxb hSS hTv W4 L v hRS
    have HNum := Hid.mk hnum
    have HU4 := Hid.mk hu4
    have HXB := Hid.mk hxb
    have HR4 := Hid.mk hrow
    have HTv := Hid.mk hTv
    have HSS := Hid.mk hSS
    have HZ3 := Hid.mk hz3
    have HZ4 := Hid.mk hz4
    have NXB := Hid.mk nxb
    have NRB := Hid.mk nrb
    have NTB := Hid.mk ntb
    clear hnum hRS hTv hSS hMlt hrow hxb hW4 hz4 hz0 h34 hu4 e0 e1 e2 e3 hu2 hz3 hb2 nxb nrb ntb
    cases hb : (T.nums L).1 with
    | true =>
      have hl := HNum.out
      rw [hb] at hl
      have HNum := Hid.mk hl
      have HB := Hid.mk hb
      clear hl hb
      go_wp2_with (first
        | (go_at_call 45; refine HNum.out.mono ?_; rintro e w5 ⟨v5, rfl, h5⟩
           have i0 := h5.keep NTB.out g0
           have i1 := h5.keep NTB.out g1
           have i2 := h5.keep NTB.out g2
           have i3 := h5.keep NTB.out g3
           have hlay : ∃ hh : True, Calls Tryd.prog 46 #[.pointer (some ⟨w2.heap.size + 1, 0, none⟩), .agg #[.int .i64 k, .int .i64 n, .string s, .slice a l.length cap]] w5 fun e w' => ∃ rv', e = .returned (.int .u64 (T.own (T.nums L).2 1)) ∧ LaR (TurnsR (w2.heap.size + 1) (.slice (some ⟨w2.heap.size, 0, none⟩) 1 1)) w5 w' q (w2.heap.size + 1) (T.nums L).2 v5 rv' ([0] ++ T.laid (T.nums L).2 1) := by
             have hz4 := HZ4.out
             have hz3 := HZ3.out
             have hz0 := HZ0.out
             have hM5 : ∀ b, b < W4.heap.size → ¬ MineR q v b → ¬ MineR q v5 b := fun b h1 h2 hk => (h5.mine b hk).elim h2 (fun hh => by omega)
             have hLa : LaR (TurnsR (w2.heap.size + 1) (.slice (some ⟨w2.heap.size, 0, none⟩) 1 1)) w5 w5 q (w2.heap.size + 1) (T.nums L).2 v5 (.slice (some ⟨w2.heap.size, 0, none⟩) 1 1) [0] :=
               ⟨h5.tab, h5.only.box HXB.out NXB.out, HR4.out.kept h5.only (fun g hg => by
                 obtain rfl : w2.heap.size = g := by simpa [Value.ownBlock] using hg
                 exact NRB.out), hM5 _ (by omega) NXB.out, fun g hg => by
                 obtain rfl : w2.heap.size = g := by simpa [Value.ownBlock] using hg
                 exact ⟨by omega, hM5 _ (by omega) NRB.out⟩, Only.refl _ _, fun _ hk => Or.inl hk⟩
             exact ⟨trivial, layR_any T HF.out (fun b => S b ∧ b < w.heap.size) _ w5 q (w2.heap.size + 1) v5 _ (Or.inr trivial) (fun b hb => ⟨Nat.lt_of_lt_of_le (HSS.out b hb).1 h5.only.size, fun hk => by
               rcases hk with hk | hk
               · omega
               · have : w2.heap.size = b := by simpa [Value.ownBlock] using hk
                 omega⟩) (h5.only.lies HSS.out HTv.out) w5 (T.nums L).2 _ [0] hLa (by have := HWR.out; simp only [List.length_singleton]; omega)⟩
           have HLay := Hid.mk hlay
           have H5 := Hid.mk h5
           clear hlay h5)
        | (go_at_call 46; obtain ⟨_, hlay⟩ := HLay.out; refine hlay.mono ?_; rintro e w6 ⟨rv6, rfl, h6⟩
           obtain ⟨ys6, hy6⟩ : ∃ ys6, [0] ++ T.laid (T.nums L).2 1 = ys6 := ⟨_, rfl⟩
           have hp6 : 0 < ys6.length := by rw [← hy6]; simp
           rw [hy6] at h6
           obtain ⟨g6, cap6, rfl, hgc6⟩ : ∃ g6 cap6, rv6 = .slice (some ⟨g6, 0, none⟩) ys6.length cap6 ∧ ∃ u, w6.cell? ⟨g6, 0, none⟩ = some u := by
             rcases h6.row.shape with ⟨_, e⟩ | ⟨g', cap', e, _, _, _, hc⟩
             · rw [e] at hp6; cases hp6
             · exact ⟨g', cap', e, _, hc _ hp6⟩
           obtain ⟨u6, hgc6⟩ := hgc6
           have hgf6 := h6.row.frozen 0
           obtain ⟨z0, z1, zf⟩ := h6.cell
           have h8 := h6.set 0 (T.own (T.nums L).2 1)
           have hne : w2.heap.size + 1 ≠ g6 := fun e => (h6.nr g6 rfl).1 e.symm
           obtain ⟨v0, v1, vf⟩ := h8.cell
           have H8 := Hid.mk h8
           have HY6 := Hid.mk hy6
           clear h6 h8 hy6 hlay))
      go_ret2
      have hz4 := HZ4.out
      have hz3 := HZ3.out
      have hz0 := HZ0.out
      refine ⟨_, v5, by rw [flatE, if_pos HC.out, HB.out]; rfl, ⟨?_, fun g hg => ⟨?_, (H8.out.nr g hg).2⟩, by rw [flatL, if_pos HC.out]; exact H8.out.tab, ?_, fun k hk => ?_⟩⟩
      · rw [flatW, if_pos ⟨HC.out, HB.out⟩, Tm.flat]
        have hr := H8.out.row
        have e : ys6.set 0 (T.own (T.nums L).2 1) = T.own (T.nums L).2 1 :: T.laid (T.nums L).2 1 := by rw [← HY6.out]; rfl
        rw [e] at hr
        exact hr
      · rcases H8.out.mine g (Or.inr hg) with hk | hk
        · rcases hk with hk | hk
          · exact Or.inr (by omega)
          · have : w2.heap.size = g := by simpa [Value.ownBlock] using hk
            exact Or.inr (by omega)
        · exact Or.inr (by have := H5.out.only.size; omega)
      · refine ((Only.up (HB0.out.trans (HU4.out.out.mono HB0.out.size))).trans H5.out.only (fun i hi => Or.inl hi)).trans H8.out.only (fun i hi => ?_)
        rcases hi with hi | hi
        · exact Or.inr (by omega)
        · have : w2.heap.size = i := by simpa [Value.ownBlock] using hi
          exact Or.inr (by omega)
      · rcases H5.out.mine k hk with hk | hk
        · exact Or.inl hk
        · exact Or.inr (by omega)
    | false =>
      have hl := HNum.out
      rw [hb] at hl
      have HNum := Hid.mk hl
      have HB := Hid.mk hb
      clear hl hb
      go_wp2_with (first
        | (go_at_call 45; refine HNum.out.mono ?_; rintro e w5 ⟨v5, rfl, h5⟩; have H5 := Hid.mk h5; clear h5))
      go_ret2
      have hz4 := HZ4.out
      have hz3 := HZ3.out
      have hz0 := HZ0.out
      exact ⟨.slice none 0 0, v5, by rw [flatE, if_pos HC.out, HB.out]; rfl, ⟨by rw [flatW, if_neg (fun h => by rw [HB.out] at h; cases h.2)]; exact World.ownsRow_nil _ _ _ _, fun g hg => (by cases hg), by rw [flatL, if_pos HC.out]; exact H5.out.tab,
        (Only.up (HB0.out.trans (HU4.out.out.mono HB0.out.size))).trans H5.out.only (fun i hi => Or.inl hi), fun k hk => by
        rcases H5.out.mine k hk with hk | hk
        · exact Or.inl hk
        · exact Or.inr (by omega)⟩⟩
  · go_enter Tryd.func13, Tryd.ntmps13
    have hd : (T.check == 0) = false := by simpa using hc
    go_upto_region 1 with fail
    try rw [hW0]
    clear hW0
    have HC := Hid.mk hc
    clear hc
    go_wp2_with (first
      | (go_at_call 44; refine hchk.out.mono ?_; rintro e w2 ⟨rfl, hb2⟩; have hu2 : Up W0 w2 := hb2))
    go_ret2
    have hu : Below w.heap.size w w2 := HB0.out.trans (hu2.out.mono HB0.out.size)
    exact ⟨.slice none 0 0, v, by rw [flatE, if_neg HC.out]; rfl, FlatRR.none HT.out hu (by rw [flatW, if_neg (fun h => HC.out h.1)]) (by rw [flatL, if_neg HC.out])⟩
end Go.Proofs.YthkjdcmlalgphaaDoor
