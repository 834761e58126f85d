/-
  Flatten: a term's words.
-/
import Derived.Test.YthkjdcmlalgphaaDoorZFlatLay
import Derived.Test.YthkjdcmlalgphaaDoorZTermMore
namespace Go.Proofs.YthkjdcmlalgphaaDoor
open Go.RowKit Go.Deep

/-- How Flatten goes; what the table has then; the words. -/
def flatE (T : Tm) (L : List ByteArray) : Int := if T.check = 0 then layErr (T.nums L).1 else T.check
def flatL (T : Tm) (L : List ByteArray) : List ByteArray := if T.check = 0 then (T.nums L).2 else L
def flatW (T : Tm) (L : List ByteArray) : List Int := if T.check = 0 ∧ (T.nums L).1 = true then T.flat (T.nums L).2 else []
theorem check_zero {T : Tm} (h : T.check = 0) : T.fits = true ∧ T.wordsR ≤ 65536 := by
  rw [Tm.check, fits_pre] at h
  by_cases hf : T.fits = true
  · rw [if_pos hf, longE, words_pre] at h
    refine ⟨hf, ?_⟩
    split at h
    · cases h
    · omega
  · rw [if_neg hf] at h
    cases h
theorem zero_row (w : World) (_ : TypeId) (c : Nat) (hc : 1 ≤ c) (hm : c ≤ maxLen) : Wds (w.alloc (.cells (madeCells (Value.int .u64 0).cells c) 62)) (.slice (some ⟨w.heap.size, 0, none⟩) 1 c) [0] := by
  refine ⟨rfl, Or.inr ⟨w.heap.size, c, _, rfl, Nat.zero_le _, new_block _ _, hc, hm, by simp [size_madeCells], ?_⟩⟩
  rw [show (Value.int .u64 0).cells = #[.int .u64 0] from rfl, toList_madeCells_one]
  obtain ⟨d, rfl⟩ : ∃ d, c = d + 1 := ⟨c - 1, by omega⟩
  rfl
/-- What Flatten leaves. -/
structure FlatR (w : World) (p bm : Nat) (v : Value) (T : Tm) (L : List ByteArray) (rv v' : Value) (w' : World) : Prop where
  row : Wds w' rv (flatW T L)
  own : ∀ g, rv.ownBlock = some g → (Mine p bm v g ∨ w.heap.size ≤ g) ∧ ¬ Mine p bm v' g
  tab : Tab w' p bm v' (flatL T L)
  only : Only (Mine p bm v) w w'
  mine : ∀ k, Mine p bm v' k → Mine p bm v k ∨ w.heap.size ≤ k
theorem FlatR.none {w w' : World} {p bm : Nat} {v : Value} {T : Tm} {L : List ByteArray} (hT : Tab w p bm v L) (hb : Below w.heap.size w w') (hc : flatW T L = []) (hL : flatL T L = L) : FlatR w p bm v T L (.slice none 0 0) v w' :=
  ⟨by rw [hc]; exact World.ownsRow_nil _ _ _ _, fun g hg => (by cases hg), by rw [hL]; exact hT.up hb, Only.up hb, fun k hk => Or.inl hk⟩

set_option maxHeartbeats 4000000 in
set_option maxRecDepth 100000 in
theorem flatten_any (T : Tm) (S : Nat → Prop) (tv : Value) (w : World) (p bm : Nat) (v : Value) (L : List ByteArray) (h : Tab w p bm v L) (hT : Lies w S T tv) (hS : ∀ b, S b → ¬ Mine p bm v b) (hsz : T.size ≤ 400000)
    (hW : WordTab w) (hH : ShapeTab w) (nW : ¬ Mine p bm v 1) :
    Calls Tryd.prog 12 #[.pointer (some ⟨p, 0, none⟩), tv] w fun e w' => ∃ rv v', e = .returned (.tuple #[rv, .int .i64 (flatE T L)]) ∧ FlatR w p bm v T L rv v' w' := by
  obtain ⟨k, n, s, l⟩ := T
  obtain ⟨a, cap, rfl, hsm, hl⟩ := hT.out
  generalize hTT : Tm.mk k n s l = T at *
  obtain ⟨W0, hW0⟩ : ∃ W0, (w.alloc (.cells #[.pointer (some ⟨p, 0, none⟩)] 28)).alloc (.cells #[.int .i64 k, .int .i64 n, .string s, .slice a l.length cap] 25) = W0 := ⟨_, rfl⟩
  have hb0 : Below w.heap.size w W0 := by rw [← hW0]; exact ((Below.refl _ _).alloc (Nat.le_refl _) _).alloc (by simp) _
  have hz0 : W0.heap.size = w.heap.size + 1 + 1 := by rw [← hW0]; simp
  have hbx0 : W0.heap[w.heap.size]? = some (.cells #[.pointer (some ⟨p, 0, none⟩)] 28) := by rw [← hW0]; exact new_block1 _ _ _
  have hbx1 : W0.heap[w.heap.size + 1]? = some (.cells #[.int .i64 k, .int .i64 n, .string s, .slice a l.length cap] 25) := by rw [← hW0]; exact new_block2 _ _ _
  have ca : W0.cell? ⟨w.heap.size, 0, none⟩ = some (.pointer (some ⟨p, 0, none⟩)) := by simp [World.cell?, hbx0]
  obtain ⟨⟨t0, t1, t2, t3⟩, _⟩ := kept4 hbx1 (Below.refl _ _)
  have h0 := Hid.mk (h.up hb0)
  have hT0 := hT.below hb0
  have hmade := Hid.mk (madeF_yes p bm v L W0 h0.out)
  have hchk := Hid.mk (fun w1 (hb : Below W0.heap.size W0 w1) => checkI_any T (by omega) S _ w1 (hT0.below hb) ((hH.below hb0).below hb))
  have hwds := Hid.mk (fun w1 (hb : Below W0.heap.size W0 w1) => wordsI_any T (by omega) S _ w1 (hT0.below hb) ((hH.below hb0).below hb))
  have HB0 := Hid.mk hb0
  have HT := Hid.mk h
  have HL := Hid.mk hT
  have HS := Hid.mk hS
  have HWT := Hid.mk hW
  have HNW := Hid.mk nW
  have HX0 := Hid.mk hbx0
  have HX1 := Hid.mk hbx1
  have HZ0 := Hid.mk hz0
  clear hT0 hb0 hT h hS hW nW hH hbx0 hbx1 hz0 hl hsm hsz
  by_cases hc : T.check = 0
  · obtain ⟨hf, hwr⟩ := check_zero hc
    have hwp : 1 ≤ T.wordsR := by have := laid_length [] T hf 0; omega
    obtain ⟨c, hcw⟩ : ∃ c : Nat, T.words = c := ⟨T.words.toNat, by rw [words_pre]; omega⟩
    have hcb : 1 ≤ c ∧ c ≤ 65536 := by rw [words_pre] at hcw; omega
    have hmk : ∀ w', (Instr.makeSlice 33 (.int .i64 1) (.int .i64 c)).run Tryd.prog w' = .ok (.slice (some ⟨w'.heap.size, 0, none⟩) 1 c) (w'.alloc (.cells (madeCells (Value.int .u64 0).cells c) 62)) := fun w' => by
      have hi := wordInfo
      cases hq : Tryd.prog.info? 62 with
      | none => rw [hq] at hi; cases hi
      | some i =>
        rw [hq] at hi
        simp only [Option.map_some, Option.some.injEq, Prod.mk.injEq] at hi
        obtain ⟨hz, hs, hb⟩ := hi
        have := run_make (P := Tryd.prog) w' 33 62 i _ Tryd.underlying33 hq hz .i64 .i64 1 c (by omega) (by omega) (by rw [hb]; omega) (by omega)
        rw [hs, Nat.mul_one] at this
        exact this
    have hwds2 := hwds.out
    have hchk2 := hchk.out
    rw [hcw] at hwds2
    rw [hc] at hchk2
    have hwds := Hid.mk hwds2
    have hchk := Hid.mk hchk2
    have HC := Hid.mk hc
    have HF := Hid.mk hf
    have HCB := Hid.mk hcb
    have HWR := Hid.mk hwr
    clear hwds2 hchk2 hc hf hwr hwp hcb hcw
    go_enter Tryd.func12, Tryd.ntmps12
    go_upto_region 1 with fail
    try rw [hW0]
    clear hW0
    go_upto_region 9 with (first
      | (go_at_call 38; refine hmade.out.mono ?_; rintro e w1 ⟨rfl, hb1⟩; have c1 := cell_below hb1 _ _ _ ca; have d0 := cell_below hb1 _ _ _ t0; have d1 := cell_below hb1 _ _ _ t1; have d2 := cell_below hb1 _ _ _ t2; have d3 := cell_below hb1 _ _ _ t3; have hu1 : Up W0 w1 := hb1)
      | (go_at_call 39; refine (hchk.out _ hu1.out).mono ?_; rintro e w2 ⟨rfl, hb2⟩; have hu2 := hu1.call hb2; have e0 := cell_below hu2.out _ _ _ t0; have e1 := cell_below hu2.out _ _ _ t1; have e2 := cell_below hu2.out _ _ _ t2; have e3 := cell_below hu2.out _ _ _ t3)
      | (go_at_call 31; refine (hwds.out _ hu2.out).mono ?_; rintro e w3 ⟨rfl, hb3⟩; have hu3 := hu2.call hb3; have f0 := cell_below hu3.out _ _ _ t0; have f1 := cell_below hu3.out _ _ _ t1; have f2 := cell_below hu3.out _ _ _ t2; have f3 := cell_below hu3.out _ _ _ t3))
    obtain ⟨W4, hW4⟩ : ∃ W4, ((w3.alloc (.cells (madeCells #[Value.int .u64 0] c) 62)).alloc (.cells #[.slice (some ⟨w3.heap.size, 0, none⟩) 1 c] 33)).alloc
        (.cells #[.func (.func 40) #[] #[.pointer (some ⟨w.heap.size, 0, none⟩), .pointer (some ⟨w3.heap.size + 1, 0, none⟩), .pointer (some ⟨w3.heap.size + 1 + 1, 0, none⟩)]] 75) = W4 := ⟨_, rfl⟩
    have h34 : Below w3.heap.size w3 W4 := by rw [← hW4]; exact (((Below.refl _ _).alloc (Nat.le_refl _) _).alloc (by simp) _).alloc (by simp; omega) _
    have hz4 : W4.heap.size = w3.heap.size + 1 + 1 + 1 := by rw [← hW4]; simp
    have hrow : Wds W4 (.slice (some ⟨w3.heap.size, 0, none⟩) 1 c) [0] := by
      have := zero_row w3 62 c HCB.out.1 (by have := HCB.out.2; unfold maxLen; omega)
      rw [← hW4]
      exact (this.up ((Below.refl _ _).alloc (Nat.le_refl _) _)).up ((Below.refl _ _).alloc (Nat.le_refl _) _)
    have hlb : W4.heap[w3.heap.size + 1]? = some (.cells #[.slice (some ⟨w3.heap.size, 0, none⟩) 1 c] 33) := by
      rw [← hW4, Below.heap_alloc _ _ _ (by simp)]
      exact new_block2 _ _ _
    have hfb : W4.heap[w3.heap.size + 1 + 1]? = some (.cells #[.func (.func 40) #[] #[.pointer (some ⟨w.heap.size, 0, none⟩), .pointer (some ⟨w3.heap.size + 1, 0, none⟩), .pointer (some ⟨w3.heap.size + 1 + 1, 0, none⟩)]] 75) := by
      rw [← hW4]
      have := new_block ((w3.alloc (.cells (madeCells #[Value.int .u64 0] c) 62)).alloc (.cells #[.slice (some ⟨w3.heap.size, 0, none⟩) 1 c] 33)) (.cells #[.func (.func 40) #[] #[.pointer (some ⟨w.heap.size, 0, none⟩), .pointer (some ⟨w3.heap.size + 1, 0, none⟩), .pointer (some ⟨w3.heap.size + 1 + 1, 0, none⟩)]] 75)
      simpa using this
    rw [hW4]
    have cfb : W4.cell? ⟨w3.heap.size + 1 + 1, 0, none⟩ = some (.func (.func 40) #[] #[.pointer (some ⟨w.heap.size, 0, none⟩), .pointer (some ⟨w3.heap.size + 1, 0, none⟩), .pointer (some ⟨w3.heap.size + 1 + 1, 0, none⟩)]) := by simp [World.cell?, hfb]
    have hu4 := hu3.call h34
    have cab := cell_below hu4.out _ _ _ ca
    have g0 := cell_below hu4.out _ _ _ t0
    have g1 := cell_below hu4.out _ _ _ t1
    have g2 := cell_below hu4.out _ _ _ t2
    have g3 := cell_below hu4.out _ _ _ t3
    have hz3 := hu3.out.size
    have hz0 := HZ0.out
    have hMlt : ∀ k, Mine p bm v k → k < w.heap.size := fun k hk => HT.out.lt hk
    have hLay : Lay (Turns p bm (w3.heap.size + 1) v (.slice (some ⟨w3.heap.size, 0, none⟩) 1 c)) W4 W4 p bm (w3.heap.size + 1) L v (.slice (some ⟨w3.heap.size, 0, none⟩) 1 c) [0] :=
      ⟨h0.out.up hu4.out, hlb, hrow, fun hk => by have := hMlt _ hk; omega, fun g hg => by
        obtain rfl : w3.heap.size = g := by simpa [Value.ownBlock] using hg
        exact ⟨by omega, fun hk => by have := hMlt _ hk; omega⟩, Only.refl _ _, fun k hk => Or.inl hk⟩
    have hnT : ∀ b, b ≠ w3.heap.size + 1 → b ≠ w3.heap.size → ¬ Mine p bm v b → ¬ Turns p bm (w3.heap.size + 1) v (.slice (some ⟨w3.heap.size, 0, none⟩) 1 c) b := fun b h1 h2 h3 hk => by
      rcases hk with hk | hk | hk
      · exact h3 hk
      · exact h1 hk
      · cases hk; exact h2 rfl
    have hLayC : LayC (Turns p bm (w3.heap.size + 1) v (.slice (some ⟨w3.heap.size, 0, none⟩) 1 c)) W4 p (w3.heap.size + 1 + 1) w.heap.size (w3.heap.size + 1) :=
      ⟨cfb, cab, (HWT.out.below HB0.out).below hu4.out, hnT _ (by omega) (by omega) (fun hk => by have := hMlt _ hk; omega), hnT _ (by omega) (by omega) (fun hk => by have := hMlt _ hk; omega),
        hnT _ (by have := HWT.out.size; omega) (by have := HWT.out.size; omega) HNW.out⟩
    have hTv := (HL.out.inside.below HB0.out).below hu4.out
    have hSS : ∀ b, (S b ∧ b < w.heap.size) → b < W4.heap.size ∧ ¬ Turns p bm (w3.heap.size + 1) v (.slice (some ⟨w3.heap.size, 0, none⟩) 1 c) b := fun b hb => ⟨by omega, hnT _ (by omega) (by omega) (HS.out b hb.1)⟩
    have hlay := lay_any T HF.out _ _ W4 p bm (w3.heap.size + 1) (w3.heap.size + 1 + 1) w.heap.size _ hLayC hSS hTv W4 L v _ [0] 0 hLay (by decide) (by have := HWR.out; simp only [List.length_singleton]; omega)
    have HLay := Hid.mk hlay
    have HNT := Hid.mk hnT
    have HML := Hid.mk hMlt
    have H34 := Hid.mk h34
    have HU4 := Hid.mk hu4
    clear hlay hLayC hLay hTv hSS hnT hMlt hrow hlb hfb hW4 hz4 hz0 h34 hu4 c1 d0 d1 d2 d3 hu1 e0 e1 e2 e3 hu2 f0 f1 f2 f3 hz3 hb1 hb2 hb3
    have hout : ∀ (w5 : World) (v5 rv5 : Value) (xs5 : List Int), Lay (Turns p bm (w3.heap.size + 1) v (.slice (some ⟨w3.heap.size, 0, none⟩) 1 c)) W4 w5 p bm (w3.heap.size + 1) (T.nums L).2 v5 rv5 xs5 → Only (Mine p bm v) w w5 ∧ (∀ k, Turns p bm (w3.heap.size + 1) v5 rv5 k → Mine p bm v k ∨ w.heap.size ≤ k) := fun w5 v5 rv5 xs5 h5 => by
      have hz3 := hu3.out.size
      have hz0 := HZ0.out
      have hT : ∀ k, Turns p bm (w3.heap.size + 1) v (.slice (some ⟨w3.heap.size, 0, none⟩) 1 c) k → Mine p bm v k ∨ w.heap.size ≤ k := fun k hk => by
        rcases hk with hk | hk | hk
        · exact Or.inl hk
        · exact Or.inr (by omega)
        · obtain rfl : w3.heap.size = k := by simpa [Value.ownBlock] using hk
          exact Or.inr (by omega)
      refine ⟨(Only.up (HB0.out.trans (HU4.out.out.mono HB0.out.size))).trans h5.only hT, fun k hk => ?_⟩
      rcases h5.mine k hk with hk | hk
      · exact hT k hk
      · exact Or.inr (by have := HU4.out.out.size; omega)
    have HOut := Hid.mk hout
    clear hout
    cases hb : (T.nums L).1 with
    | true =>
      have hl := HLay.out
      rw [hb, show layErr true = 0 from rfl] at hl
      have HLay := Hid.mk hl
      have HB := Hid.mk hb
      clear hl hb
      go_wp2_with (first
        | (go_at_call 40; refine HLay.out.mono ?_; rintro e w5 ⟨v5, rv5, xs5, rfl, h5, hx5⟩; have c5 := h5.cell.1; have H5 := Hid.mk h5; clear h5))
      go_ret2
      obtain ⟨o1, o2⟩ := HOut.out _ _ _ _ H5.out
      refine ⟨rv5, v5, by rw [flatE, if_pos HC.out, HB.out]; rfl, ⟨?_, fun g hg => ⟨o2 g (Or.inr (Or.inr hg)), (H5.out.nr g hg).2⟩, by rw [flatL, if_pos HC.out]; exact H5.out.tab, o1, fun k hk => o2 k (Or.inl hk)⟩⟩
      have hx := hx5 trivial _ (Ext.refl _)
      rw [flatW, if_pos ⟨HC.out, HB.out⟩, Tm.flat]
      have hr := H5.out.row
      rw [hx] at hr
      exact hr
    | false =>
      have hl := HLay.out
      rw [hb, show layErr false = 8 from rfl] at hl
      have HLay := Hid.mk hl
      have HB := Hid.mk hb
      clear hl hb
      go_wp2_with (first
        | (go_at_call 40; refine HLay.out.mono ?_; rintro e w5 ⟨v5, rv5, xs5, rfl, h5, hx5⟩; have c5 := h5.cell.1; have H5 := Hid.mk h5; clear h5))
      go_ret2
      obtain ⟨o1, o2⟩ := HOut.out _ _ _ _ H5.out
      exact ⟨.slice none 0 0, v5, by rw [flatE, if_pos HC.out, HB.out]; rfl, ⟨by rw [flatW, if_neg (fun h => by rw [HB.out] at h; cases h.2)]; exact World.ownsRow_nil _ _ _ _, fun g hg => (by cases hg), by rw [flatL, if_pos HC.out]; exact H5.out.tab, o1, fun k hk => o2 k (Or.inl hk)⟩⟩
  · go_enter Tryd.func12, Tryd.ntmps12
    have hd : (T.check == 0) = false := by simpa using hc
    go_upto_region 1 with fail
    try rw [hW0]
    clear hW0
    have HC := Hid.mk hc
    clear hc
    go_wp2_with (first
      | (go_at_call 38; refine hmade.out.mono ?_; rintro e w1 ⟨rfl, hb1⟩; have c1 := cell_below hb1 _ _ _ ca; have d0 := cell_below hb1 _ _ _ t0; have d1 := cell_below hb1 _ _ _ t1; have d2 := cell_below hb1 _ _ _ t2; have d3 := cell_below hb1 _ _ _ t3; have hu1 : Up W0 w1 := hb1)
      | (go_at_call 39; refine (hchk.out _ hu1.out).mono ?_; rintro e w2 ⟨rfl, hb2⟩; have hu2 := hu1.call hb2))
    go_ret2
    have hu : Below w.heap.size w w2 := HB0.out.trans (hu2.out.mono HB0.out.size)
    exact ⟨.slice none 0 0, v, by rw [flatE, if_neg HC.out]; rfl, FlatR.none HT.out hu (by rw [flatW, if_neg (fun h => HC.out h.1)]) (by rw [flatL, if_neg HC.out])⟩
end Go.Proofs.YthkjdcmlalgphaaDoor
