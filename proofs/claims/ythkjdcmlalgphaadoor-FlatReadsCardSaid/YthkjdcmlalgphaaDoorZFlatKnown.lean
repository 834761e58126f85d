/-
  FlatKnown returns true.
-/
import Derived.Test.YthkjdcmlalgphaaDoorZFlatRRead
namespace Go.Proofs.YthkjdcmlalgphaaDoor
open Go.RowKit Go.Deep

def consT : Tm := conses [.num 1] .nil
theorem k5_flat : flatE (.num 5) [] = 0 ∧ flatL (.num 5) [] = [] ∧ flatW (.num 5) [] = [81] := by refine ⟨?_, ?_, ?_⟩ <;> kernel_rfl
theorem kc_flat : flatE consT [ta] = 0 ∧ flatL consT [ta] = [ta] ∧ flatW consT [ta] = [25, 17, 8] := by refine ⟨?_, ?_, ?_⟩ <;> kernel_rfl
theorem kr_3 : readE [ta] [23, 42, 2] = 4 := by kernel_rfl
theorem kr_4 : readE [ta] [25, 17, 8, 8] = 4 := by kernel_rfl
theorem kp_1 : partE [ta] pairW 1 = 0 ∧ partL [ta] pairW 1 = [ta] ∧ partW [ta] pairW 1 = [2] := by refine ⟨?_, ?_, ?_⟩ <;> kernel_rfl
theorem kp_3 : partE [ta] pairW 3 = 2 ∧ partL [ta] pairW 3 = [ta] := by refine ⟨?_, ?_⟩ <;> kernel_rfl
theorem four_rng : ∀ x ∈ [(25 : Int), 17, 8, 8], 0 ≤ x ∧ x < 18446744073709551616 := by
  intro x hx
  simp only [List.mem_cons, List.not_mem_nil, or_false] at hx
  omega
theorem lst1 {w : World} {S : Nat → Prop} {t : Tm} {nb : Nat} {h0 h1 h2 h3 : Value} {ty : TypeId} (hc : w.heap[nb]? = some (.cells #[h0, h1, h2, h3] ty (0, 0))) (hnb : S nb) (ht : Lies w S t (.agg #[h0, h1, h2, h3])) :
    Lst w S [t] (some ⟨nb, 0, none⟩) 1 :=
  ⟨Nat.le_refl _, by decide, Or.inr ⟨_, rfl, fun _ => ⟨hnb, rfl⟩, Row.of fun i hi => by
    obtain rfl : i = 0 := by simpa using hi
    exact ⟨h0, h1, h2, h3, by simp [World.cell?, hc], by simp [World.cell?, hc], by simp [World.cell?, hc], by simp [World.cell?, hc], ht⟩⟩⟩
theorem FS.flattenE {p bm : Nat} {w0 w : World} {v : Value} {L L' : List ByteArray} (h : FS p bm w0 w v L) (hW : WordTab w0) (hH : ShapeTab w0) {T : Tm} {tv : Value} (hT : Lies w (Safe w p bm v) T tv) (hsz : T.size ≤ 400000) {x : Int} {ws : List Int} (he : flatE T L = x) (hl : flatL T L = L') (hw : flatW T L = ws) :
    Calls Tryd.prog 12 #[.pointer (some ⟨p, 0, none⟩), tv] w fun e w' => ∃ (ra : Option Addr) (rcap : Nat) (v' : Value), e = .returned (.tuple #[.slice ra ws.length rcap, .int .i64 x]) ∧ FS p bm w0 w' v' L' ∧ Wx w' p bm v' (.slice ra ws.length rcap) ws ∧ Nx p bm w v w' v' := by
  subst he hl hw
  exact h.flatten hW hH hT hsz
theorem FS.partE_ {p bm : Nat} {w0 w : World} {v : Value} {L L' : List ByteArray} (h : FS p bm w0 w v L) (hW : WordTab w0) (hH : ShapeTab w0) {xs : List Int} {la : Option Addr} {lcap : Nat} (hx : Wrd w xs la lcap) (hl : xs.length ≤ 60000) (n : Int) (hn0 : -9223372036854775808 ≤ n) (hn1 : n ≤ 9223372036854775807) {x : Int} {ws : List Int} (he : partE L xs n = x) (hL : partL L xs n = L') (hw : partW L xs n = ws) :
    Calls Tryd.prog 21 #[.pointer (some ⟨p, 0, none⟩), .slice la xs.length lcap, .int .i64 n] w fun e w' => ∃ (ra : Option Addr) (rcap : Nat) (v' : Value), e = .returned (.tuple #[.slice ra ws.length rcap, .int .i64 x]) ∧ FS p bm w0 w' v' L' ∧ Wx w' p bm v' (.slice ra ws.length rcap) ws ∧ Nx p bm w v w' v' := by
  subst he hL hw
  exact h.part hW hH hx hl n hn0 hn1
/-- The term of pair, the variable it is in, and its words. -/
structure PK (p bm : Nat) (w : World) (v : Value) (b g : Nat) (a : Option Addr) : Prop where
  lies : Lies w (Safe w p bm v) pairT (.agg #[.int .i64 7, .int .i64 0, .string ⟨#[]⟩, .slice a 2 2])
  box : w.heap[b]? = some (.cells #[.int .i64 7, .int .i64 0, .string ⟨#[]⟩, .slice a 2 2] 25)
  row : w.heap[g]? = some (.cells pairC 62)
  sb : Safe w p bm v b
  sg : Safe w p bm v g
theorem PK.step {p bm : Nat} {w w' : World} {v v' : Value} {b g : Nat} {a : Option Addr} (h : PK p bm w v b g a) (n : Nx p bm w v w' v') : PK p bm w' v' b g a :=
  ⟨n.lies h.lies, n.heap h.sb h.box, n.heap h.sg h.row, n.safe h.sb, n.safe h.sg⟩
theorem PK.mk_ {p bm : Nat} {w1 w2 W3 : World} {v : Value} {L : List ByteArray} {g : Nat} {a : Option Addr} (hT : Tab w1 p bm v L) (hb2 : Below w1.heap.size w1 w2) (hb3 : Below w2.heap.size w2 W3)
    (hl : Lies w2 (fun b => w1.heap.size ≤ b) pairT (.agg #[.int .i64 7, .int .i64 0, .string ⟨#[]⟩, .slice a 2 2])) (hx : W3.heap[w2.heap.size]? = some (.cells #[.int .i64 7, .int .i64 0, .string ⟨#[]⟩, .slice a 2 2] 25))
    (hg : w2.heap[g]? = some (.cells pairC 62)) (hgz : w1.heap.size ≤ g) : PK p bm W3 v w2.heap.size g a :=
  ⟨hT.lies_new (hl.below hb3), hx, (hb3.block _ (Array.getElem?_eq_some_iff.1 hg).1).trans hg, hT.safe_new hb2.size (Array.getElem?_eq_some_iff.1 hx).1, hT.safe_new hgz (Nat.lt_of_lt_of_le (Array.getElem?_eq_some_iff.1 hg).1 hb3.size)⟩

set_option maxHeartbeats 8000000 in
set_option maxRecDepth 100000 in
theorem known7_any (w : World) (hW : WordTab w) (hH : ShapeTab w) : Calls Tryd.prog 6 #[] w fun e w' => e = .returned (.bool true) ∧ Below w.heap.size w w' := by
  have HWH := Hid.mk (show WordTab w ∧ ShapeTab w from ⟨hW, hH⟩)
  clear hW hH
  go_enter Tryd.func6, Tryd.ntmps6
  go_wp2_with (first
    | (go_at_call 14; have g0 := k17; refine (sameWords_any [2] [2] _ _ _ _ _ X25.out.cel C25.out (by decide)).mono ?_; rintro e w26 ⟨rfl, hb26⟩; rw [decide_eq_true (rfl : [(2 : Int)] = [2])]
       have F26 := Hid.mk (F25.out.up hb26); clear hb26; have k18 := True.intro)
    | (go_at_call 17; refine (awake7_any _ (HWH.out.1.below F23.out.below) (HWH.out.2.below F23.out.below)).mono ?_; rintro e w24 ⟨rfl, hb24⟩
       obtain ⟨W25, hW25⟩ : ∃ W25, w24.alloc (.cells #[.int .u64 2] 62) = W25 := ⟨_, rfl⟩
       have hb25 : Below w24.heap.size w24 W25 := (by rw [← hW25]; exact (Below.refl _ _).alloc (Nat.le_refl _) _)
       have hx25 : W25.heap[w24.heap.size]? = some (.cells #[.int .u64 2] 62) := (by rw [← hW25]; exact new_block _ _)
       have hu : Below w23.heap.size w23 W25 := (show Up w23 W25 from (show Up w23 w24 from hb24).call hb25).out
       have F25 := Hid.mk (F23.out.up hu); have X25 := Hid.mk (X23.out.up hu); have C25 := Hid.mk (cel_at (xs := [2]) hx25); clear hb24 hb25 hx25 hu; have k17 := True.intro)
    | (go_at_call 21; have g0 := k15; refine (F22.out.partE_ HWH.out.1 HWH.out.2 (xs := pairW) (wrd_at (xs := pairW) (n := 4) (cap := 4) P22.out.row pairW_rng (by decide) (by decide) (by decide)) (by decide) 3 (by omega) (by omega) kp_3.1 kp_3.2 rfl).mono ?_
       rintro e w23 ⟨oa, ocap, v23, rfl, f23, x23, n23⟩
       have F23 := Hid.mk f23; have X23 := Hid.mk (X22.out.step n23); clear f23 x23 n23; have k16 := True.intro)
    | (go_at_call 21; refine (F21.out.partE_ HWH.out.1 HWH.out.2 (xs := pairW) (wrd_at (xs := pairW) (n := 4) (cap := 4) P21.out.row pairW_rng (by decide) (by decide) (by decide)) (by decide) 1 (by omega) (by omega) kp_1.1 kp_1.2.1 kp_1.2.2).mono ?_
       rintro e w22 ⟨pa, pcap, v22, rfl, f22, x22, n22⟩
       have F22 := Hid.mk f22; have P22 := Hid.mk (P21.out.step n22); have X22 := Hid.mk x22; clear f22 x22 n22; have k15 := True.intro)
    | (go_at_call 19; have g0 := k13; refine (F19.out.read HWH.out.1 (xs := [25, 17, 8, 8]) (wrd_at (xs := [25, 17, 8, 8]) (n := 4) (cap := 4) H19.out four_rng (by decide) (by decide) (by decide)) (by decide)).mono ?_
       rintro e w20 ⟨k6', n6', s6', a6', m6', c6', rfl, f20, _, hb20⟩
       rw [kr_4]
       obtain ⟨W21, hW21⟩ : ∃ W21, w20.alloc (.cells #[.int .i64 k6', .int .i64 n6', .string s6', .slice a6' m6' c6'] 25) = W21 := ⟨_, rfl⟩
       have hb21 : Below w20.heap.size w20 W21 := (by rw [← hW21]; exact (Below.refl _ _).alloc (Nat.le_refl _) _)
       have hu : Below W19.heap.size W19 W21 := (show Up W19 W21 from (show Up W19 w20 from hb20).call hb21).out
       have F21 := Hid.mk (F19.out.up hu); have P21 := Hid.mk (P19.out.step (Nx.up hu)); clear f20 hb20 hb21 hu; have k14 := True.intro)
    | (go_at_call 19; refine (F16.out.read HWH.out.1 (xs := [23, 42, 2]) (wrd_at (xs := pairW) (n := 3) (cap := 4) P16.out.row pairW_rng (by decide) (by decide) (by decide)) (by decide)).mono ?_
       rintro e w17 ⟨k5', n5', s5', a5', m5', c5', rfl, f17, _, hb17⟩
       rw [kr_3]
       obtain ⟨W18, hW18⟩ : ∃ W18, w17.alloc (.cells #[.int .i64 k5', .int .i64 n5', .string s5', .slice a5' m5' c5'] 25) = W18 := ⟨_, rfl⟩
       have hb18 : Below w17.heap.size w17 W18 := (by rw [← hW18]; exact (Below.refl _ _).alloc (Nat.le_refl _) _)
       obtain ⟨W19, hW19⟩ : ∃ W19, W18.alloc (.cells #[.int .u64 25, .int .u64 17, .int .u64 8, .int .u64 8] 62) = W19 := ⟨_, rfl⟩
       have hb19 : Below W18.heap.size W18 W19 := (by rw [← hW19]; exact (Below.refl _ _).alloc (Nat.le_refl _) _)
       have hx19 : W19.heap[W18.heap.size]? = some (.cells #[.int .u64 25, .int .u64 17, .int .u64 8, .int .u64 8] 62) := (by rw [← hW19]; exact new_block _ _)
       have hu : Below w16.heap.size w16 W19 := (show Up w16 W19 from ((show Up w16 w17 from hb17).call hb18).call hb19).out
       have F19 := Hid.mk (F16.out.up hu); have P19 := Hid.mk (P16.out.step (Nx.up hu)); have H19 := Hid.mk hx19; clear f17 hb17 hb18 hb19 hx19 hu; have k13 := True.intro)
    | (go_at_call 14; have g0 := k11; refine (sameWords_any [25, 17, 8] [25, 17, 8] _ _ _ _ _ Z15.out.cel C15.out (by decide)).mono ?_; rintro e w16 ⟨rfl, hb16⟩; rw [decide_eq_true (rfl : [(25 : Int), 17, 8] = [25, 17, 8])]
       have F16 := Hid.mk (F15.out.up hb16); have P16 := Hid.mk (P15.out.step (Nx.up hb16)); clear hb16; have k12 := True.intro)
    | (go_at_call 14; have g0 := k10; refine (sameWords_any pairW pairW _ _ _ _ _ Y13.out.cel (cel_at (xs := pairW) P13.out.row) (by decide)).mono ?_; rintro e w14 ⟨rfl, hb14⟩; rw [decide_eq_true (rfl : pairW = pairW)]
       obtain ⟨W15, hW15⟩ : ∃ W15, w14.alloc (.cells #[.int .u64 25, .int .u64 17, .int .u64 8] 62) = W15 := ⟨_, rfl⟩
       have hb15 : Below w14.heap.size w14 W15 := (by rw [← hW15]; exact (Below.refl _ _).alloc (Nat.le_refl _) _)
       have hx15 : W15.heap[w14.heap.size]? = some (.cells #[.int .u64 25, .int .u64 17, .int .u64 8] 62) := (by rw [← hW15]; exact new_block _ _)
       have hu : Below w13.heap.size w13 W15 := (show Up w13 W15 from (show Up w13 w14 from hb14).call hb15).out
       have F15 := Hid.mk (F13.out.up hu); have P15 := Hid.mk (P13.out.step (Nx.up hu)); have Z15 := Hid.mk (Z13.out.up hu); have C15 := Hid.mk (cel_at (xs := [25, 17, 8]) hx15); clear hb14 hb15 hx15 hu; have k11 := True.intro)
    | (go_at_call 14; refine (sameWords_any [81] [81] _ _ _ _ _ X12.out.cel C12.out (by decide)).mono ?_; rintro e w13 ⟨rfl, hb13⟩; rw [decide_eq_true (rfl : [(81 : Int)] = [81])]
       have F13 := Hid.mk (F12.out.up hb13); have P13 := Hid.mk (P12.out.step (Nx.up hb13)); have Y13 := Hid.mk (Y12.out.up hb13); have Z13 := Hid.mk (Z12.out.up hb13); clear hb13; have k10 := True.intro)
    | (go_at_call 12; have g0 := k8; refine (F10.out.flattenE HWH.out.1 HWH.out.2 L10.out (by simp [consT, conses, Tm.num, Tm.nil, Tm.size_mk, sizes]) kc_flat.1 kc_flat.2.1 kc_flat.2.2).mono ?_
       rintro e w11 ⟨za, zcap, v11, rfl, f11, x11, n11⟩
       obtain ⟨W12, hW12⟩ : ∃ W12, w11.alloc (.cells #[.int .u64 81] 62) = W12 := ⟨_, rfl⟩
       have hb12 : Below w11.heap.size w11 W12 := (by rw [← hW12]; exact (Below.refl _ _).alloc (Nat.le_refl _) _)
       have hx12 : W12.heap[w11.heap.size]? = some (.cells #[.int .u64 81] 62) := (by rw [← hW12]; exact new_block _ _)
       have n12 := n11.then_ hb12
       have F12 := Hid.mk (f11.up hb12); have P12 := Hid.mk (P10.out.step n12); have X12 := Hid.mk (X10.out.step n12); have Y12 := Hid.mk (Y10.out.step n12); have Z12 := Hid.mk (x11.up hb12); have C12 := Hid.mk (cel_at (xs := [81]) hx12)
       clear f11 x11 n11 hb12 hx12 n12; have k9 := True.intro)
    | (go_at_call 28; refine (pairs_any [.num 1] (by simp) .nil (fun b => w7.heap.size ≤ b) _ _ _ _ (lst1 ((B9.out.block _ (Array.getElem?_eq_some_iff.1 H8.out).1).trans H8.out) (Nat.le_refl _) (num_is _ _ 1 (by omega) (by omega))) (nil_is _ _)).mono ?_
       rintro e w10 ⟨⟨cv, rfl, hL⟩, hb10⟩
       obtain ⟨ck, cn, cs, ca, cm, cc, rfl⟩ := hL.agg
       have hu : Below w6.heap.size w6 w10 := (show Up w6 w10 from ((show Up w6 w7 from B7.out).call B8.out).call B9.out |>.call hb10).out
       have h79 : w7.heap.size ≤ w9.heap.size := Nat.le_trans B8.out.size B9.out.size
       have hL6 : Lies w10 (fun b => w6.heap.size ≤ b) consT (.agg #[.int .i64 ck, .int .i64 cn, .string cs, .slice ca cm cc]) := hL.move (fun b hb => by have := B7.out.size; omega) (fun _ _ _ _ h => h) _ _
       have F10 := Hid.mk (F6.out.up hu); have P10 := Hid.mk (P6.out.step (Nx.up hu)); have X10 := Hid.mk (X6.out.up hu); have Y10 := Hid.mk (Y6.out.up hu); have L10 := Hid.mk (F6.out.tab.lies_new hL6)
       clear hL hb10 hu hL6 h79; have k8 := True.intro)
    | (go_at_call 29; refine (none_any _).mono ?_; rintro e w9 ⟨rfl, hb9⟩; have B9 := Hid.mk hb9; clear hb9; have k7 := True.intro)
    | (go_at_call 27; have g0 := k5; refine (num_any _ _).mono ?_; rintro e w7 ⟨rfl, hb7⟩
       obtain ⟨W8, hW8⟩ : ∃ W8, w7.alloc (.cells #[.int .i64 1, .int .i64 1, .string ⟨#[]⟩, .slice none 0 0] 25) = W8 := ⟨_, rfl⟩
       have hb8 : Below w7.heap.size w7 W8 := (by rw [← hW8]; exact (Below.refl _ _).alloc (Nat.le_refl _) _)
       have hx8 : W8.heap[w7.heap.size]? = some (.cells #[.int .i64 1, .int .i64 1, .string ⟨#[]⟩, .slice none 0 0] 25) := (by rw [← hW8]; exact new_block _ _)
       have N8 := Hid.mk (show Nx (w.heap.size + 1) w.heap.size w6 v6 W8 v6 from (Nx.up hb7).then_ hb8)
       have B7 := Hid.mk hb7; have B8 := Hid.mk hb8; have H8 := Hid.mk hx8; clear hb7 hb8 hx8; have k6 := True.intro)
    | (go_at_call 12; have g0 := k4; refine (F5.out.flattenE HWH.out.1 HWH.out.2 P5.out.lies pairT_size pair_flatE pair_flatL pair_flatW).mono ?_
       rintro e w6 ⟨sa, scap, v6, rfl, f6, x6, n6⟩
       have F6 := Hid.mk f6; have P6 := Hid.mk (P5.out.step n6); have X6 := Hid.mk (X5.out.step n6); have Y6 := Hid.mk x6
       clear f6 x6 n6 q0 q1 q2 q3; have k5 := True.intro)
    | (go_at_call 12; refine (F4.out.flattenE HWH.out.1 HWH.out.2 (num_is _ _ 5 (by omega) (by omega)) (by simp [Tm.num, Tm.size_mk, sizes]) k5_flat.1 k5_flat.2.1 k5_flat.2.2).mono ?_
       rintro e w5 ⟨ra, rcap, v5, rfl, f5, x5, n5⟩
       have F5 := Hid.mk f5; have P5 := Hid.mk (P4.out.step n5); have X5 := Hid.mk x5
       obtain ⟨⟨q0, q1, q2, q3⟩, _⟩ := kept4 P5.out.box (Below.refl _ _)
       clear f5 x5 n5; have k4 := True.intro)
    | (go_at_call 27; refine (num_any _ _).mono ?_; rintro e w4 ⟨rfl, hb4⟩
       have F4 := Hid.mk (F3.out.up hb4); have P4 := Hid.mk (P3.out.step (Nx.up hb4)); clear hb4; have k3 := True.intro)
    | (go_at_call 26; refine (pair_any _).mono ?_; rintro e w2 ⟨a, g, rfl, hb2, hl2, hg2, hgz⟩
       obtain ⟨W3, hW3⟩ : ∃ W3, w2.alloc (.cells #[.int .i64 7, .int .i64 0, .string ⟨#[]⟩, .slice a 2 2] 25) = W3 := ⟨_, rfl⟩
       have hb3 : Below w2.heap.size w2 W3 := (by rw [← hW3]; exact (Below.refl _ _).alloc (Nat.le_refl _) _)
       have hx3 : W3.heap[w2.heap.size]? = some (.cells #[.int .i64 7, .int .i64 0, .string ⟨#[]⟩, .slice a 2 2] 25) := (by rw [← hW3]; exact new_block _ _)
       have hu3 : Up w1 W3 := (show Up w1 w2 from hb2).call hb3
       have F3 := Hid.mk (F1.out.up hu3.out)
       have P3 := Hid.mk (PK.mk_ F1.out.tab hb2 hb3 hl2 hx3 hg2 hgz)
       clear hb2 hl2 hg2 hgz hb3 hx3 hu3; have k2 := True.intro)
    | (go_at_call 25; refine (new_any _).mono ?_; rintro e w1 ⟨rfl, hT1, hb1⟩
       have F1 := Hid.mk (show FS (w.heap.size + 1) w.heap.size w w1 (.slice none 0 0) [] from ⟨hT1, mine_new w, hb1, Nub.nil⟩)
       clear hT1 hb1; have k1 := True.intro))
  go_ret
  exact ⟨rfl, F26.out.below⟩
end Go.Proofs.YthkjdcmlalgphaaDoor
