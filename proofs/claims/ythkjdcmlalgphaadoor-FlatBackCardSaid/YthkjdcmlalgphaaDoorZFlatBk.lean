/-
  The parts of a tuple's words.
-/
import Derived.Test.YthkjdcmlalgphaaDoorZFlatKit
import Derived.Test.YthkjdcmlalgphaaDoorZFlatKnown
import Derived.Test.YthkjdcmlalgphaaDoorZTermSameP
import Derived.Test.YthkjdcmlalgphaaDoorZFlatLw
namespace Go.Proofs.YthkjdcmlalgphaaDoor
open Go.RowKit Go.Deep

theorem sameP_yes (T : Tm) (hsz : T.size ≤ 1000000) {S S' : Nat → Prop} {v u : Value} {w : World} (hv : Lies w S T v) (hu : Lies w S' T u) :
    Calls Tryd.prog 30 #[v, u] w fun e w' => e = .returned (.bool true) ∧ Below w.heap.size w w' := by
  have h := sameP_any T T hsz S S' v u w hv hu
  rwa [eqB_refl] at h
theorem fitB_few {k n : Int} {s len : Nat} (h : fitB k n s len = true) : len ≤ 64 := by
  rw [fitB, decide_eq_true_eq] at h
  omega
theorem FS.readE_ {p bm : Nat} {w0 w : World} {v : Value} {L : List ByteArray} (h : FS p bm w0 w v L) (hW : WordTab w0) {xs : List Int} {la : Option Addr} {lcap : Nat} (hx : Wrd w xs la lcap) (hl : xs.length ≤ 60000) {T : Tm} (hr : readR L xs = some T) :
    Calls Tryd.prog 19 #[.pointer (some ⟨p, 0, none⟩), .slice la xs.length lcap] w fun e w' => ∃ (k' n' : Int) (s' : ByteArray) (a' : Option Addr) (m' c' : Nat), e = .returned (.tuple #[.agg #[.int .i64 k', .int .i64 n', .string s', .slice a' m' c'], .int .i64 0]) ∧
      FS p bm w0 w' v L ∧ Lies w' (Safe w' p bm v) T (.agg #[.int .i64 k', .int .i64 n', .string s', .slice a' m' c']) ∧ Below w.heap.size w w' := by
  have h1 := h.read hW hx hl
  rw [show readE L xs = 0 by rw [readE, hr]; rfl, show readT L xs = T by rw [readT, hr]; rfl] at h1
  exact h1
theorem wordsR_pos (T : Tm) (h : T.fits = true) : 1 ≤ T.wordsR := by
  have := laid_length [] T h 0
  omega
theorem wordsRs_mem : ∀ {l : List Tm}, fitss l = true → ∀ t ∈ l, t.wordsR ≤ wordsRs l
  | [], _, t, ht => by cases ht
  | x :: r, h, t, ht => by
    rw [fitss, Bool.and_eq_true] at h
    rw [wordsRs]
    have h0 : 0 ≤ wordsRs r := by
      clear ht
      have hr := h.2
      clear h
      induction r with
      | nil => rw [wordsRs]; exact Int.le_refl _
      | cons y r ih =>
        rw [fitss, Bool.and_eq_true] at hr
        rw [wordsRs]
        have := wordsR_pos y hr.1
        have := ih hr.2
        omega
    rcases List.mem_cons.1 ht with rfl | ht
    · omega
    · have := wordsRs_mem h.2 t ht
      have := wordsR_pos x h.1
      omega
/-- A term that has words in a table: it may be, its atoms have numbers, and it is not too long. -/
structure Wr (F : List ByteArray) (T : Tm) : Prop where
  fits : T.fits = true
  known : T.known F
  words : T.wordsR ≤ 65536
theorem Wr.check {F : List ByteArray} {T : Tm} (h : Wr F T) : T.check = 0 := by
  rw [Tm.check, fits_pre, words_pre, longE, if_pos h.fits, if_neg (by have := h.words; omega)]
theorem Wr.flatE {F : List ByteArray} {T : Tm} (h : Wr F T) : flatE T F = 0 := by
  rw [Go.Proofs.YthkjdcmlalgphaaDoor.flatE, if_pos h.check, known_nums F T h.fits h.known]; rfl
theorem Wr.flatL {F : List ByteArray} {T : Tm} (h : Wr F T) : flatL T F = F := by
  rw [Go.Proofs.YthkjdcmlalgphaaDoor.flatL, if_pos h.check, known_nums F T h.fits h.known]
theorem Wr.flatW {F : List ByteArray} {T : Tm} (h : Wr F T) : flatW T F = T.flat F := by
  rw [Go.Proofs.YthkjdcmlalgphaaDoor.flatW, if_pos ⟨h.check, by rw [known_nums F T h.fits h.known]⟩, known_nums F T h.fits h.known]
theorem Wr.length {F : List ByteArray} {T : Tm} (h : Wr F T) : ((T.flat F).length : Int) = T.wordsR := flat_length F h.fits
theorem Wr.readR {F : List ByteArray} {T : Tm} (h : Wr F T) (hF : F.length ≤ 4096) : readR F (T.flat F) = some T :=
  read_back F hF h.fits h.known (by have := h.length; have := h.words; omega)
theorem Wr.rng {F : List ByteArray} {T : Tm} (h : Wr F T) : ∀ x ∈ T.flat F, 0 ≤ x ∧ x < 18446744073709551616 := by
  have := flatW_rng T F
  rwa [h.flatW] at this
theorem Wr.part {F : List ByteArray} {k n : Int} {s : ByteArray} {l : List Tm} (h : Wr F (.mk k n s l)) (i : Nat) (hi : i < l.length) : Wr F l[i] := by
  have hf := h.fits
  rw [fits_mk, Bool.and_eq_true] at hf
  have hm := List.getElem_mem hi
  refine ⟨fitss_all hf.2 _ hm, knowns_all ((known_mk F k n s l).1 h.known).2 _ hm, ?_⟩
  have hw := h.words
  rw [wordsR_mk] at hw
  have hL : hasL k = true := by
    cases hh : hasL k with
    | true => rfl
    | false => have := fit_noL hf.1 hh; omega
  rw [if_pos hL] at hw
  have := wordsRs_mem hf.2 _ hm
  have := ownW_range k
  omega
theorem wordsR_part {F : List ByteArray} {k n : Int} {s : ByteArray} {l : List Tm} (h : Wr F (.mk k n s l)) (i : Nat) (hi : i < l.length) : l[i].wordsR ≤ (Tm.mk k n s l).wordsR := by
  have hf := h.fits
  rw [fits_mk, Bool.and_eq_true] at hf
  have hL : hasL k = true := by
    cases hh : hasL k with
    | true => rfl
    | false => have := fit_noL hf.1 hh; omega
  rw [wordsR_mk, if_pos hL]
  have := wordsRs_mem hf.2 _ (List.getElem_mem hi)
  have := ownW_range k
  omega
theorem Wr.of_flat {T : Tm} {L : List ByteArray} (h : Go.Proofs.YthkjdcmlalgphaaDoor.flatE T L = 0) : Wr (Go.Proofs.YthkjdcmlalgphaaDoor.flatL T L) T ∧ Go.Proofs.YthkjdcmlalgphaaDoor.flatW T L = T.flat (Go.Proofs.YthkjdcmlalgphaaDoor.flatL T L) := by
  rw [Go.Proofs.YthkjdcmlalgphaaDoor.flatE] at h
  by_cases hc : T.check = 0
  · rw [if_pos hc] at h
    have hn : (T.nums L).1 = true := by
      cases hb : (T.nums L).1 with
      | true => rfl
      | false => rw [hb] at h; cases h
    rw [Go.Proofs.YthkjdcmlalgphaaDoor.flatL, if_pos hc, Go.Proofs.YthkjdcmlalgphaaDoor.flatW, if_pos ⟨hc, hn⟩]
    obtain ⟨hf, hw⟩ := check_zero hc
    exact ⟨⟨hf, nums_known T hf L _ hn (Ext.refl _), hw⟩, rfl⟩
  · rw [if_neg hc] at h
    exact absurd h hc
theorem Wr.of_read {F : List ByteArray} {xs : List Int} {T : Tm} (hG : Good F) (hN : Nub F) (hxs : ∀ x ∈ xs, 0 ≤ x ∧ x < 18446744073709551616) (hl : xs.length ≤ 65536) (h : Go.Proofs.YthkjdcmlalgphaaDoor.readR F xs = some T) : Wr F T ∧ T.flat F = xs := by
  obtain ⟨h1, h2, h3⟩ := read_write F xs hG hN hxs h
  refine ⟨⟨h1, h2, ?_⟩, h3⟩
  have := flat_length F h1
  rw [h3] at this
  omega
theorem Wr.partE {F : List ByteArray} {n : Int} {s : ByteArray} {l : List Tm} (h : Wr F (.mk 7 n s l)) (hF : F.length ≤ 4096) (i : Nat) (hi : i < l.length) :
    Go.Proofs.YthkjdcmlalgphaaDoor.partE F ((Tm.mk 7 n s l).flat F) ((i + 1 : Nat) : Int) = 0 ∧ Go.Proofs.YthkjdcmlalgphaaDoor.partL F ((Tm.mk 7 n s l).flat F) ((i + 1 : Nat) : Int) = F ∧ Go.Proofs.YthkjdcmlalgphaaDoor.partW F ((Tm.mk 7 n s l).flat F) ((i + 1 : Nat) : Int) = l[i].flat F := by
  have e0 : partT F ((Tm.mk 7 n s l).flat F) ((i + 1 : Nat) : Int) = some l[i] := by
    rw [partT, h.readR hF]
    refine (if_pos ⟨rfl, by omega, by omega⟩).trans ?_
    rw [show (((i + 1 : Nat) : Int) - 1).toNat = i by omega]
    exact List.getElem?_eq_getElem hi
  have hp := h.part i hi
  refine ⟨?_, ?_, ?_⟩
  · rw [Go.Proofs.YthkjdcmlalgphaaDoor.partE, e0]; exact hp.flatE
  · rw [Go.Proofs.YthkjdcmlalgphaaDoor.partL, e0]; exact hp.flatL
  · rw [Go.Proofs.YthkjdcmlalgphaaDoor.partW, e0]; exact hp.flatW

set_option maxHeartbeats 4000000 in
set_option maxRecDepth 100000 in
theorem partsB_any {p bm : Nat} {w0 w : World} {v : Value} {F : List ByteArray} (h : FS p bm w0 w v F) (hW : WordTab w0) (hH : ShapeTab w0) (T : Tm) (tv : Value) (hT : Lies w (Safe w p bm v) T tv) (a : Option Addr) (cap : Nat)
    (hx : Wx w p bm v (.slice a (T.flat F).length cap) (T.flat F)) (hwr : Wr F T) (hlen : T.wordsR ≤ 60000) (hsz : T.size ≤ 400000) :
    Calls Tryd.prog 32 #[.pointer (some ⟨p, 0, none⟩), tv, .slice a (T.flat F).length cap] w fun e w' => e = .returned (.bool true) ∧ ∃ v', FS p bm w0 w' v' F ∧ Nx p bm w v w' v' := by
  obtain ⟨k, n, s, l⟩ := T
  obtain ⟨ta, tcap, rfl, hsm, hl⟩ := hT.out
  obtain ⟨W0, hW0⟩ : ∃ W0, w.alloc (.cells #[.int .i64 k, .int .i64 n, .string s, .slice ta l.length tcap] 25) = W0 := ⟨_, rfl⟩
  have hb0 : Below w.heap.size w W0 := by rw [← hW0]; exact (Up.refl w).alloc.out
  have hbx : W0.heap[w.heap.size]? = some (.cells #[.int .i64 k, .int .i64 n, .string s, .slice ta l.length tcap] 25) := by rw [← hW0]; exact new_block _ _
  have hbs : Safe W0 p bm v w.heap.size := h.tab.safe_new (Nat.le_refl _) (Array.getElem?_eq_some_iff.1 hbx).1
  have F0 := Hid.mk (h.up hb0)
  have X0 := Hid.mk (hx.up hb0)
  have L0 := Hid.mk ((Nx.up hb0).lies hT)
  have HBX := Hid.mk (show W0.heap[w.heap.size]? = some (.cells #[.int .i64 k, .int .i64 n, .string s, .slice ta l.length tcap] 25) ∧ Safe W0 p bm v w.heap.size from ⟨hbx, hbs⟩)
  have N0 := Hid.mk (show Nx p bm w v W0 v from Nx.up hb0)
  have HWH := Hid.mk (show WordTab w0 ∧ ShapeTab w0 from ⟨hW, hH⟩)
  have hll : l.length ≤ 64 := by
    have hf := hwr.fits
    rw [fits_mk, Bool.and_eq_true] at hf
    have := fitB_few hf.1
    exact this
  have HLL := Hid.mk hll
  have HWR := Hid.mk hwr
  have HLN := Hid.mk hlen
  have HSZ := Hid.mk (show ∀ i (hi : i < l.length), l[i].size ≤ 400000 from fun i hi => by have := size_mem (List.getElem_mem hi); rw [Tm.size_mk] at hsz; omega)
  generalize hxs : (Tm.mk k n s l).flat F = xs at *
  by_cases hk : k = 7
  · subst hk
    have HPE := Hid.mk (fun i hi => hwr.partE h.tab.good.few i hi)
    rw [hxs] at HPE
    have HF := Hid.mk h.tab.good.few
    have HRG := Hid.mk (show ∀ x ∈ xs, 0 ≤ x ∧ x < 18446744073709551616 by rw [← hxs]; exact hwr.rng)
    have HXL := Hid.mk (show xs.length ≤ 60000 by have := hwr.length; rw [hxs] at this; omega)
    clear h hT hx hb0 hbx hbs hwr hlen hW hH hsm hl hll hsz hxs
    go_enter Tryd.func32, Tryd.ntmps32
    go_upto_region 1 with fail
    try rw [hW0]
    clear hW0
    go_wp2
    go_loopw [7] (fun ii wr => ∃ (i : Nat) (v1 : Value), i ≤ l.length ∧ ii = .int .i64 i ∧ Hid (FS p bm w0 wr v1 F ∧ Nx p bm W0 v wr v1)) (fun ii _ => l.length - (intOf ii).toNat)
    case atStart => exact ⟨0, v, Nat.zero_le _, rfl, Hid.mk ⟨F0.out, Nx.refl _ _ _ _⟩⟩
    case round =>
      obtain ⟨i, v1, hi, rfl, hS⟩ := hrel
      obtain ⟨⟨q0, q1, q2, q3⟩, _⟩ := kept4 (hS.out.2.heap HBX.out.2 HBX.out.1) (Below.refl _ _)
      by_cases hlt : i < l.length
      · have hwi : IntKind.i64.wrap ((i : Int) + 1) = ((i + 1 : Nat) : Int) := by have := HLL.out; rw [wrap_id (by omega) (by omega)]; omega
        have HL := Hid.mk hlt
        have hlt' : (i : Int) < l.length := by omega
        go_upto_region 8 with (first
          | (go_at_call 21; go_loud (
             refine (hS.out.1.partE_ HWH.out.1 HWH.out.2 (xs := xs) ((X0.out.step hS.out.2).wrd HRG.out) HXL.out _ (by omega) (by have := HLL.out; omega) (HPE.out i HL.out).1 (HPE.out i HL.out).2.1 (HPE.out i HL.out).2.2).mono ?_
             rintro e w2 ⟨ra, rcap, v2, rfl, f2, x2, n2⟩
             have F2 := Hid.mk f2; have X2 := Hid.mk x2; have N2 := Hid.mk (hS.out.2.trans n2)
             clear f2 x2 n2 q0 q1 q2 q3))
          | (go_at_call 19
             have hwi2 := (HWR.out.part i HL.out)
             refine (F2.out.readE_ HWH.out.1 (xs := l[i].flat F) (X2.out.wrd hwi2.rng) (by have := hwi2.length; have := wordsR_part HWR.out i HL.out; have := HLN.out; omega) (hwi2.readR HF.out)).mono ?_
             rintro e w3 ⟨k', n', s', a', m', c', rfl, f3, l3, hb3⟩
             obtain ⟨W4, hW4⟩ : ∃ W4, w3.alloc (.cells #[.int .i64 k', .int .i64 n', .string s', .slice a' m' c'] 25) = W4 := ⟨_, rfl⟩
             have hb4 : Below w3.heap.size w3 W4 := (by rw [← hW4]; exact (Up.refl w3).alloc.out)
             have hx4 : W4.heap[w3.heap.size]? = some (.cells #[.int .i64 k', .int .i64 n', .string s', .slice a' m' c'] 25) := (by rw [← hW4]; exact new_block _ _)
             have N4 := Hid.mk ((N2.out.then_ hb3).then_ hb4)
             have F4 := Hid.mk (f3.up hb4)
             have L4 := Hid.mk (l3.below hb4)
             obtain ⟨⟨p0, p1, p2, p3⟩, _⟩ := kept4 hx4 (Below.refl _ _)
             clear hb3 hb4 hx4 f3 l3 hwi2))
        obtain ⟨_, _, hv5, _, hl5⟩ := (N4.out.lies L0.out).out
        simp only [Value.agg.injEq, Array.mk.injEq, List.cons.injEq, Value.slice.injEq, true_and, and_true] at hv5
        obtain ⟨rfl, rfl⟩ := hv5
        obtain ⟨b, o, rfl, _, hrow⟩ := hl5.some (by have : i < l.length := HL.out; omega)
        obtain ⟨ek, en, es, em, ea, ecap, hE, c0, c1, c2, c3, hli⟩ := hrow.part i HL.out
        obtain ⟨⟨q0, q1, q2, q3⟩, _⟩ := kept4 (N4.out.heap HBX.out.2 HBX.out.1) (Below.refl _ _)
        have HLI := Hid.mk hli
        have hd3 : decide ((i : Int) < l.length) = true := by rw [decide_eq_true_eq]; omega
        clear hl5 hrow hE hli
        refine region_up (W := W4) (by kernel_rfl) (by kernel_rfl) (Up.refl _) ?_
        refine quiet_value (v := .int .i64 0) rfl (fun _ _ => rfl) ?_
        simp only [Act.put, List.setIfInBounds_toArray, List.set_cons_zero, List.set_cons_succ]
        refine quiet_value (v := .bool false) rfl (fun _ _ => (by go_simp)) ?_
        simp only [Act.put, List.setIfInBounds_toArray, List.set_cons_zero, List.set_cons_succ]
        refine quiet_value (v := .bool false) rfl (fun _ _ => rfl) ?_
        simp only [Act.put, List.setIfInBounds_toArray, List.set_cons_zero, List.set_cons_succ]
        refine quiet_value (v := .agg #[.int .i64 k', .int .i64 n', .string s', .slice a' m' c']) rfl (fun W h => (by have u0 := cell_below h.out _ _ _ p0; have u1 := cell_below h.out _ _ _ p1; have u2 := cell_below h.out _ _ _ p2; have u3 := cell_below h.out _ _ _ p3; go_simp)) ?_
        simp only [Act.put, List.setIfInBounds_toArray, List.set_cons_zero, List.set_cons_succ]
        refine quiet_value (v := .pointer (some ⟨w.heap.size, 3, none⟩)) rfl (fun _ _ => (by go_simp)) ?_
        simp only [Act.put, List.setIfInBounds_toArray, List.set_cons_zero, List.set_cons_succ]
        refine quiet_value (v := .slice (some ⟨b, o, none⟩) l.length tcap) rfl (fun W h => (by have u0 := cell_below h.out _ _ _ q3; go_simp)) ?_
        simp only [Act.put, List.setIfInBounds_toArray, List.set_cons_zero, List.set_cons_succ]
        refine quiet_value (v := .int .i64 i) rfl (fun _ _ => rfl) ?_
        simp only [Act.put, List.setIfInBounds_toArray, List.set_cons_zero, List.set_cons_succ]
        refine quiet_value (v := .pointer (some ⟨b, o + i * 4, none⟩)) rfl (fun _ _ => (by go_simp)) ?_
        simp only [Act.put, List.setIfInBounds_toArray, List.set_cons_zero, List.set_cons_succ]
        refine quiet_value (v := .agg #[.int .i64 ek, .int .i64 en, .string es, .slice ea em.length ecap]) rfl (fun W h => (by have u0 := cell_below h.out _ _ _ c0; have u1 := cell_below h.out _ _ _ c1; have u2 := cell_below h.out _ _ _ c2; have u3 := cell_below h.out _ _ _ c3; go_simp)) ?_
        simp only [Act.put, List.setIfInBounds_toArray, List.set_cons_zero, List.set_cons_succ]
        refine quiet_call (v := .bool true) rfl (fun W => (by go_simp)) (fun W h => (sameP_yes l[i] (by have := HSZ.out i HL.out; omega) (L4.out.below h) (HLI.out.below h)).mono fun e w' ⟨he, hb⟩ => ⟨he, h.call hb⟩) ?_
        simp only [Act.put, List.setIfInBounds_toArray, List.set_cons_zero, List.set_cons_succ]
        refine quiet_value (v := .bool false) rfl (fun _ _ => (by go_simp)) ?_
        simp only [Act.put, List.setIfInBounds_toArray, List.set_cons_zero, List.set_cons_succ]
        refine quiet_value (v := .bool false) rfl (fun _ _ => rfl) ?_
        simp only [Act.put, List.setIfInBounds_toArray, List.set_cons_zero, List.set_cons_succ]
        refine quiet_nil ?_
        intro w5 hw5
        have N5 := Hid.mk (N4.out.then_ hw5.out)
        have F5 := Hid.mk (F4.out.up hw5.out)
        clear hw5 q0 q1 q2 q3 p0 p1 p2 p3 c0 c1 c2 c3
        go_wp2
        go_roundw
        case rel => exact ⟨i + 1, v2, HL.out, by first | rfl | go_num, Hid.mk ⟨F5.out, N5.out⟩⟩
        case measure =>
          have h1 : i < l.length := HL.out
          simp [intOf]
          omega
      · obtain rfl : i = l.length := by omega
        go_wp2
        go_ret
        exact ⟨rfl, v1, hS.out.1, N0.out.trans hS.out.2⟩
  · have d7 : (k == 7) = false := by simpa using hk
    clear hk
    clear h hT hx hb0 hbx hbs hwr hlen hW hH hsm hl hll hsz hxs
    obtain ⟨⟨q0, q1, q2, q3⟩, _⟩ := kept4 HBX.out.1 (Below.refl _ _)
    go_enter Tryd.func32, Tryd.ntmps32
    go_upto_region 1 with fail
    try rw [hW0]
    clear hW0
    go_wp2
    go_loop [7] (fun ii => ii = .int .i64 0) (fun _ => 0)
    case atStart => rfl
    case round =>
      obtain rfl := hrel
      by_cases h0 : (0 : Int) < l.length
      · go_wp2
        go_ret
        exact ⟨rfl, v, F0.out, N0.out⟩
      · go_wp2
        go_ret
        exact ⟨rfl, v, F0.out, N0.out⟩
end Go.Proofs.YthkjdcmlalgphaaDoor

/-
  FlatBack returns true.
-/
namespace Go.Proofs.YthkjdcmlalgphaaDoor
open Go.RowKit Go.Deep

/-- Words that were handed in, beside a table. -/
structure Wk (w : World) (p bm : Nat) (v : Value) (xs : List Int) (la : Option Addr) (cap : Nat) : Prop where
  wrd : Wrd w xs la cap
  safe : ∀ ad, la = some ad → 0 < xs.length → Safe w p bm v ad.block
theorem Wk.step {w w' : World} {p bm : Nat} {v v' : Value} {xs : List Int} {la : Option Addr} {cap : Nat} (h : Wk w p bm v xs la cap) (n : Nx p bm w v w' v') : Wk w' p bm v' xs la cap :=
  ⟨⟨h.wrd.len, h.wrd.rng, fun h0 => by
    obtain ⟨b, o, e, hc⟩ := h.wrd.cells h0
    exact ⟨b, o, e, fun j hj => n.cell (h.safe _ e h0) (hc j hj)⟩⟩, fun ad e h0 => n.safe (h.safe ad e h0)⟩
theorem Wk.cel {w : World} {p bm : Nat} {v : Value} {xs : List Int} {la : Option Addr} {cap : Nat} (h : Wk w p bm v xs la cap) : Cel w xs la := h.wrd.cel
theorem Wrd.lt {w : World} {xs : List Int} {la : Option Addr} {cap : Nat} (h : Wrd w xs la cap) (h0 : 0 < xs.length) {ad : Addr} (e : la = some ad) : ad.block < w.heap.size := by
  obtain ⟨b, o, e', hc⟩ := h.cells h0
  rw [e] at e'
  cases e'
  have := World.block_lt_of_cell? w _ (hc 0 h0)
  exact this
theorem Tm.words_of {F : List ByteArray} {T : Tm} (h : Wr F T) : T.words = ((T.flat F).length : Int) := by rw [words_pre, h.length]

theorem wr_words {F : List ByteArray} {T : Tm} (_ : Wr F T) (hs : T.size ≤ 300) : T.wordsR ≤ 60000 := by
  have h1 := sumW_range T.pre
  have h2 := pre_length T
  have h3 := words_pre T
  rw [Tm.words] at h3
  omega
theorem wr_len {F : List ByteArray} {T : Tm} (h : Wr F T) (hs : T.size ≤ 300) : (T.flat F).length ≤ 60000 := by
  have := h.length
  have := wr_words h hs
  omega
theorem FS.readN_ {p bm : Nat} {w0 w : World} {v : Value} {L : List ByteArray} (h : FS p bm w0 w v L) (hW : WordTab w0) {xs : List Int} {la : Option Addr} {lcap : Nat} (hx : Wrd w xs la lcap) (hl : xs.length ≤ 60000) (hr : readR L xs = none) :
    Calls Tryd.prog 19 #[.pointer (some ⟨p, 0, none⟩), .slice la xs.length lcap] w fun e w' => ∃ (k' n' : Int) (s' : ByteArray) (a' : Option Addr) (m' c' : Nat), e = .returned (.tuple #[.agg #[.int .i64 k', .int .i64 n', .string s', .slice a' m' c'], .int .i64 4]) ∧ Below w.heap.size w w' := by
  refine (h.read hW hx hl).mono ?_
  rintro e w' ⟨k5, n5, s5, a5, m5, c5, rfl, _, _, hb5⟩
  rw [show readE L xs = 4 by rw [readE, hr]; rfl]
  exact ⟨k5, n5, s5, a5, m5, c5, rfl, hb5⟩

/-- What stands behind the table being made. -/
structure BK (p bm : Nat) (w0 w : World) (v : Value) (L : List ByteArray) (T : Tm) (tv : Value) (c : Array Value) (b : Nat) (xs : List Int) (la : Option Addr) (lcap : Nat) : Prop where
  fs : FS p bm w0 w v L
  lies : Lies w (Safe w p bm v) T tv
  box : w.heap[b]? = some (.cells c 25)
  sb : Safe w p bm v b
  wk : Wk w p bm v xs la lcap
theorem BK.step {p bm : Nat} {w0 w w' : World} {v v' : Value} {L L' : List ByteArray} {T : Tm} {tv : Value} {c : Array Value} {b : Nat} {xs : List Int} {la : Option Addr} {lcap : Nat} (h : BK p bm w0 w v L T tv c b xs la lcap) (f : FS p bm w0 w' v' L') (n : Nx p bm w v w' v') : BK p bm w0 w' v' L' T tv c b xs la lcap :=
  ⟨f, n.lies h.lies, n.heap h.sb h.box, n.safe h.sb, h.wk.step n⟩
theorem BK.up {p bm : Nat} {w0 w w' : World} {v : Value} {L : List ByteArray} {T : Tm} {tv : Value} {c : Array Value} {b : Nat} {xs : List Int} {la : Option Addr} {lcap : Nat} (h : BK p bm w0 w v L T tv c b xs la lcap) (hb : Below w.heap.size w w') : BK p bm w0 w' v L T tv c b xs la lcap :=
  h.step (h.fs.up hb) (Nx.up hb)

set_option maxHeartbeats 8000000 in
set_option maxRecDepth 100000 in
theorem lawBack7 (l : List ByteArray) (a : Option Addr) (cap : Nat) (T : Tm) (S : Nat → Prop) (tv : Value) (xs : List Int) (la : Option Addr) (lcap : Nat) (w : World) (hl : Str w l a cap) (hT : Lies w S T tv) (hx : Wrd w xs la lcap) (hW : WordTab w) (hH : ShapeTab w) :
    Calls Tryd.prog 7 #[.slice a l.length cap, tv, .slice la xs.length lcap] w fun e w' => e = .returned (.bool true) ∧ Below w.heap.size w w' := by
  have hTi := (Lies.inside T _ hT)
  obtain ⟨k, n, s, tl⟩ := T
  obtain ⟨ta', tcap, rfl, hsm, htl⟩ := hT.out
  generalize hTT : Tm.mk k n s tl = T at *
  obtain ⟨W0, hW0⟩ : ∃ W0, w.alloc (.cells #[.int .i64 k, .int .i64 n, .string s, .slice ta' tl.length tcap] 25) = W0 := ⟨_, rfl⟩
  have hu0 : Up w W0 := by rw [← hW0]; exact (Up.refl w).alloc
  have hz0 : W0.heap.size = w.heap.size + 1 := by rw [← hW0]; simp
  have hb0 : W0.heap[w.heap.size]? = some (.cells #[.int .i64 k, .int .i64 n, .string s, .slice ta' tl.length tcap] 25) := by rw [← hW0]; exact new_block _ _
  have HU0 := Hid.mk hu0
  have HZ0 := Hid.mk hz0
  have HB0 := Hid.mk hb0
  have HS := Hid.mk hl
  have HX := Hid.mk hx
  have HT := Hid.mk ((hTi.move (S' := fun b => b < w.heap.size) (fun b hb => hb.2) (fun _ _ _ _ h => h) _ _).below hu0.out)
  have HWH := Hid.mk (show WordTab W0 ∧ ShapeTab W0 from ⟨hW.below hu0.out, hH.below hu0.out⟩)
  clear hu0 hz0 hb0 hl hT hTi hW hH hsm htl hx
  by_cases h300 : 300 < xs.length
  · have e1 : decide ((300 : Int) < xs.length) = true := by rw [decide_eq_true_eq]; omega
    have e2 : decide (300 < xs.length) = true := by rw [decide_eq_true_eq]; exact h300
    clear h300
    go_enter Tryd.func7, Tryd.ntmps7
    go_upto_region 1 with fail
    try rw [hW0]
    clear hW0
    go_wp2_with (first
      | (go_at_call 6; refine (known7_any _ HWH.out.1 HWH.out.2).mono ?_; rintro e w1 ⟨rfl, hb1⟩; have U1 := Hid.mk (show Up W0 w1 from hb1)
         obtain ⟨⟨q0, q1, q2, q3⟩, _⟩ := kept4 HB0.out hb1
         clear hb1)
      | (go_at_call 8; refine (longTexts_any l a cap 20 _ (HS.out.up (HU0.out.call U1.out.out).out)).mono ?_; rintro e w2' ⟨⟨b1, rfl, h1⟩, rfl⟩; clear h1)
      | (go_at_call 9; refine (largeTerm_any T _ _ 300 _ (HT.out.below U1.out.out) (by omega) (by omega)).mono ?_; rintro e w2 ⟨⟨b2, rfl, h2⟩, hb2⟩; have U2 := Hid.mk (U1.out.call hb2); clear h2 hb2))
    all_goals go_ret
    all_goals first | exact ⟨rfl, (HU0.out.call U2.out.out).out⟩ | exact ⟨rfl, (HU0.out.call U1.out.out).out⟩
  · have e1 : decide ((300 : Int) < xs.length) = false := by rw [decide_eq_false_iff_not]; omega
    have e2 : decide (300 < xs.length) = false := by rw [decide_eq_false_iff_not]; exact h300
    have H300 := Hid.mk (show xs.length ≤ 300 by omega)
    clear h300
    go_enter Tryd.func7, Tryd.ntmps7
    go_upto_region 1 with fail
    try rw [hW0]
    clear hW0
    go_upto_region 5 with (first
      | (go_at_call 6; refine (known7_any _ HWH.out.1 HWH.out.2).mono ?_; rintro e w1 ⟨rfl, hb1⟩; have U1 := Hid.mk (show Up W0 w1 from hb1)
         obtain ⟨⟨q0, q1, q2, q3⟩, _⟩ := kept4 HB0.out hb1
         clear hb1)
      | (go_at_call 8; refine (longTexts_any l a cap 20 _ (HS.out.up (HU0.out.call U1.out.out).out)).mono ?_; rintro e w2' ⟨⟨b1, rfl, h1⟩, rfl⟩; have H1 := Hid.mk h1; clear h1)
      | (go_at_call 9; refine (largeTerm_any T _ _ 300 _ (HT.out.below U1.out.out) (by omega) (by omega)).mono ?_; rintro e w2 ⟨⟨b2, rfl, h2⟩, hb2⟩; have U2 := Hid.mk (U1.out.call hb2); have H2 := Hid.mk h2; clear h2 hb2 q0 q1 q2 q3)
      | (go_at_call 10; refine (atoms_any l a cap _ (HS.out.up (HU0.out.call U2.out.out).out) (H1.out (by first | assumption | simpa using ‹¬ b1 = true›)).2).mono ?_; rintro e w3 ⟨q, L, rfl, h3, n3⟩; have F3 := Hid.mk h3; have N3 := Hid.mk n3; clear h3 n3; have HTL := Hid.mk (show T.size ≤ 300 by have := (H2.out (by first | assumption | simpa using ‹¬ b2 = true›)).2; omega)))
    · go_ret
      exact ⟨rfl, (HU0.out.call U1.out.out).out⟩
    · go_ret
      exact ⟨rfl, (HU0.out.call U2.out.out).out⟩
    · obtain ⟨v, vr, hT3, hR3, hdis, hm1, hm2, hb3, hs3⟩ := F3.out
      have hbt2 := (U2.out.out.block _ (Array.getElem?_eq_some_iff.1 HB0.out).1).trans HB0.out
      have hlt2 := (Array.getElem?_eq_some_iff.1 hbt2).1
      have hsafe : ∀ b, b < w2.heap.size → Safe w3 (w2.heap.size + 1) w2.heap.size v b := fun b hb => ⟨Nat.lt_of_lt_of_le hb hb3.size, fun hk => by have := hm1 b hk; omega⟩
      have hx2 := HX.out.below (HU0.out.call U2.out.out).out
      have K3 := Hid.mk (show BK (w2.heap.size + 1) w2.heap.size w2 w3 v L T (.agg #[.int .i64 k, .int .i64 n, .string s, .slice ta' tl.length tcap]) #[.int .i64 k, .int .i64 n, .string s, .slice ta' tl.length tcap] w.heap.size xs la lcap from
        ⟨⟨hT3, hm1, hb3, N3.out⟩, ((HT.out.below U2.out.out).below hb3).move (fun b hb => hsafe b (by show b < w2.heap.size; have h1 : b < w.heap.size := hb; omega)) (fun _ _ _ _ h => h) _ _, (hb3.block _ hlt2).trans hbt2, hsafe _ hlt2, ⟨hx2.below hb3, fun ad e h0 => hsafe _ (hx2.lt h0 e)⟩⟩)
      have HW2 := Hid.mk (show WordTab w2 ∧ ShapeTab w2 from ⟨HWH.out.1.below U2.out.out, HWH.out.2.below U2.out.out⟩)
      have UA := Hid.mk (show Below w.heap.size w w2 from (HU0.out.call U2.out.out).out)
      obtain ⟨⟨q0, q1, q2, q3⟩, _⟩ := kept4 K3.out.box (Below.refl _ _)
      clear hT3 hR3 hdis hm1 hm2 hb3 hs3 hbt2 hlt2 hsafe hx2 F3 N3 H1 H2
      by_cases hE : flatE T L = 0
      · obtain ⟨hwr, hfw⟩ := Wr.of_flat hE
        generalize hF : flatL T L = F at *
        have HWR := Hid.mk hwr
        have HEQ := Hid.mk (show flatE T L = 0 ∧ flatL T L = F ∧ flatW T L = T.flat F from ⟨hE, hF, hfw⟩)
        clear hE hwr hfw hF
        cases hr : readR F xs with
        | none =>
          have HR := Hid.mk hr
          clear hr
          go_wp2_with (first
            | (go_at_call 19; have g := k9; refine (K9.out.fs.readN_ HW2.out.1 K9.out.wk.wrd (by have := H300.out; omega) HR.out).mono ?_
               rintro e w10 ⟨k6, n6, s6, a6, m6, c6, rfl, hb10⟩
               obtain ⟨W11, hW11⟩ : ∃ W11, w10.alloc (.cells #[.int .i64 k6, .int .i64 n6, .string s6, .slice a6 m6 c6] 25) = W11 := ⟨_, rfl⟩
               have hbW11 : Below w10.heap.size w10 W11 := (by rw [← hW11]; exact (Up.refl w10).alloc.out)
               have hxW11 : W11.heap[w10.heap.size]? = some (.cells #[.int .i64 k6, .int .i64 n6, .string s6, .slice a6 m6 c6] 25) := (by rw [← hW11]; exact new_block _ _)
               have K11 := Hid.mk ((K9.out.up hb10).up hbW11)
               clear hb10 hbW11 hxW11)
            | (go_at_call 12; refine (K3.out.fs.flattenE HW2.out.1 HW2.out.2 K3.out.lies (by have := HTL.out; omega) HEQ.out.1 HEQ.out.2.1 HEQ.out.2.2).mono ?_
               rintro e w4 ⟨ra, rcap, v4, rfl, f4, x4, n4⟩
               have K4 := Hid.mk (K3.out.step f4 n4); have X4 := Hid.mk x4
               clear f4 x4 n4 q0 q1 q2 q3)
            | (go_at_call 19; refine (K4.out.fs.readE_ HW2.out.1 (xs := T.flat F) (X4.out.wrd HWR.out.rng) (wr_len HWR.out HTL.out) (HWR.out.readR K4.out.fs.tab.good.few)).mono ?_
               rintro e w5 ⟨k5, n5, s5, a5, m5, c5, rfl, f5, l5, hb5⟩
               obtain ⟨W6, hW6⟩ : ∃ W6, w5.alloc (.cells #[.int .i64 k5, .int .i64 n5, .string s5, .slice a5 m5 c5] 25) = W6 := ⟨_, rfl⟩
               have hbW6 : Below w5.heap.size w5 W6 := (by rw [← hW6]; exact (Up.refl w5).alloc.out)
               have hxW6 : W6.heap[w5.heap.size]? = some (.cells #[.int .i64 k5, .int .i64 n5, .string s5, .slice a5 m5 c5] 25) := (by rw [← hW6]; exact new_block _ _)
               have K6 := Hid.mk ((K4.out.up hb5).up hbW6); have X6 := Hid.mk ((X4.out.up hb5).up hbW6); have L6 := Hid.mk (l5.below hbW6); have HX6 := Hid.mk hxW6
               obtain ⟨⟨p0, p1, p2, p3⟩, _⟩ := kept4 hxW6 (Below.refl _ _)
               obtain ⟨⟨q0, q1, q2, q3⟩, _⟩ := kept4 K6.out.box (Below.refl _ _)
               clear f5 l5 hb5 hbW6 hxW6)
            | (go_at_call 30; refine (sameP_yes T (by have := HTL.out; omega) L6.out K6.out.lies).mono ?_
               rintro e w7 ⟨rfl, hb7⟩
               have K7 := Hid.mk (K6.out.up hb7); have X7 := Hid.mk (X6.out.up hb7)
               clear hb7 p0 p1 p2 p3 q0 q1 q2 q3
               obtain ⟨⟨q0, q1, q2, q3⟩, _⟩ := kept4 K7.out.box (Below.refl _ _))
            | (go_at_call 31; refine (wordsI_any T (by have := HTL.out; omega) _ _ _ K7.out.lies (HW2.out.2.below K7.out.fs.below)).mono ?_
               rintro e w8 ⟨rfl, hb8⟩
               rw [Tm.words_of HWR.out]
               have K8 := Hid.mk (K7.out.up hb8); have X8 := Hid.mk (X7.out.up hb8)
               clear hb8 q0 q1 q2 q3
               obtain ⟨⟨q0, q1, q2, q3⟩, _⟩ := kept4 K8.out.box (Below.refl _ _))
            | (go_at_call 32; refine (partsB_any K8.out.fs HW2.out.1 HW2.out.2 T _ K8.out.lies ra rcap X8.out HWR.out (wr_words HWR.out HTL.out) (by have := HTL.out; omega)).mono ?_
               rintro e w9 ⟨rfl, v9, f9, n9⟩
               have K9 := Hid.mk (K8.out.step f9 n9); have k9 := True.intro
               clear f9 n9 q0 q1 q2 q3))
          go_ret
          exact ⟨rfl, UA.out.trans (K11.out.fs.below.mono UA.out.size)⟩
        | some T2 =>
          have HR := Hid.mk hr
          clear hr
          go_wp2_with (first
            | (go_at_call 12; have g := k11; refine (K11.out.fs.flattenE HW2.out.1 HW2.out.2 (T := T2) L11.out (by have := readR_size HR.out; have := H300.out; omega) WR2.out.1.flatE WR2.out.1.flatL (WR2.out.1.flatW.trans WR2.out.2)).mono ?_
               rintro e w12 ⟨sa, scap, v12, rfl, f12, x12, n12⟩
               have K12 := Hid.mk (K11.out.step f12 n12); have X12 := Hid.mk x12
               clear f12 x12 n12 q0 q1 q2 q3)
            | (go_at_call 19; have g := k9; refine (K9.out.fs.readE_ HW2.out.1 K9.out.wk.wrd (by have := H300.out; omega) HR.out).mono ?_
               rintro e w10 ⟨k6, n6, s6, a6, m6, c6, rfl, f10, l10, hb10⟩
               obtain ⟨W11, hW11⟩ : ∃ W11, w10.alloc (.cells #[.int .i64 k6, .int .i64 n6, .string s6, .slice a6 m6 c6] 25) = W11 := ⟨_, rfl⟩
               have hbW11 : Below w10.heap.size w10 W11 := (by rw [← hW11]; exact (Up.refl w10).alloc.out)
               have hxW11 : W11.heap[w10.heap.size]? = some (.cells #[.int .i64 k6, .int .i64 n6, .string s6, .slice a6 m6 c6] 25) := (by rw [← hW11]; exact new_block _ _)
               have K11 := Hid.mk ((K9.out.up hb10).up hbW11); have L11 := Hid.mk ((Nx.up hbW11).lies l10); have HX11 := Hid.mk hxW11; have k11 := True.intro
               have WR2 := Hid.mk (Wr.of_read K11.out.fs.tab.good K11.out.fs.nub K11.out.wk.wrd.rng (by have := H300.out; omega) HR.out)
               obtain ⟨⟨q0, q1, q2, q3⟩, _⟩ := kept4 hxW11 (Below.refl _ _)
               clear f10 l10 hb10 hbW11 hxW11)
            | (go_at_call 12; refine (K3.out.fs.flattenE HW2.out.1 HW2.out.2 K3.out.lies (by have := HTL.out; omega) HEQ.out.1 HEQ.out.2.1 HEQ.out.2.2).mono ?_
               rintro e w4 ⟨ra, rcap, v4, rfl, f4, x4, n4⟩
               have K4 := Hid.mk (K3.out.step f4 n4); have X4 := Hid.mk x4
               clear f4 x4 n4 q0 q1 q2 q3)
            | (go_at_call 19; refine (K4.out.fs.readE_ HW2.out.1 (xs := T.flat F) (X4.out.wrd HWR.out.rng) (wr_len HWR.out HTL.out) (HWR.out.readR K4.out.fs.tab.good.few)).mono ?_
               rintro e w5 ⟨k5, n5, s5, a5, m5, c5, rfl, f5, l5, hb5⟩
               obtain ⟨W6, hW6⟩ : ∃ W6, w5.alloc (.cells #[.int .i64 k5, .int .i64 n5, .string s5, .slice a5 m5 c5] 25) = W6 := ⟨_, rfl⟩
               have hbW6 : Below w5.heap.size w5 W6 := (by rw [← hW6]; exact (Up.refl w5).alloc.out)
               have hxW6 : W6.heap[w5.heap.size]? = some (.cells #[.int .i64 k5, .int .i64 n5, .string s5, .slice a5 m5 c5] 25) := (by rw [← hW6]; exact new_block _ _)
               have K6 := Hid.mk ((K4.out.up hb5).up hbW6); have X6 := Hid.mk ((X4.out.up hb5).up hbW6); have L6 := Hid.mk (l5.below hbW6); have HX6 := Hid.mk hxW6
               obtain ⟨⟨p0, p1, p2, p3⟩, _⟩ := kept4 hxW6 (Below.refl _ _)
               obtain ⟨⟨q0, q1, q2, q3⟩, _⟩ := kept4 K6.out.box (Below.refl _ _)
               clear f5 l5 hb5 hbW6 hxW6)
            | (go_at_call 30; refine (sameP_yes T (by have := HTL.out; omega) L6.out K6.out.lies).mono ?_
               rintro e w7 ⟨rfl, hb7⟩
               have K7 := Hid.mk (K6.out.up hb7); have X7 := Hid.mk (X6.out.up hb7)
               clear hb7 p0 p1 p2 p3 q0 q1 q2 q3
               obtain ⟨⟨q0, q1, q2, q3⟩, _⟩ := kept4 K7.out.box (Below.refl _ _))
            | (go_at_call 31; refine (wordsI_any T (by have := HTL.out; omega) _ _ _ K7.out.lies (HW2.out.2.below K7.out.fs.below)).mono ?_
               rintro e w8 ⟨rfl, hb8⟩
               rw [Tm.words_of HWR.out]
               have K8 := Hid.mk (K7.out.up hb8); have X8 := Hid.mk (X7.out.up hb8)
               clear hb8 q0 q1 q2 q3
               obtain ⟨⟨q0, q1, q2, q3⟩, _⟩ := kept4 K8.out.box (Below.refl _ _))
            | (go_at_call 32; refine (partsB_any K8.out.fs HW2.out.1 HW2.out.2 T _ K8.out.lies ra rcap X8.out HWR.out (wr_words HWR.out HTL.out) (by have := HTL.out; omega)).mono ?_
               rintro e w9 ⟨rfl, v9, f9, n9⟩
               have K9 := Hid.mk (K8.out.step f9 n9); have k9 := True.intro
               clear f9 n9 q0 q1 q2 q3)
            | (go_at_call 14; refine (sameWords_any xs xs _ _ _ _ _ X12.out.cel K12.out.wk.cel (by have := H300.out; omega)).mono ?_
               rintro e w13 ⟨rfl, hb13⟩
               rw [decide_eq_true (rfl : xs = xs)]
               have K13 := Hid.mk (K12.out.up hb13)
               clear hb13))
          go_ret
          exact ⟨rfl, UA.out.trans (K13.out.fs.below.mono UA.out.size)⟩
      · have hEb : (flatE T L == 0) = false := by simpa using hE
        generalize hF : flatL T L = F at *
        generalize hx0 : flatE T L = x0 at *
        have HEQ := Hid.mk (show flatE T L = x0 ∧ flatL T L = F from ⟨hx0, hF⟩)
        clear hF hx0
        cases hr : readR F xs with
        | none =>
          have HR := Hid.mk hr
          clear hr
          go_wp2_with (first
            | (go_at_call 19; have g := k9; refine (K9.out.fs.readN_ HW2.out.1 K9.out.wk.wrd (by have := H300.out; omega) HR.out).mono ?_
               rintro e w10 ⟨k6, n6, s6, a6, m6, c6, rfl, hb10⟩
               obtain ⟨W11, hW11⟩ : ∃ W11, w10.alloc (.cells #[.int .i64 k6, .int .i64 n6, .string s6, .slice a6 m6 c6] 25) = W11 := ⟨_, rfl⟩
               have hbW11 : Below w10.heap.size w10 W11 := (by rw [← hW11]; exact (Up.refl w10).alloc.out)
               have hxW11 : W11.heap[w10.heap.size]? = some (.cells #[.int .i64 k6, .int .i64 n6, .string s6, .slice a6 m6 c6] 25) := (by rw [← hW11]; exact new_block _ _)
               have K11 := Hid.mk ((K9.out.up hb10).up hbW11)
               clear hb10 hbW11 hxW11)
            | (go_at_call 12; refine (K3.out.fs.flattenE HW2.out.1 HW2.out.2 K3.out.lies (by have := HTL.out; omega) HEQ.out.1 HEQ.out.2 rfl).mono ?_
               rintro e w4 ⟨ra, rcap, v4, rfl, f4, x4, n4⟩
               have K9 := Hid.mk (K3.out.step f4 n4); have k9 := True.intro
               clear f4 x4 n4 q0 q1 q2 q3))
          go_ret
          exact ⟨rfl, UA.out.trans (K11.out.fs.below.mono UA.out.size)⟩
        | some T2 =>
          have HR := Hid.mk hr
          clear hr
          go_wp2_with (first
            | (go_at_call 12; have g := k11; refine (K11.out.fs.flattenE HW2.out.1 HW2.out.2 (T := T2) L11.out (by have := readR_size HR.out; have := H300.out; omega) WR2.out.1.flatE WR2.out.1.flatL (WR2.out.1.flatW.trans WR2.out.2)).mono ?_
               rintro e w12 ⟨sa, scap, v12, rfl, f12, x12, n12⟩
               have K12 := Hid.mk (K11.out.step f12 n12); have X12 := Hid.mk x12
               clear f12 x12 n12 q0 q1 q2 q3)
            | (go_at_call 19; have g := k9; refine (K9.out.fs.readE_ HW2.out.1 K9.out.wk.wrd (by have := H300.out; omega) HR.out).mono ?_
               rintro e w10 ⟨k6, n6, s6, a6, m6, c6, rfl, f10, l10, hb10⟩
               obtain ⟨W11, hW11⟩ : ∃ W11, w10.alloc (.cells #[.int .i64 k6, .int .i64 n6, .string s6, .slice a6 m6 c6] 25) = W11 := ⟨_, rfl⟩
               have hbW11 : Below w10.heap.size w10 W11 := (by rw [← hW11]; exact (Up.refl w10).alloc.out)
               have hxW11 : W11.heap[w10.heap.size]? = some (.cells #[.int .i64 k6, .int .i64 n6, .string s6, .slice a6 m6 c6] 25) := (by rw [← hW11]; exact new_block _ _)
               have K11 := Hid.mk ((K9.out.up hb10).up hbW11); have L11 := Hid.mk ((Nx.up hbW11).lies l10); have HX11 := Hid.mk hxW11; have k11 := True.intro
               have WR2 := Hid.mk (Wr.of_read K11.out.fs.tab.good K11.out.fs.nub K11.out.wk.wrd.rng (by have := H300.out; omega) HR.out)
               obtain ⟨⟨q0, q1, q2, q3⟩, _⟩ := kept4 hxW11 (Below.refl _ _)
               clear f10 l10 hb10 hbW11 hxW11)
            | (go_at_call 12; refine (K3.out.fs.flattenE HW2.out.1 HW2.out.2 K3.out.lies (by have := HTL.out; omega) HEQ.out.1 HEQ.out.2 rfl).mono ?_
               rintro e w4 ⟨ra, rcap, v4, rfl, f4, x4, n4⟩
               have K9 := Hid.mk (K3.out.step f4 n4); have k9 := True.intro
               clear f4 x4 n4 q0 q1 q2 q3)
            | (go_at_call 14; refine (sameWords_any xs xs _ _ _ _ _ X12.out.cel K12.out.wk.cel (by have := H300.out; omega)).mono ?_
               rintro e w13 ⟨rfl, hb13⟩
               rw [decide_eq_true (rfl : xs = xs)]
               have K13 := Hid.mk (K12.out.up hb13)
               clear hb13))
          go_ret
          exact ⟨rfl, UA.out.trans (K13.out.fs.below.mono UA.out.size)⟩
end Go.Proofs.YthkjdcmlalgphaaDoor
