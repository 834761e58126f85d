/-
  Read of the document's answers.
-/
import Derived.Test.YthkjdcmlalgphaaDoorZFlatRTerm
import Derived.Test.YthkjdcmlalgphaaDoorZFlatReadP
import Derived.Test.YthkjdcmlalgphaaDoorZFlatRFlat
import Derived.Test.YthkjdcmlalgphaaDoorZFlatNone
namespace Go.Proofs.YthkjdcmlalgphaaDoor
open Go.RowKit Go.Deep

theorem Wrd.below {w w' : World} {xs : List Int} {la : Option Addr} {lcap : Nat} (h : Wrd w xs la lcap) (hb : Below w.heap.size w w') : Wrd w' xs la lcap :=
  ⟨h.len, h.rng, fun h0 => by
    obtain ⟨b, o, e, hc⟩ := h.cells h0
    exact ⟨b, o, e, fun j hj => cell_below hb _ _ _ (hc j hj)⟩⟩
theorem readR_nil (F : List ByteArray) : readR F [] = none := by rw [readR, someR, if_pos (by simp)]
theorem readR_one (F : List ByteArray) {xs : List Int} (h : 0 < xs.length) : readR F xs = match oneR F xs (xs.length + 1) xs[0] 1 with
    | none => none
    | some (t, j) => if j = xs.length then some t else none := by
  have e : (xs.drop 0).take 1 = [xs[0]] := by
    obtain ⟨x, r, rfl⟩ : ∃ x r, xs = x :: r := List.exists_cons_of_length_pos h
    rfl
  rw [readR, someR, if_neg (by omega), e, goes]
  cases oneR F xs (xs.length + 1) xs[0] 1 with
  | none => rfl
  | some tj => rfl
theorem read_check {F : List ByteArray} {xs : List Int} {T : Tm} (hG : Good F) (hN : Nub F) (hxs : ∀ x ∈ xs, 0 ≤ x ∧ x < 18446744073709551616) (hl : xs.length ≤ 65536) (h : readR F xs = some T) : T.check = 0 := by
  obtain ⟨h1, _, h3⟩ := read_write F xs hG hN hxs h
  have h4 := flat_length F h1
  rw [h3] at h4
  rw [Tm.check, fits_pre, words_pre, longE, if_pos h1, if_neg (by omega)]

set_option maxHeartbeats 4000000 in
set_option maxRecDepth 100000 in
theorem readRf_any (q : Nat) (vq : Value) (L : List ByteArray) (xs : List Int) (la : Option Addr) (lcap : Nat) (w : World) (h : RTab w q vq L) (hx : Wrd w xs la lcap) (hG : Good L) (hN : Nub L) (hfew : xs.length ≤ 60000) :
    Calls Tryd.prog 20 #[.pointer (some ⟨q, 0, none⟩), .slice la xs.length lcap] w fun e w' => ∃ (k' n' : Int) (s' : ByteArray) (a' : Option Addr) (m' c' : Nat), e = .returned (.tuple #[.agg #[.int .i64 k', .int .i64 n', .string s', .slice a' m' c'], .int .i64 (readE L xs)]) ∧
      Lies w' (fun b => w.heap.size ≤ b) (readT L xs) (.agg #[.int .i64 k', .int .i64 n', .string s', .slice a' m' c']) ∧ Below w.heap.size w w' := by
  have hd : decide ((65536 : Int) < xs.length) = false := by rw [decide_eq_false_iff_not]; omega
  have hd2 : decide (65536 < xs.length) = false := by rw [decide_eq_false_iff_not]; omega
  by_cases h0 : xs.length = 0
  · obtain rfl : xs = [] := List.length_eq_zero_iff.1 h0
    obtain ⟨W0, hW0⟩ : ∃ W0, w.alloc (.cells #[.int .i64 0, .int .i64 0, .string ⟨#[]⟩, .slice none 0 0] 25) = W0 := ⟨_, rfl⟩
    have hb0 : Below w.heap.size w W0 := by rw [← hW0]; exact (Below.refl _ _).alloc (Nat.le_refl _) _
    have hbx : W0.heap[w.heap.size]? = some (.cells #[.int .i64 0, .int .i64 0, .string ⟨#[]⟩, .slice none 0 0] 25) := by rw [← hW0]; exact new_block _ _
    obtain ⟨⟨q0, q1, q2, q3⟩, r0, r1, r2, r3⟩ := kept4 hbx (Below.refl _ _)
    have HB0 := Hid.mk hb0
    rw [show readE L [] = 4 by rw [readE, readR_nil]; rfl, show readT L [] = zeroTm by rw [readT, readR_nil]; rfl]
    clear h hx hG hN hfew h0 hb0 hbx hd hd2
    go_enter Tryd.func20, Tryd.ntmps20
    go_upto_region 1 with fail
    try rw [hW0]
    clear hW0
    go_wp2
    exact ret2_stored rfl rfl rfl rfl q0 q1 q2 q3 ⟨_, _, _, _, _, _, rfl, zero_lies _ _, Below.set4 HB0.out (Nat.le_refl _)⟩
  · obtain ⟨W1, hW1⟩ : ∃ W1, (w.alloc (.cells #[.int .i64 0, .int .i64 0, .string ⟨#[]⟩, .slice none 0 0] 25)).alloc (.cells #[.pointer (some ⟨q, 0, none⟩), .slice la xs.length lcap, .int .i64 1, .bool false] 89) = W1 := ⟨_, rfl⟩
    have hb1 : Below w.heap.size w W1 := by rw [← hW1]; exact ((Below.refl _ _).alloc (Nat.le_refl _) _).alloc (by simp) _
    have hz1 : W1.heap.size = w.heap.size + 2 := by rw [← hW1]; simp
    have hr1 : W1.heap[w.heap.size]? = some (.cells #[.int .i64 0, .int .i64 0, .string ⟨#[]⟩, .slice none 0 0] 25) := by rw [← hW1]; exact new_block1 _ _ _
    have hx1 : W1.heap[w.heap.size + 1]? = some (.cells #[.pointer (some ⟨q, 0, none⟩), .slice la xs.length lcap, .int .i64 1, .bool false] 89) := by rw [← hW1]; exact new_block2 _ _ _
    have hC : RfCtx W1 q vq L xs la lcap (w.heap.size + 1) := {
      tab := h.up hb1
      wrd := hx.below hb1
      ne := fun hk => by have := h.lt hk; omega
      nw := fun b o h0 e => by
        obtain ⟨b', o', e', hc⟩ := hx.cells h0
        rw [e] at e'
        cases e'
        have := World.block_lt_of_cell? w _ (hc 0 h0)
        simp only at this
        omega
      lt := by omega
      few := by omega
      short := hG.short }
    have hrng := hx.rng _ (List.getElem_mem (show 0 < xs.length by omega))
    have hterm := term_any hC (xs.length + 1) W1 1 xs[0] ⟨Only.refl _ _, hx1⟩ (by omega) hrng.1 hrng.2 (by omega)
    have hread := readR_one L (xs := xs) (by omega)
    have hck := Hid.mk (fun T => read_check (T := T) hG hN hx.rng (by omega))
    have hsz := Hid.mk (fun T (h : readR L xs = some T) => readR_size h)
    obtain ⟨b, o, rfl, hc⟩ := (hx.below hb1).cells (by omega)
    have c0 := hc 0 (by omega)
    rw [Nat.add_zero] at c0
    have hd3 : decide (xs.length = 0) = false := by simpa using h0
    have hd4 : ((xs.length : Int) == 0) = false := by simpa using h0
    have HR1 := Hid.mk hr1
    have HB1 := Hid.mk hb1
    have HZ1 := Hid.mk hz1
    have HTm := Hid.mk hterm
    have HFW := Hid.mk hfew
    have hle1 : (0 : Int) < xs.length := by omega
    have hle2 : 0 < xs.length := by omega
    obtain ⟨x0, hx0⟩ : ∃ x0, xs[0] = x0 := ⟨_, rfl⟩
    rw [hx0] at HTm hread c0
    have HH0 := Hid.mk h0
    clear h hx hC hrng hterm hc hr1 hb1 hz1 hx1 hfew hG hN h0 hx0
    cases hone : oneR L xs (xs.length + 1) x0 1 with
    | none =>
      rw [hone] at hread
      rw [show readE L xs = 4 by rw [readE, hread]; rfl, show readT L xs = zeroTm by rw [readT, hread]; rfl]
      clear hread
      go_enter Tryd.func20, Tryd.ntmps20
      go_upto_region 6 with fail
      try rw [hW1]
      clear hW1
      go_wp2_with (
         go_at_call 50
         refine HTm.out.mono ?_
         rintro e w2 ⟨k5, n5, s5, a5, m5, c5, rfl, ho2, hv2⟩
         rw [hone] at hv2
         obtain ⟨j2, hR2⟩ : ∃ j2, RfW W1 w2 (w.heap.size + 1) q (some ⟨b, o, none⟩) xs.length lcap j2 true := (by rcases hv2 with ⟨_, h⟩ | ⟨t, j, h, _⟩; exact h; cases h)
         obtain ⟨W3, hW3⟩ : ∃ W3, w2.alloc (.cells #[.int .i64 k5, .int .i64 n5, .string s5, .slice a5 m5 c5] 25) = W3 := ⟨_, rfl⟩
         have hb3 : Below w2.heap.size w2 W3 := (by rw [← hW3]; exact (Below.refl _ _).alloc (Nat.le_refl _) _)
         have hx3 : W3.heap[w2.heap.size]? = some (.cells #[.int .i64 k5, .int .i64 n5, .string s5, .slice a5 m5 c5] 25) := (by rw [← hW3]; exact new_block _ _)
         obtain ⟨⟨p0, p1, p2, p3⟩, _⟩ := kept4 hx3 (Below.refl _ _)
         obtain ⟨⟨d0, d1, d2, d3⟩, _, _⟩ := (hR2.up hb3).cells
         have hO3 : Only (fun k => k = w.heap.size + 1) W1 W3 := ho2.call hb3
         have hr3 := hO3.box HR1.out (by omega)
         obtain ⟨⟨q0, q1, q2, q3⟩, r0, r1, r2, r3⟩ := kept4 hr3 (Below.refl _ _)
         have hbb : Below w.heap.size W1 W3 := hO3.below (fun k hk => by omega) (by have := HZ1.out; omega)
         have HBB := Hid.mk (HB1.out.trans hbb)
         clear ho2 hb3 hx3 hO3 hr3 hR2 hbb hv2)
      exact ret2_stored rfl rfl rfl rfl q0 q1 q2 q3 ⟨_, _, _, _, _, _, rfl, zero_lies _ _, Below.set4 HBB.out (Nat.le_refl _)⟩
    | some tj =>
      obtain ⟨t, j⟩ := tj
      rw [hone] at hread
      simp only at hread
      by_cases hj : j = xs.length
      · rw [if_pos hj] at hread
        have hck0 := hck.out t hread
        have hsz0 := hsz.out t hread
        have HSZ := Hid.mk hsz0
        rw [show readE L xs = 0 by rw [readE, hread]; rfl, show readT L xs = t by rw [readT, hread]; rfl]
        have HCK := Hid.mk hck0
        clear hread hck0 hsz0 hck hsz
        go_enter Tryd.func20, Tryd.ntmps20
        go_upto_region 6 with fail
        try rw [hW1]
        clear hW1
        go_wp2_with (first
          | (
         go_at_call 50
         refine HTm.out.mono ?_
         rintro e w2 ⟨k5, n5, s5, a5, m5, c5, rfl, ho2, hv2⟩
         rw [hone] at hv2
         obtain ⟨hR2, hl2⟩ : RfW W1 w2 (w.heap.size + 1) q (some ⟨b, o, none⟩) xs.length lcap xs.length false ∧ Lies w2 (fun b => W1.heap.size ≤ b) t (.agg #[.int .i64 k5, .int .i64 n5, .string s5, .slice a5 m5 c5]) := (by rcases hv2 with ⟨h, _⟩ | ⟨t', j', h, _, h2, h3⟩; cases h; simp only [Option.some.injEq, Prod.mk.injEq] at h; obtain ⟨rfl, rfl⟩ := h; rw [hj] at h2; exact ⟨h2, h3⟩)
         obtain ⟨W3, hW3⟩ : ∃ W3, w2.alloc (.cells #[.int .i64 k5, .int .i64 n5, .string s5, .slice a5 m5 c5] 25) = W3 := ⟨_, rfl⟩
         have hb3 : Below w2.heap.size w2 W3 := (by rw [← hW3]; exact (Below.refl _ _).alloc (Nat.le_refl _) _)
         have hx3 : W3.heap[w2.heap.size]? = some (.cells #[.int .i64 k5, .int .i64 n5, .string s5, .slice a5 m5 c5] 25) := (by rw [← hW3]; exact new_block _ _)
         obtain ⟨⟨p0, p1, p2, p3⟩, _⟩ := kept4 hx3 (Below.refl _ _)
         obtain ⟨⟨d0, d1, d2, d3⟩, _, _⟩ := (hR2.up hb3).cells
         have hO3 : Only (fun k => k = w.heap.size + 1) W1 W3 := ho2.call hb3
         have hr3 := hO3.box HR1.out (by omega)
         obtain ⟨⟨q0, q1, q2, q3⟩, r0, r1, r2, r3⟩ := kept4 hr3 (Below.refl _ _)
         have hbb : Below w.heap.size W1 W3 := hO3.below (fun k hk => by omega) (by have := HZ1.out; omega)
         have HBB := Hid.mk (HB1.out.trans hbb)
         have HV := Hid.mk (hl2.below hb3)
         have HX3 := Hid.mk hx3
         have HR3 := Hid.mk hr3
         clear hl2; clear ho2 hb3 hx3 hO3 hr3 hR2 hbb hv2)
          | (go_at_call 44; refine (refcheck_any t (by have := HSZ.out; have := HFW.out; omega) _ _ _ HV.out).mono ?_; rintro e w4 ⟨rfl, hb4⟩; rw [HCK.out]; clear p0 p1 p2 p3 q0 q1 q2 q3 r0 r1 r2 r3; obtain ⟨⟨p0, p1, p2, p3⟩, _⟩ := kept4 HX3.out hb4; obtain ⟨⟨q0, q1, q2, q3⟩, r0, r1, r2, r3⟩ := kept4 HR3.out hb4; have HB4 := Hid.mk hb4; clear hb4))
        refine ret2_stored rfl rfl rfl rfl q0 q1 q2 q3 ⟨_, _, _, _, _, _, rfl, ?_, Below.set4 (HBB.out.trans (HB4.out.mono HBB.out.size)) (Nat.le_refl _)⟩
        have hz := HZ1.out
        exact (HV.out.below HB4.out).move (fun b hb => by omega) (fun b o u hb hc => by
          rw [World.cell?_of_block (w := w4) (a := ⟨b, o, none⟩) (set4_heap _ _ _ _ _ _ _ (by show b ≠ w.heap.size; omega))]
          exact hc) _ _
      · rw [if_neg hj] at hread
        rw [show readE L xs = 4 by rw [readE, hread]; rfl, show readT L xs = zeroTm by rw [readT, hread]; rfl]
        clear hread hck hsz
        have f1 : ((j : Int) == xs.length) = false := by simp; omega
        have f2 : ((j : Int) != xs.length) = true := by simp; omega
        have f3 : (j == xs.length) = false := by simpa using hj
        go_enter Tryd.func20, Tryd.ntmps20
        go_upto_region 6 with fail
        try rw [hW1]
        clear hW1
        go_wp2_with (
         go_at_call 50
         refine HTm.out.mono ?_
         rintro e w2 ⟨k5, n5, s5, a5, m5, c5, rfl, ho2, hv2⟩
         rw [hone] at hv2
         obtain hR2 : RfW W1 w2 (w.heap.size + 1) q (some ⟨b, o, none⟩) xs.length lcap j false := (by rcases hv2 with ⟨h, _⟩ | ⟨t', j', h, _, h2, h3⟩; cases h; simp only [Option.some.injEq, Prod.mk.injEq] at h; obtain ⟨rfl, rfl⟩ := h; exact h2)
         obtain ⟨W3, hW3⟩ : ∃ W3, w2.alloc (.cells #[.int .i64 k5, .int .i64 n5, .string s5, .slice a5 m5 c5] 25) = W3 := ⟨_, rfl⟩
         have hb3 : Below w2.heap.size w2 W3 := (by rw [← hW3]; exact (Below.refl _ _).alloc (Nat.le_refl _) _)
         have hx3 : W3.heap[w2.heap.size]? = some (.cells #[.int .i64 k5, .int .i64 n5, .string s5, .slice a5 m5 c5] 25) := (by rw [← hW3]; exact new_block _ _)
         obtain ⟨⟨p0, p1, p2, p3⟩, _⟩ := kept4 hx3 (Below.refl _ _)
         obtain ⟨⟨d0, d1, d2, d3⟩, _, _⟩ := (hR2.up hb3).cells
         have hO3 : Only (fun k => k = w.heap.size + 1) W1 W3 := ho2.call hb3
         have hr3 := hO3.box HR1.out (by omega)
         obtain ⟨⟨q0, q1, q2, q3⟩, r0, r1, r2, r3⟩ := kept4 hr3 (Below.refl _ _)
         have hbb : Below w.heap.size W1 W3 := hO3.below (fun k hk => by omega) (by have := HZ1.out; omega)
         have HBB := Hid.mk (HB1.out.trans hbb)
         clear ho2 hb3 hx3 hO3 hr3 hR2 hbb hv2)
        exact ret2_stored rfl rfl rfl rfl q0 q1 q2 q3 ⟨_, _, _, _, _, _, rfl, zero_lies _ _, Below.set4 HBB.out (Nat.le_refl _)⟩
end Go.Proofs.YthkjdcmlalgphaaDoor

/-
  Part of the document's answers.
-/
namespace Go.Proofs.YthkjdcmlalgphaaDoor
open Go.RowKit Go.Deep

/-- What is left behind: words, and a table of the document's. -/
structure FlatRG (w : World) (q : Nat) (v : Value) (L' : List ByteArray) (ws : List Int) (rv v' : Value) (w' : World) : Prop where
  row : Wds w' rv ws
  own : ∀ g, rv.ownBlock = some g → (MineR q v g ∨ w.heap.size ≤ g) ∧ ¬ MineR q v' g
  tab : RTab w' q v' L'
  only : Only (MineR q v) w w'
  mine : ∀ k, MineR q v' k → MineR q v k ∨ w.heap.size ≤ k
theorem FlatRR.g {w w' : World} {q : Nat} {v : Value} {T : Tm} {L : List ByteArray} {rv v' : Value} (h : FlatRR w q v T L rv v' w') : FlatRG w q v (flatL T L) (flatW T L) rv v' w' := ⟨h.row, h.own, h.tab, h.only, h.mine⟩
theorem FlatRG.none {w w' : World} {q : Nat} {v : Value} {L : List ByteArray} (hT : RTab w q v L) (hb : Below w.heap.size w w') : FlatRG w q v L [] (.slice none 0 0) v w' :=
  ⟨World.ownsRow_nil _ _ _ _, fun g hg => (by cases hg), hT.up hb, Only.up hb, fun k hk => Or.inl hk⟩
theorem FlatRG.from {w w1 w' : World} {q : Nat} {v : Value} {L' : List ByteArray} {ws : List Int} {rv v' : Value} (hb : Below w.heap.size w w1) (h : FlatRG w1 q v L' ws rv v' w') : FlatRG w q v L' ws rv v' w' :=
  ⟨h.row, fun g hg => ⟨(h.own g hg).1.imp id (fun e => Nat.le_trans hb.size e), (h.own g hg).2⟩, h.tab, (Only.up hb).trans h.only (fun _ hi => Or.inl hi), fun k hk => (h.mine k hk).imp id (fun e => Nat.le_trans hb.size e)⟩

set_option maxHeartbeats 4000000 in
set_option maxRecDepth 100000 in
theorem partRf_any (q : Nat) (v : Value) (L : List ByteArray) (xs : List Int) (la : Option Addr) (lcap : Nat) (n : Int) (w : World) (h : RTab w q v L) (hx : Wrd w xs la lcap) (hG : Good L) (hN : Nub L) (hfew : xs.length ≤ 60000)
    (hn0 : -9223372036854775808 ≤ n) (hn1 : n ≤ 9223372036854775807) :
    Calls Tryd.prog 22 #[.pointer (some ⟨q, 0, none⟩), .slice la xs.length lcap, .int .i64 n] w fun e w' => ∃ rv v', e = .returned (.tuple #[rv, .int .i64 (partE L xs n)]) ∧ FlatRG w q v (partL L xs n) (partW L xs n) rv v' w' := by
  have hread := readRf_any q v L xs la lcap w h hx hG hN hfew
  have HT := Hid.mk h
  have HN := Hid.mk (show -9223372036854775808 ≤ n ∧ n ≤ 9223372036854775807 from ⟨hn0, hn1⟩)
  have HFW := Hid.mk hfew
  clear h hx hG hN hfew hn0 hn1
  cases hr : readR L xs with
  | none =>
    have e0 : partT L xs n = none := by rw [partT, hr]
    have e1 : partE L xs n = 4 := by rw [partE, e0, hr]; rfl
    have e2 : partL L xs n = L := by rw [partL, e0]
    have e3 : partW L xs n = [] := by rw [partW, e0]
    rw [e1, e2, e3]
    rw [show readE L xs = 4 by rw [readE, hr]; rfl, show readT L xs = zeroTm by rw [readT, hr]; rfl] at hread
    have HRD := Hid.mk hread
    clear hread hr e0 e1 e2 e3
    go_enter Tryd.func22, Tryd.ntmps22
    go_wp2_with (go_at_call 20; refine HRD.out.mono ?_; rintro e w2 ⟨k5, n5, s5, a5, m5, c5, rfl, hv2, hb2⟩; have HB2 := Hid.mk hb2; clear hb2 hv2)
    go_ret2
    exact ⟨.slice none 0 0, v, rfl, FlatRG.none HT.out (HB2.out.alloc HB2.out.size _)⟩
  | some T =>
    obtain ⟨k, nn, s, l⟩ := T
    have hsize := readR_size hr
    rw [Tm.size_mk] at hsize
    have hll := length_sizes l
    rw [show readE L xs = 0 by rw [readE, hr]; rfl, show readT L xs = .mk k nn s l by rw [readT, hr]; rfl] at hread
    have HRD := Hid.mk hread
    clear hread
    by_cases hc : k = 7 ∧ 1 ≤ n ∧ n ≤ l.length
    · obtain ⟨rfl, hn1, hn2⟩ := hc
      have hlt : (n - 1).toNat < l.length := by omega
      have e0 : partT L xs n = some l[(n - 1).toNat] := by rw [partT, hr]; exact (if_pos ⟨rfl, hn1, hn2⟩).trans (List.getElem?_eq_getElem hlt)
      have e1 : partE L xs n = flatE l[(n - 1).toNat] L := by rw [partE, e0]
      have e2 : partL L xs n = flatL l[(n - 1).toNat] L := by rw [partL, e0]
      have e3 : partW L xs n = flatW l[(n - 1).toNat] L := by rw [partW, e0]
      rw [e1, e2, e3]
      have hts : l[(n - 1).toNat].size ≤ 400000 := by
        have := size_mem (List.getElem_mem hlt)
        have := HFW.out
        omega
      have d1 : decide (n < 1) = false := by rw [decide_eq_false_iff_not]; omega
      have d2 : decide ((l.length : Int) < n) = false := by rw [decide_eq_false_iff_not]; omega
      have d4 : ¬ n < 1 := by omega
      have d5 : ¬ (l.length : Int) < n := by omega
      have hwn : IntKind.i64.wrap (n - 1) = (((n - 1).toNat : Nat) : Int) := by have := HN.out; rw [wrap_id (by omega) (by omega)]; omega
      clear e0 e1 e2 e3
      generalize hj : (n - 1).toNat = j at *
      have HTS := Hid.mk hts
      have HLT := Hid.mk hlt
      have hd3 : decide ((j : Int) < l.length) = true := by rw [decide_eq_true_eq]; omega
      clear hr hsize hll hts hj
      go_enter Tryd.func22, Tryd.ntmps22
      go_wp2_with (first
        | (go_at_call 20; refine HRD.out.mono ?_; rintro e w2 ⟨k5, n5, s5, a5, m5, c5, rfl, hv2, hb2⟩
           obtain ⟨a6, c6, hv, hsm, hl2⟩ := hv2.out
           simp only [Value.agg.injEq, Array.mk.injEq, List.cons.injEq, Value.int.injEq, Value.string.injEq, Value.slice.injEq, true_and, and_true] at hv
           obtain ⟨rfl, rfl, rfl, rfl, rfl, rfl⟩ := hv
           obtain ⟨W3, hW3⟩ : ∃ W3, w2.alloc (.cells #[.int .i64 7, .int .i64 n5, .string s5, .slice a5 l.length c5] 25) = W3 := ⟨_, rfl⟩
           have hb3 : Below w2.heap.size w2 W3 := (by rw [← hW3]; exact (Below.refl _ _).alloc (Nat.le_refl _) _)
           have hx3 : W3.heap[w2.heap.size]? = some (.cells #[.int .i64 7, .int .i64 n5, .string s5, .slice a5 l.length c5] 25) := (by rw [← hW3]; exact new_block _ _)
           obtain ⟨⟨p0, p1, p2, p3⟩, _⟩ := kept4 hx3 (Below.refl _ _)
           have hbb : Below w.heap.size w W3 := hb2.trans (hb3.mono hb2.size)
           obtain ⟨b, o, rfl, hSb, hrow⟩ := (hl2.below hb3).some (by have := HLT.out; omega)
           obtain ⟨k', n', s', m', a', cap', hTt, c0, c1, c2, c3, hli⟩ := hrow.part j HLT.out
           have HLI := Hid.mk hli
           have HBB := Hid.mk hbb
           clear hb2 hb3 hx3 hv2 hl2 hrow hli hTt hbb)
        | (go_at_call 13; refine (flattenR_any _ _ _ _ q v L (HT.out.up HBB.out) HLI.out (fun b hb hk => by have := HT.out.lt hk; omega) HTS.out).mono ?_; rintro e w4 ⟨rv, v4, rfl, h4⟩; have H4 := Hid.mk h4; clear h4))
      go_ret2
      exact ⟨rv, v4, rfl, FlatRG.from HBB.out H4.out.g⟩
    · have e0 : partT L xs n = none := by rw [partT, hr]; exact if_neg hc
      have e1 : partE L xs n = 2 := by rw [partE, e0, hr]; rfl
      have e2 : partL L xs n = L := by rw [partL, e0]
      have e3 : partW L xs n = [] := by rw [partW, e0]
      rw [e1, e2, e3]
      clear e0 e1 e2 e3 hr hsize hll
      have hcases : k ≠ 7 ∨ (k = 7 ∧ n < 1) ∨ (k = 7 ∧ 1 ≤ n ∧ (l.length : Int) < n) := by omega
      clear hc
      rcases hcases with h7 | ⟨rfl, h1⟩ | ⟨rfl, h1, h2⟩
      · have d7 : (k == 7) = false := by simpa using h7
        have e7 : (k != 7) = true := by simpa using h7
        have f7 : ¬ k = 7 := h7
        clear h7
        go_enter Tryd.func22, Tryd.ntmps22
        go_wp2_with (go_at_call 20; refine HRD.out.mono ?_; rintro e w2 ⟨k5, n5, s5, a5, m5, c5, rfl, hv2, hb2⟩; obtain ⟨a6, c6, hv, hsm, hl2⟩ := hv2.out; simp only [Value.agg.injEq, Array.mk.injEq, List.cons.injEq, Value.int.injEq, Value.string.injEq, Value.slice.injEq, true_and, and_true] at hv; obtain ⟨rfl, rfl, rfl, rfl, rfl, rfl⟩ := hv; have HB2 := Hid.mk hb2; clear hb2 hv2 hl2 hsm)
        go_ret2
        exact ⟨.slice none 0 0, v, rfl, FlatRG.none HT.out (HB2.out.alloc HB2.out.size _)⟩
      · have d1 : decide (n < 1) = true := by rw [decide_eq_true_eq]; omega
        clear h1
        go_enter Tryd.func22, Tryd.ntmps22
        go_wp2_with (go_at_call 20; refine HRD.out.mono ?_; rintro e w2 ⟨k5, n5, s5, a5, m5, c5, rfl, hv2, hb2⟩; obtain ⟨a6, c6, hv, hsm, hl2⟩ := hv2.out; simp only [Value.agg.injEq, Array.mk.injEq, List.cons.injEq, Value.int.injEq, Value.string.injEq, Value.slice.injEq, true_and, and_true] at hv; obtain ⟨rfl, rfl, rfl, rfl, rfl, rfl⟩ := hv; have HB2 := Hid.mk hb2; clear hb2 hv2 hl2 hsm)
        go_ret2
        exact ⟨.slice none 0 0, v, rfl, FlatRG.none HT.out (HB2.out.alloc HB2.out.size _)⟩
      · have d1 : decide (n < 1) = false := by rw [decide_eq_false_iff_not]; omega
        have d2 : decide ((l.length : Int) < n) = true := by rw [decide_eq_true_eq]; omega
        have d3 : ¬ n < 1 := by omega
        go_enter Tryd.func22, Tryd.ntmps22
        go_wp2_with (go_at_call 20; refine HRD.out.mono ?_; rintro e w2 ⟨k5, n5, s5, a5, m5, c5, rfl, hv2, hb2⟩; obtain ⟨a6, c6, hv, hsm, hl2⟩ := hv2.out; simp only [Value.agg.injEq, Array.mk.injEq, List.cons.injEq, Value.int.injEq, Value.string.injEq, Value.slice.injEq, true_and, and_true] at hv; obtain ⟨rfl, rfl, rfl, rfl, rfl, rfl⟩ := hv; have HB2 := Hid.mk hb2; clear hb2 hv2 hl2 hsm)
        go_ret2
        exact ⟨.slice none 0 0, v, rfl, FlatRG.none HT.out (HB2.out.alloc HB2.out.size _)⟩
end Go.Proofs.YthkjdcmlalgphaaDoor

/-
  Steps of a table: what lies beside it is kept.
-/
namespace Go.Proofs.YthkjdcmlalgphaaDoor
open Go.RowKit Go.Deep

/-- A block that is there and is none of a table's. -/
def Safe (w : World) (p bm : Nat) (v : Value) (b : Nat) : Prop := b < w.heap.size ∧ ¬ Mine p bm v b
/-- A step: only the table's own blocks are written, and it takes just new ones. -/
structure Nx (p bm : Nat) (w : World) (v : Value) (w' : World) (v' : Value) : Prop where
  only : Only (Mine p bm v) w w'
  mine : ∀ k, Mine p bm v' k → Mine p bm v k ∨ w.heap.size ≤ k
theorem Nx.refl (p bm : Nat) (w : World) (v : Value) : Nx p bm w v w v := ⟨Only.refl _ _, fun _ h => Or.inl h⟩
theorem Nx.trans {p bm : Nat} {w w1 w2 : World} {v v1 v2 : Value} (h : Nx p bm w v w1 v1) (k : Nx p bm w1 v1 w2 v2) : Nx p bm w v w2 v2 :=
  ⟨h.only.trans k.only h.mine, fun i hi => (k.mine i hi).elim (h.mine i) (fun e => Or.inr (Nat.le_trans h.only.size e))⟩
theorem Nx.up {p bm : Nat} {w w' : World} {v : Value} (hb : Below w.heap.size w w') : Nx p bm w v w' v := ⟨Only.up hb, fun _ h => Or.inl h⟩
theorem Nx.then_ {p bm : Nat} {w w1 w2 : World} {v v1 : Value} (h : Nx p bm w v w1 v1) (hb : Below w1.heap.size w1 w2) : Nx p bm w v w2 v1 := h.trans (Nx.up hb)
theorem FlatG.nx {w w' : World} {p bm : Nat} {v v' rv : Value} {L : List ByteArray} {ws : List Int} (h : FlatG w p bm v L ws rv v' w') : Nx p bm w v w' v' := ⟨h.only, h.mine⟩
theorem FlatR.nx {w w' : World} {p bm : Nat} {v v' rv : Value} {T : Tm} {L : List ByteArray} (h : FlatR w p bm v T L rv v' w') : Nx p bm w v w' v' := ⟨h.only, h.mine⟩
theorem Nx.safe {p bm : Nat} {w w' : World} {v v' : Value} (h : Nx p bm w v w' v') {b : Nat} (hb : Safe w p bm v b) : Safe w' p bm v' b :=
  ⟨Nat.lt_of_lt_of_le hb.1 h.only.size, fun hk => (h.mine b hk).elim hb.2 (fun e => by have := hb.1; omega)⟩
theorem Nx.block {p bm : Nat} {w w' : World} {v v' : Value} (h : Nx p bm w v w' v') {b : Nat} (hb : Safe w p bm v b) : w'.heap[b]? = w.heap[b]? := h.only.block b hb.1 hb.2
theorem Nx.heap {p bm : Nat} {w w' : World} {v v' : Value} (h : Nx p bm w v w' v') {b : Nat} {o : Obj} (hb : Safe w p bm v b) (ho : w.heap[b]? = some o) : w'.heap[b]? = some o := (h.block hb).trans ho
theorem Nx.cell {p bm : Nat} {w w' : World} {v v' : Value} (h : Nx p bm w v w' v') {b o : Nat} {u : Value} (hb : Safe w p bm v b) (hc : w.cell? ⟨b, o, none⟩ = some u) : w'.cell? ⟨b, o, none⟩ = some u := by
  rw [World.cell?_of_block (w := w) (w' := w') (h.block hb)]; exact hc
theorem Nx.lies {p bm : Nat} {w w' : World} {v v' : Value} (h : Nx p bm w v w' v') {T : Tm} {tv : Value} (hT : Lies w (Safe w p bm v) T tv) : Lies w' (Safe w' p bm v') T tv :=
  (h.only.lies (S := Safe w p bm v) (fun _ hb => hb) hT).move (fun _ hb => h.safe hb) (fun _ _ _ _ hc => hc) _ _
theorem Nx.wds {p bm : Nat} {w w' : World} {v v' rv : Value} (h : Nx p bm w v w' v') {xs : List Int} (hs : ∀ g, rv.ownBlock = some g → Safe w p bm v g) (hr : Wds w rv xs) : Wds w' rv xs :=
  hr.kept h.only (fun g hg => (hs g hg).2)
theorem Nx.below {p bm B : Nat} {w w' : World} {v v' : Value} (h : Nx p bm w v w' v') (hm : ∀ k, Mine p bm v k → B ≤ k) (hB : B ≤ w.heap.size) : Below B w w' := h.only.below hm hB
theorem FlatG.safe {w w' : World} {p bm : Nat} {v v' rv : Value} {L : List ByteArray} {ws : List Int} (h : FlatG w p bm v L ws rv v' w') : ∀ g, rv.ownBlock = some g → Safe w' p bm v' g := fun g hg => ⟨h.row.block_lt hg, (h.own g hg).2⟩
theorem FlatR.safe {w w' : World} {p bm : Nat} {v v' rv : Value} {T : Tm} {L : List ByteArray} (h : FlatR w p bm v T L rv v' w') : ∀ g, rv.ownBlock = some g → Safe w' p bm v' g := h.g.safe
theorem Nx.mineB {p bm B : Nat} {w w' : World} {v v' : Value} (h : Nx p bm w v w' v') (hm : ∀ k, Mine p bm v k → B ≤ k) (hB : B ≤ w.heap.size) : ∀ k, Mine p bm v' k → B ≤ k := fun k hk => (h.mine k hk).elim (hm k) (fun e => Nat.le_trans hB e)
theorem Tab.safe_new {w w' : World} {p bm : Nat} {v : Value} {L : List ByteArray} (h : Tab w p bm v L) {b : Nat} (h1 : w.heap.size ≤ b) (h2 : b < w'.heap.size) : Safe w' p bm v b := ⟨h2, fun hk => by have := h.lt hk; omega⟩
/-- What is laid anew is no table's. -/
theorem Tab.lies_new {w w' : World} {p bm : Nat} {v : Value} {L : List ByteArray} (h : Tab w p bm v L) {T : Tm} {tv : Value} (hT : Lies w' (fun b => w.heap.size ≤ b) T tv) : Lies w' (Safe w' p bm v) T tv :=
  (Lies.inside T _ hT).move (fun _ hb => h.safe_new hb.1 hb.2) (fun _ _ _ _ hc => hc) _ _
theorem kids_rng (F : List ByteArray) : ∀ (l : List Tm), (∀ t ∈ l, ∀ p, ∀ x ∈ t.laid F p, 0 ≤ x ∧ x < 18446744073709551616) → ∀ q, (∀ x ∈ (kids F l q).1, 0 ≤ x ∧ x < 18446744073709551616) ∧ ∀ x ∈ (kids F l q).2, 0 ≤ x ∧ x < 18446744073709551616
  | [], _, q => by rw [kids_nil]; exact ⟨fun x hx => (by cases hx), fun x hx => (by cases hx)⟩
  | t :: r, h, q => by
    have ih := kids_rng F r (fun u hu => h u (List.mem_cons_of_mem _ hu)) (q + (t.laid F q).length)
    rw [kids_cons]
    refine ⟨fun x hx => ?_, fun x hx => ?_⟩
    · rcases List.mem_cons.1 hx with rfl | hx
      · obtain ⟨k, n, s, l⟩ := t; rw [own_mk]; exact Wd.packW_bd _ _
      · exact ih.1 x hx
    · rcases List.mem_append.1 hx with hx | hx
      · exact h t (List.mem_cons_self ..) _ x hx
      · exact ih.2 x hx
theorem flat_rng (F : List ByteArray) (T : Tm) : ∀ p, ∀ x ∈ T.laid F p, 0 ≤ x ∧ x < 18446744073709551616 := by
  induction T using Tm.induct with
  | h k n s l ih =>
    intro p x hx
    rw [laid_mk] at hx
    rcases List.mem_append.1 hx with hx | hx
    · rcases List.mem_append.1 hx with hx | hx
      · rw [leadW] at hx
        split at hx
        · obtain rfl := List.mem_singleton.1 hx; exact Wd.packW_bd _ _
        · split at hx
          · obtain rfl := List.mem_singleton.1 hx; exact Wd.packW_bd _ _
          · cases hx
      · exact (kids_rng F l ih _).1 x hx
    · exact (kids_rng F l ih _).2 x hx
theorem flatW_rng (T : Tm) (L : List ByteArray) : ∀ x ∈ flatW T L, 0 ≤ x ∧ x < 18446744073709551616 := by
  intro x hx
  rw [flatW] at hx
  split at hx
  · rw [Tm.flat] at hx
    rcases List.mem_cons.1 hx with rfl | hx
    · obtain ⟨k, n, s, l⟩ := T; rw [own_mk]; exact Wd.packW_bd _ _
    · exact flat_rng _ T 1 x hx
  · cases hx
theorem Wds.wrd {w : World} {rv : Value} {xs : List Int} (h : Wds w rv xs) (hr : ∀ x ∈ xs, 0 ≤ x ∧ x < 18446744073709551616) : ∃ a cap, rv = .slice a xs.length cap ∧ Wrd w xs a cap := by
  rcases h.shape with ⟨rfl, rfl⟩ | ⟨g, cap, rfl, h1, h2, _, hc⟩
  · exact ⟨none, 0, rfl, ⟨⟨Nat.le_refl _, Nat.zero_le _⟩, hr, fun h => by cases h⟩⟩
  · exact ⟨_, cap, rfl, ⟨⟨h1, by rw [maxLen] at h2; omega⟩, hr, fun _ => ⟨g, 0, rfl, fun j hj => by rw [Nat.zero_add]; exact hc j hj⟩⟩⟩
end Go.Proofs.YthkjdcmlalgphaaDoor

/-
  A table of atoms and what has been laid beside it; Flatten, Read and Part of it.
-/
namespace Go.Proofs.YthkjdcmlalgphaaDoor
open Go.RowKit Go.Deep

/-- The words of a slice, beside a table. -/
def Wx (w : World) (p bm : Nat) (v rv : Value) (xs : List Int) : Prop := Wds w rv xs ∧ ∀ g, rv.ownBlock = some g → Safe w p bm v g
theorem Wx.step {w w' : World} {p bm : Nat} {v v' rv : Value} {xs : List Int} (h : Wx w p bm v rv xs) (n : Nx p bm w v w' v') : Wx w' p bm v' rv xs := ⟨n.wds h.2 h.1, fun g hg => n.safe (h.2 g hg)⟩
theorem Wx.up {w w' : World} {p bm : Nat} {v rv : Value} {xs : List Int} (h : Wx w p bm v rv xs) (hb : Below w.heap.size w w') : Wx w' p bm v rv xs := h.step (Nx.up hb)
theorem Wds.celA {w : World} {a : Option Addr} {n cap : Nat} {xs : List Int} (h : Wds w (.slice a n cap) xs) : Cel w xs a := by
  obtain ⟨a', cap', he, _, _, hc⟩ := h.cel
  simp only [Value.slice.injEq] at he
  rw [he.1]; exact hc
theorem Wx.cel {w : World} {p bm : Nat} {v : Value} {a : Option Addr} {n cap : Nat} {xs : List Int} (h : Wx w p bm v (.slice a n cap) xs) : Cel w xs a := h.1.celA
theorem Wx.wrd {w : World} {p bm : Nat} {v : Value} {a : Option Addr} {n cap : Nat} {xs : List Int} (h : Wx w p bm v (.slice a n cap) xs) (hr : ∀ x ∈ xs, 0 ≤ x ∧ x < 18446744073709551616) : Wrd w xs a cap := by
  obtain ⟨a', cap', he, hw⟩ := h.1.wrd hr
  simp only [Value.slice.injEq] at he
  rw [he.1, he.2.2]; exact hw

/-- A table made since a world, each atom of it once; all that was there then is as it was. -/
structure FS (p bm : Nat) (w0 w : World) (v : Value) (L : List ByteArray) : Prop where
  tab : Tab w p bm v L
  mine : ∀ k, Mine p bm v k → w0.heap.size ≤ k
  below : Below w0.heap.size w0 w
  nub : Nub L
theorem FS.step {p bm : Nat} {w0 w w' : World} {v v' : Value} {L L' : List ByteArray} (h : FS p bm w0 w v L) (n : Nx p bm w v w' v') (t : Tab w' p bm v' L') (hn : Nub L') : FS p bm w0 w' v' L' :=
  ⟨t, n.mineB h.mine h.below.size, h.below.trans (n.below h.mine h.below.size), hn⟩
theorem FS.up {p bm : Nat} {w0 w w' : World} {v : Value} {L : List ByteArray} (h : FS p bm w0 w v L) (hb : Below w.heap.size w w') : FS p bm w0 w' v L := h.step (Nx.up hb) (h.tab.up hb) h.nub
theorem flatL_nub {T : Tm} {L : List ByteArray} (h : Nub L) : Nub (flatL T L) := by
  rw [flatL]
  split
  · exact nums_keeps (P := Nub) (fun _ s h => Nub.put h s) T L h
  · exact h
theorem partL_nub {xs : List Int} {n : Int} {L : List ByteArray} (h : Nub L) : Nub (partL L xs n) := by
  rw [partL]
  split
  · exact h
  · exact flatL_nub h
theorem FS.words {p bm : Nat} {w0 w : World} {v : Value} {L : List ByteArray} (h : FS p bm w0 w v L) (hW : WordTab w0) : ¬ Mine p bm v 1 := fun hk => by have := h.mine _ hk; have := hW.size; omega
theorem FS.flatten {p bm : Nat} {w0 w : World} {v : Value} {L : List ByteArray} (h : FS p bm w0 w v L) (hW : WordTab w0) (hH : ShapeTab w0) {T : Tm} {tv : Value} (hT : Lies w (Safe w p bm v) T tv) (hsz : T.size ≤ 400000) :
    Calls Tryd.prog 12 #[.pointer (some ⟨p, 0, none⟩), tv] w fun e w' => ∃ (ra : Option Addr) (rcap : Nat) (v' : Value), e = .returned (.tuple #[.slice ra (flatW T L).length rcap, .int .i64 (flatE T L)]) ∧ FS p bm w0 w' v' (flatL T L) ∧ Wx w' p bm v' (.slice ra (flatW T L).length rcap) (flatW T L) ∧ Nx p bm w v w' v' :=
  (flatten_any T _ tv w p bm v L h.tab hT (fun b hb => hb.2) hsz (hW.below h.below) (hH.below h.below) (h.words hW)).mono (by
    rintro e w' ⟨rv, v', rfl, h4⟩
    obtain ⟨ra, rcap, rfl, _⟩ := h4.row.cel
    exact ⟨ra, rcap, v', rfl, h.step h4.nx h4.tab (flatL_nub h.nub), ⟨h4.row, h4.safe⟩, h4.nx⟩)
theorem FS.read {p bm : Nat} {w0 w : World} {v : Value} {L : List ByteArray} (h : FS p bm w0 w v L) (hW : WordTab w0) {xs : List Int} {la : Option Addr} {lcap : Nat} (hx : Wrd w xs la lcap) (hl : xs.length ≤ 60000) :
    Calls Tryd.prog 19 #[.pointer (some ⟨p, 0, none⟩), .slice la xs.length lcap] w fun e w' => ∃ (k' n' : Int) (s' : ByteArray) (a' : Option Addr) (m' c' : Nat), e = .returned (.tuple #[.agg #[.int .i64 k', .int .i64 n', .string s', .slice a' m' c'], .int .i64 (readE L xs)]) ∧
      FS p bm w0 w' v L ∧ Lies w' (Safe w' p bm v) (readT L xs) (.agg #[.int .i64 k', .int .i64 n', .string s', .slice a' m' c']) ∧ Below w.heap.size w w' :=
  (readF_any p bm v L xs la lcap w h.tab hx (hW.below h.below) hl).mono (by
    rintro e w' ⟨k5, n5, s5, a5, m5, c5, rfl, hl5, hb5⟩
    exact ⟨k5, n5, s5, a5, m5, c5, rfl, h.up hb5, h.tab.lies_new hl5, hb5⟩)
theorem FS.part {p bm : Nat} {w0 w : World} {v : Value} {L : List ByteArray} (h : FS p bm w0 w v L) (hW : WordTab w0) (hH : ShapeTab w0) {xs : List Int} {la : Option Addr} {lcap : Nat} (hx : Wrd w xs la lcap) (hl : xs.length ≤ 60000) (n : Int) (hn0 : -9223372036854775808 ≤ n) (hn1 : n ≤ 9223372036854775807) :
    Calls Tryd.prog 21 #[.pointer (some ⟨p, 0, none⟩), .slice la xs.length lcap, .int .i64 n] w fun e w' => ∃ (ra : Option Addr) (rcap : Nat) (v' : Value), e = .returned (.tuple #[.slice ra (partW L xs n).length rcap, .int .i64 (partE L xs n)]) ∧
      FS p bm w0 w' v' (partL L xs n) ∧ Wx w' p bm v' (.slice ra (partW L xs n).length rcap) (partW L xs n) ∧ Nx p bm w v w' v' :=
  (partF_any p bm v L xs la lcap n w h.tab hx (hW.below h.below) (hH.below h.below) (h.words hW) hl hn0 hn1).mono (by
    rintro e w' ⟨rv, v', rfl, h4⟩
    obtain ⟨ra, rcap, rfl, _⟩ := h4.row.cel
    exact ⟨ra, rcap, v', rfl, h.step h4.nx h4.tab (partL_nub h.nub), ⟨h4.row, h4.safe⟩, h4.nx⟩)
/-- A block with words in it, beside a table. -/
theorem cel_at {w : World} {g : Nat} {xs : List Int} {t : TypeId} (h : w.heap[g]? = some (.cells (xs.map (Value.int .u64)).toArray t)) : Cel w xs (some ⟨g, 0, none⟩) := fun _ =>
  ⟨g, 0, rfl, fun j hj => by simp [World.cell?, h, hj]⟩
theorem wrd_at {w : World} {g n : Nat} {xs : List Int} {t : TypeId} (h : w.heap[g]? = some (.cells (xs.map (Value.int .u64)).toArray t)) (hr : ∀ x ∈ xs, 0 ≤ x ∧ x < 18446744073709551616) (hn : n ≤ xs.length) {cap : Nat} (hc : n ≤ cap) (hc2 : cap ≤ 9223372036854775807) :
    Wrd w (xs.take n) (some ⟨g, 0, none⟩) cap :=
  ⟨⟨by rw [List.length_take]; omega, hc2⟩, fun x hx => hr x (List.mem_of_mem_take hx), fun _ => ⟨g, 0, rfl, fun j hj => by
    have : j < xs.length := by rw [List.length_take] at hj; omega
    simp [World.cell?, h, this]⟩⟩
end Go.Proofs.YthkjdcmlalgphaaDoor
