/-
  A term is built, and got.
-/
import Derived.Test.YtaiiicmldogjoaaDoorZHeapJ
import Derived.Test.YtaiiicmldogjoaaDoorZFlatRd
namespace Go.Proofs.YtaiiicmldogjoaaDoor
open Go.RowKit Go.Deep Go.Maps Go.WideShapes

theorem five (w : World) (o0 o1 o2 o3 o4 : Obj) : let W0 := ((((w.alloc o0).alloc o1).alloc o2).alloc o3).alloc o4
    W0.heap[w.heap.size]? = some o0 ∧ W0.heap[w.heap.size + 1]? = some o1 ∧ W0.heap[w.heap.size + 1 + 1]? = some o2 ∧ W0.heap[w.heap.size + 1 + 1 + 1]? = some o3 ∧ W0.heap[w.heap.size + 1 + 1 + 1 + 1]? = some o4 ∧ W0.heap.size = w.heap.size + 1 + 1 + 1 + 1 + 1 ∧ Below w.heap.size w W0 := by
  refine ⟨?_, ?_, ?_, ?_, ?_, ?_, (Up.refl w).alloc.alloc.alloc.alloc.alloc.out⟩
  · have h := heap_alloc_new w o0
    exact old_block (old_block (old_block (old_block h o1) o2) o3) o4
  · have h := heap_alloc_new (w.alloc o0) o1
    rw [World.size_alloc] at h
    exact old_block (old_block (old_block h o2) o3) o4
  · have h := heap_alloc_new ((w.alloc o0).alloc o1) o2
    rw [World.size_alloc, World.size_alloc] at h
    exact old_block (old_block h o3) o4
  · have h := heap_alloc_new (((w.alloc o0).alloc o1).alloc o2) o3
    rw [World.size_alloc, World.size_alloc, World.size_alloc] at h
    exact old_block h o4
  · have h := heap_alloc_new ((((w.alloc o0).alloc o1).alloc o2).alloc o3) o4
    rw [World.size_alloc, World.size_alloc, World.size_alloc, World.size_alloc] at h
    exact h
  · rw [World.size_alloc, World.size_alloc, World.size_alloc, World.size_alloc, World.size_alloc]
set_option maxHeartbeats 4000000 in
set_option maxRecDepth 100000 in
theorem build_any (hb p bm : Nat) (v : Value) (L : List ByteArray) (M : Nat) (wv kv : Value) (xs ks : List Int) (T : Tm) (x : Int) (w : World) (h : Hea w hb p bm v L M wv kv xs ks) (hd : Den L xs ks T x) (hw : T.wordsR ≤ 65536) :
    Calls Tryd.prog 37 #[.pointer (some ⟨hb, 0, none⟩), .int .u64 x] w fun e w' => ∃ k n s a m c, e = .returned (.tuple #[.agg #[.int .i64 k, .int .i64 n, .string s, .slice a m c], .bool true]) ∧ Lies w' (fun k => w.heap.size ≤ k) T (.agg #[.int .i64 k, .int .i64 n, .string s, .slice a m c]) ∧ Below w.heap.size w w' := by
  have HH := Hid.mk h
  have HD := Hid.mk hd
  have HW := Hid.mk hw
  obtain ⟨B, hB⟩ : ∃ B, w.heap.size = B := ⟨_, rfl⟩
  obtain ⟨m0, m1, m2, m3, m4, hz, hbU⟩ := five w (.cells #[.pointer (some ⟨hb, 0, none⟩)] 23) (.cells #[.int .i64 0, .int .i64 0, .string ⟨#[]⟩, .slice none 0 0] 42) (.cells #[.int .i64 0, .int .i64 0, .string ⟨#[]⟩, .slice none 0 0] 42) (.cells #[.int .i64 1] 3)
    (.cells #[.func (.func 61) #[] #[.pointer (some ⟨w.heap.size, 0, none⟩), .pointer (some ⟨w.heap.size + 1 + 1 + 1, 0, none⟩), .pointer (some ⟨w.heap.size + 1 + 1 + 1 + 1, 0, none⟩)]] 107)
  obtain ⟨W0, hW0⟩ : ∃ W0, ((((w.alloc (.cells #[.pointer (some ⟨hb, 0, none⟩)] 23)).alloc (.cells #[.int .i64 0, .int .i64 0, .string ⟨#[]⟩, .slice none 0 0] 42)).alloc (.cells #[.int .i64 0, .int .i64 0, .string ⟨#[]⟩, .slice none 0 0] 42)).alloc (.cells #[.int .i64 1] 3)).alloc
    (.cells #[.func (.func 61) #[] #[.pointer (some ⟨w.heap.size, 0, none⟩), .pointer (some ⟨w.heap.size + 1 + 1 + 1, 0, none⟩), .pointer (some ⟨w.heap.size + 1 + 1 + 1 + 1, 0, none⟩)]] 107) = W0 := ⟨_, rfl⟩
  rw [hW0] at m0 m1 m2 m3 m4 hz hbU
  have hF : Fil w W0 hb B (B + 1 + 1 + 1) (B + 1 + 1 + 1 + 1) := by
    rw [hB] at m0 m3 m4
    exact ⟨by simp [World.cell?, m0], by simp [World.cell?, m4, fillV], hbU, by omega, by omega, by omega, by simp [World.frozen?, m3]⟩
  have hfr : Free W0 (B + 1 + 1) 0 := by
    rw [hB] at m2
    exact ⟨⟨_, _, _, _, by simp [World.cell?, m2]; rfl, by simp [World.cell?, m2]; rfl, by simp [World.cell?, m2]; rfl, by simp [World.cell?, m2]; rfl⟩, by simp [World.frozen?, m2]⟩
  have hcw : W0.cell? ⟨B + 1 + 1 + 1, 0, none⟩ = some (.int .i64 1) := by rw [hB] at m3; simp [World.cell?, m3]
  have HC := Hid.mk (fill_any w hb p bm v L M wv kv xs ks B (B + 1 + 1 + 1) (B + 1 + 1 + 1 + 1) h (T.size + 1) T (Nat.lt_succ_self _) x (B + 1 + 1) 0 1 W0 hd hF (by omega) (by omega) (by omega) (by omega) hfr hcw (by omega) (by omega))
  have cf := hF.cf
  rw [fillV] at cf
  have M1 : Hid (W0.heap[B + 1]? = some (.cells #[.int .i64 0, .int .i64 0, .string ⟨#[]⟩, .slice none 0 0] 42)) := Hid.mk (by rw [← hB]; exact m1)
  have HZ : Hid (W0.heap.size = B + 1 + 1 + 1 + 1 + 1) := Hid.mk (by rw [← hB]; exact hz)
  have HBU := Hid.mk hbU
  have HB := Hid.mk hB
  rw [hB] at hW0
  clear h hd hw m0 m1 m2 m3 m4 hz hbU hF hfr hcw
  go_enter Tryd.func37, Tryd.ntmps37
  go_upto_region 5 with fail
  try rw [hB]
  try rw [hW0]
  clear hW0 hB
  go_upto_region 6 with (go_at_call 61; refine HC.out.mono ?_; rintro e w1 ⟨⟨u, rfl⟩, hL, hK, hc1⟩; have HL := Hid.mk hL; have HK := Hid.mk hK; have HC1 := Hid.mk hc1; clear hL hK hc1)
  have hbx1 : w1.heap[B + 1]? = some (.cells #[.int .i64 0, .int .i64 0, .string ⟨#[]⟩, .slice none 0 0] 42) := HK.out.only.box M1.out (by rintro (e | e) <;> omega)
  obtain ⟨v0, v1, v2, v3, l0, l1, l2, l3, hlie⟩ := HL.out
  obtain ⟨k, n, s, a, m, cp, hv⟩ := hlie.agg
  simp only [Value.agg.injEq, Array.mk.injEq, List.cons.injEq, and_true] at hv
  obtain ⟨rfl, rfl, rfl, rfl⟩ := hv
  simp only [Nat.zero_add] at l1 l2 l3
  have hwr : Hid (1 + (T.wordsR - 1) ≤ 65536) := Hid.mk (by have := HW.out; omega)
  have cw := HC1.out
  have HLI := Hid.mk hlie
  generalize 1 + (T.wordsR - 1) = wr at *
  have hwr1 : wr ≤ 65536 := hwr.out
  have hwr2 : decide (wr ≤ 65536) = true := decide_eq_true hwr1
  obtain ⟨⟨g0, g1, g2, g3⟩, fz0, fz1, fz2, fz3⟩ := kept4 hbx1 (Below.refl _ _)
  obtain ⟨OB, hOB⟩ : ∃ OB : Nat → Prop, (fun i => i = B + 1) = OB := ⟨_, rfl⟩
  have nO2 : ¬ OB (B + 1 + 1) := by rw [← hOB]; exact fun e => by have e' : B + 1 + 1 = B + 1 := e; omega
  have nO3 : ¬ OB (B + 1 + 1 + 1) := by rw [← hOB]; exact fun e => by have e' : B + 1 + 1 + 1 = B + 1 := e; omega
  have HOBE := Hid.mk hOB
  have pO1 : OB (B + 1) := by rw [← hOB]
  have hS := ((((Only.refl OB w1).drew.put pO1 0 (.int .i64 k)).put pO1 1 (.int .i64 n)).put pO1 2 (.string s)).put pO1 3 (.slice a m cp)
  have HBX1 := Hid.mk hbx1
  have HHS := Hid.mk hS
  clear hlie hwr hOB hbx1 hS cf
  refine wp_region_held (S := Only OB w1) (by kernel_rfl) ?_
  refine chain_take (i := 0) (d := 13) (v := .agg #[.int .i64 k, .int .i64 n, .string s, .slice a m cp]) rfl rfl (by kernel_rfl) (by kernel_rfl) (by kernel_rfl) rfl (fun W h => (by have u0 := Only.cellS h nO2 l0; have u1 := Only.cellS h nO2 l1; have u2 := Only.cellS h nO2 l2; have u3 := Only.cellS h nO2 l3; go_simp)) (fun _ _ _ h => h) (Only.refl _ w1).drew ?_
  simp only [Act.put, List.setIfInBounds_toArray, List.set_cons_zero, List.set_cons_succ]
  refine chain_take (i := 1) (d := 14) (v := .int .i64 wr) rfl rfl (by kernel_rfl) (by kernel_rfl) (by kernel_rfl) rfl (fun W h => (by have u0 := Only.cellS h nO3 cw; go_simp)) (fun _ _ _ h => h) (Only.refl _ w1).drew ?_
  simp only [Act.put, List.setIfInBounds_toArray, List.set_cons_zero, List.set_cons_succ]
  refine chain_take (i := 2) (d := 15) (v := .bool true) rfl rfl (by kernel_rfl) (by kernel_rfl) (by kernel_rfl) rfl (fun _ _ => (by go_simp)) (fun _ _ _ h => h) (Only.refl _ w1).drew ?_
  simp only [Act.put, List.setIfInBounds_toArray, List.set_cons_zero, List.set_cons_succ]
  refine chain_skip (i := 3) (w' := (((w1.drew.setCell ⟨B + 1, 0, none⟩ (.int .i64 k)).setCell ⟨B + 1, 1, none⟩ (.int .i64 n)).setCell ⟨B + 1, 2, none⟩ (.string s)).setCell ⟨B + 1, 3, none⟩ (.slice a m cp)) (by kernel_rfl) rfl rfl rfl (by go_simp) HHS.out ?_
  refine chain_take (i := 4) (d := 5) (v := .bool true) rfl rfl (by kernel_rfl) (by kernel_rfl) (by kernel_rfl) rfl (fun _ _ => rfl) (fun _ _ _ h => h) (HHS.out) ?_
  simp only [Act.put, List.setIfInBounds_toArray, List.set_cons_zero, List.set_cons_succ]
  refine wpAnyH_done (by kernel_rfl) ?_ _
  go_wp2
  refine ret2_stored rfl rfl rfl rfl g0 g1 g2 g3 ?_
  have hwB := HB.out
  refine ⟨k, n, s, a, m, cp, rfl, HLI.out.move (fun i hi => ?_) (fun i j u hi hc => ?_) _ _, ?_⟩
  · exact Nat.le_trans HBU.out.size hi
  · refine HHS.out.cellS ?_ hc
    rw [← HOBE.out]
    exact fun e => by have e' : i = B + 1 := e; have := HZ.out; have h2 : W0.heap.size ≤ i := hi; omega
  · exact (HBU.out.trans (HK.out.below (by omega) (by omega) HBU.out.size)).trans (HHS.out.below (fun i hi => by rw [← HOBE.out] at hi; have e' : i = B + 1 := hi; omega) (by have h1 := HBU.out.size; have h2 := HK.out.only.size; omega))

set_option maxHeartbeats 4000000 in
set_option maxRecDepth 100000 in
theorem get_ok (hb p bm : Nat) (v : Value) (L : List ByteArray) (M : Nat) (wv kv : Value) (xs ks : List Int) (T : Tm) (x : Int) (w : World) (h : Hea w hb p bm v L M wv kv xs ks) (hwf : Wf xs ks) (hd : Den L xs ks T x) (hw : T.wordsR ≤ 65536) :
    Calls Tryd.prog 7 #[.pointer (some ⟨hb, 0, none⟩), .int .u64 x] w fun e w' => ∃ k n s a m c, e = .returned (.tuple #[.agg #[.int .i64 k, .int .i64 n, .string s, .slice a m c], .int .i64 0]) ∧ Lies w' (fun k => w.heap.size ≤ k) T (.agg #[.int .i64 k, .int .i64 n, .string s, .slice a m c]) ∧ Below w.heap.size w w' := by
  have hrg : 0 ≤ x ∧ x < 18446744073709551616 := by
    cases T with
    | mk k n s l =>
      obtain ⟨m, hp, _⟩ := den_pk hd
      exact ⟨hp.facts.2.2.2.2.2.2.1, hp.facts.2.2.2.2.2.2.2⟩
  obtain ⟨W0, hW0⟩ : ∃ W0, w.alloc (.cells #[.int .i64 0, .int .i64 0, .string ⟨#[]⟩, .slice none 0 0] 42) = W0 := ⟨_, rfl⟩
  have hb0 : Below w.heap.size w W0 := by rw [← hW0]; exact (Below.refl _ _).alloc (Nat.le_refl _) _
  have hbx : W0.heap[w.heap.size]? = some (.cells #[.int .i64 0, .int .i64 0, .string ⟨#[]⟩, .slice none 0 0] 42) := by rw [← hW0]; exact new_block _ _
  have HMAY := Hid.mk (may_any9 hb p bm v L M wv kv xs ks x W0 (h.up hb0) hwf hrg.1 hrg.2)
  rw [den_may hd] at HMAY
  have HBLD := Hid.mk (fun Wx (hb' : Below W0.heap.size W0 Wx) => build_any hb p bm v L M wv kv xs ks T x Wx ((h.up hb0).up hb') hd hw)
  have c0 := (h.up hb0).c0
  have HB0 := Hid.mk hb0
  have HBX := Hid.mk hbx
  clear h hwf hd hw hrg hb0 hbx
  go_enter Tryd.func7, Tryd.ntmps7
  go_upto_region 1 with fail
  try rw [hW0]
  clear hW0
  go_upto_region 6 with (first
    | (go_at_call 30; refine (madeH_yes _ _ c0).mono ?_; rintro e w1 ⟨rfl, rfl⟩)
    | (go_at_call 36; refine HMAY.out.mono ?_; rintro e w1 ⟨rfl, hb1⟩; have HB1 := Hid.mk hb1; clear hb1)
    | (go_at_call 37; refine (HBLD.out _ HB1.out).mono ?_; rintro e w2 ⟨k, n, s, a, m, c, rfl, hl, hb2⟩; have HL := Hid.mk hl; have HB2 := Hid.mk hb2; clear hl hb2))
  obtain ⟨W3, hW3⟩ : ∃ W3, w2.alloc (.cells #[.int .i64 k, .int .i64 n, .string s, .slice a m c] 42) = W3 := ⟨_, rfl⟩
  have hb3 : Below w2.heap.size w2 W3 := by rw [← hW3]; exact (Below.refl _ _).alloc (Nat.le_refl _) _
  have hbx3 : W3.heap[w2.heap.size]? = some (.cells #[.int .i64 k, .int .i64 n, .string s, .slice a m c] 42) := by rw [← hW3]; exact new_block _ _
  obtain ⟨⟨d0, d1, d2, d3⟩, _⟩ := kept4 hbx3 (Below.refl _ _)
  have hbT := HB1.out.trans ((HB2.out.trans (hb3.mono HB2.out.size)).mono HB1.out.size)
  obtain ⟨⟨q0, q1, q2, q3⟩, r0, r1, r2, r3⟩ := kept4 HBX.out hbT
  have HBT := Hid.mk (HB0.out.trans (hbT.mono HB0.out.size))
  have HL3 : Hid (Lies W3 (fun k => w.heap.size + 1 ≤ k) T (.agg #[.int .i64 k, .int .i64 n, .string s, .slice a m c])) := Hid.mk ((HL.out.below hb3).wider fun i hi => by
    have h1 := HB1.out.size
    have h2 := (Array.getElem?_eq_some_iff.1 HBX.out).1
    have h3 : w1.heap.size ≤ i := hi
    omega)
  rw [hW3]
  clear hW3 hb3 hbx3 hbT
  go_wp2
  refine ret2_stored rfl rfl rfl rfl q0 q1 q2 q3 ⟨k, n, s, a, m, c, rfl, HL3.out.move (fun i hi => by have h : w.heap.size + 1 ≤ i := hi; show w.heap.size ≤ i; omega) (fun i j u hi hc => ?_) _ _, Below.set4 HBT.out (Nat.le_refl _)⟩
  have h : w.heap.size + 1 ≤ i := hi
  have e := set4_heap W3 w.heap.size (.int .i64 k) (.int .i64 n) (.string s) (.slice a m c) i (by omega)
  exact (World.cell?_of_block (w := W3) (a := ⟨i, j, none⟩) e).trans hc

set_option maxHeartbeats 2000000 in
set_option maxRecDepth 100000 in
theorem get_bad (hb p bm : Nat) (v : Value) (L : List ByteArray) (M : Nat) (wv kv : Value) (xs ks : List Int) (x : Int) (w : World) (h : Hea w hb p bm v L M wv kv xs ks) (hwf : Wf xs ks) (h0 : 0 ≤ x) (h1 : x < 18446744073709551616) (hm : mayB L ks x = false) :
    Calls Tryd.prog 7 #[.pointer (some ⟨hb, 0, none⟩), .int .u64 x] w fun e w' => e = .returned (.tuple #[.agg #[.int .i64 0, .int .i64 0, .string ⟨#[]⟩, .slice none 0 0], .int .i64 4]) ∧ Below w.heap.size w w' := by
  obtain ⟨W0, hW0⟩ : ∃ W0, w.alloc (.cells #[.int .i64 0, .int .i64 0, .string ⟨#[]⟩, .slice none 0 0] 42) = W0 := ⟨_, rfl⟩
  have hb0 : Below w.heap.size w W0 := by rw [← hW0]; exact (Below.refl _ _).alloc (Nat.le_refl _) _
  have hbx : W0.heap[w.heap.size]? = some (.cells #[.int .i64 0, .int .i64 0, .string ⟨#[]⟩, .slice none 0 0] 42) := by rw [← hW0]; exact new_block _ _
  have HMAY := Hid.mk (may_any9 hb p bm v L M wv kv xs ks x W0 (h.up hb0) hwf h0 h1)
  rw [hm] at HMAY
  have c0 := (h.up hb0).c0
  have HB0 := Hid.mk hb0
  have HBX := Hid.mk hbx
  clear h hwf h0 h1 hm hb0 hbx
  go_enter Tryd.func7, Tryd.ntmps7
  go_upto_region 1 with fail
  try rw [hW0]
  clear hW0
  go_wp2_with (first
    | (go_at_call 30; refine (madeH_yes _ _ c0).mono ?_; rintro e w1 ⟨rfl, rfl⟩)
    | (go_at_call 36; refine HMAY.out.mono ?_; rintro e w1 ⟨rfl, hb1⟩; obtain ⟨⟨q0, q1, q2, q3⟩, r0, r1, r2, r3⟩ := kept4 HBX.out hb1; have HB1 := Hid.mk hb1; clear hb1))
  exact ret2_stored rfl rfl rfl rfl q0 q1 q2 q3 ⟨rfl, Below.set4 (HB0.out.trans (HB1.out.mono HB0.out.size)) (Nat.le_refl _)⟩

set_option maxHeartbeats 2000000 in
set_option maxRecDepth 100000 in
/-- A row of words cloned. -/
theorem clone_any9 (xs : List Int) (a : Option Addr) (cap : Nat) (w : World) (h : Cel w xs a) (hn : a = none → cap = 0) (hl : xs.length ≤ 1000000) :
    Calls Tryd.prog 39 #[.slice a xs.length cap] w fun e w' => ∃ v', e = .returned v' ∧ Wds w' v' xs ∧ (∀ g, v'.ownBlock = some g → w.heap.size ≤ g) ∧ Below w.heap.size w w' := by
  cases a with
  | none =>
    obtain rfl := hn rfl
    have hx : xs = [] := by
      cases xs with
      | nil => rfl
      | cons y r => obtain ⟨b, o, e, _⟩ := h (by simp); cases e
    subst hx
    rw [List.length_nil]
    have hq : ∀ W : World, (binOp .eql 25 (.slice none 0 0) (.slice none 0 0)).run Tryd.prog W = .ok (.bool true) W := fun W => by kernel_rfl
    clear h hn hl
    go_enter Tryd.func39, Tryd.ntmps39
    go_wp2
    go_ret
    exact ⟨_, rfl, ⟨rfl, Or.inl ⟨rfl, rfl⟩⟩, fun g hg => (by cases hg), Below.refl _ _⟩
  | some ad =>
    obtain ⟨W1, hW1⟩ : ∃ W1, w.alloc (.cells #[] 22) = W1 := ⟨_, rfl⟩
    have hb1 : Below w.heap.size w W1 := by rw [← hW1]; exact (Up.refl w).alloc.out
    have hz1 : W1.heap.size = w.heap.size + 1 := by rw [← hW1]; simp
    have hw1 : Wds W1 (.slice (some ⟨w.heap.size, 0, none⟩) 0 0) [] := by
      rw [← hW1]
      exact ⟨rfl, Or.inr ⟨w.heap.size, 0, #[], rfl, Nat.zero_le _, new_block _ _, Nat.le_refl _, by rw [maxLen]; omega, rfl, rfl⟩⟩
    obtain ⟨v2, w2, hr, h2, hg2, ha2⟩ := append_words W1 25 _ [] xs hw1 (some ad) cap (h.up hb1) (fun e => by cases e) (by simp; omega)
    rw [List.nil_append] at h2
    have hnew : Hid (∀ g, v2.ownBlock = some g → w.heap.size ≤ g) := Hid.mk fun g hg => by
      rcases ha2 with e | e
      · rw [e] at hg; cases hg; exact Nat.le_refl _
      · rw [e] at hg; cases hg; omega
    have hbel : Hid (Below w.heap.size w w2) := Hid.mk (hb1.grown hg2 hb1.size (fun k hk => by cases hk; exact Nat.le_refl _))
    have H2 := Hid.mk h2
    have hq : ∀ W : World, (binOp .eql 25 (.slice (some ad) xs.length cap) (.slice none 0 0)).run Tryd.prog W = .ok (.bool false) W := fun W => by kernel_rfl
    clear hb1 hz1 hw1 h hg2 ha2 h2 hl hn
    go_enter Tryd.func39, Tryd.ntmps39
    go_wp2_with (first
      | (at_builtin; refine Lib.wpList_append_run _ rfl _ _ _ _ rfl _ _ rfl rfl _ _ hr ?_))
    go_ret
    exact ⟨v2, rfl, H2.out, hnew.out, hbel.out⟩

set_option maxHeartbeats 2000000 in
set_option maxRecDepth 100000 in
theorem partsP_any (hb p bm : Nat) (v : Value) (L : List ByteArray) (M : Nat) (wv kv : Value) (xs ks : List Int) (T : Tm) (x : Int) (w : World) (h : Hea w hb p bm v L M wv kv xs ks) (hwf : Wf xs ks) (hd : Den L xs ks T x) :
    ∃ ys, (match T with | .mk _ _ _ l => Dens L xs ks l ys) ∧ Calls Tryd.prog 11 #[.pointer (some ⟨hb, 0, none⟩), .int .u64 x] w fun e w' => ∃ v', e = .returned (.tuple #[v', .int .i64 0]) ∧ Wds w' v' ys ∧ (∀ g, v'.ownBlock = some g → w.heap.size ≤ g) ∧ Below w.heap.size w w' := by
  obtain ⟨k, n, s, l⟩ := T
  obtain ⟨ys, hds, hrng, hparts⟩ := den_parts hd
  refine ⟨ys, hds, ?_⟩
  have hrg : 0 ≤ x ∧ x < 18446744073709551616 := by
    obtain ⟨m, hp, _⟩ := den_pk hd
    exact ⟨hp.facts.2.2.2.2.2.2.1, hp.facts.2.2.2.2.2.2.2⟩
  have HMAY := Hid.mk (may_any9 hb p bm v L M wv kv xs ks x w h hwf hrg.1 hrg.2)
  rw [den_may hd] at HMAY
  have HP := Hid.mk (fun Wx (hb' : Below w.heap.size w Wx) => hparts hb p bm v M wv kv Wx (h.up hb'))
  have c0 := h.c0
  have hll : Hid (l.length = ys.length ∧ ys.length ≤ 64) := Hid.mk (by
    have h1 := hds.length
    have h2 := hd
    rw [den_mk] at h2
    have h3 := h2.1
    simp only [fitB, decide_eq_true_eq] at h3
    exact ⟨h1.symm, by omega⟩)
  have hl1 := hll.out.1
  rw [hl1] at HP
  clear h hwf hd hrg hds hrng hparts hl1
  go_enter Tryd.func11, Tryd.ntmps11
  go_wp2_with (first
    | (go_at_call 30; refine (madeH_yes _ _ c0).mono ?_; rintro e w1 ⟨rfl, rfl⟩)
    | (go_at_call 36; refine HMAY.out.mono ?_; rintro e w1 ⟨rfl, hb1⟩; have HB1 := Hid.mk hb1; clear hb1)
    | (go_at_call 40; refine (HP.out _ HB1.out).mono ?_; rintro e w2 ⟨a, cap, rfl, hs, hb2⟩; have HS := Hid.mk hs; have HB2 := Hid.mk (HB1.out.trans (hb2.mono HB1.out.size)); clear hs hb2)
    | (go_at_call 39; refine (clone_any9 ys a cap _ HS.out.cel HS.out.nil (by have := hll.out.2; omega)).mono ?_; rintro e w3 ⟨v3, rfl, h1, h2, hb3⟩; have H1 := Hid.mk h1; have H2 := Hid.mk h2; have HB3 := Hid.mk hb3; clear h1 h2 hb3))
  go_ret2
  exact ⟨v3, rfl, H1.out, fun g hg => Nat.le_trans HB2.out.size (H2.out g hg), HB2.out.trans (HB3.out.mono HB2.out.size)⟩
set_option maxHeartbeats 2000000 in
set_option maxRecDepth 100000 in
theorem partsP_bad (hb p bm : Nat) (v : Value) (L : List ByteArray) (M : Nat) (wv kv : Value) (xs ks : List Int) (x : Int) (w : World) (h : Hea w hb p bm v L M wv kv xs ks) (hwf : Wf xs ks) (h0 : 0 ≤ x) (h1 : x < 18446744073709551616) (hm : mayB L ks x = false) :
    Calls Tryd.prog 11 #[.pointer (some ⟨hb, 0, none⟩), .int .u64 x] w fun e w' => e = .returned (.tuple #[.slice none 0 0, .int .i64 4]) ∧ Below w.heap.size w w' := by
  have HMAY := Hid.mk (may_any9 hb p bm v L M wv kv xs ks x w h hwf h0 h1)
  rw [hm] at HMAY
  have c0 := h.c0
  clear h hwf h0 h1 hm
  go_enter Tryd.func11, Tryd.ntmps11
  go_wp2_with (first
    | (go_at_call 30; refine (madeH_yes _ _ c0).mono ?_; rintro e w1 ⟨rfl, rfl⟩)
    | (go_at_call 36; refine HMAY.out.mono ?_; rintro e w1 ⟨rfl, hb1⟩; have HB1 := Hid.mk hb1; clear hb1))
  go_ret2
  exact ⟨rfl, HB1.out⟩
set_option maxHeartbeats 2000000 in
set_option maxRecDepth 100000 in
theorem usedH_any (hb p bm : Nat) (v : Value) (L : List ByteArray) (M : Nat) (wv kv : Value) (xs ks : List Int) (w : World) (h : Hea w hb p bm v L M wv kv xs ks) :
    Calls Tryd.prog 13 #[.pointer (some ⟨hb, 0, none⟩)] w fun e w' => e = .returned (.int .i64 xs.length) ∧ w = w' := by
  have c0 := h.c0
  have c3 := h.pil.c0
  obtain ⟨a, cap, rfl⟩ := owns_slice h.pil.row
  clear h
  go_enter Tryd.func13, Tryd.ntmps13
  go_wp2_with (go_at_call 30; refine (madeH_yes _ _ c0).mono ?_; rintro e w1 ⟨rfl, rfl⟩)
  go_ret
  exact ⟨rfl, rfl⟩
set_option maxHeartbeats 2000000 in
set_option maxRecDepth 100000 in
theorem wordsH_any (hb p bm : Nat) (v : Value) (L : List ByteArray) (M : Nat) (wv kv : Value) (xs ks : List Int) (w : World) (h : Hea w hb p bm v L M wv kv xs ks) :
    Calls Tryd.prog 15 #[.pointer (some ⟨hb, 0, none⟩)] w fun e w' => ∃ v', e = .returned v' ∧ Wds w' v' xs ∧ (∀ g, v'.ownBlock = some g → w.heap.size ≤ g) ∧ Below w.heap.size w w' := by
  have c0 := h.c0
  have c3 := h.pil.c0
  have hm := h.m0
  have hm1 := h.m1
  obtain ⟨a, cap, rfl, hc, hn⟩ := h.pil.row.cel0
  have HC := Hid.mk (clone_any9 xs a cap w hc hn (by omega))
  clear h hc hn hm hm1
  go_enter Tryd.func15, Tryd.ntmps15
  go_wp2_with (first
    | (go_at_call 30; refine (madeH_yes _ _ c0).mono ?_; rintro e w1 ⟨rfl, rfl⟩)
    | (go_at_call 39; refine HC.out.mono ?_; rintro e w3 ⟨v3, rfl, h1, h2, hb3⟩; have H1 := Hid.mk h1; have H2 := Hid.mk h2; have HB3 := Hid.mk hb3; clear h1 h2 hb3))
  go_ret
  exact ⟨v3, rfl, H1.out, H2.out, HB3.out⟩
end Go.Proofs.YtaiiicmldogjoaaDoor
