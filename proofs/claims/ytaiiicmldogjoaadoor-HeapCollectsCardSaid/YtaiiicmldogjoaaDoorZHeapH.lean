/-
  A term is put.
-/
import Derived.Test.YtaiiicmldogjoaaDoorZHeapG
import Derived.Test.YtaiiicmldogjoaaDoorZTermMore
namespace Go.Proofs.YtaiiicmldogjoaaDoor
open Go.RowKit Go.Deep Go.Maps Go.WideShapes

theorem Up_mine {w w1 w2 : World} {p bm : Nat} {v : Value} (h : Up w w1) (ho : Only (Mine p bm v) w1 w2) (hm : ∀ k, Mine p bm v k → w.heap.size ≤ k) : Up w w2 := h.out.trans (ho.below hm h.out.size)
/-- Where there is room for all atoms of a term, they get numbers. -/
theorem nums_room (T : Tm) : T.fits = true → ∀ L : List ByteArray, L.length + T.size ≤ 4096 → bytesOf L + 64 * T.size ≤ 65536 → (T.nums L).1 = true ∧ (T.nums L).2.length ≤ L.length + T.size ∧ bytesOf (T.nums L).2 ≤ bytesOf L + 64 * T.size := by
  induction T using Tm.induct with
  | h k n s l ih =>
    intro hf L h1 h2
    rw [fits_mk, Bool.and_eq_true] at hf
    rw [Tm.size_mk] at h1 h2 ⊢
    by_cases hk : k = 2
    · subst hk
      have hs : s.size ≤ 64 := by have := hf.1; simp only [fitB, decide_eq_true_eq] at this; omega
      rw [nums_atom]
      cases hp : pos s L with
      | some i => rw [put_there hs hp]; exact ⟨rfl, by simp only; omega, by simp only; omega⟩
      | none =>
        rw [put_new hs hp (by omega) (by omega)]
        refine ⟨rfl, ?_, ?_⟩
        · simp only [List.length_append, List.length_singleton]; omega
        · simp only [bytesOf_snoc]; omega
    · rw [nums_other hk]
      have : ∀ (r : List Tm), (∀ t ∈ r, t ∈ l) → ∀ L : List ByteArray, L.length + sizes r ≤ 4096 → bytesOf L + 64 * sizes r ≤ 65536 → (numss r L).1 = true ∧ (numss r L).2.length ≤ L.length + sizes r ∧ bytesOf (numss r L).2 ≤ bytesOf L + 64 * sizes r := by
        intro r
        induction r with
        | nil => intro _ L _ _; rw [numss_nil]; exact ⟨rfl, by simp only; omega, by simp only; omega⟩
        | cons t r ihr =>
          intro hr L h1 h2
          rw [sizes] at h1 h2 ⊢
          have ht := ih t (hr t (List.mem_cons_self ..)) (fitss_all hf.2 t (hr t (List.mem_cons_self ..))) L (by omega) (by omega)
          rw [numss_cons, if_pos ht.1]
          have h3 := ihr (fun x hx => hr x (List.mem_cons_of_mem _ hx)) (t.nums L).2 (by omega) (by omega)
          exact ⟨h3.1, by omega, by omega⟩
      have h3 := this l (fun _ h => h) L (by omega) (by omega)
      exact ⟨h3.1, by omega, by omega⟩

set_option maxHeartbeats 4000000 in
set_option maxRecDepth 100000 in
theorem put_ok (hb p bm : Nat) (v : Value) (L : List ByteArray) (M : Nat) (wv kv : Value) (xs ks : List Int) (T : Tm) (S : Nat → Prop) (tv : Value) (w : World) (h : Hea w hb p bm v L M wv kv xs ks) (hT : Lies w S T tv) (hS : ∀ b, S b → b < w.heap.size ∧ ¬ HOwn hb p bm v wv kv b)
    (hc : T.check = 0) (hn : (T.nums L).1 = true) (hsz : T.size ≤ 1000000) (hM : (xs.length : Int) + (T.wordsR - 1) ≤ M) :
    Calls Tryd.prog 6 #[.pointer (some ⟨hb, 0, none⟩), tv] w fun e w' => ∃ v' wv' kv', e = .returned (.tuple #[.int .u64 (T.own (T.nums L).2 xs.length), .int .i64 0]) ∧
      Hea w' hb p bm v' (T.nums L).2 M wv' kv' (xs ++ T.laid (T.nums L).2 xs.length) (ks ++ T.kds) ∧ Stp hb p bm w v wv kv w' v' wv' kv' := by
  have hfit : T.fits = true ∧ T.words = T.wordsR := by
    refine ⟨?_, words_pre T⟩
    rw [Tm.check, fits_pre] at hc
    by_cases hf : T.fits = true
    · exact hf
    · rw [if_neg hf] at hc; cases hc
  have hll := laid_length (T.nums L).2 T hfit.1 xs.length
  obtain ⟨k, n, s, a, m, cap, rfl⟩ := hT.agg
  obtain ⟨W0, hW0⟩ : ∃ W0, w.alloc (.cells #[.int .i64 k, .int .i64 n, .string s, .slice a m cap] 42) = W0 := ⟨_, rfl⟩
  have hb0 : Below w.heap.size w W0 := by rw [← hW0]; exact (Below.refl _ _).alloc (Nat.le_refl _) _
  have hbx : W0.heap[w.heap.size]? = some (.cells #[.int .i64 k, .int .i64 n, .string s, .slice a m cap] 42) := by rw [← hW0]; exact new_block _ _
  have hT0 : Lies W0 S T (.agg #[.int .i64 k, .int .i64 n, .string s, .slice a m cap]) := hT.below hb0
  have hH := h.up hb0
  have nbx0 : ¬ HOwn hb p bm v wv kv w.heap.size := fun hk => by have := h.own_lt hk; omega
  have hS0 : ∀ b, S b → b < W0.heap.size ∧ ¬ HOwn hb p bm v wv kv b := fun b hb' => ⟨Nat.lt_of_lt_of_le (hS b hb').1 hb0.size, (hS b hb').2⟩
  have hck := fun W (hb' : Below W0.heap.size W0 W) => checkI_any T hsz S _ W (hT0.below hb') (hH.up hb').st
  rw [hc] at hck
  have hwd := fun W (hb' : Below W0.heap.size W0 W) => wordsI_any T hsz S _ W (hT0.below hb') (hH.up hb').st
  rw [hfit.2] at hwd
  have hwr : 0 ≤ T.wordsR - 1 ∧ T.wordsR - 1 ≤ 1000000 := by have := h.m1; omega
  have hft := fun W (hb' : Below W0.heap.size W0 W) => fitsH_any hb p bm v L M wv kv xs ks (T.wordsR - 1) W (hH.up hb') hwr.1 hwr.2
  rw [decide_eq_true hM] at hft
  have hin := fun W (hb' : Below W0.heap.size W0 W) => intern_of T hfit.1 S _ W p bm v L (hH.up hb').tab (hT0.below hb') (fun b hb1 => ⟨Nat.lt_of_lt_of_le (hS0 b hb1).1 hb'.size, fun hk => (hS0 b hb1).2 (Or.inl hk)⟩) hsz
  rw [hn] at hin
  have hkn := nums_known T hfit.1 L _ hn (Ext.refl _)
  have HLAY := Hid.mk (fun (W : World) (v1 : Value) (h1 : Hea W hb p bm v1 (T.nums L).2 M wv kv xs ks) (s1 : Stp hb p bm W0 v wv kv W v1 wv kv) => layH_of (T.nums L).2 T hfit.1 hkn S _ W hb p bm v1 M wv kv xs ks h1 (hT0.move (fun _ h => h) (fun b o u hb1 hc => s1.cell (hS0 b hb1).2 hc) _ _) (fun b hb1 => ⟨Nat.lt_of_lt_of_le (hS0 b hb1).1 s1.only.size, s1.own_old (hS0 b hb1).1 (hS0 b hb1).2⟩) (by omega))
  have hwsub : IntKind.i64.wrap (T.wordsR - 1) = T.wordsR - 1 := wrap_id (by omega) (by omega)
  have HCK := Hid.mk hck
  have HWD := Hid.mk hwd
  have HFT := Hid.mk hft
  have HIN := Hid.mk hin
  have HH := Hid.mk hH
  have HB0 := Hid.mk hb0
  obtain ⟨MM, hMM⟩ : ∃ MM, Mine p bm v = MM := ⟨_, rfl⟩
  have nmb : ¬ MM hb := by rw [← hMM]; exact hH.nb
  have nmx : ¬ MM w.heap.size := by rw [← hMM]; exact fun hk => nbx0 (Or.inl hk)
  have HMM := Hid.mk hMM
  have HBX := Hid.mk hbx
  have c0 := hH.c0
  have c1 := hH.c1
  obtain ⟨⟨t0, t1, t2, t3⟩, _⟩ := kept4 hbx (Below.refl _ _)
  clear h hT hS hc hn hsz hM hfit hll hb0 hT0 hH nbx0 hMM hS0 hck hwd hft hin hkn hbx hwr
  generalize T.wordsR = wr at *
  generalize (T.nums L).2 = L1 at *
  go_enter Tryd.func6, Tryd.ntmps6
  go_upto_region 1 with fail
  try rw [hW0]
  clear hW0
  go_upto_region 6 with (first
    | (go_at_call 30; refine (madeH_yes _ _ c0).mono ?_; rintro e w1 ⟨rfl, rfl⟩)
    | (go_at_call 27; refine (HCK.out _ (Below.refl _ _)).mono ?_; rintro e w1 ⟨rfl, hb1⟩; have HB1 := Hid.mk hb1; obtain ⟨⟨t0, t1, t2, t3⟩, _⟩ := kept4 HBX.out hb1; have c1 := cell_below hb1 _ _ _ c1; clear hb1))
  refine region_up (W := w1) (by kernel_rfl) (by kernel_rfl) (Up.refl _) ?_
  refine quiet_value (v := .pointer (some ⟨hb, 0, none⟩)) rfl (fun _ _ => rfl) ?_
  simp only [Act.put, List.setIfInBounds_toArray, List.set_cons_zero, List.set_cons_succ]
  refine quiet_value (v := .agg #[.int .i64 k, .int .i64 n, .string s, .slice a m cap]) rfl (fun W h => (by have u0 := cell_below h.out _ _ _ t0; have u1 := cell_below h.out _ _ _ t1; have u2 := cell_below h.out _ _ _ t2; have u3 := cell_below h.out _ _ _ t3; go_simp)) ?_
  simp only [Act.put, List.setIfInBounds_toArray, List.set_cons_zero, List.set_cons_succ]
  refine quiet_call (v := .int .i64 wr) rfl (fun W => (by go_simp)) (fun W h => (HWD.out W (HB1.out.trans (h.out.mono HB1.out.size))).mono fun e w' ⟨he, hb⟩ => ⟨he, h.call hb⟩) ?_
  simp only [Act.put, List.setIfInBounds_toArray, List.set_cons_zero, List.set_cons_succ]
  refine quiet_value (v := .int .i64 (wr - 1)) rfl (fun _ _ => (by go_simp)) ?_
  simp only [Act.put, List.setIfInBounds_toArray, List.set_cons_zero, List.set_cons_succ]
  refine quiet_call (v := .bool true) rfl (fun W => (by go_simp)) (fun W h => (HFT.out W (HB1.out.trans (h.out.mono HB1.out.size))).mono fun e w' ⟨he, hb⟩ => ⟨he, h.call hb⟩) ?_
  simp only [Act.put, List.setIfInBounds_toArray, List.set_cons_zero, List.set_cons_succ]
  refine quiet_value (v := .bool false) rfl (fun _ _ => (by go_simp)) ?_
  simp only [Act.put, List.setIfInBounds_toArray, List.set_cons_zero, List.set_cons_succ]
  refine quiet_value (v := .bool false) rfl (fun _ _ => rfl) ?_
  simp only [Act.put, List.setIfInBounds_toArray, List.set_cons_zero, List.set_cons_succ]
  refine quiet_not rfl ?_
  simp only [Act.put, List.setIfInBounds_toArray, List.set_cons_zero, List.set_cons_succ]
  refine quiet_not rfl ?_
  simp only [Act.put, List.setIfInBounds_toArray, List.set_cons_zero, List.set_cons_succ]
  refine quiet_not rfl ?_
  simp only [Act.put, List.setIfInBounds_toArray, List.set_cons_zero, List.set_cons_succ]
  refine quiet_not rfl ?_
  simp only [Act.put, List.setIfInBounds_toArray, List.set_cons_zero, List.set_cons_succ]
  refine quiet_not rfl ?_
  simp only [Act.put, List.setIfInBounds_toArray, List.set_cons_zero, List.set_cons_succ]
  refine quiet_not rfl ?_
  simp only [Act.put, List.setIfInBounds_toArray, List.set_cons_zero, List.set_cons_succ]
  refine quiet_not rfl ?_
  simp only [Act.put, List.setIfInBounds_toArray, List.set_cons_zero, List.set_cons_succ]
  refine quiet_not rfl ?_
  simp only [Act.put, List.setIfInBounds_toArray, List.set_cons_zero, List.set_cons_succ]
  refine quiet_value (v := .bool false) rfl (fun _ _ => (by go_simp)) ?_
  simp only [Act.put, List.setIfInBounds_toArray, List.set_cons_zero, List.set_cons_succ]
  refine quiet_nil ?_
  intro w2 hw2
  have hb2 := hw2.out
  have t02 := cell_below hb2 _ _ _ t0
  have t12 := cell_below hb2 _ _ _ t1
  have t22 := cell_below hb2 _ _ _ t2
  have t32 := cell_below hb2 _ _ _ t3
  have c12 := cell_below hb2 _ _ _ c1
  have HB2 := Hid.mk (HB1.out.trans (hb2.mono HB1.out.size))
  clear t0 t1 t2 t3 c1 hb2 hw2
  go_upto_region 8 with fail
  refine wp_region_held (S := Only MM w2) (by kernel_rfl) ?_
  refine chain_take (i := 0) (d := 32) (v := .pointer (some ⟨hb, 0, none⟩)) rfl rfl (by kernel_rfl) (by kernel_rfl) (by kernel_rfl) rfl (fun _ _ => rfl) (fun _ _ _ h => h) (Only.refl _ w2).drew ?_
  simp only [Act.put, List.setIfInBounds_toArray, List.set_cons_zero, List.set_cons_succ]
  refine chain_take (i := 1) (d := 33) (v := .pointer (some ⟨hb, 0, none⟩)) rfl rfl (by kernel_rfl) (by kernel_rfl) (by kernel_rfl) rfl (fun _ _ => (by go_simp)) (fun _ _ _ h => h) (Only.refl _ w2).drew ?_
  simp only [Act.put, List.setIfInBounds_toArray, List.set_cons_zero, List.set_cons_succ]
  refine chain_take (i := 2) (d := 34) (v := .pointer (some ⟨hb, 1, none⟩)) rfl rfl (by kernel_rfl) (by kernel_rfl) (by kernel_rfl) rfl (fun _ _ => (by go_simp)) (fun _ _ _ h => h) (Only.refl _ w2).drew ?_
  simp only [Act.put, List.setIfInBounds_toArray, List.set_cons_zero, List.set_cons_succ]
  refine chain_take (i := 3) (d := 35) (v := .pointer (some ⟨p, 0, none⟩)) rfl rfl (by kernel_rfl) (by kernel_rfl) (by kernel_rfl) rfl (fun W h => (by have u0 := Only.cellS h nmb c12; go_simp)) (fun _ _ _ h => h) (Only.refl _ w2).drew ?_
  simp only [Act.put, List.setIfInBounds_toArray, List.set_cons_zero, List.set_cons_succ]
  refine chain_take (i := 4) (d := 36) (v := .agg #[.int .i64 k, .int .i64 n, .string s, .slice a m cap]) rfl rfl (by kernel_rfl) (by kernel_rfl) (by kernel_rfl) rfl (fun W h => (by have u0 := Only.cellS h nmx t02; have u1 := Only.cellS h nmx t12; have u2 := Only.cellS h nmx t22; have u3 := Only.cellS h nmx t32; go_simp)) (fun _ _ _ h => h) (Only.refl _ w2).drew ?_
  simp only [Act.put, List.setIfInBounds_toArray, List.set_cons_zero, List.set_cons_succ]
  refine chain_call (i := 5) (d := 37) (f := 33) (args := #[.pointer (some ⟨p, 0, none⟩), .agg #[.int .i64 k, .int .i64 n, .string s, .slice a m cap]]) (by kernel_rfl) rfl rfl rfl (by go_simp) ?_
  refine (HIN.out _ (Below.drew HB2.out)).mono ?_
  rintro e w3 ⟨rfl, hl3⟩
  refine ⟨.int .i64 0, rfl, (by obtain ⟨v', _, ho, _⟩ := hl3; rw [← HMM.out]; exact (Only.refl _ w2).drew.trans ho (fun _ h => Or.inl h)), ?_⟩
  simp only [Act.put, List.setIfInBounds_toArray, List.set_cons_zero, List.set_cons_succ]
  refine chain_take (i := 6) (d := 7) (v := .int .i64 0) rfl rfl (by kernel_rfl) (by kernel_rfl) (by kernel_rfl) rfl (fun _ _ => rfl) (fun _ _ _ h => h) ((by obtain ⟨v', _, ho, _⟩ := hl3; rw [← HMM.out]; exact (Only.refl _ w2).drew.trans ho (fun _ h => Or.inl h))) ?_
  simp only [Act.put, List.setIfInBounds_toArray, List.set_cons_zero, List.set_cons_succ]
  refine wpAnyH_done (by kernel_rfl) ?_ _
  obtain ⟨v3, h3, s3⟩ := (HH.out.up (Below.drew HB2.out)).left hl3
  have s03 := Stp.after (Below.drew HB2.out) s3
  have nm3 := nmx
  have hm3 : Only MM w2 w3 := by obtain ⟨v', _, ho, _⟩ := hl3; rw [← HMM.out]; exact (Only.refl _ w2).drew.trans ho (fun _ h => Or.inl h)
  have t03 := hm3.cellS nmx t02
  have t13 := hm3.cellS nmx t12
  have t23 := hm3.cellS nmx t22
  have t33 := hm3.cellS nmx t32
  have HL3 := Hid.mk (HLAY.out w3 v3 h3 s03)
  have HS3 := Hid.mk s03
  clear hl3 h3 s3 s03 nm3 hm3 t02 t12 t22 t32 c12
  go_wp2_with (go_at_call 35; refine HL3.out.mono ?_; rintro e w4 ⟨wv4, kv4, rfl, h4, s4⟩; have H4 := Hid.mk h4; have S4 := Hid.mk s4; clear h4 s4)
  go_ret2
  exact ⟨v3, wv4, kv4, rfl, H4.out, Stp.after HB0.out (HS3.out.trans S4.out)⟩

set_option maxHeartbeats 1000000 in
set_option maxRecDepth 100000 in
theorem put_bad (hb p bm : Nat) (v : Value) (L : List ByteArray) (M : Nat) (wv kv : Value) (xs ks : List Int) (T : Tm) (S : Nat → Prop) (tv : Value) (w : World) (h : Hea w hb p bm v L M wv kv xs ks) (hT : Lies w S T tv) (hc : T.check ≠ 0) (hsz : T.size ≤ 1000000) :
    Calls Tryd.prog 6 #[.pointer (some ⟨hb, 0, none⟩), tv] w fun e w' => e = .returned (.tuple #[.int .u64 0, .int .i64 T.check]) ∧ Below w.heap.size w w' := by
  obtain ⟨k, n, s, a, m, cap, rfl⟩ := hT.agg
  obtain ⟨W0, hW0⟩ : ∃ W0, w.alloc (.cells #[.int .i64 k, .int .i64 n, .string s, .slice a m cap] 42) = W0 := ⟨_, rfl⟩
  have hb0 : Below w.heap.size w W0 := by rw [← hW0]; exact (Below.refl _ _).alloc (Nat.le_refl _) _
  have hbx : W0.heap[w.heap.size]? = some (.cells #[.int .i64 k, .int .i64 n, .string s, .slice a m cap] 42) := by rw [← hW0]; exact new_block _ _
  have HCK := Hid.mk (checkI_any T hsz S _ W0 (hT.below hb0) (h.up hb0).st)
  have c0 := (h.up hb0).c0
  have HB0 := Hid.mk hb0
  obtain ⟨⟨t0, t1, t2, t3⟩, _⟩ := kept4 hbx (Below.refl _ _)
  generalize T.check = ck at *
  have hck : (ck != 0) = true := by simpa using hc
  clear h hT hb0 hbx hsz
  go_enter Tryd.func6, Tryd.ntmps6
  go_upto_region 1 with fail
  try rw [hW0]
  clear hW0
  go_wp2_with (first
    | (go_at_call 30; refine (madeH_yes _ _ c0).mono ?_; rintro e w1 ⟨rfl, rfl⟩)
    | (go_at_call 27; refine HCK.out.mono ?_; rintro e w1 ⟨rfl, hb1⟩; have HB1 := Hid.mk hb1; clear hb1))
  go_ret2
  exact ⟨rfl, HB0.out.trans (HB1.out.mono HB0.out.size)⟩

set_option maxHeartbeats 4000000 in
set_option maxRecDepth 100000 in
theorem put_limit (hb p bm : Nat) (v : Value) (L : List ByteArray) (M : Nat) (wv kv : Value) (xs ks : List Int) (T : Tm) (S : Nat → Prop) (tv : Value) (w : World) (h : Hea w hb p bm v L M wv kv xs ks) (hT : Lies w S T tv) (hS : ∀ b, S b → b < w.heap.size ∧ ¬ HOwn hb p bm v wv kv b)
    (hc : T.check = 0) (hn : (T.nums L).1 = true) (hN : Nub L) (hsz : T.size ≤ 1000000) (hM : ¬ (xs.length : Int) + (T.wordsR - 1) ≤ M) (hwr : 0 ≤ T.wordsR - 1 ∧ T.wordsR - 1 ≤ 1000000) :
    Calls Tryd.prog 6 #[.pointer (some ⟨hb, 0, none⟩), tv] w fun e w' => e = .returned (.tuple #[.int .u64 0, .int .i64 11]) ∧ Below w.heap.size w w' := by
  have hfit : T.fits = true ∧ T.words = T.wordsR := by
    refine ⟨?_, words_pre T⟩
    rw [Tm.check, fits_pre] at hc
    by_cases hf : T.fits = true
    · exact hf
    · rw [if_neg hf] at hc; cases hc
  obtain ⟨k, n, s, a, m, cap, rfl⟩ := hT.agg
  obtain ⟨W0, hW0⟩ : ∃ W0, w.alloc (.cells #[.int .i64 k, .int .i64 n, .string s, .slice a m cap] 42) = W0 := ⟨_, rfl⟩
  have hb0 : Below w.heap.size w W0 := by rw [← hW0]; exact (Below.refl _ _).alloc (Nat.le_refl _) _
  have hbx : W0.heap[w.heap.size]? = some (.cells #[.int .i64 k, .int .i64 n, .string s, .slice a m cap] 42) := by rw [← hW0]; exact new_block _ _
  have hT0 : Lies W0 S T (.agg #[.int .i64 k, .int .i64 n, .string s, .slice a m cap]) := hT.below hb0
  have hH := h.up hb0
  have hck := fun W (hb' : Below W0.heap.size W0 W) => checkI_any T hsz S _ W (hT0.below hb') (hH.up hb').st
  rw [hc] at hck
  have hwd := fun W (hb' : Below W0.heap.size W0 W) => wordsI_any T hsz S _ W (hT0.below hb') (hH.up hb').st
  rw [hfit.2] at hwd
  have hft := fun W (hb' : Below W0.heap.size W0 W) => fitsH_any hb p bm v L M wv kv xs ks (T.wordsR - 1) W (hH.up hb') hwr.1 hwr.2
  rw [decide_eq_false hM] at hft
  have htw := fun W (hb' : Below W0.heap.size W0 W) => twin_any p bm v L W (hH.up hb').tab hN
  have hS0 : ∀ b, S b → b < W0.heap.size := fun b hb' => Nat.lt_of_lt_of_le (hS b hb').1 hb0.size
  have hin : Hid (∀ W (_ : Below W0.heap.size W0 W) p2 bm2 v2, Tab W p2 bm2 v2 L → (∀ k, Mine p2 bm2 v2 k → W0.heap.size ≤ k) → Calls Tryd.prog 33 #[.pointer (some ⟨p2, 0, none⟩), .agg #[.int .i64 k, .int .i64 n, .string s, .slice a m cap]] W fun e w' => e = .returned (.int .i64 0) ∧ Only (Mine p2 bm2 v2) W w') := Hid.mk fun W hb' p2 bm2 v2 ht hm => by
    have := intern_of T hfit.1 S _ W p2 bm2 v2 L ht (hT0.below hb') (fun b hb1 => ⟨Nat.lt_of_lt_of_le (hS0 b hb1) hb'.size, fun hk => by have := hm b hk; have := hS0 b hb1; omega⟩) hsz
    rw [hn] at this
    exact this.mono fun e w' ⟨he, hl⟩ => ⟨he, by obtain ⟨v', _, ho, _⟩ := hl; exact ho⟩
  have hwsub : IntKind.i64.wrap (T.wordsR - 1) = T.wordsR - 1 := wrap_id (by omega) (by omega)
  have HCK := Hid.mk hck
  have HWD := Hid.mk hwd
  have HFT := Hid.mk hft
  have HTW := Hid.mk htw
  have HB0 := Hid.mk hb0
  have HBX := Hid.mk hbx
  have c0 := hH.c0
  have c1 := hH.c1
  obtain ⟨⟨t0, t1, t2, t3⟩, _⟩ := kept4 hbx (Below.refl _ _)
  clear h hT hS hc hn hN hsz hM hfit hb0 hT0 hH hck hwd hft hbx hwr htw hS0
  generalize T.wordsR = wr at *
  go_enter Tryd.func6, Tryd.ntmps6
  go_upto_region 1 with fail
  try rw [hW0]
  clear hW0
  go_upto_region 6 with (first
    | (go_at_call 30; refine (madeH_yes _ _ c0).mono ?_; rintro e w1 ⟨rfl, rfl⟩)
    | (go_at_call 27; refine (HCK.out _ (Below.refl _ _)).mono ?_; rintro e w1 ⟨rfl, hb1⟩; have HB1 := Hid.mk hb1; obtain ⟨⟨t0, t1, t2, t3⟩, _⟩ := kept4 HBX.out hb1; have c1 := cell_below hb1 _ _ _ c1; have hbx1 := (hb1.block _ (Array.getElem?_eq_some_iff.1 HBX.out).1).trans HBX.out; clear hb1))
  refine wp_region_held (S := Up w1) (by kernel_rfl) ?_
  refine chain_take (i := 0) (d := 16) (v := .pointer (some ⟨hb, 0, none⟩)) rfl rfl (by kernel_rfl) (by kernel_rfl) (by kernel_rfl) rfl (fun _ _ => rfl) (fun _ _ _ h => h) (Up.refl w1).drew ?_
  simp only [Act.put, List.setIfInBounds_toArray, List.set_cons_zero, List.set_cons_succ]
  refine chain_take (i := 1) (d := 17) (v := .agg #[.int .i64 k, .int .i64 n, .string s, .slice a m cap]) rfl rfl (by kernel_rfl) (by kernel_rfl) (by kernel_rfl) rfl (fun W h => (by have u0 := cell_below h.out _ _ _ t0; have u1 := cell_below h.out _ _ _ t1; have u2 := cell_below h.out _ _ _ t2; have u3 := cell_below h.out _ _ _ t3; go_simp)) (fun _ _ _ h => h) (Up.refl w1).drew ?_
  simp only [Act.put, List.setIfInBounds_toArray, List.set_cons_zero, List.set_cons_succ]
  refine chain_call (i := 2) (d := 18) (f := 32) (args := #[.agg #[.int .i64 k, .int .i64 n, .string s, .slice a m cap]]) (by kernel_rfl) rfl rfl rfl (by go_simp) ?_
  refine (HWD.out _ (Below.drew HB1.out)).mono ?_
  rintro e w2 ⟨rfl, hb2⟩
  refine ⟨.int .i64 wr, rfl, ((Up.refl w1).drew.call hb2), ?_⟩
  simp only [Act.put, List.setIfInBounds_toArray, List.set_cons_zero, List.set_cons_succ]
  refine chain_take (i := 3) (d := 19) (v := .int .i64 (wr - 1)) rfl rfl (by kernel_rfl) (by kernel_rfl) (by kernel_rfl) rfl (fun _ _ => (by go_simp)) (fun _ _ _ h => h) (((Up.refl w1).drew.call hb2)) ?_
  simp only [Act.put, List.setIfInBounds_toArray, List.set_cons_zero, List.set_cons_succ]
  refine chain_call (i := 4) (d := 20) (f := 31) (args := #[.pointer (some ⟨hb, 0, none⟩), .int .i64 (wr - 1)]) (by kernel_rfl) rfl rfl rfl (by go_simp) ?_
  refine (HFT.out _ (HB1.out.trans (((Up.refl w1).drew.call hb2).out.mono HB1.out.size))).mono ?_
  rintro e w3 ⟨rfl, hb3⟩
  refine ⟨.bool false, rfl, (((Up.refl w1).drew.call hb2).call hb3), ?_⟩
  simp only [Act.put, List.setIfInBounds_toArray, List.set_cons_zero, List.set_cons_succ]
  refine chain_take (i := 5) (d := 21) (v := .bool true) rfl rfl (by kernel_rfl) (by kernel_rfl) (by kernel_rfl) rfl (fun _ _ => (by go_simp)) (fun _ _ _ h => h) ((((Up.refl w1).drew.call hb2).call hb3)) ?_
  simp only [Act.put, List.setIfInBounds_toArray, List.set_cons_zero, List.set_cons_succ]
  refine chain_take (i := 6) (d := 22) (v := .bool true) rfl rfl (by kernel_rfl) (by kernel_rfl) (by kernel_rfl) rfl (fun _ _ => rfl) (fun _ _ _ h => h) ((((Up.refl w1).drew.call hb2).call hb3)) ?_
  simp only [Act.put, List.setIfInBounds_toArray, List.set_cons_zero, List.set_cons_succ]
  refine chain_take (i := 7) (d := 23) (v := .pointer (some ⟨hb, 0, none⟩)) rfl rfl (by kernel_rfl) (by kernel_rfl) (by kernel_rfl) rfl (fun _ _ => rfl) (fun _ _ _ h => h) ((((Up.refl w1).drew.call hb2).call hb3)) ?_
  simp only [Act.put, List.setIfInBounds_toArray, List.set_cons_zero, List.set_cons_succ]
  refine chain_take (i := 8) (d := 24) (v := .pointer (some ⟨hb, 0, none⟩)) rfl rfl (by kernel_rfl) (by kernel_rfl) (by kernel_rfl) rfl (fun _ _ => (by go_simp)) (fun _ _ _ h => h) ((((Up.refl w1).drew.call hb2).call hb3)) ?_
  simp only [Act.put, List.setIfInBounds_toArray, List.set_cons_zero, List.set_cons_succ]
  refine chain_take (i := 9) (d := 25) (v := .pointer (some ⟨hb, 1, none⟩)) rfl rfl (by kernel_rfl) (by kernel_rfl) (by kernel_rfl) rfl (fun _ _ => (by go_simp)) (fun _ _ _ h => h) ((((Up.refl w1).drew.call hb2).call hb3)) ?_
  simp only [Act.put, List.setIfInBounds_toArray, List.set_cons_zero, List.set_cons_succ]
  refine chain_take (i := 10) (d := 26) (v := .pointer (some ⟨p, 0, none⟩)) rfl rfl (by kernel_rfl) (by kernel_rfl) (by kernel_rfl) rfl (fun W h => (by have u0 := cell_below h.out _ _ _ c1; go_simp)) (fun _ _ _ h => h) ((((Up.refl w1).drew.call hb2).call hb3)) ?_
  simp only [Act.put, List.setIfInBounds_toArray, List.set_cons_zero, List.set_cons_succ]
  refine chain_take (i := 12) (d := 28) (v := .agg #[.int .i64 k, .int .i64 n, .string s, .slice a m cap]) rfl rfl (by kernel_rfl) (by kernel_rfl) (by kernel_rfl) rfl (fun W h => (by have u0 := cell_below h.out _ _ _ t0; have u1 := cell_below h.out _ _ _ t1; have u2 := cell_below h.out _ _ _ t2; have u3 := cell_below h.out _ _ _ t3; go_simp)) (fun _ _ _ h => h) ((((Up.refl w1).drew.call hb2).call hb3)) ?_
  simp only [Act.put, List.setIfInBounds_toArray, List.set_cons_zero, List.set_cons_succ]
  refine chain_call (i := 11) (d := 27) (f := 34) (args := #[.pointer (some ⟨p, 0, none⟩)]) (by kernel_rfl) rfl rfl rfl (by go_simp) ?_
  refine (HTW.out _ (HB1.out.trans ((((Up.refl w1).drew.call hb2).call hb3).out.mono HB1.out.size))).mono ?_
  rintro e w4 ⟨p2, bm2, v2, rfl, ht4, hb4, hm4⟩
  refine ⟨.pointer (some ⟨p2, 0, none⟩), rfl, ((((Up.refl w1).drew.call hb2).call hb3).call hb4), ?_⟩
  simp only [Act.put, List.setIfInBounds_toArray, List.set_cons_zero, List.set_cons_succ]
  refine chain_call (i := 13) (d := 29) (f := 33) (args := #[.pointer (some ⟨p2, 0, none⟩), .agg #[.int .i64 k, .int .i64 n, .string s, .slice a m cap]]) (by kernel_rfl) rfl rfl rfl (by go_simp) ?_
  refine (hin.out _ (HB1.out.trans (((((Up.refl w1).drew.call hb2).call hb3).call hb4).out.mono HB1.out.size)) p2 bm2 v2 ht4 (fun k hk => Nat.le_trans (HB1.out.trans ((((Up.refl w1).drew.call hb2).call hb3).out.mono HB1.out.size)).size (hm4 k hk))).mono ?_
  rintro e w5 ⟨rfl, ho5⟩
  refine ⟨.int .i64 0, rfl, (Up_mine ((((Up.refl w1).drew.call hb2).call hb3).call hb4) ho5 (fun k hk => Nat.le_trans (((Up.refl w1).drew.call hb2).call hb3).out.size (hm4 k hk))), ?_⟩
  simp only [Act.put, List.setIfInBounds_toArray, List.set_cons_zero, List.set_cons_succ]
  refine chain_take (i := 14) (d := 30) (v := .bool true) rfl rfl (by kernel_rfl) (by kernel_rfl) (by kernel_rfl) rfl (fun _ _ => (by go_simp)) (fun _ _ _ h => h) ((Up_mine ((((Up.refl w1).drew.call hb2).call hb3).call hb4) ho5 (fun k hk => Nat.le_trans (((Up.refl w1).drew.call hb2).call hb3).out.size (hm4 k hk)))) ?_
  simp only [Act.put, List.setIfInBounds_toArray, List.set_cons_zero, List.set_cons_succ]
  refine chain_take (i := 15) (d := 31) (v := .bool true) rfl rfl (by kernel_rfl) (by kernel_rfl) (by kernel_rfl) rfl (fun _ _ => (by go_simp)) (fun _ _ _ h => h) ((Up_mine ((((Up.refl w1).drew.call hb2).call hb3).call hb4) ho5 (fun k hk => Nat.le_trans (((Up.refl w1).drew.call hb2).call hb3).out.size (hm4 k hk)))) ?_
  simp only [Act.put, List.setIfInBounds_toArray, List.set_cons_zero, List.set_cons_succ]
  refine wpAnyH_done (by kernel_rfl) ?_ _
  have HB5 := Hid.mk (HB1.out.trans ((Up_mine ((((Up.refl w1).drew.call hb2).call hb3).call hb4) ho5 (fun k hk => Nat.le_trans (((Up.refl w1).drew.call hb2).call hb3).out.size (hm4 k hk))).out.mono HB1.out.size))
  clear ht4 hb4 hm4 ho5 hb2 hb3
  go_wp2
  go_ret2
  exact ⟨rfl, HB0.out.trans (HB5.out.mono HB0.out.size)⟩
end Go.Proofs.YtaiiicmldogjoaaDoor
