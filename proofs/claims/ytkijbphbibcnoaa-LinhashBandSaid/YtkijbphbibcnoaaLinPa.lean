/-
  The program's buckets: how they lie; one table is made; whether one was made; how many; what is wanted; a bucket told.
-/
import Derived.Test.YtkijbphbibcnoaaLinBx
import Derived.Test.YtkijbphbibcnoaaKitBits
import Derived.Test.YtkijbphbibcnoaaLinOk
import Derived.LaidEqlPtr
namespace Go.Proofs.Ytkijbphbibcnoaa
open Go.RowKit Go.Deep Go.Maps Go.WideShapes

/-- The cells of the program's table. -/
def csP (p least : Nat) (v : Value) (B : Bks) : Array Value := #[.pointer (some ⟨p, 0, none⟩), v, .int .i64 least, .int .i64 (szB B)]
/-- The program's buckets. -/
def LbP (w : World) (p least : Nat) (S : Nat → Prop) (B : Bks) : Prop := ∃ v, Bx 39 (csP p least v B) w p v S B
section
variable {w w' : World} {p least : Nat} {v : Value} {S : Nat → Prop} {B : Bks}
theorem LbP.kept {T : Nat → Prop} (h : LbP w p least S B) (ho : Only T w w') (hT : ∀ k, S k → ¬ T k) : LbP w' p least S B := let ⟨v, h⟩ := h; ⟨v, h.kept ho hT⟩
theorem LbP.up (h : LbP w p least S B) (hb : Below w.heap.size w w') : LbP w' p least S B := let ⟨v, h⟩ := h; ⟨v, h.up hb⟩
theorem LbP.lt (h : LbP w p least S B) : ∀ k, S k → k < w.heap.size := let ⟨_, h⟩ := h; h.lt
theorem bxP_cells (h : Bx 39 (csP p least v B) w p v S B) : (w.cell? ⟨p, 0, none⟩ = some (.pointer (some ⟨p, 0, none⟩)) ∧ w.cell? ⟨p, 1, none⟩ = some v ∧ w.cell? ⟨p, 2, none⟩ = some (.int .i64 least) ∧ w.cell? ⟨p, 3, none⟩ = some (.int .i64 (szB B))) ∧
    w.frozen? ⟨p, 1, none⟩ = false ∧ w.frozen? ⟨p, 3, none⟩ = false :=
  ⟨⟨h.cell 0, h.cell 1, h.cell 2, h.cell 3⟩, h.froz 1, h.froz 3⟩
end
theorem eql_selfL (p : Nat) (w : World) : (binOp .eql 23 (.pointer (some ⟨p, 0, none⟩)) (.pointer (some ⟨p, 0, none⟩))).run Try.prog w = .ok (.bool true) w := by
  obtain ⟨i0, hi⟩ : ∃ i0, Try.prog.info? 39 = some i0 := Option.isSome_iff_exists.1 (by kernel_rfl)
  exact run_eql_ptr_same w _ Try.underlying23 hi
theorem madeL_cell (p : Nat) (w : World) (c0 : w.cell? ⟨p, 0, none⟩ = some (.pointer (some ⟨p, 0, none⟩))) : Calls Try.prog 37 #[.pointer (some ⟨p, 0, none⟩)] w fun e w' => e = .returned (.bool true) ∧ w = w' := by
  have he := eql_selfL p
  go_enter Try.func37, Try.ntmps37
  go_wp2
  go_ret
  exact ⟨rfl, rfl⟩
theorem madeL_nil (w : World) : Calls Try.prog 37 #[.pointer none] w fun e w' => e = .returned (.bool false) ∧ w = w' := by
  go_enter Try.func37, Try.ntmps37
  go_wp2
  go_ret
  exact ⟨rfl, rfl⟩
theorem madeL_zero (p : Nat) (w : World) (c0 : w.cell? ⟨p, 0, none⟩ = some (.pointer none)) : Calls Try.prog 37 #[.pointer (some ⟨p, 0, none⟩)] w fun e w' => e = .returned (.bool false) ∧ w = w' := by
  have he : ∀ w : World, (binOp .eql 23 (.pointer none) (.pointer (some ⟨p, 0, none⟩))).run Try.prog w = .ok (.bool false) w := fun w => by
    obtain ⟨i0, hi⟩ : ∃ i0, Try.prog.info? 39 = some i0 := Option.isSome_iff_exists.1 (by kernel_rfl)
    have h : ∀ d : Nat, (Op.equalIn (d + 1) 23 (.pointer none) (.pointer (some ⟨p, 0, none⟩))).run Try.prog w = .ok false w := fun d => by
      simp [Op.equalIn, run_underlying Try.underlying23, sizeOf, typeInfo, hi]
    simp only [binOp]
    simp [Op.equal, Op.maxDepth, h 9999]
  go_enter Try.func37, Try.ntmps37
  go_wp2
  go_ret
  exact ⟨rfl, rfl⟩
set_option maxHeartbeats 2000000 in
/-- The bucket of a hash, from the box's cell alone. -/
theorem bucketL_cell (p n : Nat) (a : Option Addr) (cap h : Nat) (w : World) (c1 : w.cell? ⟨p, 1, none⟩ = some (.slice a n cap)) (hh : h < 4294967296) (h1 : 1 ≤ n) (h2 : n ≤ 1048576) :
    Calls Try.prog 38 #[.pointer (some ⟨p, 0, none⟩), .int .u32 h] w fun e w' => e = .returned (.int .i64 (bkt h n)) ∧ w = w' := by
  have hc : Hid (∀ w1, Calls Try.prog 47 #[.int .u32 h, .int .i64 n] w1 fun e w' => e = .returned (.tuple #[.int .i64 (bkt h n), .int .i64 0]) ∧ w1 = w') := Hid.mk fun w1 => by
    have := bucket_any h hh (n : Int) (by omega) (by omega) w1
    unfold bktV bktE at this
    rw [if_pos (by omega), if_pos (by omega), Int.toNat_natCast] at this
    exact this
  clear hh h1 h2
  go_enter Try.func38, Try.ntmps38
  go_wp2_with (go_at_call 47; refine (hc.out _).mono ?_; rintro e w2 ⟨rfl, rfl⟩)
  go_ret
  exact ⟨rfl, rfl⟩

set_option maxHeartbeats 2000000 in
theorem newP_any (w : World) (least : Nat) (h1 : 1 ≤ least) (h2 : least ≤ 1024) :
    Calls Try.prog 7 #[.int .i64 least] w fun e w' => ∃ p S, e = .returned (.tuple #[.pointer (some ⟨p, 0, none⟩), .int .i64 0]) ∧ LbP w' p least S (List.replicate least []) ∧ (∀ k, S k → w.heap.size ≤ k) ∧ Below w.heap.size w w' := by
  have k1 : decide ((least : Int) < 1) = false := by rw [decide_eq_false_iff_not]; omega
  have k2 : decide ((1024 : Int) < least) = false := by rw [decide_eq_false_iff_not]; omega
  have hmk := make_rows least (by omega)
  have hsz : szB (List.replicate least []) = 0 := by
    unfold szB
    rw [List.map_replicate]
    simp
  have HL := Hid.mk h2
  have HZ := Hid.mk hsz
  clear h1 h2 hsz
  go_enter Try.func7, Try.ntmps7
  go_wp2
  go_ret2
  have hM := GdS.made (s := itS) (o := rwS) outR w least (by have := HL.out; omega) (S := fun k => (k = w.heap.size ∨ k = w.heap.size + 1) ∧ k ≠ w.heap.size + 1) ⟨Or.inl rfl, by omega⟩
  refine ⟨w.heap.size + 1, fun k => k = w.heap.size ∨ k = w.heap.size + 1, ?_, ⟨.slice (some ⟨w.heap.size, 0, none⟩) least least, ?_⟩, fun k hk => ?_, ?_⟩
  · first | rfl | simp
  · refine ⟨?_, Gd.up ⟨_, hM⟩ (Up.alloc (Up.refl _)).out, Or.inr rfl, fun k hk => ?_⟩
    · unfold csP
      rw [HZ.out]
      exact new_block2 _ _ _
    · simp; omega
  · omega
  · exact (Up.alloc (Up.alloc (Up.refl w))).out
theorem newP_not (w : World) (n : Int) (h : n < 1 ∨ 1024 < n) : Calls Try.prog 7 #[.int .i64 n] w fun e w' => e = .returned (.tuple #[.pointer none, .int .i64 2]) ∧ Below w.heap.size w w' := by
  by_cases h1 : n < 1
  · clear h
    go_enter Try.func7, Try.ntmps7
    go_wp2
    go_ret2
    exact ⟨rfl, Below.refl _ _⟩
  · have h2 : 1024 < n := by omega
    clear h
    go_enter Try.func7, Try.ntmps7
    go_wp2
    go_ret2
    exact ⟨rfl, Below.refl _ _⟩

theorem lenP_any (w : World) (p least : Nat) (S : Nat → Prop) (B : Bks) (h : LbP w p least S B) :
    Calls Try.prog 16 #[.pointer (some ⟨p, 0, none⟩)] w fun e w' => e = .returned (.int .i64 (szB B)) ∧ Below w.heap.size w w' := by
  obtain ⟨v, h⟩ := h
  obtain ⟨⟨c0, c1, c2, c3⟩, f1, f3⟩ := bxP_cells h
  clear h f1 f3
  go_enter Try.func16, Try.ntmps16
  go_wp2_with (go_at_call 37; refine (madeL_cell _ _ c0).mono ?_; rintro e w2 ⟨rfl, rfl⟩)
  go_ret
  exact ⟨rfl, Below.refl _ _⟩
theorem countP_any (w : World) (p least : Nat) (S : Nat → Prop) (B : Bks) (h : LbP w p least S B) :
    Calls Try.prog 17 #[.pointer (some ⟨p, 0, none⟩)] w fun e w' => e = .returned (.int .i64 B.length) ∧ Below w.heap.size w w' := by
  obtain ⟨v, h⟩ := h
  obtain ⟨⟨c0, c1, c2, c3⟩, f1, f3⟩ := bxP_cells h
  obtain ⟨a, cap, rfl, _⟩ := h.slice
  clear h f1 f3
  go_enter Try.func17, Try.ntmps17
  go_wp2_with (go_at_call 37; refine (madeL_cell _ _ c0).mono ?_; rintro e w2 ⟨rfl, rfl⟩)
  go_ret
  exact ⟨rfl, Below.refl _ _⟩
theorem wantsP_any (w : World) (p least : Nat) (S : Nat → Prop) (B : Bks) (h : LbP w p least S B) (hF : Fine B) :
    Calls Try.prog 18 #[.pointer (some ⟨p, 0, none⟩)] w fun e w' => e = .returned (.int .i64 (wantsB least B)) ∧ Below w.heap.size w w' := by
  obtain ⟨v, h⟩ := h
  obtain ⟨⟨c0, c1, c2, c3⟩, f1, f3⟩ := bxP_cells h
  obtain ⟨a, cap, rfl, _⟩ := h.slice
  have hl := hF.len
  have hz := hF.size
  have hp := hF.placed.some_
  unfold wantsB
  clear h f1 f3 hF
  generalize szB B = Z at *
  generalize B.length = N at *
  have hw1 : IntKind.i64.wrap ((2 : Int) * N) = 2 * N := wrap_id (by omega) (by omega)
  have hw2 : IntKind.i64.wrap ((2 : Int) * Z) = 2 * Z := wrap_id (by omega) (by omega)
  by_cases g1 : 2 * N < Z
  · rw [if_pos (⟨g1, by omega⟩ : 2 * N < Z ∧ N < 1048576)]
    have e1 : 2 * (N : Int) < Z := by omega
    have e2 : (N : Int) < 1048576 := by omega
    clear hl hz hp g1
    go_enter Try.func18, Try.ntmps18
    go_wp2_with (go_at_call 37; refine (madeL_cell _ _ c0).mono ?_; rintro e w2 ⟨rfl, rfl⟩)
    go_ret
    exact ⟨rfl, Below.refl _ _⟩
  · rw [if_neg (fun (g : 2 * N < Z ∧ N < 1048576) => g1 g.1)]
    have e1 : ¬ 2 * (N : Int) < Z := by omega
    by_cases g2 : least < N
    · have e2 : (least : Int) < N := by omega
      by_cases g3 : 2 * Z < N
      · have e3 : 2 * (Z : Int) < N := by omega
        rw [if_pos ⟨g2, g3⟩]
        clear hl hz hp g1 g2 g3
        go_enter Try.func18, Try.ntmps18
        go_wp2_with (go_at_call 37; refine (madeL_cell _ _ c0).mono ?_; rintro e w2 ⟨rfl, rfl⟩)
        go_ret
        exact ⟨rfl, Below.refl _ _⟩
      · have e3 : ¬ 2 * (Z : Int) < N := by omega
        rw [if_neg (fun g => g3 g.2)]
        clear hl hz hp g1 g2 g3
        go_enter Try.func18, Try.ntmps18
        go_wp2_with (go_at_call 37; refine (madeL_cell _ _ c0).mono ?_; rintro e w2 ⟨rfl, rfl⟩)
        go_ret
        exact ⟨rfl, Below.refl _ _⟩
    · have e2 : ¬ (least : Int) < N := by omega
      rw [if_neg (fun g => g2 g.1)]
      clear hl hz hp g1 g2
      go_enter Try.func18, Try.ntmps18
      go_wp2_with (go_at_call 37; refine (madeL_cell _ _ c0).mono ?_; rintro e w2 ⟨rfl, rfl⟩)
      go_ret
      exact ⟨rfl, Below.refl _ _⟩

set_option maxHeartbeats 2000000 in
set_option maxRecDepth 100000 in
/-- A row of items cloned. -/
theorem cloneI_any (xs : List It) (a : Option Addr) (cap : Nat) (w : World) (h : CelT w xs a) (hn : a = none → cap = 0) (hl : xs.length ≤ 1000000) :
    Calls Try.prog 39 #[.slice a xs.length cap] w fun e w' => ∃ v', e = .returned v' ∧ Told w w' v' xs := by
  cases a with
  | none =>
    obtain rfl := hn rfl
    have hx : xs = [] := by
      cases xs with
      | nil => rfl
      | cons y r => obtain ⟨b, o, e, _⟩ := h (by simp); cases e
    subst hx
    rw [List.length_nil]
    have hq : ∀ W : World, (binOp .eql 43 (.slice none 0 0) (.slice none 0 0)).run Try.prog W = .ok (.bool true) W := fun W => by kernel_rfl
    clear h hn hl
    go_enter Try.func39, Try.ntmps39
    go_wp2
    go_ret
    exact ⟨_, rfl, Ow.nil _, fun g hg => (by cases hg), Below.refl _ _⟩
  | some ad =>
    obtain ⟨W1, hW1⟩ : ∃ W1, w.alloc (.cells #[] 54) = W1 := ⟨_, rfl⟩
    have hA := App.empty (Up.refl w)
    rw [hW1] at hA
    obtain ⟨v2, w2, hr, h2, hg2, ha2⟩ := cels_append W1 _ [] xs (some ad) xs.length cap hA.its (h.up hA.below) (fun e => by cases e) rfl (by simp; omega)
    have hA2 := hA.more h2 hg2 ha2
    rw [List.nil_append] at hA2
    have H2 := Hid.mk hA2
    have hq : ∀ W : World, (binOp .eql 43 (.slice (some ad) xs.length cap) (.slice none 0 0)).run Try.prog W = .ok (.bool false) W := fun W => by kernel_rfl
    clear h hg2 ha2 h2 hl hn hA hA2
    go_enter Try.func39, Try.ntmps39
    go_wp2_with (first
      | (at_builtin; refine Lib.wpList_append_run _ rfl _ _ _ _ rfl _ _ rfl rfl _ _ hr ?_))
    go_ret
    exact ⟨v2, rfl, H2.out.its, H2.out.new, H2.out.below⟩
set_option maxHeartbeats 2000000 in
theorem atP_any (w : World) (p least : Nat) (S : Nat → Prop) (B : Bks) (n : Int) (h : LbP w p least S B) (hF : Fine B) :
    Calls Try.prog 13 #[.pointer (some ⟨p, 0, none⟩), .int .i64 n] w fun e w' => ∃ v, e = .returned (.tuple #[v, .int .i64 (atE B n)]) ∧ Told w w' v (atV B n) := by
  obtain ⟨v, h⟩ := h
  obtain ⟨⟨c0, c1, c2, c3⟩, f1, f3⟩ := bxP_cells h
  unfold atV atE
  by_cases hn : 0 ≤ n ∧ n < B.length
  · rw [if_pos hn, if_pos hn]
    obtain ⟨N, rfl⟩ := Int.eq_ofNat_of_zero_le hn.1
    have hN : N < B.length := by omega
    obtain ⟨g, cap, a', c, rfl, d0, _, hrow, _⟩ := h.focus hN
    have hln := rowB_len_le B N
    rw [Int.toNat_natCast]
    rw [rowB_lt hN] at hln ⊢
    obtain ⟨a2, c2', e, hm1, hm2, hn0, hcel⟩ := hrow.cells
    simp only [Value.slice.injEq, true_and] at e
    obtain ⟨rfl, rfl⟩ := e
    have hfs := hF.size
    have HC := Hid.mk (fun W (hW : Below w.heap.size w W) => cloneI_any B[N] a' c W (Cs.up hcel hW) hn0 (by omega))
    generalize B[N] = R at *
    have k1 : decide ((N : Int) < 0) = false := by rw [decide_eq_false_iff_not]; omega
    have k2 : decide ((B.length : Int) ≤ N) = false := by rw [decide_eq_false_iff_not]; omega
    have k3 : (N : Int) < B.length := by omega
    clear h hrow hn hN hF f1 f3 hm1 hm2 hn0 hcel hfs hln
    go_enter Try.func13, Try.ntmps13
    go_wp2_with (first
      | (go_at_call 37; refine (madeL_cell _ _ c0).mono ?_; rintro e w2 ⟨rfl, rfl⟩)
      | (go_at_call 39; refine (HC.out _ (Below.refl _ _)).mono ?_; rintro e w3 ⟨v3, rfl, ht⟩; have HT := Hid.mk ht; clear ht))
    go_ret2
    exact ⟨_, rfl, HT.out⟩
  · rw [if_neg hn, if_neg hn]
    obtain ⟨a, cap, rfl, _⟩ := h.slice
    by_cases k1 : n < 0
    · clear h hn hF f1 f3
      go_enter Try.func13, Try.ntmps13
      go_wp2_with (go_at_call 37; refine (madeL_cell _ _ c0).mono ?_; rintro e w2 ⟨rfl, rfl⟩)
      go_ret2
      exact ⟨_, rfl, Ow.nil _, fun g hg => (by cases hg), Below.refl _ _⟩
    · have k2 : (B.length : Int) ≤ n := by omega
      have k1 : decide (n < 0) = false := by rw [decide_eq_false_iff_not]; omega
      clear h hn hF f1 f3
      go_enter Try.func13, Try.ntmps13
      go_wp2_with (go_at_call 37; refine (madeL_cell _ _ c0).mono ?_; rintro e w2 ⟨rfl, rfl⟩)
      go_ret2
      exact ⟨_, rfl, Ow.nil _, fun g hg => (by cases hg), Below.refl _ _⟩
end Go.Proofs.Ytkijbphbibcnoaa
