/-
  The document's buckets in memory; how many items there are, what is wanted, which bucket a hash has; one is made.
-/
import Derived.Test.YtkijbphbibcnoaaLinOver
import Derived.Test.YtkijbphbibcnoaaKitBkt
namespace Go.Proofs.Ytkijbphbibcnoaa
open Go.RowKit Go.Deep Go.Maps Go.WideShapes

/-- The document's buckets: their box at q, their rows at v, all their memory in S. -/
structure RbS (w : World) (q least : Nat) (v : Value) (S : Nat → Prop) (B : Bks) : Prop where
  box : w.heap[q]? = some (.cells #[.int .i64 least, v] 64)
  gd : Gd itS rwS w v B (fun k => S k ∧ k ≠ q)
  sq : S q
  lt : ∀ k, S k → k < w.heap.size
def Rb (w : World) (q least : Nat) (S : Nat → Prop) (B : Bks) : Prop := ∃ v, RbS w q least v S B
/-- What a call of theirs leaves. -/
def StR (w : World) (q least : Nat) (S : Nat → Prop) (B' : Bks) (w' : World) : Prop := ∃ S', Rb w' q least S' B' ∧ Only S w w' ∧ ∀ k, S' k → S k ∨ w.heap.size ≤ k
section
variable {w w' : World} {q least : Nat} {v : Value} {S : Nat → Prop} {B : Bks}
theorem RbS.kept {T : Nat → Prop} (h : RbS w q least v S B) (ho : Only T w w') (hT : ∀ k, S k → ¬ T k) : RbS w' q least v S B :=
  ⟨ho.box h.box (hT q h.sq), h.gd.kept ho (fun k hk => hT k hk.1), h.sq, fun k hk => Nat.lt_of_lt_of_le (h.lt k hk) ho.size⟩
theorem RbS.up (h : RbS w q least v S B) (hb : Below w.heap.size w w') : RbS w' q least v S B := h.kept (T := fun _ => False) (Only.up hb) (fun _ _ f => f)
theorem Rb.kept {T : Nat → Prop} (h : Rb w q least S B) (ho : Only T w w') (hT : ∀ k, S k → ¬ T k) : Rb w' q least S B := let ⟨v, h⟩ := h; ⟨v, h.kept ho hT⟩
theorem Rb.up (h : Rb w q least S B) (hb : Below w.heap.size w w') : Rb w' q least S B := let ⟨v, h⟩ := h; ⟨v, h.up hb⟩
theorem Rb.step (h : Rb w q least S B) (hb : Below w.heap.size w w') : StR w q least S B w' := ⟨S, h.up hb, Only.up hb, fun _ hk => Or.inl hk⟩
theorem RbS.cells (h : RbS w q least v S B) : w.cell? ⟨q, 0, none⟩ = some (.int .i64 least) ∧ w.cell? ⟨q, 1, none⟩ = some v ∧ w.frozen? ⟨q, 1, none⟩ = false := by
  have h' := h.box
  simp [World.cell?, World.frozen?, h']
theorem RbS.slice (h : RbS w q least v S B) : ∃ a cap, v = .slice a B.length cap := let ⟨a, cap, e, _⟩ := h.gd.slice; ⟨a, cap, e⟩
theorem RbS.at_ (h : RbS w q least v S B) {i : Nat} (hi : i < B.length) : ∃ g cap a c, v = .slice (some ⟨g, 0, none⟩) B.length cap ∧ B.length ≤ cap ∧ w.cell? ⟨g, i, none⟩ = some (.slice a B[i].length c) ∧ w.frozen? ⟨g, i, none⟩ = false ∧ Its w (.slice a B[i].length c) B[i] := by
  obtain ⟨g, cap, a, c, h1, h2, _, h4, h5, h6, _⟩ := h.gd.at_ outR hi
  exact ⟨g, cap, a, c, h1, h2, h4, h5, h6⟩
end
theorem szB_take {B : Bks} {i : Nat} (h : i < B.length) : szB (B.take (i + 1)) = szB (B.take i) + B[i].length := by
  have e : B.take (i + 1) = B.take i ++ [B[i]] := by rw [List.take_add_one, List.getElem?_eq_getElem h]; rfl
  rw [e]
  unfold szB
  rw [List.map_append, List.sum_append]
  simp
theorem szB_take_le (B : Bks) (i : Nat) : szB (B.take i) ≤ szB B := by
  have e : szB B = szB (B.take i ++ B.drop i) := by rw [List.take_append_drop]
  rw [e]
  unfold szB
  rw [List.map_append, List.sum_append]
  omega

set_option maxRecDepth 100000 in
set_option maxHeartbeats 2000000 in
theorem lenR_any (q least : Nat) (v : Value) (S : Nat → Prop) (B : Bks) (w : World) (h : RbS w q least v S B) (hB : B.length ≤ 1048576) (hu : szB B ≤ 1000000000) :
    Calls Try.prog 35 #[.pointer (some ⟨q, 0, none⟩)] w fun e w' => e = .returned (.int .i64 (szB B)) ∧ w = w' := by
  obtain ⟨c0, c1, f1⟩ := h.cells
  obtain ⟨a, cap, rfl⟩ := h.slice
  have HR := Hid.mk h
  have HB := Hid.mk (And.intro hB hu)
  clear h hB hu
  go_enter Try.func35, Try.ntmps35
  go_wp2
  go_loopw [3, 4] (fun nn ii wr => ∃ i : Nat, i ≤ B.length ∧ nn = .int .i64 (szB (B.take i)) ∧ ii = .int .i64 i ∧ wr = w) (fun _ ii _ => B.length - (intOf ii).toNat)
  case atStart => exact ⟨0, Nat.zero_le _, by simp [szB], rfl, rfl⟩
  case round =>
    obtain ⟨i, hi, rfl, rfl, rfl⟩ := hrel
    have hBB := HB.out
    by_cases hlt : i < B.length
    · obtain ⟨g, cap', a', lc, hv, hcap, d0, _, _⟩ := HR.out.at_ hlt
      simp only [Value.slice.injEq, true_and] at hv
      obtain ⟨rfl, rfl⟩ := hv
      have hst := szB_take hlt
      have hle := szB_take_le B i
      have hle1 := szB_take_le B (i + 1)
      have hwi : IntKind.i64.wrap ((i : Int) + 1) = ((i + 1 : Nat) : Int) := by rw [wrap_id (by omega) (by omega)]; omega
      have HL := Hid.mk hlt
      obtain ⟨U, hU⟩ : ∃ U, szB (B.take i) = U := ⟨_, rfl⟩
      obtain ⟨C, hC⟩ : ∃ C, (B[i]'hlt).length = C := ⟨_, rfl⟩
      rw [hU] at hst hle ⊢
      rw [hC] at hst d0
      have hwu : IntKind.i64.wrap ((U : Int) + C) = ((U + C : Nat) : Int) := by rw [wrap_id (by omega) (by omega)]; omega
      have HS := Hid.mk hst
      have hli : (i : Int) < B.length := by omega
      clear hle hle1 hBB hst hU hC
      go_wp2
      go_roundw
      case rel => exact ⟨i + 1, HL.out, by rw [HS.out]; rfl, by first | rfl | go_num, by first | rfl | trivial⟩
      case measure => have h1 : i < B.length := HL.out; simp [intOf]; omega
    · obtain rfl : i = B.length := by omega
      clear hlt hBB
      go_wp2
      go_ret
      exact ⟨by simp, rfl⟩
theorem lenR_up {q least : Nat} {S : Nat → Prop} {B : Bks} {w : World} (h : Rb w q least S B) (hB : B.length ≤ 1048576) (hu : szB B ≤ 1000000000) {n : Nat} (hn : szB B = n) :
    Calls Try.prog 35 #[.pointer (some ⟨q, 0, none⟩)] w fun e w' => e = .returned (.int .i64 n) ∧ Below w.heap.size w w' := by
  obtain ⟨v, h⟩ := h
  exact (lenR_any q least v S B w h hB hu).mono fun e w' ⟨h1, h2⟩ => ⟨by rw [h1, hn], by rw [← h2]; exact Below.refl _ _⟩

set_option maxHeartbeats 2000000 in
theorem ofR_any (q least : Nat) (S : Nat → Prop) (B : Bks) (h : Nat) (w : World) (hb : Rb w q least S B) (hh : h < 4294967296) (h1 : 1 ≤ B.length) (h2 : B.length ≤ 1048576) :
    Calls Try.prog 48 #[.pointer (some ⟨q, 0, none⟩), .int .u32 h] w fun e w' => e = .returned (.int .i64 (ofB B h)) ∧ w = w' := by
  obtain ⟨v, hb⟩ := hb
  obtain ⟨c0, c1, f1⟩ := hb.cells
  obtain ⟨a, cap, rfl⟩ := hb.slice
  have hc : Hid (∀ w1, Calls Try.prog 51 #[.int .u32 h, .int .i64 B.length] w1 fun e w' => e = .returned (.tuple #[.int .i64 (ofB B h), .int .i64 0]) ∧ w1 = w') := Hid.mk fun w1 => by
    have := refbucket_any h hh (B.length : Int) w1
    unfold bktV bktE at this
    rw [if_pos (by omega), if_pos (by omega), Int.toNat_natCast] at this
    exact this
  clear hb hh h1 h2
  go_enter Try.func48, Try.ntmps48
  go_wp2_with (go_at_call 51; refine (hc.out _).mono ?_; rintro e w2 ⟨rfl, rfl⟩)
  go_ret
  exact ⟨rfl, rfl⟩
theorem ofR_up {q least : Nat} {S : Nat → Prop} {B : Bks} {h : Nat} {w : World} (hb : Rb w q least S B) (hh : h < 4294967296) (h1 : 1 ≤ B.length) (h2 : B.length ≤ 1048576) {n : Nat} (hn : ofB B h = n) :
    Calls Try.prog 48 #[.pointer (some ⟨q, 0, none⟩), .int .u32 h] w fun e w' => e = .returned (.int .i64 n) ∧ Below w.heap.size w w' :=
  (ofR_any q least S B h w hb hh h1 h2).mono fun e w' ⟨h1, h2⟩ => ⟨by rw [h1, hn], by rw [← h2]; exact Below.refl _ _⟩

set_option maxRecDepth 100000 in
set_option maxHeartbeats 2000000 in
theorem wantsR_any (q least : Nat) (S : Nat → Prop) (B : Bks) (w : World) (hb : Rb w q least S B) (hB : B.length ≤ 1048576) (hu : szB B ≤ 1000000000) :
    Calls Try.prog 36 #[.pointer (some ⟨q, 0, none⟩)] w fun e w' => e = .returned (.int .i64 (wantsB least B)) ∧ Below w.heap.size w w' := by
  have hl := Hid.mk (lenR_up hb hB hu rfl)
  obtain ⟨v, hb⟩ := hb
  obtain ⟨c0, c1, f1⟩ := hb.cells
  obtain ⟨a, cap, rfl⟩ := hb.slice
  unfold wantsB
  obtain ⟨C, hC⟩ : ∃ C, B.length = C := ⟨_, rfl⟩
  obtain ⟨U, hU⟩ : ∃ U, szB B = U := ⟨_, rfl⟩
  rw [hC] at c1 hB
  rw [hU] at hl hu
  rw [hC, hU]
  have w1 : IntKind.i64.wrap (2 * (C : Int)) = 2 * C := wrap_id (by omega) (by omega)
  have w2 : IntKind.i64.wrap (2 * (U : Int)) = 2 * U := wrap_id (by omega) (by omega)
  clear hb hC hU
  by_cases h1 : 2 * C < U ∧ C < 1048576
  · rw [if_pos h1]
    have e1 : (2 * (C : Int)) < U := by omega
    have e2 : (C : Int) < 1048576 := by omega
    clear h1
    go_enter Try.func36, Try.ntmps36
    go_wp2_with (go_at_call 35; refine hl.out.mono ?_; rintro e w2 ⟨rfl, hb2⟩; have HB2 := Hid.mk hb2; have c1 := cell_below hb2 _ _ _ c1; clear hb2)
    go_ret
    exact ⟨rfl, HB2.out⟩
  · rw [if_neg h1]
    have key : (¬ (2 * (C : Int)) < U) ∨ ((2 * (C : Int)) < U ∧ ¬ (C : Int) < 1048576) := by omega
    clear h1
    by_cases h2 : least < C
    · have g1 : (least : Int) < C := by omega
      by_cases h3 : 2 * U < C
      · have g2 : 2 * (U : Int) < C := by omega
        rw [if_pos ⟨h2, h3⟩]
        clear h2 h3
        rcases key with k1 | ⟨k1, k2⟩
        · go_enter Try.func36, Try.ntmps36
          go_upto_region 4 with (go_at_call 35; refine hl.out.mono ?_; rintro e w2 ⟨rfl, hb2⟩; have HB2 := Hid.mk hb2; have c0 := cell_below hb2 _ _ _ c0; have c1 := cell_below hb2 _ _ _ c1; clear hb2)
          refine region_up (W := w2) (by kernel_rfl) (by kernel_rfl) (Up.refl _) ?_
          refine quiet_value (v := .pointer (some ⟨q, 0, none⟩)) rfl (fun _ _ => rfl) ?_
          simp only [Act.put, List.setIfInBounds_toArray, List.set_cons_zero, List.set_cons_succ]
          refine quiet_value (v := .pointer (some ⟨q, 0, none⟩)) rfl (fun _ _ => (by go_simp)) ?_
          simp only [Act.put, List.setIfInBounds_toArray, List.set_cons_zero, List.set_cons_succ]
          refine quiet_value (v := .pointer (some ⟨q, 1, none⟩)) rfl (fun _ _ => (by go_simp)) ?_
          simp only [Act.put, List.setIfInBounds_toArray, List.set_cons_zero, List.set_cons_succ]
          refine quiet_value (v := .slice a C cap) rfl (fun W h => (by have u0 := cell_below h.out _ _ _ c1; go_simp)) ?_
          simp only [Act.put, List.setIfInBounds_toArray, List.set_cons_zero, List.set_cons_succ]
          refine quiet_value (v := .int .i64 C) rfl (fun _ _ => (by go_simp)) ?_
          simp only [Act.put, List.setIfInBounds_toArray, List.set_cons_zero, List.set_cons_succ]
          refine quiet_value (v := .pointer (some ⟨q, 0, none⟩)) rfl (fun _ _ => rfl) ?_
          simp only [Act.put, List.setIfInBounds_toArray, List.set_cons_zero, List.set_cons_succ]
          refine quiet_value (v := .pointer (some ⟨q, 0, none⟩)) rfl (fun _ _ => (by go_simp)) ?_
          simp only [Act.put, List.setIfInBounds_toArray, List.set_cons_zero, List.set_cons_succ]
          refine quiet_value (v := .pointer (some ⟨q, 0, none⟩)) rfl (fun _ _ => (by go_simp)) ?_
          simp only [Act.put, List.setIfInBounds_toArray, List.set_cons_zero, List.set_cons_succ]
          refine quiet_value (v := .int .i64 least) rfl (fun W h => (by have u0 := cell_below h.out _ _ _ c0; go_simp)) ?_
          simp only [Act.put, List.setIfInBounds_toArray, List.set_cons_zero, List.set_cons_succ]
          refine quiet_value (v := .bool true) rfl (fun _ _ => (by go_simp)) ?_
          simp only [Act.put, List.setIfInBounds_toArray, List.set_cons_zero, List.set_cons_succ]
          refine quiet_value (v := .bool true) rfl (fun _ _ => rfl) ?_
          simp only [Act.put, List.setIfInBounds_toArray, List.set_cons_zero, List.set_cons_succ]
          refine quiet_value (v := .int .i64 U) rfl (fun _ _ => rfl) ?_
          simp only [Act.put, List.setIfInBounds_toArray, List.set_cons_zero, List.set_cons_succ]
          refine quiet_value (v := .int .i64 (2 * (U : Int))) rfl (fun _ _ => (by go_simp)) ?_
          simp only [Act.put, List.setIfInBounds_toArray, List.set_cons_zero, List.set_cons_succ]
          refine quiet_value (v := .pointer (some ⟨q, 0, none⟩)) rfl (fun _ _ => rfl) ?_
          simp only [Act.put, List.setIfInBounds_toArray, List.set_cons_zero, List.set_cons_succ]
          refine quiet_value (v := .pointer (some ⟨q, 0, none⟩)) rfl (fun _ _ => (by go_simp)) ?_
          simp only [Act.put, List.setIfInBounds_toArray, List.set_cons_zero, List.set_cons_succ]
          refine quiet_value (v := .pointer (some ⟨q, 1, none⟩)) rfl (fun _ _ => (by go_simp)) ?_
          simp only [Act.put, List.setIfInBounds_toArray, List.set_cons_zero, List.set_cons_succ]
          refine quiet_value (v := .slice a C cap) rfl (fun W h => (by have u0 := cell_below h.out _ _ _ c1; go_simp)) ?_
          simp only [Act.put, List.setIfInBounds_toArray, List.set_cons_zero, List.set_cons_succ]
          refine quiet_value (v := .int .i64 C) rfl (fun _ _ => (by go_simp)) ?_
          simp only [Act.put, List.setIfInBounds_toArray, List.set_cons_zero, List.set_cons_succ]
          refine quiet_value (v := .bool true) rfl (fun _ _ => (by go_simp)) ?_
          simp only [Act.put, List.setIfInBounds_toArray, List.set_cons_zero, List.set_cons_succ]
          refine quiet_value (v := .bool true) rfl (fun _ _ => rfl) ?_
          simp only [Act.put, List.setIfInBounds_toArray, List.set_cons_zero, List.set_cons_succ]
          refine quiet_nil ?_
          intro w3 hw3
          have HW3 := Hid.mk (HB2.out.trans (hw3.out.mono HB2.out.size))
          clear hw3 c0 c1
          go_wp2
          go_ret
          exact ⟨rfl, HW3.out⟩
        · exact absurd k1 (by omega)
      · have g2 : ¬ 2 * (U : Int) < C := by omega
        have g2' : (C : Int) ≤ 2 * (U : Int) := by omega
        rw [if_neg (fun h => h3 h.2)]
        clear h2 h3
        rcases key with k1 | ⟨k1, k2⟩
        · go_enter Try.func36, Try.ntmps36
          go_upto_region 4 with (go_at_call 35; refine hl.out.mono ?_; rintro e w2 ⟨rfl, hb2⟩; have HB2 := Hid.mk hb2; have c0 := cell_below hb2 _ _ _ c0; have c1 := cell_below hb2 _ _ _ c1; clear hb2)
          refine region_up (W := w2) (by kernel_rfl) (by kernel_rfl) (Up.refl _) ?_
          refine quiet_value (v := .pointer (some ⟨q, 0, none⟩)) rfl (fun _ _ => rfl) ?_
          simp only [Act.put, List.setIfInBounds_toArray, List.set_cons_zero, List.set_cons_succ]
          refine quiet_value (v := .pointer (some ⟨q, 0, none⟩)) rfl (fun _ _ => (by go_simp)) ?_
          simp only [Act.put, List.setIfInBounds_toArray, List.set_cons_zero, List.set_cons_succ]
          refine quiet_value (v := .pointer (some ⟨q, 1, none⟩)) rfl (fun _ _ => (by go_simp)) ?_
          simp only [Act.put, List.setIfInBounds_toArray, List.set_cons_zero, List.set_cons_succ]
          refine quiet_value (v := .slice a C cap) rfl (fun W h => (by have u0 := cell_below h.out _ _ _ c1; go_simp)) ?_
          simp only [Act.put, List.setIfInBounds_toArray, List.set_cons_zero, List.set_cons_succ]
          refine quiet_value (v := .int .i64 C) rfl (fun _ _ => (by go_simp)) ?_
          simp only [Act.put, List.setIfInBounds_toArray, List.set_cons_zero, List.set_cons_succ]
          refine quiet_value (v := .pointer (some ⟨q, 0, none⟩)) rfl (fun _ _ => rfl) ?_
          simp only [Act.put, List.setIfInBounds_toArray, List.set_cons_zero, List.set_cons_succ]
          refine quiet_value (v := .pointer (some ⟨q, 0, none⟩)) rfl (fun _ _ => (by go_simp)) ?_
          simp only [Act.put, List.setIfInBounds_toArray, List.set_cons_zero, List.set_cons_succ]
          refine quiet_value (v := .pointer (some ⟨q, 0, none⟩)) rfl (fun _ _ => (by go_simp)) ?_
          simp only [Act.put, List.setIfInBounds_toArray, List.set_cons_zero, List.set_cons_succ]
          refine quiet_value (v := .int .i64 least) rfl (fun W h => (by have u0 := cell_below h.out _ _ _ c0; go_simp)) ?_
          simp only [Act.put, List.setIfInBounds_toArray, List.set_cons_zero, List.set_cons_succ]
          refine quiet_value (v := .bool true) rfl (fun _ _ => (by go_simp)) ?_
          simp only [Act.put, List.setIfInBounds_toArray, List.set_cons_zero, List.set_cons_succ]
          refine quiet_value (v := .bool true) rfl (fun _ _ => rfl) ?_
          simp only [Act.put, List.setIfInBounds_toArray, List.set_cons_zero, List.set_cons_succ]
          refine quiet_value (v := .int .i64 U) rfl (fun _ _ => rfl) ?_
          simp only [Act.put, List.setIfInBounds_toArray, List.set_cons_zero, List.set_cons_succ]
          refine quiet_value (v := .int .i64 (2 * (U : Int))) rfl (fun _ _ => (by go_simp)) ?_
          simp only [Act.put, List.setIfInBounds_toArray, List.set_cons_zero, List.set_cons_succ]
          refine quiet_value (v := .pointer (some ⟨q, 0, none⟩)) rfl (fun _ _ => rfl) ?_
          simp only [Act.put, List.setIfInBounds_toArray, List.set_cons_zero, List.set_cons_succ]
          refine quiet_value (v := .pointer (some ⟨q, 0, none⟩)) rfl (fun _ _ => (by go_simp)) ?_
          simp only [Act.put, List.setIfInBounds_toArray, List.set_cons_zero, List.set_cons_succ]
          refine quiet_value (v := .pointer (some ⟨q, 1, none⟩)) rfl (fun _ _ => (by go_simp)) ?_
          simp only [Act.put, List.setIfInBounds_toArray, List.set_cons_zero, List.set_cons_succ]
          refine quiet_value (v := .slice a C cap) rfl (fun W h => (by have u0 := cell_below h.out _ _ _ c1; go_simp)) ?_
          simp only [Act.put, List.setIfInBounds_toArray, List.set_cons_zero, List.set_cons_succ]
          refine quiet_value (v := .int .i64 C) rfl (fun _ _ => (by go_simp)) ?_
          simp only [Act.put, List.setIfInBounds_toArray, List.set_cons_zero, List.set_cons_succ]
          refine quiet_value (v := .bool false) rfl (fun _ _ => (by go_simp)) ?_
          simp only [Act.put, List.setIfInBounds_toArray, List.set_cons_zero, List.set_cons_succ]
          refine quiet_value (v := .bool false) rfl (fun _ _ => rfl) ?_
          simp only [Act.put, List.setIfInBounds_toArray, List.set_cons_zero, List.set_cons_succ]
          refine quiet_nil ?_
          intro w3 hw3
          have HW3 := Hid.mk (HB2.out.trans (hw3.out.mono HB2.out.size))
          clear hw3 c0 c1
          go_wp2
          go_ret
          exact ⟨rfl, HW3.out⟩
        · have k2' : decide ((C : Int) < 1048576) = false := decide_eq_false k2
          clear k2 hB
          go_enter Try.func36, Try.ntmps36
          go_upto_region 4 with (go_at_call 35; refine hl.out.mono ?_; rintro e w2 ⟨rfl, hb2⟩; have HB2 := Hid.mk hb2; have c0 := cell_below hb2 _ _ _ c0; have c1 := cell_below hb2 _ _ _ c1; clear hb2)
          refine region_up (W := w2) (by kernel_rfl) (by kernel_rfl) (Up.refl _) ?_
          refine quiet_value (v := .pointer (some ⟨q, 0, none⟩)) rfl (fun _ _ => rfl) ?_
          simp only [Act.put, List.setIfInBounds_toArray, List.set_cons_zero, List.set_cons_succ]
          refine quiet_value (v := .pointer (some ⟨q, 0, none⟩)) rfl (fun _ _ => (by go_simp)) ?_
          simp only [Act.put, List.setIfInBounds_toArray, List.set_cons_zero, List.set_cons_succ]
          refine quiet_value (v := .pointer (some ⟨q, 1, none⟩)) rfl (fun _ _ => (by go_simp)) ?_
          simp only [Act.put, List.setIfInBounds_toArray, List.set_cons_zero, List.set_cons_succ]
          refine quiet_value (v := .slice a C cap) rfl (fun W h => (by have u0 := cell_below h.out _ _ _ c1; go_simp)) ?_
          simp only [Act.put, List.setIfInBounds_toArray, List.set_cons_zero, List.set_cons_succ]
          refine quiet_value (v := .int .i64 C) rfl (fun _ _ => (by go_simp)) ?_
          simp only [Act.put, List.setIfInBounds_toArray, List.set_cons_zero, List.set_cons_succ]
          refine quiet_value (v := .pointer (some ⟨q, 0, none⟩)) rfl (fun _ _ => rfl) ?_
          simp only [Act.put, List.setIfInBounds_toArray, List.set_cons_zero, List.set_cons_succ]
          refine quiet_value (v := .pointer (some ⟨q, 0, none⟩)) rfl (fun _ _ => (by go_simp)) ?_
          simp only [Act.put, List.setIfInBounds_toArray, List.set_cons_zero, List.set_cons_succ]
          refine quiet_value (v := .pointer (some ⟨q, 0, none⟩)) rfl (fun _ _ => (by go_simp)) ?_
          simp only [Act.put, List.setIfInBounds_toArray, List.set_cons_zero, List.set_cons_succ]
          refine quiet_value (v := .int .i64 least) rfl (fun W h => (by have u0 := cell_below h.out _ _ _ c0; go_simp)) ?_
          simp only [Act.put, List.setIfInBounds_toArray, List.set_cons_zero, List.set_cons_succ]
          refine quiet_value (v := .bool true) rfl (fun _ _ => (by go_simp)) ?_
          simp only [Act.put, List.setIfInBounds_toArray, List.set_cons_zero, List.set_cons_succ]
          refine quiet_value (v := .bool true) rfl (fun _ _ => rfl) ?_
          simp only [Act.put, List.setIfInBounds_toArray, List.set_cons_zero, List.set_cons_succ]
          refine quiet_value (v := .int .i64 U) rfl (fun _ _ => rfl) ?_
          simp only [Act.put, List.setIfInBounds_toArray, List.set_cons_zero, List.set_cons_succ]
          refine quiet_value (v := .int .i64 (2 * (U : Int))) rfl (fun _ _ => (by go_simp)) ?_
          simp only [Act.put, List.setIfInBounds_toArray, List.set_cons_zero, List.set_cons_succ]
          refine quiet_value (v := .pointer (some ⟨q, 0, none⟩)) rfl (fun _ _ => rfl) ?_
          simp only [Act.put, List.setIfInBounds_toArray, List.set_cons_zero, List.set_cons_succ]
          refine quiet_value (v := .pointer (some ⟨q, 0, none⟩)) rfl (fun _ _ => (by go_simp)) ?_
          simp only [Act.put, List.setIfInBounds_toArray, List.set_cons_zero, List.set_cons_succ]
          refine quiet_value (v := .pointer (some ⟨q, 1, none⟩)) rfl (fun _ _ => (by go_simp)) ?_
          simp only [Act.put, List.setIfInBounds_toArray, List.set_cons_zero, List.set_cons_succ]
          refine quiet_value (v := .slice a C cap) rfl (fun W h => (by have u0 := cell_below h.out _ _ _ c1; go_simp)) ?_
          simp only [Act.put, List.setIfInBounds_toArray, List.set_cons_zero, List.set_cons_succ]
          refine quiet_value (v := .int .i64 C) rfl (fun _ _ => (by go_simp)) ?_
          simp only [Act.put, List.setIfInBounds_toArray, List.set_cons_zero, List.set_cons_succ]
          refine quiet_value (v := .bool false) rfl (fun _ _ => (by go_simp)) ?_
          simp only [Act.put, List.setIfInBounds_toArray, List.set_cons_zero, List.set_cons_succ]
          refine quiet_value (v := .bool false) rfl (fun _ _ => rfl) ?_
          simp only [Act.put, List.setIfInBounds_toArray, List.set_cons_zero, List.set_cons_succ]
          refine quiet_nil ?_
          intro w3 hw3
          have HW3 := Hid.mk (HB2.out.trans (hw3.out.mono HB2.out.size))
          clear hw3 c0 c1
          go_wp2
          go_ret
          exact ⟨rfl, HW3.out⟩
    · have g1 : ¬ (least : Int) < C := by omega
      have g1' : C ≤ least := by omega
      rw [if_neg (fun h => h2 h.1)]
      clear h2
      rcases key with k1 | ⟨k1, k2⟩
      · go_enter Try.func36, Try.ntmps36
        go_upto_region 4 with (go_at_call 35; refine hl.out.mono ?_; rintro e w2 ⟨rfl, hb2⟩; have HB2 := Hid.mk hb2; have c0 := cell_below hb2 _ _ _ c0; have c1 := cell_below hb2 _ _ _ c1; clear hb2)
        refine region_up (W := w2) (by kernel_rfl) (by kernel_rfl) (Up.refl _) ?_
        refine quiet_value (v := .pointer (some ⟨q, 0, none⟩)) rfl (fun _ _ => rfl) ?_
        simp only [Act.put, List.setIfInBounds_toArray, List.set_cons_zero, List.set_cons_succ]
        refine quiet_value (v := .pointer (some ⟨q, 0, none⟩)) rfl (fun _ _ => (by go_simp)) ?_
        simp only [Act.put, List.setIfInBounds_toArray, List.set_cons_zero, List.set_cons_succ]
        refine quiet_value (v := .pointer (some ⟨q, 1, none⟩)) rfl (fun _ _ => (by go_simp)) ?_
        simp only [Act.put, List.setIfInBounds_toArray, List.set_cons_zero, List.set_cons_succ]
        refine quiet_value (v := .slice a C cap) rfl (fun W h => (by have u0 := cell_below h.out _ _ _ c1; go_simp)) ?_
        simp only [Act.put, List.setIfInBounds_toArray, List.set_cons_zero, List.set_cons_succ]
        refine quiet_value (v := .int .i64 C) rfl (fun _ _ => (by go_simp)) ?_
        simp only [Act.put, List.setIfInBounds_toArray, List.set_cons_zero, List.set_cons_succ]
        refine quiet_value (v := .pointer (some ⟨q, 0, none⟩)) rfl (fun _ _ => rfl) ?_
        simp only [Act.put, List.setIfInBounds_toArray, List.set_cons_zero, List.set_cons_succ]
        refine quiet_value (v := .pointer (some ⟨q, 0, none⟩)) rfl (fun _ _ => (by go_simp)) ?_
        simp only [Act.put, List.setIfInBounds_toArray, List.set_cons_zero, List.set_cons_succ]
        refine quiet_value (v := .pointer (some ⟨q, 0, none⟩)) rfl (fun _ _ => (by go_simp)) ?_
        simp only [Act.put, List.setIfInBounds_toArray, List.set_cons_zero, List.set_cons_succ]
        refine quiet_value (v := .int .i64 least) rfl (fun W h => (by have u0 := cell_below h.out _ _ _ c0; go_simp)) ?_
        simp only [Act.put, List.setIfInBounds_toArray, List.set_cons_zero, List.set_cons_succ]
        refine quiet_value (v := .bool false) rfl (fun _ _ => (by go_simp)) ?_
        simp only [Act.put, List.setIfInBounds_toArray, List.set_cons_zero, List.set_cons_succ]
        refine quiet_value (v := .bool false) rfl (fun _ _ => rfl) ?_
        simp only [Act.put, List.setIfInBounds_toArray, List.set_cons_zero, List.set_cons_succ]
        refine quiet_not rfl ?_
        simp only [Act.put, List.setIfInBounds_toArray, List.set_cons_zero, List.set_cons_succ]
        refine quiet_not rfl ?_
        simp only [Act.put, List.setIfInBounds_toArray, List.set_cons_zero, List.set_cons_succ]
        refine quiet_not rfl ?_
        simp only [Act.put, List.setIfInBounds_toArray, List.set_cons_zero, List.set_cons_succ]
        refine quiet_not rfl ?_
        simp only [Act.put, List.setIfInBounds_toArray, List.set_cons_zero, List.set_cons_succ]
        refine quiet_not rfl ?_
        simp only [Act.put, List.setIfInBounds_toArray, List.set_cons_zero, List.set_cons_succ]
        refine quiet_not rfl ?_
        simp only [Act.put, List.setIfInBounds_toArray, List.set_cons_zero, List.set_cons_succ]
        refine quiet_not rfl ?_
        simp only [Act.put, List.setIfInBounds_toArray, List.set_cons_zero, List.set_cons_succ]
        refine quiet_not rfl ?_
        simp only [Act.put, List.setIfInBounds_toArray, List.set_cons_zero, List.set_cons_succ]
        refine quiet_value (v := .bool false) rfl (fun _ _ => rfl) ?_
        simp only [Act.put, List.setIfInBounds_toArray, List.set_cons_zero, List.set_cons_succ]
        refine quiet_nil ?_
        intro w3 hw3
        have HW3 := Hid.mk (HB2.out.trans (hw3.out.mono HB2.out.size))
        clear hw3 c0 c1
        go_wp2
        go_ret
        exact ⟨rfl, HW3.out⟩
      · have k2' : decide ((C : Int) < 1048576) = false := decide_eq_false k2
        clear k2 hB
        go_enter Try.func36, Try.ntmps36
        go_upto_region 4 with (go_at_call 35; refine hl.out.mono ?_; rintro e w2 ⟨rfl, hb2⟩; have HB2 := Hid.mk hb2; have c0 := cell_below hb2 _ _ _ c0; have c1 := cell_below hb2 _ _ _ c1; clear hb2)
        refine region_up (W := w2) (by kernel_rfl) (by kernel_rfl) (Up.refl _) ?_
        refine quiet_value (v := .pointer (some ⟨q, 0, none⟩)) rfl (fun _ _ => rfl) ?_
        simp only [Act.put, List.setIfInBounds_toArray, List.set_cons_zero, List.set_cons_succ]
        refine quiet_value (v := .pointer (some ⟨q, 0, none⟩)) rfl (fun _ _ => (by go_simp)) ?_
        simp only [Act.put, List.setIfInBounds_toArray, List.set_cons_zero, List.set_cons_succ]
        refine quiet_value (v := .pointer (some ⟨q, 1, none⟩)) rfl (fun _ _ => (by go_simp)) ?_
        simp only [Act.put, List.setIfInBounds_toArray, List.set_cons_zero, List.set_cons_succ]
        refine quiet_value (v := .slice a C cap) rfl (fun W h => (by have u0 := cell_below h.out _ _ _ c1; go_simp)) ?_
        simp only [Act.put, List.setIfInBounds_toArray, List.set_cons_zero, List.set_cons_succ]
        refine quiet_value (v := .int .i64 C) rfl (fun _ _ => (by go_simp)) ?_
        simp only [Act.put, List.setIfInBounds_toArray, List.set_cons_zero, List.set_cons_succ]
        refine quiet_value (v := .pointer (some ⟨q, 0, none⟩)) rfl (fun _ _ => rfl) ?_
        simp only [Act.put, List.setIfInBounds_toArray, List.set_cons_zero, List.set_cons_succ]
        refine quiet_value (v := .pointer (some ⟨q, 0, none⟩)) rfl (fun _ _ => (by go_simp)) ?_
        simp only [Act.put, List.setIfInBounds_toArray, List.set_cons_zero, List.set_cons_succ]
        refine quiet_value (v := .pointer (some ⟨q, 0, none⟩)) rfl (fun _ _ => (by go_simp)) ?_
        simp only [Act.put, List.setIfInBounds_toArray, List.set_cons_zero, List.set_cons_succ]
        refine quiet_value (v := .int .i64 least) rfl (fun W h => (by have u0 := cell_below h.out _ _ _ c0; go_simp)) ?_
        simp only [Act.put, List.setIfInBounds_toArray, List.set_cons_zero, List.set_cons_succ]
        refine quiet_value (v := .bool false) rfl (fun _ _ => (by go_simp)) ?_
        simp only [Act.put, List.setIfInBounds_toArray, List.set_cons_zero, List.set_cons_succ]
        refine quiet_value (v := .bool false) rfl (fun _ _ => rfl) ?_
        simp only [Act.put, List.setIfInBounds_toArray, List.set_cons_zero, List.set_cons_succ]
        refine quiet_not rfl ?_
        simp only [Act.put, List.setIfInBounds_toArray, List.set_cons_zero, List.set_cons_succ]
        refine quiet_not rfl ?_
        simp only [Act.put, List.setIfInBounds_toArray, List.set_cons_zero, List.set_cons_succ]
        refine quiet_not rfl ?_
        simp only [Act.put, List.setIfInBounds_toArray, List.set_cons_zero, List.set_cons_succ]
        refine quiet_not rfl ?_
        simp only [Act.put, List.setIfInBounds_toArray, List.set_cons_zero, List.set_cons_succ]
        refine quiet_not rfl ?_
        simp only [Act.put, List.setIfInBounds_toArray, List.set_cons_zero, List.set_cons_succ]
        refine quiet_not rfl ?_
        simp only [Act.put, List.setIfInBounds_toArray, List.set_cons_zero, List.set_cons_succ]
        refine quiet_not rfl ?_
        simp only [Act.put, List.setIfInBounds_toArray, List.set_cons_zero, List.set_cons_succ]
        refine quiet_not rfl ?_
        simp only [Act.put, List.setIfInBounds_toArray, List.set_cons_zero, List.set_cons_succ]
        refine quiet_value (v := .bool false) rfl (fun _ _ => rfl) ?_
        simp only [Act.put, List.setIfInBounds_toArray, List.set_cons_zero, List.set_cons_succ]
        refine quiet_nil ?_
        intro w3 hw3
        have HW3 := Hid.mk (HB2.out.trans (hw3.out.mono HB2.out.size))
        clear hw3 c0 c1
        go_wp2
        go_ret
        exact ⟨rfl, HW3.out⟩
end Go.Proofs.Ytkijbphbibcnoaa
