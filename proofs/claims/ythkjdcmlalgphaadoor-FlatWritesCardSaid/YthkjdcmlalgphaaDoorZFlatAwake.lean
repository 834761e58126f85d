/-
  The chapter's example, as every statement of the layer calls it; two rows of words held side by side.
-/
import Derived.Test.YthkjdcmlalgphaaDoorZFlatReadP
import Derived.Test.YthkjdcmlalgphaaDoorZKitLast
import Derived.Test.YthkjdcmlalgphaaDoorZAtomN
import Derived.Test.YthkjdcmlalgphaaDoorZFlatNum
namespace Go.Proofs.YthkjdcmlalgphaaDoor
open Go.RowKit Go.Deep

/-- Words that lie behind an address. -/
def Cel (w : World) (xs : List Int) (a : Option Addr) : Prop := 0 < xs.length → ∃ b o, a = some ⟨b, o, none⟩ ∧ ∀ j (h : j < xs.length), w.cell? ⟨b, o + j, none⟩ = some (.int .u64 xs[j])
theorem Cel.up {w w' : World} {xs : List Int} {a : Option Addr} (h : Cel w xs a) (hb : Below w.heap.size w w') : Cel w' xs a := fun h0 => by
  obtain ⟨b, o, e, hc⟩ := h h0
  exact ⟨b, o, e, fun j hj => cell_below hb _ _ _ (hc j hj)⟩
theorem Wds.cel {w : World} {v : Value} {xs : List Int} (h : Wds w v xs) : ∃ a cap, v = .slice a xs.length cap ∧ xs.length ≤ cap ∧ cap ≤ maxLen ∧ Cel w xs a := by
  rcases h.shape with ⟨rfl, rfl⟩ | ⟨g, cap, rfl, h1, h2, _, hc⟩
  · exact ⟨none, 0, rfl, Nat.le_refl _, Nat.zero_le _, fun h => by cases h⟩
  · exact ⟨_, cap, rfl, h1, h2, fun _ => ⟨g, 0, rfl, fun j hj => by rw [Nat.zero_add]; exact hc j hj⟩⟩
theorem Wrd.cel {w : World} {xs : List Int} {a : Option Addr} {cap : Nat} (h : Wrd w xs a cap) : Cel w xs a := h.cells

set_option maxHeartbeats 2000000 in
theorem sameWords_any (xs ys : List Int) (a b : Option Addr) (ca cb : Nat) (w : World) (hx : Cel w xs a) (hy : Cel w ys b) (hl : xs.length ≤ 1000000) :
    Calls Tryd.prog 14 #[.slice a xs.length ca, .slice b ys.length cb] w fun e w' => e = .returned (.bool (decide (xs = ys))) ∧ Below w.heap.size w w' := by
  by_cases hn : xs.length = ys.length
  · have h1 : ((xs.length : Int) == ys.length) = true := by simp [hn]
    have hn' := Hid.mk hn
    have HX := Hid.mk hx
    have HY := Hid.mk hy
    have HL := Hid.mk hl
    rw [← hn]
    clear h1 hn hx hy hl
    go_enter Tryd.func14, Tryd.ntmps14
    go_wp2
    go_loopw [5] (fun ii wr => ∃ (i : Nat), i ≤ xs.length ∧ ii = .int .i64 i ∧ Hid (∀ j (h1 : j < i) (h2 : j < xs.length) (h3 : j < ys.length), xs[j] = ys[j]) ∧ Hid (Below w.heap.size w wr)) (fun ii _ => xs.length - (intOf ii).toNat)
    case atStart => exact ⟨0, Nat.zero_le _, rfl, Hid.mk (fun j h => by omega), Hid.mk (Below.refl _ _)⟩
    case round =>
      obtain ⟨i, hi, rfl, hE, hB⟩ := hrel
      by_cases hlt : i < xs.length
      · have hlt2 : i < ys.length := by rw [← hn'.out]; exact hlt
        obtain ⟨b1, o1, rfl, hc1⟩ := (HX.out.up hB.out) (by omega)
        obtain ⟨b2, o2, rfl, hc2⟩ := (HY.out.up hB.out) (by omega)
        have c1 := hc1 i hlt
        have c2 := hc2 i hlt2
        have hwi : IntKind.i64.wrap ((i : Int) + 1) = ((i + 1 : Nat) : Int) := by have := HL.out; rw [wrap_id (by omega) (by omega)]; omega
        by_cases hxy : xs[i] = ys[i]
        · have hE2 : Hid (∀ j (h1 : j < i + 1) (h2 : j < xs.length) (h3 : j < ys.length), xs[j] = ys[j]) := Hid.mk (fun j h1 h2 h3 => by
            by_cases hj : j = i
            · subst hj; exact hxy
            · exact hE.out j (by omega) h2 h3)
          rw [← hxy] at c2
          generalize xs[i] = x at *
          have HB := Hid.mk (show i < xs.length from hlt)
          have hil : (i : Int) < xs.length := by omega
          clear hc1 hc2 hxy hlt2
          go_wp2
          refine region_up (W := wr) (by kernel_rfl) (by kernel_rfl) (Up.refl _) ?_
          refine quiet_value (v := .slice (some ⟨b1, o1, none⟩) xs.length ca) rfl (fun _ _ => rfl) ?_
          simp only [Act.put, List.setIfInBounds_toArray, List.set_cons_zero, List.set_cons_succ]
          refine quiet_value (v := .int .i64 i) rfl (fun _ _ => rfl) ?_
          simp only [Act.put, List.setIfInBounds_toArray, List.set_cons_zero, List.set_cons_succ]
          refine quiet_value (v := .pointer (some ⟨b1, o1 + i, none⟩)) rfl (fun _ _ => (by go_simp)) ?_
          simp only [Act.put, List.setIfInBounds_toArray, List.set_cons_zero, List.set_cons_succ]
          refine quiet_value (v := .int .u64 x) rfl (fun W h => (by have u0 := cell_below h.out _ _ _ c1; go_simp)) ?_
          simp only [Act.put, List.setIfInBounds_toArray, List.set_cons_zero, List.set_cons_succ]
          refine quiet_value (v := .slice (some ⟨b2, o2, none⟩) xs.length cb) rfl (fun _ _ => rfl) ?_
          simp only [Act.put, List.setIfInBounds_toArray, List.set_cons_zero, List.set_cons_succ]
          refine quiet_value (v := .int .i64 i) rfl (fun _ _ => rfl) ?_
          simp only [Act.put, List.setIfInBounds_toArray, List.set_cons_zero, List.set_cons_succ]
          refine quiet_value (v := .pointer (some ⟨b2, o2 + i, none⟩)) rfl (fun _ _ => (by go_simp)) ?_
          simp only [Act.put, List.setIfInBounds_toArray, List.set_cons_zero, List.set_cons_succ]
          refine quiet_value (v := .int .u64 x) rfl (fun W h => (by have u0 := cell_below h.out _ _ _ c2; go_simp)) ?_
          simp only [Act.put, List.setIfInBounds_toArray, List.set_cons_zero, List.set_cons_succ]
          refine quiet_value (v := .bool false) rfl (fun _ _ => (by go_simp)) ?_
          simp only [Act.put, List.setIfInBounds_toArray, List.set_cons_zero, List.set_cons_succ]
          refine quiet_nil ?_
          intro w' hw'
          go_wp2
          go_roundw
          case rel => exact ⟨i + 1, HB.out, by first | rfl | go_num, hE2, Hid.mk (hB.out.trans (hw'.out.mono hB.out.size))⟩
          case measure =>
            have := HB.out
            simp [intOf]
            omega
        · have hne : ¬ xs = ys := fun e => hxy (by subst e; rfl)
          have hxb : (xs[i] != ys[i]) = true := by simpa using hxy
          generalize xs[i] = x at *
          generalize ys[i] = y at *
          have hil : (i : Int) < xs.length := by omega
          have HNE := Hid.mk hne
          clear hc1 hc2 hlt2 hne
          go_wp2
          refine region_up (W := wr) (by kernel_rfl) (by kernel_rfl) (Up.refl _) ?_
          refine quiet_value (v := .slice (some ⟨b1, o1, none⟩) xs.length ca) rfl (fun _ _ => rfl) ?_
          simp only [Act.put, List.setIfInBounds_toArray, List.set_cons_zero, List.set_cons_succ]
          refine quiet_value (v := .int .i64 i) rfl (fun _ _ => rfl) ?_
          simp only [Act.put, List.setIfInBounds_toArray, List.set_cons_zero, List.set_cons_succ]
          refine quiet_value (v := .pointer (some ⟨b1, o1 + i, none⟩)) rfl (fun _ _ => (by go_simp)) ?_
          simp only [Act.put, List.setIfInBounds_toArray, List.set_cons_zero, List.set_cons_succ]
          refine quiet_value (v := .int .u64 x) rfl (fun W h => (by have u0 := cell_below h.out _ _ _ c1; go_simp)) ?_
          simp only [Act.put, List.setIfInBounds_toArray, List.set_cons_zero, List.set_cons_succ]
          refine quiet_value (v := .slice (some ⟨b2, o2, none⟩) xs.length cb) rfl (fun _ _ => rfl) ?_
          simp only [Act.put, List.setIfInBounds_toArray, List.set_cons_zero, List.set_cons_succ]
          refine quiet_value (v := .int .i64 i) rfl (fun _ _ => rfl) ?_
          simp only [Act.put, List.setIfInBounds_toArray, List.set_cons_zero, List.set_cons_succ]
          refine quiet_value (v := .pointer (some ⟨b2, o2 + i, none⟩)) rfl (fun _ _ => (by go_simp)) ?_
          simp only [Act.put, List.setIfInBounds_toArray, List.set_cons_zero, List.set_cons_succ]
          refine quiet_value (v := .int .u64 y) rfl (fun W h => (by have u0 := cell_below h.out _ _ _ c2; go_simp)) ?_
          simp only [Act.put, List.setIfInBounds_toArray, List.set_cons_zero, List.set_cons_succ]
          refine quiet_value (v := .bool true) rfl (fun _ _ => (by go_simp)) ?_
          simp only [Act.put, List.setIfInBounds_toArray, List.set_cons_zero, List.set_cons_succ]
          refine quiet_nil ?_
          intro w' hw'
          go_wp2
          go_ret
          exact ⟨ret_bool (decide_eq_false HNE.out).symm, hB.out.trans (hw'.out.mono hB.out.size)⟩
      · obtain rfl : i = xs.length := by omega
        have he : xs = ys := List.ext_getElem hn'.out (fun j h1 h2 => hE.out j h1 h1 h2)
        have HE := Hid.mk he
        clear he
        go_wp2
        go_ret
        exact ⟨ret_bool (decide_eq_true HE.out).symm, hB.out⟩
  · have hne : ¬ xs = ys := fun e => hn (by rw [e])
    rw [decide_eq_false hne]
    have h1 : ((xs.length : Int) == ys.length) = false := by simp; omega
    have h2 : ¬ ((xs.length : Int) = ys.length) := by omega
    clear hx hy hl hne
    go_enter Tryd.func14, Tryd.ntmps14
    go_wp2
    go_ret
    exact ⟨rfl, Below.refl _ _⟩

def pairT : Tm := .tup [.sym ta, .num 1]
def pairW : List Int := [23, 42, 2, 17]
def pairC : Array Value := #[.int .u64 23, .int .u64 42, .int .u64 2, .int .u64 17]
set_option maxHeartbeats 1000000 in
theorem pair_any (w : World) : Calls Tryd.prog 26 #[] w fun e w' => ∃ (a : Option Addr) (g : Nat), e = .returned (.tuple #[.agg #[.int .i64 7, .int .i64 0, .string ⟨#[]⟩, .slice a 2 2], .slice (some ⟨g, 0, none⟩) 4 4]) ∧ Below w.heap.size w w' ∧
    Lies w' (fun b => w.heap.size ≤ b) pairT (.agg #[.int .i64 7, .int .i64 0, .string ⟨#[]⟩, .slice a 2 2]) ∧ w'.heap[g]? = some (.cells pairC 62) ∧ w.heap.size ≤ g := by
  obtain ⟨W0, hW0⟩ : ∃ W0, w.alloc (.cells #[.int .i64 0, .int .i64 0, .string ⟨#[]⟩, .slice none 0 0] 25) = W0 := ⟨_, rfl⟩
  have hb0 : Below w.heap.size w W0 := by rw [← hW0]; exact (Below.refl _ _).alloc (Nat.le_refl _) _
  have hz0 : W0.heap.size = w.heap.size + 1 := by rw [← hW0]; simp
  have hbx : W0.heap[w.heap.size]? = some (.cells #[.int .i64 0, .int .i64 0, .string ⟨#[]⟩, .slice none 0 0] 25) := by rw [← hW0]; exact new_block _ _
  have HB0 := Hid.mk hb0
  have HZ0 := Hid.mk hz0
  have HBX := Hid.mk hbx
  clear hb0 hz0 hbx
  go_enter Tryd.func26, Tryd.ntmps26
  go_upto_region 1 with fail
  try rw [hW0]
  clear hW0
  go_wp2_with (first
    | (go_at_call 52; refine (sym_any _ _).mono ?_; rintro e w1 ⟨rfl, hb1⟩; have hu1 : Up W0 w1 := hb1)
    | (go_at_call 27; refine (num_any _ _).mono ?_; rintro e w2 ⟨rfl, hb2⟩; have hu2 := hu1.call hb2)
    | (go_at_call 51; refine (tup_any _ _ _ _).mono ?_; rintro e w3 ⟨rfl, hb3⟩
       have hx3 := (hb3.block _ (by simp)).trans (new_block w2 (.cells #[.int .i64 2, .int .i64 0, .string ⟨#[97]⟩, .slice none 0 0, .int .i64 1, .int .i64 1, .string ⟨#[]⟩, .slice none 0 0] 25))
       have hu3 := hu2.alloc.call hb3
       obtain ⟨W4, hW4⟩ : ∃ W4, w3.alloc (.cells #[.int .u64 23, .int .u64 42, .int .u64 2, .int .u64 17] 62) = W4 := ⟨_, rfl⟩
       have hu4 : Up W0 W4 := (by rw [← hW4]; exact hu3.alloc)
       have hx4 : W4.heap[w3.heap.size]? = some (.cells #[.int .u64 23, .int .u64 42, .int .u64 2, .int .u64 17] 62) := (by rw [← hW4]; exact new_block _ _)
       have hy4 : W4.heap[w2.heap.size]? = some (.cells #[.int .i64 2, .int .i64 0, .string ⟨#[97]⟩, .slice none 0 0, .int .i64 1, .int .i64 1, .string ⟨#[]⟩, .slice none 0 0] 25) := (by rw [← hW4]; exact old_block hx3 _)
       obtain ⟨⟨q0, q1, q2, q3⟩, r0, r1, r2, r3⟩ := kept4 HBX.out hu4.out
       have HU2 := Hid.mk hu2.out.size
       have HU3 := Hid.mk hu3.out.size
       have HU4 := Hid.mk hu4
       have HX4 := Hid.mk hx4
       have HY4 := Hid.mk hy4
       clear hb1 hb2 hb3 hx3 hx4 hy4 hu3 hu4 hu1))
  have hz0 := HZ0.out
  have h2 := HU2.out
  have h3 := HU3.out
  refine ret2_stored rfl rfl rfl rfl q0 q1 q2 q3 ⟨_, _, rfl, Below.set4 (HB0.out.trans (HU4.out.out.mono HB0.out.size)) (Nat.le_refl _), ?_, ?_, by omega⟩
  · have hl := lst2 (S := fun b => w.heap.size ≤ b) (t := .sym ta) (r := .num 1) (w := (((((W4.setCell ⟨w.heap.size, 0, none⟩ (.int .i64 7)).setCell ⟨w.heap.size, 1, none⟩ (.int .i64 0)).setCell ⟨w.heap.size, 2, none⟩ (.string ⟨#[]⟩)).setCell ⟨w.heap.size, 3, none⟩ (.slice (some ⟨w2.heap.size, 0, none⟩) 2 2)))) ((set4_heap _ _ _ _ _ _ _ (by omega)).trans HY4.out) (by omega) (sym_is _ _ ta (by decide)) (num_is _ _ 1 (by omega) (by omega))
    exact Lies.mk (l := [.sym ta, .num 1]) tup_small hl
  · exact (set4_heap _ _ _ _ _ _ _ (by omega)).trans HX4.out
theorem pair_flatE : flatE pairT [] = 0 := by kernel_rfl
theorem pair_flatL : flatL pairT [] = [ta] := by kernel_rfl
theorem pair_flatW : flatW pairT [] = pairW := by kernel_rfl
theorem pair_readE : readE [ta] pairW = 0 := by kernel_rfl
theorem pair_readT : readT [ta] pairW = pairT := by kernel_rfl
theorem pairW_rng : ∀ x ∈ pairW, 0 ≤ x ∧ x < 18446744073709551616 := by
  intro x hx
  simp only [pairW, List.mem_cons, List.not_mem_nil, or_false] at hx
  omega
theorem pairT_size : pairT.size ≤ 400000 := by simp [pairT, Tm.tup, Tm.sym, Tm.num, Tm.size_mk, sizes]
theorem pair_cells {w : World} {g : Nat} (h : w.heap[g]? = some (.cells pairC 62)) : ∀ j (hj : j < pairW.length), w.cell? ⟨g, 0 + j, none⟩ = some (.int .u64 pairW[j]) := by
  intro j hj
  have hj4 : j < 4 := hj
  simp only [World.cell?, h, Nat.zero_add]
  rcases j with _ | _ | _ | _ | j
  · rfl
  · rfl
  · rfl
  · rfl
  · omega

set_option maxHeartbeats 4000000 in
set_option maxRecDepth 100000 in
theorem awake7_any (w : World) (hW : WordTab w) (hH : ShapeTab w) : Calls Tryd.prog 17 #[] w fun e w' => e = .returned (.bool true) ∧ Below w.heap.size w w' := by
  have HWH := Hid.mk (show WordTab w ∧ ShapeTab w from ⟨hW, hH⟩)
  clear hW hH
  go_enter Tryd.func17, Tryd.ntmps17
  go_wp2_with (first
    | (go_at_call 25; refine (new_any _).mono ?_; rintro e w1 ⟨rfl, hT1, hb1⟩; have hM1 := Hid.mk (mine_new w); have HT1 := Hid.mk hT1; have HB1 := Hid.mk hb1; clear hT1 hb1)
    | (go_at_call 26; refine (pair_any _).mono ?_; rintro e w2 ⟨a, g, rfl, hb2, hl2, hg2, hgz⟩
       obtain ⟨W3, hW3⟩ : ∃ W3, w2.alloc (.cells #[.int .i64 7, .int .i64 0, .string ⟨#[]⟩, .slice a 2 2] 25) = W3 := ⟨_, rfl⟩
       have hb3 : Below w2.heap.size w2 W3 := (by rw [← hW3]; exact (Below.refl _ _).alloc (Nat.le_refl _) _)
       have hx3 : W3.heap[w2.heap.size]? = some (.cells #[.int .i64 7, .int .i64 0, .string ⟨#[]⟩, .slice a 2 2] 25) := (by rw [← hW3]; exact new_block _ _)
       obtain ⟨⟨p0, p1, p2, p3⟩, _⟩ := kept4 hx3 (Below.refl _ _)
       have hu3 : Up w1 W3 := (show Up w1 w2 from hb2).call hb3
       have HU3 := Hid.mk hu3
       have HT3 := Hid.mk (HT1.out.up hu3.out)
       have HL3 := Hid.mk (hl2.below hb3)
       have HG3 := Hid.mk ((hb3.block _ (Array.getElem?_eq_some_iff.1 hg2).1).trans hg2)
       have HX3 := Hid.mk hx3
       have HGZ := Hid.mk (show w1.heap.size ≤ g ∧ w1.heap.size ≤ w2.heap.size from ⟨hgz, hb2.size⟩)
       have HW3 := Hid.mk (show Below w.heap.size w W3 from HB1.out.trans (hu3.out.mono HB1.out.size))
       clear hb2 hl2 hg2 hgz hb3 hx3 hu3)
    | (go_at_call 12; refine (flatten_any pairT _ _ _ _ _ _ [] HT3.out HL3.out (fun b hb hk => by have := HT1.out.lt hk; omega) pairT_size (HWH.out.1.below HW3.out) (HWH.out.2.below HW3.out) (fun hk => by have := hM1.out _ hk; have := HWH.out.1.size; omega)).mono ?_
       rintro e w4 ⟨rv, v4, rfl, h4⟩
       rw [pair_flatE]
       have hsep : ∀ b, w1.heap.size ≤ b → ¬ Mine (w.heap.size + 1) w.heap.size (.slice none 0 0) b := fun b hb hk => (by have := HT1.out.lt hk; omega)
       have hx4 := h4.only.box HX3.out (hsep _ HGZ.out.2)
       have hg4 := h4.only.box HG3.out (hsep _ HGZ.out.1)
       obtain ⟨⟨s0, s1, s2, s3⟩, _⟩ := kept4 hx4 (Below.refl _ _)
       have hl4 := h4.only.lies (S := fun b => w1.heap.size ≤ b ∧ b < W3.heap.size) (fun b hb => ⟨hb.2, hsep b hb.1⟩) HL3.out.inside
       have htab4 : Tab w4 (w.heap.size + 1) w.heap.size v4 [ta] := (by rw [← pair_flatL]; exact h4.tab)
       have hrow4 := h4.row
       rw [pair_flatW] at hrow4
       obtain ⟨ra, rcap, rfl, _, _, hcel⟩ := hrow4.cel
       have hb4 : Below w.heap.size w w4 := HW3.out.trans (h4.only.below (fun k hk => hM1.out k hk) HW3.out.size)
       have HX4 := Hid.mk hx4
       have HG4 := Hid.mk hg4
       have HL4 := Hid.mk hl4
       have HT4 := Hid.mk htab4
       have HC4 := Hid.mk hcel
       have HB4 := Hid.mk hb4
       clear h4 hsep hx4 hg4 hl4 htab4 hrow4 hcel hb4)
    | (go_at_call 19; refine (readF_any _ _ v4 [ta] pairW (some ⟨g, 0, none⟩) 4 _ HT4.out ⟨⟨by decide, by decide⟩, pairW_rng, fun _ => ⟨g, 0, rfl, pair_cells HG4.out⟩⟩ (HWH.out.1.below HB4.out) (by decide)).mono ?_
       rintro e w5 ⟨k5, n5, s5, a5, m5, c5, rfl, hl5, hb5⟩
       rw [pair_readE]
       rw [pair_readT] at hl5
       obtain ⟨W6, hW6⟩ : ∃ W6, w5.alloc (.cells #[.int .i64 k5, .int .i64 n5, .string s5, .slice a5 m5 c5] 25) = W6 := ⟨_, rfl⟩
       have hb6 : Below w5.heap.size w5 W6 := (by rw [← hW6]; exact (Below.refl _ _).alloc (Nat.le_refl _) _)
       have hx6 : W6.heap[w5.heap.size]? = some (.cells #[.int .i64 k5, .int .i64 n5, .string s5, .slice a5 m5 c5] 25) := (by rw [← hW6]; exact new_block _ _)
       have hu6 : Up w4 W6 := (show Up w4 w5 from hb5).call hb6
       have HU6 := Hid.mk hu6
       have HX6 := Hid.mk hx6
       have HL6 := Hid.mk (hl5.below hb6)
       have HM6 := Hid.mk (HL4.out.below hu6.out)
       have HC6 := Hid.mk (HC4.out.up hu6.out)
       have HD6 := Hid.mk (show Cel W6 pairW (some ⟨g, 0, none⟩) from (show Cel w4 pairW (some ⟨g, 0, none⟩) from fun _ => ⟨g, 0, rfl, pair_cells HG4.out⟩).up hu6.out)
       have HY6 := Hid.mk ((hu6.out.block _ (Array.getElem?_eq_some_iff.1 HX4.out).1).trans HX4.out)
       clear hb5 hl5 hb6 hx6 hu6)
    | (go_at_call 14; refine (sameWords_any pairW pairW ra (some ⟨g, 0, none⟩) rcap 4 _ HC6.out HD6.out (by decide)).mono ?_
       rintro e w7 ⟨rfl, hb7⟩
       rw [decide_eq_true (rfl : pairW = pairW)]
       have hx7 := (hb7.block _ (Array.getElem?_eq_some_iff.1 HX6.out).1).trans HX6.out
       have hy7 := (hb7.block _ (Array.getElem?_eq_some_iff.1 HY6.out).1).trans HY6.out
       obtain ⟨⟨t0, t1, t2, t3⟩, _⟩ := kept4 hx7 (Below.refl _ _)
       obtain ⟨⟨u0, u1, u2, u3⟩, _⟩ := kept4 hy7 (Below.refl _ _)
       have HB7 := Hid.mk hb7
       clear hb7 hx7 hy7)
    | (go_at_call 16; refine (sameTerm_any pairT pairT _ _ _ _ _ (HL6.out.below HB7.out) (HM6.out.below HB7.out)).mono ?_; rintro e w8 ⟨rfl, hb8⟩; rw [eqB_refl]; have HB8 := Hid.mk hb8; clear hb8))
  go_ret
  exact ⟨rfl, HB4.out.trans ((HU6.out.out.trans ((HB7.out.trans (HB8.out.mono HB7.out.size)).mono HU6.out.out.size)).mono HB4.out.size)⟩
end Go.Proofs.YthkjdcmlalgphaaDoor
