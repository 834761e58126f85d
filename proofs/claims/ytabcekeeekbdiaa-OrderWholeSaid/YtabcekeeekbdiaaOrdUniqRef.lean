/-
  The document's Unique, walked.
-/
import Derived.Test.YtabcekeeekbdiaaOrdSortRef
namespace Go.Proofs.Ytabcekeeekbdiaa
open Go.RowKit Go.Deep

/-- A list without those that are alike to the one ahead. -/
def keepB (q : Option Tm) (t : Tm) : Bool := match q with
  | none => true
  | some q => q.cmp t != 0
def uniqG : Option Tm → List Tm → List Tm
  | _, [] => []
  | p, b :: r => if keepB p b = true then b :: uniqG (some b) r else uniqG (some b) r
def uniqT (s : List Tm) : List Tm := uniqG none s
def prevT (p : Option Tm) (s : List Tm) (i : Nat) : Option Tm := if i = 0 then p else s[i - 1]?
theorem uniqG_take : ∀ (s : List Tm) (p : Option Tm) (i : Nat) (hi : i < s.length), uniqG p (s.take (i + 1)) = uniqG p (s.take i) ++ (if keepB (prevT p s i) s[i] = true then [s[i]] else []) := by
  intro s
  induction s with
  | nil => intro p i hi; cases hi
  | cons b r ih =>
    intro p i hi
    cases i with
    | zero =>
      simp only [List.take_succ_cons, List.take_zero, uniqG, List.getElem_cons_zero, prevT, if_true, List.nil_append]
    | succ i =>
      have e : prevT p (b :: r) (i + 1) = prevT (some b) r i := by
        unfold prevT
        rw [if_neg (by omega)]
        cases i with
        | zero => simp
        | succ i => simp
      rw [List.take_succ_cons, List.take_succ_cons, uniqG, uniqG, ih (some b) i (by simpa using hi), e, List.getElem_cons_succ]
      split <;> rfl
theorem uniqT_take (s : List Tm) (i : Nat) (hi : i < s.length) : uniqT (s.take (i + 1)) = uniqT (s.take i) ++ (if keepB (prevT none s i) s[i] = true then [s[i]] else []) := uniqG_take s none i hi
theorem keep_zero (s : List Tm) (hi : 0 < s.length) : keepB (prevT none s 0) s[0] = true := rfl
theorem keep_succ (s : List Tm) (i : Nat) (h0 : 0 < i) (hi : i < s.length) : keepB (prevT none s i) s[i] = (s[i - 1].cmp s[i] != 0) := by
  unfold prevT
  rw [if_neg (by omega), List.getElem?_eq_getElem (by omega)]
  rfl
theorem uniqG_length : ∀ (s : List Tm) (p : Option Tm), (uniqG p s).length ≤ s.length := by
  intro s
  induction s with
  | nil => intro p; simp [uniqG]
  | cons b r ih =>
    intro p
    rw [uniqG]
    have := ih (some b)
    split <;> simp <;> omega
theorem uniqT_length (s : List Tm) : (uniqT s).length ≤ s.length := uniqG_length s none

theorem Side.snoc {w : World} {S : Nat → Prop} {l : List Tm} {n : Nat} {xs : List Value} {t : Tm} {v0 v1 v2 v3 : Value} (h : Side w S l n xs) (hn : l.length = n) (hx : xs.length = n * 4) (hl : Lies w S t (.agg #[v0, v1, v2, v3])) :
    Side w S (l ++ [t]) (n + 1) (xs ++ [v0, v1, v2, v3]) := by
  have := Side.insert (at' := n) h hn hx (Nat.le_refl _) hl
  rw [List.take_of_length_le (by omega), List.drop_of_length_le (by omega), List.append_nil, List.take_of_length_le (by omega), List.drop_of_length_le (by omega), List.append_nil] at this
  exact this

set_option maxRecDepth 100000 in
set_option maxHeartbeats 4000000 in
theorem refunique_any (l : List Tm) (hlen : l.length ≤ 1000000) (S : Nat → Prop) (a : Option Addr) (cap : Nat) (w : World) (hl0 : Lst w S l a cap) :
    Calls Try.prog 19 #[.slice a l.length cap] w fun e w' => (∃ a' cap', e = .returned (.slice a' (uniqT (sortT l)).length cap') ∧ Lst w' (fun b => S b ∨ w.heap.size ≤ b) (uniqT (sortT l)) a' cap') ∧ Below w.heap.size w w' := by
  obtain ⟨i0, hi0, hz0, hz1, hby⟩ := info_at termInfo
  have hsrt := Hid.mk (refsort_any l hlen _ a cap w hl0.inside)
  have hs0 := sortT_length l
  obtain ⟨s, hs⟩ : ∃ s, sortT l = s := ⟨_, rfl⟩
  rw [hs] at hsrt hs0 ⊢
  rw [← hs0] at hsrt hlen
  have hs0h := Hid.mk hs0
  have hsz := Nat.le_refl w.heap.size
  clear hl0 hs hs0
  go_enter Try.func19, Try.ntmps19
  rw [← hs0h.out]
  go_wp2_with (go_at_call 18; refine hsrt.out.mono ?_; rintro e w1 ⟨⟨asl, cs, rfl, hls⟩, hb1⟩)
  have hls := Hid.mk hls
  have hz1w := hb1.size
  clear hsrt
  go_loopw [4, 5] (fun sv ii wr => ∃ (i m : Nat) (xs : List Value), i ≤ s.length ∧ ii = .int .i64 i ∧ wr.ownsRow w1.heap.size 24 4 sv m xs ∧ m ≤ i ∧ Hid ((uniqT (s.take i)).length = m) ∧ Hid (Side w1 (fun b => (S b ∧ b < w.heap.size) ∨ w.heap.size ≤ b) (uniqT (s.take i)) m xs) ∧ Up w1 wr) (fun _ ii _ => s.length - (intOf ii).toNat)
  case atStart => exact ⟨0, 0, [], Nat.zero_le _, rfl, World.ownsRow_nil _ _ _ _, Nat.le_refl _, Hid.mk rfl, Hid.mk (fun q hq => by omega), Up.refl _⟩
  case round =>
    obtain ⟨i, m, xs, hi, rfl, hown, hmi, hml, hsd, hur⟩ := hrel
    have hzr := hur.out.size
    by_cases hlt : i < s.length
    · obtain ⟨b, o, rfl, _, hr⟩ := hls.out.some (by omega)
      obtain ⟨k1, n1, s1, m1, a1, cap1, hT1, c0, c1, c2, c3, hli⟩ := hr.part i hlt
      have e0 := cell_below hur.out _ _ _ c0
      have e1 := cell_below hur.out _ _ _ c1
      have e2 := cell_below hur.out _ _ _ c2
      have e3 := cell_below hur.out _ _ _ c3
      have hli := Hid.mk hli
      have hut := Hid.mk (uniqT_take s i hlt)
      have hxl := Hid.mk hown.1
      clear hT1 c0 c1 c2 c3
      by_cases hi1 : i = 0
      · subst hi1
        have hkp := Hid.mk (keep_zero s hlt)
        go_upto_region 6 with fail
        refine region_up (W := wr) (by kernel_rfl) (by kernel_rfl) (Up.refl _) ?_
        refine quiet_value (v := .int .i64 0) rfl (fun _ _ => rfl) ?_
        simp only [Act.put, List.setIfInBounds_toArray, List.set_cons_zero, List.set_cons_succ]
        refine quiet_value (v := .bool true) rfl (fun _ _ => (by go_simp)) ?_
        simp only [Act.put, List.setIfInBounds_toArray, List.set_cons_zero, List.set_cons_succ]
        refine quiet_value (v := .bool true) rfl (fun _ _ => rfl) ?_
        simp only [Act.put, List.setIfInBounds_toArray, List.set_cons_zero, List.set_cons_succ]
        refine quiet_not rfl ?_
        simp only [Act.put, List.setIfInBounds_toArray, List.set_cons_zero, List.set_cons_succ]
        refine quiet_not rfl ?_
        simp only [Act.put, List.setIfInBounds_toArray, List.set_cons_zero, List.set_cons_succ]
        refine quiet_not rfl ?_
        simp only [Act.put, List.setIfInBounds_toArray, List.set_cons_zero, List.set_cons_succ]
        refine quiet_not rfl ?_
        simp only [Act.put, List.setIfInBounds_toArray, List.set_cons_zero, List.set_cons_succ]
        refine quiet_not rfl ?_
        simp only [Act.put, List.setIfInBounds_toArray, List.set_cons_zero, List.set_cons_succ]
        refine quiet_not rfl ?_
        simp only [Act.put, List.setIfInBounds_toArray, List.set_cons_zero, List.set_cons_succ]
        refine quiet_not rfl ?_
        simp only [Act.put, List.setIfInBounds_toArray, List.set_cons_zero, List.set_cons_succ]
        refine quiet_not rfl ?_
        simp only [Act.put, List.setIfInBounds_toArray, List.set_cons_zero, List.set_cons_succ]
        refine quiet_not rfl ?_
        simp only [Act.put, List.setIfInBounds_toArray, List.set_cons_zero, List.set_cons_succ]
        refine quiet_not rfl ?_
        simp only [Act.put, List.setIfInBounds_toArray, List.set_cons_zero, List.set_cons_succ]
        refine quiet_not rfl ?_
        simp only [Act.put, List.setIfInBounds_toArray, List.set_cons_zero, List.set_cons_succ]
        refine quiet_value (v := .bool true) rfl (fun _ _ => rfl) ?_
        simp only [Act.put, List.setIfInBounds_toArray, List.set_cons_zero, List.set_cons_succ]
        refine quiet_nil ?_
        intro w6 hw6
        have hu6 := hur.call hw6.out
        have hz6 := hw6.out.size
        have f0 : w6.cell? ⟨b, o, none⟩ = some (.int .i64 k1) := by simpa using cell_below hw6.out _ _ _ e0
        have f1 : w6.cell? ⟨b, o + 1, none⟩ = some (.int .i64 n1) := by simpa using cell_below hw6.out _ _ _ e1
        have f2 : w6.cell? ⟨b, o + 2, none⟩ = some (.string s1) := by simpa using cell_below hw6.out _ _ _ e2
        have f3 : w6.cell? ⟨b, o + 3, none⟩ = some (.slice a1 m1.length cap1) := by simpa using cell_below hw6.out _ _ _ e3
        have hown6 := ownsRow_same hown (fun g hg => hw6.out.block g (hown.lt g hg).2)
        go_wp2_with (at_builtin; refine wpList_append_own_at _ rfl _ _ 22 rfl w1.heap.size 24 i0 _ 4 56 Try.underlying22 hi0 hz0 hz1 hby rfl (by decide) _ _ _ rfl (hown6.alloc _) ⟨w6.heap.size, 0, none⟩ 1 1 [.int .i64 k1, .int .i64 n1, .string s1, .slice a1 m1.length cap1] rfl rfl (cells_new _ _ _) (fun x hx => by simp at hx; rcases hx with rfl | rfl | rfl | rfl <;> rfl) (by unfold maxLen; omega) (by omega) (by rw [World.size_alloc]; omega) ?_; intro v9 w9 hown9 hgrow9 _ hat9)
        go_roundw
        case rel =>
          have hs9 := Side.snoc hsd.out hml.out hxl.out hli.out
          exact ⟨0 + 1, m + 1, _, by omega, by go_num, hown9, by omega, Hid.mk (by rw [hut.out, hkp.out, if_pos rfl, List.length_append, hml.out]; rfl), Hid.mk (by rw [hut.out, hkp.out, if_pos rfl]; exact hs9), hu6.alloc.out.grown hgrow9 (by rw [World.size_alloc]; omega) (fun k hk => (hown6.lt k hk).1)⟩
        case measure => simp [intOf]; omega
      · obtain ⟨k2, n2, s2, m2, a2, cap2, hT2, d0, d1, d2, d3, hli2⟩ := hr.part (i - 1) (by omega)
        have y0 := cell_below hur.out _ _ _ d0
        have y1 := cell_below hur.out _ _ _ d1
        have y2 := cell_below hur.out _ _ _ d2
        have y3 := cell_below hur.out _ _ _ d3
        have hcall := Hid.mk (fun (W : World) (hW : Up wr W) => refcompare_any s[i - 1] s[i] _ _ _ _ W ((hli2.below hur.out).below hW.out) ((hli.out.below hur.out).below hW.out))
        have hks := Hid.mk (keep_succ s i (by omega) hlt)
        have hqm : ((i : Int) - 1) = ((i - 1 : Nat) : Int) := by omega
        have hwq : IntKind.i64.wrap ((i - 1 : Nat) : Int) = ((i - 1 : Nat) : Int) := wrap_id (by omega) (by omega)
        have hie : ((i : Int) == 0) = false := by simpa using hi1
        have hii : ¬ (i : Int) = 0 := by omega
        have hi3 : (i : Int) < (s.length : Int) := by omega
        have hi4 : ((i - 1 : Nat) : Int) < (s.length : Int) := by omega
        generalize hxx : s[i - 1].cmp s[i] = x at hcall
        have hxx := Hid.mk hxx
        clear hT2 d0 d1 d2 d3 hli2
        by_cases hx : x = 0
        · subst hx
          go_upto_region 6 with fail
          refine region_up (W := wr) (by kernel_rfl) (by kernel_rfl) (Up.refl _) ?_
          refine quiet_value (v := .int .i64 i) rfl (fun _ _ => rfl) ?_
          simp only [Act.put, List.setIfInBounds_toArray, List.set_cons_zero, List.set_cons_succ]
          refine quiet_value (v := .bool false) rfl (fun _ _ => (by go_simp)) ?_
          simp only [Act.put, List.setIfInBounds_toArray, List.set_cons_zero, List.set_cons_succ]
          refine quiet_value (v := .bool false) rfl (fun _ _ => rfl) ?_
          simp only [Act.put, List.setIfInBounds_toArray, List.set_cons_zero, List.set_cons_succ]
          refine quiet_value (v := .slice (some ⟨b, o, none⟩) s.length cs) rfl (fun _ _ => rfl) ?_
          simp only [Act.put, List.setIfInBounds_toArray, List.set_cons_zero, List.set_cons_succ]
          refine quiet_value (v := .int .i64 i) rfl (fun _ _ => rfl) ?_
          simp only [Act.put, List.setIfInBounds_toArray, List.set_cons_zero, List.set_cons_succ]
          refine quiet_value (v := .int .i64 ((i - 1 : Nat) : Int)) rfl (fun _ _ => (by go_simp)) ?_
          simp only [Act.put, List.setIfInBounds_toArray, List.set_cons_zero, List.set_cons_succ]
          refine quiet_value (v := .pointer (some ⟨b, o + (i - 1) * 4, none⟩)) rfl (fun _ _ => (by go_simp)) ?_
          simp only [Act.put, List.setIfInBounds_toArray, List.set_cons_zero, List.set_cons_succ]
          refine quiet_value (v := .agg #[.int .i64 k2, .int .i64 n2, .string s2, .slice a2 m2.length cap2]) rfl (fun W h => (by have u0 := cell_below h.out _ _ _ y0; have u1 := cell_below h.out _ _ _ y1; have u2 := cell_below h.out _ _ _ y2; have u3 := cell_below h.out _ _ _ y3; go_simp)) ?_
          simp only [Act.put, List.setIfInBounds_toArray, List.set_cons_zero, List.set_cons_succ]
          refine quiet_value (v := .slice (some ⟨b, o, none⟩) s.length cs) rfl (fun _ _ => rfl) ?_
          simp only [Act.put, List.setIfInBounds_toArray, List.set_cons_zero, List.set_cons_succ]
          refine quiet_value (v := .int .i64 i) rfl (fun _ _ => rfl) ?_
          simp only [Act.put, List.setIfInBounds_toArray, List.set_cons_zero, List.set_cons_succ]
          refine quiet_value (v := .pointer (some ⟨b, o + i * 4, none⟩)) rfl (fun _ _ => (by go_simp)) ?_
          simp only [Act.put, List.setIfInBounds_toArray, List.set_cons_zero, List.set_cons_succ]
          refine quiet_value (v := .agg #[.int .i64 k1, .int .i64 n1, .string s1, .slice a1 m1.length cap1]) rfl (fun W h => (by have u0 := cell_below h.out _ _ _ e0; have u1 := cell_below h.out _ _ _ e1; have u2 := cell_below h.out _ _ _ e2; have u3 := cell_below h.out _ _ _ e3; go_simp)) ?_
          simp only [Act.put, List.setIfInBounds_toArray, List.set_cons_zero, List.set_cons_succ]
          refine quiet_call (v := .int .i64 0) rfl (fun W => (by go_simp)) (fun W h => (hcall.out W h).mono fun e w' ⟨he, hb⟩ => ⟨he, h.call hb⟩) ?_
          simp only [Act.put, List.setIfInBounds_toArray, List.set_cons_zero, List.set_cons_succ]
          refine quiet_value (v := .bool false) rfl (fun _ _ => (by go_simp)) ?_
          simp only [Act.put, List.setIfInBounds_toArray, List.set_cons_zero, List.set_cons_succ]
          refine quiet_value (v := .bool false) rfl (fun _ _ => rfl) ?_
          simp only [Act.put, List.setIfInBounds_toArray, List.set_cons_zero, List.set_cons_succ]
          refine quiet_nil ?_
          intro w6 hw6
          have hkn := Hid.mk (show keepB (prevT none s i) s[i] = false by rw [hks.out, hxx.out]; rfl)
          clear y0 y1 y2 y3
          go_wp2
          go_roundw
          case rel =>
            exact ⟨i + 1, m, xs, hlt, by go_num, ownsRow_same hown (fun g hg => hw6.out.block g (hown.lt g hg).2), by omega, Hid.mk (by rw [hut.out, hkn.out]; simpa using hml.out), Hid.mk (by rw [hut.out, hkn.out]; simpa using hsd.out), hur.call hw6.out⟩
          case measure => simp [intOf]; omega
        · have hxn : (x != 0) = true := by simpa using hx
          have hkp := Hid.mk (show keepB (prevT none s i) s[i] = true by rw [hks.out, hxx.out]; exact hxn)
          go_upto_region 6 with fail
          refine region_up (W := wr) (by kernel_rfl) (by kernel_rfl) (Up.refl _) ?_
          refine quiet_value (v := .int .i64 i) rfl (fun _ _ => rfl) ?_
          simp only [Act.put, List.setIfInBounds_toArray, List.set_cons_zero, List.set_cons_succ]
          refine quiet_value (v := .bool false) rfl (fun _ _ => (by go_simp)) ?_
          simp only [Act.put, List.setIfInBounds_toArray, List.set_cons_zero, List.set_cons_succ]
          refine quiet_value (v := .bool false) rfl (fun _ _ => rfl) ?_
          simp only [Act.put, List.setIfInBounds_toArray, List.set_cons_zero, List.set_cons_succ]
          refine quiet_value (v := .slice (some ⟨b, o, none⟩) s.length cs) rfl (fun _ _ => rfl) ?_
          simp only [Act.put, List.setIfInBounds_toArray, List.set_cons_zero, List.set_cons_succ]
          refine quiet_value (v := .int .i64 i) rfl (fun _ _ => rfl) ?_
          simp only [Act.put, List.setIfInBounds_toArray, List.set_cons_zero, List.set_cons_succ]
          refine quiet_value (v := .int .i64 ((i - 1 : Nat) : Int)) rfl (fun _ _ => (by go_simp)) ?_
          simp only [Act.put, List.setIfInBounds_toArray, List.set_cons_zero, List.set_cons_succ]
          refine quiet_value (v := .pointer (some ⟨b, o + (i - 1) * 4, none⟩)) rfl (fun _ _ => (by go_simp)) ?_
          simp only [Act.put, List.setIfInBounds_toArray, List.set_cons_zero, List.set_cons_succ]
          refine quiet_value (v := .agg #[.int .i64 k2, .int .i64 n2, .string s2, .slice a2 m2.length cap2]) rfl (fun W h => (by have u0 := cell_below h.out _ _ _ y0; have u1 := cell_below h.out _ _ _ y1; have u2 := cell_below h.out _ _ _ y2; have u3 := cell_below h.out _ _ _ y3; go_simp)) ?_
          simp only [Act.put, List.setIfInBounds_toArray, List.set_cons_zero, List.set_cons_succ]
          refine quiet_value (v := .slice (some ⟨b, o, none⟩) s.length cs) rfl (fun _ _ => rfl) ?_
          simp only [Act.put, List.setIfInBounds_toArray, List.set_cons_zero, List.set_cons_succ]
          refine quiet_value (v := .int .i64 i) rfl (fun _ _ => rfl) ?_
          simp only [Act.put, List.setIfInBounds_toArray, List.set_cons_zero, List.set_cons_succ]
          refine quiet_value (v := .pointer (some ⟨b, o + i * 4, none⟩)) rfl (fun _ _ => (by go_simp)) ?_
          simp only [Act.put, List.setIfInBounds_toArray, List.set_cons_zero, List.set_cons_succ]
          refine quiet_value (v := .agg #[.int .i64 k1, .int .i64 n1, .string s1, .slice a1 m1.length cap1]) rfl (fun W h => (by have u0 := cell_below h.out _ _ _ e0; have u1 := cell_below h.out _ _ _ e1; have u2 := cell_below h.out _ _ _ e2; have u3 := cell_below h.out _ _ _ e3; go_simp)) ?_
          simp only [Act.put, List.setIfInBounds_toArray, List.set_cons_zero, List.set_cons_succ]
          refine quiet_call (v := .int .i64 x) rfl (fun W => (by go_simp)) (fun W h => (hcall.out W h).mono fun e w' ⟨he, hb⟩ => ⟨he, h.call hb⟩) ?_
          simp only [Act.put, List.setIfInBounds_toArray, List.set_cons_zero, List.set_cons_succ]
          refine quiet_value (v := .bool true) rfl (fun _ _ => (by go_simp)) ?_
          simp only [Act.put, List.setIfInBounds_toArray, List.set_cons_zero, List.set_cons_succ]
          refine quiet_value (v := .bool true) rfl (fun _ _ => rfl) ?_
          simp only [Act.put, List.setIfInBounds_toArray, List.set_cons_zero, List.set_cons_succ]
          refine quiet_nil ?_
          intro w6 hw6
          clear y0 y1 y2 y3
          have hu6 := hur.call hw6.out
          have hz6 := hw6.out.size
          have f0 : w6.cell? ⟨b, o + i * 4, none⟩ = some (.int .i64 k1) := by exact cell_below hw6.out _ _ _ e0
          have f1 : w6.cell? ⟨b, o + i * 4 + 1, none⟩ = some (.int .i64 n1) := by exact cell_below hw6.out _ _ _ e1
          have f2 : w6.cell? ⟨b, o + i * 4 + 2, none⟩ = some (.string s1) := by exact cell_below hw6.out _ _ _ e2
          have f3 : w6.cell? ⟨b, o + i * 4 + 3, none⟩ = some (.slice a1 m1.length cap1) := by exact cell_below hw6.out _ _ _ e3
          have hown6 := ownsRow_same hown (fun g hg => hw6.out.block g (hown.lt g hg).2)
          go_wp2_with (at_builtin; refine wpList_append_own_at _ rfl _ _ 22 rfl w1.heap.size 24 i0 _ 4 56 Try.underlying22 hi0 hz0 hz1 hby rfl (by decide) _ _ _ rfl (hown6.alloc _) ⟨w6.heap.size, 0, none⟩ 1 1 [.int .i64 k1, .int .i64 n1, .string s1, .slice a1 m1.length cap1] rfl rfl (cells_new _ _ _) (fun x hx => by simp at hx; rcases hx with rfl | rfl | rfl | rfl <;> rfl) (by unfold maxLen; omega) (by omega) (by rw [World.size_alloc]; omega) ?_; intro v9 w9 hown9 hgrow9 _ hat9)
          go_roundw
          case rel =>
            have hs9 := Side.snoc hsd.out hml.out hxl.out hli.out
            exact ⟨i + 1, m + 1, _, by omega, by go_num, hown9, by omega, Hid.mk (by rw [hut.out, hkp.out, if_pos rfl, List.length_append, hml.out]; rfl), Hid.mk (by rw [hut.out, hkp.out, if_pos rfl]; exact hs9), hu6.alloc.out.grown hgrow9 (by rw [World.size_alloc]; omega) (fun k hk => (hown6.lt k hk).1)⟩
          case measure => simp [intOf]; omega
    · obtain rfl : i = s.length := by omega
      have hsd' := hsd.out
      have hml' := hml.out
      rw [List.take_length] at hsd' hml'
      obtain ⟨a2, cap2, rfl, hlr⟩ := owns_lst (l := uniqT s) (w := w1) (S := fun b => (S b ∧ b < w.heap.size) ∨ w.heap.size ≤ b) (by rw [hml']; exact hown) (fun q hq => hsd' q (by rw [hml'] at hq; exact hq) hq) (fun b o v hb' hc => cell_below hur.out _ _ _ hc)
      have hlr := Hid.mk hlr
      have hbz := hb1.trans (hur.out.mono hz1w)
      clear hown hsd hsd' hml hml'
      go_wp2
      go_ret
      exact ⟨⟨a2, cap2, rfl, hlr.out.wider (fun b hb => by rcases hb with (h | h) | h; exact Or.inl h.1; exact Or.inr h; exact Or.inr (by omega))⟩, hbz⟩

end Go.Proofs.Ytabcekeeekbdiaa
