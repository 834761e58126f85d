/-
  The document's counts: some less; Release, Drop. Numbers written over.
-/
import Derived.Test.YtgfelddgiabeoaaFixR
import Derived.Test.YtgfelddgiabeoaaFixD
namespace Go.Proofs.Ytgfelddgiabeoaa
open Go.RowKit Go.Deep Go.Maps Go.WideShapes

theorem StepRc.up {w w1 w2 : World} {q : Nat} {v : Value} {L : List Int} (h : StepRc w q v L w1) (hb : Below w1.heap.size w1 w2) : StepRc w q v L w2 := by
  obtain ⟨v', h1, h2, h3⟩ := h
  exact ⟨v', h1.up hb, h2.call hb, h3⟩
theorem drop_at {l : List Int} {i : Nat} (h : i < l.length) : l.drop i = l[i] :: l.drop (i + 1) := List.drop_eq_getElem_cons h

set_option maxRecDepth 100000 in
set_option maxHeartbeats 4000000 in
theorem lessRc_any (q : Nat) (v : Value) (L : List Int) (x : Int) (k : Nat) (w : World) (h : Rc w q v L) (hk : k ≤ 1000) (hL : L.length ≤ 1000) :
    Calls Try.prog 29 #[.pointer (some ⟨q, 0, none⟩), .int .i64 x, .int .i64 k] w fun e w' => (∃ u, e = .returned u) ∧ StepRc w q v (lessL x k L) w' := by
  obtain ⟨a, cap, rfl, hc⟩ := h.slice
  obtain ⟨i0, hi0, hz0, hz1, hby⟩ := info_parts intInfoF
  have HR := Hid.mk h
  have HL := Hid.mk (And.intro hL hk)
  clear h hL hk hc
  go_enter Try.func29, Try.ntmps29
  go_wp2
  go_loopw [2, 6, 7] (fun mm oo ii wr => ∃ (i : Nat) (m : Nat) (out : List Int) (uu : Value), i ≤ L.length ∧ mm = .int .i64 m ∧ uu = oo ∧ ii = .int .i64 i ∧ Hid (m ≤ k ∧ out.length ≤ i ∧ out ++ lessL x m (L.drop i) = lessL x k L) ∧ Hid (wr.ownsRow w.heap.size 3 1 uu out.length (out.map (.int .i64))) ∧ Hid (Below w.heap.size w wr)) (fun _ _ ii _ => L.length - (Go.RowKit.intOf ii).toNat)
  case atStart => exact ⟨0, k, [], _, Nat.zero_le _, rfl, rfl, rfl, Hid.mk ⟨Nat.le_refl _, Nat.le_refl _, rfl⟩, Hid.mk ⟨rfl, Or.inl ⟨rfl, rfl⟩⟩, Hid.mk (Below.refl _ _)⟩
  case round =>
    obtain ⟨i, m, out, uu, hi, rfl, rfl, rfl, hI, hU, hW⟩ := hrel
    obtain ⟨hmk, hoi, heq⟩ := hI.out
    have hR := HR.out.up hW.out
    obtain ⟨c0, f0⟩ := hR.cells
    have hLL := HL.out
    by_cases hlt : i < L.length
    · obtain ⟨a', cap', hv, hcc⟩ := hR.slice
      simp only [Value.slice.injEq, true_and] at hv
      obtain ⟨rfl, rfl⟩ := hv
      obtain ⟨b, o, rfl, hcell⟩ := hcc (by omega)
      have d0 := hcell i hlt
      rw [drop_at hlt, lessL_cons] at heq
      have hwi : IntKind.i64.wrap ((i : Int) + 1) = ((i + 1 : Nat) : Int) := by rw [wrap_id (by omega) (by omega)]; omega
      have HT := Hid.mk hlt
      have hli : (i : Int) < L.length := by omega
      obtain ⟨y, hy⟩ : ∃ y, L[i]'hlt = y := ⟨_, rfl⟩
      rw [hy] at d0 heq
      by_cases e : y = x
      · have he : (y == x) = true := by simp [e]
        by_cases h0 : 0 < m
        · rw [if_pos ⟨e, h0⟩] at heq
          have hm1 : IntKind.i64.wrap ((m : Int) - 1) = ((m - 1 : Nat) : Int) := by rw [wrap_id (by omega) (by omega)]; omega
          have h0' : (0 : Int) < m := by omega
          have hI2 : Hid (m - 1 ≤ k ∧ out.length ≤ i + 1 ∧ out ++ lessL x (m - 1) (L.drop (i + 1)) = lessL x k L) := Hid.mk ⟨by omega, by omega, heq⟩
          obtain ⟨m1, hm1'⟩ : ∃ m1, m - 1 = m1 := ⟨_, rfl⟩
          rw [hm1'] at hm1 hI2
          subst e
          clear hcell hcc heq hy hLL hmk hoi hm1' hR
          go_wp2
          go_roundw
          case rel => exact ⟨i + 1, m1, out, _, HT.out, by first | rfl | go_num, rfl, by first | rfl | go_num, hI2, hU, hW⟩
          case measure => have h1 : i < L.length := HT.out; simp [Go.RowKit.intOf]; omega
        · rw [if_neg (fun hh => h0 hh.2)] at heq
          have h0' : ¬ (0 : Int) < m := by omega
          subst e
          have HE := Hid.mk (show y = y ∨ True from Or.inr trivial)
          have hI2 : Hid (m ≤ k ∧ (out ++ [y]).length ≤ i + 1 ∧ (out ++ [y]) ++ lessL y m (L.drop (i + 1)) = lessL y k L) := Hid.mk ⟨hmk, by simp; omega, by rw [List.append_assoc]; exact heq⟩
          have HN := Hid.mk (show out.length ≤ 1000 by omega)
          clear hcell hcc heq hy hLL hmk hoi hR
          go_wp2_with (at_builtin; refine wpList_append_own_at _ rfl _ _ 26 rfl w.heap.size 3 i0 _ 1 8 Try.underlying26 hi0 hz0 hz1 hby rfl (by decide) uu out.length _ rfl (hU.out.alloc _) ⟨wr.heap.size, 0, none⟩ 1 1 [.int .i64 y] rfl rfl (cell_one_new _ _ _) (fun u hu => (by obtain rfl := List.mem_singleton.1 hu; rfl)) (by have := HN.out; unfold maxLen; omega) (by have := HN.out; omega) (by have := hW.out.size; simp; omega) ?_; intro u' w2 hown hgrow hnil hat; clear hnil hat
                       have HO := Hid.mk hown; have HG := Hid.mk (((hW.out.alloc hW.out.size _).grown hgrow (by have := hW.out.size; simp; omega) (fun k hk => (hU.out.lt k hk).1))); clear hown hgrow)
          go_roundw
          case rel => exact ⟨i + 1, m, out ++ [y], _, HT.out, by first | rfl | go_num, rfl, by first | rfl | go_num, hI2, by rw [List.length_append, List.map_append]; exact HO, HG⟩
          case measure => have h1 : i < L.length := HT.out; simp [Go.RowKit.intOf]; omega
      · rw [if_neg (fun hh => e hh.1)] at heq
        have he : (y == x) = false := by simp [e]
        have HE := Hid.mk e
        clear e
        have hI2 : Hid (m ≤ k ∧ (out ++ [y]).length ≤ i + 1 ∧ (out ++ [y]) ++ lessL x m (L.drop (i + 1)) = lessL x k L) := Hid.mk ⟨hmk, by simp; omega, by rw [List.append_assoc]; exact heq⟩
        have HN := Hid.mk (show out.length ≤ 1000 by omega)
        clear hcell hcc heq hy hLL hmk hoi hR
        go_wp2_with (at_builtin; refine wpList_append_own_at _ rfl _ _ 26 rfl w.heap.size 3 i0 _ 1 8 Try.underlying26 hi0 hz0 hz1 hby rfl (by decide) uu out.length _ rfl (hU.out.alloc _) ⟨wr.heap.size, 0, none⟩ 1 1 [.int .i64 y] rfl rfl (cell_one_new _ _ _) (fun u hu => (by obtain rfl := List.mem_singleton.1 hu; rfl)) (by have := HN.out; unfold maxLen; omega) (by have := HN.out; omega) (by have := hW.out.size; simp; omega) ?_; intro u' w2 hown hgrow hnil hat; clear hnil hat
                     have HO := Hid.mk hown; have HG := Hid.mk (((hW.out.alloc hW.out.size _).grown hgrow (by have := hW.out.size; simp; omega) (fun k hk => (hU.out.lt k hk).1))); clear hown hgrow)
        go_roundw
        case rel => exact ⟨i + 1, m, out ++ [y], _, HT.out, by first | rfl | go_num, rfl, by first | rfl | go_num, hI2, by rw [List.length_append, List.map_append]; exact HO, HG⟩
        case measure => have h1 : i < L.length := HT.out; simp [Go.RowKit.intOf]; omega
    · obtain rfl : i = L.length := by omega
      have hfin : out = lessL x k L := by simpa [lessL_nil] using heq
      have HF := Hid.mk hfin
      have hbx := Hid.mk hR.box
      obtain ⟨ua, uc, rfl⟩ := owns_slice hU.out
      clear hlt hLL hmk hoi heq hfin hR
      go_wp2
      go_end0
      refine ⟨⟨_, rfl⟩, .slice ua out.length uc, ?_⟩
      have hq : q < w.heap.size := HR.out.lt (Or.inl rfl)
      have hnv : (Value.slice ua out.length uc).ownBlock ≠ some q := fun e => by have := (hU.out.lt q e).1; omega
      rw [← HF.out]
      refine ⟨⟨?_, nums_kept (ownsRow_base_a hU.out (Nat.zero_le _)) (Only.set (S := fun k => k = q) wr (.slice ua out.length uc) rfl) (fun g hg e => hnv (by rw [hg, e])), hnv⟩, (Only.up hW.out).put (Or.inl rfl) 0 _, fun g hg => Or.inr (hU.out.lt g hg).1⟩
      have h' := hbx.out
      simp [World.setCell, Array.getElem?_modify, h']

set_option maxRecDepth 100000 in
set_option maxHeartbeats 1000000 in
theorem relRc_any (q : Nat) (v : Value) (L : List Int) (x : Int) (w : World) (h : Rc w q v L) (hL : L.length ≤ 1000) :
    Calls Try.prog 23 #[.pointer (some ⟨q, 0, none⟩), .int .i64 x] w fun e w' => e = .returned (.tuple #[.bool (relB x L), .int .i64 (relE x L)]) ∧ StepRc w q v (lessL x 1 L) w' := by
  have hO := ofRc_any q v L x w h hL
  have hA := Hid.mk h
  unfold relB relE
  by_cases h0 : cnt x L = 0
  · rw [if_pos h0, if_pos h0, lessL_none 1 h0]
    rw [h0] at hO
    have HO := Hid.mk hO
    clear h hL h0 hO
    go_enter Try.func23, Try.ntmps23
    go_wp2_with (first
      | (go_at_call 10; refine HO.out.mono ?_; rintro e w1 ⟨rfl, rfl⟩))
    go_ret2
    exact ⟨rfl, hA.out.step⟩
  · rw [if_neg h0, if_neg h0]
    have hF := lessRc_any q v L x 1 w h (by decide) hL
    obtain ⟨m, hm⟩ : ∃ m, cnt x L = m := ⟨_, rfl⟩
    obtain ⟨L', hL'⟩ : ∃ L', lessL x 1 L = L' := ⟨_, rfl⟩
    rw [hm] at hO
    rw [hL'] at hF ⊢
    have e0 : ((m : Int) == 0) = false := by simp; omega
    have e1 : ¬ (m : Int) = 0 := by omega
    have HO := Hid.mk hO
    have HF := Hid.mk hF
    clear h hL h0 hO hF hm hL'
    go_enter Try.func23, Try.ntmps23
    go_wp2_with (first
      | (go_at_call 10; refine HO.out.mono ?_; rintro e w1 ⟨rfl, rfl⟩)
      | (go_at_call 29; refine HF.out.mono ?_; rintro e w2 ⟨⟨ux, rfl⟩, hs⟩; obtain ⟨v2, hr2, ho2, hn2⟩ := hs; obtain ⟨c2, f2⟩ := hr2.cells; have HS := Hid.mk (show StepRc w q v L' w2 from ⟨v2, hr2, ho2, hn2⟩); obtain ⟨a2, cap2, rfl, _⟩ := hr2.slice; clear hr2 ho2 hn2))
    go_ret2
    exact ⟨rfl, HS.out⟩

set_option maxRecDepth 100000 in
set_option maxHeartbeats 1000000 in
theorem dropRc_any (q : Nat) (v : Value) (L : List Int) (x : Int) (w : World) (h : Rc w q v L) (hL : L.length ≤ 1000) :
    Calls Try.prog 24 #[.pointer (some ⟨q, 0, none⟩), .int .i64 x] w fun e w' => e = .returned (.tuple #[.int .i64 (cnt x L), .bool (dropB x L)]) ∧ StepRc w q v (lessL x (cnt x L) L) w' := by
  have hO := ofRc_any q v L x w h hL
  have hF := lessRc_any q v L x (cnt x L) w h (Nat.le_trans (cnt_le x L) hL) hL
  unfold dropB
  obtain ⟨m, hm⟩ : ∃ m, cnt x L = m := ⟨_, rfl⟩
  rw [hm] at hO hF ⊢
  obtain ⟨L', hL'⟩ : ∃ L', lessL x m L = L' := ⟨_, rfl⟩
  rw [hL'] at hF ⊢
  have HO := Hid.mk hO
  have HF := Hid.mk hF
  by_cases h0 : m = 0
  · subst h0
    clear h hL hO hF hm hL'
    go_enter Try.func24, Try.ntmps24
    go_upto_region 3 with (first
      | (go_at_call 10; refine HO.out.mono ?_; rintro e w1 ⟨rfl, rfl⟩)
      | (go_at_call 29; refine HF.out.mono ?_; rintro e w2 ⟨⟨ux, rfl⟩, hs⟩; obtain ⟨v2, hr2, ho2, hn2⟩ := hs; obtain ⟨c2, f2⟩ := hr2.cells; have HS := Hid.mk (show StepRc w q v L' w2 from ⟨v2, hr2, ho2, hn2⟩); obtain ⟨a2, cap2, rfl, _⟩ := hr2.slice; clear hr2 ho2 hn2))
    refine region_up (W := w2) (by kernel_rfl) (by kernel_rfl) (Up.refl _) ?_
    refine quiet_value (v := .int .i64 0) rfl (fun _ _ => rfl) ?_
    simp only [Act.put, List.setIfInBounds_toArray, List.set_cons_zero, List.set_cons_succ]
    refine quiet_value (v := .int .i64 0) rfl (fun _ _ => rfl) ?_
    simp only [Act.put, List.setIfInBounds_toArray, List.set_cons_zero, List.set_cons_succ]
    refine quiet_value (v := .bool false) rfl (fun _ _ => (by go_simp)) ?_
    simp only [Act.put, List.setIfInBounds_toArray, List.set_cons_zero, List.set_cons_succ]
    refine quiet_value (v := .bool false) rfl (fun _ _ => rfl) ?_
    simp only [Act.put, List.setIfInBounds_toArray, List.set_cons_zero, List.set_cons_succ]
    refine quiet_not rfl ?_
    simp only [Act.put, List.setIfInBounds_toArray, List.set_cons_zero, List.set_cons_succ]
    refine quiet_not rfl ?_
    simp only [Act.put, List.setIfInBounds_toArray, List.set_cons_zero, List.set_cons_succ]
    refine quiet_not rfl ?_
    simp only [Act.put, List.setIfInBounds_toArray, List.set_cons_zero, List.set_cons_succ]
    refine quiet_not rfl ?_
    simp only [Act.put, List.setIfInBounds_toArray, List.set_cons_zero, List.set_cons_succ]
    refine quiet_not rfl ?_
    simp only [Act.put, List.setIfInBounds_toArray, List.set_cons_zero, List.set_cons_succ]
    refine quiet_not rfl ?_
    simp only [Act.put, List.setIfInBounds_toArray, List.set_cons_zero, List.set_cons_succ]
    refine quiet_value (v := .bool false) rfl (fun _ _ => (by go_simp)) ?_
    simp only [Act.put, List.setIfInBounds_toArray, List.set_cons_zero, List.set_cons_succ]
    refine quiet_value (v := .int .i64 0) rfl (fun _ _ => rfl) ?_
    simp only [Act.put, List.setIfInBounds_toArray, List.set_cons_zero, List.set_cons_succ]
    refine quiet_value (v := .bool false) rfl (fun _ _ => rfl) ?_
    simp only [Act.put, List.setIfInBounds_toArray, List.set_cons_zero, List.set_cons_succ]
    refine quiet_nil ?_
    intro w3 hw3
    have HU := Hid.mk hw3.out
    go_wp2
    go_ret2
    exact ⟨rfl, HS.out.up HU.out⟩
  · rw [if_neg h0]
    have e1 : (0 : Int) < m := by omega
    have e2 : 0 < m := by omega
    clear h hL h0 hO hF hm hL'
    go_enter Try.func24, Try.ntmps24
    go_upto_region 3 with (first
      | (go_at_call 10; refine HO.out.mono ?_; rintro e w1 ⟨rfl, rfl⟩)
      | (go_at_call 29; refine HF.out.mono ?_; rintro e w2 ⟨⟨ux, rfl⟩, hs⟩; obtain ⟨v2, hr2, ho2, hn2⟩ := hs; obtain ⟨c2, f2⟩ := hr2.cells; have HS := Hid.mk (show StepRc w q v L' w2 from ⟨v2, hr2, ho2, hn2⟩); obtain ⟨a2, cap2, rfl, _⟩ := hr2.slice; clear hr2 ho2 hn2))
    refine region_up (W := w2) (by kernel_rfl) (by kernel_rfl) (Up.refl _) ?_
    refine quiet_value (v := .int .i64 m) rfl (fun _ _ => rfl) ?_
    simp only [Act.put, List.setIfInBounds_toArray, List.set_cons_zero, List.set_cons_succ]
    refine quiet_value (v := .int .i64 m) rfl (fun _ _ => rfl) ?_
    simp only [Act.put, List.setIfInBounds_toArray, List.set_cons_zero, List.set_cons_succ]
    refine quiet_value (v := .bool true) rfl (fun _ _ => (by go_simp)) ?_
    simp only [Act.put, List.setIfInBounds_toArray, List.set_cons_zero, List.set_cons_succ]
    refine quiet_value (v := .bool true) rfl (fun _ _ => rfl) ?_
    simp only [Act.put, List.setIfInBounds_toArray, List.set_cons_zero, List.set_cons_succ]
    refine quiet_value (v := .pointer (some ⟨q, 0, none⟩)) rfl (fun _ _ => rfl) ?_
    simp only [Act.put, List.setIfInBounds_toArray, List.set_cons_zero, List.set_cons_succ]
    refine quiet_value (v := .pointer (some ⟨q, 0, none⟩)) rfl (fun _ _ => (by go_simp)) ?_
    simp only [Act.put, List.setIfInBounds_toArray, List.set_cons_zero, List.set_cons_succ]
    refine quiet_value (v := .pointer (some ⟨q, 0, none⟩)) rfl (fun _ _ => (by go_simp)) ?_
    simp only [Act.put, List.setIfInBounds_toArray, List.set_cons_zero, List.set_cons_succ]
    refine quiet_value (v := .slice a2 L'.length cap2) rfl (fun W h => (by have u0 := cell_below h.out _ _ _ c2; go_simp)) ?_
    simp only [Act.put, List.setIfInBounds_toArray, List.set_cons_zero, List.set_cons_succ]
    refine quiet_value (v := .int .i64 L'.length) rfl (fun _ _ => (by go_simp)) ?_
    simp only [Act.put, List.setIfInBounds_toArray, List.set_cons_zero, List.set_cons_succ]
    refine quiet_value (v := .bool ((L'.length : Int) == 0)) rfl (fun _ _ => (by go_simp)) ?_
    simp only [Act.put, List.setIfInBounds_toArray, List.set_cons_zero, List.set_cons_succ]
    refine quiet_value (v := .bool ((L'.length : Int) == 0)) rfl (fun _ _ => (by go_simp)) ?_
    simp only [Act.put, List.setIfInBounds_toArray, List.set_cons_zero, List.set_cons_succ]
    refine quiet_value (v := .int .i64 m) rfl (fun _ _ => rfl) ?_
    simp only [Act.put, List.setIfInBounds_toArray, List.set_cons_zero, List.set_cons_succ]
    refine quiet_value (v := .bool ((L'.length : Int) == 0)) rfl (fun _ _ => rfl) ?_
    simp only [Act.put, List.setIfInBounds_toArray, List.set_cons_zero, List.set_cons_succ]
    refine quiet_nil ?_
    intro w3 hw3
    have HU := Hid.mk hw3.out
    go_wp2
    go_ret2
    exact ⟨rfl, HS.out.up HU.out⟩

end Go.Proofs.Ytgfelddgiabeoaa
