/-
  Rows of words held side by side; lent, kept, written over.
-/
import Derived.Test.YtpfcbokckjfhbaaKitWords
import Derived.Test.YtpfcbokckjfhbaaKitLast
import Derived.Laws.OwnMore
namespace Go.Proofs.Ytpfcbokckjfhbaa
open Go.RowKit Go.Deep

set_option maxHeartbeats 2000000 in
theorem sameWords_any (xs ys : List Int) (a b : Option Addr) (ca cb : Nat) (w : World) (hx : Cel w xs a) (hy : Cel w ys b) (hl : xs.length ≤ 1000000) :
    Calls Try.prog 25 #[.slice a xs.length ca, .slice b ys.length cb] w fun e w' => e = .returned (.bool (decide (xs = ys))) ∧ Below w.heap.size w w' := by
  by_cases hn : xs.length = ys.length
  · have h1 : ((xs.length : Int) == ys.length) = true := by simp [hn]
    have hn' := Hid.mk hn
    have HX := Hid.mk hx
    have HY := Hid.mk hy
    have HL := Hid.mk hl
    rw [← hn]
    clear h1 hn hx hy hl
    go_enter Try.func25, Try.ntmps25
    go_wp2
    go_loopw [5] (fun ii wr => ∃ (i : Nat), i ≤ xs.length ∧ ii = .int .i64 i ∧ Hid (∀ j (h1 : j < i) (h2 : j < xs.length) (h3 : j < ys.length), xs[j] = ys[j]) ∧ Hid (Below w.heap.size w wr)) (fun ii _ => xs.length - (intOf ii).toNat)
    case atStart => exact ⟨0, Nat.zero_le _, rfl, Hid.mk (fun j h => by omega), Hid.mk (Below.refl _ _)⟩
    case round =>
      obtain ⟨i, hi, rfl, hE, hB⟩ := hrel
      by_cases hlt : i < xs.length
      · have hlt2 : i < ys.length := by rw [← hn'.out]; exact hlt
        obtain ⟨b1, o1, rfl, hc1⟩ := (HX.out.up hB.out) (by omega)
        obtain ⟨b2, o2, rfl, hc2⟩ := (HY.out.up hB.out) (by omega)
        have c1 := hc1 i hlt
        have c2 := hc2 i hlt2
        have hwi : IntKind.i64.wrap ((i : Int) + 1) = ((i + 1 : Nat) : Int) := by have := HL.out; rw [wrap_id (by omega) (by omega)]; omega
        by_cases hxy : xs[i] = ys[i]
        · have hE2 : Hid (∀ j (h1 : j < i + 1) (h2 : j < xs.length) (h3 : j < ys.length), xs[j] = ys[j]) := Hid.mk (fun j h1 h2 h3 => by
            by_cases hj : j = i
            · subst hj; exact hxy
            · exact hE.out j (by omega) h2 h3)
          rw [← hxy] at c2
          generalize xs[i] = x at *
          have HB := Hid.mk (show i < xs.length from hlt)
          have hil : (i : Int) < xs.length := by omega
          clear hc1 hc2 hxy hlt2
          go_wp2
          refine region_up (W := wr) (by kernel_rfl) (by kernel_rfl) (Up.refl _) ?_
          refine quiet_value (v := .slice (some ⟨b1, o1, none⟩) xs.length ca) rfl (fun _ _ => rfl) ?_
          simp only [Act.put, List.setIfInBounds_toArray, List.set_cons_zero, List.set_cons_succ]
          refine quiet_value (v := .int .i64 i) rfl (fun _ _ => rfl) ?_
          simp only [Act.put, List.setIfInBounds_toArray, List.set_cons_zero, List.set_cons_succ]
          refine quiet_value (v := .pointer (some ⟨b1, o1 + i, none⟩)) rfl (fun _ _ => (by go_simp)) ?_
          simp only [Act.put, List.setIfInBounds_toArray, List.set_cons_zero, List.set_cons_succ]
          refine quiet_value (v := .int .u64 x) rfl (fun W h => (by have u0 := cell_below h.out _ _ _ c1; go_simp)) ?_
          simp only [Act.put, List.setIfInBounds_toArray, List.set_cons_zero, List.set_cons_succ]
          refine quiet_value (v := .slice (some ⟨b2, o2, none⟩) xs.length cb) rfl (fun _ _ => rfl) ?_
          simp only [Act.put, List.setIfInBounds_toArray, List.set_cons_zero, List.set_cons_succ]
          refine quiet_value (v := .int .i64 i) rfl (fun _ _ => rfl) ?_
          simp only [Act.put, List.setIfInBounds_toArray, List.set_cons_zero, List.set_cons_succ]
          refine quiet_value (v := .pointer (some ⟨b2, o2 + i, none⟩)) rfl (fun _ _ => (by go_simp)) ?_
          simp only [Act.put, List.setIfInBounds_toArray, List.set_cons_zero, List.set_cons_succ]
          refine quiet_value (v := .int .u64 x) rfl (fun W h => (by have u0 := cell_below h.out _ _ _ c2; go_simp)) ?_
          simp only [Act.put, List.setIfInBounds_toArray, List.set_cons_zero, List.set_cons_succ]
          refine quiet_value (v := .bool false) rfl (fun _ _ => (by go_simp)) ?_
          simp only [Act.put, List.setIfInBounds_toArray, List.set_cons_zero, List.set_cons_succ]
          refine quiet_nil ?_
          intro w' hw'
          go_wp2
          go_roundw
          case rel => exact ⟨i + 1, HB.out, by first | rfl | go_num, hE2, Hid.mk (hB.out.trans (hw'.out.mono hB.out.size))⟩
          case measure =>
            have := HB.out
            simp [intOf]
            omega
        · have hne : ¬ xs = ys := fun e => hxy (by subst e; rfl)
          have hxb : (xs[i] != ys[i]) = true := by simpa using hxy
          generalize xs[i] = x at *
          generalize ys[i] = y at *
          have hil : (i : Int) < xs.length := by omega
          have HNE := Hid.mk hne
          clear hc1 hc2 hlt2 hne
          go_wp2
          refine region_up (W := wr) (by kernel_rfl) (by kernel_rfl) (Up.refl _) ?_
          refine quiet_value (v := .slice (some ⟨b1, o1, none⟩) xs.length ca) rfl (fun _ _ => rfl) ?_
          simp only [Act.put, List.setIfInBounds_toArray, List.set_cons_zero, List.set_cons_succ]
          refine quiet_value (v := .int .i64 i) rfl (fun _ _ => rfl) ?_
          simp only [Act.put, List.setIfInBounds_toArray, List.set_cons_zero, List.set_cons_succ]
          refine quiet_value (v := .pointer (some ⟨b1, o1 + i, none⟩)) rfl (fun _ _ => (by go_simp)) ?_
          simp only [Act.put, List.setIfInBounds_toArray, List.set_cons_zero, List.set_cons_succ]
          refine quiet_value (v := .int .u64 x) rfl (fun W h => (by have u0 := cell_below h.out _ _ _ c1; go_simp)) ?_
          simp only [Act.put, List.setIfInBounds_toArray, List.set_cons_zero, List.set_cons_succ]
          refine quiet_value (v := .slice (some ⟨b2, o2, none⟩) xs.length cb) rfl (fun _ _ => rfl) ?_
          simp only [Act.put, List.setIfInBounds_toArray, List.set_cons_zero, List.set_cons_succ]
          refine quiet_value (v := .int .i64 i) rfl (fun _ _ => rfl) ?_
          simp only [Act.put, List.setIfInBounds_toArray, List.set_cons_zero, List.set_cons_succ]
          refine quiet_value (v := .pointer (some ⟨b2, o2 + i, none⟩)) rfl (fun _ _ => (by go_simp)) ?_
          simp only [Act.put, List.setIfInBounds_toArray, List.set_cons_zero, List.set_cons_succ]
          refine quiet_value (v := .int .u64 y) rfl (fun W h => (by have u0 := cell_below h.out _ _ _ c2; go_simp)) ?_
          simp only [Act.put, List.setIfInBounds_toArray, List.set_cons_zero, List.set_cons_succ]
          refine quiet_value (v := .bool true) rfl (fun _ _ => (by go_simp)) ?_
          simp only [Act.put, List.setIfInBounds_toArray, List.set_cons_zero, List.set_cons_succ]
          refine quiet_nil ?_
          intro w' hw'
          go_wp2
          go_ret
          exact ⟨ret_bool (decide_eq_false HNE.out).symm, hB.out.trans (hw'.out.mono hB.out.size)⟩
      · obtain rfl : i = xs.length := by omega
        have he : xs = ys := List.ext_getElem hn'.out (fun j h1 h2 => hE.out j h1 h1 h2)
        have HE := Hid.mk he
        clear he
        go_wp2
        go_ret
        exact ⟨ret_bool (decide_eq_true HE.out).symm, hB.out⟩
  · have hne : ¬ xs = ys := fun e => hn (by rw [e])
    rw [decide_eq_false hne]
    have h1 : ((xs.length : Int) == ys.length) = false := by simp; omega
    have h2 : ¬ ((xs.length : Int) = ys.length) := by omega
    clear hx hy hl hne
    go_enter Try.func25, Try.ntmps25
    go_wp2
    go_ret
    exact ⟨rfl, Below.refl _ _⟩
set_option maxHeartbeats 1000000 in
set_option maxRecDepth 100000 in
theorem lentWords_any (xs : List Int) (la : Option Addr) (lcap : Nat) (w : World) (hx : Wrd w xs la lcap) (hn : la = none → lcap = 0) (hl : xs.length ≤ 1000) :
    Calls Try.prog 26 #[.slice la xs.length lcap] w fun e w' => ∃ (g cap : Nat), e = .returned (.slice (some ⟨g, 0, none⟩) xs.length cap) ∧ Wds w' (.slice (some ⟨g, 0, none⟩) (xs.length + 3) cap) (xs ++ [77, 78, 79]) ∧ w.heap.size ≤ g ∧ xs.length + 3 ≤ cap ∧ cap ≤ maxLen ∧ Below w.heap.size w w' := by
  obtain ⟨W1, hW1⟩ : ∃ W1, w.alloc (.cells #[] 72) = W1 := ⟨_, rfl⟩
  have hb1 : Below w.heap.size w W1 := by rw [← hW1]; exact (Up.refl w).alloc.out
  have hz1 : W1.heap.size = w.heap.size + 1 := by rw [← hW1]; simp
  have h1 : Wds W1 (.slice (some ⟨w.heap.size, 0, none⟩) 0 0) [] := by
    rw [← hW1]
    exact ⟨rfl, Or.inr ⟨w.heap.size, 0, #[], rfl, Nat.zero_le _, new_block _ _, Nat.le_refl _, by rw [maxLen]; omega, rfl, rfl⟩⟩
  obtain ⟨v2, w2, hr1, h2, hg2, ha2⟩ := append_words W1 31 _ [] xs h1 la lcap (hx.cel.up hb1) hn (by simp; omega)
  rw [List.nil_append] at h2
  obtain ⟨a2, c2, rfl, _, _, _⟩ := h2.cel
  have o1 : Only (fun k => w.heap.size ≤ k) w W1 := Only.up hb1
  have o2 : Only (fun k => w.heap.size ≤ k) w w2 := o1.trans (Only.grown (S := fun k => w.heap.size ≤ k) hg2 (fun k hk => by cases hk; exact Nat.le_refl _)) (fun i hi => Or.inl hi)
  have hq2 : ∀ k, (Value.slice a2 xs.length c2).ownBlock = some k → w.heap.size ≤ k := fun k hk => by
    rcases ha2 with h | h
    · rw [h] at hk; cases hk; exact Nat.le_refl _
    · rw [h] at hk; cases hk; omega
  obtain ⟨W3, hW3⟩ : ∃ W3, w2.alloc (.cells #[.int .u64 77, .int .u64 78, .int .u64 79] 72) = W3 := ⟨_, rfl⟩
  have hb3 : Below w2.heap.size w2 W3 := by rw [← hW3]; exact (Up.refl w2).alloc.out
  have hx3 : W3.heap[w2.heap.size]? = some (.cells #[.int .u64 77, .int .u64 78, .int .u64 79] 72) := by rw [← hW3]; exact new_block _ _
  obtain ⟨v4, w4, hr3, h4, hg4, ha4⟩ := append_words W3 31 _ xs [77, 78, 79] (h2.up hb3) (some ⟨w2.heap.size, 0, none⟩) 3 (cel_at (xs := [77, 78, 79]) hx3) (fun h => by cases h) (by simp; omega)
  have o4 : Only (fun k => w.heap.size ≤ k) w w4 := (o2.call hb3).trans (Only.grown (S := fun k => w.heap.size ≤ k) hg4 hq2) (fun i hi => Or.inl hi)
  have hq4 : ∀ k, v4.ownBlock = some k → w.heap.size ≤ k := fun k hk => by
    rcases ha4 with h | h
    · rw [h] at hk; exact hq2 k hk
    · rw [h] at hk; cases hk; exact Nat.le_trans o2.size hb3.size
  have hbelow := Hid.mk (o4.below (B := w.heap.size) (fun k hk => hk) (Nat.le_refl _))
  rcases h4.shape with ⟨_, h0⟩ | ⟨g, cap, rfl, hc1, hc2, hc3, hc4⟩
  · simp at h0
  have hgb := Hid.mk (hq4 g rfl)
  rw [List.length_append] at h4 hc1 hr3
  have hlen3 : ([77, 78, 79] : List Int).length = 3 := rfl
  rw [hlen3] at h4 hc1 hr3
  have H4 := Hid.mk (show Wds w4 (.slice (some ⟨g, 0, none⟩) (xs.length + 3) cap) (xs ++ [77, 78, 79]) ∧ xs.length + 3 ≤ cap ∧ cap ≤ maxLen from ⟨h4, hc1, hc2⟩)
  have hcl : decide ((xs.length : Int) ≤ cap) = true := by rw [decide_eq_true_eq]; omega
  have hcl2 : xs.length ≤ cap := by omega
  have hb : Hid (xs.length ≤ 1000) := Hid.mk hl
  clear hb1 hz1 h1 h2 hg2 ha2 o1 o2 hq2 hb3 hx3 h4 hg4 ha4 o4 hq4 hc1 hc2 hc3 hc4 hx hn hl hlen3
  go_enter Try.func26, Try.ntmps26
  go_wp2_with (first
    | (at_builtin; refine Lib.wpList_append_run _ rfl _ _ _ _ rfl _ _ rfl rfl _ _ hr1 ?_)
    | (at_builtin; refine Lib.wpList_append_run _ rfl _ _ _ _ rfl _ _ rfl rfl _ _ hr3 ?_))
  go_ret
  exact ⟨g, cap, rfl, H4.out.1, hgb.out, H4.out.2.1, H4.out.2.2, hbelow.out⟩
set_option maxHeartbeats 1000000 in
set_option maxRecDepth 100000 in
theorem keptWords_any (xs : List Int) (g cap : Nat) (la : Option Addr) (lcap : Nat) (w : World) (h : Wds w (.slice (some ⟨g, 0, none⟩) (xs.length + 3) cap) (xs ++ [77, 78, 79])) (hc : xs.length + 3 ≤ cap) (hx : Cel w xs la) (hl : xs.length ≤ 1000) :
    Calls Try.prog 32 #[.slice (some ⟨g, 0, none⟩) xs.length cap, .slice la xs.length lcap] w fun e w' => e = .returned (.bool true) ∧ Below w.heap.size w w' := by
  obtain ⟨b, o, he, hcel⟩ := (h.celA) (by simp)
  cases he
  simp only [Nat.zero_add] at hcel
  have hS := Hid.mk (sameWords_any xs xs (some ⟨g, 0, none⟩) la cap lcap w (fun h0 => ⟨g, 0, rfl, fun j hj => by
    have := hcel j (by rw [List.length_append]; omega)
    rw [List.getElem_append_left hj] at this
    rw [Nat.zero_add]; exact this⟩) hx (by omega))
  have c0 := hcel xs.length (by simp)
  have c1 := hcel (xs.length + 1) (by simp)
  have c2 := hcel (xs.length + 2) (by simp)
  rw [List.getElem_append_right (by omega)] at c0 c1 c2
  simp only [Nat.sub_self, Nat.add_sub_cancel_left, List.getElem_cons_zero, List.getElem_cons_succ] at c0 c1 c2
  obtain ⟨m, hm⟩ : ∃ m, xs.length = m := ⟨_, rfl⟩
  obtain ⟨m1, hm1⟩ : ∃ m1, m + 1 = m1 := ⟨_, rfl⟩
  obtain ⟨m2, hm2⟩ : ∃ m2, m + 2 = m2 := ⟨_, rfl⟩
  obtain ⟨m3, hm3⟩ : ∃ m3, m + 3 = m3 := ⟨_, rfl⟩
  rw [hm] at c0 c1 c2 hc hS hl
  rw [hm1] at c1
  rw [hm2] at c2
  rw [hm3] at hc
  have w1 : IntKind.i64.wrap ((m : Int) + 1) = (m1 : Int) := by rw [wrap_id (by omega) (by omega)]; omega
  have w2 : IntKind.i64.wrap ((m : Int) + 2) = (m2 : Int) := by rw [wrap_id (by omega) (by omega)]; omega
  have w3 : IntKind.i64.wrap ((m : Int) + 3) = (m3 : Int) := by rw [wrap_id (by omega) (by omega)]; omega
  have d1 : ¬ cap < m3 := by omega
  have d2 : decide ((cap : Int) < m3) = false := by rw [decide_eq_false_iff_not]; omega
  have d3 : (m3 : Int) ≤ cap := by omega
  have d4 : (m : Int) < m3 := by omega
  have d5 : (m1 : Int) < m3 := by omega
  have d6 : (m2 : Int) < m3 := by omega
  have d7 : m < m3 := by omega
  have d8 : m1 < m3 := by omega
  have d9 : m2 < m3 := by omega
  have HC := Hid.mk (show w.cell? ⟨g, m, none⟩ = some (.int .u64 77) ∧ w.cell? ⟨g, m1, none⟩ = some (.int .u64 78) ∧ w.cell? ⟨g, m2, none⟩ = some (.int .u64 79) from ⟨c0, c1, c2⟩)
  rw [hm]
  clear h hx hl hcel hm hm1 hm2 hm3 c0 c1 c2
  go_enter Try.func32, Try.ntmps32
  go_wp2_with (
    go_at_call 25
    refine hS.out.mono ?_
    rintro e w4 ⟨rfl, hb4⟩
    rw [decide_eq_true (rfl : xs = xs)]
    have c0 := cell_below hb4 _ _ _ HC.out.1
    have c1 := cell_below hb4 _ _ _ HC.out.2.1
    have c2 := cell_below hb4 _ _ _ HC.out.2.2
    have HB4 := Hid.mk hb4
    clear hb4)
  go_ret
  exact ⟨rfl, HB4.out⟩
set_option maxHeartbeats 1000000 in
theorem overWords_any (xs : List Int) (a : Option Addr) (n cap : Nat) (w : World) (h : Wds w (.slice a n cap) xs) :
    Calls Try.prog 29 #[.slice a n cap] w fun e w' => (∃ u, e = .returned u) ∧ Only (fun k => (Value.slice a n cap).ownBlock = some k) w w' := by
  rcases h.2 with ⟨he, _⟩ | ⟨g, cap', cur, he, _, hh, hn, hm, hs, _⟩
  · cases he
    go_enter Try.func29, Try.ntmps29
    go_wp2
    go_loop [2] (fun ii => ii = .int .i64 0) (fun _ => 0)
    case atStart => rfl
    case round =>
      obtain rfl := hrel
      go_wp2
      go_end0
      exact ⟨⟨_, rfl⟩, Only.refl _ _⟩
  · cases he
    rw [Nat.mul_one] at hs
    have HM := Hid.mk (show cap ≤ maxLen ∧ xs.length ≤ cap from ⟨hm, hn⟩)
    have H0 := Hid.mk (show ∃ cur : Array Value, w.heap[g]? = some (.cells cur 72 (0, 0)) ∧ cur.size = cap from ⟨cur, hh, hs⟩)
    clear hm hh hs h hn
    go_enter Try.func29, Try.ntmps29
    go_wp2
    go_loopw [2] (fun ii wr => ∃ (i : Nat), i ≤ cap ∧ ii = .int .i64 i ∧ Hid ((∃ cur : Array Value, wr.heap[g]? = some (.cells cur 72 (0, 0)) ∧ cur.size = cap) ∧ Only (fun k => k = g) w wr)) (fun ii _ => cap - (intOf ii).toNat)
    case atStart => exact ⟨0, Nat.zero_le _, rfl, Hid.mk ⟨H0.out, Only.refl _ _⟩⟩
    case round =>
      obtain ⟨i, hi, rfl, hS⟩ := hrel
      by_cases hlt : i < cap
      · obtain ⟨⟨cu, hcu, hcs⟩, ho⟩ := hS.out
        have hci : wr.cell? ⟨g, i, none⟩ = some (cu[i]'(by omega)) := by simp [World.cell?, hcu, hlt, hcs]
        have hfi : wr.frozen? ⟨g, i, none⟩ = false := by simp [World.frozen?, hcu]
        have hwi : IntKind.i64.wrap ((i : Int) + 1) = ((i + 1 : Nat) : Int) := by have := HM.out.1; rw [maxLen] at this; rw [wrap_id (by omega) (by omega)]; omega
        have hlt2 : (i : Int) < cap := by omega
        have HL := Hid.mk hlt
        have hS2 : Hid ((∃ cur : Array Value, (wr.setCell ⟨g, i, none⟩ (.int .u64 99)).heap[g]? = some (.cells cur 72 (0, 0)) ∧ cur.size = cap) ∧ Only (fun k => k = g) w (wr.setCell ⟨g, i, none⟩ (.int .u64 99))) := Hid.mk
          ⟨⟨cu.setIfInBounds i (.int .u64 99), by simp [World.setCell, Array.getElem?_modify, hcu], by simpa using hcs⟩, ho.put rfl i _⟩
        generalize cu[i]'(by omega) = x at hci
        clear hcu hcs ho
        go_wp2
        go_roundw
        case rel => exact ⟨i + 1, HL.out, by first | rfl | go_num, hS2⟩
        case measure =>
          have h1 : i < cap := HL.out
          simp [intOf]
          omega
      · obtain rfl : i = cap := by omega
        go_wp2
        go_end0
        exact ⟨⟨_, rfl⟩, hS.out.2.mono (fun k hk => by subst hk; rfl)⟩

end Go.Proofs.Ytpfcbokckjfhbaa
