/-
  What package order compares two terms by, beside their parts: cmp.Compare, cmp.Or, fields, parts.
-/
import Derived.Test.YteklhipcojioaaaDoorZOrdRef
import Derived.Test.YteklhipcojioaaaDoorZFloats
import Derived.Test.YteklhipcojioaaaDoorZRegionUp
import Derived.Deep.LoopGhost
import Derived.WalkMore
namespace Go.Proofs.YteklhipcojioaaaDoor
open Go.RowKit Go.Deep

theorem nanI_any (a : Int) (w : World) : Calls Tryd.prog 100 #[.int .i64 a] w fun e w' => e = .returned (.bool false) ∧ w = w' := by
  go_enter Tryd.func100, Tryd.ntmps100
  go_wp2
  all_goals go_ret
  all_goals exact ⟨by simp, rfl⟩
theorem nanS_any (a : ByteArray) (w : World) : Calls Tryd.prog 101 #[.string a] w fun e w' => e = .returned (.bool false) ∧ w = w' := by
  go_enter Tryd.func101, Tryd.ntmps101
  go_wp2
  all_goals go_ret
  all_goals exact ⟨by simp, rfl⟩
theorem cmpI_any (a b : Int) (w : World) : Calls Tryd.prog 94 #[.int .i64 a, .int .i64 b] w fun e w' => e = .returned (.int .i64 (cmpI a b)) ∧ w = w' := by
  go_enter Tryd.func94, Tryd.ntmps94
  go_wp2_with (go_at_call 100; refine (nanI_any _ _).mono ?_; rintro e w' ⟨rfl, rfl⟩)
  all_goals go_ret
  all_goals exact ⟨ret_int (by unfold cmpI; (repeat' split) <;> omega), rfl⟩
theorem cmpS_any (a b : ByteArray) (w : World) : Calls Tryd.prog 95 #[.string a, .string b] w fun e w' => e = .returned (.int .i64 (cmpB a b)) ∧ w = w' := by
  go_enter Tryd.func95, Tryd.ntmps95
  go_wp2_with (go_at_call 101; refine (nanS_any _ _).mono ?_; rintro e w' ⟨rfl, rfl⟩)
  all_goals go_ret
  · exact ⟨ret_int (cmpB_lt (by assumption)).symm, rfl⟩
  · exact ⟨ret_int (cmpB_gt (by assumption) (by assumption)).symm, rfl⟩
  · exact ⟨ret_int (cmpB_eq (by assumption)).symm, rfl⟩

theorem or_any (x y : Int) (b : Nat) (w : World) (h : w.heap[b]? = some (.cells #[.int .i64 x, .int .i64 y] 3)) :
    Calls Tryd.prog 96 #[.slice (some ⟨b, 0, none⟩) 2 2] w fun e w' => e = .returned (.int .i64 (lex x y)) ∧ w = w' := by
  have c0 : w.cell? ⟨b, 0, none⟩ = some (.int .i64 x) := by simp [World.cell?, h]
  have c1 : w.cell? ⟨b, 0 + 1, none⟩ = some (.int .i64 y) := by simp [World.cell?, h]
  go_enter Tryd.func96, Tryd.ntmps96
  go_wp2
  go_loopw [8] (fun ii wr => ∃ i : Nat, i ≤ 2 ∧ ii = .int .i64 i ∧ w = wr ∧ (0 < i → x = 0) ∧ (1 < i → y = 0)) (fun ii _ => 2 - (intOf ii).toNat)
  case atStart => exact ⟨0, by omega, rfl, rfl, fun h => by omega, fun h => by omega⟩
  case round =>
    obtain ⟨i, hi, rfl, rfl, hx, hy⟩ := hrel
    rcases (by omega : i = 0 ∨ i = 1 ∨ i = 2) with rfl | rfl | rfl
    · by_cases h0 : x = 0
      · subst h0
        go_wp2
        go_roundw
        case rel => exact ⟨1, by omega, by go_num, trivial, fun _ => trivial, fun h => by omega⟩
        case measure => simp [intOf]
      · go_wp2
        go_ret
        exact ⟨ret_int (by unfold lex; rw [if_neg h0]), rfl⟩
    · obtain rfl := hx (by omega)
      by_cases h0 : y = 0
      · subst h0
        go_wp2
        go_roundw
        case rel => exact ⟨2, by omega, by go_num, trivial, fun _ => trivial, fun _ => trivial⟩
        case measure => simp [intOf]
      · go_wp2
        go_ret
        exact ⟨ret_int (by rfl), rfl⟩
    · obtain rfl := hx (by omega)
      obtain rfl := hy (by omega)
      go_wp2
      go_ret
      exact ⟨ret_int (by rfl), rfl⟩

/-- What two terms have beside their parts, compared. -/
def Tm.keys : Tm → Tm → Int
  | .mk k n s l, .mk k' n' s' l' => lex (cmpI k k') (
      if k = 1 ∨ k = 3 ∨ k = 4 ∨ k = 6 then cmpI n n'
      else if k = 2 then cmpB s s'
      else if k = 5 then lex (cmpI n n') (cmpI l.length l'.length)
      else if k = 7 ∨ k = 9 then cmpI l.length l'.length
      else 0)
/-- The parts that count. -/
def Tm.subs : Tm → List Tm
  | .mk k _ _ l => if k = 5 ∨ k = 7 ∨ k = 9 then l else []
theorem lex_lex (a b c : Int) : lex (lex a b) c = lex a (lex b c) := by unfold lex; (repeat' split) <;> omega
theorem lex_0 (a : Int) : lex a 0 = a := by unfold lex; split <;> omega
theorem subs_yes {k : Int} (h : k = 5 ∨ k = 7 ∨ k = 9) (n : Int) (s : ByteArray) (l : List Tm) : (Tm.mk k n s l).subs = l := if_pos h
theorem subs_no {k : Int} (h : ¬ (k = 5 ∨ k = 7 ∨ k = 9)) (n : Int) (s : ByteArray) (l : List Tm) : (Tm.mk k n s l).subs = [] := if_neg h
theorem keys_mk (k n : Int) (s : ByteArray) (l : List Tm) (k' n' : Int) (s' : ByteArray) (l' : List Tm) : (Tm.mk k n s l).keys (.mk k' n' s' l') = lex (cmpI k k') (
      if k = 1 ∨ k = 3 ∨ k = 4 ∨ k = 6 then cmpI n n'
      else if k = 2 then cmpB s s'
      else if k = 5 then lex (cmpI n n') (cmpI l.length l'.length)
      else if k = 7 ∨ k = 9 then cmpI l.length l'.length
      else 0) := rfl
theorem lex_l0 (b : Int) : lex 0 b = b := if_pos rfl
theorem cmp_keys (T U : Tm) : T.cmp U = lex (T.keys U) (cmpL T.subs U.subs) := by
  obtain ⟨k, n, s, l⟩ := T
  obtain ⟨k', n', s', l'⟩ := U
  rw [cmp_mk, keys_mk, lex_lex]
  by_cases hk : k = k'
  · subst hk
    have e : cmpI k k = 0 := cmpI_zero.2 rfl
    rw [e, lex_l0, lex_l0]
    by_cases h1 : k = 1 ∨ k = 3 ∨ k = 4 ∨ k = 6
    · rw [if_pos h1, if_pos h1, subs_no (by omega), cmpL_nil, lex_0]
    rw [if_neg h1, if_neg h1]
    by_cases h2 : k = 2
    · rw [if_pos h2, if_pos h2, subs_no (by omega), cmpL_nil, lex_0]
    rw [if_neg h2, if_neg h2]
    by_cases h5 : k = 5
    · rw [if_pos h5, if_pos h5, subs_yes (by omega), subs_yes (by omega), lex_lex]
    rw [if_neg h5, if_neg h5]
    by_cases h7 : k = 7 ∨ k = 9
    · rw [if_pos h7, if_pos h7, subs_yes (by omega), subs_yes (by omega)]
    · rw [if_neg h7, if_neg h7, subs_no (by omega), cmpL_nil, lex_0]
  · have e : cmpI k k' ≠ 0 := fun h => hk (cmpI_zero.1 h)
    unfold lex
    rw [if_neg e, if_neg e]
theorem keys_zero {T U : Tm} (h : T.keys U = 0) : T.subs.length = U.subs.length := by
  obtain ⟨k, n, s, l⟩ := T
  obtain ⟨k', n', s', l'⟩ := U
  rw [keys_mk, lex_zero] at h
  obtain rfl := cmpI_zero.1 h.1
  have h := h.2
  by_cases h5 : k = 5
  · rw [subs_yes (by omega), subs_yes (by omega)]
    rw [if_neg (by omega), if_neg (by omega), if_pos h5, lex_zero] at h
    have := cmpI_zero.1 h.2
    omega
  by_cases h7 : k = 7 ∨ k = 9
  · rw [subs_yes (by omega), subs_yes (by omega)]
    rw [if_neg (by omega), if_neg (by omega), if_neg h5, if_pos h7] at h
    have := cmpI_zero.1 h
    omega
  · rw [subs_no (by omega), subs_no (by omega)]
theorem keys_one (T U : Tm) : One (T.keys U) := by
  obtain ⟨k, n, s, l⟩ := T
  obtain ⟨k', n', s', l'⟩ := U
  rw [keys_mk]
  refine lex_one (cmpI_one _ _) ?_
  split
  · exact cmpI_one _ _
  split
  · exact cmpB_one _ _
  split
  · exact lex_one (cmpI_one _ _) (cmpI_one _ _)
  split
  · exact cmpI_one _ _
  · exact Or.inr (Or.inl rfl)

/-- The slice of the parts that count. -/
def subsV (k : Int) (a : Option Addr) (m cap : Nat) : Value := if k = 5 ∨ k = 7 ∨ k = 9 then .slice a m cap else .slice none 0 0
theorem parts'_any (k n : Int) (s : ByteArray) (a : Option Addr) (m cap : Nat) (w : World) :
    Calls Tryd.prog 84 #[.agg #[.int .i64 k, .int .i64 n, .string s, .slice a m cap]] w fun e w' => e = .returned (subsV k a m cap) ∧ Below w.heap.size w w' := by
  have hV := Hid.mk (show subsV k a m cap = if k = 5 ∨ k = 7 ∨ k = 9 then .slice a m cap else .slice none 0 0 from rfl)
  generalize subsV k a m cap = V at hV
  by_cases h5 : k = 5
  · subst h5
    go_enter Tryd.func84, Tryd.ntmps84
    go_wp2
    go_ret
    exact ⟨by simp [hV.out], (Below.refl _ _).alloc (Nat.le_refl _) _⟩
  by_cases h7 : k = 7
  · subst h7
    go_enter Tryd.func84, Tryd.ntmps84
    go_wp2
    go_ret
    exact ⟨by simp [hV.out], (Below.refl _ _).alloc (Nat.le_refl _) _⟩
  by_cases h9 : k = 9
  · subst h9
    go_enter Tryd.func84, Tryd.ntmps84
    go_wp2
    go_ret
    exact ⟨by simp [hV.out], (Below.refl _ _).alloc (Nat.le_refl _) _⟩
  · have e5 : (k == 5) = false := by simpa using h5
    have e7 : (k == 7) = false := by simpa using h7
    have e9 : (k == 9) = false := by simpa using h9
    go_enter Tryd.func84, Tryd.ntmps84
    go_wp2
    go_ret
    exact ⟨by simp [hV.out, h5, h7, h9], (Below.refl _ _).alloc (Nat.le_refl _) _⟩

end Go.Proofs.YteklhipcojioaaaDoor

/-
  Package order's fields.
-/
namespace Go.Proofs.YteklhipcojioaaaDoor
open Go.RowKit Go.Deep

set_option maxHeartbeats 2000000 in
theorem fields_fun (n : Int) (s : ByteArray) (a : Option Addr) (l : List Tm) (cap : Nat) (n' : Int) (s' : ByteArray) (a' : Option Addr) (l' : List Tm) (cap' : Nat) (w : World) :
    Calls Tryd.prog 83 #[.agg #[.int .i64 5, .int .i64 n, .string s, .slice a l.length cap], .agg #[.int .i64 5, .int .i64 n', .string s', .slice a' l'.length cap']] w fun e w' => e = .returned (.int .i64 (lex (cmpI n n') (cmpI l.length l'.length))) ∧ Below w.heap.size w w' := by
  have hbel := ((Below.refl w.heap.size w).alloc (Nat.le_refl _) (.cells #[.int .i64 5, .int .i64 n, .string s, .slice a l.length cap] 32)).alloc (Nat.le_trans (Nat.le_succ _) (by simp)) (.cells #[.int .i64 5, .int .i64 n', .string s', .slice a' l'.length cap'] 32)
  obtain ⟨W0, hW0⟩ : ∃ W0, (w.alloc (.cells #[.int .i64 5, .int .i64 n, .string s, .slice a l.length cap] 32)).alloc (.cells #[.int .i64 5, .int .i64 n', .string s', .slice a' l'.length cap'] 32) = W0 := ⟨_, rfl⟩
  have b0 : W0.heap[w.heap.size]? = some (.cells #[.int .i64 5, .int .i64 n, .string s, .slice a l.length cap] 32) := by rw [← hW0]; exact new_block1 _ _ _
  have b1 : W0.heap[w.heap.size + 1]? = some (.cells #[.int .i64 5, .int .i64 n', .string s', .slice a' l'.length cap'] 32) := by rw [← hW0]; exact new_block2 _ _ _
  rw [hW0] at hbel
  obtain ⟨q0, q1, q2, q3⟩ := (Up.refl W0).four b0
  obtain ⟨r0, r1, r2, r3⟩ := (Up.refl W0).four b1
  go_enter Tryd.func83, Tryd.ntmps83
  go_upto_region 12 with fail
  refine wp_region_held (S := Up W0) (by kernel_rfl) ?_
  refine chain_take (i := 0) (d := 36) (v := .pointer (some ⟨w.heap.size, 1, none⟩)) rfl rfl (by kernel_rfl) (by kernel_rfl) (by kernel_rfl) rfl (fun _ _ => (by go_simp)) (fun _ _ _ h => h) (Up.refl W0).drew ?_
  simp only [Act.put, List.setIfInBounds_toArray, List.set_cons_zero, List.set_cons_succ]
  refine chain_take (i := 1) (d := 37) (v := .int .i64 n) rfl rfl (by kernel_rfl) (by kernel_rfl) (by kernel_rfl) rfl (fun W h => (by obtain ⟨q0, q1, q2, q3⟩ := h.four b0; go_simp)) (fun _ _ _ h => h) (Up.refl W0).drew ?_
  simp only [Act.put, List.setIfInBounds_toArray, List.set_cons_zero, List.set_cons_succ]
  refine chain_take (i := 2) (d := 38) (v := .pointer (some ⟨w.heap.size + 1, 1, none⟩)) rfl rfl (by kernel_rfl) (by kernel_rfl) (by kernel_rfl) rfl (fun _ _ => (by go_simp)) (fun _ _ _ h => h) (Up.refl W0).drew ?_
  simp only [Act.put, List.setIfInBounds_toArray, List.set_cons_zero, List.set_cons_succ]
  refine chain_take (i := 3) (d := 39) (v := .int .i64 n') rfl rfl (by kernel_rfl) (by kernel_rfl) (by kernel_rfl) rfl (fun W h => (by obtain ⟨q0, q1, q2, q3⟩ := h.four b1; go_simp)) (fun _ _ _ h => h) (Up.refl W0).drew ?_
  simp only [Act.put, List.setIfInBounds_toArray, List.set_cons_zero, List.set_cons_succ]
  refine chain_take (i := 5) (d := 41) (v := .pointer (some ⟨w.heap.size, 3, none⟩)) rfl rfl (by kernel_rfl) (by kernel_rfl) (by kernel_rfl) rfl (fun _ _ => (by go_simp)) (fun _ _ _ h => h) (Up.refl W0).drew ?_
  simp only [Act.put, List.setIfInBounds_toArray, List.set_cons_zero, List.set_cons_succ]
  refine chain_take (i := 6) (d := 42) (v := .slice a l.length cap) rfl rfl (by kernel_rfl) (by kernel_rfl) (by kernel_rfl) rfl (fun W h => (by obtain ⟨q0, q1, q2, q3⟩ := h.four b0; go_simp)) (fun _ _ _ h => h) (Up.refl W0).drew ?_
  simp only [Act.put, List.setIfInBounds_toArray, List.set_cons_zero, List.set_cons_succ]
  refine chain_take (i := 7) (d := 43) (v := .int .i64 l.length) rfl rfl (by kernel_rfl) (by kernel_rfl) (by kernel_rfl) rfl (fun _ _ => (by go_simp)) (fun _ _ _ h => h) (Up.refl W0).drew ?_
  simp only [Act.put, List.setIfInBounds_toArray, List.set_cons_zero, List.set_cons_succ]
  refine chain_take (i := 8) (d := 44) (v := .pointer (some ⟨w.heap.size + 1, 3, none⟩)) rfl rfl (by kernel_rfl) (by kernel_rfl) (by kernel_rfl) rfl (fun _ _ => (by go_simp)) (fun _ _ _ h => h) (Up.refl W0).drew ?_
  simp only [Act.put, List.setIfInBounds_toArray, List.set_cons_zero, List.set_cons_succ]
  refine chain_take (i := 9) (d := 45) (v := .slice a' l'.length cap') rfl rfl (by kernel_rfl) (by kernel_rfl) (by kernel_rfl) rfl (fun W h => (by obtain ⟨q0, q1, q2, q3⟩ := h.four b1; go_simp)) (fun _ _ _ h => h) (Up.refl W0).drew ?_
  simp only [Act.put, List.setIfInBounds_toArray, List.set_cons_zero, List.set_cons_succ]
  refine chain_take (i := 10) (d := 46) (v := .int .i64 l'.length) rfl rfl (by kernel_rfl) (by kernel_rfl) (by kernel_rfl) rfl (fun _ _ => (by go_simp)) (fun _ _ _ h => h) (Up.refl W0).drew ?_
  simp only [Act.put, List.setIfInBounds_toArray, List.set_cons_zero, List.set_cons_succ]
  refine chain_call (i := 4) (d := 40) (f := 94) (args := #[.int .i64 n, .int .i64 n']) (by kernel_rfl) rfl rfl rfl (by go_simp) ?_
  refine (cmpI_any n n' _).mono ?_
  rintro e w1 ⟨rfl, rfl⟩
  refine ⟨.int .i64 (cmpI n n'), rfl, (Up.refl W0).drew, ?_⟩
  simp only [Act.put, List.setIfInBounds_toArray, List.set_cons_zero, List.set_cons_succ]
  refine chain_call (i := 11) (d := 47) (f := 94) (args := #[.int .i64 l.length, .int .i64 l'.length]) (by kernel_rfl) rfl rfl rfl (by go_simp) ?_
  refine (cmpI_any l.length l'.length _).mono ?_
  rintro e w1 ⟨rfl, rfl⟩
  refine ⟨.int .i64 (cmpI l.length l'.length), rfl, (Up.refl W0).drew, ?_⟩
  simp only [Act.put, List.setIfInBounds_toArray, List.set_cons_zero, List.set_cons_succ]
  refine chain_value (i := 12) (d := 48) (v := .slice (some ⟨W0.drew.heap.size, 0, none⟩) 2 2) (w' := W0.drew.alloc (.cells #[.int .i64 (cmpI n n'), .int .i64 (cmpI l.length l'.length)] 3)) (by kernel_rfl) rfl rfl rfl (by go_simp) (Up.refl W0).drew.alloc ?_
  simp only [Act.put, List.setIfInBounds_toArray, List.set_cons_zero, List.set_cons_succ]
  refine chain_call (i := 13) (d := 49) (f := 96) (args := #[.slice (some ⟨W0.drew.heap.size, 0, none⟩) 2 2]) (by kernel_rfl) rfl rfl rfl (by go_simp) ?_
  refine (or_any _ _ _ _ (new_block _ _)).mono ?_
  rintro e w1 ⟨rfl, rfl⟩
  refine ⟨.int .i64 (lex (cmpI n n') (cmpI l.length l'.length)), rfl, (Up.refl W0).drew.alloc, ?_⟩
  simp only [Act.put, List.setIfInBounds_toArray, List.set_cons_zero, List.set_cons_succ]
  refine chain_value (i := 14) (d := 4) (v := .int .i64 (lex (cmpI n n') (cmpI l.length l'.length))) (w' := W0.drew.alloc (.cells #[.int .i64 (cmpI n n'), .int .i64 (cmpI l.length l'.length)] 3)) (by kernel_rfl) rfl rfl rfl (by go_simp) (Up.refl W0).drew.alloc ?_
  simp only [Act.put, List.setIfInBounds_toArray, List.set_cons_zero, List.set_cons_succ]
  refine wpAnyH_done (by kernel_rfl) ?_ _
  go_wp2
  go_ret
  exact ⟨rfl, ((hbel.drew).alloc hbel.size _)⟩

set_option maxHeartbeats 1000000 in
theorem fields_any (k n : Int) (s : ByteArray) (a : Option Addr) (l : List Tm) (cap : Nat) (k' n' : Int) (s' : ByteArray) (a' : Option Addr) (l' : List Tm) (cap' : Nat) (w : World) (_ : l.length ≤ 9223372036854775807) (_ : l'.length ≤ 9223372036854775807) :
    Calls Tryd.prog 83 #[.agg #[.int .i64 k, .int .i64 n, .string s, .slice a l.length cap], .agg #[.int .i64 k', .int .i64 n', .string s', .slice a' l'.length cap']] w fun e w' => e = .returned (.int .i64 ((Tm.mk k n s l).keys (.mk k' n' s' l'))) ∧ Below w.heap.size w w' := by
  have hK := Hid.mk (keys_mk k n s l k' n' s' l')
  generalize hKe : (Tm.mk k n s l).keys (.mk k' n' s' l') = K at hK
  have hbel := ((Below.refl w.heap.size w).alloc (Nat.le_refl _) (.cells #[.int .i64 k, .int .i64 n, .string s, .slice a l.length cap] 32)).alloc (Nat.le_trans (Nat.le_succ _) (by simp)) (.cells #[.int .i64 k', .int .i64 n', .string s', .slice a' l'.length cap'] 32)
  by_cases hk : k = k'
  rotate_left
  · have hkb : (k == k') = false := by simpa using hk
    have hkc : cmpI k k' ≠ 0 := fun h => hk (cmpI_zero.1 h)
    go_enter Tryd.func83, Tryd.ntmps83
    go_wp2_with (first
      | (go_at_call 94; refine (cmpI_any _ _ _).mono ?_; rintro e w' ⟨rfl, rfl⟩)
      | (go_at_call 95; refine (cmpS_any _ _ _).mono ?_; rintro e w' ⟨rfl, rfl⟩))
    go_ret
    exact ⟨ret_int (by rw [hK.out]; unfold lex; rw [if_neg hkc]), hbel⟩
  subst hk
  have hkc : cmpI k k = 0 := cmpI_zero.2 rfl
  by_cases h1 : k = 1
  · subst h1
    go_enter Tryd.func83, Tryd.ntmps83
    go_wp2_with (first
      | (go_at_call 94; refine (cmpI_any _ _ _).mono ?_; rintro e w' ⟨rfl, rfl⟩)
      | (go_at_call 95; refine (cmpS_any _ _ _).mono ?_; rintro e w' ⟨rfl, rfl⟩))
    go_ret
    exact ⟨ret_int (by rw [hK.out]; simp [hkc, lex_l0]), hbel⟩
  by_cases h3 : k = 3
  · subst h3
    go_enter Tryd.func83, Tryd.ntmps83
    go_wp2_with (first
      | (go_at_call 94; refine (cmpI_any _ _ _).mono ?_; rintro e w' ⟨rfl, rfl⟩)
      | (go_at_call 95; refine (cmpS_any _ _ _).mono ?_; rintro e w' ⟨rfl, rfl⟩))
    go_ret
    exact ⟨ret_int (by rw [hK.out]; simp [hkc, lex_l0]), hbel⟩
  by_cases h4 : k = 4
  · subst h4
    go_enter Tryd.func83, Tryd.ntmps83
    go_wp2_with (first
      | (go_at_call 94; refine (cmpI_any _ _ _).mono ?_; rintro e w' ⟨rfl, rfl⟩)
      | (go_at_call 95; refine (cmpS_any _ _ _).mono ?_; rintro e w' ⟨rfl, rfl⟩))
    go_ret
    exact ⟨ret_int (by rw [hK.out]; simp [hkc, lex_l0]), hbel⟩
  by_cases h6 : k = 6
  · subst h6
    go_enter Tryd.func83, Tryd.ntmps83
    go_wp2_with (first
      | (go_at_call 94; refine (cmpI_any _ _ _).mono ?_; rintro e w' ⟨rfl, rfl⟩)
      | (go_at_call 95; refine (cmpS_any _ _ _).mono ?_; rintro e w' ⟨rfl, rfl⟩))
    go_ret
    exact ⟨ret_int (by rw [hK.out]; simp [hkc, lex_l0]), hbel⟩
  by_cases h2 : k = 2
  · subst h2
    go_enter Tryd.func83, Tryd.ntmps83
    go_wp2_with (first
      | (go_at_call 94; refine (cmpI_any _ _ _).mono ?_; rintro e w' ⟨rfl, rfl⟩)
      | (go_at_call 95; refine (cmpS_any _ _ _).mono ?_; rintro e w' ⟨rfl, rfl⟩))
    go_ret
    exact ⟨ret_int (by rw [hK.out]; simp [hkc, lex_l0]), hbel⟩
  by_cases h7 : k = 7
  · subst h7
    go_enter Tryd.func83, Tryd.ntmps83
    go_wp2_with (first
      | (go_at_call 94; refine (cmpI_any _ _ _).mono ?_; rintro e w' ⟨rfl, rfl⟩)
      | (go_at_call 95; refine (cmpS_any _ _ _).mono ?_; rintro e w' ⟨rfl, rfl⟩))
    go_ret
    exact ⟨ret_int (by rw [hK.out]; simp [hkc, lex_l0]), hbel⟩
  by_cases h9 : k = 9
  · subst h9
    go_enter Tryd.func83, Tryd.ntmps83
    go_wp2_with (first
      | (go_at_call 94; refine (cmpI_any _ _ _).mono ?_; rintro e w' ⟨rfl, rfl⟩)
      | (go_at_call 95; refine (cmpS_any _ _ _).mono ?_; rintro e w' ⟨rfl, rfl⟩))
    go_ret
    exact ⟨ret_int (by rw [hK.out]; simp [hkc, lex_l0]), hbel⟩
  by_cases h5 : k = 5
  · subst h5
    rw [keys_mk] at hKe
    rw [← hKe]
    exact fields_fun n s a l cap n' s' a' l' cap' w
  · have e1 : (k == 1) = false := by simpa using h1
    have e2 : (k == 2) = false := by simpa using h2
    have e3 : (k == 3) = false := by simpa using h3
    have e4 : (k == 4) = false := by simpa using h4
    have e5 : (k == 5) = false := by simpa using h5
    have e6 : (k == 6) = false := by simpa using h6
    have e7 : (k == 7) = false := by simpa using h7
    have e9 : (k == 9) = false := by simpa using h9
    go_enter Tryd.func83, Tryd.ntmps83
    go_wp2_with (first
      | (go_at_call 94; refine (cmpI_any _ _ _).mono ?_; rintro e w' ⟨rfl, rfl⟩)
      | (go_at_call 95; refine (cmpS_any _ _ _).mono ?_; rintro e w' ⟨rfl, rfl⟩))
    go_ret
    exact ⟨ret_int (by rw [hK.out]; simp [hkc, lex_l0, h1, h2, h3, h4, h5, h6, h7, h9]), hbel⟩

end Go.Proofs.YteklhipcojioaaaDoor

/-
  Package order's Compare.
-/
namespace Go.Proofs.YteklhipcojioaaaDoor
open Go.RowKit Go.Deep

theorem subs_lst {w : World} {S : Nat → Prop} {k n : Int} {s : ByteArray} {l : List Tm} {a : Option Addr} {cap : Nat} (hl : Lst w S l a cap) :
    ∃ a' cap', subsV k a l.length cap = .slice a' (Tm.mk k n s l).subs.length cap' ∧ Lst w S (Tm.mk k n s l).subs a' cap' := by
  by_cases h : k = 5 ∨ k = 7 ∨ k = 9
  · rw [subs_yes h]
    exact ⟨a, cap, if_pos h, hl⟩
  · rw [subs_no h]
    exact ⟨none, 0, if_neg h, lst_nil _ _⟩
theorem subs_size (T : Tm) : sizes T.subs < T.size := by
  obtain ⟨k, n, s, l⟩ := T
  rw [Tm.size_mk]
  by_cases h : k = 5 ∨ k = 7 ∨ k = 9
  · rw [subs_yes h]; omega
  · rw [subs_no h]; simp only [sizes]; omega

theorem cmp_at {T U : Tm} (h : T.keys U = 0) {i : Nat} (hi : i < T.subs.length) (hi' : i < U.subs.length) (h0 : cmpL (T.subs.take i) (U.subs.take i) = 0) (h1 : T.subs[i].cmp U.subs[i] ≠ 0 ∨ i + 1 = T.subs.length) :
    T.cmp U = T.subs[i].cmp U.subs[i] := by
  have hl := keys_zero h
  rw [cmp_keys, h, lex_l0]
  have h2 := cmpL_take T.subs U.subs i hi hi'
  rw [h0, lex_l0] at h2
  rcases h1 with h1 | h1
  · rw [cmpL_found T.subs U.subs (i + 1) (by rw [h2]; exact h1), h2]
  · rw [← h2, List.take_of_length_le (by omega), List.take_of_length_le (by omega)]
theorem cmp_on {T U : Tm} {i : Nat} (hi : i < T.subs.length) (hi' : i < U.subs.length) (h0 : cmpL (T.subs.take i) (U.subs.take i) = 0) (h1 : T.subs[i].cmp U.subs[i] = 0) :
    cmpL (T.subs.take (i + 1)) (U.subs.take (i + 1)) = 0 := by
  rw [cmpL_take _ _ _ hi hi', h0, h1]; rfl

set_option maxHeartbeats 4000000 in
theorem compare_of (N : Nat) (ih0 : ∀ T : Tm, T.size < N → ∀ (U : Tm) (S S' : Nat → Prop) (v u : Value) (w : World), Lies w S T v → Lies w S' U u →
      Calls Tryd.prog 70 #[v, u] w fun e w' => e = .returned (.int .i64 (T.cmp U)) ∧ Below w.heap.size w w')
    (T : Tm) (hT : T.size ≤ N) (U : Tm) (S S' : Nat → Prop) (v u : Value) (w : World) (hv : Lies w S T v) (hu : Lies w S' U u) :
    Calls Tryd.prog 70 #[v, u] w fun e w' => e = .returned (.int .i64 (T.cmp U)) ∧ Below w.heap.size w w' := by
  have ih := Hid.mk ih0
  clear ih0
  obtain ⟨k0, n0, s0, a0, m0, p0, rfl⟩ := hv.agg
  obtain ⟨k1, n1, s1, a1, m1, p1, rfl⟩ := hu.agg
  obtain ⟨W0, hW0⟩ : ∃ W0, (w.alloc (.cells #[.int .i64 k0, .int .i64 n0, .string s0, .slice a0 m0 p0] 32)).alloc (.cells #[.int .i64 k1, .int .i64 n1, .string s1, .slice a1 m1 p1] 32) = W0 := ⟨_, rfl⟩
  have b0 : W0.heap[w.heap.size]? = some (.cells #[.int .i64 k0, .int .i64 n0, .string s0, .slice a0 m0 p0] 32) := by rw [← hW0]; exact new_block1 _ _ _
  have b1 : W0.heap[w.heap.size + 1]? = some (.cells #[.int .i64 k1, .int .i64 n1, .string s1, .slice a1 m1 p1] 32) := by rw [← hW0]; exact new_block2 _ _ _
  have hu0 : Below w.heap.size w W0 := by rw [← hW0]; exact ((Up.refl w).alloc.alloc).out
  go_enter Tryd.func70, Tryd.ntmps70
  go_wp2
  apply wp_scope_straight
  go_wp2
  apply wp_label
  go_upto_region 2 with fail
  clear hW0
  go_loopg [5] T.size (fun kx cc wr => ∃ (X Y : Tm) (k n : Int) (s : ByteArray) (a : Option Addr) (m cap : Nat) (k' n' : Int) (s' : ByteArray) (a' : Option Addr) (m' cap' : Nat) (c : Int), cc = .int .i64 c ∧
    Hid (X.size ≤ kx) ∧ Hid (kx ≤ T.size) ∧ Hid (X.cmp Y = T.cmp U) ∧ Hid (Lies w S X (.agg #[.int .i64 k, .int .i64 n, .string s, .slice a m cap])) ∧ Hid (Lies w S' Y (.agg #[.int .i64 k', .int .i64 n', .string s', .slice a' m' cap'])) ∧
    Hid (wr.heap[w.heap.size]? = some (.cells #[.int .i64 k, .int .i64 n, .string s, .slice a m cap] 32)) ∧ Hid (wr.heap[w.heap.size + 1]? = some (.cells #[.int .i64 k', .int .i64 n', .string s', .slice a' m' cap'] 32)) ∧ Hid (Below w.heap.size w wr))
  case atStart => exact ⟨T, U, k0, n0, s0, a0, m0, p0, k1, n1, s1, a1, m1, p1, 0, rfl, Hid.mk (Nat.le_refl _), Hid.mk (Nat.le_refl _), Hid.mk rfl, Hid.mk hv, Hid.mk hu, Hid.mk b0, Hid.mk b1, Hid.mk hu0⟩
  case round =>
    clear hv hu b0 b1 hu0
    obtain ⟨X, Y, k, n, s, a, m, cap, k', n', s', a', m', cap', c, rfl, hsz, hszT, hcmp, hX, hY, hB0, hB1, hbel⟩ := hrel
    obtain ⟨⟨qa0, qa1, qa2, qa3⟩, qf0, qf1, qf2, qf3⟩ := kept4 hB0.out (Below.refl _ _)
    obtain ⟨⟨qb0, qb1, qb2, qb3⟩, qg0, qg1, qg2, qg3⟩ := kept4 hB1.out (Below.refl _ _)
    obtain ⟨XK, XN, XS, XL⟩ := X
    obtain ⟨YK, YN, YS, YL⟩ := Y
    obtain ⟨xa, xc, hxe, hxs, hxl⟩ := hX.out.out
    obtain ⟨ya, yc, hye, hys, hyl⟩ := hY.out.out
    simp only [Value.agg.injEq, Array.mk.injEq, List.cons.injEq, Value.int.injEq, Value.string.injEq, Value.slice.injEq, true_and, and_true] at hxe hye
    obtain ⟨rfl, rfl, rfl, rfl, rfl, rfl⟩ := hxe
    obtain ⟨rfl, rfl, rfl, rfl, rfl, rfl⟩ := hye
    have hfl := Hid.mk (fun W => fields_any k n s a XL cap k' n' s' a' YL cap' W (Nat.le_trans hxl.1 hxl.2.1) (Nat.le_trans hyl.1 hyl.2.1))
    obtain ⟨la, lc, hlv, hL⟩ := subs_lst (k := k) (n := n) (s := s) hxl
    obtain ⟨ma, mc, hmv, hM⟩ := subs_lst (k := k') (n := n') (s := s') hyl
    have hpx := Hid.mk (fun W => parts'_any k n s a XL.length cap W)
    have hpy := Hid.mk (fun W => parts'_any k' n' s' a' YL.length cap' W)
    rw [hlv] at hpx
    rw [hmv] at hpy
    have hsub := subs_size (.mk k n s XL)
    obtain ⟨X, hXe⟩ : ∃ X, Tm.mk k n s XL = X := ⟨_, rfl⟩
    obtain ⟨Y, hYe⟩ : ∃ Y, Tm.mk k' n' s' YL = Y := ⟨_, rfl⟩
    rw [hXe] at hsz hcmp hX hfl hL hpx hsub
    rw [hYe] at hcmp hY hfl hM hpy
    have hsub := Hid.mk hsub
    have hck := Hid.mk (cmp_keys X Y)
    have hL := Hid.mk hL
    have hM := Hid.mk hM
    have hkz := Hid.mk (fun h => keys_zero (T := X) (U := Y) h)
    have hat := Hid.mk (fun h i hi hi' h0 h1 => cmp_at (T := X) (U := Y) h (i := i) hi hi' h0 h1)
    have hon := Hid.mk (fun i hi hi' h0 h1 => cmp_on (T := X) (U := Y) (i := i) hi hi' h0 h1)
    have hLl : X.subs.length ≤ 9223372036854775807 := Nat.le_trans hL.out.1 hL.out.2.1
    clear hxs hys hlv hmv hXe hYe hxl hyl
    generalize hKe : X.keys Y = K at hfl hck hkz hat
    clear hKe
    go_wp2_with (go_at_call 83; refine (hfl.out _).mono ?_; rintro e w2 ⟨rfl, hb2⟩)
    have hB0' := (hb2.block _ (Array.getElem?_eq_some_iff.1 hB0.out).1).trans hB0.out
    have hB1' := (hb2.block _ (Array.getElem?_eq_some_iff.1 hB1.out).1).trans hB1.out
    refine region_up (W := w2) (by kernel_rfl) (by kernel_rfl) (Up.refl _) ?_
    refine quiet_value (v := .agg #[.int .i64 k, .int .i64 n, .string s, .slice a XL.length cap]) rfl (fun W h => (by obtain ⟨q0, q1, q2, q3⟩ := h.four hB0'; go_simp)) ?_
    simp only [Act.put, List.setIfInBounds_toArray, List.set_cons_zero, List.set_cons_succ]
    refine quiet_call (v := .slice la X.subs.length lc) rfl (fun W => (by go_simp)) (fun W h => (hpx.out W).mono fun e w' ⟨he, hb⟩ => ⟨he, h.call hb⟩) ?_
    simp only [Act.put, List.setIfInBounds_toArray, List.set_cons_zero, List.set_cons_succ]
    refine quiet_value (v := .agg #[.int .i64 k', .int .i64 n', .string s', .slice a' YL.length cap']) rfl (fun W h => (by obtain ⟨q0, q1, q2, q3⟩ := h.four hB1'; go_simp)) ?_
    simp only [Act.put, List.setIfInBounds_toArray, List.set_cons_zero, List.set_cons_succ]
    refine quiet_call (v := .slice ma Y.subs.length mc) rfl (fun W => (by go_simp)) (fun W h => (hpy.out W).mono fun e w' ⟨he, hb⟩ => ⟨he, h.call hb⟩) ?_
    simp only [Act.put, List.setIfInBounds_toArray, List.set_cons_zero, List.set_cons_succ]
    refine quiet_value (v := .slice la X.subs.length lc) rfl (fun _ _ => rfl) ?_
    simp only [Act.put, List.setIfInBounds_toArray, List.set_cons_zero, List.set_cons_succ]
    refine quiet_value (v := .slice ma Y.subs.length mc) rfl (fun _ _ => rfl) ?_
    simp only [Act.put, List.setIfInBounds_toArray, List.set_cons_zero, List.set_cons_succ]
    refine quiet_nil ?_
    intro w3 hw3
    have hbel3 := Hid.mk ((hbel.out.trans (hb2.mono hbel.out.size)).trans (hw3.out.mono (Nat.le_trans hbel.out.size hb2.size)))
    have hB0 := Hid.mk ((hw3.out.block _ (Array.getElem?_eq_some_iff.1 hB0').1).trans hB0')
    have hB1 := Hid.mk ((hw3.out.block _ (Array.getElem?_eq_some_iff.1 hB1').1).trans hB1')
    clear hB0' hB1' qa0 qa1 qa2 qa3 qb0 qb1 qb2 qb3 qf0 qf1 qf2 qf3 qg0 qg1 qg2 qg3 hpx hpy hfl
    by_cases hK : K = 0
    rotate_left
    · have hKb : (K != 0) = true := by simpa using hK
      go_wp2
      try rw [Exit.noGoto_ret]
      go_ret
      exact ⟨ret_int (by rw [← hcmp.out, hck.out]; unfold lex; rw [if_neg hK]), hbel3.out⟩
    subst hK
    by_cases hz : X.subs.length = 0
    · have hzb : ((X.subs.length : Int) == 0) = true := by simp [hz]
      go_wp2
      try rw [Exit.noGoto_ret]
      go_ret
      exact ⟨ret_int (by rw [← hcmp.out, hck.out, List.eq_nil_of_length_eq_zero hz, cmpL_nil]; rfl), hbel3.out⟩
    have hzb : ((X.subs.length : Int) == 0) = false := by simpa using hz
    have hML : Y.subs.length = X.subs.length := (hkz.out rfl).symm
    rw [hML]
    obtain ⟨b, o, rfl, _, hrx⟩ := hL.out.some (by omega)
    obtain ⟨b', o', rfl, _, hry⟩ := hM.out.some (by omega)
    have hrx := Hid.mk hrx
    have hry := Hid.mk hry
    go_upto_region 7 with fail
    go_loopw [5, 28] (fun cc ii wr => ∃ i : Nat, i < X.subs.length ∧ ii = .int .i64 i ∧ cc = .int .i64 0 ∧ Hid (cmpL (X.subs.take i) (Y.subs.take i) = 0) ∧ Up w3 wr) (fun _ ii _ => X.subs.length - (intOf ii).toNat)
    case atStart => exact ⟨0, by omega, rfl, rfl, Hid.mk (by rw [List.take_zero, cmpL_nil]), Up.refl _⟩
    case round =>
      obtain ⟨i, hi, rfl, rfl, h0, hur⟩ := hrel
      have hi' : i < Y.subs.length := by omega
      have hbr := hbel3.out.trans (hur.out.mono hbel3.out.size)
      have hB0r := (hur.out.block _ (Array.getElem?_eq_some_iff.1 hB0.out).1).trans hB0.out
      have hB1r := (hur.out.block _ (Array.getElem?_eq_some_iff.1 hB1.out).1).trans hB1.out
      obtain ⟨k2, n2, s2, m2, a2, c2, hT1, x0, x1, x2, x3, hli⟩ := hrx.out.part i hi
      obtain ⟨k3, n3, s3, m3, a3, c3, hT2, y0, y1, y2, y3, hlj⟩ := hry.out.part i hi'
      have e0 := cell_below hbr _ _ _ x0
      have e1 := cell_below hbr _ _ _ x1
      have e2 := cell_below hbr _ _ _ x2
      have e3 := cell_below hbr _ _ _ x3
      have f0 := cell_below hbr _ _ _ y0
      have f1 := cell_below hbr _ _ _ y1
      have f2 := cell_below hbr _ _ _ y2
      have f3 := cell_below hbr _ _ _ y3
      have hsi := sizes_at X.subs i hi
      have hli := Hid.mk hli
      have hlj := Hid.mk hlj
      have hxsz : Hid (X.subs[i].size < X.size) := Hid.mk (by have := hsub.out; omega)
      have hcall := Hid.mk (fun (W : World) (hW : Up wr W) => ih.out X.subs[i] (by have h1 := hxsz.out; have h2 := hsz.out; have h3 := hszT.out; omega) Y.subs[i] _ _ _ _ W (hli.out.below (hbr.trans (hW.out.mono hbr.size))) (hlj.out.below (hbr.trans (hW.out.mono hbr.size))))
      have hat1 := Hid.mk (fun h1 => hat.out (by trivial) i hi hi' h0.out h1)
      have hon1 := Hid.mk (fun h1 => hon.out i hi hi' h0.out h1)
      have hone := cmp_one X.subs[i] Y.subs[i]
      unfold One at hone
      generalize hxe : X.subs[i].cmp Y.subs[i] = x at hcall hat1 hon1 hone
      have hxe := Hid.mk hxe
      clear hT1 hT2 hsi
      by_cases hlast : i + 1 < X.subs.length
      · have hd0 : decide ((i : Int) < (X.subs.length : Int) - 1) = true := decide_eq_true (by omega)
        go_upto_region 9 with fail
        refine region_up (W := wr) (by kernel_rfl) (by kernel_rfl) (Up.refl _) ?_
        refine quiet_value (v := .slice (some ⟨b, o, none⟩) X.subs.length lc) rfl (fun _ _ => rfl) ?_
        simp only [Act.put, List.setIfInBounds_toArray, List.set_cons_zero, List.set_cons_succ]
        refine quiet_value (v := .int .i64 i) rfl (fun _ _ => rfl) ?_
        simp only [Act.put, List.setIfInBounds_toArray, List.set_cons_zero, List.set_cons_succ]
        refine quiet_value (v := .pointer (some ⟨b, o + i * 4, none⟩)) rfl (fun _ _ => (by go_simp)) ?_
        simp only [Act.put, List.setIfInBounds_toArray, List.set_cons_zero, List.set_cons_succ]
        refine quiet_value (v := .agg #[.int .i64 k2, .int .i64 n2, .string s2, .slice a2 m2.length c2]) rfl (fun W h => (by have u0 := cell_below h.out _ _ _ e0; have u1 := cell_below h.out _ _ _ e1; have u2 := cell_below h.out _ _ _ e2; have u3 := cell_below h.out _ _ _ e3; go_simp)) ?_
        simp only [Act.put, List.setIfInBounds_toArray, List.set_cons_zero, List.set_cons_succ]
        refine quiet_value (v := .slice (some ⟨b', o', none⟩) X.subs.length mc) rfl (fun _ _ => rfl) ?_
        simp only [Act.put, List.setIfInBounds_toArray, List.set_cons_zero, List.set_cons_succ]
        refine quiet_value (v := .int .i64 i) rfl (fun _ _ => rfl) ?_
        simp only [Act.put, List.setIfInBounds_toArray, List.set_cons_zero, List.set_cons_succ]
        refine quiet_value (v := .pointer (some ⟨b', o' + i * 4, none⟩)) rfl (fun _ _ => (by go_simp)) ?_
        simp only [Act.put, List.setIfInBounds_toArray, List.set_cons_zero, List.set_cons_succ]
        refine quiet_value (v := .agg #[.int .i64 k3, .int .i64 n3, .string s3, .slice a3 m3.length c3]) rfl (fun W h => (by have u0 := cell_below h.out _ _ _ f0; have u1 := cell_below h.out _ _ _ f1; have u2 := cell_below h.out _ _ _ f2; have u3 := cell_below h.out _ _ _ f3; go_simp)) ?_
        simp only [Act.put, List.setIfInBounds_toArray, List.set_cons_zero, List.set_cons_succ]
        refine quiet_call (v := .int .i64 x) rfl (fun W => (by go_simp)) (fun W h => (hcall.out W h).mono fun e w' ⟨he, hb⟩ => ⟨he, h.call hb⟩) ?_
        simp only [Act.put, List.setIfInBounds_toArray, List.set_cons_zero, List.set_cons_succ]
        refine quiet_value (v := .int .i64 x) rfl (fun _ _ => rfl) ?_
        simp only [Act.put, List.setIfInBounds_toArray, List.set_cons_zero, List.set_cons_succ]
        refine quiet_nil ?_
        intro w6 hw6
        by_cases hx : x = 0
        · subst hx
          go_wp2
          go_roundw
          case rel => exact ⟨i + 1, hlast, by go_num, rfl, Hid.mk (hon1.out rfl), hur.call hw6.out⟩
          case measure => simp [intOf]; omega
        · have hxb : (x != 0) = true := by simpa using hx
          go_wp2
          try rw [Exit.noGoto_ret]
          go_ret
          exact ⟨ret_int (by rw [← hcmp.out, hat1.out (Or.inl hx)]), hbr.trans (hw6.out.mono hbr.size)⟩
      · have hd0 : decide ((i : Int) < (i : Int)) = false := decide_eq_false (by omega)
        rw [show ((X.subs.length : Int) - 1) = (i : Int) by omega]
        go_upto_region 12 with fail
        have hsz0 := hbel.out.size
        have hp1 : Up w (put4 wr.drew w.heap.size 0 (.int .i64 k2) (.int .i64 n2) (.string s2) (.slice a2 m2.length c2)) := Below.put4 hbr.drew (Nat.le_refl _)
        have hp2 : Up w (put4 (put4 wr.drew w.heap.size 0 (.int .i64 k2) (.int .i64 n2) (.string s2) (.slice a2 m2.length c2)) (w.heap.size + 1) 0 (.int .i64 k3) (.int .i64 n3) (.string s3) (.slice a3 m3.length c3)) := Below.put4 hp1 (Nat.le_succ _)
        have hB1s : (put4 wr.drew w.heap.size 0 (.int .i64 k2) (.int .i64 n2) (.string s2) (.slice a2 m2.length c2)).heap[w.heap.size + 1]? = _ := (put4_heap _ _ _ _ _ _ _ _ (Nat.succ_ne_self _)).trans hB1r
        refine wp_region_held (S := Up w) (by kernel_rfl) ?_
        refine chain_take (i := 0) (d := 43) (v := .slice (some ⟨b, o, none⟩) X.subs.length lc) rfl rfl (by kernel_rfl) (by kernel_rfl) (by kernel_rfl) rfl (fun _ _ => rfl) (fun _ _ _ h => h) hbr.drew ?_
        simp only [Act.put, List.setIfInBounds_toArray, List.set_cons_zero, List.set_cons_succ]
        refine chain_take (i := 1) (d := 44) (v := .int .i64 i) rfl rfl (by kernel_rfl) (by kernel_rfl) (by kernel_rfl) rfl (fun _ _ => rfl) (fun _ _ _ h => h) hbr.drew ?_
        simp only [Act.put, List.setIfInBounds_toArray, List.set_cons_zero, List.set_cons_succ]
        refine chain_take (i := 2) (d := 45) (v := .pointer (some ⟨b, o + i * 4, none⟩)) rfl rfl (by kernel_rfl) (by kernel_rfl) (by kernel_rfl) rfl (fun _ _ => (by go_simp)) (fun _ _ _ h => h) hbr.drew ?_
        simp only [Act.put, List.setIfInBounds_toArray, List.set_cons_zero, List.set_cons_succ]
        refine chain_take (i := 3) (d := 46) (v := .agg #[.int .i64 k2, .int .i64 n2, .string s2, .slice a2 m2.length c2]) rfl rfl (by kernel_rfl) (by kernel_rfl) (by kernel_rfl) rfl (fun W h => (by have u0 := cell_below h.out _ _ _ x0; have u1 := cell_below h.out _ _ _ x1; have u2 := cell_below h.out _ _ _ x2; have u3 := cell_below h.out _ _ _ x3; go_simp)) (fun _ _ _ h => h) hbr.drew ?_
        simp only [Act.put, List.setIfInBounds_toArray, List.set_cons_zero, List.set_cons_succ]
        refine chain_take (i := 4) (d := 47) (v := .slice (some ⟨b', o', none⟩) X.subs.length mc) rfl rfl (by kernel_rfl) (by kernel_rfl) (by kernel_rfl) rfl (fun _ _ => rfl) (fun _ _ _ h => h) hbr.drew ?_
        simp only [Act.put, List.setIfInBounds_toArray, List.set_cons_zero, List.set_cons_succ]
        refine chain_take (i := 5) (d := 48) (v := .int .i64 i) rfl rfl (by kernel_rfl) (by kernel_rfl) (by kernel_rfl) rfl (fun _ _ => rfl) (fun _ _ _ h => h) hbr.drew ?_
        simp only [Act.put, List.setIfInBounds_toArray, List.set_cons_zero, List.set_cons_succ]
        refine chain_take (i := 6) (d := 49) (v := .pointer (some ⟨b', o' + i * 4, none⟩)) rfl rfl (by kernel_rfl) (by kernel_rfl) (by kernel_rfl) rfl (fun _ _ => (by go_simp)) (fun _ _ _ h => h) hbr.drew ?_
        simp only [Act.put, List.setIfInBounds_toArray, List.set_cons_zero, List.set_cons_succ]
        refine chain_take (i := 7) (d := 50) (v := .agg #[.int .i64 k3, .int .i64 n3, .string s3, .slice a3 m3.length c3]) rfl rfl (by kernel_rfl) (by kernel_rfl) (by kernel_rfl) rfl (fun W h => (by have u0 := cell_below h.out _ _ _ y0; have u1 := cell_below h.out _ _ _ y1; have u2 := cell_below h.out _ _ _ y2; have u3 := cell_below h.out _ _ _ y3; go_simp)) (fun _ _ _ h => h) hbr.drew ?_
        simp only [Act.put, List.setIfInBounds_toArray, List.set_cons_zero, List.set_cons_succ]
        refine chain_skip (i := 8) (w' := put4 wr.drew w.heap.size 0 (.int .i64 k2) (.int .i64 n2) (.string s2) (.slice a2 m2.length c2)) (by kernel_rfl) rfl rfl rfl (exec_store4 (off := 0) (w := wr.drew) hB0r (by simp) rfl rfl _ _ _ _) hp1 ?_
        refine chain_skip (i := 9) (w' := put4 (put4 wr.drew w.heap.size 0 (.int .i64 k2) (.int .i64 n2) (.string s2) (.slice a2 m2.length c2)) (w.heap.size + 1) 0 (.int .i64 k3) (.int .i64 n3) (.string s3) (.slice a3 m3.length c3)) (by kernel_rfl) rfl rfl rfl (exec_store4 (off := 0) hB1s (by simp) rfl rfl _ _ _ _) hp2 ?_
        refine wpAnyH_done (by kernel_rfl) ?_ _
        go_wp2
        go_roundg X.subs[i].size
        case measure => have h1 := hxsz.out; have h2 := hsz.out; omega
        case rel => exact ⟨X.subs[i], Y.subs[i], k2, n2, s2, a2, m2.length, c2, k3, n3, s3, a3, m3.length, c3, 0, rfl, Hid.mk (Nat.le_refl _), Hid.mk (by have h1 := hxsz.out; have h2 := hsz.out; have h3 := hszT.out; omega), Hid.mk (by rw [hxe.out, ← hat1.out (Or.inr (by omega)), hcmp.out]), hli, hlj, Hid.mk ((put4_heap _ _ _ _ _ _ _ _ (Nat.ne_of_lt (Nat.lt_succ_self _))).trans (put4_block (w := wr.drew) hB0r)), Hid.mk (put4_block hB1s), Hid.mk hp2⟩

theorem compare_any (T U : Tm) (S S' : Nat → Prop) (v u : Value) (w : World) (hv : Lies w S T v) (hu : Lies w S' U u) :
    Calls Tryd.prog 70 #[v, u] w fun e w' => e = .returned (.int .i64 (T.cmp U)) ∧ Below w.heap.size w w' := by
  have h : ∀ (N : Nat) (T : Tm), T.size ≤ N → ∀ (U : Tm) (S S' : Nat → Prop) (v u : Value) (w : World), Lies w S T v → Lies w S' U u →
      Calls Tryd.prog 70 #[v, u] w fun e w' => e = .returned (.int .i64 (T.cmp U)) ∧ Below w.heap.size w w' := by
    intro N
    induction N with
    | zero => intro T hz; have := T.size_pos; omega
    | succ N ih => exact fun T hT U S S' v u w hv hu => compare_of (N + 1) (fun T h => ih T (by omega)) T hT U S S' v u w hv hu
  exact h T.size T (Nat.le_refl _) U S S' v u w hv hu

theorem alike_any (T U : Tm) (S S' : Nat → Prop) (v u : Value) (w : World) (hv : Lies w S T v) (hu : Lies w S' U u) :
    Calls Tryd.prog 62 #[v, u] w fun e w' => e = .returned (.bool (T.cmp U == 0)) ∧ Below w.heap.size w w' := by
  obtain ⟨k0, n0, s0, a0, m0, p0, rfl⟩ := hv.agg
  obtain ⟨k1, n1, s1, a1, m1, p1, rfl⟩ := hu.agg
  have hup : Up w ((w.alloc (.cells #[.int .i64 k0, .int .i64 n0, .string s0, .slice a0 m0 p0] 32)).alloc (.cells #[.int .i64 k1, .int .i64 n1, .string s1, .slice a1 m1 p1] 32)) := (Up.refl w).alloc.alloc
  go_enter Tryd.func62, Tryd.ntmps62
  go_wp2_with (go_at_call 70; refine (compare_any T U S S' _ _ _ (hv.below hup.out) (hu.below hup.out)).mono ?_; rintro e w2 ⟨rfl, hb2⟩)
  go_ret
  exact ⟨rfl, (hup.call hb2).out⟩

end Go.Proofs.YteklhipcojioaaaDoor
