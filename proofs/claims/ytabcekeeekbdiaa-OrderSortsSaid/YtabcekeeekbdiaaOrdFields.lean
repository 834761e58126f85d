/-
  Package order's fields.
-/
import Derived.Test.YtabcekeeekbdiaaOrdKeys
import Derived.Test.YtabcekeeekbdiaaChain
namespace Go.Proofs.Ytabcekeeekbdiaa
open Go.RowKit Go.Deep

set_option maxHeartbeats 2000000 in
theorem fields_fun (n : Int) (s : ByteArray) (a : Option Addr) (l : List Tm) (cap : Nat) (n' : Int) (s' : ByteArray) (a' : Option Addr) (l' : List Tm) (cap' : Nat) (w : World) :
    Calls Try.prog 30 #[.agg #[.int .i64 5, .int .i64 n, .string s, .slice a l.length cap], .agg #[.int .i64 5, .int .i64 n', .string s', .slice a' l'.length cap']] w fun e w' => e = .returned (.int .i64 (lex (cmpI n n') (cmpI l.length l'.length))) ∧ Below w.heap.size w w' := by
  have hbel := ((Below.refl w.heap.size w).alloc (Nat.le_refl _) (.cells #[.int .i64 5, .int .i64 n, .string s, .slice a l.length cap] 24)).alloc (Nat.le_trans (Nat.le_succ _) (by simp)) (.cells #[.int .i64 5, .int .i64 n', .string s', .slice a' l'.length cap'] 24)
  obtain ⟨W0, hW0⟩ : ∃ W0, (w.alloc (.cells #[.int .i64 5, .int .i64 n, .string s, .slice a l.length cap] 24)).alloc (.cells #[.int .i64 5, .int .i64 n', .string s', .slice a' l'.length cap'] 24) = W0 := ⟨_, rfl⟩
  have b0 : W0.heap[w.heap.size]? = some (.cells #[.int .i64 5, .int .i64 n, .string s, .slice a l.length cap] 24) := by rw [← hW0]; exact new_block1 _ _ _
  have b1 : W0.heap[w.heap.size + 1]? = some (.cells #[.int .i64 5, .int .i64 n', .string s', .slice a' l'.length cap'] 24) := by rw [← hW0]; exact new_block2 _ _ _
  rw [hW0] at hbel
  obtain ⟨q0, q1, q2, q3⟩ := (Up.refl W0).four b0
  obtain ⟨r0, r1, r2, r3⟩ := (Up.refl W0).four b1
  go_enter Try.func30, Try.ntmps30
  go_upto_region 12 with fail
  refine wp_region_held (S := Up W0) (by kernel_rfl) ?_
  refine chain_take (i := 0) (d := 36) (v := .pointer (some ⟨w.heap.size, 1, none⟩)) rfl rfl (by kernel_rfl) (by kernel_rfl) (by kernel_rfl) rfl (fun _ _ => (by go_simp)) (fun _ _ _ h => h) (Up.refl W0).drew ?_
  simp only [Act.put, List.setIfInBounds_toArray, List.set_cons_zero, List.set_cons_succ]
  refine chain_take (i := 1) (d := 37) (v := .int .i64 n) rfl rfl (by kernel_rfl) (by kernel_rfl) (by kernel_rfl) rfl (fun W h => (by obtain ⟨q0, q1, q2, q3⟩ := h.four b0; go_simp)) (fun _ _ _ h => h) (Up.refl W0).drew ?_
  simp only [Act.put, List.setIfInBounds_toArray, List.set_cons_zero, List.set_cons_succ]
  refine chain_take (i := 2) (d := 38) (v := .pointer (some ⟨w.heap.size + 1, 1, none⟩)) rfl rfl (by kernel_rfl) (by kernel_rfl) (by kernel_rfl) rfl (fun _ _ => (by go_simp)) (fun _ _ _ h => h) (Up.refl W0).drew ?_
  simp only [Act.put, List.setIfInBounds_toArray, List.set_cons_zero, List.set_cons_succ]
  refine chain_take (i := 3) (d := 39) (v := .int .i64 n') rfl rfl (by kernel_rfl) (by kernel_rfl) (by kernel_rfl) rfl (fun W h => (by obtain ⟨q0, q1, q2, q3⟩ := h.four b1; go_simp)) (fun _ _ _ h => h) (Up.refl W0).drew ?_
  simp only [Act.put, List.setIfInBounds_toArray, List.set_cons_zero, List.set_cons_succ]
  refine chain_take (i := 5) (d := 41) (v := .pointer (some ⟨w.heap.size, 3, none⟩)) rfl rfl (by kernel_rfl) (by kernel_rfl) (by kernel_rfl) rfl (fun _ _ => (by go_simp)) (fun _ _ _ h => h) (Up.refl W0).drew ?_
  simp only [Act.put, List.setIfInBounds_toArray, List.set_cons_zero, List.set_cons_succ]
  refine chain_take (i := 6) (d := 42) (v := .slice a l.length cap) rfl rfl (by kernel_rfl) (by kernel_rfl) (by kernel_rfl) rfl (fun W h => (by obtain ⟨q0, q1, q2, q3⟩ := h.four b0; go_simp)) (fun _ _ _ h => h) (Up.refl W0).drew ?_
  simp only [Act.put, List.setIfInBounds_toArray, List.set_cons_zero, List.set_cons_succ]
  refine chain_take (i := 7) (d := 43) (v := .int .i64 l.length) rfl rfl (by kernel_rfl) (by kernel_rfl) (by kernel_rfl) rfl (fun _ _ => (by go_simp)) (fun _ _ _ h => h) (Up.refl W0).drew ?_
  simp only [Act.put, List.setIfInBounds_toArray, List.set_cons_zero, List.set_cons_succ]
  refine chain_take (i := 8) (d := 44) (v := .pointer (some ⟨w.heap.size + 1, 3, none⟩)) rfl rfl (by kernel_rfl) (by kernel_rfl) (by kernel_rfl) rfl (fun _ _ => (by go_simp)) (fun _ _ _ h => h) (Up.refl W0).drew ?_
  simp only [Act.put, List.setIfInBounds_toArray, List.set_cons_zero, List.set_cons_succ]
  refine chain_take (i := 9) (d := 45) (v := .slice a' l'.length cap') rfl rfl (by kernel_rfl) (by kernel_rfl) (by kernel_rfl) rfl (fun W h => (by obtain ⟨q0, q1, q2, q3⟩ := h.four b1; go_simp)) (fun _ _ _ h => h) (Up.refl W0).drew ?_
  simp only [Act.put, List.setIfInBounds_toArray, List.set_cons_zero, List.set_cons_succ]
  refine chain_take (i := 10) (d := 46) (v := .int .i64 l'.length) rfl rfl (by kernel_rfl) (by kernel_rfl) (by kernel_rfl) rfl (fun _ _ => (by go_simp)) (fun _ _ _ h => h) (Up.refl W0).drew ?_
  simp only [Act.put, List.setIfInBounds_toArray, List.set_cons_zero, List.set_cons_succ]
  refine chain_call (i := 4) (d := 40) (f := 45) (args := #[.int .i64 n, .int .i64 n']) (by kernel_rfl) rfl rfl rfl (by go_simp) ?_
  refine (cmpI_any n n' _).mono ?_
  rintro e w1 ⟨rfl, rfl⟩
  refine ⟨.int .i64 (cmpI n n'), rfl, (Up.refl W0).drew, ?_⟩
  simp only [Act.put, List.setIfInBounds_toArray, List.set_cons_zero, List.set_cons_succ]
  refine chain_call (i := 11) (d := 47) (f := 45) (args := #[.int .i64 l.length, .int .i64 l'.length]) (by kernel_rfl) rfl rfl rfl (by go_simp) ?_
  refine (cmpI_any l.length l'.length _).mono ?_
  rintro e w1 ⟨rfl, rfl⟩
  refine ⟨.int .i64 (cmpI l.length l'.length), rfl, (Up.refl W0).drew, ?_⟩
  simp only [Act.put, List.setIfInBounds_toArray, List.set_cons_zero, List.set_cons_succ]
  refine chain_value (i := 12) (d := 48) (v := .slice (some ⟨W0.drew.heap.size, 0, none⟩) 2 2) (w' := W0.drew.alloc (.cells #[.int .i64 (cmpI n n'), .int .i64 (cmpI l.length l'.length)] 3)) (by kernel_rfl) rfl rfl rfl (by go_simp) (Up.refl W0).drew.alloc ?_
  simp only [Act.put, List.setIfInBounds_toArray, List.set_cons_zero, List.set_cons_succ]
  refine chain_call (i := 13) (d := 49) (f := 47) (args := #[.slice (some ⟨W0.drew.heap.size, 0, none⟩) 2 2]) (by kernel_rfl) rfl rfl rfl (by go_simp) ?_
  refine (or_any _ _ _ _ (new_block _ _)).mono ?_
  rintro e w1 ⟨rfl, rfl⟩
  refine ⟨.int .i64 (lex (cmpI n n') (cmpI l.length l'.length)), rfl, (Up.refl W0).drew.alloc, ?_⟩
  simp only [Act.put, List.setIfInBounds_toArray, List.set_cons_zero, List.set_cons_succ]
  refine chain_value (i := 14) (d := 4) (v := .int .i64 (lex (cmpI n n') (cmpI l.length l'.length))) (w' := W0.drew.alloc (.cells #[.int .i64 (cmpI n n'), .int .i64 (cmpI l.length l'.length)] 3)) (by kernel_rfl) rfl rfl rfl (by go_simp) (Up.refl W0).drew.alloc ?_
  simp only [Act.put, List.setIfInBounds_toArray, List.set_cons_zero, List.set_cons_succ]
  refine wpAnyH_done (by kernel_rfl) ?_ _
  go_wp2
  go_ret
  exact ⟨rfl, ((hbel.drew).alloc hbel.size _)⟩

set_option maxHeartbeats 1000000 in
theorem fields_any (k n : Int) (s : ByteArray) (a : Option Addr) (l : List Tm) (cap : Nat) (k' n' : Int) (s' : ByteArray) (a' : Option Addr) (l' : List Tm) (cap' : Nat) (w : World) (_ : l.length ≤ 9223372036854775807) (_ : l'.length ≤ 9223372036854775807) :
    Calls Try.prog 30 #[.agg #[.int .i64 k, .int .i64 n, .string s, .slice a l.length cap], .agg #[.int .i64 k', .int .i64 n', .string s', .slice a' l'.length cap']] w fun e w' => e = .returned (.int .i64 ((Tm.mk k n s l).keys (.mk k' n' s' l'))) ∧ Below w.heap.size w w' := by
  have hK := Hid.mk (keys_mk k n s l k' n' s' l')
  generalize hKe : (Tm.mk k n s l).keys (.mk k' n' s' l') = K at hK
  have hbel := ((Below.refl w.heap.size w).alloc (Nat.le_refl _) (.cells #[.int .i64 k, .int .i64 n, .string s, .slice a l.length cap] 24)).alloc (Nat.le_trans (Nat.le_succ _) (by simp)) (.cells #[.int .i64 k', .int .i64 n', .string s', .slice a' l'.length cap'] 24)
  by_cases hk : k = k'
  rotate_left
  · have hkb : (k == k') = false := by simpa using hk
    have hkc : cmpI k k' ≠ 0 := fun h => hk (cmpI_zero.1 h)
    go_enter Try.func30, Try.ntmps30
    go_wp2_with (first
      | (go_at_call 45; refine (cmpI_any _ _ _).mono ?_; rintro e w' ⟨rfl, rfl⟩)
      | (go_at_call 46; refine (cmpS_any _ _ _).mono ?_; rintro e w' ⟨rfl, rfl⟩))
    go_ret
    exact ⟨ret_int (by rw [hK.out]; unfold lex; rw [if_neg hkc]), hbel⟩
  subst hk
  have hkc : cmpI k k = 0 := cmpI_zero.2 rfl
  by_cases h1 : k = 1
  · subst h1
    go_enter Try.func30, Try.ntmps30
    go_wp2_with (first
      | (go_at_call 45; refine (cmpI_any _ _ _).mono ?_; rintro e w' ⟨rfl, rfl⟩)
      | (go_at_call 46; refine (cmpS_any _ _ _).mono ?_; rintro e w' ⟨rfl, rfl⟩))
    go_ret
    exact ⟨ret_int (by rw [hK.out]; simp [hkc, lex_l0]), hbel⟩
  by_cases h3 : k = 3
  · subst h3
    go_enter Try.func30, Try.ntmps30
    go_wp2_with (first
      | (go_at_call 45; refine (cmpI_any _ _ _).mono ?_; rintro e w' ⟨rfl, rfl⟩)
      | (go_at_call 46; refine (cmpS_any _ _ _).mono ?_; rintro e w' ⟨rfl, rfl⟩))
    go_ret
    exact ⟨ret_int (by rw [hK.out]; simp [hkc, lex_l0]), hbel⟩
  by_cases h4 : k = 4
  · subst h4
    go_enter Try.func30, Try.ntmps30
    go_wp2_with (first
      | (go_at_call 45; refine (cmpI_any _ _ _).mono ?_; rintro e w' ⟨rfl, rfl⟩)
      | (go_at_call 46; refine (cmpS_any _ _ _).mono ?_; rintro e w' ⟨rfl, rfl⟩))
    go_ret
    exact ⟨ret_int (by rw [hK.out]; simp [hkc, lex_l0]), hbel⟩
  by_cases h6 : k = 6
  · subst h6
    go_enter Try.func30, Try.ntmps30
    go_wp2_with (first
      | (go_at_call 45; refine (cmpI_any _ _ _).mono ?_; rintro e w' ⟨rfl, rfl⟩)
      | (go_at_call 46; refine (cmpS_any _ _ _).mono ?_; rintro e w' ⟨rfl, rfl⟩))
    go_ret
    exact ⟨ret_int (by rw [hK.out]; simp [hkc, lex_l0]), hbel⟩
  by_cases h2 : k = 2
  · subst h2
    go_enter Try.func30, Try.ntmps30
    go_wp2_with (first
      | (go_at_call 45; refine (cmpI_any _ _ _).mono ?_; rintro e w' ⟨rfl, rfl⟩)
      | (go_at_call 46; refine (cmpS_any _ _ _).mono ?_; rintro e w' ⟨rfl, rfl⟩))
    go_ret
    exact ⟨ret_int (by rw [hK.out]; simp [hkc, lex_l0]), hbel⟩
  by_cases h7 : k = 7
  · subst h7
    go_enter Try.func30, Try.ntmps30
    go_wp2_with (first
      | (go_at_call 45; refine (cmpI_any _ _ _).mono ?_; rintro e w' ⟨rfl, rfl⟩)
      | (go_at_call 46; refine (cmpS_any _ _ _).mono ?_; rintro e w' ⟨rfl, rfl⟩))
    go_ret
    exact ⟨ret_int (by rw [hK.out]; simp [hkc, lex_l0]), hbel⟩
  by_cases h9 : k = 9
  · subst h9
    go_enter Try.func30, Try.ntmps30
    go_wp2_with (first
      | (go_at_call 45; refine (cmpI_any _ _ _).mono ?_; rintro e w' ⟨rfl, rfl⟩)
      | (go_at_call 46; refine (cmpS_any _ _ _).mono ?_; rintro e w' ⟨rfl, rfl⟩))
    go_ret
    exact ⟨ret_int (by rw [hK.out]; simp [hkc, lex_l0]), hbel⟩
  by_cases h5 : k = 5
  · subst h5
    rw [keys_mk] at hKe
    rw [← hKe]
    exact fields_fun n s a l cap n' s' a' l' cap' w
  · have e1 : (k == 1) = false := by simpa using h1
    have e2 : (k == 2) = false := by simpa using h2
    have e3 : (k == 3) = false := by simpa using h3
    have e4 : (k == 4) = false := by simpa using h4
    have e5 : (k == 5) = false := by simpa using h5
    have e6 : (k == 6) = false := by simpa using h6
    have e7 : (k == 7) = false := by simpa using h7
    have e9 : (k == 9) = false := by simpa using h9
    go_enter Try.func30, Try.ntmps30
    go_wp2_with (first
      | (go_at_call 45; refine (cmpI_any _ _ _).mono ?_; rintro e w' ⟨rfl, rfl⟩)
      | (go_at_call 46; refine (cmpS_any _ _ _).mono ?_; rintro e w' ⟨rfl, rfl⟩))
    go_ret
    exact ⟨ret_int (by rw [hK.out]; simp [hkc, lex_l0, h1, h2, h3, h4, h5, h6, h7, h9]), hbel⟩

end Go.Proofs.Ytabcekeeekbdiaa
