/-
  The statements' own small functions: terms of the examples, how many terms are the same as one.
-/
import Derived.Test.YtabcekeeekbdiaaOrdMath2
import Derived.Test.YtabcekeeekbdiaaTermPairs
import Derived.Test.YtabcekeeekbdiaaOrdBase
namespace Go.Proofs.Ytabcekeeekbdiaa
open Go.RowKit Go.Deep

set_option maxHeartbeats 400000 in
theorem on_any (n : Int) (w : World) : Calls Try.prog 23 #[.int .i64 n] w fun e w' => e = .returned (.agg #[.int .i64 1, .int .i64 n, .string ⟨#[]⟩, .slice none 0 0]) ∧ Below w.heap.size w w' := by
  have hk := (Up.refl w).alloc (o := zeroTerm)
  go_enter Try.func23, Try.ntmps23
  go_wp2_with (go_at_call 41; refine (num_any n _).mono ?_; rintro e w1 ⟨rfl, hb⟩; obtain ⟨⟨q0, q1, q2, q3⟩, f0, f1, f2, f3⟩ := kept4 (new_block w _) hb; have hk := hk.call hb)
  exact ret_stored rfl rfl rfl q0 q1 q2 q3 ⟨rfl, Below.set4 hk.out (Nat.le_refl _)⟩
set_option maxHeartbeats 400000 in
theorem os_any (s : ByteArray) (w : World) : Calls Try.prog 25 #[.string s] w fun e w' => e = .returned (.agg #[.int .i64 2, .int .i64 0, .string s, .slice none 0 0]) ∧ Below w.heap.size w w' := by
  have hk := (Up.refl w).alloc (o := zeroTerm)
  go_enter Try.func25, Try.ntmps25
  go_wp2_with (go_at_call 44; refine (sym_any s _).mono ?_; rintro e w1 ⟨rfl, hb⟩; obtain ⟨⟨q0, q1, q2, q3⟩, f0, f1, f2, f3⟩ := kept4 (new_block w _) hb; have hk := hk.call hb)
  exact ret_stored rfl rfl rfl q0 q1 q2 q3 ⟨rfl, Below.set4 hk.out (Nat.le_refl _)⟩
set_option maxHeartbeats 1000000 in
theorem ol_any (l : List Tm) (hlen : l.length ≤ 1000000) (S : Nat → Prop) (a : Option Addr) (cap : Nat) (w : World) (hl : Lst w S l a cap) :
    Calls Try.prog 24 #[.slice a l.length cap] w fun e w' => (∃ v, e = .returned v ∧ Is w' (conses l .nil) v) ∧ Below w.heap.size w w' := by
  have hl := Hid.mk hl.inside
  have hk := (Up.refl w).alloc (o := zeroTerm)
  go_enter Try.func24, Try.ntmps24
  go_wp2_with (first
    | (go_at_call 43; refine (none_any _).mono ?_; rintro e w1 ⟨rfl, hb⟩; have hb1 := (hb.block _ (by simp)).trans (new_block w _); have hk := hk.call hb)
    | (go_at_call 42; refine (pairs_any l hlen .nil (fun b => S b ∧ b < w.heap.size) _ _ _ _ (hl.out.below hk.out) (nil_is _ _)).mono ?_; rintro e w2 ⟨⟨v2, rfl, hL2⟩, hb⟩; obtain ⟨k2, n2, s2, a2, m2, c2, rfl⟩ := hL2.agg; have hb2 := (hb.block _ (Array.getElem?_eq_some_iff.1 hb1).1).trans hb1; obtain ⟨⟨q0, q1, q2, q3⟩, f0, f1, f2, f3⟩ := kept4 hb2 (Below.refl _ _); have hk2 := hk.call hb))
  refine ret_stored rfl rfl rfl q0 q1 q2 q3 ⟨⟨_, rfl, is_after hL2 (fun k g1 g2 => set4_heap _ _ _ _ _ _ _ ?_)⟩, Below.set4 hk2.out (Nat.le_refl _)⟩
  have h1 := (Array.getElem?_eq_some_iff.1 hb1).1
  rcases g1 with g1 | g1
  · omega
  · have g1' : w1.heap.size ≤ k := g1
    omega

set_option maxHeartbeats 2000000 in
theorem count_any (l : List Tm) (T : Tm) (S S' : Nat → Prop) (a : Option Addr) (cap : Nat) (v : Value) (w : World) (hl : Lst w S l a cap) (hv : Lies w S' T v) :
    Calls Try.prog 26 #[.slice a l.length cap, v] w fun e w' => e = .returned (.int .i64 (countT l T)) ∧ Below w.heap.size w w' := by
  have hlen : l.length ≤ 9223372036854775807 := Nat.le_trans hl.1 hl.2.1
  obtain ⟨k, n, s, a', m', cap', rfl⟩ := hv.agg
  obtain ⟨W0, hW0⟩ : ∃ W0, w.alloc (.cells #[.int .i64 k, .int .i64 n, .string s, .slice a' m' cap'] 24) = W0 := ⟨_, rfl⟩
  have hu0 : Up w W0 := by rw [← hW0]; exact (Up.refl w).alloc
  have hbx : W0.heap[w.heap.size]? = some (.cells #[.int .i64 k, .int .i64 n, .string s, .slice a' m' cap'] 24) := by rw [← hW0]; exact new_block _ _
  have hl := Hid.mk (hl.below hu0.out)
  have hv := Hid.mk (hv.below hu0.out)
  have hW0h := Hid.mk hW0
  clear hW0
  go_enter Try.func26, Try.ntmps26
  go_wp2
  rw [hW0h.out]
  go_loopw [5, 6] (fun nn ii wr => ∃ i c : Nat, i ≤ l.length ∧ c ≤ i ∧ ii = .int .i64 i ∧ nn = .int .i64 c ∧ Hid (countT (l.take i) T = c) ∧ Up W0 wr) (fun _ ii _ => l.length - (intOf ii).toNat)
  case atStart => exact ⟨0, 0, Nat.zero_le _, Nat.le_refl _, rfl, rfl, Hid.mk (by simp [countT]), Up.refl _⟩
  case round =>
    obtain ⟨i, c, hi, hci, rfl, rfl, hc, hur⟩ := hrel
    have hbr := (hur.out.block _ (Array.getElem?_eq_some_iff.1 hbx).1).trans hbx
    by_cases hlt : i < l.length
    · obtain ⟨b, o, rfl, _, hr⟩ := (hl.out.below hur.out).some (by omega)
      obtain ⟨k1, n1, s1, m1, a1, cap1, hT1, c0, c1, c2, c3, hli⟩ := hr.part i hlt
      have hcall := Hid.mk (fun (W : World) (hW : Up wr W) => sameTerm_any l[i] T _ _ _ _ W (hli.below hW.out) (hv.out.below (hur.call hW.out).out))
      have hct := Hid.mk (countT_take l T i hlt)
      generalize eqB l[i] T = x at hcall hct
      clear hT1 hli
      have hi3 : (i : Int) < (l.length : Int) := by omega
      go_upto_region 5 with fail
      refine region_up (W := wr) (by kernel_rfl) (by kernel_rfl) (Up.refl _) ?_
      refine quiet_value (v := .slice (some ⟨b, o, none⟩) l.length cap) rfl (fun _ _ => rfl) ?_
      simp only [Act.put, List.setIfInBounds_toArray, List.set_cons_zero, List.set_cons_succ]
      refine quiet_value (v := .int .i64 i) rfl (fun _ _ => rfl) ?_
      simp only [Act.put, List.setIfInBounds_toArray, List.set_cons_zero, List.set_cons_succ]
      refine quiet_value (v := .pointer (some ⟨b, o + i * 4, none⟩)) rfl (fun _ _ => (by go_simp)) ?_
      simp only [Act.put, List.setIfInBounds_toArray, List.set_cons_zero, List.set_cons_succ]
      refine quiet_value (v := .agg #[.int .i64 k1, .int .i64 n1, .string s1, .slice a1 m1.length cap1]) rfl (fun W h => (by have u0 := cell_below h.out _ _ _ c0; have u1 := cell_below h.out _ _ _ c1; have u2 := cell_below h.out _ _ _ c2; have u3 := cell_below h.out _ _ _ c3; go_simp)) ?_
      simp only [Act.put, List.setIfInBounds_toArray, List.set_cons_zero, List.set_cons_succ]
      refine quiet_value (v := .agg #[.int .i64 k, .int .i64 n, .string s, .slice a' m' cap']) rfl (fun W h => (by obtain ⟨q0, q1, q2, q3⟩ := h.four hbr; go_simp)) ?_
      simp only [Act.put, List.setIfInBounds_toArray, List.set_cons_zero, List.set_cons_succ]
      refine quiet_call (v := .bool x) rfl (fun W => (by go_simp)) (fun W h => (hcall.out W h).mono fun e w' ⟨he, hb⟩ => ⟨he, h.call hb⟩) ?_
      simp only [Act.put, List.setIfInBounds_toArray, List.set_cons_zero, List.set_cons_succ]
      refine quiet_nil ?_
      intro w6 hw6
      cases x with
      | true =>
        go_wp2
        go_roundw
        case rel => exact ⟨i + 1, c + 1, hlt, by omega, by go_num, by go_num, Hid.mk (by rw [hct.out, hc.out]; rfl), hur.call hw6.out⟩
        case measure => simp [intOf]; omega
      | false =>
        go_wp2
        go_roundw
        case rel => exact ⟨i + 1, c, hlt, by omega, by go_num, rfl, Hid.mk (by rw [hct.out, hc.out]; rfl), hur.call hw6.out⟩
        case measure => simp [intOf]; omega
    · obtain rfl : i = l.length := by omega
      have hc' := hc.out
      rw [List.take_length] at hc'
      have hc' := Hid.mk hc'
      clear hc
      go_wp2
      go_ret
      exact ⟨ret_int (by rw [hc'.out]), (hu0.call hur.out).out⟩

theorem shorts_at {l : List Tm} (h : Shorts l) : ∀ t ∈ l, t.Short := by
  induction l with
  | nil => intro t ht; cases ht
  | cons a r ih =>
    intro t ht
    rw [Shorts] at h
    rcases List.mem_cons.1 ht with rfl | ht
    · exact h.1
    · exact ih h.2 t ht
theorem sizes_mem {l : List Tm} {t : Tm} (h : t ∈ l) : t.size ≤ sizes l := by
  obtain ⟨i, hi, rfl⟩ := List.getElem_of_mem h
  exact sizes_at l i hi

end Go.Proofs.Ytabcekeeekbdiaa
