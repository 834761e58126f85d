/-
  The document's order of terms, walked.
-/
import Derived.Test.YteklhipcojioaaaDoorZOrdPlain
import Derived.Test.YteklhipcojioaaaDoorZTermMore
import Derived.Test.YteklhipcojioaaaDoorZRegionUp
import Derived.Deep.RegionHeld3
import Derived.Deep.DeepCutAuto
namespace Go.Proofs.YteklhipcojioaaaDoor
open Go.RowKit Go.Deep

theorem cmpB_lt {a b : ByteArray} (h : Op.bytesLess a.toList b.toList = true) : cmpB a b = -1 := by unfold cmpB; rw [if_pos h]
theorem cmpB_gt {a b : ByteArray} (h : Op.bytesLess a.toList b.toList = false) (h' : (!a.toList == b.toList) = true) : cmpB a b = 1 := by
  unfold cmpB
  rw [if_neg (by rw [h]; exact Bool.false_ne_true)]
  cases hc : Op.bytesLess b.toList a.toList with
  | true => simp
  | false =>
    have := less_total _ _ h hc
    rw [this] at h'
    simp at h'
theorem cmpB_eq {a b : ByteArray} (h' : (!a.toList == b.toList) = false) : cmpB a b = 0 := by
  have : a.toList = b.toList := by simpa using h'
  rw [cmpB_zero]
  exact bytes_toList this

theorem refnumbers_any (a b : Int) (w : World) : Calls Tryd.prog 90 #[.int .i64 a, .int .i64 b] w fun e w' => e = .returned (.int .i64 (cmpI a b)) ∧ w = w' := by
  go_enter Tryd.func90, Tryd.ntmps90
  go_wp2
  all_goals go_ret
  all_goals exact ⟨ret_int (by unfold cmpI; (repeat' split) <;> omega), rfl⟩
theorem reftexts_any (a b : ByteArray) (w : World) : Calls Tryd.prog 91 #[.string a, .string b] w fun e w' => e = .returned (.int .i64 (cmpB a b)) ∧ w = w' := by
  go_enter Tryd.func91, Tryd.ntmps91
  go_wp2
  all_goals go_ret
  · exact ⟨ret_int (cmpB_lt (by assumption)).symm, rfl⟩
  · exact ⟨ret_int (cmpB_gt (by assumption) (by assumption)).symm, rfl⟩
  · exact ⟨ret_int (cmpB_eq (by assumption)).symm, rfl⟩

theorem cmpL_take (l : List Tm) : ∀ (l' : List Tm) (i : Nat) (hi : i < l.length) (hi' : i < l'.length), cmpL (l.take (i + 1)) (l'.take (i + 1)) = lex (cmpL (l.take i) (l'.take i)) (l[i].cmp l'[i]) := by
  induction l with
  | nil => intro l' i hi; cases hi
  | cons a r ih =>
    intro l' i hi hi'
    match l', hi' with
    | b :: r', hi' =>
      cases i with
      | zero =>
        simp only [List.take_succ_cons, List.take_zero, cmpL_cons, cmpL_nil, List.getElem_cons_zero]
        by_cases h : a.cmp b = 0 <;> simp [lex, h]
      | succ i =>
        simp only [List.take_succ_cons, cmpL_cons, List.getElem_cons_succ]
        rw [ih r' i (by simpa using hi) (by simpa using hi')]
        by_cases h : a.cmp b = 0 <;> simp [lex, h]
theorem cmpL_found (l : List Tm) : ∀ (l' : List Tm) (i : Nat), cmpL (l.take i) (l'.take i) ≠ 0 → cmpL l l' = cmpL (l.take i) (l'.take i) := by
  induction l with
  | nil => intro l' i h; rw [List.take_nil, cmpL_nil] at h; exact absurd rfl h
  | cons a r ih =>
    intro l' i h
    cases i with
    | zero => rw [List.take_zero, cmpL_nil] at h; exact absurd rfl h
    | succ i =>
      match l' with
      | [] => rw [List.take_nil, cmpL_nil'] at h; exact absurd rfl h
      | b :: r' =>
        simp only [List.take_succ_cons, cmpL_cons] at h ⊢
        unfold lex at h ⊢
        by_cases h0 : a.cmp b = 0
        · rw [if_pos h0] at h
          rw [if_pos h0, if_pos h0]
          exact ih r' i h
        · simp only [if_neg h0]

/-- Two lists of terms, as they are compared. -/
def cmpLL (l l' : List Tm) : Int := lex (cmpI l.length l'.length) (cmpL l l')
theorem cmpLL_start (l l' : List Tm) : cmpI l.length l'.length = lex (cmpI l.length l'.length) (cmpL (l.take 0) (l'.take 0)) := by
  rw [List.take_zero, cmpL_nil]; unfold lex; split <;> omega
theorem cmpLL_step (l l' : List Tm) (i : Nat) (hi : i < l.length) (hi' : i < l'.length) (h0 : lex (cmpI l.length l'.length) (cmpL (l.take i) (l'.take i)) = 0) :
    l[i].cmp l'[i] = lex (cmpI l.length l'.length) (cmpL (l.take (i + 1)) (l'.take (i + 1))) := by
  rw [lex_zero] at h0
  rw [cmpL_take l l' i hi hi', h0.1, h0.2]
  rfl
theorem cmpLL_end (l l' : List Tm) (i : Nat) (h : i = l.length ∨ lex (cmpI l.length l'.length) (cmpL (l.take i) (l'.take i)) ≠ 0) : lex (cmpI l.length l'.length) (cmpL (l.take i) (l'.take i)) = cmpLL l l' := by
  unfold cmpLL
  by_cases hl : cmpI l.length l'.length = 0
  · have e : l.length = l'.length := by have := cmpI_zero.1 hl; omega
    rcases h with rfl | h
    · rw [List.take_length, List.take_of_length_le (by omega)]
    · rw [hl] at h ⊢
      have h' : cmpL (l.take i) (l'.take i) ≠ 0 := h
      rw [cmpL_found l l' i h']
  · unfold lex
    rw [if_neg hl, if_neg hl]

set_option maxHeartbeats 1000000 in
theorem reflists_of (l : List Tm) (hT : ∀ t ∈ l, ∀ (U : Tm) (S S' : Nat → Prop) (v u : Value) (w : World), Lies w S t v → Lies w S' U u → Calls Tryd.prog 79 #[v, u] w fun e w' => e = .returned (.int .i64 (t.cmp U)) ∧ Below w.heap.size w w')
    (l' : List Tm) (S S' : Nat → Prop) (a a' : Option Addr) (cap cap' : Nat) (w : World) (hl : Lst w S l a cap) (hl' : Lst w S' l' a' cap') :
    Calls Tryd.prog 92 #[.slice a l.length cap, .slice a' l'.length cap'] w fun e w' => e = .returned (.int .i64 (cmpLL l l')) ∧ Below w.heap.size w w' := by
  have ih := Hid.mk hT
  have hlen : l.length ≤ 9223372036854775807 := Nat.le_trans hl.1 hl.2.1
  have hlen' : l'.length ≤ 9223372036854775807 := Nat.le_trans hl'.1 hl'.2.1
  clear hT
  go_enter Tryd.func92, Tryd.ntmps92
  go_wp2_with (go_at_call 90; refine (refnumbers_any _ _ _).mono ?_; rintro e w' ⟨rfl, rfl⟩)
  have hstart := Hid.mk (cmpLL_start l l')
  have hone := Hid.mk (cmpI_one l.length l'.length)
  have hc0 := cmpI_one l.length l'.length
  unfold One at hc0
  have hb0 : -1 ≤ cmpI l.length l'.length ∧ cmpI l.length l'.length ≤ 1 := by omega
  obtain ⟨c0, hc⟩ : ∃ c0, cmpI l.length l'.length = c0 := ⟨_, rfl⟩
  rw [hc] at hb0 ⊢
  have hc := Hid.mk hc
  clear hc0
  go_loopw [5, 6] (fun cc ii wr => ∃ (i : Nat) (c : Int), i ≤ l.length ∧ ii = .int .i64 i ∧ cc = .int .i64 c ∧ -1 ≤ c ∧ c ≤ 1 ∧ Hid (i ≠ 0 → l.length = l'.length) ∧ Hid (c = lex (cmpI l.length l'.length) (cmpL (l.take i) (l'.take i))) ∧ Below w.heap.size w wr) (fun _ ii _ => l.length - (intOf ii).toNat)
  case atStart => exact ⟨0, c0, Nat.zero_le _, rfl, rfl, hb0.1, hb0.2, Hid.mk (fun h => absurd rfl h), Hid.mk (by rw [← hstart.out, hc.out]), Below.refl _ _⟩
  case round =>
    obtain ⟨i, c, hi, rfl, rfl, hc1, hc2, hne, hq, hb⟩ := hrel
    have hzr := hb.size
    by_cases hgo : i < l.length ∧ c = 0
    · obtain ⟨hlt, rfl⟩ := hgo
      have hll : l.length = l'.length := by
        have h0 := hq.out
        have := (lex_zero.1 h0.symm).1
        have := cmpI_zero.1 this
        omega
      have hlt' : i < l'.length := by omega
      obtain ⟨b, o, rfl, _, hr⟩ := (hl.below hb).some (by omega)
      obtain ⟨b', o', rfl, _, hr'⟩ := (hl'.below hb).some (by omega)
      obtain ⟨k1, n1, s1, m1, a1, cap1, hT1, c0, c1, c2, c3, hli⟩ := hr.part i hlt
      obtain ⟨k2, n2, s2, m2, a2, cap2, hT2, d0, d1, d2, d3, hli2⟩ := hr'.part i hlt'
      have hst := Hid.mk (cmpLL_step l l' i hlt hlt' hq.out.symm)
      have hon := cmp_one l[i] l'[i]
      unfold One at hon
      have hbd : -1 ≤ l[i].cmp l'[i] ∧ l[i].cmp l'[i] ≤ 1 := by omega
      have hcall := Hid.mk (fun (W : World) (hW : Below wr.heap.size wr W) => ih.out l[i] (List.getElem_mem hlt) l'[i] S S' _ _ W (hli.below hW) (hli2.below hW))
      have hll' := Hid.mk hll
      generalize l[i].cmp l'[i] = x at hst hbd hcall hon
      clear hT1 hT2 hli hli2 hon hll
      go_wp2
      go_region_with (go_at_call 79; refine (hcall.out _ (by first | exact (Below.refl _ _).drew | exact Below.refl _ _)).mono ?_; rintro e w2 ⟨rfl, hb2⟩)
      all_goals go_wp2
      all_goals
        go_roundw
        case rel => exact ⟨i + 1, x, hlt, by go_num, rfl, hbd.1, hbd.2, Hid.mk (fun _ => hll'.out), hst, hb.trans (((Below.refl wr.heap.size wr).drew.trans hb2).mono hzr)⟩
        case measure => simp [intOf]; omega
    · have hend := Hid.mk (cmpLL_end l l' i (by rw [← hq.out]; omega))
      have hq' := hq
      by_cases hlt : i < l.length
      · have hc0 : ¬ c = 0 := fun h => hgo ⟨hlt, h⟩
        clear hgo
        go_wp2
        go_ret
        exact ⟨ret_int (hq'.out.trans hend.out), hb⟩
      · clear hgo
        go_wp2
        go_ret
        exact ⟨ret_int (hq'.out.trans hend.out), hb⟩

set_option maxRecDepth 100000 in
set_option maxHeartbeats 2000000 in
theorem refcompare_any (T : Tm) : ∀ (U : Tm) (S S' : Nat → Prop) (v u : Value) (w : World), Lies w S T v → Lies w S' U u →
    Calls Tryd.prog 79 #[v, u] w fun e w' => e = .returned (.int .i64 (T.cmp U)) ∧ Below w.heap.size w w' := by
  induction T using Tm.induct with
  | h k n s l ih =>
    intro U S S' v u w hv hu
    have hls := Hid.mk (reflists_of l (fun t ht U S S' v u w hv hu => ih t ht U S S' v u w hv hu))
    clear ih
    obtain ⟨k', n', s', l'⟩ := U
    obtain ⟨a, cap, rfl, hs, hl⟩ := hv.out
    obtain ⟨a', cap', rfl, hs', hl'⟩ := hu.out
    clear hv hu
    have hll := Hid.mk (fun (W : World) (hW : Up w W) => hls.out l' S S' a a' cap cap' W (hl.below hW.out) (hl'.below hW.out))
    have hcm := Hid.mk (cmp_mk k n s l k' n' s' l')
    have hk0 := cmpI_one k k'
    have hn0 := cmpI_one n n'
    unfold One at hk0 hn0
    have hk1 : -1 ≤ cmpI k k' ∧ cmpI k k' ≤ 1 := by omega
    have hn1 : -1 ≤ cmpI n n' ∧ cmpI n n' ≤ 1 := by omega
    obtain ⟨W0, hW0⟩ : ∃ W0, (w.alloc (.cells #[.int .i64 k, .int .i64 n, .string s, .slice a l.length cap] 32)).alloc (.cells #[.int .i64 k', .int .i64 n', .string s', .slice a' l'.length cap'] 32) = W0 := ⟨_, rfl⟩
    have hW0h := Hid.mk hW0
    clear hl hl' hls hk0 hn0 hW0
    go_enter Tryd.func79, Tryd.ntmps79
    go_upto_region 1 with fail
    rw [hW0h.out]
    have hW0 := hW0h.out
    have hb0 : W0.heap[w.heap.size]? = some (.cells #[.int .i64 k, .int .i64 n, .string s, .slice a l.length cap] 32) := by rw [← hW0]; exact new_block1 _ _ _
    have hb1 : W0.heap[w.heap.size + 1]? = some (.cells #[.int .i64 k', .int .i64 n', .string s', .slice a' l'.length cap'] 32) := by rw [← hW0]; exact new_block2 _ _ _
    have hu0 : Up w W0 := by rw [← hW0]; exact (Up.refl w).alloc.alloc
    obtain ⟨g0, g1, g2, g3⟩ := (Up.refl W0).four hb0
    obtain ⟨q0, q1, q2, q3⟩ := (Up.refl W0).four hb1
    clear hW0 hW0h
    go_wp2_with (first
      | (go_at_call 90; refine (refnumbers_any _ _ _).mono ?_; rintro e w' ⟨rfl, rfl⟩)
      | (go_at_call 91; refine (reftexts_any _ _ _).mono ?_; rintro e w' ⟨rfl, rfl⟩)
      | (go_at_call 92; refine (hll.out _ hu0).mono ?_; rintro e w2 ⟨rfl, hb2⟩; have hu2 := hu0.call hb2))
    all_goals go_ret
    all_goals refine ⟨ret_int ?_, by first | exact hu2.out | exact hu0.out⟩
    all_goals rw [hcm.out]
    all_goals simp_all [lex, cmpLL]

end Go.Proofs.YteklhipcojioaaaDoor
