/-
  Buckets tell all that the document's have; one call of a script, whatever it asks.
-/
import Derived.Test.YtkijbphbibcnoaaLinAct
namespace Go.Proofs.Ytkijbphbibcnoaa
open Go.RowKit Go.Deep Go.Maps Go.WideShapes

section
variable {Lb : World → Nat → Nat → (Nat → Prop) → Bks → Prop} (K : LinOk Lb)
include K
theorem act_all {w wr : World} {p q least : Nat} {B : Bks} {Sr F : Nat → Prop} (h : Sx Lb w wr p q least B B Sr F) (hf : Fine B) (hl : 1 ≤ least) (hs : szB B < 50000 ∧ B.length < 50000) (kd n : Int) (x : Nat) (hx : x < 4294967296) :
    Calls Try.prog 10 #[.pointer (some ⟨p, 0, none⟩), .pointer (some ⟨q, 0, none⟩), .agg #[.int .i64 kd, .int .i64 n, .int .u32 x]] wr fun e w' => e = .returned (.bool true) ∧ ∃ B' Sr', Sx Lb w w' p q least B' B' Sr' F ∧ Fine B' ∧ B'.length ≤ B.length + 1 ∧ szB B' ≤ szB B + 1 := by
  have hs' : szB B < 100000 ∧ B.length < 100000 := ⟨by omega, by omega⟩
  by_cases k0 : kd = 0
  · subst k0
    exact (act0 K h hf hl hs' n x hx).mono fun e w' ⟨h1, Sr', h2⟩ => ⟨h1, _, Sr', h2, hf.add hx n (by omega), by rw [addB_len]; omega, by rw [szB_add hf.placed.some_]; omega⟩
  by_cases k1 : kd = 1
  · subst k1
    refine (act1 K h hf hl hs' n x hx).mono fun e w' ⟨h1, Sr', h2⟩ => ⟨h1, _, Sr', h2, hf.remove x n, by rw [removeB_len]; omega, ?_⟩
    cases hh : hasB B x n with
    | true => have := szB_remove hf.placed.some_ hh; omega
    | false => rw [removeB_not hh]; omega
  by_cases k2 : kd = 2
  · subst k2
    exact (act2 K h hf hl hs' n x hx).mono fun e w' ⟨h1, Sr', h2⟩ => ⟨h1, _, Sr', h2, hf, by omega, by omega⟩
  by_cases k3 : kd = 3
  · subst k3
    exact (act3 K h hf hl hs' n x hx).mono fun e w' ⟨h1, Sr', h2⟩ => ⟨h1, _, Sr', h2, hf, by omega, by omega⟩
  by_cases k4 : kd = 4
  · subst k4
    exact (act4 K h hf hl hs' n x hx).mono fun e w' ⟨h1, Sr', h2⟩ => ⟨h1, _, Sr', h2, hf.split (by omega), by rw [splitB_len]; omega, by rw [szB_split]; omega⟩
  by_cases k5 : kd = 5
  · subst k5
    refine (act5 K h hf hl hs' n x hx _ rfl).mono fun e w' ⟨h1, Sr', h2⟩ => ⟨h1, _, Sr', h2, ?_⟩
    split
    · exact ⟨hf.join (by omega), by rw [joinB_len]; omega, by rw [szB_join (by omega)]; omega⟩
    · exact ⟨hf, by omega, by omega⟩
  exact (actN K h hf hl hs' n x hx kd ⟨k0, k1, k2, k3, k4, k5⟩).mono fun e w' ⟨h1, Sr', h2⟩ => ⟨h1, _, Sr', h2, hf, by omega, by omega⟩

set_option maxHeartbeats 4000000 in
set_option maxRecDepth 100000 in
theorem tells10_any {w wr : World} {p q least : Nat} {B : Bks} {Sr F : Nat → Prop} (h : Sx Lb w wr p q least B B Sr F) (hf : Fine B) :
    Calls Try.prog 11 #[.pointer (some ⟨p, 0, none⟩), .pointer (some ⟨q, 0, none⟩)] wr fun e w' => e = .returned (.bool true) ∧ Below wr.heap.size wr w' := by
  have h1 := hf.placed.some_
  obtain ⟨v, hb⟩ := h.rb
  obtain ⟨c0, c1, f1⟩ := hb.cells
  obtain ⟨a, cap, rfl⟩ := hb.slice
  have HB := Hid.mk hb
  have HLO := Hid.mk (fun (W : World) (hW : Below wr.heap.size wr W) => h.lo.up K hW)
  have HF := Hid.mk hf
  have HLEN := Hid.mk (fun (W : World) (hW : Below wr.heap.size wr W) => h.lo.up K hW |>.len K hf)
  have HCNT := Hid.mk (fun (W : World) (hW : Below wr.heap.size wr W) => h.lo.up K hW |>.count K hf)
  have HWNT := Hid.mk (fun (W : World) (hW : Below wr.heap.size wr W) => h.lo.up K hW |>.wants K hf)
  have hl2 := hf.len
  have hs2 := hf.size
  have HRL := Hid.mk (fun (W : World) (hW : Below wr.heap.size wr W) => lenR_up (h.rb.up hW) (by omega) (by omega) (n := szB B) rfl)
  have HRW := Hid.mk (fun (W : World) (hW : Below wr.heap.size wr W) => wantsR_any q least Sr B W (h.rb.up hW) (by omega) (by omega))
  obtain ⟨N, hN⟩ : ∃ N, B.length = N := ⟨_, rfl⟩
  obtain ⟨U, hU⟩ : ∃ U, szB B = U := ⟨_, rfl⟩
  obtain ⟨V, hV⟩ : ∃ V, wantsB least B = V := ⟨_, rfl⟩
  rw [hN] at c1 HCNT hl2
  rw [hU] at HLEN HRL
  rw [hV] at HWNT HRW
  have HN := Hid.mk (And.intro hN hl2)
  clear h hf h1 hb hN hU hV hs2 hl2
  go_enter Try.func11, Try.ntmps11
  go_upto_region 1 with fail
  refine region_up (W := wr) (by kernel_rfl) (by kernel_rfl) (Up.refl _) ?_
  refine quiet_value (v := .pointer (some ⟨p, 0, none⟩)) rfl (fun _ _ => rfl) ?_
  simp only [Act.put, List.setIfInBounds_toArray, List.set_cons_zero, List.set_cons_succ]
  refine quiet_call (v := .int .i64 U) rfl (fun W => (by go_simp)) (fun W h => (HLEN.out W h.out).mono fun e w' ⟨he, hb⟩ => ⟨he, h.call hb⟩) ?_
  simp only [Act.put, List.setIfInBounds_toArray, List.set_cons_zero, List.set_cons_succ]
  refine quiet_value (v := .pointer (some ⟨q, 0, none⟩)) rfl (fun _ _ => rfl) ?_
  simp only [Act.put, List.setIfInBounds_toArray, List.set_cons_zero, List.set_cons_succ]
  refine quiet_call (v := .int .i64 U) rfl (fun W => (by go_simp)) (fun W h => (HRL.out W h.out).mono fun e w' ⟨he, hb⟩ => ⟨he, h.call hb⟩) ?_
  simp only [Act.put, List.setIfInBounds_toArray, List.set_cons_zero, List.set_cons_succ]
  refine quiet_value (v := .bool false) rfl (fun _ _ => (by go_simp)) ?_
  simp only [Act.put, List.setIfInBounds_toArray, List.set_cons_zero, List.set_cons_succ]
  refine quiet_value (v := .bool false) rfl (fun _ _ => rfl) ?_
  simp only [Act.put, List.setIfInBounds_toArray, List.set_cons_zero, List.set_cons_succ]
  refine quiet_value (v := .pointer (some ⟨p, 0, none⟩)) rfl (fun _ _ => rfl) ?_
  simp only [Act.put, List.setIfInBounds_toArray, List.set_cons_zero, List.set_cons_succ]
  refine quiet_call (v := .int .i64 N) rfl (fun W => (by go_simp)) (fun W h => (HCNT.out W h.out).mono fun e w' ⟨he, hb⟩ => ⟨he, h.call hb⟩) ?_
  simp only [Act.put, List.setIfInBounds_toArray, List.set_cons_zero, List.set_cons_succ]
  refine quiet_value (v := .pointer (some ⟨q, 0, none⟩)) rfl (fun _ _ => rfl) ?_
  simp only [Act.put, List.setIfInBounds_toArray, List.set_cons_zero, List.set_cons_succ]
  refine quiet_value (v := .pointer (some ⟨q, 0, none⟩)) rfl (fun _ _ => (by go_simp)) ?_
  simp only [Act.put, List.setIfInBounds_toArray, List.set_cons_zero, List.set_cons_succ]
  refine quiet_value (v := .pointer (some ⟨q, 1, none⟩)) rfl (fun _ _ => (by go_simp)) ?_
  simp only [Act.put, List.setIfInBounds_toArray, List.set_cons_zero, List.set_cons_succ]
  refine quiet_value (v := .slice a N cap) rfl (fun W h => (by have u0 := cell_below h.out _ _ _ c1; go_simp)) ?_
  simp only [Act.put, List.setIfInBounds_toArray, List.set_cons_zero, List.set_cons_succ]
  refine quiet_value (v := .int .i64 N) rfl (fun _ _ => (by go_simp)) ?_
  simp only [Act.put, List.setIfInBounds_toArray, List.set_cons_zero, List.set_cons_succ]
  refine quiet_value (v := .bool false) rfl (fun _ _ => (by go_simp)) ?_
  simp only [Act.put, List.setIfInBounds_toArray, List.set_cons_zero, List.set_cons_succ]
  refine quiet_value (v := .bool false) rfl (fun _ _ => rfl) ?_
  simp only [Act.put, List.setIfInBounds_toArray, List.set_cons_zero, List.set_cons_succ]
  refine quiet_value (v := .bool false) rfl (fun _ _ => rfl) ?_
  simp only [Act.put, List.setIfInBounds_toArray, List.set_cons_zero, List.set_cons_succ]
  refine quiet_value (v := .pointer (some ⟨p, 0, none⟩)) rfl (fun _ _ => rfl) ?_
  simp only [Act.put, List.setIfInBounds_toArray, List.set_cons_zero, List.set_cons_succ]
  refine quiet_call (v := .int .i64 V) rfl (fun W => (by go_simp)) (fun W h => (HWNT.out W h.out).mono fun e w' ⟨he, hb⟩ => ⟨he, h.call hb⟩) ?_
  simp only [Act.put, List.setIfInBounds_toArray, List.set_cons_zero, List.set_cons_succ]
  refine quiet_value (v := .pointer (some ⟨q, 0, none⟩)) rfl (fun _ _ => rfl) ?_
  simp only [Act.put, List.setIfInBounds_toArray, List.set_cons_zero, List.set_cons_succ]
  refine quiet_call (v := .int .i64 V) rfl (fun W => (by go_simp)) (fun W h => (HRW.out W h.out).mono fun e w' ⟨he, hb⟩ => ⟨he, h.call hb⟩) ?_
  simp only [Act.put, List.setIfInBounds_toArray, List.set_cons_zero, List.set_cons_succ]
  refine quiet_value (v := .bool false) rfl (fun _ _ => (by go_simp)) ?_
  simp only [Act.put, List.setIfInBounds_toArray, List.set_cons_zero, List.set_cons_succ]
  refine quiet_value (v := .bool false) rfl (fun _ _ => rfl) ?_
  simp only [Act.put, List.setIfInBounds_toArray, List.set_cons_zero, List.set_cons_succ]
  refine quiet_nil ?_
  intro w1 hw1
  have HW1 := Hid.mk hw1
  clear hw1 c0 f1
  go_wp2
  go_loopw [5] (fun ii wr2 => ∃ i : Nat, i ≤ N ∧ ii = .int .i64 i ∧ Hid (Below wr.heap.size wr wr2)) (fun ii _ => N - (intOf ii).toNat)
  case atStart => exact ⟨0, Nat.zero_le _, rfl, Hid.mk HW1.out.out⟩
  case round =>
    obtain ⟨i, hi, rfl, hW⟩ := hrel
    have k1 := cell_below hW.out _ _ _ c1
    have hNN := HN.out
    by_cases hlt : i < N
    · obtain ⟨g, cap', a', lc, hv, _, d0, _, hrow⟩ := HB.out.at_ (i := i) (by omega)
      rw [hNN.1] at hv
      simp only [Value.slice.injEq, true_and] at hv
      obtain ⟨rfl, rfl⟩ := hv
      have hav : atV B (i : Int) = rowB B i := by unfold atV; rw [if_pos (by omega), Int.toNat_natCast]
      have hae : atE B (i : Int) = 0 := by unfold atE; rw [if_pos (by omega)]
      have hRl := rowB_len_le B i
      have hs2 := HF.out.size
      rw [← rowB_lt (by omega)] at d0 hrow
      generalize rowB B i = R at *
      have HAT := Hid.mk (And.intro hav hae)
      have HRLN := Hid.mk (show R.length ≤ 100000 by omega)
      obtain ⟨a2, c2, e2, hcel⟩ := Its.slice hrow
      simp only [Value.slice.injEq] at e2
      obtain ⟨rfl, _, _⟩ := e2
      have HCE := Hid.mk hcel
      have HL := Hid.mk hlt
      have hli : (i : Int) < N := by omega
      have hwi : IntKind.i64.wrap ((i : Int) + 1) = ((i + 1 : Nat) : Int) := by rw [wrap_id (by omega) (by omega)]; omega
      have d1 := cell_below hW.out _ _ _ d0
      clear hNN hlt hav hae hRl hs2 hrow hcel
      go_wp2_with (first
        | (go_at_call 27; refine (sameItems_any R R _ _ _ _ _ HV.out (HCE.out.up H3.out) (by have := HRLN.out; omega)).mono ?_; rintro e w4 ⟨rfl, hb4⟩; rw [decide_eq_true rfl]; have H4 := Hid.mk (H3.out.trans (hb4.mono H3.out.size)); clear hb4)
        | (go_at_call 13; refine ((HLO.out _ hW.out).at_ K HF.out (i : Int)).mono ?_; rintro e w3 ⟨v, rfl, ht⟩; rw [HAT.out.1] at ht; rw [HAT.out.2]; have H3 := Hid.mk (hW.out.trans (ht.below.mono hW.out.size)); replace k1 := cell_below ht.below _ _ _ k1; replace d1 := cell_below ht.below _ _ _ d1; obtain ⟨va, vc, rfl, hcv⟩ := Its.slice ht.its; have HV := Hid.mk hcv; clear ht hcv))
      go_roundw
      case rel => exact ⟨i + 1, HL.out, by first | rfl | go_num, H4⟩
      case measure => have h1 : i < N := HL.out; simp [intOf]; omega
    · obtain rfl : i = N := by omega
      clear hlt hNN
      go_wp2
      go_ret
      exact ⟨rfl, hW.out⟩
end
end Go.Proofs.Ytkijbphbibcnoaa
