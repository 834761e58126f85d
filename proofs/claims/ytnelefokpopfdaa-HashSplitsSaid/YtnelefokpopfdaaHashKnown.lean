/-
  HashKnown: the chapter's examples.
-/
import Derived.Test.YtnelefokpopfdaaHashLit
import Derived.Test.YtnelefokpopfdaaHashSplit
namespace Go.Proofs.Ytnelefokpopfdaa
open Go.RowKit Go.Deep

theorem symab_bytes : (Tm.sym ⟨#[97, 98]⟩).bytes = [2, 2, 97, 98] := by kernel_rfl
theorem symab_fits : (Tm.sym ⟨#[97, 98]⟩).fits = true := by kernel_rfl
theorem tup0_bytes : (Tm.tup []).bytes = [7, 0] := by kernel_rfl
theorem tup0_fits : (Tm.tup []).fits = true := by kernel_rfl
theorem list1_bytes : (conses [.num 1] .nil).bytes = [9, 1, 1, 0, 0, 0, 0, 0, 0, 0, 8] := by kernel_rfl
theorem list1_fits : (conses [.num 1] .nil).fits = true := by kernel_rfl
theorem tup0_is (w : World) (S : Nat → Prop) : Lies w S (.tup []) (.agg #[.int .i64 7, .int .i64 0, .string ⟨#[]⟩, .slice none 0 0]) := Lies.mk (l := []) (small_of (by omega) (by omega) (by omega) (by omega) size_empty) (lst_nil _ _)

theorem lst1h {w : World} {S : Nat → Prop} {t : Tm} {nb : Nat} {h0 h1 h2 h3 : Value} {ty : TypeId} (hc : w.heap[nb]? = some (.cells #[h0, h1, h2, h3] ty (0, 0))) (hnb : S nb) (ht : Lies w S t (.agg #[h0, h1, h2, h3])) : Lst w S [t] (some ⟨nb, 0, none⟩) 1 := by
  have hcell : ∀ j, w.cell? ⟨nb, j, none⟩ = #[h0, h1, h2, h3][j]? := fun j => cell_of_row w nb j _ ty (0, 0) hc
  refine ⟨Nat.le_refl _, by simp, Or.inr ⟨_, rfl, fun _ => ⟨hnb, rfl⟩, ?_⟩⟩
  rw [Row, Row]
  exact ⟨⟨h0, h1, h2, h3, hcell 0, hcell 1, hcell 2, hcell 3, ht⟩, trivial⟩

set_option maxHeartbeats 2000000 in
theorem lawKnown4 (x0 : World) : Calls Try.prog 4 #[] x0 fun e w' => e = .returned (.bool true) ∧ Below x0.heap.size x0 w' := by
  have t0 := True.intro
  go_enter Try.func4, Try.ntmps4
  go_wp2_with (first
    | (go_at_call 7; have g := t2; refine (bucketLit_any 1 1 0 0 2 (by omega) rfl (by omega) (by omega) (by kernel_rfl) (by kernel_rfl) _).mono ?_; rintro e x1 ⟨rfl, rfl⟩; clear t2; have t3 := True.intro)
    | (go_at_call 7; have g := t1; refine (bucketLit_any 3 3 1 0 0 (by omega) rfl (by omega) (by omega) (by kernel_rfl) (by kernel_rfl) _).mono ?_; rintro e x1 ⟨rfl, rfl⟩; clear t1; have t2 := True.intro)
    | (go_at_call 7; have g := t0; refine (bucketLit_any 6 6 8 6 0 (by omega) rfl (by omega) (by omega) (by kernel_rfl) (by kernel_rfl) _).mono ?_; rintro e x1 ⟨rfl, rfl⟩; clear t0; have t1 := True.intro)
    | (go_at_call 15; refine (sym_any _ _).mono ?_; rintro e x1 ⟨rfl, hb1⟩; have hu := (Up.refl x0).call hb1)
    | (go_at_call 14; have g := t3; refine (bytesLit_any (.sym ⟨#[97, 98]⟩) [2, 2, 97, 98] 4 symab_fits symab_bytes rfl (by omega) (fun _ => True) _ _ (sym_is _ _ _ (by decide))).mono ?_; rintro e x2 ⟨⟨a1, c1, rfl, hB⟩, hb2⟩; have hu := hu.call hb2; clear t3; have t4 := True.intro)
    | (go_at_call 13; have g := t4; refine (sameLit_any [2, 2, 97, 98] 4 rfl _ (fun _ => True) _ _ _ _ _ (hB.below ((Below.refl _ _).alloc (Nat.le_refl _) _)) (byt_lit [2, 2, 97, 98] (new_block x2 _) (by kernel_rfl) trivial (by decide) (by decide))).mono ?_; rintro e x3 ⟨rfl, rfl⟩; clear t4; have t5 := True.intro)
    | (go_at_call 16; refine (tup_any _ _ _ _).mono ?_; rintro e x4 ⟨rfl, hb4⟩; have hu := hu.alloc.call hb4)
    | (go_at_call 14; have g := t5; refine (bytesLit_any (.tup []) [7, 0] 2 tup0_fits tup0_bytes rfl (by omega) (fun _ => True) _ _ (tup0_is _ _)).mono ?_; rintro e x5 ⟨⟨a2, c2, rfl, hB2⟩, hb5⟩; have hu := hu.call hb5; clear t5; have t6 := True.intro)
    | (go_at_call 13; have g := t6; refine (sameLit_any [7, 0] 2 rfl _ (fun _ => True) _ _ _ _ _ (hB2.below ((Below.refl _ _).alloc (Nat.le_refl _) _)) (byt_lit [7, 0] (new_block x5 _) (by kernel_rfl) trivial (by decide) (by decide))).mono ?_; rintro e x6 ⟨rfl, rfl⟩; clear t6; have t7 := True.intro)
    | (go_at_call 18; refine (num_any _ _).mono ?_; rintro e x7 ⟨rfl, hb7⟩; have hu := hu.alloc.call hb7)
    | (go_at_call 19; refine (none_any _).mono ?_; rintro e x8 ⟨rfl, hb8⟩; have hu := hu.alloc.call hb8; have hc8 := (hb8.block _ (by simp)).trans (new_block x7 _))
    | (go_at_call 17; refine (pairs_any [.num 1] (by simp) .nil (fun _ => True) _ _ _ _ (lst1h hc8 trivial (num_is _ _ 1 (by omega) (by omega))) (nil_is _ _)).mono ?_; rintro e x9 ⟨⟨v9, rfl, hL9⟩, hb9⟩; have hu := hu.call hb9)
    | (go_at_call 14; have g := t7; refine (bytesLit_any (conses [.num 1] .nil) [9, 1, 1, 0, 0, 0, 0, 0, 0, 0, 8] 11 list1_fits list1_bytes rfl (by omega) _ _ _ hL9).mono ?_; rintro e x10 ⟨⟨a3, c3, rfl, hB3⟩, hb10⟩; have hu := hu.call hb10; clear t7; have t8 := True.intro)
    | (go_at_call 13; have g := t8; refine (sameLit_any [9, 1, 1, 0, 0, 0, 0, 0, 0, 0, 8] 11 rfl _ (fun _ => True) _ _ _ _ _ (hB3.below ((Below.refl _ _).alloc (Nat.le_refl _) _)) (byt_lit [9, 1, 1, 0, 0, 0, 0, 0, 0, 0, 8] (new_block x10 _) (by kernel_rfl) trivial (by decide) (by decide))).mono ?_; rintro e x11 ⟨rfl, rfl⟩; clear t8; have t9 := True.intro)
    | (go_at_call 12; refine (awake_any _).mono ?_; rintro e x12 ⟨rfl, hb12⟩; have hu := hu.alloc.call hb12))
  go_ret
  exact ⟨rfl, hu.out⟩

set_option maxHeartbeats 2000000 in
set_option maxRecDepth 100000 in
theorem lawSplits4 (g h : Nat) (hg : g < 4294967296) (hh : h < 4294967296) (n : Int) (hn0 : -9223372036854775808 ≤ n) (hn1 : n ≤ 9223372036854775807) (x0 : World) :
    Calls Try.prog 5 #[.int .u32 g, .int .u32 h, .int .i64 n] x0 fun e w' => e = .returned (.bool true) ∧ Below x0.heap.size x0 w' := by
  by_cases hr : 1 ≤ n ∧ n < 1048576
  · have ha := Hid.mk (fun w => bucketLit_any g g n _ _ hg rfl hn0 hn1 rfl rfl w)
    have hb := Hid.mk (fun w => bucketLit_any g g (n + 1) _ _ hg rfl (by omega) (by omega) rfl rfl w)
    have hc := Hid.mk (fun w => bucketLit_any h h n _ _ hh rfl hn0 hn1 rfl rfl w)
    have hd := Hid.mk (fun w => bucketLit_any h h (n + 1) _ _ hh rfl (by omega) (by omega) rfl rfl w)
    have e1 : bktE n = 0 := if_pos (by omega)
    have e2 : bktE (n + 1) = 0 := if_pos (by omega)
    have v1 : ∀ k, bktV k n = (bkt k n.toNat : Int) := fun k => if_pos (by omega)
    have v2 : ∀ k, bktV k (n + 1) = (bkt k (n.toNat + 1) : Int) := fun k => by
      have : (n + 1).toNat = n.toNat + 1 := by omega
      rw [← this]
      exact if_pos (by omega)
    rw [e1, v1] at ha hc
    rw [e2, v2] at hb hd
    obtain ⟨N, rfl⟩ := Int.eq_ofNat_of_zero_le (show 0 ≤ n by omega)
    rw [Int.toNat_natCast] at ha hb hc hd
    have s1 := bkt_split g N (by omega)
    have s2 := bkt_split h N (by omega)
    have l1 := bkt_lt g N (by omega)
    generalize bkt g N = a at ha s1 l1
    generalize bkt g (N + 1) = b at hb s1
    generalize bkt h N = c at hc s2
    generalize bkt h (N + 1) = d at hd s2
    have d1 : decide ((N : Int) < 1) = false := decide_eq_false (by omega)
    have d2 : decide (1048576 ≤ (N : Int)) = false := decide_eq_false (by omega)
    obtain ⟨m, hm⟩ : ∃ m : Nat, N + 1 = m := ⟨_, rfl⟩
    have hp : IntKind.i64.wrap ((N : Int) + 1) = (m : Int) := by rw [wrap_id (by omega) (by omega)]; omega
    have hm' : (N : Int) + 1 = (m : Int) := by omega
    rw [hm'] at hb hd
    have s1 := Hid.mk s1
    have s2 := Hid.mk s2
    have l1 := Hid.mk l1
    clear e1 e2 v1 v2 hr hm' hm hn0 hn1
    have t0 := True.intro
    go_enter Try.func5, Try.ntmps5
    go_wp2_with (first
      | (go_at_call 4; refine (lawKnown4 _).mono ?_; rintro e x1 ⟨rfl, hb1⟩)
      | (go_at_call 7; have g := t3; refine (hd.out _).mono ?_; rintro e x2 ⟨rfl, rfl⟩; clear t3; have t4 := True.intro)
      | (go_at_call 7; have g := t2; refine (hc.out _).mono ?_; rintro e x2 ⟨rfl, rfl⟩; clear t2; have t3 := True.intro)
      | (go_at_call 7; have g := t1; refine (hb.out _).mono ?_; rintro e x2 ⟨rfl, rfl⟩; clear t1; have t2 := True.intro)
      | (go_at_call 7; have g := t0; refine (ha.out _).mono ?_; rintro e x2 ⟨rfl, rfl⟩; clear t0; have t1 := True.intro))
    all_goals
      have s1 := s1.out
      have s2 := s2.out
      have l1 := l1.out
    all_goals
      go_ret
      refine ⟨ret_bool ?_, hb1⟩
      first
        | rfl
        | (simp only [beq_iff_eq]; omega)
        | (exfalso; omega)
  · have t0 := True.intro
    by_cases h1 : n < 1
    · have d1 : decide (n < 1) = true := decide_eq_true h1
      clear hr h1 hn0 hn1
      go_enter Try.func5, Try.ntmps5
      go_wp2_with (go_at_call 4; refine (lawKnown4 _).mono ?_; rintro e x1 ⟨rfl, hb1⟩)
      go_ret
      exact ⟨rfl, hb1⟩
    · have d1 : decide (n < 1) = false := decide_eq_false h1
      have d2 : decide (1048576 ≤ n) = true := decide_eq_true (by omega)
      clear hr h1 hn0 hn1
      go_enter Try.func5, Try.ntmps5
      go_wp2_with (go_at_call 4; refine (lawKnown4 _).mono ?_; rintro e x1 ⟨rfl, hb1⟩)
      go_ret
      exact ⟨rfl, hb1⟩

end Go.Proofs.Ytnelefokpopfdaa
