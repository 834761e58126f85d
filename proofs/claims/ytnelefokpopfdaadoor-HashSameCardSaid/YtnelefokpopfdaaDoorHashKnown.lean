/-
  HashKnown: the chapter's examples.
-/
import Derived.Test.YtnelefokpopfdaaDoorHashLit
import Derived.Test.YtnelefokpopfdaaDoorHashSplit
namespace Go.Proofs.YtnelefokpopfdaaDoor
open Go.RowKit Go.Deep

theorem symab_bytes : (Tm.sym ⟨#[97, 98]⟩).bytes = [2, 2, 97, 98] := by kernel_rfl
theorem symab_fits : (Tm.sym ⟨#[97, 98]⟩).fits = true := by kernel_rfl
theorem tup0_bytes : (Tm.tup []).bytes = [7, 0] := by kernel_rfl
theorem tup0_fits : (Tm.tup []).fits = true := by kernel_rfl
theorem list1_bytes : (conses [.num 1] .nil).bytes = [9, 1, 1, 0, 0, 0, 0, 0, 0, 0, 8] := by kernel_rfl
theorem list1_fits : (conses [.num 1] .nil).fits = true := by kernel_rfl
theorem tup0_is (w : World) (S : Nat → Prop) : Lies w S (.tup []) (.agg #[.int .i64 7, .int .i64 0, .string ⟨#[]⟩, .slice none 0 0]) := Lies.mk (l := []) (small_of (by omega) (by omega) (by omega) (by omega) size_empty) (lst_nil _ _)

theorem lst1h {w : World} {S : Nat → Prop} {t : Tm} {nb : Nat} {h0 h1 h2 h3 : Value} {ty : TypeId} (hc : w.heap[nb]? = some (.cells #[h0, h1, h2, h3] ty (0, 0))) (hnb : S nb) (ht : Lies w S t (.agg #[h0, h1, h2, h3])) : Lst w S [t] (some ⟨nb, 0, none⟩) 1 := by
  have hcell : ∀ j, w.cell? ⟨nb, j, none⟩ = #[h0, h1, h2, h3][j]? := fun j => cell_of_row w nb j _ ty (0, 0) hc
  refine ⟨Nat.le_refl _, by simp, Or.inr ⟨_, rfl, fun _ => ⟨hnb, rfl⟩, ?_⟩⟩
  rw [Row, Row]
  exact ⟨⟨h0, h1, h2, h3, hcell 0, hcell 1, hcell 2, hcell 3, ht⟩, trivial⟩

set_option maxHeartbeats 2000000 in
theorem lawKnown4 (x0 : World) : Calls Tryd.prog 4 #[] x0 fun e w' => e = .returned (.bool true) ∧ Below x0.heap.size x0 w' := by
  have t0 := True.intro
  go_enter Tryd.func4, Tryd.ntmps4
  go_wp2_with (first
    | (go_at_call 11; have g := t2; refine (bucketLit_any 1 1 0 0 2 (by omega) rfl (by omega) (by omega) (by kernel_rfl) (by kernel_rfl) _).mono ?_; rintro e x1 ⟨rfl, rfl⟩; clear t2; have t3 := True.intro)
    | (go_at_call 11; have g := t1; refine (bucketLit_any 3 3 1 0 0 (by omega) rfl (by omega) (by omega) (by kernel_rfl) (by kernel_rfl) _).mono ?_; rintro e x1 ⟨rfl, rfl⟩; clear t1; have t2 := True.intro)
    | (go_at_call 11; have g := t0; refine (bucketLit_any 6 6 8 6 0 (by omega) rfl (by omega) (by omega) (by kernel_rfl) (by kernel_rfl) _).mono ?_; rintro e x1 ⟨rfl, rfl⟩; clear t0; have t1 := True.intro)
    | (go_at_call 12; refine (sym_any _ _).mono ?_; rintro e x1 ⟨rfl, hb1⟩; have hu := (Up.refl x0).call hb1)
    | (go_at_call 9; have g := t3; refine (bytesLit_any (.sym ⟨#[97, 98]⟩) [2, 2, 97, 98] 4 symab_fits symab_bytes rfl (by omega) (fun _ => True) _ _ (sym_is _ _ _ (by decide))).mono ?_; rintro e x2 ⟨⟨a1, c1, rfl, hB⟩, hb2⟩; have hu := hu.call hb2; clear t3; have t4 := True.intro)
    | (go_at_call 8; have g := t4; refine (sameLit_any [2, 2, 97, 98] 4 rfl _ (fun _ => True) _ _ _ _ _ (hB.below ((Below.refl _ _).alloc (Nat.le_refl _) _)) (byt_lit [2, 2, 97, 98] (new_block x2 _) (by kernel_rfl) trivial (by decide) (by decide))).mono ?_; rintro e x3 ⟨rfl, rfl⟩; clear t4; have t5 := True.intro)
    | (go_at_call 13; refine (tup_any _ _ _ _).mono ?_; rintro e x4 ⟨rfl, hb4⟩; have hu := hu.alloc.call hb4)
    | (go_at_call 9; have g := t5; refine (bytesLit_any (.tup []) [7, 0] 2 tup0_fits tup0_bytes rfl (by omega) (fun _ => True) _ _ (tup0_is _ _)).mono ?_; rintro e x5 ⟨⟨a2, c2, rfl, hB2⟩, hb5⟩; have hu := hu.call hb5; clear t5; have t6 := True.intro)
    | (go_at_call 8; have g := t6; refine (sameLit_any [7, 0] 2 rfl _ (fun _ => True) _ _ _ _ _ (hB2.below ((Below.refl _ _).alloc (Nat.le_refl _) _)) (byt_lit [7, 0] (new_block x5 _) (by kernel_rfl) trivial (by decide) (by decide))).mono ?_; rintro e x6 ⟨rfl, rfl⟩; clear t6; have t7 := True.intro)
    | (go_at_call 15; refine (num_any _ _).mono ?_; rintro e x7 ⟨rfl, hb7⟩; have hu := hu.alloc.call hb7)
    | (go_at_call 16; refine (none_any _).mono ?_; rintro e x8 ⟨rfl, hb8⟩; have hu := hu.alloc.call hb8; have hc8 := (hb8.block _ (by simp)).trans (new_block x7 _))
    | (go_at_call 14; refine (pairs_any [.num 1] (by simp) .nil (fun _ => True) _ _ _ _ (lst1h hc8 trivial (num_is _ _ 1 (by omega) (by omega))) (nil_is _ _)).mono ?_; rintro e x9 ⟨⟨v9, rfl, hL9⟩, hb9⟩; have hu := hu.call hb9)
    | (go_at_call 9; have g := t7; refine (bytesLit_any (conses [.num 1] .nil) [9, 1, 1, 0, 0, 0, 0, 0, 0, 0, 8] 11 list1_fits list1_bytes rfl (by omega) _ _ _ hL9).mono ?_; rintro e x10 ⟨⟨a3, c3, rfl, hB3⟩, hb10⟩; have hu := hu.call hb10; clear t7; have t8 := True.intro)
    | (go_at_call 8; have g := t8; refine (sameLit_any [9, 1, 1, 0, 0, 0, 0, 0, 0, 0, 8] 11 rfl _ (fun _ => True) _ _ _ _ _ (hB3.below ((Below.refl _ _).alloc (Nat.le_refl _) _)) (byt_lit [9, 1, 1, 0, 0, 0, 0, 0, 0, 0, 8] (new_block x10 _) (by kernel_rfl) trivial (by decide) (by decide))).mono ?_; rintro e x11 ⟨rfl, rfl⟩; clear t8; have t9 := True.intro)
    | (go_at_call 17; refine (awake_any _).mono ?_; rintro e x12 ⟨rfl, hb12⟩; have hu := hu.alloc.call hb12))
  go_ret
  exact ⟨rfl, hu.out⟩

end Go.Proofs.YtnelefokpopfdaaDoor
