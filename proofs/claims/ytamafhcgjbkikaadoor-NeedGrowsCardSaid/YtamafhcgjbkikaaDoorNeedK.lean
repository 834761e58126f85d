/-
  The chapter's examples: NeedKnown returns true.
-/
import Derived.Test.YtamafhcgjbkikaaDoorNeedB
import Derived.Test.YtamafhcgjbkikaaDoorTermPairs
import Derived.Test.YtamafhcgjbkikaaDoorTermPlain
namespace Go.Proofs.YtamafhcgjbkikaaDoor
open Go.RowKit Go.Deep

def pairN : Tm := .tup [.sym ⟨#[97]⟩, .num 1]
theorem pairN_size : pairN.size ≤ 1000000 := by decide
set_option maxHeartbeats 1000000 in
theorem pairN_any (w : World) : Calls Tryd.prog 26 #[] w fun e w' => ∃ (a : Option Addr), e = .returned (.agg #[.int .i64 7, .int .i64 0, .string ⟨#[]⟩, .slice a 2 2]) ∧ Below w.heap.size w w' ∧
    Lies w' (fun b => w.heap.size ≤ b) pairN (.agg #[.int .i64 7, .int .i64 0, .string ⟨#[]⟩, .slice a 2 2]) := by
  obtain ⟨W0, hW0⟩ : ∃ W0, w.alloc (.cells #[.int .i64 0, .int .i64 0, .string ⟨#[]⟩, .slice none 0 0] 24) = W0 := ⟨_, rfl⟩
  have hb0 : Below w.heap.size w W0 := by rw [← hW0]; exact (Below.refl _ _).alloc (Nat.le_refl _) _
  have hz0 : W0.heap.size = w.heap.size + 1 := by rw [← hW0]; simp
  have hbx : W0.heap[w.heap.size]? = some (.cells #[.int .i64 0, .int .i64 0, .string ⟨#[]⟩, .slice none 0 0] 24) := by rw [← hW0]; exact new_block _ _
  have HB0 := Hid.mk hb0
  have HZ0 := Hid.mk hz0
  have HBX := Hid.mk hbx
  clear hb0 hz0 hbx
  go_enter Tryd.func26, Tryd.ntmps26
  go_upto_region 1 with fail
  try rw [hW0]
  clear hW0
  go_wp2_with (first
    | (go_at_call 44; refine (sym_any _ _).mono ?_; rintro e w1 ⟨rfl, hb1⟩; have hu1 : Up W0 w1 := hb1)
    | (go_at_call 45; refine (num_any _ _).mono ?_; rintro e w2 ⟨rfl, hb2⟩; have hu2 := hu1.call hb2)
    | (go_at_call 43; refine (tup_any _ _ _ _).mono ?_; rintro e w3 ⟨rfl, hb3⟩
       have hx3 := (hb3.block _ (by simp)).trans (new_block w2 (.cells #[.int .i64 2, .int .i64 0, .string ⟨#[97]⟩, .slice none 0 0, .int .i64 1, .int .i64 1, .string ⟨#[]⟩, .slice none 0 0] 24))
       have hu3 := hu2.alloc.call hb3
       obtain ⟨⟨q0, q1, q2, q3⟩, r0, r1, r2, r3⟩ := kept4 HBX.out hu3.out
       have HU2 := Hid.mk hu2.out.size
       have HU3 := Hid.mk hu3
       have HX3 := Hid.mk hx3
       clear hb1 hb2 hb3 hx3 hu3 hu1))
  have hz0 := HZ0.out
  have h2 := HU2.out
  refine ret_stored rfl rfl rfl q0 q1 q2 q3 ⟨_, rfl, Below.set4 (HB0.out.trans (HU3.out.out.mono HB0.out.size)) (Nat.le_refl _), ?_⟩
  have hl := lst2 (S := fun b => w.heap.size ≤ b) (t := .sym ⟨#[97]⟩) (r := .num 1) (w := (((((w3.setCell ⟨w.heap.size, 0, none⟩ (.int .i64 7)).setCell ⟨w.heap.size, 1, none⟩ (.int .i64 0)).setCell ⟨w.heap.size, 2, none⟩ (.string ⟨#[]⟩)).setCell ⟨w.heap.size, 3, none⟩ (.slice (some ⟨w2.heap.size, 0, none⟩) 2 2)))) ((set4_heap _ _ _ _ _ _ _ (by omega)).trans HX3.out) (by omega) (sym_is _ _ ⟨#[97]⟩ (by decide)) (num_is _ _ 1 (by omega) (by omega))
  exact Lies.mk (l := [.sym ⟨#[97]⟩, .num 1]) tup_small hl
theorem pairN_obj : objV pairN = 4 ∧ pairN.check = 0 := ⟨by kernel_rfl, by kernel_rfl⟩
theorem pairN_put1 : putV 1 16 32 pairN = 24 ∧ putE 1 16 32 pairN = 0 := ⟨by kernel_rfl, by kernel_rfl⟩
theorem pairN_put2 : putV 1 16 31 pairN = 8 ∧ putE 1 16 31 pairN = 0 := ⟨by kernel_rfl, by kernel_rfl⟩
theorem pairN_put3 : putV 2 0 9 pairN = 10 ∧ putE 2 0 9 pairN = 0 := ⟨by kernel_rfl, by kernel_rfl⟩
theorem sum1 : sumV 1 16 [] = 32 ∧ sumE 1 16 [] = 0 := ⟨by kernel_rfl, by kernel_rfl⟩
theorem sum2 : sumV 2 0 [pairN] = 26 ∧ sumE 2 0 [pairN] = 0 := ⟨by kernel_rfl, by kernel_rfl⟩
theorem sum3 : sumV 0 0 [] = 0 ∧ sumE 0 0 [] = 2 := ⟨by kernel_rfl, by kernel_rfl⟩
theorem node_at {k n : Int} (h : nodeN k = n) (w : World) (ht : Tabs w) : Calls Tryd.prog 12 #[.int .i64 k] w fun e w' => e = .returned (.int .i64 n) ∧ w = w' := h ▸ nodeI_any k w ht.kind
theorem table_at {k n : Int} (h : tableN k = n) (w : World) (ht : Tabs w) : Calls Tryd.prog 14 #[.int .i64 k] w fun e w' => e = .returned (.int .i64 n) ∧ w = w' := h ▸ tableI_any k w ht.kind
theorem bkt_at {k n : Int} (h : bktN k = n) (w : World) : Calls Tryd.prog 16 #[.int .i64 k] w fun e w' => e = .returned (.int .i64 n) ∧ w = w' := h ▸ bucketsI_any k w
theorem sum_at {k b n x : Int} {l : List Tm} (h : sumV k b l = n ∧ sumE k b l = x) (hsz : sizes l ≤ 1000000) (S : Nat → Prop) (a : Option Addr) (cap : Nat) (w : World) (hl : Lst w S l a cap) (ht : Tabs w) :
    Calls Tryd.prog 21 #[.int .i64 k, .int .i64 b, .slice a l.length cap] w fun e w' => e = .returned (.tuple #[.int .i64 n, .int .i64 x]) ∧ Below w.heap.size w w' := by
  have := sumI_any k b l hsz S a cap w hl ht
  rw [h.1, h.2] at this
  exact this
theorem obj_pair {S : Nat → Prop} {v : Value} {w : World} (hv : Lies w S pairN v) (ht : Tabs w) : Calls Tryd.prog 9 #[v] w fun e w' => e = .returned (.tuple #[.int .i64 4, .int .i64 0]) ∧ Below w.heap.size w w' := by
  have := objectI_any pairN pairN_size S v w hv ht.shape
  rw [pairN_obj.1, pairN_obj.2] at this
  exact this
theorem puts_any (k b c n : Int) (h : putV k b c pairN = n ∧ putE k b c pairN = 0) (w : World) (ht : Tabs w) : Calls Tryd.prog 27 #[.int .i64 k, .int .i64 b, .int .i64 c, .int .i64 n] w fun e w' => e = .returned (.bool true) ∧ Below w.heap.size w w' := by
  have hp := Hid.mk (fun S v w hv ht => putI_any k b c pairN pairN_size S v w hv ht)
  rw [h.1, h.2] at hp
  have ht := Hid.mk ht
  have hq : Up w w := Up.refl w
  clear h
  go_enter Tryd.func27, Tryd.ntmps27
  go_wp2_with (first
    | (go_at_call 26; refine (pairN_any _).mono ?_; rintro e w1 ⟨a, rfl, hb, hl⟩; have hq := hq.call hb; have hl := Hid.mk hl; clear hb)
    | (go_at_call 23; refine (hp.out _ _ _ hl.out (ht.out.below hq.out)).mono ?_; rintro e w2 ⟨rfl, hb⟩; have hq := hq.call hb; clear hb))
  go_ret
  exact ⟨ret_bool (by simp), hq.out⟩
set_option maxRecDepth 100000 in
set_option maxHeartbeats 1000000 in
theorem awake13_any (w : World) (ht : Tabs w) : Calls Tryd.prog 18 #[] w fun e w' => e = .returned (.bool true) ∧ Below w.heap.size w w' := by
  have ht := Hid.mk ht
  have hq : Up w w := Up.refl w
  go_enter Tryd.func18, Tryd.ntmps18
  go_wp2_with (first
    | (go_at_call 26; refine (pairN_any _).mono ?_; rintro e w1 ⟨a, rfl, hb, hl⟩; have hq := hq.call hb; have hl := Hid.mk hl; clear hb)
    | (go_at_call 9; refine (obj_pair hl.out (ht.out.below hq.out)).mono ?_; rintro e w2 ⟨rfl, hb⟩; have hq := hq.call hb; clear hb)
    | (go_at_call 12; refine (node_at (n := 6) (by decide) _ (ht.out.below hq.out)).mono ?_; rintro e w2 ⟨rfl, rfl⟩)
    | (go_at_call 14; refine (table_at (n := 16) (by decide) _ (ht.out.below hq.out)).mono ?_; rintro e w2 ⟨rfl, rfl⟩)
    | (go_at_call 16; refine (bkt_at (n := 16) (by decide) _).mono ?_; rintro e w2 ⟨rfl, rfl⟩)
    | (go_at_call 27; refine (puts_any 1 16 32 24 pairN_put1 _ (ht.out.below hq.out)).mono ?_; rintro e w2 ⟨rfl, hb⟩; have hq := hq.call hb; clear hb))
  go_ret
  exact ⟨rfl, hq.out⟩
theorem lst1N {w : World} {S : Nat → Prop} {t : Tm} {nb : Nat} {h0 h1 h2 h3 : Value} {ty : TypeId} (hc : w.heap[nb]? = some (.cells #[h0, h1, h2, h3] ty (0, 0))) (hnb : S nb) (ht : Lies w S t (.agg #[h0, h1, h2, h3])) :
    Lst w S [t] (some ⟨nb, 0, none⟩) 1 :=
  ⟨Nat.le_refl _, by decide, Or.inr ⟨_, rfl, fun _ => ⟨hnb, rfl⟩, Row.of fun i hi => by
    obtain rfl : i = 0 := by simpa using hi
    exact ⟨h0, h1, h2, h3, by simp [World.cell?, hc], by simp [World.cell?, hc], by simp [World.cell?, hc], by simp [World.cell?, hc], ht⟩⟩⟩
theorem sum_pair {a : Option Addr} {w : World} (hl : Lies w (fun _ => True) pairN (.agg #[.int .i64 7, .int .i64 0, .string ⟨#[]⟩, .slice a 2 2])) (ht : Tabs w) :
    Calls Tryd.prog 21 #[.int .i64 2, .int .i64 0, .slice (some ⟨w.heap.size, 0, none⟩) 1 1] (w.alloc (.cells #[.int .i64 7, .int .i64 0, .string ⟨#[]⟩, .slice a 2 2] 24)) fun e w' => e = .returned (.tuple #[.int .i64 26, .int .i64 0]) ∧ Below w.heap.size w w' := by
  have hb : Below w.heap.size w (w.alloc (.cells #[.int .i64 7, .int .i64 0, .string ⟨#[]⟩, .slice a 2 2] 24)) := (Below.refl _ _).alloc (Nat.le_refl _) _
  exact (sum_at (l := [pairN]) sum2 (by decide) (fun _ => True) (some ⟨w.heap.size, 0, none⟩) 1 _ (lst1N (new_block _ _) trivial (hl.below hb)) (ht.below hb)).mono fun _ _ h => ⟨h.1, hb.trans (h.2.mono (by simp))⟩
set_option maxRecDepth 100000 in
set_option maxHeartbeats 1000000 in
theorem known13_any (w : World) (ht : Tabs w) : Calls Tryd.prog 5 #[] w fun e w' => e = .returned (.bool true) ∧ Below w.heap.size w w' := by
  have ht := Hid.mk ht
  have hq : Up w w := Up.refl w
  go_enter Tryd.func5, Tryd.ntmps5
  go_wp2_with (first
    | (go_at_call 21; have g := m2; refine (sum_at sum3 (by decide) (fun _ => True) none 0 _ (lst_nil _ _) (ht.out.below hq.out)).mono ?_; rintro e w4 ⟨rfl, hb⟩; have hq := hq.call hb; clear hb)
    | (go_at_call 21; have g := m1; refine (sum_pair (hl.out.wider (fun _ _ => trivial)) (ht.out.below hq.out)).mono ?_; rintro e w3 ⟨rfl, hb⟩; have hq := hq.call hb; have m2 := True.intro; clear hb)
    | (go_at_call 21; refine (sum_at sum1 (by decide) (fun _ => True) none 0 _ (lst_nil _ _) (ht.out.below hq.out)).mono ?_; rintro e w1 ⟨rfl, hb⟩; have hq := hq.call hb; have m1 := True.intro; clear hb)
    | (go_at_call 26; refine (pairN_any _).mono ?_; rintro e w2 ⟨a, rfl, hb, hl⟩; have hq := hq.call hb; have hl := Hid.mk hl; clear hb)
    | (go_at_call 18; refine (awake13_any _ (ht.out.below hq.out)).mono ?_; rintro e w5 ⟨rfl, hb⟩; have hq := hq.call hb; clear hb)
    | (go_at_call 12; have g := n1; refine (node_at (n := 0) (by decide) _ (ht.out.below hq.out)).mono ?_; rintro e w2 ⟨rfl, rfl⟩)
    | (go_at_call 12; refine (node_at (n := 4) (by decide) _ (ht.out.below hq.out)).mono ?_; rintro e w2 ⟨rfl, rfl⟩; have n1 := True.intro)
    | (go_at_call 16; have g := b2; refine (bkt_at (n := 0) (by decide) _).mono ?_; rintro e w2 ⟨rfl, rfl⟩)
    | (go_at_call 16; have g := b1; refine (bkt_at (n := 32) (by decide) _).mono ?_; rintro e w2 ⟨rfl, rfl⟩; have b2 := True.intro)
    | (go_at_call 16; refine (bkt_at (n := 16) (by decide) _).mono ?_; rintro e w2 ⟨rfl, rfl⟩; have b1 := True.intro)
    | (go_at_call 27; have g := p1; refine (puts_any 2 0 9 10 pairN_put3 _ (ht.out.below hq.out)).mono ?_; rintro e w2 ⟨rfl, hb⟩; have hq := hq.call hb; clear hb)
    | (go_at_call 27; refine (puts_any 1 16 31 8 pairN_put2 _ (ht.out.below hq.out)).mono ?_; rintro e w2 ⟨rfl, hb⟩; have hq := hq.call hb; have p1 := True.intro; clear hb))
  go_ret
  exact ⟨rfl, hq.out⟩
end Go.Proofs.YtamafhcgjbkikaaDoor
