/-
  A count made since a world; the chapter's examples.
-/
import Derived.Test.YtgfelddgiabeoaaFixD
import Derived.OwnWalk
import Derived.Below
namespace Go.Proofs.Ytgfelddgiabeoaa
open Go.RowKit Go.Deep Go.Maps Go.WideShapes

/-- A count made since B0; of what was there nothing is written. -/
structure NowC (B0 : Nat) (w0 w : World) (p bm : Nat) (L : List Int) : Prop where
  cn : Cn w p bm L
  below : Below B0 w0 w
  le : B0 ≤ w.heap.size
  hp : B0 ≤ p
  hm : B0 ≤ bm
section
variable {B0 p bm : Nat} {w0 w w' : World} {L L' : List Int}
theorem NowC.up (h : NowC B0 w0 w p bm L) (hb : Below w.heap.size w w') : NowC B0 w0 w' p bm L := ⟨h.cn.up hb, h.below.trans (hb.mono h.le), Nat.le_trans h.le hb.size, h.hp, h.hm⟩
theorem NowC.step (h : NowC B0 w0 w p bm L) (hs : StepC w p bm L' w') : NowC B0 w0 w' p bm L' := by
  obtain ⟨g1, g2⟩ := hs
  refine ⟨g1, h.below.trans (g2.below (fun k hk => ?_) h.le), Nat.le_trans h.le g2.size, h.hp, h.hm⟩
  rcases hk with rfl | rfl
  · exact h.hp
  · exact h.hm
theorem now_newC (w : World) : Calls Try.prog 7 #[] w fun e w' => e = .returned (.pointer (some ⟨w.heap.size + 1, 0, none⟩)) ∧ NowC w.heap.size w w' (w.heap.size + 1) w.heap.size [] :=
  (newC_any w).mono fun _ _ h => ⟨h.1, h.2.1, h.2.2, h.2.2.size, by omega, Nat.le_refl _⟩
theorem NowC.add (h : NowC B0 w0 w p bm L) (x : Int) (h0 : 0 ≤ x) (h1 : x ≤ 1073741824) (hL : L.length ≤ 1000) : Calls Try.prog 19 #[.pointer (some ⟨p, 0, none⟩), .int .i64 x] w fun e w' => e = .returned (.int .i64 0) ∧ NowC B0 w0 w' p bm (L ++ [x]) := by
  refine (addC_any p bm L x w h.cn ⟨by omega, by omega⟩ hL).mono fun e w' hh => ?_
  have e1 : addE x = 0 := by unfold addE; rw [pidOk_yes h0 h1]; rfl
  have e2 : addL x L = L ++ [x] := by unfold addL; rw [pidOk_yes h0 h1]; rfl
  obtain ⟨g1, g2⟩ := hh
  rw [e1] at g1
  rw [e2] at g2
  exact ⟨g1, h.step g2⟩
theorem NowC.rel (h : NowC B0 w0 w p bm L) (x : Int) (hx : In64 x) (hL : L.length ≤ 1000) {b : Bool} {n : Nat} (hb : relB x L = b) (hn : relE x L = n) (hL' : lessL x 1 L = L') : Calls Try.prog 17 #[.pointer (some ⟨p, 0, none⟩), .int .i64 x] w fun e w' => e = .returned (.tuple #[.bool b, .int .i64 n]) ∧ NowC B0 w0 w' p bm L' := by
  subst hb hn hL'
  exact (relC_any p bm L x w h.cn hx hL).mono fun e w' hh => ⟨hh.1, h.step hh.2⟩
theorem NowC.drop (h : NowC B0 w0 w p bm L) (x : Int) (hx : In64 x) (hL : L.length ≤ 1000) {b : Bool} {n : Nat} (hb : dropB x L = b) (hn : cnt x L = n) (hL' : lessL x n L = L') : Calls Try.prog 18 #[.pointer (some ⟨p, 0, none⟩), .int .i64 x] w fun e w' => e = .returned (.tuple #[.int .i64 n, .bool b]) ∧ NowC B0 w0 w' p bm L' := by
  subst hb hn hL'
  exact (dropC_any p bm L x w h.cn hx hL).mono fun e w' hh => ⟨hh.1, h.step hh.2⟩
theorem NowC.of (h : NowC B0 w0 w p bm L) (x : Int) (hx : In64 x) {n : Nat} (hn : cnt x L = n) : Calls Try.prog 9 #[.pointer (some ⟨p, 0, none⟩), .int .i64 x] w fun e w' => e = .returned (.int .i64 n) ∧ w = w' := by
  subst hn
  exact ofC_any p bm L x w h.cn hx
theorem NowC.total (h : NowC B0 w0 w p bm L) : Calls Try.prog 11 #[.pointer (some ⟨p, 0, none⟩)] w fun e w' => e = .returned (.int .i64 L.length) ∧ w = w' := totalC_any p bm L w h.cn
theorem NowC.holders (h : NowC B0 w0 w p bm L) (hL : L.length ≤ 1000) {H : List Int} (hH : hold L = H) : Calls Try.prog 12 #[.pointer (some ⟨p, 0, none⟩)] w fun e w' => ∃ a cap, e = .returned (.slice a H.length cap) ∧ CelI w' H a ∧ Below w.heap.size w w' := by
  subst hH
  refine (holdC_any p bm L w h.cn hL).mono fun e w' hh => ?_
  obtain ⟨u, rfl, h1, _, h3⟩ := hh
  obtain ⟨a, cap, rfl, hc⟩ := h1.cel
  exact ⟨a, cap, rfl, hc, h3⟩
end
theorem hold73 : hold [7, 3] = [3, 7] := by
  have h := hold_sorted (l := [7, 3]) (ss := [3, 7]) ((List.Perm.swap 7 3 []).trans (hold_perm [7, 3]).symm)
  rw [← h]
  exact List.mergeSort_of_pairwise (by decide)

set_option maxRecDepth 100000 in
set_option maxHeartbeats 1000000 in
theorem three_any (w : World) : Calls Try.prog 20 #[] w fun e w' => ∃ p bm, e = .returned (.tuple #[.pointer (some ⟨p, 0, none⟩), .bool true]) ∧ NowC w.heap.size w w' p bm [7, 3] := by
  go_enter Try.func20, Try.ntmps20
  go_wp2_with (first
    | (go_at_call 7; refine (now_newC _).mono ?_; rintro e w1 ⟨rfl, h⟩; have n0 := Hid.mk h; clear h)
    | (go_at_call 19; have g := n2; refine (n2.out.add 3 (by decide) (by decide) (by decide)).mono ?_; rintro e w4 ⟨rfl, h⟩; have n3 := Hid.mk h; clear h)
    | (go_at_call 19; have g := n1; refine (n1.out.add 7 (by decide) (by decide) (by decide)).mono ?_; rintro e w3 ⟨rfl, h⟩; have n2 := Hid.mk h; clear h)
    | (go_at_call 19; refine (n0.out.add 7 (by decide) (by decide) (by decide)).mono ?_; rintro e w2 ⟨rfl, h⟩; have n1 := Hid.mk h; clear h)
    | (go_at_call 17; refine (n3.out.rel (b := false) (n := 0) (L' := [7, 3]) 7 (by unfold In64; omega) (by decide) (by decide) (by decide) (by decide)).mono ?_; rintro e w5 ⟨rfl, h⟩; have n4 := Hid.mk h; clear h))
  go_ret2
  exact ⟨_, _, rfl, n4.out⟩

set_option maxRecDepth 100000 in
set_option maxHeartbeats 1000000 in
theorem awake12_any (w : World) : Calls Try.prog 16 #[] w fun e w' => e = .returned (.bool true) ∧ Below w.heap.size w w' := by
  go_enter Try.func16, Try.ntmps16
  go_wp2_with (first
    | (go_at_call 20; refine (three_any _).mono ?_; rintro e w1 ⟨p, bm, rfl, h⟩; have n0 := Hid.mk h; clear h)
    | (go_at_call 9; refine (n0.out.of 7 (by unfold In64; omega) (n := 1) (by decide)).mono ?_; rintro e w2 ⟨rfl, rfl⟩)
    | (go_at_call 11; refine n0.out.total.mono ?_; rintro e w2 ⟨rfl, rfl⟩)
    | (go_at_call 12; refine (n0.out.holders (by decide) hold73).mono ?_; rintro e w3 ⟨ha, hc, rfl, h, hb⟩; have HH := Hid.mk h; have n1 := Hid.mk (n0.out.up hb); clear h hb)
    | (go_at_call 13; refine (sameInts_any [3, 7] [3, 7] ha (some ⟨w3.heap.size, 0, none⟩) hc 2 _ (HH.out.up (Up.refl w3).alloc.out) (celI_at (by exact new_block _ _)) (by decide)).mono ?_; rintro e w4 ⟨rfl, hb⟩; have n2 := Hid.mk ((n1.out.up (Up.refl w3).alloc.out).up hb); clear hb))
  go_ret
  exact ⟨rfl, n2.out.below⟩

set_option maxRecDepth 100000 in
set_option maxHeartbeats 1000000 in
theorem known12_any (w : World) : Calls Try.prog 5 #[] w fun e w' => e = .returned (.bool true) ∧ Below w.heap.size w w' := by
  go_enter Try.func5, Try.ntmps5
  go_wp2_with (first
    | (go_at_call 20; refine (three_any _).mono ?_; rintro e w1 ⟨p, bm, rfl, h⟩; have n0 := Hid.mk h; clear h)
    | (go_at_call 16; refine (awake12_any _).mono ?_; rintro e w2 ⟨rfl, hb⟩; have n1 := Hid.mk (n0.out.up hb); clear hb)
    | (go_at_call 18; have g := n2; refine (n2.out.drop (b := false) (n := 0) (L' := [3]) 7 (by unfold In64; omega) (by decide) (by decide) (by decide) (by decide)).mono ?_; rintro e w4 ⟨rfl, h⟩; have n3 := Hid.mk h; clear h)
    | (go_at_call 18; refine (n1.out.drop (b := false) (n := 1) (L' := [3]) 7 (by unfold In64; omega) (by decide) (by decide) (by decide) (by decide)).mono ?_; rintro e w3 ⟨rfl, h⟩; have n2 := Hid.mk h; clear h)
    | (go_at_call 17; have g := n4; refine (n4.out.rel (b := false) (n := 9) (L' := []) 3 (by unfold In64; omega) (by decide) (by decide) (by decide) (by decide)).mono ?_; rintro e w6 ⟨rfl, h⟩; have n5 := Hid.mk h; clear h)
    | (go_at_call 17; refine (n3.out.rel (b := true) (n := 0) (L' := []) 3 (by unfold In64; omega) (by decide) (by decide) (by decide) (by decide)).mono ?_; rintro e w5 ⟨rfl, h⟩; have n4 := Hid.mk h; clear h))
  go_ret
  exact ⟨rfl, n5.out.below⟩

end Go.Proofs.Ytgfelddgiabeoaa
