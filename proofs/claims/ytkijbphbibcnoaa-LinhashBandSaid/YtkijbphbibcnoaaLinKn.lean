/-
  The chapter's examples of buckets, walked.
-/
import Derived.Test.YtkijbphbibcnoaaLinOk
namespace Go.Proofs.Ytkijbphbibcnoaa
open Go.RowKit Go.Deep Go.Maps Go.WideShapes

theorem fine_new {n : Nat} (h1 : 1 ≤ n) (h2 : n ≤ 1024) : Fine (List.replicate n []) := ⟨placed_new h1, by simp; omega, by simp [szB]⟩
theorem Fine.add {B : Bks} (hf : Fine B) {x : Nat} (hx : x < 4294967296) (id : Int) (hs : szB B < 100000) : Fine (addB B x id) := ⟨placed_add hf.placed hx id, by rw [addB_len]; exact hf.len, by rw [szB_add hf.placed.some_]; omega⟩
theorem Fine.remove {B : Bks} (hf : Fine B) (x : Nat) (id : Int) : Fine (removeB B x id) := ⟨placed_remove hf.placed x id, by rw [removeB_len]; exact hf.len, by
  have := hf.size
  cases hh : hasB B x id with
  | true => have := szB_remove hf.placed.some_ hh; omega
  | false => rw [removeB_not hh]; exact this⟩
theorem Fine.split {B : Bks} (hf : Fine B) (hl : B.length < 100000) : Fine (splitB B) := ⟨placed_split hf.placed, by rw [splitB_len]; omega, by rw [szB_split]; exact hf.size⟩
theorem Fine.join {B : Bks} (hf : Fine B) (hl : 2 ≤ B.length) : Fine (joinB B) := ⟨placed_join hf.placed hl, by rw [joinB_len]; have := hf.len; omega, by rw [szB_join hl]; exact hf.size⟩

/-- The examples' buckets, one behind the other. -/
def kB0 : Bks := [[], []]
def kB1 : Bks := [[(0, 5)], []]
def kB2 : Bks := [[(0, 5), (2, 6)], []]
def kB3 : Bks := [[(0, 5), (2, 6)], [(1, 7)]]
def kB4 : Bks := [[(0, 5), (2, 6)], [(1, 7), (3, 8)]]
def kB5 : Bks := [[(0, 5), (2, 6), (4, 9)], [(1, 7), (3, 8)]]
def kB6 : Bks := [[(0, 5), (4, 9)], [(1, 7), (3, 8)], [(2, 6)]]
def kB7 : Bks := [[(0, 5), (4, 9), (2, 6)], [(1, 7), (3, 8)]]
def kB8 : Bks := [[(4, 9), (2, 6)], [(1, 7), (3, 8)]]
theorem k01 : addB kB0 0 5 = kB1 := by decide +kernel
theorem k12 : addB kB1 2 6 = kB2 := by decide +kernel
theorem k23 : addB kB2 1 7 = kB3 := by decide +kernel
theorem k34 : addB kB3 3 8 = kB4 := by decide +kernel
theorem k45 : addB kB4 4 9 = kB5 := by decide +kernel
theorem k56 : splitB kB5 = kB6 := by decide +kernel
theorem k67 : joinB kB6 = kB7 := by decide +kernel
theorem k78 : removeB kB7 0 5 = kB8 := by decide +kernel
theorem k88 : removeB kB8 0 5 = kB8 := by decide +kernel
theorem f0 : Fine kB0 := fine_new (n := 2) (by decide) (by decide)
theorem f1 : Fine kB1 := k01 ▸ f0.add (by decide) 5 (by decide)
theorem f2 : Fine kB2 := k12 ▸ f1.add (by decide) 6 (by decide)
theorem f3 : Fine kB3 := k23 ▸ f2.add (by decide) 7 (by decide)
theorem f4 : Fine kB4 := k34 ▸ f3.add (by decide) 8 (by decide)
theorem f5 : Fine kB5 := k45 ▸ f4.add (by decide) 9 (by decide)
theorem f6 : Fine kB6 := k56 ▸ f5.split (by decide)
theorem f7 : Fine kB7 := k67 ▸ f6.join (by decide)
theorem f8 : Fine kB8 := k78 ▸ f7.remove 0 5

/-- The three items of the examples, in boxes. -/
structure Items3 (w : World) (b : Nat) : Prop where
  a0 : w.cell? ⟨b, 0, none⟩ = some (.int .u32 0)
  a1 : w.cell? ⟨b, 1, none⟩ = some (.int .i64 5)
  b0 : w.cell? ⟨b + 1, 0, none⟩ = some (.int .u32 4)
  b1 : w.cell? ⟨b + 1, 1, none⟩ = some (.int .i64 9)
  c0 : w.cell? ⟨b + 1 + 1, 0, none⟩ = some (.int .u32 2)
  c1 : w.cell? ⟨b + 1 + 1, 1, none⟩ = some (.int .i64 6)
theorem items3_made (w : World) : Items3 (((w.alloc (.cells #[.int .u32 0, .int .i64 5] 54)).alloc (.cells #[.int .u32 4, .int .i64 9] 54)).alloc (.cells #[.int .u32 2, .int .i64 6] 54)) w.heap.size := by
  obtain ⟨W1, h1⟩ : ∃ W1, w.alloc (.cells #[.int .u32 0, .int .i64 5] 54) = W1 := ⟨_, rfl⟩
  have s1 : W1.heap.size = w.heap.size + 1 := by rw [← h1, World.size_alloc]
  have a0 : ∀ j, W1.cell? ⟨w.heap.size, j, none⟩ = (#[Value.int .u32 0, .int .i64 5] : Array Value)[j]? := fun j => by rw [← h1]; exact new_cell _ _ _ j
  rw [h1]
  obtain ⟨W2, h2⟩ : ∃ W2, W1.alloc (.cells #[.int .u32 4, .int .i64 9] 54) = W2 := ⟨_, rfl⟩
  have s2 : W2.heap.size = w.heap.size + 1 + 1 := by rw [← h2, World.size_alloc, s1]
  have b0 : ∀ j, W2.cell? ⟨w.heap.size + 1, j, none⟩ = (#[Value.int .u32 4, .int .i64 9] : Array Value)[j]? := fun j => by rw [← h2, ← s1]; exact new_cell _ _ _ j
  have u2 : Up W1 W2 := by rw [← h2]; exact (Up.refl W1).alloc
  rw [h2]
  have u3 := (Up.refl W2).alloc (o := .cells #[.int .u32 2, .int .i64 6] 54)
  have c0 : ∀ j, (W2.alloc (.cells #[.int .u32 2, .int .i64 6] 54)).cell? ⟨w.heap.size + 1 + 1, j, none⟩ = (#[Value.int .u32 2, .int .i64 6] : Array Value)[j]? := fun j => by rw [← s2]; exact new_cell _ _ _ j
  exact ⟨cell_below (u2.call u3.out).out _ _ _ (a0 0), cell_below (u2.call u3.out).out _ _ _ (a0 1), cell_below u3.out _ _ _ (b0 0), cell_below u3.out _ _ _ (b0 1), c0 0, c0 1⟩
theorem Items3.up {w w' : World} {b : Nat} (h : Items3 w b) (hb : Below w.heap.size w w') : Items3 w' b := ⟨cell_below hb _ _ _ h.a0, cell_below hb _ _ _ h.a1, cell_below hb _ _ _ h.b0, cell_below hb _ _ _ h.b1, cell_below hb _ _ _ h.c0, cell_below hb _ _ _ h.c1⟩
theorem Items3.kept {w w' : World} {b : Nat} (h : Items3 w b) (ho : Only (fun k => ¬ (b ≤ k ∧ k < b + 3)) w w') : Items3 w' b :=
  ⟨ho.cellS (fun n => n (by omega)) h.a0, ho.cellS (fun n => n (by omega)) h.a1, ho.cellS (fun n => n (by omega)) h.b0, ho.cellS (fun n => n (by omega)) h.b1, ho.cellS (fun n => n (by omega)) h.c0, ho.cellS (fun n => n (by omega)) h.c1⟩
section
variable {Lb : World → Nat → Nat → (Nat → Prop) → Bks → Prop} (K : LinOk Lb)
include K
theorem added_any {w0 w : World} {p least : Nat} {B B' : Bks} {F : Nat → Prop} (x : Nat) (id want : Int) (h : Lo Lb w0 w p least B F) (hf : Fine B) (hx : x < 4294967296) (hB : addB B x id = B') (hw : (ofB B x : Int) = want) :
    Calls Try.prog 22 #[.pointer (some ⟨p, 0, none⟩), .int .u32 x, .int .i64 id, .int .i64 want] w fun e w' => e = .returned (.bool true) ∧ Lo Lb w0 w' p least B' F ∧ Only (fun k => ¬ F k) w w' := by
  have hc := Hid.mk (h.add K hf x id hx)
  rw [hB, hw] at hc
  clear h hf hx hB hw
  go_enter Try.func22, Try.ntmps22
  go_wp2_with (go_at_call 12; refine hc.out.mono ?_; rintro e w1 ⟨rfl, hl⟩; have HL := Hid.mk hl; clear hl)
  go_ret
  exact ⟨rfl, HL.out⟩
theorem has_any {w0 w : World} {p least : Nat} {B : Bks} {F : Nat → Prop} (n : Int) (l : List It) (a : Option Addr) (c : Nat) (h : Lo Lb w0 w p least B F) (hf : Fine B) (ha : CelT w l a) (he : atE B n = 0) (hv : atV B n = l) (hl : l.length ≤ 1000) :
    Calls Try.prog 23 #[.pointer (some ⟨p, 0, none⟩), .int .i64 n, .slice a l.length c] w fun e w' => e = .returned (.bool true) ∧ Below w.heap.size w w' := by
  have hc := Hid.mk (h.at_ K hf n)
  rw [he, hv] at hc
  have HA := Hid.mk (And.intro ha hl)
  clear h hf ha he hv hl
  go_enter Try.func23, Try.ntmps23
  go_wp2_with (first
    | (go_at_call 13; refine hc.out.mono ?_; rintro e w1 ⟨v, rfl, ht⟩; have HT := Hid.mk ht; obtain ⟨va, vc, rfl, hcel⟩ := Its.slice ht.its; have HV := Hid.mk hcel; clear ht hcel)
    | (go_at_call 27; refine (sameItems_any l l _ _ _ _ _ HV.out (HA.out.1.up HT.out.below) (by have := HA.out.2; omega)).mono ?_; rintro e w2 ⟨rfl, hb⟩; have HB := Hid.mk hb; clear hb))
  go_ret
  exact ⟨ret_bool (by simp), HT.out.below.trans (HB.out.mono HT.out.below.size)⟩
theorem two_any (w : World) : Calls Try.prog 21 #[] w fun e w' => ∃ p, e = .returned (.tuple #[.pointer (some ⟨p, 0, none⟩), .bool true]) ∧ Lo Lb w w' p 2 kB3 (fun _ => False) := by
  go_enter Try.func21, Try.ntmps21
  go_wp2_with (first
    | (go_at_call 22; refine (added_any K 1 7 1 H3.out f2 (by decide) k23 (by decide +kernel)).mono ?_; rintro e w4 ⟨rfl, h, _⟩; have H4 := Hid.mk h; clear h)
    | (go_at_call 22; refine (added_any K 2 6 0 H2.out f1 (by decide) k12 (by decide +kernel)).mono ?_; rintro e w3 ⟨rfl, h, _⟩; have H3 := Hid.mk h; clear h)
    | (go_at_call 22; refine (added_any K 0 5 0 H1.out f0 (by decide) k01 (by decide +kernel)).mono ?_; rintro e w2 ⟨rfl, h, _⟩; have H2 := Hid.mk h; clear h)
    | (go_at_call 7; refine (lo_new K _ 2 (by decide) (by decide)).mono ?_; rintro e w1 ⟨p, rfl, h⟩; have H1 : Hid (Lo Lb w w1 p 2 kB0 (fun _ => False)) := Hid.mk h; clear h))
  go_ret2
  exact ⟨p, rfl, H4.out⟩
theorem awake10 (w : World) : Calls Try.prog 9 #[] w fun e w' => e = .returned (.bool true) ∧ Below w.heap.size w w' := by
  go_enter Try.func9, Try.ntmps9
  go_wp2_with (first
    | (go_at_call 17; refine (H5.out.count K f3).mono ?_; rintro e w6 ⟨rfl, hb⟩; have H6 := Hid.mk (H5.out.up K hb); clear hb)
    | (go_at_call 16; refine (H4.out.len K f3).mono ?_; rintro e w5 ⟨rfl, hb⟩; have H5 := Hid.mk (H4.out.up K hb); clear hb)
    | (go_at_call 27; refine (sameItems_any [(2, 6)] [(2, 6)] _ _ _ _ _ (HV.out.up (Up.alloc (Up.refl w3)).out) (box_cs (s := itS) (new_block _ _) rfl) (by decide)).mono ?_; rintro e w4 ⟨rfl, hb⟩; have H4 := Hid.mk ((H3.out.up K (Up.alloc (Up.refl w3)).out).up K hb); clear hb)
    | (go_at_call 15; refine (H1.out.chain K f3 2 (by decide)).mono ?_; rintro e w3 ⟨v, rfl, ht⟩; have H3 := Hid.mk (H1.out.up K ht.below); rw [show chainB kB3 2 = [(2, 6)] by decide +kernel] at ht; obtain ⟨va, vc, rfl, hcel⟩ := Its.slice ht.its; have HV := Hid.mk hcel; clear ht hcel)
    | (go_at_call 21; refine (two_any K w).mono ?_; rintro e w1 ⟨p, rfl, h⟩; have H1 := Hid.mk h; clear h))
  go_ret
  exact ⟨rfl, H6.out.below⟩
set_option maxHeartbeats 4000000 in
set_option maxRecDepth 100000 in
theorem known10 (w : World) : Calls Try.prog 5 #[] w fun e w' => e = .returned (.bool true) ∧ Below w.heap.size w w' := by
  go_enter Try.func5, Try.ntmps5
  go_upto_region 4 with (first
    | (go_at_call 19; refine (H7.out.split K f5).mono ?_; rintro e w8 ⟨rfl, h, _⟩; rw [k56] at h; have H8 := Hid.mk h; clear h)
    | (go_at_call 18; refine (H6.out.wants K f5).mono ?_; rintro e w7 ⟨rfl, hb⟩; rw [show wantsB 2 kB5 = 1 by decide +kernel]; have H7 := Hid.mk (H6.out.up K hb); clear hb)
    | (go_at_call 22; refine (added_any K 4 9 0 H5.out f4 (by decide) k45 (by decide +kernel)).mono ?_; rintro e w6 ⟨rfl, h, _⟩; have H6 := Hid.mk h; clear h)
    | (go_at_call 18; refine (H4.out.wants K f4).mono ?_; rintro e w5 ⟨rfl, hb⟩; rw [show wantsB 2 kB4 = 0 by decide +kernel]; have H5 := Hid.mk (H4.out.up K hb); clear hb)
    | (go_at_call 22; refine (added_any K 3 8 1 H3.out f3 (by decide) k34 (by decide +kernel)).mono ?_; rintro e w4 ⟨rfl, h, _⟩; have H4 := Hid.mk h; clear h)
    | (go_at_call 9; refine (awake10 K _).mono ?_; rintro e w3 ⟨rfl, hb⟩; have H3 := Hid.mk (H1.out.up K hb); clear hb)
    | (go_at_call 21; refine (two_any K w).mono ?_; rintro e w1 ⟨p, rfl, h⟩; have H1 := Hid.mk h; clear h))
  go_upto_region 5 with fail
  obtain ⟨W, hW⟩ : ∃ W, ((w8.alloc (.cells #[.int .u32 0, .int .i64 5] 54)).alloc (.cells #[.int .u32 4, .int .i64 9] 54)).alloc (.cells #[.int .u32 2, .int .i64 6] 54) = W := ⟨_, rfl⟩
  have hF0 : Items3 W w8.heap.size := by
    rw [← hW]
    exact items3_made w8
  have hup : Below w8.heap.size w8 W := by rw [← hW]; exact (Up.alloc (Up.alloc (Up.alloc (Up.refl w8)))).out
  have hsz : W.heap.size = w8.heap.size + 3 := by rw [← hW]; simp
  have H9 := Hid.mk ((H8.out.more K hup (G := fun k => w8.heap.size ≤ k ∧ k < w8.heap.size + 3) (fun k hk => ⟨hk.1, by omega⟩)).weaken (F' := fun k => w8.heap.size ≤ k ∧ k < w8.heap.size + 3) (fun k hk => Or.inr hk))
  have F9 := Hid.mk hF0
  rw [hW]
  obtain ⟨b, hb⟩ : ∃ b, w8.heap.size = b := ⟨_, rfl⟩
  rw [hb] at F9 H9
  rw [hb]
  obtain ⟨c50, c51, c90, c91, c60, c61⟩ := F9.out
  clear hF0 hup hsz hW H8 H7 H6 H5 H4 H3 H1
  go_upto_region 7 with (first
    | (have g := H13; go_at_call 23; refine (has_any K 0 [(0, 5), (4, 9), (2, 6)] _ _ (H13.out.up K (Up.alloc (Up.refl w13)).out) f7 (box_cs (s := itS) (new_block _ _) rfl) (by decide +kernel) (by decide +kernel) (by decide)).mono ?_; rintro e w14 ⟨rfl, hb⟩; have H14 := Hid.mk ((H13.out.up K (Up.alloc (Up.refl w13)).out).up K hb); clear hb)
    | (go_at_call 20; refine (H12.out.join K f6 (by decide)).mono ?_; rintro e w13 ⟨rfl, h, ho⟩; rw [if_pos (by decide), k67] at h; have H13 := Hid.mk h; have F13 := Hid.mk (F12.out.kept ho); obtain ⟨c50, c51, c90, c91, c60, c61⟩ := F13.out; clear h ho)
    | (go_at_call 18; refine (H11.out.wants K f6).mono ?_; rintro e w12 ⟨rfl, hb⟩; rw [show wantsB 2 kB6 = 0 by decide +kernel]; have H12 := Hid.mk (H11.out.up K hb); have F12 := Hid.mk (F11.out.up hb); clear hb)
    | (have g := H10; go_at_call 23; refine (has_any K 2 [(2, 6)] _ _ (H10.out.up K (Up.alloc (Up.refl w10)).out) f6 (box_cs (s := itS) (new_block _ _) rfl) (by decide +kernel) (by decide +kernel) (by decide)).mono ?_; rintro e w11 ⟨rfl, hb⟩; have H11 := Hid.mk ((H10.out.up K (Up.alloc (Up.refl w10)).out).up K hb); have F11 := Hid.mk ((F10.out.up (Up.alloc (Up.refl w10)).out).up hb); clear hb)
    | (go_at_call 23; refine (has_any K 0 [(0, 5), (4, 9)] _ _ (H9'.out.up K (Up.alloc (Up.refl w9)).out) f6 (box_cs (s := itS) (new_block _ _) rfl) (by decide +kernel) (by decide +kernel) (by decide)).mono ?_; rintro e w10 ⟨rfl, hb⟩; have H10 := Hid.mk ((H9'.out.up K (Up.alloc (Up.refl w9)).out).up K hb); have F10 := Hid.mk ((F9'.out.up (Up.alloc (Up.refl w9)).out).up hb); obtain ⟨c50, c51, c90, c91, c60, c61⟩ := F10.out; clear hb)
    | (go_at_call 17; refine (H9.out.count K f6).mono ?_; rintro e w9 ⟨rfl, hb⟩; have H9' := Hid.mk (H9.out.up K hb); have F9' := Hid.mk (F9.out.up hb); obtain ⟨c50, c51, c90, c91, c60, c61⟩ := F9'.out; clear hb))
  go_wp2_with (first
    | (have g := H17; go_at_call 20; refine (H17.out.join K f8 (by decide)).mono ?_; rintro e w18 ⟨rfl, h, _⟩; rw [if_neg (by decide)] at h; rw [if_neg (by decide)]; have H18 := Hid.mk h; clear h)
    | (have g := H16; go_at_call 14; refine (H16.out.remove K f8 0 5 (by decide)).mono ?_; rintro e w17 ⟨rfl, h, _⟩; rw [k88] at h; rw [show hasB kB8 0 5 = false by decide +kernel]; have H17 := Hid.mk h; clear h)
    | (have g := H15; go_at_call 14; refine (H15.out.remove K f7 0 5 (by decide)).mono ?_; rintro e w16 ⟨rfl, h, _⟩; rw [k78] at h; rw [show hasB kB7 0 5 = true by decide +kernel]; have H16 := Hid.mk h; clear h)
    | (go_at_call 13; refine (H14.out.at_ K f7 2).mono ?_; rintro e w15 ⟨v, rfl, ht⟩; rw [show atE kB7 2 = 2 by decide +kernel]; have H15 := Hid.mk (H14.out.up K ht.below); clear ht))
  go_ret
  exact ⟨rfl, H18.out.below⟩
end
end Go.Proofs.Ytkijbphbibcnoaa
