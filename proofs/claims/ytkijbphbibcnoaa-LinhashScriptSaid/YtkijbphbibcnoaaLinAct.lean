/-
  One call of a script, on both sides.
-/
import Derived.Test.YtkijbphbibcnoaaLinTw
namespace Go.Proofs.Ytkijbphbibcnoaa
open Go.RowKit Go.Deep Go.Maps Go.WideShapes

theorem StR.only {w w' : World} {q least : Nat} {S : Nat → Prop} {B : Bks} (h : StR w q least S B w') : Only S w w' := let ⟨_, _, h, _⟩ := h; h
section
variable {Lb : World → Nat → Nat → (Nat → Prop) → Bks → Prop} (K : LinOk Lb)
include K
set_option maxHeartbeats 4000000 in
set_option maxRecDepth 100000 in
theorem act0 {w wr : World} {p q least : Nat} {B : Bks} {Sr F : Nat → Prop} (h : Sx Lb w wr p q least B B Sr F) (hf : Fine B) (hl : 1 ≤ least) (hs : szB B < 100000 ∧ B.length < 100000) (n : Int) (x : Nat) (hx : x < 4294967296) :
    Calls Try.prog 10 #[.pointer (some ⟨p, 0, none⟩), .pointer (some ⟨q, 0, none⟩), .agg #[.int .i64 0, .int .i64 n, .int .u32 x]] wr fun e w' => e = .returned (.bool true) ∧ ∃ Sr', Sx Lb w w' p q least (addB B x n) (addB B x n) Sr' F := by
  have hb1 := hf.placed.some_
  have HF := Hid.mk (show Fine B ∧ 1 ≤ least ∧ (szB B < 100000 ∧ B.length < 100000) ∧ x < 4294967296 ∧ 1 ≤ B.length from ⟨hf, hl, hs, hx, hb1⟩)
  obtain ⟨nb, hnb⟩ : ∃ nb, wr.heap.size = nb := ⟨_, rfl⟩
  obtain ⟨W1, hW1⟩ : ∃ W1, wr.alloc (.cells #[.int .i64 0, .int .i64 n, .int .u32 x] 34) = W1 := ⟨_, rfl⟩
  have hu : Up wr W1 := by rw [← hW1]; exact (Up.refl wr).alloc
  have HX1 := Hid.mk (h.more K hu.out (fun k => k = nb) (fun k hk => by rw [hk, ← hnb, ← hW1]; simp))
  have hcell : ∀ j, W1.cell? ⟨nb, j, none⟩ = (#[Value.int .i64 0, .int .i64 n, .int .u32 x] : Array Value)[j]? := fun j => by rw [← hW1, ← hnb]; exact new_cell _ _ _ j
  have c0 := hcell 0
  have c1 := hcell 1
  have c2 := hcell 2
  simp only [List.getElem?_toArray, List.getElem?_cons_zero, List.getElem?_cons_succ] at c0 c1 c2
  have hbn := Hid.mk (And.intro hW1 hnb)
  have HNB := Hid.mk (show w.heap.size ≤ nb from hnb ▸ h.lo.below.size)
  clear h hf hl hs hx hb1 hu hcell hnb hW1
  go_enter Try.func10, Try.ntmps10
  go_upto_region 1 with fail
  rw [hbn.out.1, hbn.out.2]
  go_wp2_with (first
    | (go_at_call 28; refine (addR_any q least Sr B x n w2 HX2.out.rb HF.out.2.2.2.1 HF.out.2.2.2.2 (by have := HF.out.2.2.1; omega) (by have := HF.out.2.2.1; omega)).mono ?_; rintro e w3 ⟨rfl, hs⟩; obtain ⟨Sr3, hx3, ho3⟩ := HX2.out.ref K hs; have HX3 := Hid.mk hx3; clear hx3 ho3 hs)
    | (go_at_call 12; refine (HX1.out.lo.add K HF.out.1 x n HF.out.2.2.2.1).mono ?_; rintro e w2 ⟨rfl, hlo, hon⟩; have HX2 := Hid.mk (HX1.out.prog hlo hon); replace c1 := hon.cellS (fun hn => hn (Or.inr (Or.inr rfl))) c1; replace c2 := hon.cellS (fun hn => hn (Or.inr (Or.inr rfl))) c2; clear hlo hon))
  go_ret
  exact ⟨rfl, Sr3, HX3.out.weaken (fun k hk => Or.inl hk)⟩
set_option maxHeartbeats 4000000 in
set_option maxRecDepth 100000 in
theorem act1 {w wr : World} {p q least : Nat} {B : Bks} {Sr F : Nat → Prop} (h : Sx Lb w wr p q least B B Sr F) (hf : Fine B) (hl : 1 ≤ least) (hs : szB B < 100000 ∧ B.length < 100000) (n : Int) (x : Nat) (hx : x < 4294967296) :
    Calls Try.prog 10 #[.pointer (some ⟨p, 0, none⟩), .pointer (some ⟨q, 0, none⟩), .agg #[.int .i64 1, .int .i64 n, .int .u32 x]] wr fun e w' => e = .returned (.bool true) ∧ ∃ Sr', Sx Lb w w' p q least (removeB B x n) (removeB B x n) Sr' F := by
  have hb1 := hf.placed.some_
  have HF := Hid.mk (show Fine B ∧ 1 ≤ least ∧ (szB B < 100000 ∧ B.length < 100000) ∧ x < 4294967296 ∧ 1 ≤ B.length from ⟨hf, hl, hs, hx, hb1⟩)
  obtain ⟨nb, hnb⟩ : ∃ nb, wr.heap.size = nb := ⟨_, rfl⟩
  obtain ⟨W1, hW1⟩ : ∃ W1, wr.alloc (.cells #[.int .i64 1, .int .i64 n, .int .u32 x] 34) = W1 := ⟨_, rfl⟩
  have hu : Up wr W1 := by rw [← hW1]; exact (Up.refl wr).alloc
  have HX1 := Hid.mk (h.more K hu.out (fun k => k = nb) (fun k hk => by rw [hk, ← hnb, ← hW1]; simp))
  have hcell : ∀ j, W1.cell? ⟨nb, j, none⟩ = (#[Value.int .i64 1, .int .i64 n, .int .u32 x] : Array Value)[j]? := fun j => by rw [← hW1, ← hnb]; exact new_cell _ _ _ j
  have c0 := hcell 0
  have c1 := hcell 1
  have c2 := hcell 2
  simp only [List.getElem?_toArray, List.getElem?_cons_zero, List.getElem?_cons_succ] at c0 c1 c2
  have hbn := Hid.mk (And.intro hW1 hnb)
  have HNB := Hid.mk (show w.heap.size ≤ nb from hnb ▸ h.lo.below.size)
  clear h hf hl hs hx hb1 hu hcell hnb hW1
  go_enter Try.func10, Try.ntmps10
  go_upto_region 1 with fail
  rw [hbn.out.1, hbn.out.2]
  obtain ⟨T, hT⟩ : ∃ T, (fun k => ¬ k = nb) = T := ⟨_, rfl⟩
  have NN : ¬ T nb := fun hk => by rw [← hT] at hk; exact hk rfl
  have NSR : ∀ k, Sr k → T k := fun k hk => by rw [← hT]; exact fun e => HX1.out.apart k (Or.inr e) hk
  have HON := Hid.mk (fun (k : Nat) (hk : ¬ (Sr k ∨ (F k ∨ k = nb))) => (show T k by rw [← hT]; exact fun e => hk (Or.inr (Or.inr e))))
  clear hT
  go_upto_region 7 with fail
  refine wp_region_held (S := Only T W1) (by kernel_rfl) ?_
  refine chain_take (i := 0) (d := 50) (v := .pointer (some ⟨p, 0, none⟩)) rfl rfl (by kernel_rfl) (by kernel_rfl) (by kernel_rfl) rfl (fun _ _ => rfl) (fun _ _ _ h => h) (Only.refl _ W1).drew ?_
  simp only [Act.put, List.setIfInBounds_toArray, List.set_cons_zero, List.set_cons_succ]
  refine chain_take (i := 1) (d := 51) (v := .pointer (some ⟨nb, 2, none⟩)) rfl rfl (by kernel_rfl) (by kernel_rfl) (by kernel_rfl) rfl (fun _ _ => (by go_simp)) (fun _ _ _ h => h) (Only.refl _ W1).drew ?_
  simp only [Act.put, List.setIfInBounds_toArray, List.set_cons_zero, List.set_cons_succ]
  refine chain_take (i := 2) (d := 52) (v := .int .u32 x) rfl rfl (by kernel_rfl) (by kernel_rfl) (by kernel_rfl) rfl (fun W h => (by have u0 := Only.cellS h NN c2; go_simp)) (fun _ _ _ h => h) (Only.refl _ W1).drew ?_
  simp only [Act.put, List.setIfInBounds_toArray, List.set_cons_zero, List.set_cons_succ]
  refine chain_take (i := 3) (d := 53) (v := .pointer (some ⟨nb, 1, none⟩)) rfl rfl (by kernel_rfl) (by kernel_rfl) (by kernel_rfl) rfl (fun _ _ => (by go_simp)) (fun _ _ _ h => h) (Only.refl _ W1).drew ?_
  simp only [Act.put, List.setIfInBounds_toArray, List.set_cons_zero, List.set_cons_succ]
  refine chain_take (i := 4) (d := 54) (v := .int .i64 n) rfl rfl (by kernel_rfl) (by kernel_rfl) (by kernel_rfl) rfl (fun W h => (by have u0 := Only.cellS h NN c1; go_simp)) (fun _ _ _ h => h) (Only.refl _ W1).drew ?_
  simp only [Act.put, List.setIfInBounds_toArray, List.set_cons_zero, List.set_cons_succ]
  refine chain_take (i := 6) (d := 56) (v := .pointer (some ⟨q, 0, none⟩)) rfl rfl (by kernel_rfl) (by kernel_rfl) (by kernel_rfl) rfl (fun _ _ => rfl) (fun _ _ _ h => h) (Only.refl _ W1).drew ?_
  simp only [Act.put, List.setIfInBounds_toArray, List.set_cons_zero, List.set_cons_succ]
  refine chain_take (i := 7) (d := 57) (v := .pointer (some ⟨nb, 2, none⟩)) rfl rfl (by kernel_rfl) (by kernel_rfl) (by kernel_rfl) rfl (fun _ _ => (by go_simp)) (fun _ _ _ h => h) (Only.refl _ W1).drew ?_
  simp only [Act.put, List.setIfInBounds_toArray, List.set_cons_zero, List.set_cons_succ]
  refine chain_take (i := 8) (d := 58) (v := .int .u32 x) rfl rfl (by kernel_rfl) (by kernel_rfl) (by kernel_rfl) rfl (fun W h => (by have u0 := Only.cellS h NN c2; go_simp)) (fun _ _ _ h => h) (Only.refl _ W1).drew ?_
  simp only [Act.put, List.setIfInBounds_toArray, List.set_cons_zero, List.set_cons_succ]
  refine chain_take (i := 9) (d := 59) (v := .pointer (some ⟨nb, 1, none⟩)) rfl rfl (by kernel_rfl) (by kernel_rfl) (by kernel_rfl) rfl (fun _ _ => (by go_simp)) (fun _ _ _ h => h) (Only.refl _ W1).drew ?_
  simp only [Act.put, List.setIfInBounds_toArray, List.set_cons_zero, List.set_cons_succ]
  refine chain_take (i := 10) (d := 60) (v := .int .i64 n) rfl rfl (by kernel_rfl) (by kernel_rfl) (by kernel_rfl) rfl (fun W h => (by have u0 := Only.cellS h NN c1; go_simp)) (fun _ _ _ h => h) (Only.refl _ W1).drew ?_
  simp only [Act.put, List.setIfInBounds_toArray, List.set_cons_zero, List.set_cons_succ]
  refine chain_call (i := 5) (d := 55) (f := 14) (args := #[.pointer (some ⟨p, 0, none⟩), .int .u32 x, .int .i64 n]) (by kernel_rfl) rfl rfl rfl (by go_simp) ?_
  refine ((HX1.out.up K (Up.refl W1).drew.out).lo.remove K HF.out.1 x n HF.out.2.2.2.1).mono ?_
  rintro e w2 ⟨rfl, hlo, hon⟩
  refine ⟨.bool (hasB B x n), rfl, (Only.refl T W1).drew.trans (hon.mono HON.out) (fun _ k => Or.inl k), ?_⟩
  simp only [Act.put, List.setIfInBounds_toArray, List.set_cons_zero, List.set_cons_succ]
  refine chain_call (i := 11) (d := 61) (f := 29) (args := #[.pointer (some ⟨q, 0, none⟩), .int .u32 x, .int .i64 n]) (by kernel_rfl) rfl rfl rfl (by go_simp) ?_
  refine (removeR_any q least Sr B x n w2 ((HX1.out.up K (Up.refl W1).drew.out).prog hlo hon).rb HF.out.2.2.2.1 HF.out.2.2.2.2 (by have := HF.out.2.2.1; omega) (by have := HF.out.2.2.1; omega)).mono ?_
  rintro e w3 ⟨rfl, hs⟩
  refine ⟨.bool (hasB B x n), rfl, ((Only.refl T W1).drew.trans (hon.mono HON.out) (fun _ k => Or.inl k)).trans (hs.only.mono NSR) (fun _ k => Or.inl k), ?_⟩
  simp only [Act.put, List.setIfInBounds_toArray, List.set_cons_zero, List.set_cons_succ]
  refine chain_take (i := 12) (d := 62) (v := .bool true) rfl rfl (by kernel_rfl) (by kernel_rfl) (by kernel_rfl) rfl (fun _ _ => (by go_simp)) (fun _ _ _ h => h) (((Only.refl T W1).drew.trans (hon.mono HON.out) (fun _ k => Or.inl k)).trans (hs.only.mono NSR) (fun _ k => Or.inl k)) ?_
  simp only [Act.put, List.setIfInBounds_toArray, List.set_cons_zero, List.set_cons_succ]
  refine chain_take (i := 13) (d := 6) (v := .bool true) rfl rfl (by kernel_rfl) (by kernel_rfl) (by kernel_rfl) rfl (fun _ _ => rfl) (fun _ _ _ h => h) (((Only.refl T W1).drew.trans (hon.mono HON.out) (fun _ k => Or.inl k)).trans (hs.only.mono NSR) (fun _ k => Or.inl k)) ?_
  simp only [Act.put, List.setIfInBounds_toArray, List.set_cons_zero, List.set_cons_succ]
  refine wpAnyH_done (by kernel_rfl) ?_ _
  obtain ⟨Sr3, hx3, ho3⟩ := ((HX1.out.up K (Up.refl W1).drew.out).prog hlo hon).ref K hs
  have HX3 := Hid.mk hx3
  clear hx3 ho3 hs hlo hon c1 c2
  go_wp2
  go_ret
  exact ⟨rfl, Sr3, HX3.out.weaken (fun k hk => Or.inl hk)⟩
set_option maxHeartbeats 4000000 in
set_option maxRecDepth 100000 in
theorem act2 {w wr : World} {p q least : Nat} {B : Bks} {Sr F : Nat → Prop} (h : Sx Lb w wr p q least B B Sr F) (hf : Fine B) (hl : 1 ≤ least) (hs : szB B < 100000 ∧ B.length < 100000) (n : Int) (x : Nat) (hx : x < 4294967296) :
    Calls Try.prog 10 #[.pointer (some ⟨p, 0, none⟩), .pointer (some ⟨q, 0, none⟩), .agg #[.int .i64 2, .int .i64 n, .int .u32 x]] wr fun e w' => e = .returned (.bool true) ∧ ∃ Sr', Sx Lb w w' p q least (B) (B) Sr' F := by
  have hb1 := hf.placed.some_
  have HF := Hid.mk (show Fine B ∧ 1 ≤ least ∧ (szB B < 100000 ∧ B.length < 100000) ∧ x < 4294967296 ∧ 1 ≤ B.length from ⟨hf, hl, hs, hx, hb1⟩)
  obtain ⟨nb, hnb⟩ : ∃ nb, wr.heap.size = nb := ⟨_, rfl⟩
  obtain ⟨W1, hW1⟩ : ∃ W1, wr.alloc (.cells #[.int .i64 2, .int .i64 n, .int .u32 x] 34) = W1 := ⟨_, rfl⟩
  have hu : Up wr W1 := by rw [← hW1]; exact (Up.refl wr).alloc
  have HX1 := Hid.mk (h.more K hu.out (fun k => k = nb) (fun k hk => by rw [hk, ← hnb, ← hW1]; simp))
  have hcell : ∀ j, W1.cell? ⟨nb, j, none⟩ = (#[Value.int .i64 2, .int .i64 n, .int .u32 x] : Array Value)[j]? := fun j => by rw [← hW1, ← hnb]; exact new_cell _ _ _ j
  have c0 := hcell 0
  have c1 := hcell 1
  have c2 := hcell 2
  simp only [List.getElem?_toArray, List.getElem?_cons_zero, List.getElem?_cons_succ] at c0 c1 c2
  have hbn := Hid.mk (And.intro hW1 hnb)
  have HNB := Hid.mk (show w.heap.size ≤ nb from hnb ▸ h.lo.below.size)
  clear h hf hl hs hx hb1 hu hcell hnb hW1
  go_enter Try.func10, Try.ntmps10
  go_upto_region 1 with fail
  rw [hbn.out.1, hbn.out.2]
  have HLEN := Hid.mk (show (chainB B x).length ≤ 100000 by
    have h1 := List.length_filter_le (isH x) (rowB B (ofB B x))
    have h2 := rowB_len_le B (ofB B x)
    have h3 := HF.out.2.2.1.1
    unfold chainB
    omega)
  go_wp2_with (first
    | (go_at_call 31; refine (overItems_any _ (chainB B x) w4 HI4.out).mono ?_; rintro e w5 ⟨⟨u5, rfl⟩, ho5⟩; have HX5 := Hid.mk (HX4.out.over K ho5 (fun k hk => ⟨Or.inr hk, HT.out k hk⟩)); clear ho5)
    | (go_at_call 27; obtain ⟨va, vc, rfl, hcv⟩ := Its.slice HI3.out; refine (sameItems_any (chainB B x) (chainB B x) _ _ _ _ _ hcv HU.out (by have := HLEN.out; omega)).mono ?_; rintro e w4 ⟨rfl, hb4⟩; rw [decide_eq_true rfl]; have HX4 := Hid.mk (HX3.out.up K hb4); have HI4 := Hid.mk (HI3.out.up hb4); clear hb4 hcv)
    | (go_at_call 30; refine (chainR_any q least Sr B x w2 HX2.out.rb HF.out.2.2.2.1 HF.out.2.2.2.2 (by have := HF.out.2.2.1; omega) (by have := HF.out.2.2.1; omega)).mono ?_; rintro e w3 ⟨u, rfl, hu, hb3⟩; obtain ⟨ua, uc, rfl, hcu⟩ := Its.slice hu; have HU := Hid.mk hcu; have HX3 := Hid.mk (HX2.out.up K hb3); have HI3 := Hid.mk (HI2.out.up hb3); clear hu hcu hb3)
    | (go_at_call 15; refine (HX1.out.lo.chain K HF.out.1 x HF.out.2.2.2.1).mono ?_; rintro e w2 ⟨v, rfl, ht⟩; have HX2 := Hid.mk (HX1.out.more K ht.below (fun k => v.ownBlock = some k) (fun k hk => ⟨ht.new k hk, ht.its.lt hk⟩)); have HT := Hid.mk (fun k (hk : v.ownBlock = some k) => Nat.le_trans HX1.out.lo.below.size (ht.new k hk)); have HI2 := Hid.mk ht.its; replace c2 := cell_below ht.below _ _ _ c2; clear ht))
  go_ret
  exact ⟨rfl, Sr, HX5.out.weaken (fun k hk => Or.inl (Or.inl hk))⟩
set_option maxHeartbeats 4000000 in
set_option maxRecDepth 100000 in
theorem act3 {w wr : World} {p q least : Nat} {B : Bks} {Sr F : Nat → Prop} (h : Sx Lb w wr p q least B B Sr F) (hf : Fine B) (hl : 1 ≤ least) (hs : szB B < 100000 ∧ B.length < 100000) (n : Int) (x : Nat) (hx : x < 4294967296) :
    Calls Try.prog 10 #[.pointer (some ⟨p, 0, none⟩), .pointer (some ⟨q, 0, none⟩), .agg #[.int .i64 3, .int .i64 n, .int .u32 x]] wr fun e w' => e = .returned (.bool true) ∧ ∃ Sr', Sx Lb w w' p q least (B) (B) Sr' F := by
  have hb1 := hf.placed.some_
  have HF := Hid.mk (show Fine B ∧ 1 ≤ least ∧ (szB B < 100000 ∧ B.length < 100000) ∧ x < 4294967296 ∧ 1 ≤ B.length from ⟨hf, hl, hs, hx, hb1⟩)
  obtain ⟨nb, hnb⟩ : ∃ nb, wr.heap.size = nb := ⟨_, rfl⟩
  obtain ⟨W1, hW1⟩ : ∃ W1, wr.alloc (.cells #[.int .i64 3, .int .i64 n, .int .u32 x] 34) = W1 := ⟨_, rfl⟩
  have hu : Up wr W1 := by rw [← hW1]; exact (Up.refl wr).alloc
  have HX1 := Hid.mk (h.more K hu.out (fun k => k = nb) (fun k hk => by rw [hk, ← hnb, ← hW1]; simp))
  have hcell : ∀ j, W1.cell? ⟨nb, j, none⟩ = (#[Value.int .i64 3, .int .i64 n, .int .u32 x] : Array Value)[j]? := fun j => by rw [← hW1, ← hnb]; exact new_cell _ _ _ j
  have c0 := hcell 0
  have c1 := hcell 1
  have c2 := hcell 2
  simp only [List.getElem?_toArray, List.getElem?_cons_zero, List.getElem?_cons_succ] at c0 c1 c2
  have hbn := Hid.mk (And.intro hW1 hnb)
  have HNB := Hid.mk (show w.heap.size ≤ nb from hnb ▸ h.lo.below.size)
  clear h hf hl hs hx hb1 hu hcell hnb hW1
  go_enter Try.func10, Try.ntmps10
  go_upto_region 1 with fail
  rw [hbn.out.1, hbn.out.2]
  have HLEN := Hid.mk (show (atV B n).length ≤ 100000 by
    have h2 := rowB_len_le B n.toNat
    have h3 := HF.out.2.2.1.1
    unfold atV
    split
    · omega
    · exact Nat.zero_le _)
  go_wp2_with (first
    | (go_at_call 31; refine (overItems_any _ (atV B n) w4 HI4.out).mono ?_; rintro e w5 ⟨⟨u5, rfl⟩, ho5⟩; have HX5 := Hid.mk (HX4.out.over K ho5 (fun k hk => ⟨Or.inr hk, HT.out k hk⟩)); clear ho5)
    | (go_at_call 27; obtain ⟨va, vc, rfl, hcv⟩ := Its.slice HI3.out; refine (sameItems_any (atV B n) (atV B n) _ _ _ _ _ hcv HU.out (by have := HLEN.out; omega)).mono ?_; rintro e w4 ⟨rfl, hb4⟩; rw [decide_eq_true rfl]; have HX4 := Hid.mk (HX3.out.up K hb4); have HI4 := Hid.mk (HI3.out.up hb4); clear hb4 hcv)
    | (go_at_call 32; refine (atR_any q least Sr B n w2 HX2.out.rb HF.out.2.2.2.2).mono ?_; rintro e x3 ⟨⟨ua, uc, rfl, hcu⟩, rfl⟩; have HU := Hid.mk hcu; have HX3 := HX2; have HI3 := HI2; clear hcu)
    | (go_at_call 13; refine (HX1.out.lo.at_ K HF.out.1 n).mono ?_; rintro e w2 ⟨v, rfl, ht⟩; have HX2 := Hid.mk (HX1.out.more K ht.below (fun k => v.ownBlock = some k) (fun k hk => ⟨ht.new k hk, ht.its.lt hk⟩)); have HT := Hid.mk (fun k (hk : v.ownBlock = some k) => Nat.le_trans HX1.out.lo.below.size (ht.new k hk)); have HI2 := Hid.mk ht.its; replace c1 := cell_below ht.below _ _ _ c1; clear ht))
  go_ret
  exact ⟨rfl, Sr, HX5.out.weaken (fun k hk => Or.inl (Or.inl hk))⟩
set_option maxHeartbeats 4000000 in
set_option maxRecDepth 100000 in
theorem act4 {w wr : World} {p q least : Nat} {B : Bks} {Sr F : Nat → Prop} (h : Sx Lb w wr p q least B B Sr F) (hf : Fine B) (hl : 1 ≤ least) (hs : szB B < 100000 ∧ B.length < 100000) (n : Int) (x : Nat) (hx : x < 4294967296) :
    Calls Try.prog 10 #[.pointer (some ⟨p, 0, none⟩), .pointer (some ⟨q, 0, none⟩), .agg #[.int .i64 4, .int .i64 n, .int .u32 x]] wr fun e w' => e = .returned (.bool true) ∧ ∃ Sr', Sx Lb w w' p q least (splitB B) (splitB B) Sr' F := by
  have hb1 := hf.placed.some_
  have HF := Hid.mk (show Fine B ∧ 1 ≤ least ∧ (szB B < 100000 ∧ B.length < 100000) ∧ x < 4294967296 ∧ 1 ≤ B.length from ⟨hf, hl, hs, hx, hb1⟩)
  obtain ⟨nb, hnb⟩ : ∃ nb, wr.heap.size = nb := ⟨_, rfl⟩
  obtain ⟨W1, hW1⟩ : ∃ W1, wr.alloc (.cells #[.int .i64 4, .int .i64 n, .int .u32 x] 34) = W1 := ⟨_, rfl⟩
  have hu : Up wr W1 := by rw [← hW1]; exact (Up.refl wr).alloc
  have HX1 := Hid.mk (h.more K hu.out (fun k => k = nb) (fun k hk => by rw [hk, ← hnb, ← hW1]; simp))
  have hcell : ∀ j, W1.cell? ⟨nb, j, none⟩ = (#[Value.int .i64 4, .int .i64 n, .int .u32 x] : Array Value)[j]? := fun j => by rw [← hW1, ← hnb]; exact new_cell _ _ _ j
  have c0 := hcell 0
  have c1 := hcell 1
  have c2 := hcell 2
  simp only [List.getElem?_toArray, List.getElem?_cons_zero, List.getElem?_cons_succ] at c0 c1 c2
  have hbn := Hid.mk (And.intro hW1 hnb)
  have HNB := Hid.mk (show w.heap.size ≤ nb from hnb ▸ h.lo.below.size)
  clear h hf hl hs hx hb1 hu hcell hnb hW1
  go_enter Try.func10, Try.ntmps10
  go_upto_region 1 with fail
  rw [hbn.out.1, hbn.out.2]
  go_wp2_with (first
    | (go_at_call 33; refine (splitR_any q least Sr B w2 HX2.out.rb HF.out.1.placed (by have := HF.out.2.2.1; omega) (by have := HF.out.2.2.1; omega)).mono ?_; rintro e w3 ⟨rfl, hs⟩; obtain ⟨Sr3, hx3, ho3⟩ := HX2.out.ref K hs; have HX3 := Hid.mk hx3; clear hx3 ho3 hs)
    | (go_at_call 19; refine (HX1.out.lo.split K HF.out.1).mono ?_; rintro e w2 ⟨rfl, hlo, hon⟩; have HX2 := Hid.mk (HX1.out.prog hlo hon); clear hlo hon))
  go_ret
  exact ⟨rfl, Sr3, HX3.out.weaken (fun k hk => Or.inl hk)⟩
set_option maxHeartbeats 4000000 in
set_option maxRecDepth 100000 in
theorem act5 {w wr : World} {p q least : Nat} {B : Bks} {Sr F : Nat → Prop} (h : Sx Lb w wr p q least B B Sr F) (hf : Fine B) (hl : 1 ≤ least) (hs : szB B < 100000 ∧ B.length < 100000) (n : Int) (x : Nat) (hx : x < 4294967296) (D : Bks) (hD : (if least < B.length then joinB B else B) = D) :
    Calls Try.prog 10 #[.pointer (some ⟨p, 0, none⟩), .pointer (some ⟨q, 0, none⟩), .agg #[.int .i64 5, .int .i64 n, .int .u32 x]] wr fun e w' => e = .returned (.bool true) ∧ ∃ Sr', Sx Lb w w' p q least (D) (D) Sr' F := by
  have hb1 := hf.placed.some_
  have HF := Hid.mk (show Fine B ∧ 1 ≤ least ∧ (szB B < 100000 ∧ B.length < 100000) ∧ x < 4294967296 ∧ 1 ≤ B.length from ⟨hf, hl, hs, hx, hb1⟩)
  obtain ⟨nb, hnb⟩ : ∃ nb, wr.heap.size = nb := ⟨_, rfl⟩
  obtain ⟨W1, hW1⟩ : ∃ W1, wr.alloc (.cells #[.int .i64 5, .int .i64 n, .int .u32 x] 34) = W1 := ⟨_, rfl⟩
  have hu : Up wr W1 := by rw [← hW1]; exact (Up.refl wr).alloc
  have HX1 := Hid.mk (h.more K hu.out (fun k => k = nb) (fun k hk => by rw [hk, ← hnb, ← hW1]; simp))
  have hcell : ∀ j, W1.cell? ⟨nb, j, none⟩ = (#[Value.int .i64 5, .int .i64 n, .int .u32 x] : Array Value)[j]? := fun j => by rw [← hW1, ← hnb]; exact new_cell _ _ _ j
  have c0 := hcell 0
  have c1 := hcell 1
  have c2 := hcell 2
  simp only [List.getElem?_toArray, List.getElem?_cons_zero, List.getElem?_cons_succ] at c0 c1 c2
  have hbn := Hid.mk (And.intro hW1 hnb)
  have HNB := Hid.mk (show w.heap.size ≤ nb from hnb ▸ h.lo.below.size)
  clear h hf hl hs hx hb1 hu hcell hnb hW1
  go_enter Try.func10, Try.ntmps10
  go_upto_region 1 with fail
  rw [hbn.out.1, hbn.out.2]
  obtain ⟨E, hE⟩ : ∃ E : Int, (if least < B.length then 0 else 9) = E := ⟨_, rfl⟩
  have HJ := Hid.mk (fun (W : World) (hx : Sx Lb w W p q least B B Sr (fun k => F k ∨ k = nb)) => hx.lo.join K HF.out.1 HF.out.2.1)
  have HK := Hid.mk (fun (W : World) (hx : Rb W q least Sr B) => joinR_any q least Sr B W hx HF.out.1.placed HF.out.2.1 (by have := HF.out.2.2.1; omega) (by have := HF.out.2.2.1; omega))
  rw [hE, hD] at HJ HK
  clear hE hD
  go_wp2_with (first
    | (go_at_call 34; refine (HK.out w2 HX2.out.rb).mono ?_; rintro e w3 ⟨rfl, hs⟩; obtain ⟨Sr3, hx3, ho3⟩ := HX2.out.ref K hs; have HX3 := Hid.mk hx3; clear hx3 ho3 hs)
    | (go_at_call 20; refine (HJ.out _ HX1.out).mono ?_; rintro e w2 ⟨rfl, hlo, hon⟩; have HX2 := Hid.mk (HX1.out.prog hlo hon); clear hlo hon))
  go_ret
  exact ⟨rfl, Sr3, HX3.out.weaken (fun k hk => Or.inl hk)⟩
set_option maxHeartbeats 4000000 in
set_option maxRecDepth 100000 in
theorem actN {w wr : World} {p q least : Nat} {B : Bks} {Sr F : Nat → Prop} (h : Sx Lb w wr p q least B B Sr F) (hf : Fine B) (hl : 1 ≤ least) (hs : szB B < 100000 ∧ B.length < 100000) (n : Int) (x : Nat) (hx : x < 4294967296) (kd : Int) (hk : kd ≠ 0 ∧ kd ≠ 1 ∧ kd ≠ 2 ∧ kd ≠ 3 ∧ kd ≠ 4 ∧ kd ≠ 5) :
    Calls Try.prog 10 #[.pointer (some ⟨p, 0, none⟩), .pointer (some ⟨q, 0, none⟩), .agg #[.int .i64 kd, .int .i64 n, .int .u32 x]] wr fun e w' => e = .returned (.bool true) ∧ ∃ Sr', Sx Lb w w' p q least (B) (B) Sr' F := by
  have hb1 := hf.placed.some_
  have HF := Hid.mk (show Fine B ∧ 1 ≤ least ∧ (szB B < 100000 ∧ B.length < 100000) ∧ x < 4294967296 ∧ 1 ≤ B.length from ⟨hf, hl, hs, hx, hb1⟩)
  obtain ⟨nb, hnb⟩ : ∃ nb, wr.heap.size = nb := ⟨_, rfl⟩
  obtain ⟨W1, hW1⟩ : ∃ W1, wr.alloc (.cells #[.int .i64 kd, .int .i64 n, .int .u32 x] 34) = W1 := ⟨_, rfl⟩
  have hu : Up wr W1 := by rw [← hW1]; exact (Up.refl wr).alloc
  have HX1 := Hid.mk (h.more K hu.out (fun k => k = nb) (fun k hk => by rw [hk, ← hnb, ← hW1]; simp))
  have hcell : ∀ j, W1.cell? ⟨nb, j, none⟩ = (#[Value.int .i64 kd, .int .i64 n, .int .u32 x] : Array Value)[j]? := fun j => by rw [← hW1, ← hnb]; exact new_cell _ _ _ j
  have c0 := hcell 0
  have c1 := hcell 1
  have c2 := hcell 2
  simp only [List.getElem?_toArray, List.getElem?_cons_zero, List.getElem?_cons_succ] at c0 c1 c2
  have hbn := Hid.mk (And.intro hW1 hnb)
  have HNB := Hid.mk (show w.heap.size ≤ nb from hnb ▸ h.lo.below.size)
  clear h hf hl hs hx hb1 hu hcell hnb hW1
  go_enter Try.func10, Try.ntmps10
  go_upto_region 1 with fail
  rw [hbn.out.1, hbn.out.2]
  obtain ⟨k0, k1, k2, k3, k4, k5⟩ := hk
  go_wp2
  go_ret
  exact ⟨rfl, Sr, HX1.out.weaken (fun k hk => Or.inl hk)⟩
end
end Go.Proofs.Ytkijbphbibcnoaa
