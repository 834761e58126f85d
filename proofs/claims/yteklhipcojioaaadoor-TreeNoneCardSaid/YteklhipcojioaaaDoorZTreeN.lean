/-
  Trees that nobody made; TreeNone returns true.
-/
import Derived.Test.YteklhipcojioaaaDoorZTreeKn
import Derived.Test.YteklhipcojioaaaDoorZTermMore
namespace Go.Proofs.YteklhipcojioaaaDoor
open Go.RowKit Go.Deep Go.Maps Go.WideShapes

theorem madeT_nil (w : World) : Calls Tryd.prog 37 #[.pointer none] w fun e w' => e = .returned (.bool false) ∧ w = w' := by
  go_enter Tryd.func37, Tryd.ntmps37
  go_wp2
  go_ret
  exact ⟨rfl, rfl⟩
theorem madeT_zero (p : Nat) (w : World) (c0 : w.cell? ⟨p, 0, none⟩ = some (.pointer none)) : Calls Tryd.prog 37 #[.pointer (some ⟨p, 0, none⟩)] w fun e w' => e = .returned (.bool false) ∧ w = w' := by
  have he : ∀ w : World, (binOp .eql 23 (.pointer none) (.pointer (some ⟨p, 0, none⟩))).run Tryd.prog w = .ok (.bool false) w := fun w => by
    obtain ⟨i0, hi⟩ : ∃ i0, Tryd.prog.info? 45 = some i0 := Option.isSome_iff_exists.1 (by kernel_rfl)
    have h : ∀ d : Nat, (Op.equalIn (d + 1) 23 (.pointer none) (.pointer (some ⟨p, 0, none⟩))).run Tryd.prog w = .ok false w := fun d => by
      simp [Op.equalIn, run_underlying Tryd.underlying23, sizeOf, typeInfo]
    simp only [binOp]
    simp [Op.equal, Op.maxDepth, h 9999]
  go_enter Tryd.func37, Tryd.ntmps37
  go_wp2
  go_ret
  exact ⟨rfl, rfl⟩
/-- No tree is there: no pointer, or one to a tree that New did not make. -/
def NoT (w : World) (q : Option Addr) : Prop := ∀ W, Up w W → Calls Tryd.prog 37 #[.pointer q] W fun e w' => e = .returned (.bool false) ∧ W = w'
theorem NoT.nil (w : World) : NoT w none := fun W _ => madeT_nil W
theorem NoT.zero {w : World} {p : Nat} (h : w.cell? ⟨p, 0, none⟩ = some (.pointer none)) : NoT w (some ⟨p, 0, none⟩) := fun W hW => madeT_zero p W (cell_below hW.out _ _ _ h)
theorem NoT.up {w w' : World} {q : Option Addr} (h : NoT w q) (hu : Below w.heap.size w w') : NoT w' q := fun W hW => h W ((show Up w w' from hu).call hW.out)
section
variable {w : World} {q : Option Addr}
theorem NoT.len (H : NoT w q) : Calls Tryd.prog 13 #[.pointer q] w fun e w' => e = .returned (.int .i64 0) ∧ Below w.heap.size w w' := by
  have HM := Hid.mk (H w (Up.refl w))
  clear H
  go_enter Tryd.func13, Tryd.ntmps13
  go_wp2_with (go_at_call 37; refine HM.out.mono ?_; rintro e w1 ⟨rfl, rfl⟩)
  go_ret
  exact ⟨rfl, Below.refl _ _⟩
theorem NoT.height (H : NoT w q) : Calls Tryd.prog 14 #[.pointer q] w fun e w' => e = .returned (.int .i64 0) ∧ Below w.heap.size w w' := by
  have HM := Hid.mk (H w (Up.refl w))
  clear H
  go_enter Tryd.func14, Tryd.ntmps14
  go_wp2_with (go_at_call 37; refine HM.out.mono ?_; rintro e w1 ⟨rfl, rfl⟩)
  go_ret
  exact ⟨rfl, Below.refl _ _⟩
theorem NoT.compared (H : NoT w q) : Calls Tryd.prog 10 #[.pointer q] w fun e w' => e = .returned (.int .i64 0) ∧ Below w.heap.size w w' := by
  have HM := Hid.mk (H w (Up.refl w))
  clear H
  go_enter Tryd.func10, Tryd.ntmps10
  go_wp2_with (go_at_call 37; refine HM.out.mono ?_; rintro e w1 ⟨rfl, rfl⟩)
  go_ret
  exact ⟨rfl, Below.refl _ _⟩
theorem NoT.keys (H : NoT w q) : Calls Tryd.prog 15 #[.pointer q] w fun e w' => e = .returned (.slice none 0 0) ∧ Below w.heap.size w w' := by
  have HM := Hid.mk (H w (Up.refl w))
  clear H
  go_enter Tryd.func15, Tryd.ntmps15
  go_wp2_with (go_at_call 37; refine HM.out.mono ?_; rintro e w1 ⟨rfl, rfl⟩)
  go_ret
  exact ⟨rfl, Below.refl _ _⟩
theorem NoT.put (H : NoT w q) (kk kn : Int) (ks : ByteArray) (ka : Option Addr) (km kc : Nat) (n : Int) : Calls Tryd.prog 20 #[.pointer q, .agg #[.int .i64 kk, .int .i64 kn, .string ks, .slice ka km kc], .int .i64 n] w fun e w' => e = .returned (.tuple #[.int .i64 0, .bool false, .int .i64 1]) ∧ Below w.heap.size w w' := by
  obtain ⟨nb, W1, hnb, hW1, hu, _, _, _, _⟩ := boxed_key w kk kn ks ka km kc
  have HM := Hid.mk (H W1 hu)
  have HW := Hid.mk (And.intro hW1 (And.intro hnb hu))
  clear H hnb hW1 hu
  go_enter Tryd.func20, Tryd.ntmps20
  go_upto_region 1 with fail
  rw [HW.out.1, HW.out.2.1]
  go_wp2_with (go_at_call 37; refine HM.out.mono ?_; rintro e w1 ⟨rfl, rfl⟩)
  exact bodyPost_ret (by simp [results]) rfl ⟨rfl, HW.out.2.2⟩
theorem NoT.get (H : NoT w q) (kk kn : Int) (ks : ByteArray) (ka : Option Addr) (km kc : Nat) : Calls Tryd.prog 21 #[.pointer q, .agg #[.int .i64 kk, .int .i64 kn, .string ks, .slice ka km kc]] w fun e w' => e = .returned (.tuple #[.int .i64 0, .bool false]) ∧ Below w.heap.size w w' := by
  obtain ⟨nb, W1, hnb, hW1, hu, _, _, _, _⟩ := boxed_key w kk kn ks ka km kc
  have HM := Hid.mk (H W1 hu)
  have HW := Hid.mk (And.intro hW1 (And.intro hnb hu))
  clear H hnb hW1 hu
  go_enter Tryd.func21, Tryd.ntmps21
  go_upto_region 1 with fail
  rw [HW.out.1, HW.out.2.1]
  go_wp2_with (go_at_call 37; refine HM.out.mono ?_; rintro e w1 ⟨rfl, rfl⟩)
  exact bodyPost_ret (by simp [results]) rfl ⟨rfl, HW.out.2.2⟩
theorem NoT.remove (H : NoT w q) (kk kn : Int) (ks : ByteArray) (ka : Option Addr) (km kc : Nat) : Calls Tryd.prog 22 #[.pointer q, .agg #[.int .i64 kk, .int .i64 kn, .string ks, .slice ka km kc]] w fun e w' => e = .returned (.tuple #[.int .i64 0, .bool false]) ∧ Below w.heap.size w w' := by
  obtain ⟨nb, W1, hnb, hW1, hu, _, _, _, _⟩ := boxed_key w kk kn ks ka km kc
  have HM := Hid.mk (H W1 hu)
  have HW := Hid.mk (And.intro hW1 (And.intro hnb hu))
  clear H hnb hW1 hu
  go_enter Tryd.func22, Tryd.ntmps22
  go_upto_region 1 with fail
  rw [HW.out.1, HW.out.2.1]
  go_wp2_with (go_at_call 37; refine HM.out.mono ?_; rintro e w1 ⟨rfl, rfl⟩)
  exact bodyPost_ret (by simp [results]) rfl ⟨rfl, HW.out.2.2⟩
set_option maxHeartbeats 2000000 in
set_option maxRecDepth 100000 in
theorem NoT.end_ (H : NoT w q) (s : Int) : Calls Tryd.prog 57 #[.pointer q, .int .i64 s] w fun e w' => e = .returned (.tuple #[.agg #[.int .i64 0, .int .i64 0, .string ⟨#[]⟩, .slice none 0 0], .int .i64 0, .bool false]) ∧ Below w.heap.size w w' := by
  obtain ⟨nb, hnb⟩ : ∃ nb, w.heap.size = nb := ⟨_, rfl⟩
  obtain ⟨W1, hW1⟩ : ∃ W1, w.alloc (.cells #[.int .i64 0, .int .i64 0, .string ⟨#[]⟩, .slice none 0 0] 32) = W1 := ⟨_, rfl⟩
  have hu : Below w.heap.size w W1 := by rw [← hW1]; exact (Up.refl w).alloc.out
  have HB := Hid.mk (zbox_of (w := W1) (nb := nb) (by rw [← hW1, ← hnb]; exact new_block w _))
  have HM := Hid.mk (H W1 hu)
  have HW := Hid.mk (And.intro hW1 (And.intro hnb hu))
  obtain ⟨⟨e0, e1, e2, e3⟩, z1, z2, z3, z4⟩ := HB.out
  clear H hnb hW1 hu
  go_enter Tryd.func57, Tryd.ntmps57
  go_upto_region 1 with fail
  rw [HW.out.1, HW.out.2.1]
  go_wp2_with (go_at_call 37; refine HM.out.mono ?_; rintro e w1 ⟨rfl, rfl⟩)
  exact ret3_stored rfl rfl rfl rfl rfl HB.out.1.1 HB.out.1.2.1 HB.out.1.2.2.1 HB.out.1.2.2.2 ⟨rfl, Below.set4 HW.out.2.2 (by have := HW.out.2.1; omega)⟩
set_option maxHeartbeats 2000000 in
set_option maxRecDepth 100000 in
theorem NoT.near (H : NoT w q) (kk kn : Int) (ks : ByteArray) (ka : Option Addr) (km kc : Nat) (s : Int) : Calls Tryd.prog 58 #[.pointer q, .agg #[.int .i64 kk, .int .i64 kn, .string ks, .slice ka km kc], .int .i64 s] w fun e w' => e = .returned (.tuple #[.agg #[.int .i64 0, .int .i64 0, .string ⟨#[]⟩, .slice none 0 0], .int .i64 0, .bool false]) ∧ Below w.heap.size w w' := by
  obtain ⟨nb, W1, hnb, hW1, hu, _, hz⟩ := boxes2 w kk kn ks ka km kc
  have HB := Hid.mk (show Zbox W1 (nb + 1) from hz)
  have HM := Hid.mk (H W1 hu)
  have HW := Hid.mk (And.intro hW1 (And.intro hnb hu))
  obtain ⟨⟨e0, e1, e2, e3⟩, z1, z2, z3, z4⟩ := HB.out
  clear H hnb hW1 hu
  go_enter Tryd.func58, Tryd.ntmps58
  go_upto_region 1 with fail
  rw [HW.out.1, HW.out.2.1]
  go_wp2_with (go_at_call 37; refine HM.out.mono ?_; rintro e w1 ⟨rfl, rfl⟩)
  exact ret3_stored rfl rfl rfl rfl rfl HB.out.1.1 HB.out.1.2.1 HB.out.1.2.2.1 HB.out.1.2.2.2 ⟨rfl, Below.set4 HW.out.2.2 (by have := HW.out.2.1; omega)⟩
set_option maxHeartbeats 2000000 in
set_option maxRecDepth 100000 in
theorem NoT.first (H : NoT w q) : Calls Tryd.prog 23 #[.pointer q] w fun e w' => e = .returned (.tuple #[.agg #[.int .i64 0, .int .i64 0, .string ⟨#[]⟩, .slice none 0 0], .int .i64 0, .bool false]) ∧ Below w.heap.size w w' := by
  obtain ⟨nb, hnb⟩ : ∃ nb, w.heap.size = nb := ⟨_, rfl⟩
  obtain ⟨W1, hW1⟩ : ∃ W1, w.alloc (.cells #[.int .i64 0, .int .i64 0, .string ⟨#[]⟩, .slice none 0 0] 32) = W1 := ⟨_, rfl⟩
  have hu : Below w.heap.size w W1 := by rw [← hW1]; exact (Up.refl w).alloc.out
  have HB := Hid.mk (zbox_of (w := W1) (nb := nb) (by rw [← hW1, ← hnb]; exact new_block w _))
  have HM := Hid.mk ((H.up hu).end_ 0)
  have HW := Hid.mk (And.intro hW1 (And.intro hnb hu))
  clear H hnb hW1 hu
  go_enter Tryd.func23, Tryd.ntmps23
  go_upto_region 1 with fail
  rw [HW.out.1, HW.out.2.1]
  go_wp2_with (go_at_call 57; refine HM.out.mono ?_; rintro e w6 ⟨rfl, hb6⟩; have HB6 := Hid.mk (HW.out.2.2.trans (hb6.mono HW.out.2.2.size)); have HBX := Hid.mk (box_up HB.out hb6); obtain ⟨⟨e0, e1, e2, e3⟩, z1, z2, z3, z4⟩ := box_up HB.out hb6; clear hb6)
  exact ret3_stored rfl rfl rfl rfl rfl HBX.out.1.1 HBX.out.1.2.1 HBX.out.1.2.2.1 HBX.out.1.2.2.2 ⟨rfl, Below.set4 HB6.out (by have := HW.out.2.1; omega)⟩
set_option maxHeartbeats 2000000 in
set_option maxRecDepth 100000 in
theorem NoT.last (H : NoT w q) : Calls Tryd.prog 24 #[.pointer q] w fun e w' => e = .returned (.tuple #[.agg #[.int .i64 0, .int .i64 0, .string ⟨#[]⟩, .slice none 0 0], .int .i64 0, .bool false]) ∧ Below w.heap.size w w' := by
  obtain ⟨nb, hnb⟩ : ∃ nb, w.heap.size = nb := ⟨_, rfl⟩
  obtain ⟨W1, hW1⟩ : ∃ W1, w.alloc (.cells #[.int .i64 0, .int .i64 0, .string ⟨#[]⟩, .slice none 0 0] 32) = W1 := ⟨_, rfl⟩
  have hu : Below w.heap.size w W1 := by rw [← hW1]; exact (Up.refl w).alloc.out
  have HB := Hid.mk (zbox_of (w := W1) (nb := nb) (by rw [← hW1, ← hnb]; exact new_block w _))
  have HM := Hid.mk ((H.up hu).end_ 1)
  have HW := Hid.mk (And.intro hW1 (And.intro hnb hu))
  clear H hnb hW1 hu
  go_enter Tryd.func24, Tryd.ntmps24
  go_upto_region 1 with fail
  rw [HW.out.1, HW.out.2.1]
  go_wp2_with (go_at_call 57; refine HM.out.mono ?_; rintro e w6 ⟨rfl, hb6⟩; have HB6 := Hid.mk (HW.out.2.2.trans (hb6.mono HW.out.2.2.size)); have HBX := Hid.mk (box_up HB.out hb6); obtain ⟨⟨e0, e1, e2, e3⟩, z1, z2, z3, z4⟩ := box_up HB.out hb6; clear hb6)
  exact ret3_stored rfl rfl rfl rfl rfl HBX.out.1.1 HBX.out.1.2.1 HBX.out.1.2.2.1 HBX.out.1.2.2.2 ⟨rfl, Below.set4 HB6.out (by have := HW.out.2.1; omega)⟩
set_option maxHeartbeats 2000000 in
set_option maxRecDepth 100000 in
theorem NoT.next (H : NoT w q) (kk kn : Int) (ks : ByteArray) (ka : Option Addr) (km kc : Nat) : Calls Tryd.prog 25 #[.pointer q, .agg #[.int .i64 kk, .int .i64 kn, .string ks, .slice ka km kc]] w fun e w' => e = .returned (.tuple #[.agg #[.int .i64 0, .int .i64 0, .string ⟨#[]⟩, .slice none 0 0], .int .i64 0, .bool false]) ∧ Below w.heap.size w w' := by
  obtain ⟨nb, W1, hnb, hW1, hu, _, hz⟩ := boxes2 w kk kn ks ka km kc
  have HB := Hid.mk (show Zbox W1 (nb + 1) from hz)
  have HM := Hid.mk ((H.up hu).near kk kn ks ka km kc 1)
  have HW := Hid.mk (And.intro hW1 (And.intro hnb hu))
  clear H hnb hW1 hu
  go_enter Tryd.func25, Tryd.ntmps25
  go_upto_region 1 with fail
  rw [HW.out.1, HW.out.2.1]
  go_wp2_with (go_at_call 58; refine HM.out.mono ?_; rintro e w6 ⟨rfl, hb6⟩; have HB6 := Hid.mk (HW.out.2.2.trans (hb6.mono HW.out.2.2.size)); have HBX := Hid.mk (box_up HB.out hb6); obtain ⟨⟨e0, e1, e2, e3⟩, z1, z2, z3, z4⟩ := box_up HB.out hb6; clear hb6)
  exact ret3_stored rfl rfl rfl rfl rfl HBX.out.1.1 HBX.out.1.2.1 HBX.out.1.2.2.1 HBX.out.1.2.2.2 ⟨rfl, Below.set4 HB6.out (by have := HW.out.2.1; omega)⟩
set_option maxHeartbeats 2000000 in
set_option maxRecDepth 100000 in
theorem NoT.prev (H : NoT w q) (kk kn : Int) (ks : ByteArray) (ka : Option Addr) (km kc : Nat) : Calls Tryd.prog 26 #[.pointer q, .agg #[.int .i64 kk, .int .i64 kn, .string ks, .slice ka km kc]] w fun e w' => e = .returned (.tuple #[.agg #[.int .i64 0, .int .i64 0, .string ⟨#[]⟩, .slice none 0 0], .int .i64 0, .bool false]) ∧ Below w.heap.size w w' := by
  obtain ⟨nb, W1, hnb, hW1, hu, _, hz⟩ := boxes2 w kk kn ks ka km kc
  have HB := Hid.mk (show Zbox W1 (nb + 1) from hz)
  have HM := Hid.mk ((H.up hu).near kk kn ks ka km kc 0)
  have HW := Hid.mk (And.intro hW1 (And.intro hnb hu))
  clear H hnb hW1 hu
  go_enter Tryd.func26, Tryd.ntmps26
  go_upto_region 1 with fail
  rw [HW.out.1, HW.out.2.1]
  go_wp2_with (go_at_call 58; refine HM.out.mono ?_; rintro e w6 ⟨rfl, hb6⟩; have HB6 := Hid.mk (HW.out.2.2.trans (hb6.mono HW.out.2.2.size)); have HBX := Hid.mk (box_up HB.out hb6); obtain ⟨⟨e0, e1, e2, e3⟩, z1, z2, z3, z4⟩ := box_up HB.out hb6; clear hb6)
  exact ret3_stored rfl rfl rfl rfl rfl HBX.out.1.1 HBX.out.1.2.1 HBX.out.1.2.2.1 HBX.out.1.2.2.2 ⟨rfl, Below.set4 HB6.out (by have := HW.out.2.1; omega)⟩
end
/-- Amid a round: the key's box and both trees are there still, the one at hand is none. -/
structure NS (w0 w : World) (nb g p : Nat) (q : Option Addr) (kk kn : Int) (ks : ByteArray) (ka : Option Addr) (km kc : Nat) : Prop where
  c0 : w.cell? ⟨nb, 0, none⟩ = some (.int .i64 kk)
  c1 : w.cell? ⟨nb, 1, none⟩ = some (.int .i64 kn)
  c2 : w.cell? ⟨nb, 2, none⟩ = some (.string ks)
  c3 : w.cell? ⟨nb, 3, none⟩ = some (.slice ka km kc)
  d0 : w.cell? ⟨g, 0, none⟩ = some (.pointer none)
  d1 : w.cell? ⟨g, 1, none⟩ = some (.pointer (some ⟨p, 0, none⟩))
  nob : NoT w q
  below : Below w0.heap.size w0 w
theorem NS.next {w0 w w' : World} {nb g p : Nat} {q : Option Addr} {kk kn : Int} {ks : ByteArray} {ka : Option Addr} {km kc : Nat} (h : NS w0 w nb g p q kk kn ks ka km kc) (hb : Below w.heap.size w w') : NS w0 w' nb g p q kk kn ks ka km kc :=
  ⟨cell_below hb _ _ _ h.c0, cell_below hb _ _ _ h.c1, cell_below hb _ _ _ h.c2, cell_below hb _ _ _ h.c3, cell_below hb _ _ _ h.d0, cell_below hb _ _ _ h.d1, h.nob.up hb, h.below.trans (hb.mono h.below.size)⟩
set_option maxHeartbeats 8000000 in
set_option maxRecDepth 100000 in
theorem lawNone11 (T : Tm) (kk kn : Int) (ks : ByteArray) (ka : Option Addr) (km kc : Nat) (F' : Nat → Prop) (w : World) (hk : Lies w F' T (.agg #[.int .i64 kk, .int .i64 kn, .string ks, .slice ka km kc])) (hst : ShapeTab w) :
    Calls Tryd.prog 4 #[.agg #[.int .i64 kk, .int .i64 kn, .string ks, .slice ka km kc]] w fun e w' => e = .returned (.bool true) ∧ Below w.heap.size w w' := by
  obtain ⟨nb, W1, hnb, hW1, hu, b0, b1, b2, b3⟩ := boxed_key w kk kn ks ka km kc
  have hal := (Up.alloc (Up.refl W1) (o := .cells #[.pointer none, .pointer none, .int .i64 0, .int .i64 0] 45)).out
  obtain ⟨W2, hW2⟩ : ∃ W2, W1.alloc (.cells #[.pointer none, .pointer none, .int .i64 0, .int .i64 0] 45) = W2 := ⟨_, rfl⟩
  obtain ⟨pz, hpz⟩ : ∃ pz, W1.heap.size = pz := ⟨_, rfl⟩
  obtain ⟨W3, hW3⟩ : ∃ W3, W2.alloc (.cells #[.pointer none, .pointer (some ⟨pz, 0, none⟩)] 23) = W3 := ⟨_, rfl⟩
  obtain ⟨g, hg⟩ : ∃ g, W2.heap.size = g := ⟨_, rfl⟩
  have hb12 : Below W1.heap.size W1 W2 := by rw [← hW2]; exact hal
  have hb23 : Below W2.heap.size W2 W3 := by rw [← hW3]; exact (Up.alloc (Up.refl W2)).out
  have hb13 := hb12.trans (hb23.mono hb12.size)
  have z0 : W3.cell? ⟨pz, 0, none⟩ = some (.pointer none) := cell_below hb23 _ _ _ (by rw [← hW2, ← hpz]; exact new_cell _ _ _ 0)
  have hNS : ∀ (q : Option Addr), NoT W3 q → NS w W3 nb g pz q kk kn ks ka km kc := fun q hq => ⟨cell_below hb13 _ _ _ b0, cell_below hb13 _ _ _ b1, cell_below hb13 _ _ _ b2, cell_below hb13 _ _ _ b3, by rw [← hW3, ← hg]; exact new_cell _ _ _ 0, by rw [← hW3, ← hg]; exact new_cell _ _ _ 1, hq, hu.trans (hb13.mono hu.size)⟩
  have HN := Hid.mk (show NS w W3 nb g pz none kk kn ks ka km kc ∧ NoT W3 (some ⟨pz, 0, none⟩) from ⟨hNS none (NoT.nil _), NoT.zero z0⟩)
  have HLG := Hid.mk (fun (W : World) (hW : Below w.heap.size w W) => largeTerm_any T F' _ 100 W (hk.below hW) (by decide) (by decide))
  have HW := Hid.mk (And.intro hW1 hnb)
  have HST := Hid.mk hst
  clear hnb hW1 hu b0 b1 b2 b3 hal hb12 hb23 hb13 z0 hNS hk hst
  go_enter Tryd.func4, Tryd.ntmps4
  go_upto_region 1 with fail
  rw [HW.out.1, HW.out.2]
  go_upto_region 2 with fail
  clear hW2 hpz hW3 hg
  go_wp2
  go_loopw [4] (fun ii wr => (ii = .int .i64 0 ∨ ii = .int .i64 1 ∨ ii = .int .i64 2) ∧ Hid (NS w wr nb g pz none kk kn ks ka km kc ∧ NoT wr (some ⟨pz, 0, none⟩))) (fun ii _ => 2 - (intOf ii).toNat)
  case atStart => exact ⟨Or.inl rfl, HN⟩
  case round =>
    obtain ⟨hii, hR⟩ := hrel
    have HK := Hid.mk hR.out.1
    have HQ := Hid.mk hR.out.2
    obtain ⟨c0, c1, c2, c3, d0, d1, _, _⟩ := HK.out
    rcases hii with rfl | rfl | rfl
    · have HLG1 := Hid.mk (HLG.out wr HK.out.below)
      go_upto_region 10 with (first
        | (go_at_call 19; refine (awake11 _ (HST.out.below HK.out.below)).mono ?_; rintro e w5 ⟨rfl, hb⟩; have HZ := Hid.mk (HK.out.below.trans (hb.mono HK.out.below.size)); clear hb)
        | (go_at_call 23; refine (HK.out.nob.first).mono ?_; rintro e x ⟨rfl, hb⟩; replace HK := Hid.mk (HK.out.next hb); replace HQ := Hid.mk (HQ.out.up hb); clear hb c0 c1 c2 c3 d0 d1; obtain ⟨c0, c1, c2, c3, d0, d1, _, _⟩ := HK.out)
        | (go_at_call 22; refine (HK.out.nob.remove kk kn ks ka km kc).mono ?_; rintro e x ⟨rfl, hb⟩; replace HK := Hid.mk (HK.out.next hb); replace HQ := Hid.mk (HQ.out.up hb); clear hb c0 c1 c2 c3 d0 d1; obtain ⟨c0, c1, c2, c3, d0, d1, _, _⟩ := HK.out)
        | (go_at_call 21; refine (HK.out.nob.get kk kn ks ka km kc).mono ?_; rintro e x ⟨rfl, hb⟩; replace HK := Hid.mk (HK.out.next hb); replace HQ := Hid.mk (HQ.out.up hb); clear hb c0 c1 c2 c3 d0 d1; obtain ⟨c0, c1, c2, c3, d0, d1, _, _⟩ := HK.out)
        | (go_at_call 20; refine (HK.out.nob.put kk kn ks ka km kc 1).mono ?_; rintro e x ⟨rfl, hb⟩; replace HK := Hid.mk (HK.out.next hb); replace HQ := Hid.mk (HQ.out.up hb); clear hb c0 c1 c2 c3 d0 d1; obtain ⟨c0, c1, c2, c3, d0, d1, _, _⟩ := HK.out)
        | (go_at_call 9; refine HLG1.out.mono ?_; rintro e x ⟨⟨bb, rfl, _⟩, hb⟩; cases bb <;> (replace HK := Hid.mk (HK.out.next hb); replace HQ := Hid.mk (HQ.out.up hb); clear hb c0 c1 c2 c3 d0 d1; obtain ⟨c0, c1, c2, c3, d0, d1, _, _⟩ := HK.out)))
      rotate_left
      · go_ret
        exact ⟨rfl, HZ.out⟩
      obtain ⟨y, hy⟩ : ∃ y, x.alloc (.cells #[.int .i64 0, .int .i64 0, .string ⟨#[]⟩, .slice none 0 0] 32) = y := ⟨_, rfl⟩
      have hby : Below x.heap.size x y := by rw [← hy]; exact (Up.alloc (Up.refl x)).out
      replace HK := Hid.mk (HK.out.next hby)
      replace HQ := Hid.mk (HQ.out.up hby)
      clear c0 c1 c2 c3 d0 d1
      obtain ⟨c0, c1, c2, c3, d0, d1, _, _⟩ := HK.out
      rw [hy]
      clear hy hby
      go_upto_region 11 with (go_at_call 24; refine (HK.out.nob.last).mono ?_; rintro e x ⟨rfl, hb⟩; replace HK := Hid.mk (HK.out.next hb); replace HQ := Hid.mk (HQ.out.up hb); clear hb c0 c1 c2 c3 d0 d1; obtain ⟨c0, c1, c2, c3, d0, d1, _, _⟩ := HK.out)
      obtain ⟨y, hy⟩ : ∃ y, x.alloc (.cells #[.int .i64 0, .int .i64 0, .string ⟨#[]⟩, .slice none 0 0] 32) = y := ⟨_, rfl⟩
      have hby : Below x.heap.size x y := by rw [← hy]; exact (Up.alloc (Up.refl x)).out
      replace HK := Hid.mk (HK.out.next hby)
      replace HQ := Hid.mk (HQ.out.up hby)
      clear c0 c1 c2 c3 d0 d1
      obtain ⟨c0, c1, c2, c3, d0, d1, _, _⟩ := HK.out
      rw [hy]
      clear hy hby
      go_upto_region 12 with (go_at_call 25; refine (HK.out.nob.next kk kn ks ka km kc).mono ?_; rintro e x ⟨rfl, hb⟩; replace HK := Hid.mk (HK.out.next hb); replace HQ := Hid.mk (HQ.out.up hb); clear hb c0 c1 c2 c3 d0 d1; obtain ⟨c0, c1, c2, c3, d0, d1, _, _⟩ := HK.out)
      obtain ⟨y, hy⟩ : ∃ y, x.alloc (.cells #[.int .i64 0, .int .i64 0, .string ⟨#[]⟩, .slice none 0 0] 32) = y := ⟨_, rfl⟩
      have hby : Below x.heap.size x y := by rw [← hy]; exact (Up.alloc (Up.refl x)).out
      replace HK := Hid.mk (HK.out.next hby)
      replace HQ := Hid.mk (HQ.out.up hby)
      clear c0 c1 c2 c3 d0 d1
      obtain ⟨c0, c1, c2, c3, d0, d1, _, _⟩ := HK.out
      rw [hy]
      clear hy hby
      go_upto_region 13 with (go_at_call 26; refine (HK.out.nob.prev kk kn ks ka km kc).mono ?_; rintro e x ⟨rfl, hb⟩; replace HK := Hid.mk (HK.out.next hb); replace HQ := Hid.mk (HQ.out.up hb); clear hb c0 c1 c2 c3 d0 d1; obtain ⟨c0, c1, c2, c3, d0, d1, _, _⟩ := HK.out)
      obtain ⟨y, hy⟩ : ∃ y, x.alloc (.cells #[.int .i64 0, .int .i64 0, .string ⟨#[]⟩, .slice none 0 0] 32) = y := ⟨_, rfl⟩
      have hby : Below x.heap.size x y := by rw [← hy]; exact (Up.alloc (Up.refl x)).out
      replace HK := Hid.mk (HK.out.next hby)
      replace HQ := Hid.mk (HQ.out.up hby)
      clear c0 c1 c2 c3 d0 d1
      obtain ⟨c0, c1, c2, c3, d0, d1, _, _⟩ := HK.out
      rw [hy]
      clear hy hby
      go_wp2_with (first
        | (go_at_call 15; refine (HK.out.nob.keys).mono ?_; rintro e x ⟨rfl, hb⟩; replace HK := Hid.mk (HK.out.next hb); replace HQ := Hid.mk (HQ.out.up hb); clear hb c0 c1 c2 c3 d0 d1; obtain ⟨c0, c1, c2, c3, d0, d1, _, _⟩ := HK.out)
        | (go_at_call 10; refine (HK.out.nob.compared).mono ?_; rintro e x ⟨rfl, hb⟩; replace HK := Hid.mk (HK.out.next hb); replace HQ := Hid.mk (HQ.out.up hb); clear hb c0 c1 c2 c3 d0 d1; obtain ⟨c0, c1, c2, c3, d0, d1, _, _⟩ := HK.out)
        | (go_at_call 14; refine (HK.out.nob.height).mono ?_; rintro e x ⟨rfl, hb⟩; replace HK := Hid.mk (HK.out.next hb); replace HQ := Hid.mk (HQ.out.up hb); clear hb c0 c1 c2 c3 d0 d1; obtain ⟨c0, c1, c2, c3, d0, d1, _, _⟩ := HK.out)
        | (go_at_call 13; refine (HK.out.nob.len).mono ?_; rintro e x ⟨rfl, hb⟩; replace HK := Hid.mk (HK.out.next hb); replace HQ := Hid.mk (HQ.out.up hb); clear hb c0 c1 c2 c3 d0 d1; obtain ⟨c0, c1, c2, c3, d0, d1, _, _⟩ := HK.out))
      go_roundw
      case rel => exact ⟨Or.inr (Or.inl (by first | rfl | go_num)), Hid.mk ⟨HK.out, HQ.out⟩⟩
      case measure => simp [intOf]
    · replace HK : Hid (NS w wr nb g pz (some ⟨pz, 0, none⟩) kk kn ks ka km kc) := Hid.mk ⟨HK.out.c0, HK.out.c1, HK.out.c2, HK.out.c3, HK.out.d0, HK.out.d1, HQ.out, HK.out.below⟩
      have HLG1 := Hid.mk (HLG.out wr HK.out.below)
      go_upto_region 10 with (first
        | (go_at_call 19; refine (awake11 _ (HST.out.below HK.out.below)).mono ?_; rintro e w5 ⟨rfl, hb⟩; have HZ := Hid.mk (HK.out.below.trans (hb.mono HK.out.below.size)); clear hb)
        | (go_at_call 23; refine (HK.out.nob.first).mono ?_; rintro e x ⟨rfl, hb⟩; replace HK := Hid.mk (HK.out.next hb); replace HQ := Hid.mk (HQ.out.up hb); clear hb c0 c1 c2 c3 d0 d1; obtain ⟨c0, c1, c2, c3, d0, d1, _, _⟩ := HK.out)
        | (go_at_call 22; refine (HK.out.nob.remove kk kn ks ka km kc).mono ?_; rintro e x ⟨rfl, hb⟩; replace HK := Hid.mk (HK.out.next hb); replace HQ := Hid.mk (HQ.out.up hb); clear hb c0 c1 c2 c3 d0 d1; obtain ⟨c0, c1, c2, c3, d0, d1, _, _⟩ := HK.out)
        | (go_at_call 21; refine (HK.out.nob.get kk kn ks ka km kc).mono ?_; rintro e x ⟨rfl, hb⟩; replace HK := Hid.mk (HK.out.next hb); replace HQ := Hid.mk (HQ.out.up hb); clear hb c0 c1 c2 c3 d0 d1; obtain ⟨c0, c1, c2, c3, d0, d1, _, _⟩ := HK.out)
        | (go_at_call 20; refine (HK.out.nob.put kk kn ks ka km kc 1).mono ?_; rintro e x ⟨rfl, hb⟩; replace HK := Hid.mk (HK.out.next hb); replace HQ := Hid.mk (HQ.out.up hb); clear hb c0 c1 c2 c3 d0 d1; obtain ⟨c0, c1, c2, c3, d0, d1, _, _⟩ := HK.out)
        | (go_at_call 9; refine HLG1.out.mono ?_; rintro e x ⟨⟨bb, rfl, _⟩, hb⟩; cases bb <;> (replace HK := Hid.mk (HK.out.next hb); replace HQ := Hid.mk (HQ.out.up hb); clear hb c0 c1 c2 c3 d0 d1; obtain ⟨c0, c1, c2, c3, d0, d1, _, _⟩ := HK.out)))
      rotate_left
      · go_ret
        exact ⟨rfl, HZ.out⟩
      obtain ⟨y, hy⟩ : ∃ y, x.alloc (.cells #[.int .i64 0, .int .i64 0, .string ⟨#[]⟩, .slice none 0 0] 32) = y := ⟨_, rfl⟩
      have hby : Below x.heap.size x y := by rw [← hy]; exact (Up.alloc (Up.refl x)).out
      replace HK := Hid.mk (HK.out.next hby)
      replace HQ := Hid.mk (HQ.out.up hby)
      clear c0 c1 c2 c3 d0 d1
      obtain ⟨c0, c1, c2, c3, d0, d1, _, _⟩ := HK.out
      rw [hy]
      clear hy hby
      go_upto_region 11 with (go_at_call 24; refine (HK.out.nob.last).mono ?_; rintro e x ⟨rfl, hb⟩; replace HK := Hid.mk (HK.out.next hb); replace HQ := Hid.mk (HQ.out.up hb); clear hb c0 c1 c2 c3 d0 d1; obtain ⟨c0, c1, c2, c3, d0, d1, _, _⟩ := HK.out)
      obtain ⟨y, hy⟩ : ∃ y, x.alloc (.cells #[.int .i64 0, .int .i64 0, .string ⟨#[]⟩, .slice none 0 0] 32) = y := ⟨_, rfl⟩
      have hby : Below x.heap.size x y := by rw [← hy]; exact (Up.alloc (Up.refl x)).out
      replace HK := Hid.mk (HK.out.next hby)
      replace HQ := Hid.mk (HQ.out.up hby)
      clear c0 c1 c2 c3 d0 d1
      obtain ⟨c0, c1, c2, c3, d0, d1, _, _⟩ := HK.out
      rw [hy]
      clear hy hby
      go_upto_region 12 with (go_at_call 25; refine (HK.out.nob.next kk kn ks ka km kc).mono ?_; rintro e x ⟨rfl, hb⟩; replace HK := Hid.mk (HK.out.next hb); replace HQ := Hid.mk (HQ.out.up hb); clear hb c0 c1 c2 c3 d0 d1; obtain ⟨c0, c1, c2, c3, d0, d1, _, _⟩ := HK.out)
      obtain ⟨y, hy⟩ : ∃ y, x.alloc (.cells #[.int .i64 0, .int .i64 0, .string ⟨#[]⟩, .slice none 0 0] 32) = y := ⟨_, rfl⟩
      have hby : Below x.heap.size x y := by rw [← hy]; exact (Up.alloc (Up.refl x)).out
      replace HK := Hid.mk (HK.out.next hby)
      replace HQ := Hid.mk (HQ.out.up hby)
      clear c0 c1 c2 c3 d0 d1
      obtain ⟨c0, c1, c2, c3, d0, d1, _, _⟩ := HK.out
      rw [hy]
      clear hy hby
      go_upto_region 13 with (go_at_call 26; refine (HK.out.nob.prev kk kn ks ka km kc).mono ?_; rintro e x ⟨rfl, hb⟩; replace HK := Hid.mk (HK.out.next hb); replace HQ := Hid.mk (HQ.out.up hb); clear hb c0 c1 c2 c3 d0 d1; obtain ⟨c0, c1, c2, c3, d0, d1, _, _⟩ := HK.out)
      obtain ⟨y, hy⟩ : ∃ y, x.alloc (.cells #[.int .i64 0, .int .i64 0, .string ⟨#[]⟩, .slice none 0 0] 32) = y := ⟨_, rfl⟩
      have hby : Below x.heap.size x y := by rw [← hy]; exact (Up.alloc (Up.refl x)).out
      replace HK := Hid.mk (HK.out.next hby)
      replace HQ := Hid.mk (HQ.out.up hby)
      clear c0 c1 c2 c3 d0 d1
      obtain ⟨c0, c1, c2, c3, d0, d1, _, _⟩ := HK.out
      rw [hy]
      clear hy hby
      go_wp2_with (first
        | (go_at_call 15; refine (HK.out.nob.keys).mono ?_; rintro e x ⟨rfl, hb⟩; replace HK := Hid.mk (HK.out.next hb); replace HQ := Hid.mk (HQ.out.up hb); clear hb c0 c1 c2 c3 d0 d1; obtain ⟨c0, c1, c2, c3, d0, d1, _, _⟩ := HK.out)
        | (go_at_call 10; refine (HK.out.nob.compared).mono ?_; rintro e x ⟨rfl, hb⟩; replace HK := Hid.mk (HK.out.next hb); replace HQ := Hid.mk (HQ.out.up hb); clear hb c0 c1 c2 c3 d0 d1; obtain ⟨c0, c1, c2, c3, d0, d1, _, _⟩ := HK.out)
        | (go_at_call 14; refine (HK.out.nob.height).mono ?_; rintro e x ⟨rfl, hb⟩; replace HK := Hid.mk (HK.out.next hb); replace HQ := Hid.mk (HQ.out.up hb); clear hb c0 c1 c2 c3 d0 d1; obtain ⟨c0, c1, c2, c3, d0, d1, _, _⟩ := HK.out)
        | (go_at_call 13; refine (HK.out.nob.len).mono ?_; rintro e x ⟨rfl, hb⟩; replace HK := Hid.mk (HK.out.next hb); replace HQ := Hid.mk (HQ.out.up hb); clear hb c0 c1 c2 c3 d0 d1; obtain ⟨c0, c1, c2, c3, d0, d1, _, _⟩ := HK.out))
      go_roundw
      case rel => exact ⟨Or.inr (Or.inr (by first | rfl | go_num)), Hid.mk ⟨⟨HK.out.c0, HK.out.c1, HK.out.c2, HK.out.c3, HK.out.d0, HK.out.d1, NoT.nil _, HK.out.below⟩, HQ.out⟩⟩
      case measure => simp [intOf]
    · go_wp2_with (go_at_call 19; refine (awake11 _ (HST.out.below HK.out.below)).mono ?_; rintro e w5 ⟨rfl, hb⟩; have HZ := Hid.mk (HK.out.below.trans (hb.mono HK.out.below.size)); clear hb)
      go_ret
      exact ⟨rfl, HZ.out⟩
end Go.Proofs.YteklhipcojioaaaDoor
