/-
  Flatten, Read and Part of a table that nobody made.
-/
import Derived.Test.YthkjdcmlalgphaaDoorZFlatAwake
import Derived.Test.YthkjdcmlalgphaaDoorZAtomLn
namespace Go.Proofs.YthkjdcmlalgphaaDoor
open Go.RowKit Go.Deep

theorem NoTab.up {v : Value} {w w' : World} (h : NoTab w v) (hb : Below w.heap.size w w') : NoTab w' v := by
  rcases h with rfl | ⟨p, rfl, hc⟩
  · exact Or.inl rfl
  · exact Or.inr ⟨p, rfl, cell_below hb _ _ _ hc⟩
theorem madeF_no {v : Value} {w : World} (h : NoTab w v) : Calls Tryd.prog 38 #[v] w fun e w' => e = .returned (.bool false) ∧ w = w' := by
  have hc := Hid.mk (name_not (-1) h)
  clear h
  go_enter Tryd.func38, Tryd.ntmps38
  go_wp2_with (go_at_call 61; refine hc.out.mono ?_; rintro e w1 ⟨rfl, rfl⟩)
  go_ret
  exact ⟨rfl, rfl⟩

set_option maxHeartbeats 2000000 in
set_option maxRecDepth 100000 in
theorem flatten_not {o : Option Addr} {w : World} (k n : Int) (s : ByteArray) (a : Option Addr) (m c : Nat) (h : NoTab w (.pointer o)) :
    Calls Tryd.prog 12 #[.pointer o, .agg #[.int .i64 k, .int .i64 n, .string s, .slice a m c]] w fun e w' => e = .returned (.tuple #[.slice none 0 0, .int .i64 1]) ∧ Below w.heap.size w w' := by
  obtain ⟨W0, hW0⟩ : ∃ W0, (w.alloc (.cells #[.pointer o] 28)).alloc (.cells #[.int .i64 k, .int .i64 n, .string s, .slice a m c] 25) = W0 := ⟨_, rfl⟩
  have hb0 : Below w.heap.size w W0 := by rw [← hW0]; exact ((Below.refl _ _).alloc (Nat.le_refl _) _).alloc (by simp) _
  have hbx0 : W0.heap[w.heap.size]? = some (.cells #[.pointer o] 28) := by rw [← hW0]; exact new_block1 _ _ _
  have ca : W0.cell? ⟨w.heap.size, 0, none⟩ = some (.pointer o) := by simp [World.cell?, hbx0]
  have HM := Hid.mk (madeF_no (h.up hb0))
  have HB0 := Hid.mk hb0
  clear hb0 hbx0 h
  go_enter Tryd.func12, Tryd.ntmps12
  go_upto_region 1 with fail
  try rw [hW0]
  clear hW0
  go_wp2_with (go_at_call 38; refine HM.out.mono ?_; rintro e w1 ⟨rfl, rfl⟩)
  go_ret2
  exact ⟨rfl, HB0.out⟩

set_option maxHeartbeats 2000000 in
theorem read_not {v : Value} {w : World} (la : Option Addr) (len cap : Nat) (h : NoTab w v) :
    Calls Tryd.prog 19 #[v, .slice la len cap] w fun e w' => e = .returned (.tuple #[.agg #[.int .i64 0, .int .i64 0, .string ⟨#[]⟩, .slice none 0 0], .int .i64 1]) ∧ Below w.heap.size w w' := by
  obtain ⟨W0, hW0⟩ : ∃ W0, w.alloc (.cells #[.int .i64 0, .int .i64 0, .string ⟨#[]⟩, .slice none 0 0] 25) = W0 := ⟨_, rfl⟩
  have hb0 : Below w.heap.size w W0 := by rw [← hW0]; exact (Below.refl _ _).alloc (Nat.le_refl _) _
  have hbx : W0.heap[w.heap.size]? = some (.cells #[.int .i64 0, .int .i64 0, .string ⟨#[]⟩, .slice none 0 0] 25) := by rw [← hW0]; exact new_block _ _
  have HM := Hid.mk (madeF_no (h.up hb0))
  have HB0 := Hid.mk hb0
  obtain ⟨⟨q0, q1, q2, q3⟩, r0, r1, r2, r3⟩ := kept4 hbx (Below.refl _ _)
  clear hb0 hbx h
  go_enter Tryd.func19, Tryd.ntmps19
  go_upto_region 1 with fail
  try rw [hW0]
  clear hW0
  go_wp2_with (go_at_call 38; refine HM.out.mono ?_; rintro e w1 ⟨rfl, rfl⟩)
  exact ret2_stored rfl rfl rfl rfl q0 q1 q2 q3 ⟨rfl, Below.set4 HB0.out (Nat.le_refl _)⟩

set_option maxHeartbeats 2000000 in
theorem part_not {v : Value} {w : World} (la : Option Addr) (len cap : Nat) (n : Int) (h : NoTab w v) :
    Calls Tryd.prog 21 #[v, .slice la len cap, .int .i64 n] w fun e w' => e = .returned (.tuple #[.slice none 0 0, .int .i64 1]) ∧ Below w.heap.size w w' := by
  have HR := Hid.mk (read_not la len cap h)
  clear h
  go_enter Tryd.func21, Tryd.ntmps21
  go_wp2_with (go_at_call 19; refine HR.out.mono ?_; rintro e w2 ⟨rfl, hb2⟩; have HB2 := Hid.mk hb2; clear hb2)
  go_ret2
  exact ⟨rfl, HB2.out.alloc HB2.out.size _⟩
end Go.Proofs.YthkjdcmlalgphaaDoor
