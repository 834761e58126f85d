/-
  The program's tables of atoms: a table is made; whether one was made; whether one is full; what is looked up.
-/
import Derived.Test.YtjmjifjmenmdgaaAtomBase
import Derived.Maps.OwnOps
import Derived.LaidEqlPtr
namespace Go.Proofs.Ytjmjifjmenmdgaa
open Go.RowKit Go.Deep Go.Maps Go.WideShapes

set_option maxHeartbeats 1000000 in
theorem new_any (w : World) : Calls Try.prog 8 #[] w fun e w' => e = .returned (.pointer (some ⟨w.heap.size + 1, 0, none⟩)) ∧ Tab w' (w.heap.size + 1) w.heap.size (.slice none 0 0) [] ∧ Below w.heap.size w w' := by
  have hmm := @run_makeMap Try.prog
  go_enter Try.func8, Try.ntmps8
  go_wp2
  go_ret
  refine ⟨rfl, ?_, ((Below.refl _ _).alloc (Nat.le_refl _) _).alloc (by simp) _⟩
  refine ⟨new_block2 _ _ _, ⟨.map [], ?_, MapOk.nil⟩, Texts.nil _, by omega, by simp [Value.ownBlock], by simp [Value.ownBlock], Good.nil⟩
  exact (World.ownsMap_made w _ _ _).alloc _

theorem eql_self (p : Nat) (w : World) : (binOp .eql 23 (.pointer (some ⟨p, 0, none⟩)) (.pointer (some ⟨p, 0, none⟩))).run Try.prog w = .ok (.bool true) w := by
  obtain ⟨i0, hi⟩ : ∃ i0, Try.prog.info? 37 = some i0 := Option.isSome_iff_exists.1 (by kernel_rfl)
  exact run_eql_ptr_same w _ Try.underlying23 hi
theorem made_yes (p bm : Nat) (v : Value) (L : List ByteArray) (w : World) (h : Tab w p bm v L) : Calls Try.prog 20 #[.pointer (some ⟨p, 0, none⟩)] w fun e w' => e = .returned (.bool true) ∧ w = w' := by
  have c0 := h.cell0
  have he := eql_self p
  go_enter Try.func20, Try.ntmps20
  go_wp2
  go_ret
  exact ⟨rfl, rfl⟩
theorem made_nil (w : World) : Calls Try.prog 20 #[.pointer none] w fun e w' => e = .returned (.bool false) ∧ w = w' := by
  go_enter Try.func20, Try.ntmps20
  go_wp2
  go_ret
  exact ⟨rfl, rfl⟩
theorem made_zero (p : Nat) (w : World) (c0 : w.cell? ⟨p, 0, none⟩ = some (.pointer none)) : Calls Try.prog 20 #[.pointer (some ⟨p, 0, none⟩)] w fun e w' => e = .returned (.bool false) ∧ w = w' := by
  have he : ∀ w : World, (binOp .eql 23 (.pointer none) (.pointer (some ⟨p, 0, none⟩))).run Try.prog w = .ok (.bool false) w := fun w => by
    obtain ⟨i0, hi⟩ : ∃ i0, Try.prog.info? 37 = some i0 := Option.isSome_iff_exists.1 (by kernel_rfl)
    have h : ∀ d : Nat, (Op.equalIn (d + 1) 23 (.pointer none) (.pointer (some ⟨p, 0, none⟩))).run Try.prog w = .ok false w := fun d => by
      simp [Op.equalIn, run_underlying Try.underlying23, sizeOf, typeInfo, hi]
    simp only [binOp]
    simp [Op.equal, Op.maxDepth, h 9999]
  go_enter Try.func20, Try.ntmps20
  go_wp2
  go_ret
  exact ⟨rfl, rfl⟩
set_option maxRecDepth 100000 in
theorem full_any (p bm : Nat) (v : Value) (L : List ByteArray) (s : ByteArray) (w : World) (h : Tab w p bm v L) (hs : s.size ≤ 64) : Calls Try.prog 21 #[.pointer (some ⟨p, 0, none⟩), .string s] w fun e w' => e = .returned (.bool (decide (4096 ≤ L.length ∨ 65536 < sizes L + s.size))) ∧ w = w' := by
  obtain ⟨⟨c0, c1, c2, c3⟩, f2, f3⟩ := h.cells
  have hg := h.good.few
  have hz := h.good.small
  obtain ⟨a, cap, hv⟩ := h.row.slice
  subst hv
  have hw : IntKind.i64.wrap ((sizes L : Int) + s.size) = ((sizes L + s.size : Nat) : Int) := by rw [wrap_id (by omega) (by omega)]; omega
  generalize sizes L + s.size = N at hw ⊢
  generalize sizes L = M at c3 hw hz
  generalize L.length = K at c2 hg ⊢
  have hG := Hid.mk hg
  have hZ := Hid.mk hz
  clear hg hz h hs
  go_enter Try.func21, Try.ntmps21
  go_wp2
  all_goals go_ret
  all_goals exact ⟨ret_bool (by simp; try omega), rfl⟩

end Go.Proofs.Ytjmjifjmenmdgaa
