/-
  The document's buckets: made, told.
-/
import Derived.Test.YtkijbphbibcnoaaLinRA
namespace Go.Proofs.Ytkijbphbibcnoaa
open Go.RowKit Go.Deep Go.Maps Go.WideShapes

/-- What a call tells of a bucket by its number. -/
def atV (B : Bks) (n : Int) : List It := if 0 ≤ n ∧ n < B.length then rowB B n.toNat else []
def atE (B : Bks) (n : Int) : Int := if 0 ≤ n ∧ n < B.length then 0 else 2
/-- Empty rows made. -/
theorem make_rows (n : Nat) (hn : n ≤ 1000000) (W : World) : (Instr.makeSlice 37 (.int .i64 (n : Int)) (.int .i64 (n : Int))).run Try.prog W = .ok (.slice (some ⟨W.heap.size, 0, none⟩) n n) (W.alloc (.cells (List.replicate n (Value.slice none 0 0)).toArray 43)) := by
  obtain ⟨i, hi, hz, hs, hb⟩ := rwS.parts
  have h := run_make (P := Try.prog) W 37 43 i _ Try.underlying37 hi hz .i64 .i64 (n : Int) (n : Int) (by omega) (by omega) (by rw [hb]; show ((24 : Nat) : Int) * _ ≤ _; omega) (by omega)
  rw [hs] at h
  have e : madeCells (Value.cells rwS.z) (((n : Nat) : Int).toNat * rwS.k) = (List.replicate n (Value.slice none 0 0)).toArray := by
    apply Array.toList_inj.1
    have := toList_madeCells_one (Value.slice none 0 0) n
    show (madeCells #[Value.slice none 0 0] (((n : Nat) : Int).toNat * 1)).toList = _
    rw [Int.toNat_natCast, Nat.mul_one, this]
  rw [e] at h
  simpa using h

set_option maxHeartbeats 2000000 in
theorem atR_any (q least : Nat) (S : Nat → Prop) (B : Bks) (n : Int) (w : World) (hb : Rb w q least S B) (h1 : 1 ≤ B.length) :
    Calls Try.prog 32 #[.pointer (some ⟨q, 0, none⟩), .int .i64 n] w fun e w' => (∃ a c, e = .returned (.tuple #[.slice a (atV B n).length c, .int .i64 (atE B n)]) ∧ CelT w (atV B n) a) ∧ w = w' := by
  obtain ⟨v, hb⟩ := hb
  obtain ⟨c0, c1, f1⟩ := hb.cells
  unfold atV atE
  by_cases hn : 0 ≤ n ∧ n < B.length
  · rw [if_pos hn, if_pos hn]
    obtain ⟨N, rfl⟩ := Int.eq_ofNat_of_zero_le hn.1
    have hN : N < B.length := by omega
    obtain ⟨g, cap, a', c, rfl, _, d0, _, hrow⟩ := hb.at_ hN
    rw [Int.toNat_natCast, rowB_lt hN]
    have HC := Hid.mk (show CelT w B[N] a' by obtain ⟨a2, c2, e, h⟩ := hrow.slice; simp only [Value.slice.injEq] at e; obtain ⟨rfl, _, _⟩ := e; exact h)
    generalize B[N] = R at *
    have k1 : decide ((N : Int) < 0) = false := by rw [decide_eq_false_iff_not]; omega
    have k2 : decide ((B.length : Int) ≤ N) = false := by rw [decide_eq_false_iff_not]; omega
    have k3 : (N : Int) < B.length := by omega
    clear hb hrow hn hN h1
    go_enter Try.func32, Try.ntmps32
    go_wp2
    go_ret2
    exact ⟨⟨_, _, rfl, HC.out⟩, rfl⟩
  · rw [if_neg hn, if_neg hn]
    obtain ⟨a, cap, rfl⟩ := hb.slice
    by_cases k1 : n < 0
    · clear hb hn
      go_enter Try.func32, Try.ntmps32
      go_wp2
      go_ret2
      first | exact ⟨⟨none, 0, rfl, fun h => absurd h (Nat.lt_irrefl _)⟩, rfl⟩ | exact ⟨⟨none, ⟨0, rfl⟩, fun h => absurd h (Nat.lt_irrefl _)⟩, rfl⟩
    · have k2 : (B.length : Int) ≤ n := by omega
      have k1 : decide (n < 0) = false := by rw [decide_eq_false_iff_not]; omega
      clear hb hn
      go_enter Try.func32, Try.ntmps32
      go_wp2
      go_ret2
      first | exact ⟨⟨none, 0, rfl, fun h => absurd h (Nat.lt_irrefl _)⟩, rfl⟩ | exact ⟨⟨none, ⟨0, rfl⟩, fun h => absurd h (Nat.lt_irrefl _)⟩, rfl⟩

set_option maxHeartbeats 2000000 in
theorem newR_any (least : Nat) (w : World) (h1 : 1 ≤ least) (h2 : least ≤ 1024) :
    Calls Try.prog 8 #[.int .i64 least] w fun e w' => ∃ q S, e = .returned (.tuple #[.pointer (some ⟨q, 0, none⟩), .int .i64 0]) ∧ Rb w' q least S (List.replicate least []) ∧ (∀ k, S k → w.heap.size ≤ k) ∧ Below w.heap.size w w' := by
  have k1 : decide ((least : Int) < 1) = false := by rw [decide_eq_false_iff_not]; omega
  have k2 : decide ((1024 : Int) < least) = false := by rw [decide_eq_false_iff_not]; omega
  have hmk := make_rows least (by omega)
  have HL := Hid.mk h2
  clear h1 h2
  go_enter Try.func8, Try.ntmps8
  go_wp2
  go_ret2
  have hM := GdS.made (s := itS) (o := rwS) outR w least (by have := HL.out; omega) (S := fun k => (k = w.heap.size ∨ k = w.heap.size + 1) ∧ k ≠ w.heap.size + 1) ⟨Or.inl rfl, by omega⟩
  refine ⟨w.heap.size + 1, fun k => k = w.heap.size ∨ k = w.heap.size + 1, ?_, ⟨_, ?_, Gd.up ⟨_, hM⟩ (Up.alloc (Up.refl _)).out, Or.inr rfl, fun k hk => ?_⟩, fun k hk => ?_, ?_⟩
  · first | rfl | simp
  · exact new_block2 _ _ _
  · simp; omega
  · omega
  · exact (Up.alloc (Up.alloc (Up.refl w))).out
theorem newR_not (n : Int) (w : World) (h : n < 1 ∨ 1024 < n) : Calls Try.prog 8 #[.int .i64 n] w fun e w' => e = .returned (.tuple #[.pointer none, .int .i64 2]) ∧ w = w' := by
  by_cases h1 : n < 1
  · clear h
    go_enter Try.func8, Try.ntmps8
    go_wp2
    go_ret2
    exact ⟨rfl, rfl⟩
  · have h2 : 1024 < n := by omega
    clear h
    go_enter Try.func8, Try.ntmps8
    go_wp2
    go_ret2
    exact ⟨rfl, rfl⟩
end Go.Proofs.Ytkijbphbibcnoaa
