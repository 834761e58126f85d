/-
  AtomFull returns true: as many fit as may be.
-/
import Derived.Test.YtjmjifjmenmdgaaAtomNm
import Derived.Test.YtjmjifjmenmdgaaAtomOpen
namespace Go.Proofs.Ytjmjifjmenmdgaa
open Go.RowKit Go.Deep Go.Maps Go.WideShapes Go.WideMaps

/-- The first so many names. -/
def nms (long i : Nat) : List ByteArray := (List.range i).map fun j => nm j long
theorem nms_len (long i : Nat) : (nms long i).length = i := by simp [nms]
theorem nms_succ (long i : Nat) : nms long (i + 1) = nms long i ++ [nm i long] := by simp [nms, List.range_succ]
theorem nms_sizes (long : Nat) : ∀ i, sizes (nms long i) = i * long
  | 0 => by simp [nms, sizes]
  | i + 1 => by rw [nms_succ, sizes_snoc, nms_sizes long i, nm_size, Nat.succ_mul]
theorem nms_at (long i j : Nat) (h : j < (nms long i).length) : (nms long i)[j] = nm j long := by simp [nms]
theorem nms_none {long i k : Nat} (h4 : 4 ≤ long) (hk : i ≤ k) (hm : k < 17576) : pos (nm k long) (nms long i) = none := by
  refine pos_none_of fun j hj e => ?_
  rw [nms_at] at e
  have hj' : j < i := by rw [nms_len] at hj; exact hj
  have := nm_inj h4 (by omega) hm e
  omega
theorem nms_pos {long i k : Nat} (h4 : 4 ≤ long) (hk : k < i) (hm : i < 17576) : pos (nm k long) (nms long i) = some k := by
  refine pos_of (by rw [nms_len]; exact hk) (nms_at _ _ _ _) fun j hj hjk e => ?_
  rw [nms_at] at e
  have := nm_inj h4 (by omega) (by omega) e
  omega
def room (long : Nat) : Nat := min 4096 (65536 / long)
theorem room_le (long : Nat) : room long ≤ 4096 := by unfold room; omega
theorem room_mul (long : Nat) : room long * long ≤ 65536 := Nat.le_trans (Nat.mul_le_mul_right _ (Nat.min_le_right _ _)) (Nat.div_mul_le_self _ _)
theorem room_pos {long : Nat} (h4 : 4 ≤ long) (h : long ≤ 64) : 1 ≤ room long := by
  have : 1024 ≤ 65536 / long := (Nat.le_div_iff_mul_le (by omega)).2 (by omega)
  unfold room
  omega
theorem nms_put {long i : Nat} (h4 : 4 ≤ long) (h : long ≤ 64) (hi : i < room long) : put (nms long i) (nm i long) = (i, 0, nms long (i + 1)) := by
  have h1 := room_le long
  have h2 := room_mul long
  have h3 : (i + 1) * long ≤ room long * long := Nat.mul_le_mul_right _ hi
  rw [Nat.succ_mul] at h3
  rw [put_new (by rw [nm_size]; exact h) (nms_none h4 (Nat.le_refl _) (by omega)) (by rw [nms_len]; omega) (by rw [nms_sizes, nm_size]; omega), nms_len, nms_succ]
theorem nms_full {long : Nat} (h4 : 4 ≤ long) (h : long ≤ 64) : put (nms long (room long)) (nm (room long) long) = (0, 8, nms long (room long)) := by
  have h1 := room_le long
  refine put_full (by rw [nm_size]; exact h) (nms_none h4 (Nat.le_refl _) (by omega)) ?_
  rw [nms_len, nms_sizes, nm_size]
  by_cases hr : 4096 ≤ room long
  · exact Or.inl hr
  · right
    have e : room long = 65536 / long := by unfold room at *; omega
    rw [e]
    have := Nat.lt_mul_div_succ 65536 (show 0 < long by omega)
    rw [Nat.mul_add, Nat.mul_comm] at this
    omega
theorem nms_again {long k : Nat} (h4 : 4 ≤ long) (h : long ≤ 64) (hk : k < room long) : put (nms long (room long)) (nm k long) = (k, 0, nms long (room long)) := by
  have h1 := room_le long
  exact put_there (by rw [nm_size]; exact h) (nms_pos h4 hk (by omega))
theorem nm_max (n long : Nat) (h : long ≤ 64) : (nm n long).size ≤ maxLen := by rw [nm_size]; unfold maxLen; omega
theorem now_full {B p bm long : Nat} {w0 w : World} (h4 : 4 ≤ long) (h : long ≤ 64) (hN : Now B w0 w p bm (nms long (room long))) :
    Calls Try.prog 9 #[.pointer (some ⟨p, 0, none⟩), .string (nm (room long) long)] w fun e w' => e = .returned (.tuple #[.int .i64 0, .int .i64 8]) ∧ Now B w0 w' p bm (nms long (room long)) := by
  have := now_intern hN (nm_max (room long) long h)
  rw [nms_full h4 h] at this
  exact this

theorem room_min (long : Nat) (h : 0 < long) : ∃ Q : Nat, Q = 65536 / long ∧ ∃ R : Nat, R = room long ∧ IntKind.i64.wrap (Int.tdiv 65536 (long : Int)) = (Q : Int) ∧ min (4096 : Int) (Q : Int) = (R : Int) := by
  refine ⟨_, rfl, _, rfl, ?_, by unfold room; omega⟩
  have e : Int.tdiv 65536 (long : Int) = ((65536 / long : Nat) : Int) := by
    rw [Int.tdiv_eq_ediv_of_nonneg (by omega)]
    rfl
  have : 65536 / long ≤ 65536 := Nat.div_le_self _ _
  rw [e]
  generalize 65536 / long = Q at *
  exact wrap_id (by omega) (by omega)

set_option maxRecDepth 100000 in
set_option maxHeartbeats 4000000 in
theorem lawFull6 (x n : Int) (w : World) :
    Calls Try.prog 6 #[.int .i64 x, .int .i64 n] w fun e w' => e = .returned (.bool true) ∧ Below w.heap.size w w' := by
  go_enter Try.func6, Try.ntmps6
  go_wp2_with (first
    | (go_at_call 5; refine (known6_any _).mono ?_; rintro e w1 ⟨rfl, h⟩; have hb1 := Hid.mk h; clear h)
    | (go_at_call 12; refine (pick6_any _ _ _ (by omega) (by omega)).mono ?_; rintro e w2 ⟨y, rfl, hy, rfl⟩
       have hwy : IntKind.i64.wrap (4 + (y : Int)) = ((4 + y : Nat) : Int) := by rw [wrap_id (by omega) (by omega)]; omega
       obtain ⟨long, hlong⟩ : ∃ long, long = 4 + y := ⟨_, rfl⟩
       rw [← hlong] at hwy
       have HL := Hid.mk (show 4 ≤ long ∧ long ≤ 64 by omega)
       have hl0 : ¬ (long : Int) = 0 := by omega
       have hl0' : ¬ long = 0 := by omega
       obtain ⟨Q, hQ, R, hR, htd, hmn⟩ := room_min long (by omega)
       have HQ := Hid.mk hR
       clear hlong hy hQ hR)
    | (go_at_call 8; refine (now_made _).mono ?_; rintro e w3 ⟨rfl, h⟩; have T0 := Hid.mk h; clear h))
  have HR := HQ.out
  clear htd hmn
  go_loopw [8] (fun ii wr => ∃ i : Nat, i ≤ R ∧ ii = .int .i64 i ∧ Hid (Now w1.heap.size w1 wr (w1.heap.size + 1) w1.heap.size (nms long i))) (fun ii _ => R - (intOf ii).toNat)
  case atStart => exact ⟨0, Nat.zero_le _, rfl, T0⟩
  case round =>
    obtain ⟨i, hi, rfl, hT⟩ := hrel
    have hRle : R ≤ 4096 := by rw [HR]; exact room_le long
    have HRl := Hid.mk hRle
    have HRR := Hid.mk HR
    clear hRle HR
    by_cases hlt : i < R
    · have hput := Hid.mk (nms_put HL.out.1 HL.out.2 (i := i) (by rw [← HRR.out]; exact hlt))
      have hwi : IntKind.i64.wrap ((i : Int) + 1) = ((i + 1 : Nat) : Int) := by have := HRl.out; rw [wrap_id (by omega) (by omega)]; omega
      have HLt := Hid.mk hlt
      go_wp2_with (first
        | (go_at_call 19; refine (nm_any i long _ (by have := HRl.out; have : i < R := HLt.out; omega) (by have := HL.out; omega)).mono ?_; rintro e w4 ⟨rfl, h⟩; have T1 := Hid.mk (hT.out.up h); clear h)
        | (go_at_call 18; refine (now_interned T1.out hput.out (nm_max i long HL.out.2) (k := i) rfl).mono ?_; rintro e w5 ⟨rfl, h⟩; have T2 := Hid.mk h; clear h))
      go_roundw
      case rel => exact ⟨i + 1, HLt.out, by first | rfl | go_num, T2⟩
      case measure =>
        have h1 : i < R := HLt.out
        simp [intOf]
        omega
    · obtain rfl : i = R := by omega
      have hrp := Hid.mk (room_pos HL.out.1 HL.out.2)
      have hnl : (nms long i).length = i := nms_len long i
      have HN := Hid.mk hnl
      have HT : Hid (Now w1.heap.size w1 wr (w1.heap.size + 1) w1.heap.size (nms long (room long))) := by rw [← HRR.out]; exact hT
      clear hnl hlt hi
      go_wp2_with (first
        | (go_at_call 9; have hfu := now_full HL.out.1 HL.out.2 T1.out; rw [← HRR.out] at hfu; refine hfu.mono ?_; rintro e w5 ⟨rfl, h⟩; have T2 := Hid.mk h; clear h hfu)
        | (go_at_call 12; refine (pick6_any _ _ _ (by have := hrp.out; have := HRR.out; omega) (by have := HRl.out; omega)).mono ?_; rintro e w6 ⟨k, rfl, hk, rfl⟩
           have HK := Hid.mk (show k < i by omega)
           have heq := bytes_eq (nm k long)
           clear hk)
        | (go_at_call 15; refine (now_name T2.out k (by rw [HN.out]; exact HK.out) (n := k) rfl (x := nm k long) (nms_at _ _ _ _)).mono ?_; rintro e w7 ⟨rfl, h⟩; have T3 := Hid.mk h; clear h)
        | (go_at_call 19; have g := T3; refine (nm_any k long _ (by have := HRl.out; have : k < i := HK.out; omega) (by have := HL.out; omega)).mono ?_; rintro e w8 ⟨rfl, h⟩; have T4 := Hid.mk (T3.out.up h); clear h)
        | (go_at_call 19; refine (nm_any i long _ (by have := HRl.out; omega) (by have := HL.out; omega)).mono ?_; rintro e w4 ⟨rfl, h⟩; have T1 := Hid.mk (HT.out.up h); clear h)
        | (go_at_call 18; have hag := nms_again HL.out.1 HL.out.2 (k := k) (by rw [← HRR.out]; exact HK.out); rw [← HRR.out] at hag; refine (now_interned T4.out hag (nm_max k long HL.out.2) (k := k) rfl).mono ?_; rintro e w9 ⟨rfl, h⟩; have T5 := Hid.mk h; clear h hag)
        | (go_at_call 16; refine (now_len (n := i) T5.out (by rw [HN.out])).mono ?_; rintro e w10 ⟨rfl, rfl⟩))
      go_ret
      obtain ⟨v, g1, g2, g3, g4⟩ := T5.out
      exact ⟨rfl, hb1.out.trans (g2.mono hb1.out.size)⟩

end Go.Proofs.Ytjmjifjmenmdgaa
