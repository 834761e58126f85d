/-
  The bytes of a number and of a text, one behind the other, as the program hands them to a loop's body.
-/
import Derived.Test.YtnelefokpopfdaaDoorHashBytes
import Derived.Test.YtnelefokpopfdaaDoorTermInto
import Derived.Test.YtnelefokpopfdaaDoorRangeRows
import Derived.Test.YtnelefokpopfdaaDoorTermAwake
import Derived.Laws.Bits64
namespace Go.Proofs.YtnelefokpopfdaaDoor
open Go.RowKit Go.Deep

attribute [local go_sem] Oper.semAt_some

/-- A row of bytes. -/
def Row8 (o : Obj) : Prop := ∃ c fr, o = .cells c 5 fr
theorem not8 (c : Array Value) (fr : Nat × Nat) : ¬ Row8 (.cells c 24 fr) := by
  rintro ⟨c', fr', h⟩
  simp at h
theorem not8_loop (L : Loop) : ¬ Row8 (.loop L) := by
  rintro ⟨c', fr', h⟩
  cases h
theorem not8_deferred (d : Option (List Deferred)) : ¬ Row8 (.deferred d) := by
  rintro ⟨c', fr', h⟩
  cases h

/-- The round that is handed a byte. -/
def YB (l n₀ B N : Nat) (J Jx : List UInt8 → World → Prop) : Prop :=
  ∀ m pre (x : UInt8) W1, J pre W1 → B ≤ W1.heap.size → pre.length < N → YieldAt Fence.wide m Tryd.prog l #[.int .u8 x.toNat] W1 fun e W' =>
    (e = .returned (.bool true) ∧ J (pre ++ [x]) W' ∧ SparesC Row8 n₀ B W1 W') ∨ (e = .returned (.bool false) ∧ Jx (pre ++ [x]) W')
/-- All bytes have been handed out, or a round has said that it is enough. -/
def Went (n₀ B : Nat) (J Jx : List UInt8 → World → Prop) (pre bs : List UInt8) (W : World) (e : Ending) (W' : World) : Prop :=
  (e = .returned (.bool true) ∧ J (pre ++ bs) W' ∧ SparesC Row8 n₀ B W W') ∨ (e = .returned (.bool false) ∧ ∃ q, Jx q W')

theorem le8_at (n : Int) (i : Nat) (hi : i < 8) : (le8 n)[i]? = some (b8 (n / 2 ^ (8 * i))) := by
  obtain h | h | h | h | h | h | h | h : i = 0 ∨ i = 1 ∨ i = 2 ∨ i = 3 ∨ i = 4 ∨ i = 5 ∨ i = 6 ∨ i = 7 := by omega
  all_goals subst h; simp [le8]

theorem wrap_u64 (n : Int) : IntKind.u64.wrap n = n % 18446744073709551616 := by simp [IntKind.wrap, IntKind.bits, IntKind.signed]
theorem b8_shift (x : Int) (i : Nat) (hi : i < 8) : ((b8 (x / 2 ^ (8 * i))).toNat : Int) = IntKind.u64.wrap x / 2 ^ (8 * i) % 256 := by
  rw [b8_toNat, wrap_u64]
  obtain h | h | h | h | h | h | h | h : i = 0 ∨ i = 1 ∨ i = 2 ∨ i = 3 ∨ i = 4 ∨ i = 5 ∨ i = 6 ∨ i = 7 := by omega
  all_goals
    subst h
    simp only [Nat.reduceMul]
    omega

set_option maxHeartbeats 2000000 in
theorem number_in (l n₀ B N : Nat) (J Jx : List UInt8 → World → Prop) (hY : YB l n₀ B N J Jx) (x : Int) (_ : -9223372036854775808 ≤ x) (_ : x ≤ 9223372036854775807)
    (n : Nat) (pre : List UInt8) (W : World) (hBW : B ≤ W.heap.size) (hJ0 : J pre W) (hN : pre.length + 8 ≤ N) :
    CallsIn Fence.wide n Tryd.prog 40 #[.int .i64 x, .func (.yield l) #[] #[]] W (Went n₀ B J Jx pre (le8 x) W) := by
  refine callsIn_of_wp Tryd.func40 rfl trivial ?_ rfl
  simp only [Tryd.ntmps40, List.size_toArray, List.length_cons, List.length_nil, Nat.reduceAdd, Nat.reduceSub, Array.replicate_succ, Array.replicate_zero, List.push_toArray, List.append_toArray, List.nil_append, List.cons_append]
  gi_wp2
  gi_loopw [5] (fun ss wr => ∃ (i : Nat), i ≤ 8 ∧ ss = .int .i64 (8 * (i : Int)) ∧ J (pre ++ (le8 x).take i) wr ∧ SparesC Row8 n₀ B W wr) (fun ss _ => 64 - (intOf ss).toNat)
  case atStart => exact ⟨0, by omega, rfl, by simpa using hJ0, SparesC.refl _ _ _⟩
  case round =>
    obtain ⟨i, hi, rfl, hJr, hsp⟩ := hrel
    by_cases hlt : i < 8
    · have hy0 := hY (n - 1) (pre ++ (le8 x).take i) (b8 (x / 2 ^ (8 * i))) wr hJr (Nat.le_trans hBW hsp.low.size) (by rw [List.length_append, List.length_take, le8_length]; omega)
      rw [b8_shift x i hlt] at hy0
      have hst : Hid (pre ++ (le8 x).take i ++ [b8 (x / 2 ^ (8 * i))] = pre ++ (le8 x).take (i + 1)) := Hid.mk (by rw [List.take_add_one, le8_at x i hlt, Option.toList_some, List.append_assoc])
      obtain ⟨fn, tmps, assign, body, hy, hR⟩ := hy0
      gi_wp2
      refine ⟨fun h => (by cases h), hR.mono ?_⟩
      clear hR hy
      rintro e W3 (⟨rfl, hJ3, hs3⟩ | ⟨rfl, hx3⟩)
      · gi_wp2
        go_roundw
        case rel => exact ⟨i + 1, by omega, by go_num, by rw [← hst.out]; exact hJ3, hsp.trans hs3⟩
        case measure => simp [intOf]; omega
      · gi_wp2
        go_ret
        exact .inr ⟨rfl, _, hx3⟩
    · obtain rfl : i = 8 := by omega
      gi_wp2
      go_ret
      exact .inl ⟨rfl, hJr, hsp⟩

/-- A text's bytes, how many they are ahead of them. -/
def textB (s : ByteArray) : List UInt8 := b8 s.size :: s.toList
theorem textB_length (s : ByteArray) : (textB s).length = s.size + 1 := by rw [textB, List.length_cons, toList_length]
theorem textB_step (s : ByteArray) (i : Nat) (hi : i < s.size) : (textB s).take (i + 1) ++ [s[i]] = (textB s).take (i + 2) := by
  have h : (textB s)[i + 1]? = some s[i] := by
    rw [textB, List.getElem?_cons_succ, ByteArray.toList_eq]
    rw [Array.getElem?_toList, Array.getElem?_eq_getElem hi]
    rfl
  rw [List.take_add_one (i := i + 1), h]
  rfl
theorem b8_size (n : Nat) : ((b8 (n : Int)).toNat : Int) = (n : Int) % 256 := b8_toNat _

set_option maxHeartbeats 2000000 in
theorem text_in (l n₀ B N : Nat) (J Jx : List UInt8 → World → Prop) (hY : YB l n₀ B N J Jx) (s : ByteArray) (hs : s.size ≤ 9223372036854775807)
    (n : Nat) (pre : List UInt8) (W : World) (hBW : B ≤ W.heap.size) (hJ0 : J pre W) (hN : pre.length + (s.size + 1) ≤ N) :
    CallsIn Fence.wide n Tryd.prog 41 #[.string s, .func (.yield l) #[] #[]] W (Went n₀ B J Jx pre (textB s) W) := by
  have hy0 := hY (n - 1) pre (b8 s.size) W hJ0 hBW (by omega)
  rw [b8_size] at hy0
  obtain ⟨fn, tmps, assign, body, hy, hR⟩ := hy0
  refine callsIn_of_wp Tryd.func41 rfl trivial ?_ rfl
  simp only [Tryd.ntmps41, List.size_toArray, List.length_cons, List.length_nil, Nat.reduceAdd, Nat.reduceSub, Array.replicate_succ, Array.replicate_zero, List.push_toArray, List.append_toArray, List.nil_append, List.cons_append]
  gi_wp2
  refine ⟨fun h => (by cases h), hR.mono ?_⟩
  clear hR hy
  rintro e W3 (⟨rfl, hJ3, hs3⟩ | ⟨rfl, hx3⟩)
  · gi_wp2
    gi_loopw [14] (fun ss wr => ∃ (i : Nat), i ≤ s.size ∧ ss = .int .i64 i ∧ J (pre ++ (textB s).take (i + 1)) wr ∧ SparesC Row8 n₀ B W wr) (fun ss _ => s.size - (intOf ss).toNat)
    case atStart => exact ⟨0, by omega, rfl, by simpa [textB] using hJ3, hs3⟩
    case round =>
      obtain ⟨i, hi, rfl, hJr, hsp⟩ := hrel
      by_cases hlt : i < s.size
      · have hy0 := hY (n - 1) (pre ++ (textB s).take (i + 1)) s[i] wr hJr (Nat.le_trans hBW hsp.low.size) (by rw [List.length_append, List.length_take, textB_length]; omega)
        have hst : Hid (pre ++ (textB s).take (i + 1) ++ [s[i]] = pre ++ (textB s).take (i + 2)) := Hid.mk (by rw [List.append_assoc, textB_step s i hlt])
        obtain ⟨fn, tmps, assign, body, hy, hR⟩ := hy0
        gi_wp2
        refine ⟨fun h => (by cases h), hR.mono ?_⟩
        clear hR hy
        rintro e W4 (⟨rfl, hJ4, hs4⟩ | ⟨rfl, hx4⟩)
        · gi_wp2
          go_roundw
          case rel => exact ⟨i + 1, by omega, by go_num, by rw [← hst.out]; exact hJ4, hsp.trans hs4⟩
          case measure => simp [intOf]; omega
        · gi_wp2
          go_ret
          exact .inr ⟨rfl, _, hx4⟩
      · obtain rfl : i = s.size := by omega
        have hJe : J (pre ++ textB s) wr := by rwa [List.take_of_length_le (by rw [textB_length]; omega)] at hJr
        gi_wp2
        go_ret
        exact .inl ⟨rfl, hJe, hsp⟩
  · gi_wp2
    go_ret
    exact .inr ⟨rfl, _, hx3⟩

end Go.Proofs.YtnelefokpopfdaaDoor
