/-
  The document's own tables of atoms, and two rows held against one another.
-/
import Derived.Test.YtjmjifjmenmdgaaAtomD
namespace Go.Proofs.Ytjmjifjmenmdgaa
open Go.RowKit Go.Deep Go.Maps Go.WideShapes Go.WideMaps

/-- The document's table: its box at q, its texts' row v. -/
structure RTab (w : World) (q : Nat) (v : Value) (L : List ByteArray) : Prop where
  box : w.heap[q]? = some (.cells #[v] 27)
  row : Texts w v L
  nq : v.ownBlock ≠ some q
  few : L.length ≤ 4096
  small : sizes L ≤ 65536
def MineR (q : Nat) (v : Value) (k : Nat) : Prop := k = q ∨ v.ownBlock = some k
theorem RTab.lt {w : World} {q : Nat} {v : Value} {L : List ByteArray} (h : RTab w q v L) {k : Nat} (hk : MineR q v k) : k < w.heap.size := by
  rcases hk with rfl | hk
  · exact (Array.getElem?_eq_some_iff.1 h.box).1
  · exact h.row.block_lt hk
theorem RTab.kept {S : Nat → Prop} {w w' : World} {q : Nat} {v : Value} {L : List ByteArray} (h : RTab w q v L) (ho : Only S w w') (hS : ∀ k, MineR q v k → ¬ S k) : RTab w' q v L :=
  ⟨ho.box h.box (hS q (Or.inl rfl)), h.row.kept ho (fun g hg => hS g (Or.inr hg)), h.nq, h.few, h.small⟩
theorem RTab.up {w w' : World} {q : Nat} {v : Value} {L : List ByteArray} (h : RTab w q v L) (hb : Below w.heap.size w w') : RTab w' q v L :=
  h.kept (S := fun _ => False) (Only.up hb) (fun _ _ f => f)
theorem RTab.cell {w : World} {q : Nat} {v : Value} {L : List ByteArray} (h : RTab w q v L) : w.cell? ⟨q, 0, none⟩ = some v ∧ w.frozen? ⟨q, 0, none⟩ = false := by
  have h' := h.box
  simp [World.cell?, World.frozen?, h']

theorem pos_step {s : ByteArray} {L : List ByteArray} {i : Nat} (hi : i < L.length) (hf : ∀ j (hj : j < L.length), j < i → L[j] ≠ s) (hn : L[i] ≠ s) : ∀ j (hj : j < L.length), j < i + 1 → L[j] ≠ s := by
  intro j hj hji
  rcases Nat.lt_or_ge j i with h | h
  · exact hf j hj h
  · obtain rfl : j = i := by omega
    exact hn
theorem posI_of {s : ByteArray} {L : List ByteArray} {i : Nat} (hi : i < L.length) (hf : ∀ j (hj : j < L.length), j < i → L[j] ≠ s) (hs : L[i] = s) : posI s L = i := by rw [posI, pos_of hi hs hf]
theorem posI_none {s : ByteArray} {L : List ByteArray} (hf : ∀ j (hj : j < L.length), j < L.length → L[j] ≠ s) : posI s L = -1 := by rw [posI, pos_none_of (fun j hj => hf j hj hj)]

theorem bytes_ne {a b : ByteArray} (h : a ≠ b) : (a.toList == b.toList) = false := by
  rw [beq_eq_false_iff_ne, ByteArray.toList_eq, ByteArray.toList_eq]
  exact fun e => h (ByteArray.ext (Array.toList_inj.1 e))
theorem bytes_eq (a : ByteArray) : (a.toList == a.toList) = true := by simp

set_option maxRecDepth 100000 in
set_option maxHeartbeats 1000000 in
theorem findR_any (q : Nat) (v : Value) (L : List ByteArray) (s : ByteArray) (w : World) (h : RTab w q v L) :
    Calls Try.prog 23 #[.pointer (some ⟨q, 0, none⟩), .string s] w fun e w' => e = .returned (.int .i64 (posI s L)) ∧ w = w' := by
  obtain ⟨a, cap, hv⟩ := h.row.slice
  subst hv
  obtain ⟨c0, f0⟩ := h.cell
  have hT := Hid.mk h
  have hL := Hid.mk h.few
  clear h
  go_enter Try.func23, Try.ntmps23
  go_wp2
  go_loop [5] (fun ii => ∃ i : Nat, i ≤ L.length ∧ ii = .int .i64 i ∧ Hid (∀ j (hj : j < L.length), j < i → L[j] ≠ s)) (fun ii => L.length - (intOf ii).toNat)
  case atStart => exact ⟨0, Nat.zero_le _, rfl, Hid.mk (fun j _ hj => by omega)⟩
  case round =>
    obtain ⟨i, hi, rfl, hf⟩ := hrel
    by_cases hlt : i < L.length
    · obtain ⟨g, cap', hv, hc⟩ := hT.out.row.at_ (by omega)
      simp only [Value.slice.injEq, true_and] at hv
      obtain ⟨rfl, rfl⟩ := hv
      have hci := hc i hlt
      have hwi : IntKind.i64.wrap ((i : Int) + 1) = ((i + 1 : Nat) : Int) := by have := hL.out; rw [wrap_id (by omega) (by omega)]; omega
      have hs1 := Hid.mk (fun hn => pos_step hlt hf.out hn)
      have hs2 := Hid.mk (fun hs => posI_of hlt hf.out hs)
      clear hc
      obtain ⟨x, hx⟩ : ∃ x, L[i] = x := ⟨_, rfl⟩
      rw [hx] at hci hs1 hs2
      have HL := Hid.mk hlt
      clear hx
      by_cases hxs : x = s
      · have hp := hs2.out hxs
        subst hxs
        have hp := Hid.mk hp
        clear hs1 hs2 hf
        go_wp2
        go_ret
        exact ⟨ret_int (by first | rfl | exact hp.out.symm), rfl⟩
      · have hne := bytes_ne hxs
        have hp0 := hs1.out hxs
        have hp := Hid.mk hp0
        clear hs1 hs2 hf hxs hp0
        go_wp2
        go_round
        case rel => exact ⟨i + 1, HL.out, by first | rfl | go_num, hp⟩
        case measure =>
          have h1 : i < L.length := HL.out
          simp [intOf]
          omega
    · obtain rfl : i = L.length := by omega
      have hp := Hid.mk (posI_none hf.out)
      clear hf
      go_wp2
      go_ret
      exact ⟨ret_int hp.out.symm, rfl⟩

set_option maxRecDepth 100000 in
set_option maxHeartbeats 1000000 in
theorem bytesR_any (q : Nat) (v : Value) (L : List ByteArray) (w : World) (h : RTab w q v L) :
    Calls Try.prog 24 #[.pointer (some ⟨q, 0, none⟩)] w fun e w' => e = .returned (.int .i64 (sizes L)) ∧ w = w' := by
  obtain ⟨a, cap, hv⟩ := h.row.slice
  subst hv
  obtain ⟨c0, f0⟩ := h.cell
  have hT := Hid.mk h
  have hL := Hid.mk h.few
  clear h
  go_enter Try.func24, Try.ntmps24
  go_wp2
  go_loop [3, 4] (fun nn ii => ∃ i : Nat, i ≤ L.length ∧ ii = .int .i64 i ∧ nn = .int .i64 (sizes (L.take i))) (fun _ ii => L.length - (intOf ii).toNat)
  case atStart => exact ⟨0, Nat.zero_le _, rfl, rfl⟩
  case round =>
    obtain ⟨i, hi, rfl, rfl⟩ := hrel
    by_cases hlt : i < L.length
    · obtain ⟨g, cap', hv, hc⟩ := hT.out.row.at_ (by omega)
      simp only [Value.slice.injEq, true_and] at hv
      obtain ⟨rfl, rfl⟩ := hv
      have hci := hc i hlt
      have hwi : IntKind.i64.wrap ((i : Int) + 1) = ((i + 1 : Nat) : Int) := by have := hL.out; rw [wrap_id (by omega) (by omega)]; omega
      have hts : sizes (L.take (i + 1)) = sizes (L.take i) + L[i].size := by rw [List.take_succ_eq_append_getElem hlt, sizes_snoc]
      have hle : sizes (L.take (i + 1)) ≤ sizes L := sizes_take_le L (i + 1)
      have hsm := hT.out.small
      have hws : IntKind.i64.wrap ((sizes (L.take i) : Int) + L[i].size) = ((sizes (L.take (i + 1)) : Nat) : Int) := by rw [wrap_id (by omega) (by omega)]; omega
      clear hc hts hle hsm
      obtain ⟨x, hx⟩ : ∃ x, L[i] = x := ⟨_, rfl⟩
      rw [hx] at hci hws
      have HL := Hid.mk hlt
      clear hx
      go_wp2
      go_round
      case rel => exact ⟨i + 1, HL.out, by first | rfl | go_num, by first | rfl | go_num⟩
      case measure =>
        have h1 : i < L.length := HL.out
        simp [intOf]
        omega
    · obtain rfl : i = L.length := by omega
      go_wp2
      go_ret
      exact ⟨ret_int (by first | rfl | rw [List.take_length]), rfl⟩

end Go.Proofs.Ytjmjifjmenmdgaa
