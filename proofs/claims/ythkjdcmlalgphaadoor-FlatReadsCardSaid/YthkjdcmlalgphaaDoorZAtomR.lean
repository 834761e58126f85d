/-
  The document's own tables of atoms, and two rows held against one another.
-/
import Derived.Test.YthkjdcmlalgphaaDoorZAtomBase
namespace Go.Proofs.YthkjdcmlalgphaaDoor
open Go.RowKit Go.Deep Go.Maps Go.WideShapes Go.WideMaps

/-- The document's table: its box at q, its texts' row v. -/
structure RTab (w : World) (q : Nat) (v : Value) (L : List ByteArray) : Prop where
  box : w.heap[q]? = some (.cells #[v] 69)
  row : Texts w v L
  nq : v.ownBlock ≠ some q
  few : L.length ≤ 4096
  small : bytesOf L ≤ 65536
def MineR (q : Nat) (v : Value) (k : Nat) : Prop := k = q ∨ v.ownBlock = some k
theorem RTab.lt {w : World} {q : Nat} {v : Value} {L : List ByteArray} (h : RTab w q v L) {k : Nat} (hk : MineR q v k) : k < w.heap.size := by
  rcases hk with rfl | hk
  · exact (Array.getElem?_eq_some_iff.1 h.box).1
  · exact h.row.block_lt hk
theorem RTab.kept {S : Nat → Prop} {w w' : World} {q : Nat} {v : Value} {L : List ByteArray} (h : RTab w q v L) (ho : Only S w w') (hS : ∀ k, MineR q v k → ¬ S k) : RTab w' q v L :=
  ⟨ho.box h.box (hS q (Or.inl rfl)), h.row.kept ho (fun g hg => hS g (Or.inr hg)), h.nq, h.few, h.small⟩
theorem RTab.up {w w' : World} {q : Nat} {v : Value} {L : List ByteArray} (h : RTab w q v L) (hb : Below w.heap.size w w') : RTab w' q v L :=
  h.kept (S := fun _ => False) (Only.up hb) (fun _ _ f => f)
theorem RTab.cell {w : World} {q : Nat} {v : Value} {L : List ByteArray} (h : RTab w q v L) : w.cell? ⟨q, 0, none⟩ = some v ∧ w.frozen? ⟨q, 0, none⟩ = false := by
  have h' := h.box
  simp [World.cell?, World.frozen?, h']

theorem pos_step {s : ByteArray} {L : List ByteArray} {i : Nat} (hi : i < L.length) (hf : ∀ j (hj : j < L.length), j < i → L[j] ≠ s) (hn : L[i] ≠ s) : ∀ j (hj : j < L.length), j < i + 1 → L[j] ≠ s := by
  intro j hj hji
  rcases Nat.lt_or_ge j i with h | h
  · exact hf j hj h
  · obtain rfl : j = i := by omega
    exact hn
theorem posI_of {s : ByteArray} {L : List ByteArray} {i : Nat} (hi : i < L.length) (hf : ∀ j (hj : j < L.length), j < i → L[j] ≠ s) (hs : L[i] = s) : posI s L = i := by rw [posI, pos_of hi hs hf]
theorem posI_none {s : ByteArray} {L : List ByteArray} (hf : ∀ j (hj : j < L.length), j < L.length → L[j] ≠ s) : posI s L = -1 := by rw [posI, pos_none_of (fun j hj => hf j hj hj)]

theorem bytesA_ne {a b : ByteArray} (h : a ≠ b) : (a.toList == b.toList) = false := by
  rw [beq_eq_false_iff_ne, ByteArray.toList_eq, ByteArray.toList_eq]
  exact fun e => h (ByteArray.ext (Array.toList_inj.1 e))
theorem bytesA_eq (a : ByteArray) : (a.toList == a.toList) = true := by simp

set_option maxRecDepth 100000 in
set_option maxHeartbeats 1000000 in
theorem findR_any (q : Nat) (v : Value) (L : List ByteArray) (s : ByteArray) (w : World) (h : RTab w q v L) :
    Calls Tryd.prog 59 #[.pointer (some ⟨q, 0, none⟩), .string s] w fun e w' => e = .returned (.int .i64 (posI s L)) ∧ w = w' := by
  obtain ⟨a, cap, hv⟩ := h.row.slice
  subst hv
  obtain ⟨c0, f0⟩ := h.cell
  have hT := Hid.mk h
  have hL := Hid.mk h.few
  clear h
  go_enter Tryd.func59, Tryd.ntmps59
  go_wp2
  go_loop [5] (fun ii => ∃ i : Nat, i ≤ L.length ∧ ii = .int .i64 i ∧ Hid (∀ j (hj : j < L.length), j < i → L[j] ≠ s)) (fun ii => L.length - (intOf ii).toNat)
  case atStart => exact ⟨0, Nat.zero_le _, rfl, Hid.mk (fun j _ hj => by omega)⟩
  case round =>
    obtain ⟨i, hi, rfl, hf⟩ := hrel
    by_cases hlt : i < L.length
    · obtain ⟨g, cap', hv, hc⟩ := hT.out.row.at_ (by omega)
      simp only [Value.slice.injEq, true_and] at hv
      obtain ⟨rfl, rfl⟩ := hv
      have hci := hc i hlt
      have hwi : IntKind.i64.wrap ((i : Int) + 1) = ((i + 1 : Nat) : Int) := by have := hL.out; rw [wrap_id (by omega) (by omega)]; omega
      have hs1 := Hid.mk (fun hn => pos_step hlt hf.out hn)
      have hs2 := Hid.mk (fun hs => posI_of hlt hf.out hs)
      clear hc
      obtain ⟨x, hx⟩ : ∃ x, L[i] = x := ⟨_, rfl⟩
      rw [hx] at hci hs1 hs2
      have HL := Hid.mk hlt
      clear hx
      by_cases hxs : x = s
      · have hp := hs2.out hxs
        subst hxs
        have hp := Hid.mk hp
        clear hs1 hs2 hf
        go_wp2
        go_ret
        exact ⟨ret_int (by first | rfl | exact hp.out.symm), rfl⟩
      · have hne := bytesA_ne hxs
        have hp0 := hs1.out hxs
        have hp := Hid.mk hp0
        clear hs1 hs2 hf hxs hp0
        go_wp2
        go_round
        case rel => exact ⟨i + 1, HL.out, by first | rfl | go_num, hp⟩
        case measure =>
          have h1 : i < L.length := HL.out
          simp [intOf]
          omega
    · obtain rfl : i = L.length := by omega
      have hp := Hid.mk (posI_none hf.out)
      clear hf
      go_wp2
      go_ret
      exact ⟨ret_int hp.out.symm, rfl⟩

set_option maxRecDepth 100000 in
set_option maxHeartbeats 1000000 in
theorem bytesR_any (q : Nat) (v : Value) (L : List ByteArray) (w : World) (h : RTab w q v L) :
    Calls Tryd.prog 60 #[.pointer (some ⟨q, 0, none⟩)] w fun e w' => e = .returned (.int .i64 (bytesOf L)) ∧ w = w' := by
  obtain ⟨a, cap, hv⟩ := h.row.slice
  subst hv
  obtain ⟨c0, f0⟩ := h.cell
  have hT := Hid.mk h
  have hL := Hid.mk h.few
  clear h
  go_enter Tryd.func60, Tryd.ntmps60
  go_wp2
  go_loop [3, 4] (fun nn ii => ∃ i : Nat, i ≤ L.length ∧ ii = .int .i64 i ∧ nn = .int .i64 (bytesOf (L.take i))) (fun _ ii => L.length - (intOf ii).toNat)
  case atStart => exact ⟨0, Nat.zero_le _, rfl, rfl⟩
  case round =>
    obtain ⟨i, hi, rfl, rfl⟩ := hrel
    by_cases hlt : i < L.length
    · obtain ⟨g, cap', hv, hc⟩ := hT.out.row.at_ (by omega)
      simp only [Value.slice.injEq, true_and] at hv
      obtain ⟨rfl, rfl⟩ := hv
      have hci := hc i hlt
      have hwi : IntKind.i64.wrap ((i : Int) + 1) = ((i + 1 : Nat) : Int) := by have := hL.out; rw [wrap_id (by omega) (by omega)]; omega
      have hts : bytesOf (L.take (i + 1)) = bytesOf (L.take i) + L[i].size := by rw [List.take_succ_eq_append_getElem hlt, bytesOf_snoc]
      have hle : bytesOf (L.take (i + 1)) ≤ bytesOf L := bytesOf_take_le L (i + 1)
      have hsm := hT.out.small
      have hws : IntKind.i64.wrap ((bytesOf (L.take i) : Int) + L[i].size) = ((bytesOf (L.take (i + 1)) : Nat) : Int) := by rw [wrap_id (by omega) (by omega)]; omega
      clear hc hts hle hsm
      obtain ⟨x, hx⟩ : ∃ x, L[i] = x := ⟨_, rfl⟩
      rw [hx] at hci hws
      have HL := Hid.mk hlt
      clear hx
      go_wp2
      go_round
      case rel => exact ⟨i + 1, HL.out, by first | rfl | go_num, by first | rfl | go_num⟩
      case measure =>
        have h1 : i < L.length := HL.out
        simp [intOf]
        omega
    · obtain rfl : i = L.length := by omega
      go_wp2
      go_ret
      exact ⟨ret_int (by first | rfl | rw [List.take_length]), rfl⟩

end Go.Proofs.YthkjdcmlalgphaaDoor

/-
  The document's table: a text put; two rows of the same texts.
-/
namespace Go.Proofs.YthkjdcmlalgphaaDoor
open Go.RowKit Go.Deep Go.Maps Go.WideShapes Go.WideMaps

def LeftR (w : World) (q : Nat) (v : Value) (L : List ByteArray) (w' : World) : Prop :=
  ∃ v', RTab w' q v' L ∧ Only (MineR q v) w w' ∧ ∀ k, v'.ownBlock = some k → v.ownBlock = some k ∨ w.heap.size ≤ k
theorem RTab.left {w w' : World} {q : Nat} {v : Value} {L : List ByteArray} (h : RTab w q v L) (hb : Below w.heap.size w w') : LeftR w q v L w' := ⟨v, h.up hb, Only.up hb, fun _ hk => Or.inl hk⟩

theorem leftR_added {q : Nat} {v v' : Value} {L : List ByteArray} {s : ByteArray} {w w2 : World} {t : TypeId} (hT : RTab w q v L)
    (hg : (w.alloc (.cells #[.string s] t)).grownBy w2 v.ownBlock) (hat : v'.ownBlock = v.ownBlock ∨ v'.ownBlock = some (w.alloc (.cells #[.string s] t)).heap.size) (hown : w2.ownsRow 0 9 1 v' (L.length + 1) (L.map .string ++ [.string s]))
    (hn : L.length < 4096) (hz : bytesOf L + s.size ≤ 65536) :
    LeftR w q v (L ++ [s]) (w2.setCell ⟨q, 0, none⟩ v') := by
  have hql : q < w.heap.size := hT.lt (Or.inl rfl)
  have hz2 := hg.size
  simp only [World.size_alloc] at hz2 hat
  have hrow : Texts w2 v' (L ++ [s]) := by
    unfold Texts
    rw [List.length_append, List.map_append]
    exact hown
  have hnq : v'.ownBlock ≠ some q := by
    rcases hat with e | e
    · rw [e]; exact hT.nq
    · rw [e]; intro e2; cases e2; omega
  have o1 : Only (MineR q v) w (w.alloc (.cells #[.string s] t)) := Only.up ((Below.refl _ _).alloc (Nat.le_refl _) _)
  have o2 : Only (MineR q v) w w2 := o1.trans (Only.grown (S := MineR q v) hg (fun k hk => Or.inr hk)) (fun i hi => Or.inl hi)
  have o3 : Only (MineR q v) w (w2.setCell ⟨q, 0, none⟩ v') := o2.trans (Only.set (S := MineR q v) _ _ (Or.inl rfl)) (fun i hi => Or.inl hi)
  refine ⟨v', ⟨?_, hrow.kept (Only.set (S := fun k => k = q) w2 v' rfl) (fun g hg hS => hnq (by rw [hg, hS])), hnq, by rw [List.length_append]; simp; omega, by rw [bytesOf_snoc]; exact hz⟩, o3, fun k hk => ?_⟩
  · have hbx := grown_box hg hT.box hT.nq
    simp [World.setCell, Array.getElem?_modify, hbx]
  · rcases hat with e | e
    · exact Or.inl (e ▸ hk)
    · rw [e] at hk
      cases hk
      exact Or.inr (by omega)

set_option maxRecDepth 100000 in
set_option maxHeartbeats 2000000 in
theorem internR_any (q : Nat) (v : Value) (L : List ByteArray) (s : ByteArray) (w : World) (h : RTab w q v L) (hs : s.size ≤ 1000000000) :
    Calls Tryd.prog 36 #[.pointer (some ⟨q, 0, none⟩), .string s] w fun e w' => e = .returned (.tuple #[.int .i64 (put L s).1, .int .i64 (put L s).2.1]) ∧ LeftR w q v (put L s).2.2 w' := by
  obtain ⟨a, cap, hv⟩ := h.row.slice
  subst hv
  obtain ⟨c0, f0⟩ := h.cell
  have hT := Hid.mk h
  by_cases hl : 64 < s.size
  · rw [put_long hl]
    have ht : decide ((64 : Int) < s.size) = true := by rw [decide_eq_true_eq]; omega
    clear hl h hs
    go_enter Tryd.func36, Tryd.ntmps36
    go_wp2
    go_ret2
    exact ⟨rfl, hT.out.left (Below.refl _ _)⟩
  · have ht : decide ((64 : Int) < s.size) = false := by rw [decide_eq_false_iff_not]; omega
    have hl' := Hid.mk (show s.size ≤ 64 by omega)
    clear hl hs
    have hfi := Hid.mk (fun w h => findR_any q (.slice a L.length cap) L s w h)
    cases hp : pos s L with
    | some i =>
      rw [put_there hl'.out hp]
      have hpi : posI s L = i := by rw [posI, hp]
      rw [hpi] at hfi
      have e1 : decide ((0 : Int) ≤ i) = true := by simp
      clear hpi hp h
      go_enter Tryd.func36, Tryd.ntmps36
      go_wp2_with (first
        | (go_at_call 59; refine (hfi.out _ hT.out).mono ?_; rintro e w1 ⟨rfl, rfl⟩))
      go_ret2
      exact ⟨rfl, hT.out.left (Below.refl _ _)⟩
    | none =>
      have hpi : posI s L = -1 := by rw [posI, hp]
      rw [hpi] at hfi
      have hP := Hid.mk hp
      have hLs := Hid.mk h.small
      have hLf := Hid.mk h.few
      by_cases h1 : 4096 ≤ L.length
      · rw [put_full hl'.out hp (Or.inl h1)]
        have e1 : decide (4096 ≤ L.length) = true := by rw [decide_eq_true_eq]; exact h1
        have e2 : decide ((4096 : Int) ≤ L.length) = true := by rw [decide_eq_true_eq]; omega
        clear hpi hp h h1
        go_enter Tryd.func36, Tryd.ntmps36
        go_wp2_with (first
          | (go_at_call 59; refine (hfi.out _ hT.out).mono ?_; rintro e w1 ⟨rfl, rfl⟩))
        go_ret2
        exact ⟨rfl, hT.out.left (Below.refl _ _)⟩
      · have e1 : decide (4096 ≤ L.length) = false := by rw [decide_eq_false_iff_not]; exact h1
        have e2 : decide ((4096 : Int) ≤ L.length) = false := by rw [decide_eq_false_iff_not]; omega
        have hw : IntKind.i64.wrap ((bytesOf L : Int) + s.size) = ((bytesOf L + s.size : Nat) : Int) := by have := hLs.out; have := hl'.out; rw [wrap_id (by omega) (by omega)]; omega
        obtain ⟨N, hN⟩ : ∃ N, N = bytesOf L + s.size := ⟨_, rfl⟩
        rw [← hN] at hw
        have hNN := Hid.mk hN
        have hby := Hid.mk (fun w h => bytesR_any q (.slice a L.length cap) L w h)
        by_cases h2 : 65536 < bytesOf L + s.size
        · rw [put_full hl'.out hp (Or.inr h2)]
          have e3 : decide ((65536 : Int) < N) = true := by rw [decide_eq_true_eq]; omega
          have e4 : decide (65536 < N) = true := by rw [decide_eq_true_eq]; omega
          clear hpi hp h h1 h2 hN
          go_enter Tryd.func36, Tryd.ntmps36
          go_wp2_with (first
            | (go_at_call 59; refine (hfi.out _ hT.out).mono ?_; rintro e w1 ⟨rfl, rfl⟩)
            | (go_at_call 60; refine (hby.out _ hT.out).mono ?_; rintro e w1 ⟨rfl, rfl⟩))
          go_ret2
          exact ⟨rfl, hT.out.left (Below.refl _ _)⟩
        · rw [put_new hl'.out hp (by omega) (by omega)]
          have e3 : decide ((65536 : Int) < N) = false := by rw [decide_eq_false_iff_not]; omega
          have e4 : decide (65536 < N) = false := by rw [decide_eq_false_iff_not]; omega
          have H := Hid.mk (show L.length < 4096 ∧ bytesOf L + s.size ≤ 65536 from ⟨by omega, by omega⟩)
          have hwl : IntKind.i64.wrap (L.length : Int) = L.length := wrap_id (by omega) (by omega)
          obtain ⟨i0, hi0, hz0, hz1, hby0⟩ := info_parts textInfo
          clear hpi hp h h1 h2 hN
          go_enter Tryd.func36, Tryd.ntmps36
          go_wp2_with (first
            | (go_at_call 59; refine (hfi.out _ hT.out).mono ?_; rintro e w1 ⟨rfl, rfl⟩)
            | (go_at_call 60; refine (hby.out _ hT.out).mono ?_; rintro e w1 ⟨rfl, rfl⟩)
            | (at_builtin; refine wpList_append_own_at _ rfl _ _ 22 rfl 0 9 i0 _ 1 16 Tryd.underlying22 hi0 hz0 hz1 hby0 rfl (by decide) (.slice a L.length cap) L.length _ rfl (hT.out.row.alloc _) ⟨w.heap.size, 0, none⟩ 1 1 [.string s] rfl rfl (cell_one_new _ _ _) (texts_one s) (by have := H.out; unfold maxLen; omega) (by have := H.out; omega) (by omega) ?_; intro v' w2 hown hgrow hnil hat; clear hnil; obtain ⟨a', cap', rfl⟩ := owns_slice hown
               have HO := Hid.mk hown; have HG := Hid.mk hgrow; have HA := Hid.mk hat; clear hown hgrow hat
               have c0' : w2.cell? ⟨q, 0, none⟩ = some (.slice a L.length cap) := by have := grown_box HG.out hT.out.box hT.out.nq; simp [World.cell?, this]
               have f0' : w2.frozen? ⟨q, 0, none⟩ = false := by have := grown_box HG.out hT.out.box hT.out.nq; simp [World.frozen?, this]))
          go_ret2
          exact ⟨rfl, leftR_added hT.out HG.out HA.out HO.out H.out.1 H.out.2⟩

end Go.Proofs.YthkjdcmlalgphaaDoor
