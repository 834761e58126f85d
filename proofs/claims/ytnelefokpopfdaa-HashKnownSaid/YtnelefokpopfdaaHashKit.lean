/-
  Bytes that are compared, lent, and kept.
-/
import Derived.Test.YtnelefokpopfdaaHashMix
import Derived.Laws.IdiomStrings
import Derived.Laws.BytesArg
import Derived.Laws.CopyOwn
import Derived.Laws.OwnMore
import Derived.Test.YtnelefokpopfdaaChain
namespace Go.Proofs.Ytnelefokpopfdaa
open Go.RowKit Go.Deep

theorem byt_string {w : World} {S : Nat → Prop} {bs : List UInt8} {a : Option Addr} {cap : Nat} (h : Byt w S bs a cap) :
    (convert 23 9 (.slice a bs.length cap)).run Try.prog w = .ok (.string ⟨bs.toArray⟩) w := by
  obtain ⟨_, _, ⟨rfl, rfl, _⟩ | ⟨⟨b, o, sp⟩, rfl, hs, hr⟩⟩ := h
  · exact run_convert_bytes_nil w _ _ Try.underlying23 Try.underlying5 _ _ _ Try.underlying9
  · refine run_convert_bytes_back w _ _ _ _ _ _ Try.underlying23 Try.underlying5 Try.underlying9 fun j hj => ?_
    obtain ⟨_, rfl⟩ := hs (fun e => by subst e; cases hj)
    rw [WideShapes.add_plain]
    exact hr j hj

theorem bytes_eq (l l' : List UInt8) : ((⟨l.toArray⟩ : ByteArray) = ⟨l'.toArray⟩) ↔ l = l' :=
  ⟨fun h => by simpa using congrArg (fun b : ByteArray => b.data) h, fun h => by rw [h]⟩

set_option maxHeartbeats 1000000 in
theorem sameBytes_any (bs cs : List UInt8) (S S' : Nat → Prop) (a a' : Option Addr) (cap cap' : Nat) (w : World) (hb : Byt w S bs a cap) (hc : Byt w S' cs a' cap') :
    Calls Try.prog 13 #[.slice a bs.length cap, .slice a' cs.length cap'] w fun e w' => e = .returned (.bool (bs == cs)) ∧ w = w' := by
  have h1 := byt_string hb
  have h2 := byt_string hc
  clear hb hc
  go_enter Try.func13, Try.ntmps13
  go_wp2
  go_ret
  exact ⟨rfl, rfl⟩

/-- What stands behind a list that is lent, at place i. -/
def markN (i : Nat) : UInt8 := UInt8.ofNat (160 + i % 90)
/-- A list that is lent, with the room behind it. -/
def lent (bs : List UInt8) : List UInt8 := bs ++ [markN bs.length, markN (bs.length + 1), markN (bs.length + 2)]

/-- A byte, as a cell. -/
def enc8 (b : UInt8) : Value := .int .u8 b.toNat
/-- The room for a list that is lent, filled as far as place i. -/
def room8 (bs : List UInt8) (i : Nat) : List Value := ((lent bs).take i).map enc8 ++ List.replicate (bs.length + 3 - i) (.int .u8 0)
theorem lent_length (bs : List UInt8) : (lent bs).length = bs.length + 3 := by simp [lent]
theorem lent_at (bs : List UInt8) (i : Nat) (h0 : bs.length ≤ i) (h1 : i < bs.length + 3) : (lent bs)[i]? = some (markN i) := by
  unfold lent
  rw [List.getElem?_append_right h0]
  obtain h | h | h : i = bs.length ∨ i = bs.length + 1 ∨ i = bs.length + 2 := by omega
  · subst h; simp
  · subst h; simp
  · subst h; simp
theorem room8_length (bs : List UInt8) (i : Nat) (h : i ≤ bs.length + 3) : (room8 bs i).length = bs.length + 3 := by
  simp only [room8, List.length_append, List.length_map, List.length_take, List.length_replicate, lent_length]
  omega
theorem room8_set (bs : List UInt8) (i : Nat) (h0 : bs.length ≤ i) (h1 : i < bs.length + 3) : (room8 bs i).set i (enc8 (markN i)) = room8 bs (i + 1) := by
  unfold room8
  rw [List.take_add_one, lent_at bs i h0 h1, Option.toList_some, List.map_append, List.append_assoc]
  have hl : (((lent bs).take i).map enc8).length = i := by simp only [List.length_map, List.length_take, lent_length]; omega
  rw [List.set_append_right _ _ (by omega), hl, Nat.sub_self]
  obtain ⟨q, hq⟩ : ∃ q, bs.length + 3 - i = q + 1 := ⟨bs.length + 3 - i - 1, by omega⟩
  rw [hq, show bs.length + 3 - (i + 1) = q by omega]
  rfl
theorem room8_start (bs : List UInt8) : bs.map enc8 ++ List.replicate 3 (.int .u8 0) = room8 bs bs.length := by
  unfold room8 lent
  rw [List.take_left, show bs.length + 3 - bs.length = 3 by omega]
theorem room8_end (bs : List UInt8) : room8 bs (bs.length + 3) = (lent bs).map enc8 := by
  unfold room8
  rw [List.take_of_length_le (by rw [lent_length]; exact Nat.le_refl _), Nat.sub_self]
  simp
theorem markN_toNat (i : Nat) : ((markN i).toNat : Int) = 160 + (i : Int) % 90 := by
  unfold markN
  rw [UInt8.toNat_ofNat']
  omega

theorem byteInfo8 : (Try.prog.info? 5).map (fun i => (i.zero, i.size, i.bytes)) = some (some (.int .u8 0), 1, 1) := by kernel_rfl
theorem byteSize8 : (Try.prog.info? 5).map (·.size) = some 1 := by kernel_rfl

theorem byt_of {w : World} {nb : Nat} {S : Nat → Prop} {bs : List UInt8} {t : TypeId} {fr : Nat × Nat} {xs : List Value} (h : w.heap[nb]? = some (.cells xs.toArray t fr)) (hx : ∀ j (hj : j < bs.length), xs[j]? = some (enc8 bs[j])) (hS : S nb) {cap : Nat} (h1 : bs.length ≤ cap) (h2 : cap ≤ 9223372036854775807) : Byt w S bs (some ⟨nb, 0, none⟩) cap := by
  refine ⟨h1, h2, Or.inr ⟨_, rfl, fun _ => ⟨hS, rfl⟩, fun j hj => ?_⟩⟩
  show w.cell? ⟨nb, 0 + j, none⟩ = _
  rw [Nat.zero_add, cell_of_row w nb j _ t fr h, List.getElem?_toArray]
  exact hx j hj

/-- The list is copied to the head of the new row. -/
theorem lent_copy (bs : List UInt8) (hlen : bs.length ≤ 1000000) (S : Nat → Prop) (a : Option Addr) (cap : Nat) (w : World) (hb : Byt w S bs a cap) :
    ∃ W2, (Builtin.copy_ #[23, 23] 3 #[.slice (some ⟨w.heap.size, 0, none⟩) (bs.length + 3) (bs.length + 3), .slice a bs.length cap]).run Try.prog (w.alloc (.cells (List.replicate (bs.length + 3) (Value.int .u8 0)).toArray 5)) = .ok (goInt bs.length) W2 ∧
      W2.heap[w.heap.size]? = some (.cells (room8 bs bs.length).toArray 5) ∧ Below w.heap.size w W2 ∧ W2.heap.size = w.heap.size + 1 := by
  have hn := new_block w (.cells (List.replicate (bs.length + 3) (Value.int .u8 0)).toArray 5)
  have hbw : Below w.heap.size w (w.alloc (.cells (List.replicate (bs.length + 3) (Value.int .u8 0)).toArray 5)) := (Below.refl _ _).alloc (Nat.le_refl _) _
  have hr : List.replicate (bs.length + 3) (Value.int .u8 0) = List.replicate bs.length (Value.int .u8 0) ++ List.replicate 3 (.int .u8 0) := (List.replicate_append_replicate).symm
  by_cases h0 : bs.length = 0
  · have h := run_copy_none (P := Try.prog) (w.alloc (.cells (List.replicate (bs.length + 3) (Value.int .u8 0)).toArray 5)) 23 23 3 5 (some ⟨w.heap.size, 0, none⟩) a (bs.length + 3) (bs.length + 3) bs.length cap Try.underlying23 byteSize8 (by rw [h0]; exact Nat.zero_min _)
    refine ⟨_, h.trans (by rw [h0]; rfl), ?_, hbw, World.size_alloc _ _⟩
    rw [hn]
    obtain rfl := List.eq_nil_of_length_eq_zero h0
    rfl
  · obtain ⟨b, o, rfl, hSb, hrd⟩ := hb.some (by omega)
    have h := run_copy_row (P := Try.prog) (w.alloc (.cells (List.replicate (bs.length + 3) (Value.int .u8 0)).toArray 5)) 23 23 3 5 w.heap.size 0 (bs.length + 3) (bs.length + 3) ⟨b, o, none⟩ bs.length cap _ _ (bs.map enc8) Try.underlying23 byteSize8 hn
      (by rw [List.length_map]; exact (Nat.min_eq_left (by omega)).symm) (fun j v hv => by
        rw [List.getElem?_map] at hv
        obtain ⟨x, hx, rfl⟩ := Option.map_eq_some_iff.1 hv
        obtain ⟨hj, rfl⟩ := List.getElem?_eq_some_iff.1 hx
        rw [WideShapes.add_plain]
        exact cell_below hbw _ _ _ (hrd j hj)) (by simp) (fun v hv => by
        obtain ⟨x, _, rfl⟩ := List.mem_map.1 hv
        rfl)
    rw [List.length_map] at h
    refine ⟨_, h, ?_, below_setRow hbw (Nat.le_refl _) _, by simp [World.setRow]⟩
    rw [setRow_heap _ _ _ _ _ _ hn, ← room8_start]
    congr 3
    simp [hr]

set_option maxHeartbeats 1000000 in
theorem lentBytes_any (bs : List UInt8) (hlen : bs.length ≤ 1000000) (S : Nat → Prop) (a : Option Addr) (cap : Nat) (w : World) (hb : Byt w S bs a cap) :
    Calls Try.prog 6 #[.slice a bs.length cap] w fun e w' => e = .returned (.slice (some ⟨w.heap.size, 0, none⟩) bs.length (bs.length + 3)) ∧ w'.heap[w.heap.size]? = some (.cells ((lent bs).map enc8).toArray 5) ∧ Below w.heap.size w w' := by
  obtain ⟨W2, hcp, hW2, hb2, hz2⟩ := lent_copy bs hlen S a cap w hb
  have hmade : madeCells #[Value.int .u8 0] (bs.length + 3) = (List.replicate (bs.length + 3) (Value.int .u8 0)).toArray := by rw [← toList_madeCells_one]
  obtain ⟨n, hn⟩ : ∃ n, bs.length = n := ⟨_, rfl⟩
  rw [hn] at hmade hlen hcp
  have hmk : ∀ W : World, (Instr.makeSlice 23 (.int .i64 ((n : Int) + 3)) (.int .i64 ((n : Int) + 3))).run Try.prog W = .ok (.slice (some ⟨W.heap.size, 0, none⟩) (n + 3) (n + 3)) (W.alloc (.cells (List.replicate (n + 3) (Value.int .u8 0)).toArray 5)) := fun W => by
    obtain ⟨i0, hi0, hz0, hz1, hby⟩ := info_at byteInfo8
    have h := run_make (P := Try.prog) W 23 5 i0 _ Try.underlying23 hi0 hz0 .i64 .i64 ((n + 3 : Nat) : Int) ((n + 3 : Nat) : Int) (by omega) (by omega) (by rw [hby]; omega) (by omega)
    rw [hz1, Nat.mul_one, Int.toNat_natCast] at h
    rw [← hmade]
    exact h
  obtain ⟨M, hM⟩ : ∃ M, List.replicate (n + 3) (Value.int .u8 0) = M := ⟨_, rfl⟩
  rw [hM] at hmk hcp
  have hn' := Hid.mk hn
  have hroom : Hid (∃ R, R = room8 bs n ∧ W2.heap[w.heap.size]? = some (.cells R.toArray 5)) := Hid.mk ⟨_, rfl, by rw [← hn]; exact hW2⟩
  rw [hn]
  clear hn hb hmade hM hW2
  go_enter Try.func6, Try.ntmps6
  go_wp2
  go_loopw [4] (fun ii wr => ∃ (i : Nat) (R : List Value), n ≤ i ∧ i ≤ n + 3 ∧ ii = .int .i64 i ∧ Hid (R = room8 bs i) ∧ wr.heap[w.heap.size]? = some (.cells R.toArray 5) ∧ Below w.heap.size w wr) (fun ii _ => n + 3 - (intOf ii).toNat)
  case atStart => exact ⟨n, hroom.out.choose, Nat.le_refl _, by omega, rfl, Hid.mk hroom.out.choose_spec.1, hroom.out.choose_spec.2, hb2⟩
  case round =>
    obtain ⟨i, R, hi0, hi1, rfl, hR, hrow, hb⟩ := hrel
    by_cases hlt : i < n + 3
    · have hRl : R.length = n + 3 := by rw [hR.out, room8_length _ _ (by rw [hn'.out]; omega), hn'.out]
      obtain ⟨x, hx⟩ : ∃ x, R[i]? = some x := ⟨_, List.getElem?_eq_getElem (by omega)⟩
      have hc : wr.cell? ⟨w.heap.size, i, none⟩ = some x := by rw [cell_of_row wr _ _ _ _ _ hrow, List.getElem?_toArray]; exact hx
      have hf : wr.frozen? ⟨w.heap.size, i, none⟩ = false := by simp [World.frozen?, hrow]
      have hmd := Int.emod_nonneg (i : Int) (show (90 : Int) ≠ 0 by omega)
      have hml := Int.emod_lt_of_pos (i : Int) (show (0 : Int) < 90 by omega)
      have hx := Hid.mk hx
      have hRl := Hid.mk hRl
      go_wp2
      go_roundw
      case rel =>
        refine ⟨i + 1, R.set i (enc8 (markN i)), by omega, by omega, by go_num, Hid.mk (by rw [hR.out, room8_set _ _ (by rw [hn'.out]; omega) (by rw [hn'.out]; omega)]), ?_, hb.setCell (p := ⟨w.heap.size, i, none⟩) (Nat.le_refl _) _⟩
        rw [setCell_eq_setRow wr w.heap.size i _ _ _ _ hrow, setRow_heap _ _ _ _ _ _ hrow, enc8, markN_toNat]
        simp
      case measure => simp [intOf]; omega
    · obtain rfl : i = n + 3 := by omega
      go_wp2
      go_ret
      refine ⟨rfl, ?_, hb⟩
      rw [hrow, hR.out, ← hn'.out, room8_end]

theorem lent_byt {w : World} {nb : Nat} {bs : List UInt8} {t : TypeId} (h : w.heap[nb]? = some (.cells ((lent bs).map enc8).toArray t)) (hl : bs.length ≤ 1000000) : Byt w (fun _ => True) (lent bs) (some ⟨nb, 0, none⟩) (bs.length + 3) :=
  byt_of h (fun j hj => by rw [List.getElem?_map, List.getElem?_eq_getElem hj]; rfl) trivial (by rw [lent_length]; exact Nat.le_refl _) (by omega)
/-- .. and without the room. -/
theorem lent_byt0 {w : World} {nb : Nat} {bs : List UInt8} {t : TypeId} (h : w.heap[nb]? = some (.cells ((lent bs).map enc8).toArray t)) (hl : bs.length ≤ 1000000) : Byt w (fun _ => True) bs (some ⟨nb, 0, none⟩) (bs.length + 3) :=
  byt_of h (fun j hj => by
    unfold lent
    rw [List.getElem?_map, List.getElem?_append_left hj, List.getElem?_eq_getElem hj]
    rfl) trivial (by omega) (by omega)

set_option maxHeartbeats 1000000 in
theorem keptBytes_any (bs : List UInt8) (hlen : bs.length ≤ 1000000) (S : Nat → Prop) (a : Option Addr) (cap nb : Nat) (w : World) (hb : Byt w S bs a cap) (hrow : w.heap[nb]? = some (.cells ((lent bs).map enc8).toArray 5)) :
    Calls Try.prog 11 #[.slice (some ⟨nb, 0, none⟩) bs.length (bs.length + 3), .slice a bs.length cap] w fun e w' => e = .returned (.bool true) ∧ Below w.heap.size w w' := by
  have hl := Hid.mk (lentBytes_any bs hlen S a cap w.drew (hb.below (Below.refl _ _).drew))
  have hs : Hid (∀ w1, Below w.heap.size w.drew w1 → w1.heap[w.heap.size]? = some (.cells ((lent bs).map enc8).toArray 5) → Calls Try.prog 13 #[.slice (some ⟨nb, 0, none⟩) (bs.length + 3) (bs.length + 3), .slice (some ⟨w.heap.size, 0, none⟩) (bs.length + 3) (bs.length + 3)] w1 fun e w' => e = .returned (.bool true) ∧ w1 = w') := Hid.mk (fun w1 hb1 h1 => by
    have := sameBytes_any (lent bs) (lent bs) _ _ _ _ _ _ w1 (lent_byt ((hb1.block _ (Array.getElem?_eq_some_iff.1 hrow).1).trans hrow) hlen) (lent_byt h1 hlen)
    rwa [beq_self_eq_true, lent_length] at this)
  generalize (List.map enc8 (lent bs)).toArray = R at hl hs
  generalize bs.length = n at hl hs hlen
  obtain ⟨m, hm⟩ : ∃ m, n + 3 = m := ⟨_, rfl⟩
  rw [hm] at hl hs ⊢
  have hp : IntKind.i64.wrap ((n : Int) + 3) = (m : Int) := by rw [wrap_id (by omega) (by omega)]; omega
  clear hm
  clear hb hrow
  go_enter Try.func11, Try.ntmps11
  go_wp2
  refine wp_region_held (S := fun _ => True) (by kernel_rfl) ?_
  refine chain_take (i := 0) (d := 5) (v := .slice (some ⟨nb, 0, none⟩) n m) rfl rfl (by kernel_rfl) (by kernel_rfl) (by kernel_rfl) rfl (fun _ _ => rfl) (fun _ _ _ h => h) trivial ?_
  simp only [Act.put, List.setIfInBounds_toArray, List.set_cons_zero, List.set_cons_succ]
  refine chain_take (i := 1) (d := 6) (v := .int .i64 n) rfl rfl (by kernel_rfl) (by kernel_rfl) (by kernel_rfl) rfl (fun _ _ => (by go_simp)) (fun _ _ _ h => h) trivial ?_
  simp only [Act.put, List.setIfInBounds_toArray, List.set_cons_zero, List.set_cons_succ]
  refine chain_take (i := 2) (d := 7) (v := .slice a n cap) rfl rfl (by kernel_rfl) (by kernel_rfl) (by kernel_rfl) rfl (fun _ _ => rfl) (fun _ _ _ h => h) trivial ?_
  simp only [Act.put, List.setIfInBounds_toArray, List.set_cons_zero, List.set_cons_succ]
  refine chain_take (i := 3) (d := 8) (v := .int .i64 n) rfl rfl (by kernel_rfl) (by kernel_rfl) (by kernel_rfl) rfl (fun _ _ => (by go_simp)) (fun _ _ _ h => h) trivial ?_
  simp only [Act.put, List.setIfInBounds_toArray, List.set_cons_zero, List.set_cons_succ]
  refine chain_take (i := 4) (d := 9) (v := .bool true) rfl rfl (by kernel_rfl) (by kernel_rfl) (by kernel_rfl) rfl (fun _ _ => (by go_simp)) (fun _ _ _ h => h) trivial ?_
  simp only [Act.put, List.setIfInBounds_toArray, List.set_cons_zero, List.set_cons_succ]
  refine chain_take (i := 5) (d := 10) (v := .bool true) rfl rfl (by kernel_rfl) (by kernel_rfl) (by kernel_rfl) rfl (fun _ _ => rfl) (fun _ _ _ h => h) trivial ?_
  simp only [Act.put, List.setIfInBounds_toArray, List.set_cons_zero, List.set_cons_succ]
  refine chain_take (i := 6) (d := 11) (v := .slice (some ⟨nb, 0, none⟩) n m) rfl rfl (by kernel_rfl) (by kernel_rfl) (by kernel_rfl) rfl (fun _ _ => rfl) (fun _ _ _ h => h) trivial ?_
  simp only [Act.put, List.setIfInBounds_toArray, List.set_cons_zero, List.set_cons_succ]
  refine chain_take (i := 7) (d := 12) (v := .slice (some ⟨nb, 0, none⟩) n m) rfl rfl (by kernel_rfl) (by kernel_rfl) (by kernel_rfl) rfl (fun _ _ => rfl) (fun _ _ _ h => h) trivial ?_
  simp only [Act.put, List.setIfInBounds_toArray, List.set_cons_zero, List.set_cons_succ]
  refine chain_take (i := 8) (d := 13) (v := .int .i64 m) rfl rfl (by kernel_rfl) (by kernel_rfl) (by kernel_rfl) rfl (fun _ _ => (by go_simp)) (fun _ _ _ h => h) trivial ?_
  simp only [Act.put, List.setIfInBounds_toArray, List.set_cons_zero, List.set_cons_succ]
  refine chain_take (i := 9) (d := 14) (v := .slice (some ⟨nb, 0, none⟩) m m) rfl rfl (by kernel_rfl) (by kernel_rfl) (by kernel_rfl) rfl (fun _ _ => (by go_simp)) (fun _ _ _ h => h) trivial ?_
  simp only [Act.put, List.setIfInBounds_toArray, List.set_cons_zero, List.set_cons_succ]
  refine chain_take (i := 10) (d := 15) (v := .slice a n cap) rfl rfl (by kernel_rfl) (by kernel_rfl) (by kernel_rfl) rfl (fun _ _ => rfl) (fun _ _ _ h => h) trivial ?_
  simp only [Act.put, List.setIfInBounds_toArray, List.set_cons_zero, List.set_cons_succ]
  refine chain_take (i := 12) (d := 17) (v := .slice a n cap) rfl rfl (by kernel_rfl) (by kernel_rfl) (by kernel_rfl) rfl (fun _ _ => rfl) (fun _ _ _ h => h) trivial ?_
  simp only [Act.put, List.setIfInBounds_toArray, List.set_cons_zero, List.set_cons_succ]
  refine chain_take (i := 13) (d := 18) (v := .int .i64 n) rfl rfl (by kernel_rfl) (by kernel_rfl) (by kernel_rfl) rfl (fun _ _ => (by go_simp)) (fun _ _ _ h => h) trivial ?_
  simp only [Act.put, List.setIfInBounds_toArray, List.set_cons_zero, List.set_cons_succ]
  refine chain_take (i := 14) (d := 19) (v := .int .i64 m) rfl rfl (by kernel_rfl) (by kernel_rfl) (by kernel_rfl) rfl (fun _ _ => (by go_simp)) (fun _ _ _ h => h) trivial ?_
  simp only [Act.put, List.setIfInBounds_toArray, List.set_cons_zero, List.set_cons_succ]
  refine chain_call (i := 11) (d := 16) (f := 6) (args := #[.slice a n cap]) (by kernel_rfl) rfl rfl rfl (by go_simp) ?_
  refine (hl.out).mono ?_
  rintro e w1 ⟨rfl, hr1, hb1⟩
  refine ⟨.slice (some ⟨w.heap.size, 0, none⟩) n m, rfl, trivial, ?_⟩
  simp only [Act.put, List.setIfInBounds_toArray, List.set_cons_zero, List.set_cons_succ]
  refine chain_value (i := 15) (d := 20) (v := .slice (some ⟨w.heap.size, 0, none⟩) m m) (w' := w1) (by kernel_rfl) rfl rfl rfl (by go_simp) trivial ?_
  simp only [Act.put, List.setIfInBounds_toArray, List.set_cons_zero, List.set_cons_succ]
  refine chain_call (i := 16) (d := 21) (f := 13) (args := #[.slice (some ⟨nb, 0, none⟩) m m, .slice (some ⟨w.heap.size, 0, none⟩) m m]) (by kernel_rfl) rfl rfl rfl (by go_simp) ?_
  refine (hs.out _ hb1 hr1).mono ?_
  rintro e w2 ⟨rfl, rfl⟩
  refine ⟨.bool true, rfl, trivial, ?_⟩
  simp only [Act.put, List.setIfInBounds_toArray, List.set_cons_zero, List.set_cons_succ]
  refine chain_value (i := 17) (d := 22) (v := .bool true) (w' := w1) (by kernel_rfl) rfl rfl rfl (by go_simp) trivial ?_
  simp only [Act.put, List.setIfInBounds_toArray, List.set_cons_zero, List.set_cons_succ]
  refine chain_value (i := 18) (d := 4) (v := .bool true) (w' := w1) (by kernel_rfl) rfl rfl rfl (by go_simp) trivial ?_
  simp only [Act.put, List.setIfInBounds_toArray, List.set_cons_zero, List.set_cons_succ]
  refine wpAnyH_done (by kernel_rfl) ?_ _
  go_wp2
  go_ret
  exact ⟨rfl, (Below.refl _ w).drew.trans hb1⟩

end Go.Proofs.Ytnelefokpopfdaa
