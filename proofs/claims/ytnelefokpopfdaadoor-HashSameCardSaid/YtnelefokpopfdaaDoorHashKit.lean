/-
  Bytes that are compared, lent, and kept.
-/
import Derived.Test.YtnelefokpopfdaaDoorHashMix
import Derived.Laws.IdiomStrings
import Derived.Laws.BytesArg
import Derived.Laws.CopyOwn
import Derived.Laws.OwnMore
import Derived.Test.YtnelefokpopfdaaDoorChain
namespace Go.Proofs.YtnelefokpopfdaaDoor
open Go.RowKit Go.Deep

theorem byt_string {w : World} {S : Nat → Prop} {bs : List UInt8} {a : Option Addr} {cap : Nat} (h : Byt w S bs a cap) :
    (convert 31 9 (.slice a bs.length cap)).run Tryd.prog w = .ok (.string ⟨bs.toArray⟩) w := by
  obtain ⟨_, _, ⟨rfl, rfl, _⟩ | ⟨⟨b, o, sp⟩, rfl, hs, hr⟩⟩ := h
  · exact run_convert_bytes_nil w _ _ Tryd.underlying31 Tryd.underlying5 _ _ _ Tryd.underlying9
  · refine run_convert_bytes_back w _ _ _ _ _ _ Tryd.underlying31 Tryd.underlying5 Tryd.underlying9 fun j hj => ?_
    obtain ⟨_, rfl⟩ := hs (fun e => by subst e; cases hj)
    rw [WideShapes.add_plain]
    exact hr j hj

theorem bytes_eq (l l' : List UInt8) : ((⟨l.toArray⟩ : ByteArray) = ⟨l'.toArray⟩) ↔ l = l' :=
  ⟨fun h => by simpa using congrArg (fun b : ByteArray => b.data) h, fun h => by rw [h]⟩

set_option maxHeartbeats 1000000 in
theorem sameBytes_any (bs cs : List UInt8) (S S' : Nat → Prop) (a a' : Option Addr) (cap cap' : Nat) (w : World) (hb : Byt w S bs a cap) (hc : Byt w S' cs a' cap') :
    Calls Tryd.prog 8 #[.slice a bs.length cap, .slice a' cs.length cap'] w fun e w' => e = .returned (.bool (bs == cs)) ∧ w = w' := by
  have h1 := byt_string hb
  have h2 := byt_string hc
  clear hb hc
  go_enter Tryd.func8, Tryd.ntmps8
  go_wp2
  go_ret
  exact ⟨rfl, rfl⟩

/-- What stands behind a list that is lent, at place i. -/
def markN (i : Nat) : UInt8 := UInt8.ofNat (160 + i % 90)
/-- A list that is lent, with the room behind it. -/
def lent (bs : List UInt8) : List UInt8 := bs ++ [markN bs.length, markN (bs.length + 1), markN (bs.length + 2)]

/-- A byte, as a cell. -/
def enc8 (b : UInt8) : Value := .int .u8 b.toNat
/-- The room for a list that is lent, filled as far as place i. -/
def room8 (bs : List UInt8) (i : Nat) : List Value := ((lent bs).take i).map enc8 ++ List.replicate (bs.length + 3 - i) (.int .u8 0)
theorem lent_length (bs : List UInt8) : (lent bs).length = bs.length + 3 := by simp [lent]
theorem lent_at (bs : List UInt8) (i : Nat) (h0 : bs.length ≤ i) (h1 : i < bs.length + 3) : (lent bs)[i]? = some (markN i) := by
  unfold lent
  rw [List.getElem?_append_right h0]
  obtain h | h | h : i = bs.length ∨ i = bs.length + 1 ∨ i = bs.length + 2 := by omega
  · subst h; simp
  · subst h; simp
  · subst h; simp
theorem room8_length (bs : List UInt8) (i : Nat) (h : i ≤ bs.length + 3) : (room8 bs i).length = bs.length + 3 := by
  simp only [room8, List.length_append, List.length_map, List.length_take, List.length_replicate, lent_length]
  omega
theorem room8_set (bs : List UInt8) (i : Nat) (h0 : bs.length ≤ i) (h1 : i < bs.length + 3) : (room8 bs i).set i (enc8 (markN i)) = room8 bs (i + 1) := by
  unfold room8
  rw [List.take_add_one, lent_at bs i h0 h1, Option.toList_some, List.map_append, List.append_assoc]
  have hl : (((lent bs).take i).map enc8).length = i := by simp only [List.length_map, List.length_take, lent_length]; omega
  rw [List.set_append_right _ _ (by omega), hl, Nat.sub_self]
  obtain ⟨q, hq⟩ : ∃ q, bs.length + 3 - i = q + 1 := ⟨bs.length + 3 - i - 1, by omega⟩
  rw [hq, show bs.length + 3 - (i + 1) = q by omega]
  rfl
theorem room8_start (bs : List UInt8) : bs.map enc8 ++ List.replicate 3 (.int .u8 0) = room8 bs bs.length := by
  unfold room8 lent
  rw [List.take_left, show bs.length + 3 - bs.length = 3 by omega]
theorem room8_end (bs : List UInt8) : room8 bs (bs.length + 3) = (lent bs).map enc8 := by
  unfold room8
  rw [List.take_of_length_le (by rw [lent_length]; exact Nat.le_refl _), Nat.sub_self]
  simp
theorem markN_toNat (i : Nat) : ((markN i).toNat : Int) = 160 + (i : Int) % 90 := by
  unfold markN
  rw [UInt8.toNat_ofNat']
  omega

theorem byteInfo8 : (Tryd.prog.info? 5).map (fun i => (i.zero, i.size, i.bytes)) = some (some (.int .u8 0), 1, 1) := by kernel_rfl
theorem byteSize8 : (Tryd.prog.info? 5).map (·.size) = some 1 := by kernel_rfl

theorem byt_of {w : World} {nb : Nat} {S : Nat → Prop} {bs : List UInt8} {t : TypeId} {fr : Nat × Nat} {xs : List Value} (h : w.heap[nb]? = some (.cells xs.toArray t fr)) (hx : ∀ j (hj : j < bs.length), xs[j]? = some (enc8 bs[j])) (hS : S nb) {cap : Nat} (h1 : bs.length ≤ cap) (h2 : cap ≤ 9223372036854775807) : Byt w S bs (some ⟨nb, 0, none⟩) cap := by
  refine ⟨h1, h2, Or.inr ⟨_, rfl, fun _ => ⟨hS, rfl⟩, fun j hj => ?_⟩⟩
  show w.cell? ⟨nb, 0 + j, none⟩ = _
  rw [Nat.zero_add, cell_of_row w nb j _ t fr h, List.getElem?_toArray]
  exact hx j hj

/-- The list is copied to the head of the new row. -/
theorem lent_copy (bs : List UInt8) (hlen : bs.length ≤ 1000000) (S : Nat → Prop) (a : Option Addr) (cap : Nat) (w : World) (hb : Byt w S bs a cap) :
    ∃ W2, (Builtin.copy_ #[31, 31] 3 #[.slice (some ⟨w.heap.size, 0, none⟩) (bs.length + 3) (bs.length + 3), .slice a bs.length cap]).run Tryd.prog (w.alloc (.cells (List.replicate (bs.length + 3) (Value.int .u8 0)).toArray 5)) = .ok (goInt bs.length) W2 ∧
      W2.heap[w.heap.size]? = some (.cells (room8 bs bs.length).toArray 5) ∧ Below w.heap.size w W2 ∧ W2.heap.size = w.heap.size + 1 := by
  have hn := new_block w (.cells (List.replicate (bs.length + 3) (Value.int .u8 0)).toArray 5)
  have hbw : Below w.heap.size w (w.alloc (.cells (List.replicate (bs.length + 3) (Value.int .u8 0)).toArray 5)) := (Below.refl _ _).alloc (Nat.le_refl _) _
  have hr : List.replicate (bs.length + 3) (Value.int .u8 0) = List.replicate bs.length (Value.int .u8 0) ++ List.replicate 3 (.int .u8 0) := (List.replicate_append_replicate).symm
  by_cases h0 : bs.length = 0
  · have h := run_copy_none (P := Tryd.prog) (w.alloc (.cells (List.replicate (bs.length + 3) (Value.int .u8 0)).toArray 5)) 31 31 3 5 (some ⟨w.heap.size, 0, none⟩) a (bs.length + 3) (bs.length + 3) bs.length cap Tryd.underlying31 byteSize8 (by rw [h0]; exact Nat.zero_min _)
    refine ⟨_, h.trans (by rw [h0]; rfl), ?_, hbw, World.size_alloc _ _⟩
    rw [hn]
    obtain rfl := List.eq_nil_of_length_eq_zero h0
    rfl
  · obtain ⟨b, o, rfl, hSb, hrd⟩ := hb.some (by omega)
    have h := run_copy_row (P := Tryd.prog) (w.alloc (.cells (List.replicate (bs.length + 3) (Value.int .u8 0)).toArray 5)) 31 31 3 5 w.heap.size 0 (bs.length + 3) (bs.length + 3) ⟨b, o, none⟩ bs.length cap _ _ (bs.map enc8) Tryd.underlying31 byteSize8 hn
      (by rw [List.length_map]; exact (Nat.min_eq_left (by omega)).symm) (fun j v hv => by
        rw [List.getElem?_map] at hv
        obtain ⟨x, hx, rfl⟩ := Option.map_eq_some_iff.1 hv
        obtain ⟨hj, rfl⟩ := List.getElem?_eq_some_iff.1 hx
        rw [WideShapes.add_plain]
        exact cell_below hbw _ _ _ (hrd j hj)) (by simp) (fun v hv => by
        obtain ⟨x, _, rfl⟩ := List.mem_map.1 hv
        rfl)
    rw [List.length_map] at h
    refine ⟨_, h, ?_, below_setRow hbw (Nat.le_refl _) _, by simp [World.setRow]⟩
    rw [setRow_heap _ _ _ _ _ _ hn, ← room8_start]
    congr 3
    simp [hr]

theorem lent_byt {w : World} {nb : Nat} {bs : List UInt8} {t : TypeId} (h : w.heap[nb]? = some (.cells ((lent bs).map enc8).toArray t)) (hl : bs.length ≤ 1000000) : Byt w (fun _ => True) (lent bs) (some ⟨nb, 0, none⟩) (bs.length + 3) :=
  byt_of h (fun j hj => by rw [List.getElem?_map, List.getElem?_eq_getElem hj]; rfl) trivial (by rw [lent_length]; exact Nat.le_refl _) (by omega)
/-- .. and without the room. -/
theorem lent_byt0 {w : World} {nb : Nat} {bs : List UInt8} {t : TypeId} (h : w.heap[nb]? = some (.cells ((lent bs).map enc8).toArray t)) (hl : bs.length ≤ 1000000) : Byt w (fun _ => True) bs (some ⟨nb, 0, none⟩) (bs.length + 3) :=
  byt_of h (fun j hj => by
    unfold lent
    rw [List.getElem?_map, List.getElem?_append_left hj, List.getElem?_eq_getElem hj]
    rfl) trivial (by omega) (by omega)

end Go.Proofs.YtnelefokpopfdaaDoor
