/-
  Which blocks a call has written; a row of texts; a table of atoms in memory.
-/
import Derived.Test.YtaiiicmldogjoaaDoorZKitRegion
import Derived.Test.YtaiiicmldogjoaaDoorZAtomPlain
import Derived.Maps.AppendAt
import Derived.Maps.OwnSet
import Derived.Deep.Slices
import Derived.Deep.Fields
import Derived.Maps.OwnOps
import Derived.LaidEqlPtr
import Derived.Shelf.Pu.Clone
import Derived.OwnWalk
namespace Go.Proofs.YtaiiicmldogjoaaDoor
open Go.RowKit Go.Deep Go.Maps Go.WideShapes

/-- A row of texts of the call's own. -/
abbrev Texts (w : World) (v : Value) (L : List ByteArray) : Prop := w.ownsRow 0 9 1 v L.length (L.map .string)
theorem Texts.block_lt {w : World} {v : Value} {L : List ByteArray} (h : Texts w v L) {g : Nat} (hg : v.ownBlock = some g) : g < w.heap.size := by
  rcases h.2 with ⟨rfl, _⟩ | ⟨b, cap, cur, rfl, _, hb, _⟩
  · cases hg
  · cases hg
    exact (Array.getElem?_eq_some_iff.1 hb).1
theorem Texts.kept {S : Nat → Prop} {w w' : World} {v : Value} {L : List ByteArray} (h : Texts w v L) (ho : Only S w w') (hS : ∀ g, v.ownBlock = some g → ¬ S g) : Texts w' v L := by
  obtain ⟨h1, h2⟩ := h
  refine ⟨h1, ?_⟩
  rcases h2 with h2 | ⟨b, cap, cur, rfl, hb, hh, hr⟩
  · exact Or.inl h2
  · exact Or.inr ⟨b, cap, cur, rfl, hb, ho.box hh (hS b rfl), hr⟩
/-- What a row of texts is, written out. -/
theorem Texts.shape {w : World} {v : Value} {L : List ByteArray} (h : Texts w v L) :
    (v = .slice none 0 0 ∧ L = []) ∨ ∃ g cap, v = .slice (some ⟨g, 0, none⟩) L.length cap ∧ L.length ≤ cap ∧ cap ≤ maxLen ∧ ∀ j (hj : j < L.length), w.cell? ⟨g, j, none⟩ = some (.string L[j]) := by
  obtain ⟨_, h2⟩ := h
  rcases h2 with ⟨rfl, h2⟩ | ⟨g, cap, cur, rfl, _, hh, hn, hm, hs, hx⟩
  · exact Or.inl ⟨rfl, List.eq_nil_of_length_eq_zero h2⟩
  · refine Or.inr ⟨g, cap, rfl, hn, hm, fun j hj => ?_⟩
    have e : cur.toList[j]? = some (.string L[j]) := by
      have : (cur.toList.take (L.length * 1))[j]? = (L.map Value.string)[j]? := by rw [hx]
      rw [List.getElem?_take, if_pos (by omega)] at this
      rw [this]
      simp [hj]
    simp only [World.cell?, hh]
    simpa using e
theorem Texts.nil (w : World) : Texts w (.slice none 0 0) [] := ⟨rfl, Or.inl ⟨rfl, rfl⟩⟩
/-- .. in one form, the row's address where there is one. -/
theorem Texts.at_ {w : World} {v : Value} {L : List ByteArray} (h : Texts w v L) (h0 : 0 < L.length) :
    ∃ g cap, v = .slice (some ⟨g, 0, none⟩) L.length cap ∧ ∀ j (hj : j < L.length), w.cell? ⟨g, j, none⟩ = some (.string L[j]) := by
  rcases h.shape with ⟨_, rfl⟩ | ⟨g, cap, hv, _, _, hc⟩
  · cases h0
  · exact ⟨g, cap, hv, hc⟩
theorem Texts.slice {w : World} {v : Value} {L : List ByteArray} (h : Texts w v L) : ∃ a cap, v = .slice a L.length cap := by
  rcases h.shape with ⟨rfl, rfl⟩ | ⟨g, cap, hv, _, _, hc⟩
  · exact ⟨none, 0, rfl⟩
  · exact ⟨_, cap, hv⟩

/-- A table of atoms: its box at p, its map at bm, its texts' row v. -/
structure Tab (w : World) (p bm : Nat) (v : Value) (L : List ByteArray) : Prop where
  box : w.heap[p]? = some (.cells #[.pointer (some ⟨p, 0, none⟩), .map (some bm), v, .int .i64 (bytesOf L)] 35)
  map : ∃ D : DataW Unit, w.ownsMap Tryd.prog 9 (plainElem Tryd.prog 3) bm L.length D ∧ MapOk D L
  row : Texts w v L
  ne : bm ≠ p
  np : v.ownBlock ≠ some p
  nb : v.ownBlock ≠ some bm
  good : Good L
/-- The blocks that a table has. -/
def Mine (p bm : Nat) (v : Value) (k : Nat) : Prop := k = p ∨ k = bm ∨ v.ownBlock = some k
theorem Tab.lt {w : World} {p bm : Nat} {v : Value} {L : List ByteArray} (h : Tab w p bm v L) {k : Nat} (hk : Mine p bm v k) : k < w.heap.size := by
  rcases hk with rfl | rfl | hk
  · exact (Array.getElem?_eq_some_iff.1 h.box).1
  · obtain ⟨D, hD, _⟩ := h.map
    exact hD.lt
  · exact h.row.block_lt hk
theorem Tab.kept {S : Nat → Prop} {w w' : World} {p bm : Nat} {v : Value} {L : List ByteArray} (h : Tab w p bm v L) (ho : Only S w w') (hS : ∀ k, Mine p bm v k → ¬ S k) : Tab w' p bm v L := by
  refine ⟨ho.box h.box (hS p (Or.inl rfl)), ?_, h.row.kept ho (fun g hg => hS g (Or.inr (Or.inr hg))), h.ne, h.np, h.nb, h.good⟩
  obtain ⟨D, hD, hM⟩ := h.map
  exact ⟨D, ownsMap_same hD (ho.block bm hD.lt (hS bm (Or.inr (Or.inl rfl)))), hM⟩
theorem Tab.up {w w' : World} {p bm : Nat} {v : Value} {L : List ByteArray} (h : Tab w p bm v L) (hb : Below w.heap.size w w') : Tab w' p bm v L :=
  h.kept (S := fun _ => False) (Only.up hb) (fun _ _ f => f)
theorem Tab.cells {w : World} {p bm : Nat} {v : Value} {L : List ByteArray} (h : Tab w p bm v L) :
    (w.cell? ⟨p, 0, none⟩ = some (.pointer (some ⟨p, 0, none⟩)) ∧ w.cell? ⟨p, 1, none⟩ = some (.map (some bm)) ∧ w.cell? ⟨p, 2, none⟩ = some v ∧ w.cell? ⟨p, 3, none⟩ = some (.int .i64 (bytesOf L))) ∧
      w.frozen? ⟨p, 2, none⟩ = false ∧ w.frozen? ⟨p, 3, none⟩ = false := by
  have h' := h.box
  simp [World.cell?, World.frozen?, h']
theorem Tab.cell0 {w : World} {p bm : Nat} {v : Value} {L : List ByteArray} (h : Tab w p bm v L) : w.cell? ⟨p, 0, none⟩ = some (.pointer (some ⟨p, 0, none⟩)) := h.cells.1.1

end Go.Proofs.YtaiiicmldogjoaaDoor

/-
  The program's tables of atoms: a table is made; whether one was made; whether one is full; what is looked up.
-/
namespace Go.Proofs.YtaiiicmldogjoaaDoor
open Go.RowKit Go.Deep Go.Maps Go.WideShapes

set_option maxHeartbeats 1000000 in
theorem new_any (w : World) : Calls Tryd.prog 25 #[] w fun e w' => e = .returned (.pointer (some ⟨w.heap.size + 1, 0, none⟩)) ∧ Tab w' (w.heap.size + 1) w.heap.size (.slice none 0 0) [] ∧ Below w.heap.size w w' := by
  have hmm := @run_makeMap Tryd.prog
  go_enter Tryd.func25, Tryd.ntmps25
  go_wp2
  go_ret
  refine ⟨rfl, ?_, ((Below.refl _ _).alloc (Nat.le_refl _) _).alloc (by simp) _⟩
  refine ⟨new_block2 _ _ _, ⟨.map [], ?_, MapOk.nil⟩, Texts.nil _, by omega, by simp [Value.ownBlock], by simp [Value.ownBlock], Good.nil⟩
  exact (World.ownsMap_made w _ _ _).alloc _

theorem eql_self (p : Nat) (w : World) : (binOp .eql 24 (.pointer (some ⟨p, 0, none⟩)) (.pointer (some ⟨p, 0, none⟩))).run Tryd.prog w = .ok (.bool true) w := by
  obtain ⟨i0, hi⟩ : ∃ i0, Tryd.prog.info? 35 = some i0 := Option.isSome_iff_exists.1 (by kernel_rfl)
  exact run_eql_ptr_same w _ Tryd.underlying24 hi
theorem made_yes (p bm : Nat) (v : Value) (L : List ByteArray) (w : World) (h : Tab w p bm v L) : Calls Tryd.prog 67 #[.pointer (some ⟨p, 0, none⟩)] w fun e w' => e = .returned (.bool true) ∧ w = w' := by
  have c0 := h.cell0
  have he := eql_self p
  go_enter Tryd.func67, Tryd.ntmps67
  go_wp2
  go_ret
  exact ⟨rfl, rfl⟩
theorem made_nil (w : World) : Calls Tryd.prog 67 #[.pointer none] w fun e w' => e = .returned (.bool false) ∧ w = w' := by
  go_enter Tryd.func67, Tryd.ntmps67
  go_wp2
  go_ret
  exact ⟨rfl, rfl⟩
theorem made_zero (p : Nat) (w : World) (c0 : w.cell? ⟨p, 0, none⟩ = some (.pointer none)) : Calls Tryd.prog 67 #[.pointer (some ⟨p, 0, none⟩)] w fun e w' => e = .returned (.bool false) ∧ w = w' := by
  have he : ∀ w : World, (binOp .eql 24 (.pointer none) (.pointer (some ⟨p, 0, none⟩))).run Tryd.prog w = .ok (.bool false) w := fun w => by
    obtain ⟨i0, hi⟩ : ∃ i0, Tryd.prog.info? 35 = some i0 := Option.isSome_iff_exists.1 (by kernel_rfl)
    have h : ∀ d : Nat, (Op.equalIn (d + 1) 24 (.pointer none) (.pointer (some ⟨p, 0, none⟩))).run Tryd.prog w = .ok false w := fun d => by
      simp [Op.equalIn, run_underlying Tryd.underlying24, sizeOf, typeInfo]
    simp only [binOp]
    simp [Op.equal, Op.maxDepth, h 9999]
  go_enter Tryd.func67, Tryd.ntmps67
  go_wp2
  go_ret
  exact ⟨rfl, rfl⟩
set_option maxRecDepth 100000 in
theorem full_any (p bm : Nat) (v : Value) (L : List ByteArray) (s : ByteArray) (w : World) (h : Tab w p bm v L) (hs : s.size ≤ 64) : Calls Tryd.prog 74 #[.pointer (some ⟨p, 0, none⟩), .string s] w fun e w' => e = .returned (.bool (decide (4096 ≤ L.length ∨ 65536 < bytesOf L + s.size))) ∧ w = w' := by
  obtain ⟨⟨c0, c1, c2, c3⟩, f2, f3⟩ := h.cells
  have hg := h.good.few
  have hz := h.good.small
  obtain ⟨a, cap, hv⟩ := h.row.slice
  subst hv
  have hw : IntKind.i64.wrap ((bytesOf L : Int) + s.size) = ((bytesOf L + s.size : Nat) : Int) := by rw [wrap_id (by omega) (by omega)]; omega
  generalize bytesOf L + s.size = N at hw ⊢
  generalize bytesOf L = M at c3 hw hz
  generalize L.length = K at c2 hg ⊢
  have hG := Hid.mk hg
  have hZ := Hid.mk hz
  clear hg hz h hs
  go_enter Tryd.func74, Tryd.ntmps74
  go_wp2
  all_goals go_ret
  all_goals exact ⟨ret_bool (by simp; try omega), rfl⟩

end Go.Proofs.YtaiiicmldogjoaaDoor

/-
  The program's tables of atoms: a text copied, a text added.
-/
namespace Go.Proofs.YtaiiicmldogjoaaDoor
open Go.RowKit Go.Deep Go.Maps Go.WideShapes Go.WideMaps

def cloneRenA : Go.Shelf.Ren := ⟨fun | 25 => 76 | n => n, fun | 0 => 0 | 3 => 3 | 4 => 4 | 5 => 5 | 9 => 9 | 37 => 26 | 47 => 128 | n => n, fun | n => n⟩
theorem cloneLaysA : Go.Proofs.LaysPu.n25 Tryd.prog cloneRenA := {
  mixed := by kernel_rfl
  f25 := Tryd.func76.trans (congrArg some (by kernel_rfl))
  t0 := Tryd.underlying0
  a0 := Tryd.isAgg0
  z0 := Tryd.sizeOf0
  v0 := Tryd.zeroValue0
  i0 := by kernel_rfl
  t3 := Tryd.underlying3
  a3 := Tryd.isAgg3
  z3 := Tryd.sizeOf3
  v3 := Tryd.zeroValue3
  i3 := by kernel_rfl
  t4 := Tryd.underlying4
  a4 := Tryd.isAgg4
  z4 := Tryd.sizeOf4
  v4 := Tryd.zeroValue4
  i4 := by kernel_rfl
  t5 := Tryd.underlying5
  a5 := Tryd.isAgg5
  z5 := Tryd.sizeOf5
  v5 := Tryd.zeroValue5
  i5 := by kernel_rfl
  t9 := Tryd.underlying9
  a9 := Tryd.isAgg9
  z9 := Tryd.sizeOf9
  v9 := Tryd.zeroValue9
  i9 := by kernel_rfl
  t37 := Tryd.underlying26
  a37 := Tryd.isAgg26
  z37 := Tryd.sizeOf26
  v37 := Tryd.zeroValue26
  i37 := by kernel_rfl
  t47 := Tryd.underlying128
  a47 := Tryd.isAgg128
  z47 := Tryd.sizeOf128
  v47 := Tryd.zeroValue128
  i47 := by kernel_rfl }
theorem cloneL_any (s : ByteArray) (w : World) (h : s.size ≤ 281474976710656) : Calls Tryd.prog 76 #[.string s] w fun e w' => e = .returned (.string s) ∧ Below w.heap.size w w' :=
  AnyPu.stringslite_Clone cloneLaysA s w h
theorem clone_any (s : ByteArray) (w : World) (h : s.size ≤ 281474976710656) : Calls Tryd.prog 68 #[.string s] w fun e w' => e = .returned (.string s) ∧ Below w.heap.size w w' := by
  go_enter Tryd.func68, Tryd.ntmps68
  go_wp2_with (go_at_call 76; refine (cloneL_any _ _ h).mono ?_; rintro e w1 ⟨rfl, hb⟩)
  go_ret
  exact ⟨rfl, hb⟩

theorem textInfo : (Tryd.prog.info? 9).map (fun i => (i.zero, i.size, i.bytes)) = some (some (.string ⟨#[]⟩), 1, 16) := by kernel_rfl
theorem keyed : Keyed Tryd.prog 9 := string_keyed Tryd.underlying9
theorem texts_one (s : ByteArray) : ∀ u ∈ [Value.string s], u.oneCell' = true := fun u hu => by
  obtain rfl := List.mem_singleton.1 hu
  rfl

/-- What a table's box is, the row aside. -/
def boxT (p bm : Nat) (v : Value) (n : Int) : Obj := .cells #[.pointer (some ⟨p, 0, none⟩), .map (some bm), v, .int .i64 n] 35
theorem boxT_cells {w : World} {p bm : Nat} {v : Value} {n : Int} (h : w.heap[p]? = some (boxT p bm v n)) :
    w.cell? ⟨p, 1, none⟩ = some (.map (some bm)) ∧ w.cell? ⟨p, 2, none⟩ = some v ∧ w.cell? ⟨p, 3, none⟩ = some (.int .i64 n) ∧ w.frozen? ⟨p, 2, none⟩ = false ∧ w.frozen? ⟨p, 3, none⟩ = false := by
  unfold boxT at h
  simp [World.cell?, World.frozen?, h]
theorem boxT_row {w : World} {p bm : Nat} {v : Value} {n : Int} (h : w.heap[p]? = some (boxT p bm v n)) (v' : Value) : (w.setCell ⟨p, 2, none⟩ v').heap[p]? = some (boxT p bm v' n) := by
  unfold boxT at *
  simp [World.setCell, Array.getElem?_modify, h]
theorem boxT_size {w : World} {p bm : Nat} {v : Value} {n : Int} (h : w.heap[p]? = some (boxT p bm v n)) (n' : Int) : (w.setCell ⟨p, 3, none⟩ (.int .i64 n')).heap[p]? = some (boxT p bm v n') := by
  unfold boxT at *
  simp [World.setCell, Array.getElem?_modify, h]
theorem Tab.boxT {w : World} {p bm : Nat} {v : Value} {L : List ByteArray} (h : Tab w p bm v L) : w.heap[p]? = some (boxT p bm v (bytesOf L)) := h.box
/-- What a call on a table leaves: a table of this list, its map where it was. -/
def Left (w : World) (p bm : Nat) (v : Value) (L : List ByteArray) (w' : World) : Prop :=
  ∃ v', Tab w' p bm v' L ∧ Only (Mine p bm v) w w' ∧ ∀ k, v'.ownBlock = some k → v.ownBlock = some k ∨ w.heap.size ≤ k

theorem left_added {p bm : Nat} {v v' : Value} {L : List ByteArray} {s : ByteArray} {w w1 w2 w4 : World} {D : DataW Unit} {t : TypeId} (hb1 : Below w.heap.size w w1) (hT1 : Tab w1 p bm v L) (hT : Tab w p bm v L)
    (hg : (w1.alloc (.cells #[.string s] t)).grownBy w2 v.ownBlock) (hat : v'.ownBlock = v.ownBlock ∨ v'.ownBlock = some (w1.alloc (.cells #[.string s] t)).heap.size) (hown : w2.ownsRow 0 9 1 v' (L.length + 1) (L.map .string ++ [.string s]))
    (hbx : w2.heap[p]? = some (boxT p bm v (bytesOf L))) (hg4 : (w2.setCell ⟨p, 2, none⟩ v').grownBy w4 (some bm)) (hbx4 : w4.heap[p]? = some (boxT p bm v' (bytesOf L)))
    (ho4 : w4.ownsMap Tryd.prog 9 (plainElem Tryd.prog 3) bm (L.length + 1) (D.put (key s) (.lit (.int .i64 L.length)))) (hM : MapOk D L)
    (hs : s.size ≤ 64) (hp : pos s L = none) (hn : L.length < 4096) (hz : bytesOf L + s.size ≤ 65536) :
    Left w p bm v (L ++ [s]) (w4.setCell ⟨p, 3, none⟩ (.int .i64 (bytesOf L + s.size : Nat))) := by
  have hpl : p < w.heap.size := hT.lt (Or.inl rfl)
  have hbl : bm < w.heap.size := hT.lt (Or.inr (Or.inl rfl))
  have hz1 := hb1.size
  have hz2 := hg.size
  have hz4 := hg4.size
  simp only [World.size_alloc] at hz2 hat
  rw [size_setCell'] at hz4
  have hgood : Good (L ++ [s]) := by
    have := hT.good.put s
    rwa [put_new hs hp hn hz] at this
  have hrow : Texts w2 v' (L ++ [s]) := by
    unfold Texts
    rw [List.length_append, List.map_append]
    exact hown
  have hnp : v'.ownBlock ≠ some p := by
    rcases hat with e | e
    · rw [e]; exact hT.np
    · rw [e]; intro e2; cases e2; omega
  have hnb : v'.ownBlock ≠ some bm := by
    rcases hat with e | e
    · rw [e]; exact hT.nb
    · rw [e]; intro e2; cases e2; omega
  have o1 : Only (Mine p bm v) w (w1.alloc (.cells #[.string s] t)) := Only.up (hb1.alloc hb1.size _)
  have o2 : Only (Mine p bm v) w w2 := o1.trans (Only.grown (S := Mine p bm v) hg (fun k hk => Or.inr (Or.inr hk))) (fun i hi => Or.inl hi)
  have o3 : Only (Mine p bm v) w (w2.setCell ⟨p, 2, none⟩ v') := o2.trans (Only.set (S := Mine p bm v) _ _ (Or.inl rfl)) (fun i hi => Or.inl hi)
  have o4 : Only (Mine p bm v) w w4 := o3.trans (Only.grown (S := Mine p bm v) hg4 (fun k hk => by cases hk; exact Or.inr (Or.inl rfl))) (fun i hi => Or.inl hi)
  have o5 : Only (Mine p bm v) w (w4.setCell ⟨p, 3, none⟩ (.int .i64 (bytesOf L + s.size : Nat))) := o4.trans (Only.set (S := Mine p bm v) _ _ (Or.inl rfl)) (fun i hi => Or.inl hi)
  have r3 : Only (fun k => k = p ∨ k = bm) w2 (w4.setCell ⟨p, 3, none⟩ (.int .i64 (bytesOf L + s.size : Nat))) :=
    ((Only.set (S := fun k => k = p ∨ k = bm) w2 v' (Or.inl rfl)).trans (Only.grown (S := fun k => k = p ∨ k = bm) hg4 (fun k hk => by cases hk; exact Or.inr rfl)) (fun i hi => Or.inl hi)).trans (Only.set (S := fun k => k = p ∨ k = bm) _ _ (Or.inl rfl)) (fun i hi => Or.inl hi)
  refine ⟨v', ⟨?_, ⟨_, ?_, hM.snoc hp⟩, hrow.kept r3 (fun g hg hS => ?_), hT.ne, hnp, hnb, hgood⟩, o5, fun k hk => ?_⟩
  · have := boxT_size hbx4 ((bytesOf L + s.size : Nat) : Int)
    rw [bytesOf_snoc]
    exact this
  · rw [List.length_append]
    exact ho4.setCell (a := ⟨p, 3, none⟩) hT.ne _
  · rcases hS with rfl | rfl
    · exact hnp hg
    · exact hnb hg
  · rcases hat with e | e
    · exact Or.inl (e ▸ hk)
    · rw [e] at hk
      cases hk
      exact Or.inr (by omega)

set_option maxRecDepth 100000 in
set_option maxHeartbeats 2000000 in
theorem add_any (p bm : Nat) (v : Value) (L : List ByteArray) (s : ByteArray) (w : World) (h : Tab w p bm v L) (hs : s.size ≤ 64) (hp : pos s L = none) (hn : L.length < 4096) (hz : bytesOf L + s.size ≤ 65536) :
    Calls Tryd.prog 75 #[.pointer (some ⟨p, 0, none⟩), .string s] w fun e w' => e = .returned (.int .i64 L.length) ∧ Left w p bm v (L ++ [s]) w' := by
  obtain ⟨c1, c2, c3, f2, f3⟩ := boxT_cells h.boxT
  obtain ⟨a, cap, hv⟩ := h.row.slice
  have hw : IntKind.i64.wrap ((bytesOf L : Int) + s.size) = ((bytesOf L + s.size : Nat) : Int) := by rw [wrap_id (by omega) (by omega)]; omega
  obtain ⟨N, hN⟩ : ∃ N, N = bytesOf L + s.size := ⟨_, rfl⟩
  rw [← hN] at hw
  have hNN := Hid.mk hN
  have H := Hid.mk (show s.size ≤ 64 ∧ pos s L = none ∧ L.length < 4096 ∧ N ≤ 65536 from ⟨hs, hp, hn, by omega⟩)
  have hL : IntKind.i64.wrap (L.length : Int) = L.length := wrap_id (by omega) (by omega)
  have hkey := keyOf_string_mk (P := Tryd.prog) (s := s) Tryd.underlying9 (by unfold maxLen; omega)
  obtain ⟨i0, hi0, hz0, hz1, hby⟩ := info_parts textInfo
  have hT := Hid.mk h
  have hV := Hid.mk hv
  subst hv
  clear hN h hs hp hn hz
  go_enter Tryd.func75, Tryd.ntmps75
  go_wp2_with (first
    | (go_at_call 68; refine (clone_any _ _ (by have := H.out; omega)).mono ?_; rintro e w1 ⟨rfl, hb1⟩; have h1 := hT.out.up hb1; obtain ⟨c1, c2, c3, f2, f3⟩ := boxT_cells h1.boxT; have hB1 := Hid.mk hb1; have hT1 := Hid.mk h1; clear hb1 h1)
    | (at_builtin; refine wpList_append_own_at _ rfl _ _ 33 rfl 0 9 i0 _ 1 16 Tryd.underlying33 hi0 hz0 hz1 hby rfl (by decide) (.slice a L.length cap) L.length _ rfl (hT1.out.row.alloc _) ⟨w1.heap.size, 0, none⟩ 1 1 [.string s] rfl rfl (cell_one_new _ _ _) (texts_one s) (by have := H.out; unfold maxLen; omega) (by have := H.out; omega) (by omega) ?_; intro v' w2 hown hgrow hnil hat; clear hnil; obtain ⟨a', cap', rfl⟩ := owns_slice hown
       have hbx := Hid.mk (grown_box hgrow hT1.out.boxT hT1.out.np); have HO := Hid.mk hown; have HG := Hid.mk hgrow; have HA := Hid.mk hat; clear hown hgrow hat; obtain ⟨c1, c2, c3, f2, f3⟩ := boxT_cells hbx.out)
    | (at_mapUpdate; obtain ⟨D, hD, hM⟩ := hT1.out.map; have hD2 := hD.alloc (.cells #[.string s] 9); have hD3 := hD2.kept HG.out (fun e => hT1.out.nb e.symm); have hD4 := hD3.setCell (a := ⟨p, 2, none⟩) hT1.out.ne (.slice a' (L.length + 1) cap')
       refine wpList_mapUpdate_own _ rfl _ _ _ 32 rfl 9 3 keyed Tryd.underlying32 _ bm L.length D rfl hD4 (by have := H.out; unfold maxLen; omega) _ _ (key s) rfl rfl hkey (.lit (.int .i64 L.length)) [] (plainElem_int Tryd.underlying3 (wf_i64' (by omega) (by have := H.out; omega))) ?_; intro w4 hown4 hg4; clear hD hD2 hD3 hD4
       have hbx4 := Hid.mk ((hg4.block p (by have := (Array.getElem?_eq_some_iff.1 hbx.out).1; simpa [World.setCell] using this) (fun e => hT1.out.ne (by simpa using e.symm))).trans (boxT_row hbx.out (.slice a' (L.length + 1) cap'))); have HO4 := Hid.mk hown4; have HG4 := Hid.mk hg4; have HM := Hid.mk hM; clear hown4 hg4 hM; obtain ⟨c1, c2, c3, f2, f3⟩ := boxT_cells hbx4.out))
  go_ret
  refine ⟨rfl, ?_⟩
  have hh := H.out
  have e := hNN.out
  have := left_added hB1.out hT1.out hT.out HG.out HA.out HO.out hbx.out HG4.out hbx4.out HO4.out HM.out hh.1 hh.2.1 hh.2.2.1 (by omega)
  rw [← e] at this
  exact this

end Go.Proofs.YtaiiicmldogjoaaDoor

/-
  The program's tables of atoms: what its calls answer, and leave.
-/
namespace Go.Proofs.YtaiiicmldogjoaaDoor
open Go.RowKit Go.Deep Go.Maps Go.WideShapes Go.WideMaps

theorem zeroInt (w : World) : (zeroValue 3).run Tryd.prog w = .ok (.int .i64 0) w := Tryd.zeroValue3 w
/-- What is looked up in a table's map. -/
theorem look_there {D : DataW Unit} {L : List ByteArray} {s : ByteArray} {i : Nat} {c : Int} (hM : MapOk D L) (hp : pos s L = some i) (hat : D.atKey (key s) (.lit (.int .i64 0)) = .lit (.int .i64 c)) : Maps.has D (.string s.data.toList) = true ∧ c = i := by
  rw [show Lit.string s.data.toList = key s from rfl, hM.has, hp]
  rw [hM.at_ s i hp] at hat
  simp at hat
  exact ⟨rfl, hat.symm⟩
theorem look_not {D : DataW Unit} {L : List ByteArray} {s : ByteArray} {c : Int} (hM : MapOk D L) (hp : pos s L = none) (hat : D.atKey (key s) (.lit (.int .i64 0)) = .lit (.int .i64 c)) : Maps.has D (.string s.data.toList) = false ∧ c = 0 := by
  have hh : Maps.has D (key s) = false := by rw [hM.has, hp]; rfl
  refine ⟨hh, ?_⟩
  rw [atKey_of_not_has hh] at hat
  simp at hat
  exact hat.symm
theorem Tab.left {w w' : World} {p bm : Nat} {v : Value} {L : List ByteArray} (h : Tab w p bm v L) (hb : Below w.heap.size w w') : Left w p bm v L w' := ⟨v, h.up hb, Only.up hb, fun _ hk => Or.inl hk⟩
theorem Left.from {w w1 w' : World} {p bm : Nat} {v : Value} {L : List ByteArray} (hb : Below w.heap.size w w1) (h : Left w1 p bm v L w') : Left w p bm v L w' := by
  obtain ⟨v', h1, h2, h3⟩ := h
  exact ⟨v', h1, (Only.up hb).trans h2 (fun _ hi => Or.inl hi), fun k hk => (h3 k hk).imp id (fun e => Nat.le_trans hb.size e)⟩

set_option maxRecDepth 100000 in
set_option maxHeartbeats 2000000 in
theorem intern_any (p bm : Nat) (v : Value) (L : List ByteArray) (s : ByteArray) (w : World) (h : Tab w p bm v L) (hs : s.size ≤ maxLen) :
    Calls Tryd.prog 56 #[.pointer (some ⟨p, 0, none⟩), .string s] w fun e w' => e = .returned (.tuple #[.int .i64 (put L s).1, .int .i64 (put L s).2.1]) ∧ Left w p bm v (put L s).2.2 w' := by
  obtain ⟨c1, c2, c3, f2, f3⟩ := boxT_cells h.boxT
  obtain ⟨a, cap, hv⟩ := h.row.slice
  have hkey := keyOf_string_mk (P := Tryd.prog) (s := s) Tryd.underlying9 hs
  have hT := Hid.mk h
  subst hv
  by_cases hl : 64 < s.size
  · rw [put_long hl]
    have ht : decide ((64 : Int) < s.size) = true := by rw [decide_eq_true_eq]; omega
    clear hl
    go_enter Tryd.func56, Tryd.ntmps56
    go_wp2_with (first
      | (go_at_call 67; refine (made_yes _ _ _ _ _ hT.out).mono ?_; rintro e w1 ⟨rfl, rfl⟩))
    go_ret2
    exact ⟨rfl, hT.out.left (Below.refl _ _)⟩
  · have ht : decide ((64 : Int) < s.size) = false := by rw [decide_eq_false_iff_not]; omega
    have hl' := Hid.mk (show s.size ≤ 64 by omega)
    clear hl
    obtain ⟨D, hD, hM⟩ := h.map
    cases hp : pos s L with
    | some i =>
      rw [put_there hl'.out hp]
      have hP := Hid.mk hp
      clear hp h
      go_enter Tryd.func56, Tryd.ntmps56
      go_wp2_with (first
        | (go_at_call 67; refine (made_yes _ _ _ _ _ hT.out).mono ?_; rintro e w1 ⟨rfl, rfl⟩)
        | (at_lookup; refine wpList_lookup_own_ok_int _ rfl _ _ 32 rfl 9 3 .i64 keyed Tryd.underlying32 Tryd.underlying3 (zeroInt _) bm _ D rfl hD _ _ rfl hkey ?_; intro c hat hwc; obtain ⟨hh, rfl⟩ := look_there hM hP.out hat; clear hat hwc))
      go_ret2
      exact ⟨rfl, hT.out.left (Below.refl _ _)⟩
    | none =>
      have hP := Hid.mk hp
      by_cases hf : 4096 ≤ L.length ∨ 65536 < bytesOf L + s.size
      · rw [put_full hl'.out hp hf]
        have hd : decide (4096 ≤ L.length ∨ 65536 < bytesOf L + s.size) = true := by rw [decide_eq_true_eq]; exact hf
        have hc := Hid.mk (hd ▸ fun w h => full_any p bm (.slice a L.length cap) L s w h hl'.out)
        clear hp h hf hd
        go_enter Tryd.func56, Tryd.ntmps56
        go_wp2_with (first
          | (go_at_call 67; refine (made_yes _ _ _ _ _ hT.out).mono ?_; rintro e w1 ⟨rfl, rfl⟩)
          | (at_lookup; refine wpList_lookup_own_ok_int _ rfl _ _ 32 rfl 9 3 .i64 keyed Tryd.underlying32 Tryd.underlying3 (zeroInt _) bm _ D rfl hD _ _ rfl hkey ?_; intro c hat hwc; obtain ⟨hh, rfl⟩ := look_not hM hP.out hat; clear hat hwc)
          | (go_at_call 74; refine (hc.out _ hT.out).mono ?_; rintro e w1 ⟨rfl, rfl⟩))
        go_ret2
        exact ⟨rfl, hT.out.left (Below.refl _ _)⟩
      · rw [put_new hl'.out hp (by omega) (by omega)]
        have hd : decide (4096 ≤ L.length ∨ 65536 < bytesOf L + s.size) = false := by rw [decide_eq_false_iff_not]; exact hf
        have hc := Hid.mk (hd ▸ fun w h => full_any p bm (.slice a L.length cap) L s w h hl'.out)
        have ha := Hid.mk (fun w h => add_any p bm (.slice a L.length cap) L s w h hl'.out hp (by omega) (by omega))
        clear hp h hf hd
        go_enter Tryd.func56, Tryd.ntmps56
        go_wp2_with (first
          | (go_at_call 67; refine (made_yes _ _ _ _ _ hT.out).mono ?_; rintro e w1 ⟨rfl, rfl⟩)
          | (at_lookup; refine wpList_lookup_own_ok_int _ rfl _ _ 32 rfl 9 3 .i64 keyed Tryd.underlying32 Tryd.underlying3 (zeroInt _) bm _ D rfl hD _ _ rfl hkey ?_; intro c hat hwc; obtain ⟨hh, rfl⟩ := look_not hM hP.out hat; clear hat hwc)
          | (go_at_call 74; refine (hc.out _ hT.out).mono ?_; rintro e w1 ⟨rfl, rfl⟩)
          | (go_at_call 75; refine (ha.out _ hT.out).mono ?_; rintro e w1 ⟨rfl, hLf⟩))
        go_ret2
        exact ⟨rfl, hLf⟩

set_option maxRecDepth 100000 in
theorem findT_any (p bm : Nat) (v : Value) (L : List ByteArray) (s : ByteArray) (w : World) (h : Tab w p bm v L) (hs : s.size ≤ maxLen) :
    Calls Tryd.prog 58 #[.pointer (some ⟨p, 0, none⟩), .string s] w fun e w' => e = .returned (.tuple #[.int .i64 ((pos s L).getD 0), .bool (pos s L).isSome]) ∧ w = w' := by
  obtain ⟨c1, c2, c3, f2, f3⟩ := boxT_cells h.boxT
  have hkey := keyOf_string_mk (P := Tryd.prog) (s := s) Tryd.underlying9 hs
  have hT := Hid.mk h
  obtain ⟨D, hD, hM⟩ := h.map
  cases hp : pos s L with
  | some i =>
    have hP := Hid.mk hp
    clear hp h
    go_enter Tryd.func58, Tryd.ntmps58
    go_wp2_with (first
      | (go_at_call 67; refine (made_yes _ _ _ _ _ hT.out).mono ?_; rintro e w1 ⟨rfl, rfl⟩)
      | (at_lookup; refine wpList_lookup_own_ok_int _ rfl _ _ 32 rfl 9 3 .i64 keyed Tryd.underlying32 Tryd.underlying3 (zeroInt _) bm _ D rfl hD _ _ rfl hkey ?_; intro c hat hwc; obtain ⟨hh, rfl⟩ := look_there hM hP.out hat; clear hat hwc))
    go_ret2
    exact ⟨rfl, rfl⟩
  | none =>
    have hP := Hid.mk hp
    clear hp h
    go_enter Tryd.func58, Tryd.ntmps58
    go_wp2_with (first
      | (go_at_call 67; refine (made_yes _ _ _ _ _ hT.out).mono ?_; rintro e w1 ⟨rfl, rfl⟩)
      | (at_lookup; refine wpList_lookup_own_ok_int _ rfl _ _ 32 rfl 9 3 .i64 keyed Tryd.underlying32 Tryd.underlying3 (zeroInt _) bm _ D rfl hD _ _ rfl hkey ?_; intro c hat hwc; obtain ⟨hh, rfl⟩ := look_not hM hP.out hat; clear hat hwc))
    go_ret2
    exact ⟨rfl, rfl⟩

set_option maxRecDepth 100000 in
theorem name_any (p bm : Nat) (v : Value) (L : List ByteArray) (n : Int) (w : World) (h : Tab w p bm v L) :
    Calls Tryd.prog 48 #[.pointer (some ⟨p, 0, none⟩), .int .i64 n] w fun e w' =>
      ((∃ (i : Nat) (hi : i < L.length), n = i ∧ e = .returned (.tuple #[.string L[i], .int .i64 0])) ∨ ((n < 0 ∨ L.length ≤ n) ∧ e = .returned (.tuple #[.string ⟨#[]⟩, .int .i64 5]))) ∧ Below w.heap.size w w' := by
  obtain ⟨c1, c2, c3, f2, f3⟩ := boxT_cells h.boxT
  have hT := Hid.mk h
  by_cases hn : 0 ≤ n ∧ n < L.length
  · obtain ⟨i, rfl⟩ := Int.eq_ofNat_of_zero_le hn.1
    have hi : i < L.length := by omega
    obtain ⟨g, cap, rfl, hc⟩ := h.row.at_ (by omega)
    have hci := hc i hi
    have hsz : L[i].size ≤ 64 := h.good.short _ (List.getElem_mem hi)
    have hlt := Hid.mk hi
    have hs := Hid.mk hsz
    have e1 : decide ((i : Int) < 0) = false := by rw [decide_eq_false_iff_not]; omega
    have e2 : decide (L.length ≤ i) = false := by rw [decide_eq_false_iff_not]; omega
    have e3 : decide ((L.length : Int) ≤ i) = false := by rw [decide_eq_false_iff_not]; omega
    suffices hC : Calls Tryd.prog 48 #[.pointer (some ⟨p, 0, none⟩), .int .i64 i] w (fun e w' => e = .returned (.tuple #[.string L[i], .int .i64 0]) ∧ Below w.heap.size w w') from hC.mono (fun e w' hh => ⟨Or.inl ⟨i, hi, rfl, hh.1⟩, hh.2⟩)
    generalize L[i] = x at hci hs ⊢
    clear hc hsz hn h
    go_enter Tryd.func48, Tryd.ntmps48
    go_wp2_with (first
      | (go_at_call 67; refine (made_yes _ _ _ _ _ hT.out).mono ?_; rintro e w1 ⟨rfl, rfl⟩)
      | (go_at_call 68; refine (clone_any _ _ (by have := hs.out; omega)).mono ?_; rintro e w1 ⟨rfl, hb1⟩))
    go_ret2
    exact ⟨rfl, hb1⟩
  · obtain ⟨a, cap, hv⟩ := h.row.slice
    subst hv
    have hN := Hid.mk (show n < 0 ∨ (L.length : Int) ≤ n by omega)
    suffices hC : Calls Tryd.prog 48 #[.pointer (some ⟨p, 0, none⟩), .int .i64 n] w (fun e w' => e = .returned (.tuple #[.string ⟨#[]⟩, .int .i64 5]) ∧ Below w.heap.size w w') from hC.mono (fun e w' hh => ⟨Or.inr ⟨hN.out, hh.1⟩, hh.2⟩)
    by_cases h0 : n < 0
    · clear hn h
      go_enter Tryd.func48, Tryd.ntmps48
      go_wp2_with (first
        | (go_at_call 67; refine (made_yes _ _ _ _ _ hT.out).mono ?_; rintro e w1 ⟨rfl, rfl⟩))
      go_ret2
      exact ⟨rfl, Below.refl _ _⟩
    · have h1 : (L.length : Int) ≤ n := by omega
      clear hn h
      go_enter Tryd.func48, Tryd.ntmps48
      go_wp2_with (first
        | (go_at_call 67; refine (made_yes _ _ _ _ _ hT.out).mono ?_; rintro e w1 ⟨rfl, rfl⟩))
      go_ret2
      exact ⟨rfl, Below.refl _ _⟩

theorem len_any (p bm : Nat) (v : Value) (L : List ByteArray) (w : World) (h : Tab w p bm v L) :
    Calls Tryd.prog 60 #[.pointer (some ⟨p, 0, none⟩)] w fun e w' => e = .returned (.int .i64 L.length) ∧ w = w' := by
  obtain ⟨c1, c2, c3, f2, f3⟩ := boxT_cells h.boxT
  have hT := Hid.mk h
  obtain ⟨a, cap, hv⟩ := h.row.slice
  subst hv
  clear h
  go_enter Tryd.func60, Tryd.ntmps60
  go_wp2_with (first
    | (go_at_call 67; refine (made_yes _ _ _ _ _ hT.out).mono ?_; rintro e w1 ⟨rfl, rfl⟩))
  go_ret
  exact ⟨rfl, rfl⟩

end Go.Proofs.YtaiiicmldogjoaaDoor

/-
  The program's tables of atoms: all texts of a table; a table that nobody made.
-/
namespace Go.Proofs.YtaiiicmldogjoaaDoor
open Go.RowKit Go.Deep Go.Maps Go.WideShapes Go.WideMaps

/-- A row that is filled from the front. -/
def part (L : List ByteArray) (i : Nat) : List Value := (L.take i).map .string ++ List.replicate (L.length - i) (.string ⟨#[]⟩)
theorem part_zero (L : List ByteArray) : part L 0 = List.replicate L.length (.string ⟨#[]⟩) := by simp [part]
theorem part_all (L : List ByteArray) : part L L.length = L.map .string := by simp [part]
theorem part_next (L : List ByteArray) (i : Nat) (h : i < L.length) : (part L i).set i (.string L[i]) = part L (i + 1) := by
  have e : L.length - i = (L.length - (i + 1)) + 1 := by omega
  have hl : ((L.take i).map Value.string).length = i := by simp; omega
  rw [part, part, e, List.replicate_succ, List.set_append_right i (Value.string L[i]) (by rw [hl]; exact Nat.le_refl _), hl, Nat.sub_self, List.set_cons_zero, List.take_succ_eq_append_getElem h, List.map_append, List.append_assoc]
  rfl
theorem part_length (L : List ByteArray) (i : Nat) (h : i ≤ L.length) : (part L i).length = L.length := by
  simp [part]
  omega

set_option maxRecDepth 100000 in
set_option maxHeartbeats 2000000 in
theorem all_any (p bm : Nat) (v : Value) (L : List ByteArray) (w : World) (h : Tab w p bm v L) :
    Calls Tryd.prog 57 #[.pointer (some ⟨p, 0, none⟩)] w fun e w' => ∃ v', e = .returned v' ∧ Texts w' v' L ∧ (∀ g, v'.ownBlock = some g → w.heap.size ≤ g) ∧ Below w.heap.size w w' := by
  obtain ⟨c1, c2, c3, f2, f3⟩ := boxT_cells h.boxT
  obtain ⟨a, cap, hv⟩ := h.row.slice
  subst hv
  have hT := Hid.mk h
  have hL := Hid.mk h.good.few
  obtain ⟨i0, hi0, hz0, hz1, hby⟩ := info_parts textInfo
  clear h
  go_enter Tryd.func57, Tryd.ntmps57
  go_wp2_with (first
    | (go_at_call 67; refine (made_yes _ _ _ _ _ hT.out).mono ?_; rintro e w1 ⟨rfl, rfl⟩)
    | (at_make; refine wpList_make_full _ rfl _ _ 33 rfl 0 9 i0 _ 1 Tryd.underlying33 hi0 hz0 hz1 .i64 .i64 L.length L.length L.length rfl rfl rfl rfl (by rw [hby]; have := hL.out; omega) (by have := hL.out; unfold maxLen; omega) (by omega) ?_; intro w1 hown hgrow; have HO := Hid.mk hown; have HG := Hid.mk hgrow; have HB := Hid.mk ((Below.refl w.heap.size w).grown hgrow (Nat.le_refl _) (fun k hk => by cases hk)); clear hown hgrow; have hT1 := Hid.mk (hT.out.up HB.out); obtain ⟨c1, c2, c3, f2, f3⟩ := boxT_cells hT1.out.boxT))
  go_loopw [20] (fun ii wr => ∃ i : Nat, i ≤ L.length ∧ ii = .int .i64 i ∧ wr.ownsRow 0 9 1 (.slice (some ⟨w.heap.size, 0, none⟩) L.length L.length) L.length (part L i) ∧ Below w.heap.size w wr) (fun ii _ => L.length - (intOf ii).toNat)
  case atStart =>
    refine ⟨0, Nat.zero_le _, rfl, ?_, HB.out⟩
    have := HO.out
    rw [part_zero]
    simpa [toList_madeCells_one, Value.cells] using this
  case round =>
    obtain ⟨i, hi, rfl, hown, hb⟩ := hrel
    have hTr := hT.out.up hb
    by_cases hlt : i < L.length
    · obtain ⟨g, cap', hv, hc⟩ := hTr.row.at_ (by omega)
      simp only [Value.slice.injEq, true_and] at hv
      obtain ⟨rfl, rfl⟩ := hv
      have hci := hc i hlt
      have hs := Hid.mk (show L[i].size ≤ 64 from hTr.good.short _ (List.getElem_mem hlt))
      have hpn := Hid.mk (part_next L i hlt)
      have hpl := Hid.mk (part_length L i hi)
      obtain ⟨x, hx⟩ : ∃ x, L[i] = x := ⟨_, rfl⟩
      rw [hx] at hci hs hpn
      have HO' := Hid.mk hown
      have HB' := Hid.mk hb
      have HL := Hid.mk hlt
      have hwi : IntKind.i64.wrap ((i : Int) + 1) = ((i + 1 : Nat) : Int) := by have := hL.out; rw [wrap_id (by omega) (by omega)]; omega
      clear hc hx hTr hown hb HO
      go_wp2_with (first
        | (go_at_call 68; refine (clone_any _ _ (by have := hs.out; omega)).mono ?_; rintro e w2 ⟨rfl, hb2⟩
           have HB2 := Hid.mk hb2
           have ho2 := ownsRow_up HO'.out hb2
           have hcl : w2.cell? ⟨w.heap.size, i, none⟩ = some ((part L i)[i]'(by rw [hpl.out]; exact hlt)) := by
             rw [ho2.cellAt i (by omega)]; exact List.getElem?_eq_getElem _
           have hfr := ho2.frozenAt i
           have HO2 := Hid.mk ho2
           clear hb2 ho2))
      go_roundw
      case rel =>
        have h1 : i < L.length := HL.out
        have h2 : L.length ≤ 4096 := hL.out
        have hst := (HO2.out.stored i (.string x)).1
        rw [hpn.out] at hst
        exact ⟨i + 1, HL.out, rfl, hst, (HB'.out.trans (HB2.out.mono HB'.out.size)).setCell (Nat.le_refl _) _⟩
      case measure =>
        have h1 : i < L.length := HL.out
        have h2 : L.length ≤ 4096 := hL.out
        simp [intOf]
        omega
    · obtain rfl : i = L.length := by omega
      have HO' := Hid.mk hown
      have HB' := Hid.mk hb
      clear hTr hown hb HO
      go_wp2
      go_ret
      refine ⟨_, rfl, ?_, fun g hg => by cases hg; exact Nat.le_refl _, HB'.out⟩
      have := HO'.out
      rwa [part_all] at this

end Go.Proofs.YtaiiicmldogjoaaDoor
