/-
  The program's tables of atoms: a text copied, a text added.
-/
import Derived.Test.YtjmjifjmenmdgaaAtomA
import Derived.Shelf.Pu.Clone
namespace Go.Proofs.Ytjmjifjmenmdgaa
open Go.RowKit Go.Deep Go.Maps Go.WideShapes Go.WideMaps

def cloneRen : Go.Shelf.Ren := ⟨fun | 25 => 27 | n => n, fun | 0 => 0 | 3 => 3 | 4 => 4 | 5 => 5 | 9 => 9 | 37 => 47 | 47 => 56 | n => n, fun | n => n⟩
theorem cloneLays : Go.Proofs.LaysPu.n25 Try.prog cloneRen := {
  mixed := by kernel_rfl
  f25 := Try.func27.trans (congrArg some (by kernel_rfl))
  t0 := Try.underlying0
  a0 := Try.isAgg0
  z0 := Try.sizeOf0
  v0 := Try.zeroValue0
  i0 := by kernel_rfl
  t3 := Try.underlying3
  a3 := Try.isAgg3
  z3 := Try.sizeOf3
  v3 := Try.zeroValue3
  i3 := by kernel_rfl
  t4 := Try.underlying4
  a4 := Try.isAgg4
  z4 := Try.sizeOf4
  v4 := Try.zeroValue4
  i4 := by kernel_rfl
  t5 := Try.underlying5
  a5 := Try.isAgg5
  z5 := Try.sizeOf5
  v5 := Try.zeroValue5
  i5 := by kernel_rfl
  t9 := Try.underlying9
  a9 := Try.isAgg9
  z9 := Try.sizeOf9
  v9 := Try.zeroValue9
  i9 := by kernel_rfl
  t37 := Try.underlying47
  a37 := Try.isAgg47
  z37 := Try.sizeOf47
  v37 := Try.zeroValue47
  i37 := by kernel_rfl
  t47 := Try.underlying56
  a47 := Try.isAgg56
  z47 := Try.sizeOf56
  v47 := Try.zeroValue56
  i47 := by kernel_rfl }
theorem cloneL_any (s : ByteArray) (w : World) (h : s.size ≤ 281474976710656) : Calls Try.prog 27 #[.string s] w fun e w' => e = .returned (.string s) ∧ Below w.heap.size w w' :=
  AnyPu.stringslite_Clone cloneLays s w h
theorem clone_any (s : ByteArray) (w : World) (h : s.size ≤ 281474976710656) : Calls Try.prog 26 #[.string s] w fun e w' => e = .returned (.string s) ∧ Below w.heap.size w w' := by
  go_enter Try.func26, Try.ntmps26
  go_wp2_with (go_at_call 27; refine (cloneL_any _ _ h).mono ?_; rintro e w1 ⟨rfl, hb⟩)
  go_ret
  exact ⟨rfl, hb⟩

theorem textInfo : (Try.prog.info? 9).map (fun i => (i.zero, i.size, i.bytes)) = some (some (.string ⟨#[]⟩), 1, 16) := by kernel_rfl
theorem keyed : Keyed Try.prog 9 := string_keyed Try.underlying9
theorem texts_one (s : ByteArray) : ∀ u ∈ [Value.string s], u.oneCell' = true := fun u hu => by
  obtain rfl := List.mem_singleton.1 hu
  rfl

/-- What a table's box is, the row aside. -/
def boxT (p bm : Nat) (v : Value) (n : Int) : Obj := .cells #[.pointer (some ⟨p, 0, none⟩), .map (some bm), v, .int .i64 n] 37
theorem boxT_cells {w : World} {p bm : Nat} {v : Value} {n : Int} (h : w.heap[p]? = some (boxT p bm v n)) :
    w.cell? ⟨p, 1, none⟩ = some (.map (some bm)) ∧ w.cell? ⟨p, 2, none⟩ = some v ∧ w.cell? ⟨p, 3, none⟩ = some (.int .i64 n) ∧ w.frozen? ⟨p, 2, none⟩ = false ∧ w.frozen? ⟨p, 3, none⟩ = false := by
  unfold boxT at h
  simp [World.cell?, World.frozen?, h]
theorem boxT_row {w : World} {p bm : Nat} {v : Value} {n : Int} (h : w.heap[p]? = some (boxT p bm v n)) (v' : Value) : (w.setCell ⟨p, 2, none⟩ v').heap[p]? = some (boxT p bm v' n) := by
  unfold boxT at *
  simp [World.setCell, Array.getElem?_modify, h]
theorem boxT_size {w : World} {p bm : Nat} {v : Value} {n : Int} (h : w.heap[p]? = some (boxT p bm v n)) (n' : Int) : (w.setCell ⟨p, 3, none⟩ (.int .i64 n')).heap[p]? = some (boxT p bm v n') := by
  unfold boxT at *
  simp [World.setCell, Array.getElem?_modify, h]
theorem Tab.boxT {w : World} {p bm : Nat} {v : Value} {L : List ByteArray} (h : Tab w p bm v L) : w.heap[p]? = some (boxT p bm v (sizes L)) := h.box
theorem grown_box {w w2 : World} {r : Option Nat} {o o' : Obj} {k : Nat} (hg : (w.alloc o).grownBy w2 r) (hk : w.heap[k]? = some o') (hr : r ≠ some k) : w2.heap[k]? = some o' := by
  have hlt := (Array.getElem?_eq_some_iff.1 hk).1
  rw [hg.block k (by simp; omega) (fun e => hr e.symm), Below.heap_alloc _ _ _ hlt]
  exact hk

theorem wf_i64' {x : Int} (h0 : -9223372036854775808 ≤ x) (h1 : x ≤ 9223372036854775807) : (Lit.int .i64 x).wf = true := WalkArith.wf_i64 ⟨h0, h1⟩
theorem owns_slice {w : World} {base : Nat} {e : TypeId} {size : Nat} {v : Value} {n : Nat} {xs : List Value} (h : w.ownsRow base e size v n xs) : ∃ a cap, v = .slice a n cap := by
  rcases h.2 with ⟨rfl, rfl⟩ | ⟨g, cap, cur, rfl, _⟩
  · exact ⟨none, 0, rfl⟩
  · exact ⟨_, cap, rfl⟩
/-- What a call on a table leaves: a table of this list, its map where it was. -/
def Left (w : World) (p bm : Nat) (v : Value) (L : List ByteArray) (w' : World) : Prop :=
  ∃ v', Tab w' p bm v' L ∧ Only (Mine p bm v) w w' ∧ ∀ k, v'.ownBlock = some k → v.ownBlock = some k ∨ w.heap.size ≤ k

theorem left_added {p bm : Nat} {v v' : Value} {L : List ByteArray} {s : ByteArray} {w w1 w2 w4 : World} {D : DataW Unit} {t : TypeId} (hb1 : Below w.heap.size w w1) (hT1 : Tab w1 p bm v L) (hT : Tab w p bm v L)
    (hg : (w1.alloc (.cells #[.string s] t)).grownBy w2 v.ownBlock) (hat : v'.ownBlock = v.ownBlock ∨ v'.ownBlock = some (w1.alloc (.cells #[.string s] t)).heap.size) (hown : w2.ownsRow 0 9 1 v' (L.length + 1) (L.map .string ++ [.string s]))
    (hbx : w2.heap[p]? = some (boxT p bm v (sizes L))) (hg4 : (w2.setCell ⟨p, 2, none⟩ v').grownBy w4 (some bm)) (hbx4 : w4.heap[p]? = some (boxT p bm v' (sizes L)))
    (ho4 : w4.ownsMap Try.prog 9 (plainElem Try.prog 3) bm (L.length + 1) (D.put (key s) (.lit (.int .i64 L.length)))) (hM : MapOk D L)
    (hs : s.size ≤ 64) (hp : pos s L = none) (hn : L.length < 4096) (hz : sizes L + s.size ≤ 65536) :
    Left w p bm v (L ++ [s]) (w4.setCell ⟨p, 3, none⟩ (.int .i64 (sizes L + s.size : Nat))) := by
  have hpl : p < w.heap.size := hT.lt (Or.inl rfl)
  have hbl : bm < w.heap.size := hT.lt (Or.inr (Or.inl rfl))
  have hz1 := hb1.size
  have hz2 := hg.size
  have hz4 := hg4.size
  simp only [World.size_alloc] at hz2 hat
  rw [size_setCell'] at hz4
  have hgood : Good (L ++ [s]) := by
    have := hT.good.put s
    rwa [put_new hs hp hn hz] at this
  have hrow : Texts w2 v' (L ++ [s]) := by
    unfold Texts
    rw [List.length_append, List.map_append]
    exact hown
  have hnp : v'.ownBlock ≠ some p := by
    rcases hat with e | e
    · rw [e]; exact hT.np
    · rw [e]; intro e2; cases e2; omega
  have hnb : v'.ownBlock ≠ some bm := by
    rcases hat with e | e
    · rw [e]; exact hT.nb
    · rw [e]; intro e2; cases e2; omega
  have o1 : Only (Mine p bm v) w (w1.alloc (.cells #[.string s] t)) := Only.up (hb1.alloc hb1.size _)
  have o2 : Only (Mine p bm v) w w2 := o1.trans (Only.grown (S := Mine p bm v) hg (fun k hk => Or.inr (Or.inr hk))) (fun i hi => Or.inl hi)
  have o3 : Only (Mine p bm v) w (w2.setCell ⟨p, 2, none⟩ v') := o2.trans (Only.set (S := Mine p bm v) _ _ (Or.inl rfl)) (fun i hi => Or.inl hi)
  have o4 : Only (Mine p bm v) w w4 := o3.trans (Only.grown (S := Mine p bm v) hg4 (fun k hk => by cases hk; exact Or.inr (Or.inl rfl))) (fun i hi => Or.inl hi)
  have o5 : Only (Mine p bm v) w (w4.setCell ⟨p, 3, none⟩ (.int .i64 (sizes L + s.size : Nat))) := o4.trans (Only.set (S := Mine p bm v) _ _ (Or.inl rfl)) (fun i hi => Or.inl hi)
  have r3 : Only (fun k => k = p ∨ k = bm) w2 (w4.setCell ⟨p, 3, none⟩ (.int .i64 (sizes L + s.size : Nat))) :=
    ((Only.set (S := fun k => k = p ∨ k = bm) w2 v' (Or.inl rfl)).trans (Only.grown (S := fun k => k = p ∨ k = bm) hg4 (fun k hk => by cases hk; exact Or.inr rfl)) (fun i hi => Or.inl hi)).trans (Only.set (S := fun k => k = p ∨ k = bm) _ _ (Or.inl rfl)) (fun i hi => Or.inl hi)
  refine ⟨v', ⟨?_, ⟨_, ?_, hM.snoc hp⟩, hrow.kept r3 (fun g hg hS => ?_), hT.ne, hnp, hnb, hgood⟩, o5, fun k hk => ?_⟩
  · have := boxT_size hbx4 ((sizes L + s.size : Nat) : Int)
    rw [sizes_snoc]
    exact this
  · rw [List.length_append]
    exact ho4.setCell (a := ⟨p, 3, none⟩) hT.ne _
  · rcases hS with rfl | rfl
    · exact hnp hg
    · exact hnb hg
  · rcases hat with e | e
    · exact Or.inl (e ▸ hk)
    · rw [e] at hk
      cases hk
      exact Or.inr (by omega)

set_option maxRecDepth 100000 in
set_option maxHeartbeats 2000000 in
theorem add_any (p bm : Nat) (v : Value) (L : List ByteArray) (s : ByteArray) (w : World) (h : Tab w p bm v L) (hs : s.size ≤ 64) (hp : pos s L = none) (hn : L.length < 4096) (hz : sizes L + s.size ≤ 65536) :
    Calls Try.prog 22 #[.pointer (some ⟨p, 0, none⟩), .string s] w fun e w' => e = .returned (.int .i64 L.length) ∧ Left w p bm v (L ++ [s]) w' := by
  obtain ⟨c1, c2, c3, f2, f3⟩ := boxT_cells h.boxT
  obtain ⟨a, cap, hv⟩ := h.row.slice
  have hw : IntKind.i64.wrap ((sizes L : Int) + s.size) = ((sizes L + s.size : Nat) : Int) := by rw [wrap_id (by omega) (by omega)]; omega
  obtain ⟨N, hN⟩ : ∃ N, N = sizes L + s.size := ⟨_, rfl⟩
  rw [← hN] at hw
  have hNN := Hid.mk hN
  have H := Hid.mk (show s.size ≤ 64 ∧ pos s L = none ∧ L.length < 4096 ∧ N ≤ 65536 from ⟨hs, hp, hn, by omega⟩)
  have hL : IntKind.i64.wrap (L.length : Int) = L.length := wrap_id (by omega) (by omega)
  have hkey := keyOf_string_mk (P := Try.prog) (s := s) Try.underlying9 (by unfold maxLen; omega)
  obtain ⟨i0, hi0, hz0, hz1, hby⟩ := info_parts textInfo
  have hT := Hid.mk h
  have hV := Hid.mk hv
  subst hv
  clear hN h hs hp hn hz
  go_enter Try.func22, Try.ntmps22
  go_wp2_with (first
    | (go_at_call 26; refine (clone_any _ _ (by have := H.out; omega)).mono ?_; rintro e w1 ⟨rfl, hb1⟩; have h1 := hT.out.up hb1; obtain ⟨c1, c2, c3, f2, f3⟩ := boxT_cells h1.boxT; have hB1 := Hid.mk hb1; have hT1 := Hid.mk h1; clear hb1 h1)
    | (at_builtin; refine wpList_append_own_at _ rfl _ _ 22 rfl 0 9 i0 _ 1 16 Try.underlying22 hi0 hz0 hz1 hby rfl (by decide) (.slice a L.length cap) L.length _ rfl (hT1.out.row.alloc _) ⟨w1.heap.size, 0, none⟩ 1 1 [.string s] rfl rfl (cell_one_new _ _ _) (texts_one s) (by have := H.out; unfold maxLen; omega) (by have := H.out; omega) (by omega) ?_; intro v' w2 hown hgrow hnil hat; clear hnil; obtain ⟨a', cap', rfl⟩ := owns_slice hown
       have hbx := Hid.mk (grown_box hgrow hT1.out.boxT hT1.out.np); have HO := Hid.mk hown; have HG := Hid.mk hgrow; have HA := Hid.mk hat; clear hown hgrow hat; obtain ⟨c1, c2, c3, f2, f3⟩ := boxT_cells hbx.out)
    | (at_mapUpdate; obtain ⟨D, hD, hM⟩ := hT1.out.map; have hD2 := hD.alloc (.cells #[.string s] 9); have hD3 := hD2.kept HG.out (fun e => hT1.out.nb e.symm); have hD4 := hD3.setCell (a := ⟨p, 2, none⟩) hT1.out.ne (.slice a' (L.length + 1) cap')
       refine wpList_mapUpdate_own _ rfl _ _ _ 35 rfl 9 3 keyed Try.underlying35 _ bm L.length D rfl hD4 (by have := H.out; unfold maxLen; omega) _ _ (key s) rfl rfl hkey (.lit (.int .i64 L.length)) [] (plainElem_int Try.underlying3 (wf_i64' (by omega) (by have := H.out; omega))) ?_; intro w4 hown4 hg4; clear hD hD2 hD3 hD4
       have hbx4 := Hid.mk ((hg4.block p (by have := (Array.getElem?_eq_some_iff.1 hbx.out).1; simpa [World.setCell] using this) (fun e => hT1.out.ne (by simpa using e.symm))).trans (boxT_row hbx.out (.slice a' (L.length + 1) cap'))); have HO4 := Hid.mk hown4; have HG4 := Hid.mk hg4; have HM := Hid.mk hM; clear hown4 hg4 hM; obtain ⟨c1, c2, c3, f2, f3⟩ := boxT_cells hbx4.out))
  go_ret
  refine ⟨rfl, ?_⟩
  have hh := H.out
  have e := hNN.out
  have := left_added hB1.out hT1.out hT.out HG.out HA.out HO.out hbx.out HG4.out hbx4.out HO4.out HM.out hh.1 hh.2.1 hh.2.2.1 (by omega)
  rw [← e] at this
  exact this

end Go.Proofs.Ytjmjifjmenmdgaa
