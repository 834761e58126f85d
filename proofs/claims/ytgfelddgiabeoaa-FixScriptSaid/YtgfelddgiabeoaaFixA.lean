/-
  The program's counts in memory: one is made; whether one was made; how often, how often in all.
-/
import Derived.Test.YtgfelddgiabeoaaKitMapI
import Derived.Test.YtgfelddgiabeoaaFixPlain
import Derived.Test.YtgfelddgiabeoaaKitInts
import Derived.LaidEqlPtr
import Derived.BigQuiet
namespace Go.Proofs.Ytgfelddgiabeoaa
open Go.RowKit Go.Deep Go.Maps Go.WideShapes

/-- The map of a count: how often, by processes. -/
structure MapC (D : DataW Unit) (L : List Int) : Prop where
  has : ∀ k, Maps.has D (keyI k) = decide (k ∈ L)
  at_ : ∀ k, D.atKey (keyI k) (.lit (.int .i64 0)) = .lit (.int .i64 (cnt k L))
theorem MapC.nil : MapC (.map []) [] := ⟨fun k => by simp [Maps.has], fun k => by rw [atKey_of_not_has (by simp [Maps.has])]; simp [cnt]⟩
/-- A number put under a process. -/
theorem MapC.put {D : DataW Unit} {L L' : List Int} {x : Int} {m : Nat} (h : MapC D L) (hD : IsMap D) (h0 : 0 < m) (hx : cnt x L' = m) (ho : ∀ k, k ≠ x → cnt k L' = cnt k L) : MapC (D.put (keyI x) (.lit (.int .i64 m))) L' := by
  refine ⟨fun k => ?_, fun k => ?_⟩
  · by_cases e : k = x
    · subst e
      rw [has_put_same hD (keyI_lit _)]
      exact (decide_eq_true (List.one_le_count_iff.1 (by unfold cnt at hx; omega))).symm
    · rw [has_put_other (fun e' => e (keyI_inj e')), h.has]
      have h1 := ho k e
      exact decide_eq_decide.2 ⟨fun hm => List.one_le_count_iff.1 (by have := List.one_le_count_iff.2 hm; unfold cnt at h1; omega), fun hm => List.one_le_count_iff.1 (by have := List.one_le_count_iff.2 hm; unfold cnt at h1; omega)⟩
  · by_cases e : k = x
    · subst e
      rw [atKey_put_same hD (keyI_lit _), hx]
    · rw [atKey_put_other (fun e' => e (keyI_inj e')), h.at_, ho k e]
/-- A process taken out. -/
theorem MapC.del {D : DataW Unit} {L L' : List Int} {x : Int} (h : ∀ k, k ≠ x → Maps.has D (keyI k) = decide (k ∈ L) ∧ D.atKey (keyI k) (.lit (.int .i64 0)) = .lit (.int .i64 (cnt k L))) (hx : cnt x L' = 0) (ho : ∀ k, k ≠ x → cnt k L' = cnt k L) : MapC (D.del (keyI x)) L' := by
  refine ⟨fun k => ?_, fun k => ?_⟩
  · by_cases e : k = x
    · subst e
      rw [has_del_same]
      exact (decide_eq_false (fun hm => by have := List.one_le_count_iff.2 hm; unfold cnt at hx; omega)).symm
    · rw [has_del_other (fun e' => e (keyI_inj e')), (h k e).1]
      have h1 := ho k e
      exact decide_eq_decide.2 ⟨fun hm => List.one_le_count_iff.1 (by have := List.one_le_count_iff.2 hm; unfold cnt at h1; omega), fun hm => List.one_le_count_iff.1 (by have := List.one_le_count_iff.2 hm; unfold cnt at h1; omega)⟩
  · by_cases e : k = x
    · subst e
      rw [atKey_del_same, hx]
      rfl
    · rw [atKey_del_other (fun e' => e (keyI_inj e')), (h k e).2, ho k e]
theorem MapC.keys {w : World} {bm n : Nat} {D : DataW Unit} {L : List Int} (h : MapC D L) (hD : w.ownsMap Try.prog 3 (plainElem Try.prog 3) bm n D) : (hold L).Perm (intKeys D) := by
  refine CollectedI.perm (D0 := D) (left := fun _ => false) ⟨hold_nodup L, fun x => ?_⟩ hD (int_keyed Try.underlying3) Try.underlying3 (fun _ => rfl)
  rw [hold_mem]
  have := h.has x
  unfold keyI at this
  rw [this]
  simp
theorem MapC.size {w : World} {bm n : Nat} {D : DataW Unit} {L : List Int} (h : MapC D L) (hD : w.ownsMap Try.prog 3 (plainElem Try.prog 3) bm n D) : Maps.size D ≤ L.length := by
  have h1 := (h.keys hD).length_eq
  have h2 := hold_len L
  obtain ⟨es, rfl⟩ := hD.isMap
  simp [intKeys, Maps.size] at h1 ⊢
  omega
theorem MapC.tight {w : World} {bm n : Nat} {D : DataW Unit} {L : List Int} (h : MapC D L) (hD : w.ownsMap Try.prog 3 (plainElem Try.prog 3) bm n D) : w.ownsMap Try.prog 3 (plainElem Try.prog 3) bm L.length D := (ownsMap_tight hD).mono (h.size hD)

/-- A count's box. -/
def boxC (p bm t : Nat) : Obj := .cells #[.pointer (some ⟨p, 0, none⟩), .map (some bm), .int .i64 t] 41
theorem boxC_cells {w : World} {p bm t : Nat} (h : w.heap[p]? = some (boxC p bm t)) :
    (w.cell? ⟨p, 0, none⟩ = some (.pointer (some ⟨p, 0, none⟩)) ∧ w.cell? ⟨p, 1, none⟩ = some (.map (some bm)) ∧ w.cell? ⟨p, 2, none⟩ = some (.int .i64 t)) ∧ w.frozen? ⟨p, 2, none⟩ = false := by
  unfold boxC at h
  simp [World.cell?, World.frozen?, h]
theorem boxC_total {w : World} {p bm t : Nat} (h : w.heap[p]? = some (boxC p bm t)) (t' : Nat) : (w.setCell ⟨p, 2, none⟩ (.int .i64 t')).heap[p]? = some (boxC p bm t') := by
  unfold boxC at *
  simp [World.setCell, Array.getElem?_modify, h]
/-- A count: its box at p, its map at bm; L: a process for each time that it has fixed. -/
structure Cn (w : World) (p bm : Nat) (L : List Int) : Prop where
  box : w.heap[p]? = some (boxC p bm L.length)
  map : ∃ D : DataW Unit, w.ownsMap Try.prog 3 (plainElem Try.prog 3) bm L.length D ∧ MapC D L
  ne : bm ≠ p
  good : ∀ x ∈ L, 0 ≤ x ∧ x ≤ 1073741824
theorem Cn.kept {T : Nat → Prop} {w w' : World} {p bm : Nat} {L : List Int} (h : Cn w p bm L) (ho : Only T w w') (h1 : ¬ T p) (h2 : ¬ T bm) : Cn w' p bm L := by
  refine ⟨ho.box h.box h1, ?_, h.ne, h.good⟩
  obtain ⟨D, hD, hM⟩ := h.map
  exact ⟨D, ownsMap_same hD (ho.block bm hD.lt h2), hM⟩
theorem Cn.up {w w' : World} {p bm : Nat} {L : List Int} (h : Cn w p bm L) (hb : Below w.heap.size w w') : Cn w' p bm L := h.kept (T := fun _ => False) (Only.up hb) (fun f => f) (fun f => f)
theorem Cn.ltp {w : World} {p bm : Nat} {L : List Int} (h : Cn w p bm L) : p < w.heap.size := (Array.getElem?_eq_some_iff.1 h.box).1
theorem Cn.ltb {w : World} {p bm : Nat} {L : List Int} (h : Cn w p bm L) : bm < w.heap.size := let ⟨_, hD, _⟩ := h.map; hD.lt
/-- What a call on a count leaves. -/
def StepC (w : World) (p bm : Nat) (L : List Int) (w' : World) : Prop := Cn w' p bm L ∧ Only (fun k => k = p ∨ k = bm) w w'
theorem Cn.step {w : World} {p bm : Nat} {L : List Int} (h : Cn w p bm L) : StepC w p bm L w := ⟨h, Only.refl _ _⟩

set_option maxHeartbeats 1000000 in
theorem newC_any (w : World) : Calls Try.prog 7 #[] w fun e w' =>
    e = .returned (.pointer (some ⟨w.heap.size + 1, 0, none⟩)) ∧ Cn w' (w.heap.size + 1) w.heap.size [] ∧ Below w.heap.size w w' := by
  have hmm := @run_makeMap Try.prog
  go_enter Try.func7, Try.ntmps7
  go_wp2
  go_ret
  refine ⟨rfl, ⟨new_block2 _ _ _, ⟨.map [], (World.ownsMap_made w _ _ _).alloc _, MapC.nil⟩, by omega, fun x hx => (by cases hx)⟩, ?_⟩
  exact ((Below.refl _ _).alloc (Nat.le_refl _) _).alloc (by simp) _
theorem eql_selfC (p : Nat) (w : World) : (binOp .eql 23 (.pointer (some ⟨p, 0, none⟩)) (.pointer (some ⟨p, 0, none⟩))).run Try.prog w = .ok (.bool true) w := by
  obtain ⟨i0, hi⟩ : ∃ i0, Try.prog.info? 41 = some i0 := Option.isSome_iff_exists.1 (by kernel_rfl)
  exact run_eql_ptr_same w _ Try.underlying23 hi
theorem madeC_yes (p bm : Nat) (L : List Int) (w : World) (h : Cn w p bm L) : Calls Try.prog 25 #[.pointer (some ⟨p, 0, none⟩)] w fun e w' => e = .returned (.bool true) ∧ w = w' := by
  obtain ⟨⟨c0, _⟩, _⟩ := boxC_cells h.box
  have he := eql_selfC p
  go_enter Try.func25, Try.ntmps25
  go_wp2
  go_ret
  exact ⟨rfl, rfl⟩
theorem madeC_nil (w : World) : Calls Try.prog 25 #[.pointer none] w fun e w' => e = .returned (.bool false) ∧ w = w' := by
  go_enter Try.func25, Try.ntmps25
  go_wp2
  go_ret
  exact ⟨rfl, rfl⟩
theorem madeC_zero (p : Nat) (w : World) (c0 : w.cell? ⟨p, 0, none⟩ = some (.pointer none)) : Calls Try.prog 25 #[.pointer (some ⟨p, 0, none⟩)] w fun e w' => e = .returned (.bool false) ∧ w = w' := by
  have he : ∀ w : World, (binOp .eql 23 (.pointer none) (.pointer (some ⟨p, 0, none⟩))).run Try.prog w = .ok (.bool false) w := fun w => by
    obtain ⟨i0, hi⟩ : ∃ i0, Try.prog.info? 41 = some i0 := Option.isSome_iff_exists.1 (by kernel_rfl)
    have h : ∀ d : Nat, (Op.equalIn (d + 1) 23 (.pointer none) (.pointer (some ⟨p, 0, none⟩))).run Try.prog w = .ok false w := fun d => by
      simp [Op.equalIn, run_underlying Try.underlying23, sizeOf, typeInfo]
    simp only [binOp]
    simp [Op.equal, Op.maxDepth, h 9999]
  go_enter Try.func25, Try.ntmps25
  go_wp2
  go_ret
  exact ⟨rfl, rfl⟩

theorem totalC_any (p bm : Nat) (L : List Int) (w : World) (h : Cn w p bm L) : Calls Try.prog 11 #[.pointer (some ⟨p, 0, none⟩)] w fun e w' => e = .returned (.int .i64 L.length) ∧ w = w' := by
  obtain ⟨⟨c0, c1, c2⟩, f2⟩ := boxC_cells h.box
  have hA := Hid.mk h
  clear h
  go_enter Try.func11, Try.ntmps11
  go_wp2_with (first
    | (go_at_call 25; refine (madeC_yes _ _ _ _ hA.out).mono ?_; rintro e w1 ⟨rfl, rfl⟩))
  go_ret
  exact ⟨rfl, rfl⟩
/-- What is looked up in a count's map. -/
theorem lookC {D : DataW Unit} {L : List Int} {x c : Int} (hM : MapC D L) (hat : D.atKey (keyI x) (.lit (.int .i64 0)) = .lit (.int .i64 c)) : c = cnt x L := by
  rw [hM.at_ x] at hat
  simpa using hat.symm
set_option maxHeartbeats 1000000 in
theorem ofC_any (p bm : Nat) (L : List Int) (x : Int) (w : World) (h : Cn w p bm L) (hx : In64 x) : Calls Try.prog 9 #[.pointer (some ⟨p, 0, none⟩), .int .i64 x] w fun e w' => e = .returned (.int .i64 (cnt x L)) ∧ w = w' := by
  obtain ⟨⟨c0, c1, c2⟩, f2⟩ := boxC_cells h.box
  have hA := Hid.mk h
  obtain ⟨D, hD, hM⟩ := h.map
  have hkey := key_int hx
  have HM := Hid.mk hM
  clear h hM
  go_enter Try.func9, Try.ntmps9
  go_wp2_with (first
    | (go_at_call 25; refine (madeC_yes _ _ _ _ hA.out).mono ?_; rintro e w1 ⟨rfl, rfl⟩)
    | (at_lookup; refine wpList_lookup_own_int _ rfl _ _ 39 rfl 3 3 .i64 keyedI Try.underlying39 Try.underlying3 (Try.zeroValue3 _) bm _ D rfl hD _ _ rfl hkey ?_; intro c hat hwc; obtain rfl := lookC HM.out hat; clear hat hwc))
  go_ret
  exact ⟨rfl, rfl⟩

end Go.Proofs.Ytgfelddgiabeoaa
