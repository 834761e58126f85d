/-
  The program's counts: Release, Drop; who has fixed.
-/
import Derived.Test.YtgfelddgiabeoaaFixC
import Derived.Test.YtgfelddgiabeoaaFixKeys
import Derived.Shelf.AbstractIn
namespace Go.Proofs.Ytgfelddgiabeoaa
open Go.RowKit Go.Deep Go.Maps Go.WideShapes Go.Sort Go.Shelf

/-- What Release answers: whether nobody has fixed any more; its error. -/
def relB (x : Int) (L : List Int) : Bool := if cnt x L = 0 then false else (((lessL x 1 L).length : Int) == 0)
def relE (x : Int) (L : List Int) : Nat := if cnt x L = 0 then 9 else 0
/-- .. and Drop. -/
def dropB (x : Int) (L : List Int) : Bool := if cnt x L = 0 then false else (((lessL x (cnt x L) L).length : Int) == 0)
theorem lessL_none {x : Int} (k : Nat) {L : List Int} (h : cnt x L = 0) : lessL x k L = L := by
  induction L with
  | nil => exact lessL_nil x k
  | cons y r ih =>
    have hy : ¬ y = x := fun e => by subst e; simp [cnt] at h
    have hr : cnt x r = 0 := by
      simp only [cnt, List.count_cons] at h
      unfold cnt
      omega
    rw [lessL_cons, if_neg (fun e => hy e.1), ih hr]

set_option maxRecDepth 100000 in
set_option maxHeartbeats 1000000 in
theorem relC_any (p bm : Nat) (L : List Int) (x : Int) (w : World) (h : Cn w p bm L) (hx : In64 x) (hL : L.length ≤ 1000) :
    Calls Try.prog 17 #[.pointer (some ⟨p, 0, none⟩), .int .i64 x] w fun e w' => e = .returned (.tuple #[.bool (relB x L), .int .i64 (relE x L)]) ∧ StepC w p bm (lessL x 1 L) w' := by
  obtain ⟨⟨c0, c1, c2⟩, f2⟩ := boxC_cells h.box
  have hA := Hid.mk h
  have hkey := key_int hx
  obtain ⟨D, hD, hM⟩ := h.map
  have HM := Hid.mk hM
  unfold relB relE
  by_cases h0 : cnt x L = 0
  · rw [if_pos h0, if_pos h0, lessL_none 1 h0]
    have H0 := Hid.mk h0
    clear h hx hL hM h0
    go_enter Try.func17, Try.ntmps17
    go_wp2_with (first
      | (go_at_call 25; refine (madeC_yes _ _ _ _ hA.out).mono ?_; rintro e w1 ⟨rfl, rfl⟩)
      | (at_lookup; refine wpList_lookup_own_int _ rfl _ _ 39 rfl 3 3 .i64 keyedI Try.underlying39 Try.underlying3 (Try.zeroValue3 _) bm _ D rfl hD _ _ rfl hkey ?_; intro c hat hwc; obtain rfl := (lookC HM.out hat).trans (congrArg Int.ofNat H0.out); clear hat hwc))
    go_ret2
    exact ⟨rfl, hA.out.step⟩
  · rw [if_neg h0, if_neg h0]
    obtain ⟨m, hm⟩ : ∃ m, cnt x L = m := ⟨_, rfl⟩
    have e0 : ((m : Int) == 0) = false := by simp; omega
    have e1 : ¬ (m : Int) = 0 := by omega
    have HH := Hid.mk (show cnt x L = m ∧ 1 ≤ m ∧ In64 x ∧ L.length ≤ 1000 from ⟨hm, by omega, hx, hL⟩)
    have hF := Hid.mk (freeC_any p bm L x 1 w h hx (Nat.le_refl _) (by omega) hL)
    clear h hx hL hM h0 hm
    go_enter Try.func17, Try.ntmps17
    go_wp2_with (first
      | (go_at_call 25; refine (madeC_yes _ _ _ _ hA.out).mono ?_; rintro e w1 ⟨rfl, rfl⟩)
      | (at_lookup; refine wpList_lookup_own_int _ rfl _ _ 39 rfl 3 3 .i64 keyedI Try.underlying39 Try.underlying3 (Try.zeroValue3 _) bm _ D rfl hD _ _ rfl hkey ?_; intro c hat hwc; obtain rfl := (lookC HM.out hat).trans (congrArg Int.ofNat HH.out.1); clear hat hwc; try rw [Int.ofNat_eq_natCast])
      | (go_at_call 28; refine hF.out.mono ?_; rintro e w2 ⟨rfl, hs⟩; have HS := Hid.mk hs; clear hs))
    go_ret2
    exact ⟨rfl, HS.out⟩

set_option maxRecDepth 100000 in
set_option maxHeartbeats 1000000 in
theorem dropC_any (p bm : Nat) (L : List Int) (x : Int) (w : World) (h : Cn w p bm L) (hx : In64 x) (hL : L.length ≤ 1000) :
    Calls Try.prog 18 #[.pointer (some ⟨p, 0, none⟩), .int .i64 x] w fun e w' => e = .returned (.tuple #[.int .i64 (cnt x L), .bool (dropB x L)]) ∧ StepC w p bm (lessL x (cnt x L) L) w' := by
  have hA := Hid.mk h
  have hO := ofC_any p bm L x w h hx
  unfold dropB
  by_cases h0 : cnt x L = 0
  · rw [if_pos h0, lessL_none _ h0, h0]
    rw [h0] at hO
    have HO := Hid.mk hO
    clear h hx hL h0 hO
    go_enter Try.func18, Try.ntmps18
    go_wp2_with (first
      | (go_at_call 9; refine HO.out.mono ?_; rintro e w1 ⟨rfl, rfl⟩))
    go_ret2
    exact ⟨rfl, hA.out.step⟩
  · rw [if_neg h0]
    obtain ⟨m, hm⟩ : ∃ m, cnt x L = m := ⟨_, rfl⟩
    have e0 : ((m : Int) == 0) = false := by simp; omega
    have e1 : ¬ (m : Int) = 0 := by omega
    have hF := freeC_any p bm L x m w h hx (by omega) (by omega) hL
    rw [hm] at hO ⊢
    have HF := Hid.mk hF
    have HO := Hid.mk hO
    clear h hx hL h0 hm hF hO
    go_enter Try.func18, Try.ntmps18
    go_wp2_with (first
      | (go_at_call 9; refine HO.out.mono ?_; rintro e w1 ⟨rfl, rfl⟩)
      | (go_at_call 28; refine HF.out.mono ?_; rintro e w2 ⟨rfl, hs⟩; have HS := Hid.mk hs; clear hs))
    go_ret2
    exact ⟨rfl, HS.out⟩

theorem sortsF (m : Nat) : AnyZI.SortsIn Try.prog sortedA_ren Fence.wide m :=
  ⟨fun blk off cap ss W hH hblk hsz => callsIn_wide.2 (AnyM.slices_Sort_int sortA blk off cap ss W hH hblk hsz),
   fun p cap W => callsIn_wide.2 (AnyM.slices_Sort_int_none sortA p cap W)⟩
set_option maxHeartbeats 2000000 in
set_option maxRecDepth 100000 in
theorem holdC_any (p bm : Nat) (L : List Int) (w : World) (h : Cn w p bm L) (hL : L.length ≤ 1000) :
    Calls Try.prog 12 #[.pointer (some ⟨p, 0, none⟩)] w fun e w' => ∃ v, e = .returned v ∧ Nums w' v (hold L) ∧ (∀ g, v.ownBlock = some g → w.heap.size ≤ g) ∧ Below w.heap.size w w' := by
  obtain ⟨⟨c0, c1, c2⟩, f2⟩ := boxC_cells h.box
  obtain ⟨D, hD, hM⟩ := h.map
  have hA := Hid.mk h
  have hks := hM.keys hD
  have hsz := hM.size hD
  refine (callsIn_wide (n := 6)).1 ?_
  have hbl := hD.lt
  have hseq : SeqGives Fence.wide 2 Try.prog 32 #[.pointer (some ⟨w.heap.size, 0, none⟩)] encZ (fun ss => ss.Perm (intKeys D)) (Maps.size D) (w.alloc (.cells #[.map (some bm)] 39)) :=
    AnyZI.keys_gives (ρ := keysA_ren) { keysA with } Fence.wide _ trivial rfl (by omega) w.heap.size bm L.length D _ (by simp) (by simp) (hD.alloc _)
  have cM : CallsIn Fence.wide 5 Try.prog 25 #[.pointer (some ⟨p, 0, none⟩)] w fun e w' => e = .returned (.bool true) ∧ w = w' := callsIn_wide.2 (madeC_yes p bm L w hA.out)
  have cK : ∀ mb W, CallsIn Fence.wide 5 Try.prog 27 #[.map mb] W fun e w' => e = .returned (.func (.func 32) #[] #[.pointer (some ⟨W.heap.size, 0, none⟩)]) ∧ w' = W.alloc (.cells #[.map mb] 39) := fun mb W => AnyZI.keys_in keysA Fence.wide 5 trivial rfl mb W
  have cS := AnyZI.sorted_in sortedA Fence.wide 5 trivial trivial trivial trivial rfl (by omega) (sortsF _) (enters_of Try.func31 (by kernel_rfl) rfl) 32 #[.pointer (some ⟨w.heap.size, 0, none⟩)] trivial (enters_of Try.func32 (by kernel_rfl) rfl) _ _ (by unfold maxLen; omega) (by omega) _ hseq
  change CallsIn _ _ Try.prog 26 _ _ _ at cS
  have hfM : Fence.wide.fn 25 := trivial
  have hfK : Fence.wide.fn 27 := trivial
  have hfS : Fence.wide.fn 26 := trivial
  have HK := Hid.mk hks
  clear hks hseq hsz hM hD h hL hbl
  refine callsIn_of_wp Try.func12 rfl trivial ?_ rfl
  simp only [Try.ntmps12, List.size_toArray, List.length_cons, List.length_nil, Nat.reduceAdd, Nat.reduceSub, Array.replicate_succ, Array.replicate_zero, List.push_toArray, List.append_toArray, List.nil_append, List.cons_append]
  gi_wp2_with (first
    | (gi_at_call 25; refine cM.mono ?_; rintro e w' ⟨rfl, rfl⟩)
    | (gi_at_call 27; refine (cK _ _).mono ?_; rintro e w' ⟨rfl, rfl⟩)
    | (gi_at_call 26; refine cS.mono ?_; rintro e w' ⟨v, ss, rfl, hS, hrow, hnil, hb⟩))
  go_ret
  have hss := hold_sorted (hS.trans HK.out.symm)
  have hln : ss.length = (hold L).length := by rw [← hss]; simp
  have hb0 : Below w.heap.size w w' := ((Below.refl _ w).alloc (Nat.le_refl _) _).trans (hb.mono (by simp))
  refine ⟨v, rfl, ?_, fun g hg => ?_, hb0⟩
  · have h0 := ownsRow_base_a hrow (Nat.zero_le _)
    rw [hss, hln] at h0
    exact h0
  · have := (hrow.lt g hg).1
    simp at this
    omega

end Go.Proofs.Ytgfelddgiabeoaa
