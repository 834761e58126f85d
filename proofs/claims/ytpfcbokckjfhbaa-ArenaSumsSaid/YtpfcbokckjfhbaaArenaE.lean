/-
  The program's arenas: the numbers of all blocks.
-/
import Derived.Test.YtpfcbokckjfhbaaArenaD
import Derived.Test.YtpfcbokckjfhbaaKitKeys
import Derived.Test.YtpfcbokckjfhbaaKitInts
import Derived.Shelf.AbstractIn
namespace Go.Proofs.Ytpfcbokckjfhbaa
open Go.RowKit Go.Deep Go.Maps Go.WideShapes Go.Sort Go.Shelf

theorem sortsA (m : Nat) : AnyZI.SortsIn Try.prog sortedA_ren Fence.wide m :=
  ⟨fun blk off cap ss W hH hblk hsz => callsIn_wide.2 (AnyM.slices_Sort_int sortA blk off cap ss W hH hblk hsz),
   fun p cap W => callsIn_wide.2 (AnyM.slices_Sort_int_none sortA p cap W)⟩
theorem numsB_sorted (B : Blks) {ss : List Int} (h : ss.Perm (numsB 0 B)) : ss.mergeSort (fun x y => decide (x ≤ y)) = numsB 0 B := by
  rw [mergeSort_of_perm_i h]
  refine List.mergeSort_of_pairwise ?_
  exact (numsB_rise B 0).imp (fun h => by simp; omega)

set_option maxHeartbeats 2000000 in
set_option maxRecDepth 100000 in
theorem blocks_any (p bm W : Nat) (S : Nat → Prop) (B : Blks) (w : World) (h : Ar w p bm S W B) (hB : B.length ≤ 1000) :
    Calls Try.prog 21 #[.pointer (some ⟨p, 0, none⟩)] w fun e w' => ∃ v, e = .returned v ∧ Nums w' v (numsB 0 B) ∧ (∀ g, v.ownBlock = some g → w.heap.size ≤ g) ∧ Below w.heap.size w w' := by
  obtain ⟨⟨c0, c1, c2, c3, c4⟩, f3, f4⟩ := boxA_cells h.box
  obtain ⟨D, hD, hM⟩ := h.map
  have hA := Hid.mk h
  have hks := hM.keys hD
  have hsz := hM.size hD
  refine (callsIn_wide (n := 6)).1 ?_
  have hbl := hD.lt
  have hseq : SeqGives Fence.wide 2 Try.prog 48 #[.pointer (some ⟨w.heap.size, 0, none⟩)] encZ (fun ss => ss.Perm (intKeys D)) (Maps.size D) (w.alloc (.cells #[.map (some bm)] 38)) :=
    AnyZI.keys_gives (ρ := keysA_ren) { keysA with } Fence.wide _ trivial rfl (by omega) w.heap.size bm B.length D _ (by simp) (by simp) (hD.alloc _)
  have cM : CallsIn Fence.wide 5 Try.prog 36 #[.pointer (some ⟨p, 0, none⟩)] w fun e w' => e = .returned (.bool true) ∧ w = w' := callsIn_wide.2 (madeA_yes p bm W S B w hA.out)
  have cK : ∀ mb W, CallsIn Fence.wide 5 Try.prog 40 #[.map mb] W fun e w' => e = .returned (.func (.func 48) #[] #[.pointer (some ⟨W.heap.size, 0, none⟩)]) ∧ w' = W.alloc (.cells #[.map mb] 38) := fun mb W => AnyZI.keys_in keysA Fence.wide 5 trivial rfl mb W
  have cS := AnyZI.sorted_in sortedA Fence.wide 5 trivial trivial trivial trivial rfl (by omega) (sortsA _) (enters_of Try.func47 (by kernel_rfl) rfl) 48 #[.pointer (some ⟨w.heap.size, 0, none⟩)] trivial (enters_of Try.func48 (by kernel_rfl) rfl) _ _ (by unfold maxLen; omega) (by omega) _ hseq
  change CallsIn _ _ Try.prog 39 _ _ _ at cS
  have hfM : Fence.wide.fn 36 := trivial
  have hfK : Fence.wide.fn 40 := trivial
  have hfS : Fence.wide.fn 39 := trivial
  have HK := Hid.mk hks
  clear hks hseq hsz hM hD h hB hbl
  refine callsIn_of_wp Try.func21 rfl trivial ?_ rfl
  simp only [Try.ntmps21, List.size_toArray, List.length_cons, List.length_nil, Nat.reduceAdd, Nat.reduceSub, Array.replicate_succ, Array.replicate_zero, List.push_toArray, List.append_toArray, List.nil_append, List.cons_append]
  gi_wp2_with (first
    | (gi_at_call 36; refine cM.mono ?_; rintro e w' ⟨rfl, rfl⟩)
    | (gi_at_call 40; refine (cK _ _).mono ?_; rintro e w' ⟨rfl, rfl⟩)
    | (gi_at_call 39; refine cS.mono ?_; rintro e w' ⟨v, ss, rfl, hS, hrow, hnil, hb⟩))
  go_ret
  have hss := numsB_sorted B (hS.trans HK.out.symm)
  have hln : ss.length = (numsB 0 B).length := by rw [← hss]; simp
  have hb0 : Below w.heap.size w w' := ((Below.refl _ w).alloc (Nat.le_refl _) _).trans (hb.mono (by simp))
  refine ⟨v, rfl, ?_, fun g hg => ?_, hb0⟩
  · have h0 := ownsRow_base_a hrow (Nat.zero_le _)
    rw [hss, hln] at h0
    exact h0
  · have := (hrow.lt g hg).1
    simp at this
    omega

end Go.Proofs.Ytpfcbokckjfhbaa
