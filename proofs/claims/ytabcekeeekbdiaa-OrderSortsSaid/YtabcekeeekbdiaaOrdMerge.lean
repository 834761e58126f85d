/-
  What a symmetric merge does, as plain mathematics.
-/
import Derived.Test.YtabcekeeekbdiaaOrdMath
namespace Go.Proofs.Ytabcekeeekbdiaa
open Go.RowKit Go.Deep

theorem sortT_mem {l : List Tm} {x : Tm} : x ∈ sortT l ↔ x ∈ l := (sortT_perm l).mem_iff
theorem sortT_id {l : List Tm} (h : Sorted l) : sortT l = l := (sortT_only l l h (fun _ => rfl)).symm
theorem sortT_snoc (l : List Tm) (t : Tm) : sortT (l ++ [t]) = insT (sortT l) t := by
  unfold sortT
  rw [List.foldl_append]
  rfl
theorem alikes_append (u : Tm) (a b : List Tm) : alikes u (a ++ b) = alikes u a ++ alikes u b := List.filter_append ..
theorem sortT_sortT (a b : List Tm) : sortT (sortT a ++ b) = sortT (a ++ b) := by
  refine sortT_only _ _ (sortT_sorted _) fun u => ?_
  rw [sortT_alikes, alikes_append, alikes_append, sortT_alikes]

/-- Two stretches that are sorted, each parted in two: those behind in the first are behind those ahead in the second, those ahead in the first not behind those behind in the second: the middle ones are exchanged, and each half is sorted by itself. -/
theorem merge_parts (X1 X2 Y1 Y2 : List Tm) (hX : Sorted (X1 ++ X2)) (hY : Sorted (Y1 ++ Y2)) (hlt : ∀ x ∈ X2, ∀ y ∈ Y1, y.cmp x < 0) (hle : ∀ x ∈ X1, ∀ y ∈ Y2, x.cmp y ≤ 0) :
    sortT (X1 ++ X2 ++ (Y1 ++ Y2)) = sortT (X1 ++ Y1) ++ sortT (X2 ++ Y2) := by
  refine (sortT_only _ _ ?_ fun u => ?_).symm
  · unfold Sorted at hX hY ⊢
    rw [List.pairwise_append] at hX hY ⊢
    refine ⟨sortT_sorted _, sortT_sorted _, fun a ha b hb => ?_⟩
    rw [sortT_mem, List.mem_append] at ha hb
    rcases ha with ha | ha <;> rcases hb with hb | hb
    · exact hX.2.2 a ha b hb
    · exact hle a ha b hb
    · have := hlt b hb a ha; omega
    · exact hY.2.2 a ha b hb
  · rw [alikes_append, sortT_alikes, sortT_alikes]
    simp only [alikes_append]
    have hmid : alikes u Y1 ++ alikes u X2 = alikes u X2 ++ alikes u Y1 := by
      by_cases h1 : alikes u X2 = []
      · rw [h1, List.nil_append, List.append_nil]
      · have h2 : alikes u Y1 = [] := by
          unfold alikes
          rw [List.filter_eq_nil_iff]
          intro y hy hyu
          obtain ⟨x, r, hx⟩ := List.exists_cons_of_ne_nil h1
          have hm : x ∈ alikes u X2 := by rw [hx]; exact List.mem_cons_self
          have hxx := List.mem_filter.1 hm
          have := alike_trans (a := y) (b := x) (u := u) (by simpa using hyu) (by simpa using hxx.2)
          have := hlt x hxx.1 y hy
          omega
        rw [h2, List.nil_append, List.append_nil]
    rw [List.append_assoc, ← List.append_assoc (alikes u Y1), hmid]
    simp only [List.append_assoc]

/-- One term ahead of a sorted stretch: it goes behind those that are ahead of it. -/
theorem merge_one_left (x : Tm) (Y1 Y2 : List Tm) (hY : Sorted (Y1 ++ Y2)) (hlt : ∀ y ∈ Y1, y.cmp x < 0) (hle : ∀ y ∈ Y2, ¬ y.cmp x < 0) : sortT (x :: (Y1 ++ Y2)) = Y1 ++ x :: Y2 := by
  have h := merge_parts [] [x] Y1 Y2 (List.pairwise_singleton _ _) hY (fun a ha y hy => by rw [List.mem_singleton.1 ha]; exact hlt y hy) (fun a ha => by cases ha)
  simp only [List.nil_append, List.singleton_append] at h
  unfold Sorted at hY
  rw [List.pairwise_append] at hY
  rw [h, sortT_id hY.1, sortT_id (List.pairwise_cons.2 ⟨fun y hy => by have := hle y hy; have := cmp_neg x y; omega, hY.2.1⟩)]
/-- One term behind a sorted stretch: it goes ahead of those that are behind it. -/
theorem merge_one_right (X1 X2 : List Tm) (y : Tm) (hX : Sorted (X1 ++ X2)) (hle : ∀ x ∈ X1, ¬ y.cmp x < 0) (hlt : ∀ x ∈ X2, y.cmp x < 0) : sortT (X1 ++ X2 ++ [y]) = X1 ++ y :: X2 := by
  have h := merge_parts X1 X2 [y] [] hX (List.pairwise_singleton _ _) (fun x hx b hb => by rw [List.mem_singleton.1 hb]; exact hlt x hx) (fun x _ b hb => by cases hb)
  simp only [List.append_nil] at h
  unfold Sorted at hX
  rw [List.pairwise_append] at hX
  have h1 : Sorted (X1 ++ [y]) := by
    unfold Sorted
    rw [List.pairwise_append]
    exact ⟨hX.1, List.pairwise_singleton _ _, fun a ha b hb => by rw [List.mem_singleton.1 hb]; have := hle a ha; have := cmp_neg a y; omega⟩
  rw [h, sortT_id h1, sortT_id hX.2.1, List.append_assoc]
  rfl

end Go.Proofs.Ytabcekeeekbdiaa
