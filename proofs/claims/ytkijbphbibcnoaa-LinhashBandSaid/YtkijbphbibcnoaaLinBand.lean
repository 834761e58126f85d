/-
  The band about the items, as plain lists: whoever splits and joins as it is wanted stays in it, with two steps at most.
-/
import Derived.Test.YtkijbphbibcnoaaLinOk
import Derived.Test.YtkijbphbibcnoaaLinKn
namespace Go.Proofs.Ytkijbphbibcnoaa
open Go.RowKit Go.Deep Go.Maps Go.WideShapes

/-- One step, as it is wanted. -/
def stepB (least : Nat) (B : Bks) : Bks := if wantsB least B = 1 then splitB B else if wantsB least B = -1 then joinB B else B
theorem wants_cases (least : Nat) (B : Bks) : (wantsB least B = 1 ∧ 2 * B.length < szB B) ∨ (wantsB least B = -1 ∧ least < B.length ∧ 2 * szB B < B.length) ∨ (wantsB least B = 0 ∧ (B.length < 1048576 → szB B ≤ 2 * B.length) ∧ (least < B.length → B.length ≤ 2 * szB B)) := by
  unfold wantsB
  by_cases h1 : 2 * B.length < szB B ∧ B.length < 1048576
  · rw [if_pos h1]; exact Or.inl ⟨rfl, h1.1⟩
  · rw [if_neg h1]
    by_cases h2 : least < B.length ∧ 2 * szB B < B.length
    · rw [if_pos h2]; exact Or.inr (Or.inl ⟨rfl, h2⟩)
    · rw [if_neg h2]
      exact Or.inr (Or.inr ⟨rfl, by omega, by omega⟩)
theorem stepB_one {least : Nat} {B : Bks} (h : wantsB least B = 1) : stepB least B = splitB B := if_pos h
theorem stepB_neg {least : Nat} {B : Bks} (h : wantsB least B = -1) : stepB least B = joinB B := by unfold stepB; rw [if_neg (by rw [h]; decide), if_pos h]
theorem stepB_zero {least : Nat} {B : Bks} (h : wantsB least B = 0) : stepB least B = B := by unfold stepB; rw [if_neg (by rw [h]; decide), if_neg (by rw [h]; decide)]
theorem stepB_fine {least : Nat} {B : Bks} (hf : Fine B) (hl : 1 ≤ least) (hb : B.length < 100000) : Fine (stepB least B) ∧ szB (stepB least B) = szB B ∧ (∀ h, chainB (stepB least B) h = chainB B h) ∧ (stepB least B).length ≤ B.length + 1 ∧ (least ≤ B.length → least ≤ (stepB least B).length) := by
  rcases wants_cases least B with ⟨h, _⟩ | ⟨h, h1, h2⟩ | ⟨h, _⟩
  · rw [stepB_one h]
    exact ⟨hf.split hb, szB_split B, chain_split hf.placed, by rw [splitB_len]; omega, fun e => by rw [splitB_len]; omega⟩
  · rw [stepB_neg h]
    exact ⟨hf.join (by omega), szB_join (by omega), chain_join hf.placed (by omega), by rw [joinB_len]; omega, fun _ => by rw [joinB_len]; omega⟩
  · rw [stepB_zero h]
    exact ⟨hf, rfl, fun _ => rfl, by omega, id⟩
/-- Two steps are enough. -/
theorem settle {least : Nat} {B : Bks} (hl : 1 ≤ least) (hb : B.length < 1000) (h1 : szB B ≤ 2 * B.length + 1) (h2 : least < B.length → B.length ≤ 2 * szB B + 2) (h3 : least ≤ B.length) : wantsB least (stepB least (stepB least B)) = 0 := by
  have key : ∀ C : Bks, C.length < 1048576 → szB C ≤ 2 * C.length → (least < C.length → C.length ≤ 2 * szB C) → wantsB least C = 0 := fun C hc h1 h2 => by
    unfold wantsB
    rw [if_neg (by omega), if_neg (by omega)]
  rcases wants_cases least B with ⟨h, hs⟩ | ⟨h, g1, g2⟩ | ⟨h, _⟩
  · rw [stepB_one h]
    have e : wantsB least (splitB B) = 0 := key _ (by rw [splitB_len]; omega) (by rw [splitB_len, szB_split]; omega) (fun _ => by rw [splitB_len, szB_split]; omega)
    rw [stepB_zero e, e]
  · rw [stepB_neg h]
    have ej : szB (joinB B) = szB B := szB_join (by omega)
    have el : (joinB B).length = B.length - 1 := joinB_len B
    rcases wants_cases least (joinB B) with ⟨h', hs⟩ | ⟨h', g3, g4⟩ | ⟨h', _⟩
    · omega
    · rw [stepB_neg h']
      have ej2 : szB (joinB (joinB B)) = szB (joinB B) := szB_join (by omega)
      exact key _ (by rw [joinB_len]; omega) (by rw [joinB_len, ej2]; omega) (fun _ => by rw [joinB_len, ej2]; omega)
    · rw [stepB_zero h', h']
  · rw [stepB_zero h, stepB_zero h, h]

/-- Where a law stands behind i steps: its buckets, all items that are there. -/
structure Bnd (least i : Nat) (B : Bks) (all : List It) : Prop where
  fine : Fine B
  least1 : 1 ≤ least
  least20 : least ≤ 20
  few : i ≤ 200
  min_ : least ≤ B.length
  calm : wantsB least B = 0
  chains : ∀ h, chainB B h = all.filter (isH h)
  size : szB B = all.length
  len : all.length ≤ i
  ids : all.Pairwise fun a b => a.2 < b.2
  lt : ∀ x ∈ all, x.2 < i ∧ x.1 < 4294967296
theorem Bnd.short {least i : Nat} {B : Bks} {all : List It} (h : Bnd least i B all) : B.length ≤ 420 := by
  have h1 := h.size
  have h2 := h.len
  have h3 := h.few
  have h4 := h.least20
  rcases wants_cases least B with ⟨e, _⟩ | ⟨e, _⟩ | ⟨e, _, hb⟩
  · rw [h.calm] at e; cases e
  · rw [h.calm] at e; cases e
  · by_cases hl : least < B.length
    · have := hb hl; omega
    · omega
theorem Bnd.band {least i : Nat} {B : Bks} {all : List It} (h : Bnd least i B all) : szB B ≤ 2 * B.length ∧ (least < B.length → B.length ≤ 2 * szB B) := by
  have := h.short
  rcases wants_cases least B with ⟨e, _⟩ | ⟨e, _⟩ | ⟨e, ha, hb⟩
  · rw [h.calm] at e; cases e
  · rw [h.calm] at e; cases e
  · exact ⟨ha (by omega), hb⟩
theorem Bnd.start {least : Nat} (h1 : 1 ≤ least) (h2 : least ≤ 20) : Bnd least 0 (List.replicate least []) [] :=
  ⟨fine_new h1 (by omega), h1, h2, by omega, by simp, by
    unfold wantsB
    simp [szB], fun h => by
    unfold chainB rowB
    rw [List.getElem?_replicate]
    split <;> simp, by simp [szB], Nat.le_refl _, List.Pairwise.nil, fun x hx => by cases hx⟩
/-- Both steps behind what has been done. -/
theorem Bnd.settle {least i : Nat} {B C : Bks} {all al : List It} (h : Bnd least i B all) (hi : i < 200) (hC : Fine C) (hl : C.length = B.length) (hs : szB C = al.length) (hch : ∀ h, chainB C h = al.filter (isH h)) (ha : al.length = all.length + 1 ∨ al.length + 1 = all.length) (hids : al.Pairwise fun a b => a.2 < b.2) (hlt : ∀ x ∈ al, x.2 < (i + 1 : Nat) ∧ x.1 < 4294967296) (hln : al.length ≤ i + 1) :
    Bnd least (i + 1) (stepB least (stepB least C)) al := by
  have hsh := h.short
  obtain ⟨hb1, hb2⟩ := h.band
  have hsz := h.size
  obtain ⟨f1, s1, c1, l1, m1⟩ := stepB_fine hC h.least1 (by omega)
  obtain ⟨f2, s2, c2, l2, m2⟩ := stepB_fine f1 h.least1 (by omega)
  have hm := h.min_
  exact ⟨f2, h.least1, h.least20, by omega, m2 (m1 (by omega)), _root_.Go.Proofs.Ytkijbphbibcnoaa.settle h.least1 (by omega) (by omega) (fun e => by have := hb2 (by omega); omega) (by omega), fun x => by rw [c2, c1, hch], by rw [s2, s1, hs], hln, hids, hlt⟩
theorem Bnd.add {least i : Nat} {B : Bks} {all : List It} (h : Bnd least i B all) (hi : i < 200) {x : Nat} (hx : x < 4294967296) : Bnd least (i + 1) (stepB least (stepB least (addB B x (i : Int)))) (all ++ [(x, (i : Int))]) := by
  have hsz := h.size
  have hln := h.len
  refine h.settle hi (h.fine.add hx _ (by omega)) (addB_len _ _ _) (by rw [szB_add h.fine.placed.some_]; simp [hsz]) (fun y => ?_) (Or.inl (by simp)) ?_ (fun y hy => ?_) (by simp; omega)
  · rw [chain_add h.fine.placed, h.chains, List.filter_append]
    congr 1
    by_cases e : x = y
    · rw [if_pos e]; simp [isH, e]
    · rw [if_neg e]; simp [isH, e]
  · rw [List.pairwise_append]
    refine ⟨h.ids, List.pairwise_singleton _ _, fun a ha b hb => ?_⟩
    rw [List.mem_singleton.1 hb]
    exact (h.lt a ha).1
  · rcases List.mem_append.1 hy with hy | hy
    · have := h.lt y hy
      exact ⟨by omega, this.2⟩
    · rw [List.mem_singleton.1 hy]
      exact ⟨by simp; omega, hx⟩
theorem Bnd.has {least i k : Nat} {B : Bks} {all : List It} (h : Bnd least i B all) (hk : k < all.length) : hasB B all[k].1 all[k].2 = true := by
  refine has_chain ?_
  rw [h.chains]
  exact List.mem_filter.2 ⟨List.getElem_mem hk, by simp [isH]⟩
theorem Bnd.remove {least i k : Nat} {B : Bks} {all : List It} (h : Bnd least i B all) (hi : i < 200) (hk : k < all.length) : Bnd least (i + 1) (stepB least (stepB least (removeB B all[k].1 all[k].2))) (all.take k ++ all.drop (k + 1)) := by
  have hsz := h.size
  have hln := h.len
  have her : all.erase all[k] = all.take k ++ all.drop (k + 1) := erase_at hk rfl fun j hj h2 e => by
    have := (List.pairwise_iff_getElem.1 h.ids) j k h2 hk hj
    rw [e] at this
    omega
  rw [← her]
  have hmem := List.getElem_mem hk
  have hle := List.length_erase_of_mem hmem
  have hsr := szB_remove h.fine.placed.some_ (h.has hk)
  refine h.settle hi (h.fine.remove _ _) (removeB_len _ _ _) (by omega) (fun y => ?_) (Or.inr (by omega)) (h.ids.sublist List.erase_sublist) (fun y hy => ?_) (by omega)
  · rw [chain_remove h.fine.placed, filter_erase, h.chains]
    by_cases e : all[k].1 = y
    · rw [if_pos e, if_pos (by simp [isH, e])]
    · rw [if_neg e, if_neg (by simp [isH, e])]
  · have := h.lt y (List.mem_of_mem_erase hy)
    exact ⟨by omega, this.2⟩
end Go.Proofs.Ytkijbphbibcnoaa
