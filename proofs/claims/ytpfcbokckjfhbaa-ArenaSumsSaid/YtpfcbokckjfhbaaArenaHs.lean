/-
  Rows of blocks held: one taken out, one changed, one more.
-/
import Derived.Test.YtpfcbokckjfhbaaArenaH
import Derived.Test.YtpfcbokckjfhbaaKitPick
namespace Go.Proofs.Ytpfcbokckjfhbaa
open Go.RowKit Go.Deep Go.Maps Go.WideShapes

theorem heldInfo : (Try.prog.info? 62).map (fun i => (i.zero, i.size, i.bytes)) = some (some (.agg #[.int .i64 0, .slice none 0 0]), 2, 32) := by kernel_rfl
/-- Some held ones appended to a row of the call's own. -/
theorem held_append (w : World) (ty : TypeId) (v : Value) (n : Nat) (xs : List Value) (h : w.ownsRow 0 62 2 v n xs) (ad : Addr) (m c : Nat) (ys : List Value) (hy : ys.length = m * 2) (hc : ∀ j u, ys[j]? = some u → w.cell? (ad.add j) = some u) (h1 : ∀ u ∈ ys, u.oneCell' = true) (hn : n + m ≤ 1000) :
    ∃ v' w', (Builtin.append_ #[56, 56] ty #[v, .slice (some ad) m c]).run Try.prog w = .ok v' w' ∧ w'.ownsRow 0 62 2 v' (n + m) (xs ++ ys) ∧ w.grownBy w' v.ownBlock ∧ (v'.ownBlock = v.ownBlock ∨ v'.ownBlock = some w.heap.size) := by
  have hi := heldInfo
  cases hq : Try.prog.info? 62 with
  | none => rw [hq] at hi; cases hi
  | some i =>
    rw [hq] at hi
    simp only [Option.map_some, Option.some.injEq, Prod.mk.injEq] at hi
    obtain ⟨hz, hs, hb⟩ := hi
    obtain ⟨v', w', hr, ho, hg, _, ha⟩ := run_append_own_at (P := Try.prog) w 0 56 ty 62 i _ 2 32 Try.underlying56 hq hz hs hb rfl (by decide) v n _ h ad m c ys hy hc h1 (by unfold maxLen; omega) (by omega) (Nat.zero_le _)
    exact ⟨v', w', hr, ho, hg, ha⟩
theorem one_cells {w : World} {v : Value} {S : Nat → Prop} {H : List (Int × List Int)} {xs : List Value} (hl : xs.length = H.length * 2) (h2 : ∀ i (h : i < H.length), xs[i * 2]? = some (.int .i64 H[i].1))
    (h3 : ∀ i (h : i < H.length), ∃ lv, xs[i * 2 + 1]? = some lv ∧ Wds w lv H[i].2 ∧ ∀ g, lv.ownBlock = some g → S g ∧ v.ownBlock ≠ some g) : ∀ u ∈ xs, u.oneCell' = true := fun u hu => by
  obtain ⟨j, hj, rfl⟩ := List.getElem_of_mem hu
  obtain ⟨i, e | e⟩ : ∃ i, j = i * 2 ∨ j = i * 2 + 1 := ⟨j / 2, by omega⟩
  · have := h2 i (by omega)
    subst e
    rw [List.getElem?_eq_getElem hj] at this
    have e' := Option.some.inj this
    show (xs[i * 2]'hj).oneCell' = true
    rw [e']
    rfl
  · obtain ⟨lv, k1, k2, _⟩ := h3 i (by omega)
    subst e
    rw [List.getElem?_eq_getElem hj] at k1
    have e' := Option.some.inj k1
    show (xs[i * 2 + 1]'hj).oneCell' = true
    rw [e']
    obtain ⟨a, c, e⟩ := owns_slice k2
    rw [e]
    rfl
/-- The empty row that []held{} is. -/
theorem held_empty (w : World) : (w.alloc (.cells #[] 62)).ownsRow 0 62 2 (.slice (some ⟨w.heap.size, 0, none⟩) 0 0) 0 [] :=
  ⟨rfl, Or.inr ⟨w.heap.size, 0, #[], rfl, Nat.zero_le _, new_block _ _, Nat.le_refl _, by rw [maxLen]; omega, rfl, rfl⟩⟩
/-- A new row of what was held, but one. -/
theorem Hd.erase {w w' : World} {v v' : Value} {S : Nat → Prop} {H : List (Int × List Int)} {xs : List Value} {i : Nat} (_ : Hd w v S H) (hS : ∀ k, S k → k < w.heap.size) (hi : i < H.length)
    (h2 : ∀ i (h : i < H.length), xs[i * 2]? = some (.int .i64 H[i].1)) (h3 : ∀ i (h : i < H.length), ∃ lv, xs[i * 2 + 1]? = some lv ∧ Wds w lv H[i].2 ∧ ∀ g, lv.ownBlock = some g → S g ∧ v.ownBlock ≠ some g) (hxl : xs.length = H.length * 2)
    (hrow : w'.ownsRow 0 62 2 v' (i + (H.length - (i + 1))) (xs.take (i * 2) ++ xs.drop ((i + 1) * 2))) (hnew : ∀ g, v'.ownBlock = some g → w.heap.size ≤ g) (ho : Kf S w w') (hlt : ∀ g, v'.ownBlock = some g → g < w'.heap.size) : Hd w' v' (fun k => S k ∨ v'.ownBlock = some k) (H.eraseIdx i) := by
  have hl : (H.eraseIdx i).length = i + (H.length - (i + 1)) := by rw [List.length_eraseIdx, if_pos hi]; omega
  have key : ∀ j, j < i + (H.length - (i + 1)) → ∀ r, r < 2 → (xs.take (i * 2) ++ xs.drop ((i + 1) * 2))[j * 2 + r]? = xs[(if j < i then j else j + 1) * 2 + r]? := fun j hj r hr => by
    by_cases e : j < i
    · rw [if_pos e, List.getElem?_append_left (by rw [List.length_take]; omega), List.getElem?_take, if_pos (by omega)]
    · rw [if_neg e, List.getElem?_append_right (by rw [List.length_take]; omega), List.getElem?_drop, List.length_take]
      congr 1
      omega
  have hat : ∀ j (hj : j < (H.eraseIdx i).length), ∃ hh : (if j < i then j else j + 1) < H.length, (H.eraseIdx i)[j] = H[if j < i then j else j + 1]'hh := fun j hj => by
    rw [hl] at hj
    refine ⟨by split <;> omega, ?_⟩
    rw [List.getElem_eraseIdx]
    split <;> rfl
  refine ⟨⟨_, by rw [hl]; exact hrow, fun j hj => ?_, fun j hj => ?_⟩, fun g hg => Or.inr hg, fun k hk => ?_⟩
  · obtain ⟨hh, e⟩ := hat j hj
    rw [hl] at hj
    have := key j hj 0 (by omega)
    simp only [Nat.add_zero] at this
    rw [this, h2 _ hh, e]
  · obtain ⟨hh, e⟩ := hat j hj
    rw [hl] at hj
    obtain ⟨lv, k1, k2, k3⟩ := h3 _ hh
    refine ⟨lv, by rw [key j hj 1 (by omega)]; exact k1, by rw [e]; exact ho.wds k2 (fun g hg => (k3 g hg).1), fun g hg => ⟨Or.inl (k3 g hg).1, fun e' => ?_⟩⟩
    have := hnew g e'
    have := hS g (k3 g hg).1
    omega
  · rcases hk with hk | hk
    · exact Nat.lt_of_lt_of_le (hS k hk) ho.size
    · exact hlt k hk
/-- A new row of what was held, one of them changed. -/
theorem Hd.change {w w' : World} {v v' lv' : Value} {S : Nat → Prop} {H : List (Int × List Int)} {xs : List Value} {i : Nat} {l' : List Int} (_ : Hd w v S H) (hS : ∀ k, S k → k < w.heap.size) (hi : i < H.length)
    (h2 : ∀ i (h : i < H.length), xs[i * 2]? = some (.int .i64 H[i].1)) (h3 : ∀ i (h : i < H.length), ∃ lv, xs[i * 2 + 1]? = some lv ∧ Wds w lv H[i].2 ∧ ∀ g, lv.ownBlock = some g → S g ∧ v.ownBlock ≠ some g)
    (hrow : w'.ownsRow 0 62 2 v' H.length (xs.set (i * 2 + 1) lv')) (hnew : ∀ g, v'.ownBlock = some g → w.heap.size ≤ g ∧ lv'.ownBlock ≠ some g) (hlv : Wds w' lv' l') (hln : ∀ g, lv'.ownBlock = some g → ¬ S g) (ho : Kf S w w') (hxl : xs.length = H.length * 2) (hlt : ∀ g, v'.ownBlock = some g → g < w'.heap.size) :
    Hd w' v' (fun k => S k ∨ v'.ownBlock = some k ∨ lv'.ownBlock = some k) (H.set i (H[i].1, l')) := by
  refine ⟨⟨_, by rw [List.length_set]; exact hrow, fun j hj => ?_, fun j hj => ?_⟩, fun g hg => Or.inr (Or.inl hg), fun k hk => ?_⟩
  · rw [List.length_set] at hj
    rw [List.getElem?_set_ne (by omega), h2 j hj]
    by_cases e : i = j
    · subst e; rw [List.getElem_set_self]
    · rw [List.getElem_set_ne e]
  · rw [List.length_set] at hj
    by_cases e : i = j
    · subst e
      refine ⟨lv', by rw [List.getElem?_set_self (by omega)], by rw [List.getElem_set_self]; exact hlv, fun g hg => ⟨Or.inr (Or.inr hg), fun e' => (hnew g e').2 hg⟩⟩
    · obtain ⟨lv, k1, k2, k3⟩ := h3 j hj
      refine ⟨lv, by rw [List.getElem?_set_ne (by omega)]; exact k1, by rw [List.getElem_set_ne e]; exact ho.wds k2 (fun g hg => (k3 g hg).1), fun g hg => ⟨Or.inl (k3 g hg).1, fun e' => ?_⟩⟩
      have := (hnew g e').1
      have := hS g (k3 g hg).1
      omega
  · rcases hk with hk | hk | hk
    · exact Nat.lt_of_lt_of_le (hS k hk) ho.size
    · exact hlt k hk
    · exact hlv.block_lt hk
/-- One more held. -/
theorem Hd.snoc {w w' : World} {v v' lv' : Value} {S : Nat → Prop} {H : List (Int × List Int)} {xs : List Value} {n : Int} {l' : List Int} (h : Hd w v S H)
    (h2 : ∀ i (h : i < H.length), xs[i * 2]? = some (.int .i64 H[i].1)) (h3 : ∀ i (h : i < H.length), ∃ lv, xs[i * 2 + 1]? = some lv ∧ Wds w lv H[i].2 ∧ ∀ g, lv.ownBlock = some g → S g ∧ v.ownBlock ≠ some g)
    (hrow : w'.ownsRow 0 62 2 v' (H.length + 1) (xs ++ [.int .i64 n, lv'])) (hnew : ∀ g, v'.ownBlock = some g → v.ownBlock = some g ∨ w.heap.size ≤ g ∧ lv'.ownBlock ≠ some g) (hlv : Wds w' lv' l') (hln : ∀ g, lv'.ownBlock = some g → ¬ S g)
    (ho : Only (fun k => v.ownBlock = some k) w w') (hxl : xs.length = H.length * 2) (hlt : ∀ g, v'.ownBlock = some g → g < w'.heap.size) :
    Hd w' v' (fun k => S k ∨ v'.ownBlock = some k ∨ lv'.ownBlock = some k) (H ++ [(n, l')]) := by
  have hS := h.lt
  refine ⟨⟨_, by rw [List.length_append]; exact hrow, fun j hj => ?_, fun j hj => ?_⟩, fun g hg => Or.inr (Or.inl hg), fun k hk => ?_⟩
  · simp only [List.length_append, List.length_cons, List.length_nil] at hj
    by_cases e : j < H.length
    · rw [List.getElem?_append_left (by omega), h2 j e, List.getElem_append_left e]
    · obtain rfl : j = H.length := by omega
      rw [List.getElem?_append_right (by omega), show H.length * 2 - xs.length = 0 by omega]
      simp
  · simp only [List.length_append, List.length_cons, List.length_nil] at hj
    by_cases e : j < H.length
    · obtain ⟨lv, k1, k2, k3⟩ := h3 j e
      refine ⟨lv, by rw [List.getElem?_append_left (by omega)]; exact k1, by rw [List.getElem_append_left e]; exact k2.kept ho (fun g hg => (k3 g hg).2), fun g hg => ⟨Or.inl (k3 g hg).1, fun e' => ?_⟩⟩
      rcases hnew g e' with e2 | e2
      · exact (k3 g hg).2 e2
      · have := hS g (k3 g hg).1; omega
    · obtain rfl : j = H.length := by omega
      refine ⟨lv', ?_, by simpa using hlv, fun g hg => ⟨Or.inr (Or.inr hg), fun e' => ?_⟩⟩
      · rw [List.getElem?_append_right (by omega), show H.length * 2 + 1 - xs.length = 1 by omega]
        rfl
      · rcases hnew g e' with e2 | e2
        · exact hln g hg (h.own g e2)
        · exact e2.2 hg
  · rcases hk with hk | hk | hk
    · exact Nat.lt_of_lt_of_le (hS k hk) ho.size
    · exact hlt k hk
    · exact hlv.block_lt hk
end Go.Proofs.Ytpfcbokckjfhbaa
