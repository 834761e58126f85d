/-
  An element taken out of a row in its own place: the rest moved up, the last place cleared.
-/
import Derived.Test.YtkijbphbibcnoaaKitRow
import Derived.Lib.SliceRun
namespace Go.Proofs.Ytkijbphbibcnoaa
open Go.RowKit Go.Deep Go.Maps Go.WideShapes

section
variable {α : Type} {s : Srt α} {w : World}
theorem only_setCells {g : Nat} : ∀ (vs : List Value) (o : Nat) (w : World), Only (fun k => k = g) w (w.setCells g o vs) ∧ (w.setCells g o vs).heap.size = w.heap.size := by
  intro vs
  induction vs with
  | nil => intro o w; exact ⟨Only.refl _ _, rfl⟩
  | cons v r ih =>
    intro o w
    obtain ⟨h1, h2⟩ := ih (o + 1) (w.setCell ⟨g, o, none⟩ v)
    exact ⟨(Only.set (S := fun k => k = g) w v rfl).trans h1 (fun _ h => Or.inl h), by rw [World.setCells, h2, size_setCell']⟩
theorem setCells_box {g : Nat} {t : TypeId} : ∀ (vs : List Value) (o : Nat) (w : World) (cur : Array Value), w.heap[g]? = some (.cells cur t (0, 0)) →
    ∃ cur' : Array Value, (w.setCells g o vs).heap[g]? = some (.cells cur' t (0, 0)) ∧ cur'.size = cur.size ∧ ∀ j, j < o → cur'[j]? = cur[j]? := by
  intro vs
  induction vs with
  | nil => intro o w cur h; exact ⟨cur, h, rfl, fun _ _ => rfl⟩
  | cons v r ih =>
    intro o w cur h
    obtain ⟨cur', h1, h2, h3⟩ := ih (o + 1) (w.setCell ⟨g, o, none⟩ v) (cur.setIfInBounds o v) (by simp [World.setCell, Array.getElem?_modify, h])
    exact ⟨cur', h1, by rw [h2, Array.size_setIfInBounds], fun j hj => by rw [h3 j (by omega), Array.getElem?_setIfInBounds, if_neg (by omega)]⟩
/-- Elements appended in a row's own block. -/
theorem append_fits (s : Srt α) (w : World) (ty : TypeId) {g n cap : Nat} (l m : List α) (h : Ow s w (.slice (some ⟨g, 0, none⟩) n cap) l) (ad : Addr) (c : Nat) (hy : Cs s w m (some ad)) (hm : n + m.length ≤ cap) :
    ∃ w', (Builtin.append_ #[s.st, s.st] ty #[.slice (some ⟨g, 0, none⟩) n cap, .slice (some ad) m.length c]).run Try.prog w = .ok (.slice (some ⟨g, 0, none⟩) (n + m.length) cap) w' ∧ Ow s w' (.slice (some ⟨g, 0, none⟩) (n + m.length) cap) (l ++ m) ∧ Only (fun k => k = g) w w' ∧ w'.heap.size = w.heap.size := by
  obtain ⟨i, hq, hz, hs, hb⟩ := s.parts
  rcases h.2 with ⟨h2, _⟩ | ⟨b, cap', cur, hv, _, hh, hn, hmx, hsz, hx⟩
  · cases h2
  · cases hv
    have hml := s.cs_len m
    have hk := s.pos
    have hfit : l.length * i.size + (s.cs m).length ≤ cur.size := by
      rw [hs, hml, hsz, ← Nat.add_mul]
      exact Nat.mul_le_mul_right _ hm
    have hr := run_append_room (P := Try.prog) (w := w) s.st ty s.t i s.und hq g l.length cap cur hh ad m.length c (s.cs m) (by rw [hml, hs])
      (fun q u hu => by
        have hlt := (List.getElem?_eq_some_iff.1 hu).1
        rw [hml] at hlt
        have hi : q / s.k < m.length := Nat.div_lt_of_lt_mul (by rw [Nat.mul_comm]; exact hlt)
        have hdm : q / s.k * s.k + q % s.k = q := by rw [Nat.mul_comm]; exact Nat.div_add_mod q s.k
        have hjl : q % s.k < (s.enc m[q / s.k]).length := by rw [s.len]; exact Nat.mod_lt _ hk
        have hu' := s.cs_at (List.getElem?_eq_getElem hi) (List.getElem?_eq_getElem hjl)
        rw [hdm, hu] at hu'
        obtain ⟨b, o, e, hc⟩ := hy (Nat.lt_of_le_of_lt (Nat.zero_le _) hi)
        cases e
        have := hc _ _ (List.getElem?_eq_getElem hi) _ _ (List.getElem?_eq_getElem hjl)
        rw [hdm, ← Option.some.inj hu'] at this
        rw [Addr.add_lit]
        exact this)
      (fun u hu => by
        obtain ⟨x, _, hx⟩ := List.mem_flatMap.1 hu
        exact s.one x u hx) hm hfit
    refine ⟨_, hr, ⟨by rw [s.cs_len], Or.inr ⟨g, cap, (cur.toList.take (l.length * i.size) ++ s.cs m ++ cur.toList.drop (l.length * i.size + (s.cs m).length)).toArray, by rw [List.length_append], Nat.zero_le _, ?_, by rw [List.length_append]; exact hm, hmx, ?_, ?_⟩⟩, ?_, ?_⟩
    · exact setRow_heap w g cur _ _ _ hh
    · have e1 : ∀ L : List Value, L.toArray.size = L.length := fun L => List.size_toArray ..
      rw [e1, List.length_append, List.length_append, List.length_take, List.length_drop, Array.length_toList (xs := cur)]
      omega
    · rw [List.length_append, Nat.add_mul, ← hs, s.cs_app, ← hx, hs, ← hml]
      have e : (cur.toList.take (l.length * s.k) ++ s.cs m).length = l.length * s.k + (s.cs m).length := by
        rw [List.length_append, List.length_take, Array.length_toList (xs := cur), Nat.min_eq_left]
        rw [hs] at hfit
        omega
      show List.take _ ((cur.toList.take (l.length * s.k) ++ s.cs m) ++ _) = _
      rw [List.take_append_of_le_length (by rw [e]; exact Nat.le_refl _), List.take_of_length_le (by rw [e]; exact Nat.le_refl _)]
    · exact ⟨rfl, rfl, rfl, by simp, fun k _ hk => setRow_other w g k _ hk⟩
    · simp
theorem zero_of (s : Srt α) (w : World) : (zeroValue s.t).run Try.prog w = .ok s.z w := by
  obtain ⟨i, hq, hz, _, _⟩ := s.parts
  simp [zeroValue, typeInfo, hq, hz]
/-- The place behind a row cleared. -/
theorem Ow.clear {g m cap : Nat} {L : List α} (h : Ow s w (.slice (some ⟨g, 0, none⟩) m cap) L) (hc : m < cap) (hz1 : ∀ u ∈ s.z.cells, u.oneCell' = true) :
    ∃ w', (∀ ty c, (Builtin.clear_ #[s.st] ty #[.slice (some ⟨g, m * s.k, none⟩) 1 c]).run Try.prog w = .ok (.tuple #[]) w') ∧ Ow s w' (.slice (some ⟨g, 0, none⟩) m cap) L ∧ Only (fun k => k = g) w w' ∧ w'.heap.size = w.heap.size := by
  rcases h.2 with ⟨h2, _⟩ | ⟨b, cap', cur, hv, _, hh, hn, hmx, hsz, hx⟩
  · cases h2
  · cases hv
    have hzl : (Builtin.zeroCells s.z.cells 1).toList.length = s.k := by rw [Array.length_toList, size_zeroCells, s.zc, Nat.one_mul]
    have hk := s.pos
    have hroom : L.length * s.k + s.k ≤ cur.size := by
      rw [hsz]
      have := Nat.mul_le_mul_right s.k (show L.length + 1 ≤ cap by omega)
      rwa [Nat.add_mul, Nat.one_mul] at this
    have hst := run_storeCells_cells (P := Try.prog) g (L.length * s.k) (Builtin.zeroCells s.z.cells 1).toList 0 w
      (fun j hj => by
        rw [hzl] at hj
        simp only [World.cell?, hh]
        simp
        omega) (fun j hj => by simp [World.frozen?, hh]) (fun v hv => by
        simp only [Builtin.zeroCells, Array.toList_map, List.mem_map] at hv
        obtain ⟨i, hi, rfl⟩ := hv
        have hlt : i % s.z.cells.size < s.z.cells.size := Nat.mod_lt _ (by rw [s.zc]; exact hk)
        refine hz1 _ ?_
        simp only [Array.getElem!_eq_getD, Array.getD, hlt]
        simp)
    simp only [Nat.add_zero] at hst
    obtain ⟨ho, hs⟩ := only_setCells (g := g) (Builtin.zeroCells s.z.cells 1).toList (L.length * s.k) w
    obtain ⟨cur', g1, g2, g3⟩ := setCells_box (Builtin.zeroCells s.z.cells 1).toList (L.length * s.k) w cur hh
    refine ⟨_, fun ty c => ?_, ⟨h.1, Or.inr ⟨g, cap, cur', rfl, Nat.zero_le _, g1, hn, hmx, by rw [g2]; exact hsz, ?_⟩⟩, ho, hs⟩
    · simp [Builtin.clear_, run_underlying s.und, zero_of, hst]
    · rw [← hx]
      apply List.ext_getElem?
      intro j
      rw [List.getElem?_take, List.getElem?_take]
      split
      · rename_i hj
        rw [Array.getElem?_toList, Array.getElem?_toList]
        exact g3 j hj
      · rfl
end
end Go.Proofs.Ytkijbphbibcnoaa
