/-
  Rows of elements of any sort: what a call has as its own, what lies behind an address; appended to, cut, written.
-/
import Derived.Test.YtamafhcgjbkikaaDoorKitOnly
import Derived.Laws.OwnMore
import Derived.OwnWalk
import Derived.Lib.AppendZerosOnto
namespace Go.Proofs.YtamafhcgjbkikaaDoor
open Go.RowKit Go.Deep Go.Maps Go.WideShapes

theorem put_box {w : World} {g : Nat} {c : Array Value} {t : TypeId} (h : w.heap[g]? = some (.cells c t)) (j : Nat) (v : Value) : (w.setCell ⟨g, j, none⟩ v).heap[g]? = some (.cells (c.setIfInBounds j v) t) := by
  simp [World.setCell, Array.getElem?_modify, h]
/-- A sort of elements: their type, that of slices of them, how many cells, which cells. -/
structure Srt (α : Type) where
  t : TypeId
  st : TypeId
  k : Nat
  enc : α → List Value
  z : Value
  bytes : Nat
  und : Tryd.prog.underlying st = some (.slice t)
  info : (Tryd.prog.info? t).map (fun i => (i.zero, i.size, i.bytes)) = some (some z, k, bytes)
  zc : z.cells.size = k
  pos : 0 < k
  few : bytes ≤ 1000
  len : ∀ x, (enc x).length = k
  one : ∀ x, ∀ u ∈ enc x, u.oneCell' = true
section
variable {α : Type} (s : Srt α) {w w' : World}
/-- The cells of elements, one behind the other. -/
def Srt.cs (l : List α) : List Value := l.flatMap s.enc
theorem Srt.cs_len (l : List α) : (s.cs l).length = l.length * s.k := by
  induction l with
  | nil => simp [Srt.cs]
  | cons x r ih =>
    have e : s.cs (x :: r) = s.enc x ++ s.cs r := rfl
    rw [e, List.length_append, s.len, ih, List.length_cons, Nat.add_mul]
    omega
theorem Srt.cs_at {l : List α} {i j : Nat} {x : α} {u : Value} (hi : l[i]? = some x) (hj : (s.enc x)[j]? = some u) : (s.cs l)[i * s.k + j]? = some u := by
  induction l generalizing i with
  | nil => cases hi
  | cons a r ih =>
    have e : s.cs (a :: r) = s.enc a ++ s.cs r := rfl
    rw [e]
    cases i with
    | zero =>
      cases hi
      have hlt := (List.getElem?_eq_some_iff.1 hj).1
      rw [List.getElem?_append_left (by simpa using hlt)]
      simpa using hj
    | succ i =>
      rw [List.getElem?_append_right (by rw [s.len, Nat.add_mul]; omega), s.len, show (i + 1) * s.k + j - s.k = i * s.k + j by rw [Nat.add_mul]; omega]
      exact ih hi
theorem Srt.cs_app (l m : List α) : s.cs (l ++ m) = s.cs l ++ s.cs m := by simp [Srt.cs]
theorem Srt.cs_take (l : List α) (n : Nat) : s.cs (l.take n) = (s.cs l).take (n * s.k) := by
  induction l generalizing n with
  | nil => simp [Srt.cs]
  | cons a r ih =>
    cases n with
    | zero => simp [Srt.cs]
    | succ n =>
      have e : s.cs (a :: r) = s.enc a ++ s.cs r := rfl
      rw [List.take_succ_cons, e, show s.cs (a :: r.take n) = s.enc a ++ s.cs (r.take n) from rfl, ih, List.take_append, s.len, List.take_of_length_le (l := s.enc a) (by rw [s.len, Nat.add_mul]; omega), show (n + 1) * s.k - s.k = n * s.k by rw [Nat.add_mul]; omega]
theorem Srt.cs_one (x : α) : s.cs [x] = s.enc x := by simp [Srt.cs]

/-- A row of the call's own. -/
def Ow (w : World) (v : Value) (l : List α) : Prop := w.ownsRow 0 s.t s.k v l.length (s.cs l)
/-- Elements that lie behind an address. -/
def Cs (w : World) (l : List α) (a : Option Addr) : Prop := 0 < l.length → ∃ b o, a = some ⟨b, o, none⟩ ∧ ∀ i x, l[i]? = some x → ∀ j u, (s.enc x)[j]? = some u → w.cell? ⟨b, o + (i * s.k + j), none⟩ = some u
variable {s}
theorem Cs.kept {T : Nat → Prop} {l : List α} {a : Option Addr} (h : Cs s w l a) (ho : Only T w w') (hT : ∀ ad, a = some ad → ¬ T ad.block) : Cs s w' l a := fun h0 => by
  obtain ⟨b, o, e, hc⟩ := h h0
  exact ⟨b, o, e, fun i x hi j u hj => ho.cellS (hT _ e) (hc i x hi j u hj)⟩
theorem Cs.up {l : List α} {a : Option Addr} (h : Cs s w l a) (hb : Below w.heap.size w w') : Cs s w' l a := fun h0 => by
  obtain ⟨b, o, e, hc⟩ := h h0
  exact ⟨b, o, e, fun i x hi j u hj => cell_below hb _ _ _ (hc i x hi j u hj)⟩
theorem Cs.take {l : List α} {a : Option Addr} (h : Cs s w l a) (n : Nat) : Cs s w (l.take n) a := fun h0 => by
  obtain ⟨b, o, e, hc⟩ := h (by rw [List.length_take] at h0; omega)
  refine ⟨b, o, e, fun i x hi j u hj => hc i x ?_ j u hj⟩
  rw [List.getElem?_take] at hi
  split at hi
  · exact hi
  · cases hi
theorem Cs.drop {l : List α} {b o n : Nat} (h : Cs s w l (some ⟨b, o, none⟩)) : Cs s w (l.drop n) (some ⟨b, o + n * s.k, none⟩) := fun h0 => by
  obtain ⟨b', o', e, hc⟩ := h (by rw [List.length_drop] at h0; omega)
  simp only [Option.some.injEq, Addr.mk.injEq, and_true] at e
  obtain ⟨rfl, rfl⟩ := e
  refine ⟨_, _, rfl, fun i x hi j u hj => ?_⟩
  rw [List.getElem?_drop] at hi
  have := hc (n + i) x hi j u hj
  rw [Nat.add_mul] at this
  rw [show o + n * s.k + (i * s.k + j) = o + (n * s.k + i * s.k + j) by omega]
  exact this
theorem Cs.at_ {l : List α} {a : Option Addr} (h : Cs s w l a) {i : Nat} (hi : i < l.length) : ∃ b o, a = some ⟨b, o, none⟩ ∧ ∀ j u, (s.enc l[i])[j]? = some u → w.cell? ⟨b, o + (i * s.k + j), none⟩ = some u := by
  obtain ⟨b, o, e, hc⟩ := h (by omega)
  exact ⟨b, o, e, fun j u hj => hc i _ (List.getElem?_eq_getElem hi) j u hj⟩

theorem Ow.nil (w : World) : Ow s w (.slice none 0 0) [] := ⟨by simp [Srt.cs], Or.inl ⟨rfl, rfl⟩⟩
theorem Ow.kept {T : Nat → Prop} {v : Value} {l : List α} (h : Ow s w v l) (ho : Only T w w') (hT : ∀ g, v.ownBlock = some g → ¬ T g) : Ow s w' v l := by
  obtain ⟨h1, h2⟩ := h
  refine ⟨h1, ?_⟩
  rcases h2 with h2 | ⟨b, cap, cur, rfl, hb, hh, hr⟩
  · exact Or.inl h2
  · exact Or.inr ⟨b, cap, cur, rfl, hb, ho.box hh (hT b rfl), hr⟩
theorem Ow.up {v : Value} {l : List α} (h : Ow s w v l) (hb : Below w.heap.size w w') : Ow s w' v l := h.kept (T := fun _ => False) (Only.up hb) (fun _ _ f => f)
theorem Ow.lt {v : Value} {l : List α} (h : Ow s w v l) {g : Nat} (hg : v.ownBlock = some g) : g < w.heap.size := by
  rcases h.2 with ⟨rfl, _⟩ | ⟨b, cap, cur, rfl, _, hb, _⟩
  · cases hg
  · cases hg
    exact (Array.getElem?_eq_some_iff.1 hb).1
theorem Ow.cells {v : Value} {l : List α} (h : Ow s w v l) : ∃ a cap, v = .slice a l.length cap ∧ l.length ≤ cap ∧ cap ≤ maxLen ∧ (a = none → cap = 0) ∧ Cs s w l a := by
  rcases h.2 with ⟨rfl, h2⟩ | ⟨g, cap, cur, rfl, _, hh, hn, hm, hs, hx⟩
  · have : l = [] := List.eq_nil_of_length_eq_zero h2
    subst this
    exact ⟨none, 0, rfl, Nat.le_refl _, Nat.zero_le _, fun _ => rfl, fun h => by cases h⟩
  · refine ⟨_, cap, rfl, hn, hm, fun e => (by cases e), fun _ => ⟨g, 0, rfl, fun i x hi j u hj => ?_⟩⟩
    have e := s.cs_at hi hj
    rw [← hx, List.getElem?_take] at e
    split at e
    · rw [Nat.zero_add]
      simp only [World.cell?, hh]
      simpa using e
    · cases e
theorem Ow.frozen {g n cap : Nat} {l : List α} (h : Ow s w (.slice (some ⟨g, 0, none⟩) n cap) l) (j : Nat) : w.frozen? ⟨g, j, none⟩ = false := by
  rcases h.2 with ⟨h2, _⟩ | ⟨b, cap', cur, hv, hb, hh, hn, hm, hs, hx⟩
  · cases h2
  · cases hv
    simp [World.frozen?, hh]
/-- Where a row of one element and more lies. -/
theorem Ow.some_ {v : Value} {l : List α} (h : Ow s w v l) (h0 : 0 < l.length) : ∃ g cap, v = .slice (some ⟨g, 0, none⟩) l.length cap ∧ l.length ≤ cap ∧ cap ≤ maxLen := by
  rcases h.2 with ⟨rfl, h2⟩ | ⟨g, cap, cur, rfl, _, hh, hn, hm, hs, hx⟩
  · omega
  · exact ⟨g, cap, rfl, hn, hm⟩
theorem Ow.cel {g n cap : Nat} {l : List α} (h : Ow s w (.slice (some ⟨g, 0, none⟩) n cap) l) {i j : Nat} {x : α} {u : Value} (hi : l[i]? = some x) (hj : (s.enc x)[j]? = some u) : w.cell? ⟨g, i * s.k + j, none⟩ = some u := by
  have hl := (List.getElem?_eq_some_iff.1 hi).1
  obtain ⟨a, cap', e, _, _, _, hc⟩ := h.cells
  simp only [Value.slice.injEq] at e
  obtain ⟨rfl, _, _⟩ := e
  obtain ⟨b, o, e, hc⟩ := hc (by omega)
  simp only [Option.some.injEq, Addr.mk.injEq, and_true] at e
  obtain ⟨rfl, rfl⟩ := e
  have := hc i x hi j u hj
  rwa [Nat.zero_add] at this
/-- A row cut. -/
theorem Ow.take {g n cap : Nat} {l : List α} (h : Ow s w (.slice (some ⟨g, 0, none⟩) n cap) l) (m : Nat) (hm : m ≤ l.length) : Ow s w (.slice (some ⟨g, 0, none⟩) m cap) (l.take m) := by
  rcases h.2 with ⟨h2, _⟩ | ⟨b, cap', cur, hv, hb, hh, hn, hmx, hs, hx⟩
  · cases h2
  · cases hv
    have hl : (l.take m).length = m := by rw [List.length_take]; omega
    refine ⟨by rw [s.cs_len], Or.inr ⟨g, cap, cur, by rw [hl], hb, hh, by omega, hmx, hs, ?_⟩⟩
    rw [hl, s.cs_take, ← hx, List.take_take]
    congr 1
    exact Nat.min_eq_left (Nat.mul_le_mul_right _ hm) |>.symm
/-- Cells of one element turned. -/
theorem Ow.put {g n cap : Nat} {l m : List α} (h : Ow s w (.slice (some ⟨g, 0, none⟩) n cap) l) (p : Nat) (u : Value) (hm : s.cs m = (s.cs l).set p u) (hl : m.length = l.length) : Ow s (w.setCell ⟨g, p, none⟩ u) (.slice (some ⟨g, 0, none⟩) n cap) m := by
  rcases h.2 with ⟨h2, _⟩ | ⟨b, cap', cur, hv, hb, hh, hn, hmx, hs, hx⟩
  · cases h2
  · cases hv
    refine ⟨by rw [s.cs_len], Or.inr ⟨g, cap, cur.setIfInBounds p u, by rw [hl], hb, ?_, by omega, hmx, by simpa using hs, ?_⟩⟩
    · simp [World.setCell, Array.getElem?_modify, hh]
    · rw [Array.toList_setIfInBounds, hm, hl, ← hx, List.take_set]
theorem Ow.fresh (w : World) (l : List α) (hl : l.length ≤ 1000000) : Ow s (w.alloc (.cells (s.cs l).toArray s.t)) (.slice (some ⟨w.heap.size, 0, none⟩) l.length l.length) l :=
  ⟨by rw [s.cs_len], Or.inr ⟨w.heap.size, l.length, (s.cs l).toArray, rfl, Nat.zero_le _, heap_alloc_new w _, Nat.le_refl _, by unfold maxLen; omega, by simp [s.cs_len], by rw [← s.cs_len]; simp⟩⟩
theorem fresh_cs (w : World) (l : List α) : Cs s (w.alloc (.cells (s.cs l).toArray s.t)) l (some ⟨w.heap.size, 0, none⟩) := fun _ =>
  ⟨_, _, rfl, fun i x hi j u hj => by
    rw [Nat.zero_add]
    have := s.cs_at hi hj
    simp only [World.cell?, heap_alloc_new]
    simpa using this⟩
theorem box_cs {b : Nat} {l : List α} {cs : Array Value} {t : TypeId} (h : w.heap[b]? = some (.cells cs t)) (hc : cs.toList = s.cs l) : Cs s w l (some ⟨b, 0, none⟩) := fun _ =>
  ⟨_, _, rfl, fun i x hi j u hj => by
    rw [Nat.zero_add]
    have := s.cs_at hi hj
    rw [← hc] at this
    simp only [World.cell?, h]
    simpa using this⟩
theorem ow_base {v : Value} {l : List α} {base : Nat} {n : Nat} {xs : List Value} (h : w.ownsRow base s.t s.k v n xs) (hn : n = l.length) (hx : xs = s.cs l) : Ow s w v l := by
  subst hn hx
  refine ⟨h.1, ?_⟩
  rcases h.2 with h2 | ⟨b, cap, cur, rfl, hb, hh, hr⟩
  · exact Or.inl h2
  · exact Or.inr ⟨b, cap, cur, rfl, Nat.zero_le _, hh, hr⟩

theorem Srt.parts (s : Srt α) : ∃ i, Tryd.prog.info? s.t = some i ∧ i.zero = some s.z ∧ i.size = s.k ∧ i.bytes = s.bytes := by
  have hi := s.info
  cases hq : Tryd.prog.info? s.t with
  | none => rw [hq] at hi; cases hi
  | some i =>
    rw [hq] at hi
    simp only [Option.map_some, Option.some.injEq, Prod.mk.injEq] at hi
    exact ⟨i, rfl, hi⟩
theorem append_nothing (s : Srt α) (w : World) (ty : TypeId) (v : Value) (l : List α) (h : Ow s w v l) : (Builtin.append_ #[s.st, s.st] ty #[v, .slice none 0 0]).run Tryd.prog w = .ok v w := by
  obtain ⟨i, hq, _, hs, _⟩ := s.parts
  have h' : w.ownsRow 0 s.t i.size v l.length (s.cs l) := by rw [hs]; exact h
  obtain ⟨a, cap, rfl⟩ := owns_slice h'
  have hcap : l.length ≤ cap := by
    rcases h'.2 with ⟨h, h'⟩ | ⟨g, cap', cur, h, _, _, hc, _⟩
    · omega
    · cases h; exact hc
  cases a with
  | none => simp [Builtin.append_, run_underlying s.und, sizeOf, typeInfo, hq, Builtin.lenOf, Builtin.firstCells, hcap]
  | some a => simp [Builtin.append_, run_underlying s.und, sizeOf, typeInfo, hq, Builtin.lenOf, Builtin.firstCells, hcap, storeCells]
/-- Elements appended to a row. -/
theorem append_row (s : Srt α) (w : World) (ty : TypeId) (v : Value) (l m : List α) (h : Ow s w v l) (a : Option Addr) (c : Nat) (hy : Cs s w m a) (hn : a = none → c = 0) (hm : l.length + m.length ≤ 100000000) :
    ∃ v' w', (Builtin.append_ #[s.st, s.st] ty #[v, .slice a m.length c]).run Tryd.prog w = .ok v' w' ∧ Ow s w' v' (l ++ m) ∧ w.grownBy w' v.ownBlock ∧ (v'.ownBlock = v.ownBlock ∨ v'.ownBlock = some w.heap.size) := by
  cases a with
  | none =>
    obtain rfl : c = 0 := hn rfl
    have : m = [] := by
      cases m with
      | nil => rfl
      | cons y r => obtain ⟨b, o, e, _⟩ := hy (by simp); cases e
    subst this
    exact ⟨v, w, append_nothing s w ty v l h, by rw [List.append_nil]; exact h, ⟨rfl, rfl, rfl, Nat.le_refl _, fun _ _ _ => rfl⟩, Or.inl rfl⟩
  | some ad =>
    obtain ⟨i, hq, hz, hs, hb⟩ := s.parts
    obtain ⟨v', w', hr, ho, hg, _, ha⟩ := run_append_own_at (P := Tryd.prog) w 0 s.st ty s.t i s.z s.k s.bytes s.und hq hz hs hb s.zc s.pos v l.length _ h ad m.length c (s.cs m) (s.cs_len m)
      (fun q u hu => by
        have hlt := (List.getElem?_eq_some_iff.1 hu).1
        rw [s.cs_len] at hlt
        have hk := s.pos
        have hi : q / s.k < m.length := Nat.div_lt_of_lt_mul (by rw [Nat.mul_comm]; exact hlt)
        have hdm : q / s.k * s.k + q % s.k = q := by rw [Nat.mul_comm]; exact Nat.div_add_mod q s.k
        have hjl : q % s.k < (s.enc m[q / s.k]).length := by rw [s.len]; exact Nat.mod_lt _ hk
        have hu' := s.cs_at (List.getElem?_eq_getElem hi) (List.getElem?_eq_getElem hjl)
        rw [hdm, hu] at hu'
        obtain ⟨b, o, e, hc⟩ := hy (Nat.lt_of_le_of_lt (Nat.zero_le _) hi)
        cases e
        have := hc _ _ (List.getElem?_eq_getElem hi) _ _ (List.getElem?_eq_getElem hjl)
        rw [hdm, ← Option.some.inj hu'] at this
        rw [Addr.add_lit]
        exact this)
      (fun u hu => by
        obtain ⟨x, _, hx⟩ := List.mem_flatMap.1 hu
        exact s.one x u hx) (by unfold maxLen; omega) (by
          have := s.few
          have : (l.length + m.length) * s.bytes ≤ 100000000 * 1000 := Nat.mul_le_mul hm this
          omega) (Nat.zero_le _)
    exact ⟨v', w', hr, ow_base ho (by rw [List.length_append]) (by rw [s.cs_app]), hg, ha⟩
/-- One element, handed as a new box of its cells. -/
theorem append_elem (s : Srt α) (w : World) (ty : TypeId) (v : Value) (l : List α) (x : α) (h : Ow s w v l) (b : Nat) {cs : Array Value} {t : TypeId} (hb : w.heap[b]? = some (.cells cs t)) (hc : cs.toList = s.enc x) (hm : l.length ≤ 1000000) :
    ∃ v' w', (Builtin.append_ #[s.st, s.st] ty #[v, .slice (some ⟨b, 0, none⟩) 1 1]).run Tryd.prog w = .ok v' w' ∧ Ow s w' v' (l ++ [x]) ∧ w.grownBy w' v.ownBlock ∧ (v'.ownBlock = v.ownBlock ∨ v'.ownBlock = some w.heap.size) :=
  append_row s w ty v l [x] h (some ⟨b, 0, none⟩) 1 (box_cs hb (by rw [hc, s.cs_one])) (fun e => by cases e) (by simp; omega)
end
end Go.Proofs.YtamafhcgjbkikaaDoor
