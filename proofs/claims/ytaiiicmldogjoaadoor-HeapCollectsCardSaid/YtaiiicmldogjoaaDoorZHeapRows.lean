/-
  Rows of words and of terms that a law holds beside a heap.
-/
import Derived.Test.YtaiiicmldogjoaaDoorZHeapY
import Derived.Test.YtaiiicmldogjoaaDoorZTermMore
import Derived.Laws.OwnMore
namespace Go.Proofs.YtaiiicmldogjoaaDoor
open Go.RowKit Go.Deep Go.Maps Go.WideShapes

/-- A row of the law's own with terms in it, whose parts lie in blocks of F. -/
structure Tms (w : World) (F : Nat → Prop) (v : Value) (l : List Tm) : Prop where
  row : ∃ xs : List Value, w.ownsRow 0 42 4 v l.length xs ∧ ∀ i (hi : i < l.length), ∃ v0 v1 v2 v3, xs[i * 4]? = some v0 ∧ xs[i * 4 + 1]? = some v1 ∧ xs[i * 4 + 2]? = some v2 ∧ xs[i * 4 + 3]? = some v3 ∧ Lies w F l[i] (.agg #[v0, v1, v2, v3])
theorem Tms.nil (w : World) (F : Nat → Prop) : Tms w F (.slice none 0 0) [] := ⟨[], World.ownsRow_nil _ _ _ _, fun i hi => by cases hi⟩
theorem Tms.kept {w w' : World} {F X : Nat → Prop} {v : Value} {l : List Tm} (h : Tms w F v l) (ho : Only X w w') (hX : ∀ g, v.ownBlock = some g → ¬ X g) (hF : ∀ b, F b → ¬ X b) : Tms w' F v l := by
  obtain ⟨xs, ⟨h1, h2⟩, h3⟩ := h
  refine ⟨xs, ⟨h1, ?_⟩, fun i hi => ?_⟩
  · rcases h2 with h2 | ⟨b, cap, cur, rfl, hb, hh, hr⟩
    · exact Or.inl h2
    · exact Or.inr ⟨b, cap, cur, rfl, hb, ho.box hh (hX b rfl), hr⟩
  · obtain ⟨v0, v1, v2, v3, e0, e1, e2, e3, hl⟩ := h3 i hi
    exact ⟨v0, v1, v2, v3, e0, e1, e2, e3, hl.move (fun _ h => h) (fun b o u hb hc => ho.cellS (hF b hb) hc) _ _⟩
theorem Tms.lst {w : World} {F : Nat → Prop} {v : Value} {l : List Tm} (h : Tms w F v l) : ∃ a cap, v = .slice a l.length cap ∧ Lst w (fun b => F b ∨ v.ownBlock = some b) l a cap := by
  obtain ⟨xs, ⟨h1, h2⟩, h3⟩ := h
  rcases h2 with ⟨rfl, hn⟩ | ⟨g, cap, cur, rfl, hbg, hg, hc, hm, hcs, htk⟩
  · have : l = [] := List.eq_nil_of_length_eq_zero hn
    subst this
    exact ⟨none, 0, rfl, lst_nil _ _⟩
  · refine ⟨_, cap, rfl, hc, hm, Or.inr ⟨_, rfl, fun _ => ⟨Or.inr rfl, rfl⟩, Row.of fun i hi => ?_⟩⟩
    obtain ⟨v0, v1, v2, v3, e0, e1, e2, e3, hL⟩ := h3 i hi
    have hcell : ∀ j u, xs[j]? = some u → w.cell? ⟨g, 0 + j, none⟩ = some u := by
      intro j u hu
      rw [Nat.zero_add]
      rw [← htk, List.getElem?_take] at hu
      split at hu
      · rw [cell_of_row w g j cur 42 (0, 0) hg]
        simpa using hu
      · cases hu
    exact ⟨v0, v1, v2, v3, hcell _ _ e0, hcell _ _ e1, hcell _ _ e2, hcell _ _ e3, hL.wider fun b hb => Or.inl hb⟩
theorem Tms.wider {w : World} {F G : Nat → Prop} {v : Value} {l : List Tm} (h : Tms w F v l) (hF : ∀ b, F b → G b) : Tms w G v l := by
  obtain ⟨xs, h1, h3⟩ := h
  refine ⟨xs, h1, fun i hi => ?_⟩
  obtain ⟨v0, v1, v2, v3, e0, e1, e2, e3, hl⟩ := h3 i hi
  exact ⟨v0, v1, v2, v3, e0, e1, e2, e3, hl.wider hF⟩
theorem append_term (w : World) (ty : TypeId) (F : Nat → Prop) (v : Value) (l : List Tm) (h : Tms w F v l) (T : Tm) (b : Nat) (k n : Int) (z : ByteArray) (a : Option Addr) (m c : Nat) (hb : w.heap[b]? = some (.cells #[.int .i64 k, .int .i64 n, .string z, .slice a m c] 42))
    (hT : Lies w F T (.agg #[.int .i64 k, .int .i64 n, .string z, .slice a m c])) (hF : ∀ g, v.ownBlock = some g → ¬ F g) (hl : l.length ≤ 1000000) :
    ∃ v' w', (Builtin.append_ #[40, 40] ty #[v, .slice (some ⟨b, 0, none⟩) 1 1]).run Tryd.prog w = .ok v' w' ∧ Tms w' F v' (l ++ [T]) ∧ w.grownBy w' v.ownBlock ∧ (v'.ownBlock = v.ownBlock ∨ v'.ownBlock = some w.heap.size) := by
  obtain ⟨xs, h1, h3⟩ := h
  obtain ⟨i0, hi0, hz0, hz1, hby⟩ := info_parts termInfo
  obtain ⟨v', w', hr, ho, hg, _, ha⟩ := run_append_own_at (P := Tryd.prog) w 0 40 ty 42 i0 _ 4 56 Tryd.underlying40 hi0 hz0 hz1 hby rfl (by decide) v l.length _ h1 ⟨b, 0, none⟩ 1 1 [.int .i64 k, .int .i64 n, .string z, .slice a m c] rfl
    (fun j u hu => by
      rcases j with _ | _ | _ | _ | j
      · cases hu; simp [World.cell?, Addr.add, hb]
      · cases hu; simp [World.cell?, Addr.add, hb]
      · cases hu; simp [World.cell?, Addr.add, hb]
      · cases hu; simp [World.cell?, Addr.add, hb]
      · cases hu)
    (fun u hu => by
      simp only [List.mem_cons, List.not_mem_nil, or_false] at hu
      rcases hu with rfl | rfl | rfl | rfl <;> rfl) (by unfold maxLen; omega) (by omega) (Nat.zero_le _)
  have hon : Only (fun k => v.ownBlock = some k) w w' := Only.grown hg fun k hk => hk
  have hx := h1.1
  refine ⟨v', w', hr, ⟨xs ++ [.int .i64 k, .int .i64 n, .string z, .slice a m c], by rw [List.length_append]; exact ho, fun i hi => ?_⟩, hg, ha⟩
  rw [List.length_append, List.length_singleton] at hi
  by_cases he : i = l.length
  · subst he
    refine ⟨.int .i64 k, .int .i64 n, .string z, .slice a m c, ?_, ?_, ?_, ?_, ?_⟩
    iterate 4 (rw [List.getElem?_append_right (by omega), hx]; simp)
    rw [List.getElem_append_right (Nat.le_refl _)]
    simp only [Nat.sub_self, List.getElem_cons_zero]
    exact hT.move (fun _ h => h) (fun b o u hb hc => hon.cellS (fun e => hF b e hb) hc) _ _
  · obtain ⟨u0, u1, u2, u3, e0, e1, e2, e3, hL⟩ := h3 i (by omega)
    refine ⟨u0, u1, u2, u3, ?_, ?_, ?_, ?_, ?_⟩
    iterate 4 (rw [List.getElem?_append_left (by omega)]; assumption)
    rw [List.getElem_append_left (by omega)]
    exact hL.move (fun _ h => h) (fun b o u hb hc => hon.cellS (fun e => hF b e hb) hc) _ _
theorem append_word (w : World) (ty : TypeId) (v : Value) (xs : List Int) (h : Wds w v xs) (b : Nat) (x : Int) (hb : w.heap[b]? = some (.cells #[.int .u64 x] 22)) (hm : xs.length ≤ 100000) :
    ∃ v' w', (Builtin.append_ #[25, 25] ty #[v, .slice (some ⟨b, 0, none⟩) 1 1]).run Tryd.prog w = .ok v' w' ∧ Wds w' v' (xs ++ [x]) ∧ w.grownBy w' v.ownBlock ∧ (v'.ownBlock = v.ownBlock ∨ v'.ownBlock = some w.heap.size) :=
  append_words w ty v xs [x] h (some ⟨b, 0, none⟩) 1 (cel_at (xs := [x]) hb) (fun e => by cases e) (by simp; omega)

/-- What is written beside a heap. -/
theorem St.beside {W0 w w' : World} {hb : Nat} {S X : Nat → Prop} {L : List ByteArray} {M : Nat} {xs ks : List Int} (h : St W0 w hb S L M xs ks) (ho : Only X w w') (hX : ∀ k, S k → ¬ X k) (hW : ∀ k, X k → W0.heap.size ≤ k) (h0 : 1 < W0.heap.size ∧ 0 < W0.heap.size) : St W0 w' hb S L M xs ks := by
  obtain ⟨p, bm, v, wv, kv, hh, hw⟩ := h.hea
  refine ⟨⟨p, bm, v, wv, kv, ?_, hw⟩, h.wf, h.nub, h.below.trans (ho.below hW h.below.size), h.lo, fun k hk => Nat.lt_of_lt_of_le (h.hi k hk) ho.size⟩
  exact hh.kept ho (fun k hk => hX k (hw k hk)) (fun hk => by have := hW _ hk; omega) (fun hk => by have := hW _ hk; omega)
/-- A row: of words, or of terms. -/
inductive Rw where
  | ws (v : Value) (l : List Int)
  | ts (v : Value) (l : List Tm)
def Rw.val : Rw → Value
  | .ws v _ => v
  | .ts v _ => v
def Rw.Is (w : World) (F : Nat → Prop) : Rw → Prop
  | .ws v l => Wds w v l
  | .ts v l => Tms w F v l
theorem Rw.Is.kept {w w' : World} {F X : Nat → Prop} {r : Rw} (h : r.Is w F) (ho : Only X w w') (hX : ∀ g, r.val.ownBlock = some g → ¬ X g) (hF : ∀ b, F b → ¬ X b) : r.Is w' F := by
  cases r with
  | ws v l => exact Wds.kept h ho hX
  | ts v l => exact Tms.kept h ho hX hF
theorem Rw.Is.lt {w : World} {F : Nat → Prop} {r : Rw} (h : r.Is w F) {g : Nat} (hg : r.val.ownBlock = some g) : g < w.heap.size := by
  cases r with
  | ws v l => exact Wds.block_lt h hg
  | ts v l =>
    obtain ⟨xs, ⟨_, h2⟩, _⟩ := h.row
    rcases h2 with ⟨h2, _⟩ | ⟨b, cap, cur, h2, hb, hh, hr⟩
    · rw [show (Rw.ts v l).val = v from rfl, h2] at hg; cases hg
    · rw [show (Rw.ts v l).val = v from rfl, h2] at hg
      cases hg
      exact (Array.getElem?_eq_some_iff.1 hh).1
/-- A heap, and rows beside it, each in a block of its own. -/
structure Hl (W0 w : World) (hb : Nat) (S : Nat → Prop) (L : List ByteArray) (xs ks : List Int) (F : Nat → Prop) (rows : List Rw) : Prop where
  st : St W0 w hb S L 100000 xs ks
  fs : ∀ b, F b → Sf S w b
  each : ∀ r ∈ rows, r.Is w F
  safe : ∀ r ∈ rows, ∀ g, r.val.ownBlock = some g → Sf S w g ∧ ¬ F g ∧ W0.heap.size ≤ g
  gl : 1 < W0.heap.size ∧ 0 < W0.heap.size
  dist : rows.Pairwise fun r r' => ∀ g, r.val.ownBlock = some g → r'.val.ownBlock ≠ some g
section
variable {W0 w w' : World} {hb : Nat} {S S' : Nat → Prop} {L L' : List ByteArray} {xs ks xs' ks' : List Int} {F : Nat → Prop} {rows A B : List Rw} {r : Rw}
theorem Hl.heap (h : Hl W0 w hb S L xs ks F rows) (hs : St W0 w' hb S' L' 100000 xs' ks') (n : Sp S w S' w') : Hl W0 w' hb S' L' xs' ks' F rows :=
  ⟨hs, fun b hb => n.safe (h.fs b hb), fun r hr => (h.each r hr).kept n.only (fun g hg => (h.safe r hr g hg).1.2) (fun b hb => (h.fs b hb).2), fun r hr g hg => ⟨n.safe (h.safe r hr g hg).1, (h.safe r hr g hg).2⟩, h.gl, h.dist⟩
theorem Hl.up (h : Hl W0 w hb S L xs ks F rows) (hb' : Below w.heap.size w w') : Hl W0 w' hb S L xs ks F rows := h.heap (h.st.up hb') (Sp.up hb')
theorem Hl.push (h : Hl W0 w hb S L xs ks F rows) (hr : r.Is w F) (hv : r.val = .slice none 0 0) : Hl W0 w hb S L xs ks F (r :: rows) := by
  refine ⟨h.st, h.fs, fun q hq => ?_, fun q hq g hg => ?_, h.gl, List.pairwise_cons.2 ⟨fun q _ g hg => ?_, h.dist⟩⟩
  · rcases List.mem_cons.1 hq with rfl | hq
    · exact hr
    · exact h.each q hq
  · rcases List.mem_cons.1 hq with rfl | hq
    · rw [hv] at hg; cases hg
    · exact h.safe q hq g hg
  · rw [hv] at hg; cases hg
theorem Hl.drop (h : Hl W0 w hb S L xs ks F (r :: rows)) : Hl W0 w hb S L xs ks F rows :=
  ⟨h.st, h.fs, fun q hq => h.each q (List.mem_cons_of_mem _ hq), fun q hq => h.safe q (List.mem_cons_of_mem _ hq), h.gl, (List.pairwise_cons.1 h.dist).2⟩
theorem Hl.at_ (h : Hl W0 w hb S L xs ks F rows) (hr : r ∈ rows) : r.Is w F := h.each r hr
/-- A row is appended to. -/
theorem Hl.app (h : Hl W0 w hb S L xs ks F (A ++ r :: B)) {r' : Rw} (hr : r'.Is w' F) (hg : w.grownBy w' r.val.ownBlock) (ho : r'.val.ownBlock = r.val.ownBlock ∨ r'.val.ownBlock = some w.heap.size) : Hl W0 w' hb S L xs ks F (A ++ r' :: B) := by
  have hon : Only (fun k => r.val.ownBlock = some k) w w' := Only.grown hg fun k hk => hk
  have hrm : r ∈ A ++ r :: B := by simp
  have hSf : ∀ b, Sf S w b → Sf S w' b := fun b hb' => ⟨Nat.lt_of_lt_of_le hb'.1 hon.size, hb'.2⟩
  have hSp : ∀ k, S k → ¬ r.val.ownBlock = some k := fun k hk e => (h.safe r hrm k e).1.2 hk
  have hst : St W0 w' hb S L 100000 xs ks := h.st.beside hon hSp (fun k hk => (h.safe r hrm k hk).2.2) h.gl
  obtain ⟨hA, hrB, hAB⟩ := List.pairwise_append.1 h.dist
  obtain ⟨hr1, hB⟩ := List.pairwise_cons.1 hrB
  have hnew : ∀ q ∈ A ++ r :: B, q.val.ownBlock ≠ some w.heap.size := fun q hq e => by
    have := (h.safe q hq _ e).1.1
    omega
  have hr' : ∀ q ∈ A ++ B, ∀ g, q.val.ownBlock = some g → r'.val.ownBlock ≠ some g := fun q hq g hg' e => by
    have hqm : q ∈ A ++ r :: B := by
      rcases List.mem_append.1 hq with h1 | h1
      · exact List.mem_append_left _ h1
      · exact List.mem_append_right _ (List.mem_cons_of_mem _ h1)
    rcases ho with ho | ho
    · rw [ho] at e
      rcases List.mem_append.1 hq with h1 | h1
      · exact hAB q h1 r (List.mem_cons_self ..) g hg' e
      · exact hr1 q h1 g e hg'
    · rw [ho] at e
      cases e
      exact hnew q hqm hg'
  have hqr : ∀ q ∈ A ++ B, ∀ g, q.val.ownBlock = some g → ¬ r.val.ownBlock = some g := fun q hq g hg' e => by
    rcases List.mem_append.1 hq with h1 | h1
    · exact hAB q h1 r (List.mem_cons_self ..) g hg' e
    · exact hr1 q h1 g e hg'
  have hin : ∀ q ∈ A ++ B, q ∈ A ++ r :: B := fun q hq => by
    rcases List.mem_append.1 hq with h1 | h1
    · exact List.mem_append_left _ h1
    · exact List.mem_append_right _ (List.mem_cons_of_mem _ h1)
  have hFr : ∀ b, F b → ¬ r.val.ownBlock = some b := fun b hb' e => (h.safe r hrm b e).2.1 hb'
  have hcase : ∀ q ∈ A ++ r' :: B, q = r' ∨ q ∈ A ++ B := fun q hq => by
    rcases List.mem_append.1 hq with h1 | h1
    · exact Or.inr (List.mem_append_left _ h1)
    · rcases List.mem_cons.1 h1 with h1 | h1
      · exact Or.inl h1
      · exact Or.inr (List.mem_append_right _ h1)
  refine ⟨hst, fun b hb' => hSf b (h.fs b hb'), fun q hq => ?_, fun q hq g hg' => ?_, h.gl, ?_⟩
  · rcases hcase q hq with rfl | hq
    · exact hr
    · exact (h.each q (hin q hq)).kept hon (hqr q hq) hFr
  · rcases hcase q hq with rfl | hq
    · rcases ho with ho | ho
      · rw [ho] at hg'
        obtain ⟨h1, h2, h3⟩ := h.safe r hrm g hg'
        exact ⟨hSf g h1, h2, h3⟩
      · rw [ho] at hg'
        have hlt := hr.lt (ho.trans hg')
        cases hg'
        exact ⟨⟨hlt, fun hk => by have := h.st.hi _ hk; omega⟩, fun hk => by have := (h.fs _ hk).1; omega, h.st.below.size⟩
    · obtain ⟨h1, h2, h3⟩ := h.safe q (hin q hq) g hg'
      exact ⟨hSf g h1, h2, h3⟩
  · refine List.pairwise_append.2 ⟨hA, List.pairwise_cons.2 ⟨fun q hq g hg' e => hr' q (List.mem_append_right _ hq) g e hg', hB⟩, fun q hq q' hq' => ?_⟩
    rcases List.mem_cons.1 hq' with rfl | hq'
    · exact fun g hg' => hr' q (List.mem_append_left _ hq) g hg'
    · exact hAB q hq q' (List.mem_cons_of_mem _ hq')
end
end Go.Proofs.YtaiiicmldogjoaaDoor

/-
  What the law of collections holds: a heap, all words that were told, and their terms.
-/
namespace Go.Proofs.YtaiiicmldogjoaaDoor
open Go.RowKit Go.Deep Go.Maps Go.WideShapes

theorem sizes_nil : sizes [] = 0 := by rw [sizes]
theorem sizes_cons (t : Tm) (r : List Tm) : sizes (t :: r) = t.size + sizes r := by rw [sizes]
theorem wordsR_two (T : Tm) : T.wordsR ≤ 2 * T.size := by
  induction T using Tm.induct with
  | h k n s l ih =>
    rw [wordsR_mk, Tm.size_mk]
    have h1 : wordsRs l ≤ 2 * sizes l := by
      clear n s k
      induction l with
      | nil => rw [wordsRs]; omega
      | cons t r ihr =>
        rw [wordsRs, sizes_cons]
        have h1 := ih t (List.mem_cons_self ..)
        have h2 := ihr fun x hx => ih x (List.mem_cons_of_mem _ hx)
        omega
    have h2 : ownW k ≤ 2 := by rw [ownW]; split <;> omega
    split <;> omega
/-- Words and the terms that they are. -/
structure Dn (L : List ByteArray) (xs ks al : List Int) (tl : List Tm) : Prop where
  len : tl.length = al.length
  den : ∀ i (_ : i < tl.length) (_ : i < al.length), Den L xs ks tl[i] al[i]
  size : ∀ T ∈ tl, T.size ≤ 600
theorem Dn.nil {L : List ByteArray} {xs ks : List Int} : Dn L xs ks [] [] := ⟨rfl, fun i h _ => (by cases h), fun T h => (by cases h)⟩
theorem Dn.mono {L L' : List ByteArray} {xs ks al zs zs' : List Int} {tl : List Tm} (h : Dn L xs ks al tl) (hL : L <+: L') : Dn L' (xs ++ zs) (ks ++ zs') al tl := ⟨h.len, fun i h1 h2 => (h.den i h1 h2).mono hL zs zs', h.size⟩
theorem Dn.snoc {L : List ByteArray} {xs ks al : List Int} {tl : List Tm} (h : Dn L xs ks al tl) {T : Tm} {x : Int} (hd : Den L xs ks T x) (hs : T.size ≤ 600) : Dn L xs ks (al ++ [x]) (tl ++ [T]) := by
  have hl := h.len
  refine ⟨by simp [hl], fun i h1 h2 => ?_, fun U hU => ?_⟩
  · simp only [List.length_append, List.length_singleton] at h1
    by_cases hi : i < tl.length
    · rw [List.getElem_append_left hi, List.getElem_append_left (by omega)]
      exact h.den i hi (by omega)
    · have e : i = tl.length := by omega
      subst e
      rw [List.getElem_append_right (Nat.le_refl _), List.getElem_append_right (by omega)]
      simpa [hl] using hd
  · rcases List.mem_append.1 hU with hU | hU
    · exact h.size U hU
    · rw [List.mem_singleton.1 hU]; exact hs
theorem fits_check {T : Tm} (hc : T.check = 0) : T.fits = true := by
  rw [Tm.check, fits_pre] at hc
  by_cases hf : T.fits = true
  · exact hf
  · rw [if_neg hf] at hc; cases hc
/-- A term that was put. -/
theorem den_put {L : List ByteArray} {T : Tm} (hc : T.check = 0) (hn : (T.nums L).1 = true) {xs ks : List Int} (hl : ks.length = xs.length) (hL : (T.nums L).2.length ≤ 4096) (hx : xs.length + (T.laid (T.nums L).2 xs.length).length ≤ 1073741824) :
    Den (T.nums L).2 (xs ++ T.laid (T.nums L).2 xs.length) (ks ++ T.kds) T (T.own (T.nums L).2 xs.length) := by
  have hf := fits_check hc
  have h := put_den hL T hf (nums_known T hf L _ hn (Ext.refl _)) xs ks hl hx [] []
  rw [List.append_nil, List.append_nil] at h
  exact h
end Go.Proofs.YtaiiicmldogjoaaDoor

/-
  A tuple made of words that were told.
-/
namespace Go.Proofs.YtaiiicmldogjoaaDoor
open Go.RowKit Go.Deep Go.Maps Go.WideShapes

theorem dens_of {L : List ByteArray} {xs ks : List Int} : ∀ {tl : List Tm} {al : List Int}, tl.length = al.length → (∀ i (_ : i < tl.length) (_ : i < al.length), Den L xs ks tl[i] al[i]) → Dens L xs ks tl al
  | [], [], _, _ => dens_nil.2 rfl
  | [], _ :: _, h, _ => by cases h
  | _ :: _, [], h, _ => by cases h
  | t :: r, y :: z, h, hd => dens_cons.2 ⟨y, z, rfl, hd 0 (by simp) (by simp), dens_of (by simpa using h) fun i h1 h2 => by
      have := hd (i + 1) (by simpa using h1) (by simpa using h2)
      simpa using this⟩
theorem den_word {L : List ByteArray} {xs ks : List Int} {T : Tm} {x : Int} (h : Den L xs ks T x) : (0 ≤ x ∧ x < 18446744073709551616) ∧ mayB L ks x = true := by
  refine ⟨?_, den_may h⟩
  cases T with
  | mk k n s l =>
    obtain ⟨m, hp, _⟩ := den_pk h
    exact ⟨hp.facts.2.2.2.2.2.2.1, hp.facts.2.2.2.2.2.2.2⟩
theorem den_tuple {L : List ByteArray} {xs ks ws : List Int} {ts : List Tm} (hD : Dn L xs ks ws ts) (hl : ks.length = xs.length) (h64 : ws.length ≤ 64) (hx : xs.length ≤ 1073741824) :
    Den L (xs ++ (leadW 7 0 ws.length ++ ws)) (ks ++ kbox 7 (1 + ws.length)) (.tup ts) (Wd.packW 7 xs.length) := by
  have hlen := hD.len
  have hd : Dens L (xs ++ (leadW 7 0 ws.length ++ ws)) (ks ++ kbox 7 (1 + ws.length)) ts ws := dens_of hlen fun i h1 h2 => (hD.den i h1 h2).mono (List.prefix_refl _) _ _
  rw [Tm.tup, den_mk, if_pos (by decide)]
  have hf : fitB 7 0 0 ws.length = true := by simp [fitB]; omega
  refine ⟨by rw [hlen]; exact hf, xs.length, ws, rfl, hx, ⟨?_, by decide, hf, [], ?_⟩, hd⟩
  · rw [List.getElem?_append_right (by omega), hl, Nat.sub_self]
    simp [kbox]
  · rw [List.drop_left, List.append_nil]
theorem Tms.part {w : World} {F : Nat → Prop} {v : Value} {l : List Tm} (h : Tms w F v l) (i : Nat) (hi : i < l.length) : ∃ g cap k n s a m c, v = .slice (some ⟨g, 0, none⟩) l.length cap ∧ w.cell? ⟨g, i * 4, none⟩ = some (.int .i64 k) ∧ w.cell? ⟨g, i * 4 + 1, none⟩ = some (.int .i64 n) ∧
    w.cell? ⟨g, i * 4 + 2, none⟩ = some (.string s) ∧ w.cell? ⟨g, i * 4 + 3, none⟩ = some (.slice a m c) ∧ Lies w F l[i] (.agg #[.int .i64 k, .int .i64 n, .string s, .slice a m c]) := by
  obtain ⟨xs, ⟨h1, h2⟩, h3⟩ := h
  rcases h2 with ⟨rfl, hn⟩ | ⟨g, cap, cur, rfl, hbg, hg, hc, hm, hcs, htk⟩
  · omega
  · obtain ⟨v0, v1, v2, v3, e0, e1, e2, e3, hL⟩ := h3 i hi
    have hcell : ∀ j u, xs[j]? = some u → w.cell? ⟨g, j, none⟩ = some u := by
      intro j u hu
      rw [← htk, List.getElem?_take] at hu
      split at hu
      · rw [cell_of_row w g j cur 42 (0, 0) hg]
        simpa using hu
      · cases hu
    obtain ⟨k, n, s, a, m, c, e⟩ := hL.agg
    simp only [Value.agg.injEq, Array.mk.injEq, List.cons.injEq, and_true] at e
    obtain ⟨rfl, rfl, rfl, rfl⟩ := e
    exact ⟨g, cap, k, n, s, a, m, c, rfl, hcell _ _ e0, hcell _ _ e1, hcell _ _ e2, hcell _ _ e3, hL⟩
/-- A row of terms is finished: its block stays as it is. -/
theorem Hl.freeze {W0 w : World} {hb : Nat} {S : Nat → Prop} {L : List ByteArray} {xs ks : List Int} {F : Nat → Prop} {v : Value} {l : List Tm} {rows : List Rw} (h : Hl W0 w hb S L xs ks F (.ts v l :: rows)) :
    Hl W0 w hb S L xs ks (fun b => F b ∨ v.ownBlock = some b) rows := by
  have hm : Rw.ts v l ∈ Rw.ts v l :: rows := List.mem_cons_self ..
  refine ⟨h.st, fun b hb' => ?_, fun r hr => ?_, fun r hr g hg => ?_, h.gl, (List.pairwise_cons.1 h.dist).2⟩
  · rcases hb' with hb' | hb'
    · exact h.fs b hb'
    · exact (h.safe _ hm b hb').1
  · have hr' := h.each r (List.mem_cons_of_mem _ hr)
    cases r with
    | ws u q => exact hr'
    | ts u q => exact Tms.wider hr' fun b hb' => Or.inl hb'
  · obtain ⟨h1, h2, h3⟩ := h.safe r (List.mem_cons_of_mem _ hr) g hg
    exact ⟨h1, fun hk => hk.elim h2 fun e => (List.pairwise_cons.1 h.dist).1 r hr g e hg, h3⟩
/-- A tuple of such a row is one more term. -/
theorem Hl.tupled {W0 w : World} {hb : Nat} {S : Nat → Prop} {L : List ByteArray} {xs ks : List Int} {F : Nat → Prop} {wv av tv : Value} {ws al : List Int} {ts tl : List Tm} {sa : Option Addr} {sc : Nat} (ty : TypeId)
    (h0 : Hl W0 w hb S L xs ks F [.ws wv ws, .ts (.slice sa ts.length sc) ts, .ws av al, .ts tv tl]) (hl : tl.length ≤ 1000) :
    ∃ F' tv' w', (Builtin.append_ #[40, 40] ty #[tv, .slice (some ⟨w.heap.size, 0, none⟩) 1 1]).run Tryd.prog (w.alloc (.cells #[.int .i64 7, .int .i64 0, .string ⟨#[]⟩, .slice sa ts.length sc] 42)) = .ok tv' w' ∧
      Hl W0 w' hb S L xs ks F' [.ws av al, .ts tv' (tl ++ [.tup ts])] := by
  obtain ⟨W11, hW11⟩ : ∃ W11, w.alloc (.cells #[.int .i64 7, .int .i64 0, .string ⟨#[]⟩, .slice sa ts.length sc] 42) = W11 := ⟨_, rfl⟩
  have hb11 : Below w.heap.size w W11 := by rw [← hW11]; exact (Below.refl _ _).alloc (Nat.le_refl _) _
  have hx11 : W11.heap[w.heap.size]? = some (.cells #[.int .i64 7, .int .i64 0, .string ⟨#[]⟩, .slice sa ts.length sc] 42) := by rw [← hW11]; exact new_block _ _
  rw [hW11]
  have h11 := h0.up hb11
  obtain ⟨sa', sc', hse, hLs'⟩ := (show Tms W11 F (.slice sa ts.length sc) ts from h11.at_ (r := .ts (.slice sa ts.length sc) ts) (by simp)).lst
  simp only [Value.slice.injEq] at hse
  obtain ⟨rfl, _, rfl⟩ := hse
  have hf11 := h11.drop.freeze
  obtain ⟨tv12, w12, hr12, hA12, hg12, ho12⟩ := append_term W11 ty _ tv tl (hf11.at_ (r := .ts tv tl) (by simp)) (.tup ts) w.heap.size 7 0 ⟨#[]⟩ sa ts.length sc hx11 (Lies.mk (l := ts) tup_small hLs') (fun g hg => (hf11.safe (.ts tv tl) (by simp) g hg).2.1) (by omega)
  have hIs : Rw.Is w12 (fun b => F b ∨ (Value.slice sa ts.length sc).ownBlock = some b) (.ts tv12 (tl ++ [.tup ts])) := hA12
  have hfin := Hl.app (A := [.ws av al]) (B := []) (r := .ts tv tl) hf11 hIs hg12 ho12
  exact ⟨_, tv12, w12, hr12, hfin⟩
end Go.Proofs.YtaiiicmldogjoaaDoor
