/-
  A term in memory of its own: its rows lie in blocks from a number on, below another, each part's in a stretch of its own.
-/
import Derived.Test.YteklhipcojioaaaDoorZKitBase
import Derived.Maps.AppendAt
namespace Go.Proofs.YteklhipcojioaaaDoor
open Go.RowKit Go.Deep

mutual
def Own (w : World) : Tm → Nat → Nat → Value → Prop
  | .mk k n s l, lo, hi, v => ∃ sv xs, v = .agg #[.int .i64 k, .int .i64 n, .string s, sv] ∧ Small k n s ∧ w.ownsRow lo 32 4 sv l.length xs ∧ (∀ g, sv.ownBlock = some g → g < hi) ∧ Kids w l lo hi sv.ownBlock xs
def Kids (w : World) : List Tm → Nat → Nat → Option Nat → List Value → Prop
  | [], _, _, _, xs => xs = []
  | t :: r, lo, hi, b, xs => ∃ v0 v1 v2 v3 ys c d, xs = v0 :: v1 :: v2 :: v3 :: ys ∧ lo ≤ c ∧ c ≤ d ∧ d ≤ hi ∧ (∀ g, b = some g → ¬ (c ≤ g ∧ g < d)) ∧ Own w t c d (.agg #[v0, v1, v2, v3]) ∧ Kids w r d hi b ys
end
/-- A slice of terms of one's own. -/
def OwnL (w : World) (l : List Tm) (lo hi : Nat) (sv : Value) : Prop :=
  ∃ xs, w.ownsRow lo 32 4 sv l.length xs ∧ (∀ g, sv.ownBlock = some g → g < hi) ∧ Kids w l lo hi sv.ownBlock xs

section
variable {w w' : World}

theorem Own.out {k n : Int} {s : ByteArray} {l : List Tm} {lo hi : Nat} {v : Value} (h : Own w (.mk k n s l) lo hi v) :
    ∃ sv, v = .agg #[.int .i64 k, .int .i64 n, .string s, sv] ∧ Small k n s ∧ OwnL w l lo hi sv := by
  rw [Own] at h
  obtain ⟨sv, xs, h1, h2, h3, h4, h5⟩ := h
  exact ⟨sv, h1, h2, xs, h3, h4, h5⟩
theorem Own.mk {k n : Int} {s : ByteArray} {l : List Tm} {lo hi : Nat} {sv : Value} (h : Small k n s) (hl : OwnL w l lo hi sv) : Own w (.mk k n s l) lo hi (.agg #[.int .i64 k, .int .i64 n, .string s, sv]) := by
  rw [Own]
  obtain ⟨xs, h3, h4, h5⟩ := hl
  exact ⟨sv, xs, rfl, h, h3, h4, h5⟩

theorem ownsRow_same {base : Nat} {sv : Value} {n : Nat} {xs : List Value} {e : TypeId} {z : Nat} (h : w.ownsRow base e z sv n xs) (hw : ∀ g, sv.ownBlock = some g → w'.heap[g]? = w.heap[g]?) : w'.ownsRow base e z sv n xs := by
  refine ⟨h.1, ?_⟩
  rcases h.2 with hn | ⟨g, cap, cur, rfl, hb, hgg, rest⟩
  · exact .inl hn
  · exact .inr ⟨g, cap, cur, rfl, hb, (hw g rfl).trans hgg, rest⟩
theorem ownsRow_lower {base base' : Nat} {sv : Value} {n : Nat} {xs : List Value} {e : TypeId} {z : Nat} (h : w.ownsRow base e z sv n xs) (hl : base' ≤ base) : w.ownsRow base' e z sv n xs := by
  refine ⟨h.1, ?_⟩
  rcases h.2 with hn | ⟨g, cap, cur, rfl, hb, hgg, rest⟩
  · exact .inl hn
  · exact .inr ⟨g, cap, cur, rfl, Nat.le_trans hl hb, hgg, rest⟩

theorem Own.move (T : Tm) : ∀ (lo hi lo' hi' : Nat) (v : Value), lo' ≤ lo → hi ≤ hi' → (∀ k, lo ≤ k → k < hi → w'.heap[k]? = w.heap[k]?) → Own w T lo hi v → Own w' T lo' hi' v := by
  induction T using Tm.induct with
  | h k n s l ih =>
    intro lo hi lo' hi' v h1 h2 hw h
    obtain ⟨sv, rfl, hs, xs, h3, h4, h5⟩ := h.out
    refine Own.mk hs ⟨xs, ownsRow_lower (ownsRow_same h3 fun g hg => hw g (h3.lt g hg).1 (h4 g hg)) h1, fun g hg => Nat.lt_of_lt_of_le (h4 g hg) h2, ?_⟩
    clear h3 h4 h hs
    generalize sv.ownBlock = b at h5
    induction l generalizing lo lo' xs with
    | nil => rw [Kids] at h5 ⊢; exact h5
    | cons t r ihr =>
      rw [Kids] at h5 ⊢
      obtain ⟨v0, v1, v2, v3, ys, c, d, rfl, p1, p2, p3, p4, p5, p6⟩ := h5
      exact ⟨v0, v1, v2, v3, ys, c, d, rfl, by omega, p2, by omega, p4, ih t (by simp) c d c d _ (Nat.le_refl _) (Nat.le_refl _) (fun k hk1 hk2 => hw k (by omega) (by omega)) p5,
        ihr (fun t ht => ih t (List.mem_cons_of_mem _ ht)) d d (Nat.le_refl _) (fun k hk1 hk2 => hw k (by omega) hk2) ys p6⟩

/-- Parts go on where their blocks are as they were, but for the row's own. -/
theorem Kids.move {l : List Tm} : ∀ {lo hi lo' hi' : Nat} {b b' : Option Nat} {xs : List Value}, lo' ≤ lo → hi ≤ hi' → (∀ k, lo ≤ k → k < hi → some k ≠ b → w'.heap[k]? = w.heap[k]?) →
    (∀ g, b' = some g → b = some g ∨ hi ≤ g ∨ g < lo) → Kids w l lo hi b xs → Kids w' l lo' hi' b' xs := by
  induction l with
  | nil => intro lo hi lo' hi' b b' xs _ _ _ _ h; rw [Kids] at h ⊢; exact h
  | cons t r ihr =>
    intro lo hi lo' hi' b b' xs h1 h2 hw hb h
    rw [Kids] at h ⊢
    obtain ⟨v0, v1, v2, v3, ys, c, d, rfl, p1, p2, p3, p4, p5, p6⟩ := h
    refine ⟨v0, v1, v2, v3, ys, c, d, rfl, by omega, p2, by omega, ?_, ?_, ?_⟩
    · intro g hg
      rcases hb g hg with h | h | h
      · exact p4 g h
      · omega
      · omega
    · exact Own.move t c d c d _ (Nat.le_refl _) (Nat.le_refl _) (fun k hk1 hk2 => hw k (by omega) (by omega) (fun e => p4 k e.symm ⟨hk1, hk2⟩)) p5
    · exact ihr (Nat.le_refl _) h2 (fun k hk1 hk2 => hw k (by omega) hk2) (fun g hg => (hb g hg).imp id (Or.imp id (fun h => by omega))) p6

theorem Kids.snoc {l : List Tm} {t : Tm} {c d : Nat} {b : Option Nat} {v0 v1 v2 v3 : Value} (hcd : c ≤ d) (hb : ∀ g, b = some g → ¬ (c ≤ g ∧ g < d)) (ht : Own w t c d (.agg #[v0, v1, v2, v3])) :
    ∀ {lo : Nat} {xs : List Value}, lo ≤ c → Kids w l lo c b xs → Kids w (l ++ [t]) lo d b (xs ++ [v0, v1, v2, v3]) := by
  induction l with
  | nil =>
    intro lo xs hlo h
    rw [Kids] at h
    subst h
    rw [List.nil_append, List.nil_append, Kids]
    exact ⟨v0, v1, v2, v3, [], c, d, rfl, hlo, hcd, Nat.le_refl _, hb, ht, by rw [Kids]⟩
  | cons t' r ihr =>
    intro lo xs hlo h
    rw [Kids] at h
    obtain ⟨u0, u1, u2, u3, ys, c', d', rfl, p1, p2, p3, p4, p5, p6⟩ := h
    rw [List.cons_append, Kids]
    exact ⟨u0, u1, u2, u3, ys ++ [v0, v1, v2, v3], c', d', rfl, p1, p2, by omega, p4, p5, ihr p3 p6⟩

theorem OwnL.move {l : List Tm} {lo hi lo' hi' : Nat} {sv : Value} (h1 : lo' ≤ lo) (h2 : hi ≤ hi') (hw : ∀ k, lo ≤ k → k < hi → w'.heap[k]? = w.heap[k]?) (h : OwnL w l lo hi sv) : OwnL w' l lo' hi' sv := by
  obtain ⟨xs, h3, h4, h5⟩ := h
  exact ⟨xs, ownsRow_lower (ownsRow_same h3 fun g hg => hw g (h3.lt g hg).1 (h4 g hg)) h1, fun g hg => Nat.lt_of_lt_of_le (h4 g hg) h2, Kids.move h1 h2 (fun k a b _ => hw k a b) (fun g hg => Or.inl hg) h5⟩

/-- What is one's own lies. -/
theorem Own.lies (T : Tm) : ∀ (lo hi : Nat) (v : Value), Own w T lo hi v → Lies w (fun b => lo ≤ b ∧ b < hi) T v := by
  induction T using Tm.induct with
  | h k n s l ih =>
    intro lo hi v h
    obtain ⟨sv, rfl, hs, xs, h3, h4, h5⟩ := h.out
    rcases h3 with ⟨hx, ⟨rfl, hn⟩ | ⟨g, cap, cur, rfl, hb, hg, hc, hm, hcs, htk⟩⟩
    · have : l = [] := List.eq_nil_of_length_eq_zero hn
      subst this
      exact Lies.mk (l := []) hs ⟨Nat.le_refl _, by simp, Or.inl ⟨rfl, rfl, rfl⟩⟩
    · refine Lies.mk hs ⟨hc, hm, Or.inr ⟨_, rfl, fun _ => ⟨⟨hb, h4 g rfl⟩, rfl⟩, ?_⟩⟩
      have hcell : ∀ j u, xs[j]? = some u → w.cell? ⟨g, j, none⟩ = some u := by
        intro j u hu
        rw [← htk, List.getElem?_take] at hu
        split at hu
        · rw [cell_of_row w g j cur 32 (0, 0) hg]
          simpa using hu
        · cases hu
      have key : ∀ (r : List Tm) (o : Nat) (ys : List Value) (lo' : Nat), (∀ t ∈ r, t ∈ l) → lo ≤ lo' → (∀ j u, ys[j]? = some u → w.cell? ⟨g, o + j, none⟩ = some u) → Kids w r lo' hi (some g) ys → Row w (fun b => lo ≤ b ∧ b < hi) r g o := by
        intro r
        induction r with
        | nil => intro o ys lo' _ _ _ _; rw [Row]; trivial
        | cons t r ihr =>
          intro o ys lo' hmem hlo hcl hk
          rw [Kids] at hk
          obtain ⟨v0, v1, v2, v3, zs, c, d, rfl, p1, p2, p3, p4, p5, p6⟩ := hk
          rw [Row]
          refine ⟨⟨v0, v1, v2, v3, hcl 0 v0 rfl, hcl 1 v1 rfl, hcl 2 v2 rfl, hcl 3 v3 rfl, (ih t (hmem t (by simp)) c d _ p5).wider (fun b hb => ⟨by omega, by omega⟩)⟩, ?_⟩
          refine ihr (o + 4) zs d (fun t ht => hmem t (List.mem_cons_of_mem _ ht)) (by omega) (fun j u hu => ?_) p6
          have := hcl (j + 4) u (by simpa using hu)
          rwa [show o + (j + 4) = o + 4 + j by omega] at this
      exact key l 0 xs lo (fun t h => h) (Nat.le_refl _) (fun j u hu => by simpa using hcell j u hu) h5

theorem OwnL.lst {l : List Tm} {lo hi : Nat} {sv : Value} (h : OwnL w l lo hi sv) : ∃ a cap, sv = .slice a l.length cap ∧ Lst w (fun b => lo ≤ b ∧ b < hi) l a cap := by
  have := Own.lies _ lo hi _ (Own.mk (k := 0) (n := 0) (s := ByteArray.empty) ⟨by omega, by omega, by omega, by omega, by simp⟩ h)
  obtain ⟨a, cap, h1, _, h2⟩ := this.out
  simp only [Value.agg.injEq, Array.mk.injEq, List.cons.injEq, and_true] at h1
  exact ⟨a, cap, h1.2.2.2, h2⟩
end

end Go.Proofs.YteklhipcojioaaaDoor

/-
  A term's copy, as the statements' kit makes it: the same term, in memory of its own.
-/
namespace Go.Proofs.YteklhipcojioaaaDoor
open Go.RowKit Go.Deep

theorem termInfo : (Tryd.prog.info? 32).map (fun i => (i.zero, i.size, i.bytes)) = some (some (.agg #[.int .i64 0, .int .i64 0, .string ByteArray.empty, .slice none 0 0]), 4, 56) := by kernel_rfl

theorem info_at {P : Program} {e : TypeId} {z : Value} {n b : Nat} (h : (P.info? e).map (fun i => (i.zero, i.size, i.bytes)) = some (some z, n, b)) :
    ∃ i, P.info? e = some i ∧ i.zero = some z ∧ i.size = n ∧ i.bytes = b := by
  obtain ⟨i, hi, he⟩ := Option.map_eq_some_iff.1 h
  simp only [Prod.mk.injEq] at he
  exact ⟨i, hi, he.1, he.2.1, he.2.2⟩

/-- What CopyTerms has come to: a slice of the same terms, in new memory. -/
def MadeL (w : World) (l : List Tm) (e : Ending) (w' : World) : Prop := ∃ sv, e = .returned sv ∧ OwnL w' l w.heap.size w'.heap.size sv
def MadeT (w : World) (T : Tm) (e : Ending) (w' : World) : Prop := ∃ v, e = .returned v ∧ Own w' T w.heap.size w'.heap.size v

theorem cells_new (w : World) (xs : List Value) (t : TypeId) : ∀ j u, xs[j]? = some u → (w.alloc (.cells xs.toArray t)).cell? ((⟨w.heap.size, 0, none⟩ : Addr).add j) = some u := by
  intro j u hu
  have hadd : (⟨w.heap.size, 0, none⟩ : Addr).add j = ⟨w.heap.size, j, none⟩ := by unfold Addr.add; split <;> simp_all
  rw [hadd, new_cell]
  simpa using hu

/-- One part more. -/
theorem kids_step {wr w2 w3 : World} {n0 i : Nat} {l : List Tm} {sv v' v0 v1 v2 v3 : Value} {xs : List Value} {ob : Obj} (hlt : i < l.length) (h0 : n0 ≤ wr.heap.size)
    (hk : Kids wr (l.take i) n0 wr.heap.size sv.ownBlock xs) (hown : wr.ownsRow n0 32 4 sv i xs) (hb2 : Below wr.heap.size wr w2) (hm : Own w2 l[i] wr.heap.size w2.heap.size (.agg #[v0, v1, v2, v3]))
    (hgrow : (w2.alloc ob).grownBy w3 sv.ownBlock) (hat : v'.ownBlock = sv.ownBlock ∨ v'.ownBlock = some (w2.alloc ob).heap.size) : Kids w3 (l.take (i + 1)) n0 w3.heap.size v'.ownBlock (xs ++ [v0, v1, v2, v3]) := by
  have hz := hb2.size
  have hz3 := hgrow.size
  rw [World.size_alloc] at hz3 hat
  have hne : ∀ k, wr.heap.size ≤ k → some k ≠ sv.ownBlock := fun k hk e => by
    have := (hown.lt k e.symm).2
    omega
  have hsame : ∀ k, k < w2.heap.size → some k ≠ sv.ownBlock → w3.heap[k]? = w2.heap[k]? := fun k hk hn =>
    (hgrow.block k (by rw [World.size_alloc]; omega) hn).trans (Below.heap_alloc w2 ob k hk)
  have hv : ∀ g, v'.ownBlock = some g → sv.ownBlock = some g ∨ w2.heap.size ≤ g := fun g hg => by
    rcases hat with h | h
    · exact Or.inl (h ▸ hg)
    · rw [h] at hg
      cases hg
      exact Or.inr (Nat.le_succ _)
  rw [List.take_succ_eq_append_getElem hlt]
  have k1 : Kids w3 (l.take i) n0 wr.heap.size v'.ownBlock xs := Kids.move (Nat.le_refl _) (Nat.le_refl _) (fun k h1 h2 h3 => (hsame k (by omega) h3).trans (hb2.block k h2)) (fun g hg => by
    rcases hv g hg with h | h
    · exact Or.inl h
    · exact Or.inr (Or.inl (by omega))) hk
  have k2 : Own w3 l[i] wr.heap.size w2.heap.size (.agg #[v0, v1, v2, v3]) := Own.move _ _ _ _ _ _ (Nat.le_refl _) (Nat.le_refl _) (fun k h1 h2 => hsame k h2 (hne k h1)) hm
  have k3 := Kids.snoc (b := v'.ownBlock) (d := w2.heap.size) hz (fun g hg h => by
    rcases hv g hg with h' | h'
    · exact hne g h.1 h'.symm
    · omega) k2 h0 k1
  exact Kids.move (Nat.le_refl _) (by omega) (fun _ _ _ _ => rfl) (fun g hg => Or.inl hg) k3

set_option maxHeartbeats 400000 in
theorem copyTerms_of (l : List Tm) (hlen : l.length ≤ 1000000) (hT : ∀ t ∈ l, ∀ (S : Nat → Prop) (v : Value) (w : World), Lies w S t v →
      Calls Tryd.prog 38 #[v] w fun e w' => MadeT w t e w' ∧ Below w.heap.size w w')
    (S : Nat → Prop) (a : Option Addr) (cap : Nat) (w : World) (hl : Lst w S l a cap) :
    Calls Tryd.prog 63 #[.slice a l.length cap] w fun e w' => MadeL w l e w' ∧ Below w.heap.size w w' := by
  have ih := Hid.mk hT
  clear hT
  obtain ⟨i0, hi0, hz0, hz1, hby⟩ := info_at termInfo
  go_enter Tryd.func63, Tryd.ntmps63
  go_wp2
  go_loopw [3, 4] (fun sv ii wr => ∃ (i : Nat) (xs : List Value), i ≤ l.length ∧ ii = .int .i64 i ∧ wr.ownsRow w.heap.size 32 4 sv i xs ∧ Hid (Kids wr (l.take i) w.heap.size wr.heap.size sv.ownBlock xs) ∧ Below w.heap.size w wr) (fun _ ii _ => l.length - (intOf ii).toNat)
  case atStart => exact ⟨0, [], Nat.zero_le _, rfl, World.ownsRow_nil _ _ _ _, Hid.mk (by rw [List.take_zero, Kids]), Below.refl _ _⟩
  case round =>
    obtain ⟨i, xs, hi, rfl, hown, hk, hb⟩ := hrel
    have hzr := hb.size
    by_cases hlt : i < l.length
    · obtain ⟨b, o, rfl, _, hr⟩ := (hl.below hb).some (by omega)
      obtain ⟨k', n', s', m', a', cap', hT, c0, c1, c2, c3, hli⟩ := hr.part i hlt
      have hc := Hid.mk (ih.out l[i] (List.getElem_mem hlt) S _ wr hli)
      rw [hT] at hc
      have hTT := Hid.mk hT
      clear hT hli
      go_wp2_with (first
        | (go_at_call 38; refine hc.out.mono ?_; rintro e w2 ⟨⟨v2, rfl, hm⟩, hb2⟩; obtain ⟨sv2, rfl, hsm, hol⟩ := hm.out; obtain ⟨a2, cap2, rfl, _⟩ := hol.lst; have hz2 := hb2.size; have hown2 := ownsRow_same hown (fun g hg => hb2.block g (hown.lt g hg).2))
        | (at_builtin; refine wpList_append_own_at _ rfl _ _ 30 rfl w.heap.size 32 i0 _ 4 56 Tryd.underlying30 hi0 hz0 hz1 hby rfl (by decide) _ _ _ rfl (hown2.alloc _) ⟨w2.heap.size, 0, none⟩ 1 1 [.int .i64 k', .int .i64 n', .string s', .slice a2 m'.length cap2] rfl rfl (cells_new _ _ _) (fun x hx => by simp at hx; rcases hx with rfl | rfl | rfl | rfl <;> rfl) (by unfold maxLen; omega) (by omega) (by simp; omega) ?_; intro v' w3 hown' hgrow hnil hat))
      go_roundw
      case rel =>
        refine ⟨i + 1, _, by omega, by go_num, hown', Hid.mk (kids_step hlt hzr hk.out hown hb2 (by rw [hTT.out]; exact hm) hgrow hat), ?_⟩
        exact (hb.trans ((hb2.mono hzr).trans ((Below.refl _ _).alloc (by omega) _))).grown hgrow (by simp; omega) (fun k hk => (hown.lt k hk).1)
      case measure => simp [intOf]; omega
    · go_wp2
      go_ret
      obtain rfl : i = l.length := by omega
      have hkk := hk.out
      rw [List.take_length] at hkk
      exact ⟨⟨_, rfl, _, hown, fun g hg => (hown.lt g hg).2, hkk⟩, hb⟩

set_option maxHeartbeats 400000 in
theorem copyTerm_any (T : Tm) (hsz : T.size ≤ 1000000) : ∀ (S : Nat → Prop) (v : Value) (w : World), Lies w S T v →
    Calls Tryd.prog 38 #[v] w fun e w' => MadeT w T e w' ∧ Below w.heap.size w w' := by
  induction T using Tm.induct with
  | h k n s l ih =>
    intro S v w hv
    rw [Tm.size_mk] at hsz
    obtain ⟨a, cap, rfl, hs, hl⟩ := hv.out
    have hc := Hid.mk (fun (w1 : World) (hb1 : Below w.heap.size w w1) => copyTerms_of l (by have := length_sizes l; omega) (fun t ht => by
      obtain ⟨i, hi, rfl⟩ := List.getElem_of_mem ht
      exact ih _ ht (by have := sizes_at l i hi; omega)) S a cap w1 (hl.below hb1))
    clear ih hv hl
    go_enter Tryd.func38, Tryd.ntmps38
    go_wp2_with (go_at_call 63; refine (hc.out _ (((Below.refl w.heap.size w).alloc (Nat.le_refl _) _).alloc (by simp) _)).mono ?_; rintro e w2 ⟨⟨sv, rfl, hol⟩, hb2⟩; have hb3 : Below w.heap.size w w2 := (((Below.refl w.heap.size w).alloc (Nat.le_refl _) _).alloc (by simp) _).trans (hb2.mono (by simp; omega)); obtain ⟨a2, cap2, rfl, _⟩ := hol.lst; obtain ⟨⟨g0, g1, g2, g3⟩, f0, f1, f2, f3⟩ := kept4 (new_block1 w _ _) hb2; obtain ⟨⟨g4, g5, g6, g7⟩, f4, f5, f6, f7⟩ := kept4 (new_block2 w _ _) hb2; have hz2 := hb2.size)
    have hx : ∀ j, (w2.setCell ⟨w.heap.size, 3, none⟩ (.slice a2 l.length cap2)).cell? ⟨w.heap.size + 1, j, none⟩ = w2.cell? ⟨w.heap.size + 1, j, none⟩ := fun j => World.cell?_setCell_other _ _ _ _ (by simp)
    refine ret_stored rfl rfl rfl ((hx 0).trans g4) ((hx 1).trans g5) ((hx 2).trans g6) ((hx 3).trans g7) ⟨⟨_, rfl, Own.mk hs ?_⟩, Below.set4 (hb3.setCell (p := ⟨w.heap.size, 3, none⟩) (Nat.le_refl _) _) (Nat.le_succ _)⟩
    rw [World.size_alloc, World.size_alloc] at hol
    refine hol.move (by omega) (by rw [set4_size, size_setCell']; exact Nat.le_refl _) (fun k h1 h2 => ?_)
    rw [set4_heap _ _ _ _ _ _ _ (by omega), Below.heap_setCell _ _ _ _ (by show k ≠ w.heap.size; omega)]

end Go.Proofs.YteklhipcojioaaaDoor
