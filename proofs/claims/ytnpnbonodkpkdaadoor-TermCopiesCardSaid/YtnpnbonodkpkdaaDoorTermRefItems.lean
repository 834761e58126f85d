/-
  The document's items of a list.
-/
import Derived.Test.YtnpnbonodkpkdaaDoorTermLong
namespace Go.Proofs.YtnpnbonodkpkdaaDoor
open Go.RowKit Go.Deep

/-- The first i of l lie in the cells xs, their parts in blocks of S. -/
def Side (w : World) (S : Nat → Prop) (l : List Tm) (i : Nat) (xs : List Value) : Prop :=
  ∀ q (_ : q < i) (h : q < l.length), ∃ v0 v1 v2 v3, xs[q * 4]? = some v0 ∧ xs[q * 4 + 1]? = some v1 ∧ xs[q * 4 + 2]? = some v2 ∧ xs[q * 4 + 3]? = some v3 ∧ Lies w S l[q] (.agg #[v0, v1, v2, v3])
theorem Side.step {w : World} {S : Nat → Prop} {l : List Tm} {i : Nat} {xs : List Value} {v0 v1 v2 v3 : Value} (h : Side w S l i xs) (hx : xs.length = i * 4) (hl : ∀ h : i < l.length, Lies w S l[i] (.agg #[v0, v1, v2, v3])) :
    Side w S l (i + 1) (xs ++ [v0, v1, v2, v3]) := by
  intro q hq hlen
  by_cases he : q = i
  · subst he
    refine ⟨v0, v1, v2, v3, ?_, ?_, ?_, ?_, hl hlen⟩ <;> (rw [List.getElem?_append_right (by omega), hx]; simp)
  · obtain ⟨u0, u1, u2, u3, e0, e1, e2, e3, hL⟩ := h q (by omega) hlen
    refine ⟨u0, u1, u2, u3, ?_, ?_, ?_, ?_, hL⟩ <;> (rw [List.getElem?_append_left (by omega)]; assumption)

set_option maxHeartbeats 2000000 in
theorem refItems_any (T : Tm) (hsz : T.size ≤ 1000000) (S : Nat → Prop) (v : Value) (w : World) (hv0 : Lies w S T v) :
    Calls Tryd.prog 29 #[v] w fun e w' => (∃ a cap, (T.last = 8 ∧ e = .returned (.tuple #[.slice a T.items.length cap, .bool true]) ∧ IsL w' T.items a cap) ∨ (T.last ≠ 8 ∧ e = .returned (.tuple #[.slice none 0 0, .bool false]))) ∧ Below w.heap.size w w' := by
  have hv := hv0.inside
  have hsz2 := items_size T
  obtain ⟨k, n, s, l⟩ := T
  obtain ⟨a, cap, rfl, hs, hl⟩ := hv.out
  obtain ⟨i0, hi0, hz0, hz1, hby⟩ := info_at termInfo
  clear hv0 hv
  generalize hS' : (fun b => S b ∧ b < w.heap.size) = S' at hl
  have hS : ∀ b, S' b → b < w.heap.size := fun b hb => by rw [← hS'] at hb; exact hb.2
  clear hS'
  obtain ⟨its, hits⟩ : ∃ its, its = (Tm.mk k n s l).items := ⟨_, rfl⟩
  rw [← hits] at hsz2 ⊢
  have hits := Hid.mk hits
  go_enter Tryd.func29, Tryd.ntmps29
  go_wp2
  go_loopg [4] 1000000 (fun q sv wr => ∃ (k' n' : Int) (s' : ByteArray) (l' : List Tm) (a' : Option Addr) (cap' i : Nat) (xs : List Value), Hid ((Tm.mk k' n' s' l').size ≤ q) ∧ wr.ownsRow (w.heap.size + 1) 24 4 sv i xs ∧ i ≤ its.length ∧
    wr.heap[w.heap.size]? = some (.cells #[.int .i64 k', .int .i64 n', .string s', .slice a' l'.length cap'] 24) ∧
    Small k' n' s' ∧ Lst w S' l' a' cap' ∧ Hid ((Tm.mk k' n' s' l').items = its.drop i) ∧ Hid ((Tm.mk k' n' s' l').last = (Tm.mk k n s l).last) ∧ Hid (Side w S' its i xs) ∧ Below w.heap.size w wr)
  case atStart =>
    have hb : Below w.heap.size w (w.alloc (.cells #[.int .i64 k, .int .i64 n, .string s, .slice a l.length cap] 24)) := (Below.refl _ _).alloc (Nat.le_refl _) _
    exact ⟨k, n, s, l, a, cap, 0, [], Hid.mk hsz, World.ownsRow_nil _ _ _ _, Nat.zero_le _, new_block _ _, hs, hl, Hid.mk (by rw [← hits.out]; rfl), Hid.mk rfl, Hid.mk (fun q hq => by omega), hb⟩
  case round =>
    obtain ⟨k', n', s', l', a', cap', i, xs, hzq, hown, hi, hbox, hs', hl', hit, hla, hsd, hb⟩ := hrel
    obtain ⟨⟨g0, g1, g2, g3⟩, f0, f1, f2, f3⟩ := kept4 hbox (Below.refl _ _)
    have hzr := hb.size
    have hbr : w.heap.size < wr.heap.size := (Array.getElem?_eq_some_iff.1 hbox).1
    by_cases hc : k' = 9 ∧ l'.length = 2
    · obtain ⟨rfl, hc2⟩ := hc
      obtain ⟨x, y, rfl⟩ := two_of hc2
      obtain ⟨b, o, rfl, hSb, hrow⟩ := hl'.some (by simp)
      obtain ⟨k1, n1, s1, m1, a1, cap1, hT1, c0, c1, c2, c3, hli1⟩ := hrow.part 0 (by simp)
      obtain ⟨k2, n2, s2, m2, a2, cap2, hT2, d0, d1, d2, d3, hli2⟩ := hrow.part 1 (by simp)
      have hT1' : x = .mk k1 n1 s1 m1 := hT1
      have hT2' : y = .mk k2 n2 s2 m2 := hT2
      subst hT2'
      have hitc := hit.out
      have hlac := hla.out
      rw [items_cons] at hitc
      rw [last_cons] at hlac
      have hlt : i < its.length := by
        have := congrArg List.length hitc
        rw [List.length_cons, List.length_drop] at this
        omega
      rw [List.drop_eq_getElem_cons hlt] at hitc
      obtain ⟨hxe, hye⟩ := List.cons.inj hitc
      have hzq' := hzq.out
      rw [Tm.size_mk] at hzq'
      simp only [sizes] at hzq'
      have hxp := x.size_pos
      have hyp := (Tm.mk k2 n2 s2 m2).size_pos
      have hh := Hid.mk hxe
      have hh1 := Hid.mk hye
      have hh2 := Hid.mk hlac
      have hh3 := Hid.mk hzq'
      have hh4 := Hid.mk hli2
      have hh5 : Hid (Lies w S' x (.agg #[.int .i64 k1, .int .i64 n1, .string s1, .slice a1 m1.length cap1])) := Hid.mk hli1
      have hgk : 1 ≤ gk := by omega
      have e0 : wr.cell? ⟨b, o, none⟩ = some (.int .i64 k1) := cell_below hb _ _ _ (by simpa using c0)
      have e1 : wr.cell? ⟨b, o + 1, none⟩ = some (.int .i64 n1) := cell_below hb _ _ _ (by simpa using c1)
      have e2 : wr.cell? ⟨b, o + 2, none⟩ = some (.string s1) := cell_below hb _ _ _ (by simpa using c2)
      have e3 : wr.cell? ⟨b, o + 3, none⟩ = some (.slice a1 m1.length cap1) := cell_below hb _ _ _ (by simpa using c3)
      have hd := Hid.mk (⟨d0, d1, d2, d3⟩ : _ ∧ _ ∧ _ ∧ _)
      clear hitc hxe hye hlac hT1 hT1' hT2 hli1 hli2 c0 c1 c2 c3 d0 d1 d2 d3 hzq' hit hla hzq hc2
      go_wp2_with (at_builtin; refine wpList_append_own_at _ rfl _ _ 22 rfl (w.heap.size + 1) 24 i0 _ 4 56 Tryd.underlying22 hi0 hz0 hz1 hby rfl (by decide) _ _ _ rfl (hown.alloc _) ⟨wr.heap.size, 0, none⟩ 1 1 [.int .i64 k1, .int .i64 n1, .string s1, .slice a1 m1.length cap1] rfl rfl (cells_new _ _ _) (fun x hx => by simp at hx; rcases hx with rfl | rfl | rfl | rfl <;> rfl) (by unfold maxLen; omega) (by omega) (by simp; omega) ?_; intro v' w3 hown' hgrow hnil hat; have hb3 : Below w.heap.size w w3 := ((hb.alloc (by omega) _)).grown hgrow (by simp; omega) (fun k hk => by have := (hown.lt k hk).1; omega); have eb : w3.heap[w.heap.size]? = _ := (hgrow.block w.heap.size (by simp; omega) (fun e => by have := (hown.lt _ e.symm).1; omega)).trans ((Below.heap_alloc _ _ _ hbr).trans hbox); obtain ⟨⟨q0, q1, q2, q3⟩, r0, r1, r2, r3⟩ := kept4 eb (Below.refl _ _); have u0 := cell_below hb3 _ _ _ hd.out.1; have u1 := cell_below hb3 _ _ _ hd.out.2.1; have u2 := cell_below hb3 _ _ _ hd.out.2.2.1; have u3 := cell_below hb3 _ _ _ hd.out.2.2.2)
      go_roundg (gk - 1)
      case rel =>
        obtain ⟨a3, cap3, hv3, hs3', hl3'⟩ := hh4.out.out
        simp only [Value.agg.injEq, Array.mk.injEq, List.cons.injEq, Value.slice.injEq, true_and, and_true] at hv3
        obtain ⟨rfl, rfl⟩ := hv3
        have h3 := hh3.out
        have hown4 := ownsRow_same hown' (w' := (((w3.setCell ⟨w.heap.size, 0, none⟩ (.int .i64 k2)).setCell ⟨w.heap.size, 1, none⟩ (.int .i64 n2)).setCell ⟨w.heap.size, 2, none⟩ (.string s2)).setCell ⟨w.heap.size, 3, none⟩ (.slice a2 m2.length cap2)) (fun g hg => set4_heap _ _ _ _ _ _ _ (by have := (hown'.lt g hg).1; omega))
        exact ⟨k2, n2, s2, m2, a2, cap2, i + 1, _, Hid.mk (by omega), hown4, hlt, set4_block eb, hs3', hl3', Hid.mk hh1.out, hh2, Hid.mk (hsd.out.step (by have := hown.1; simpa [Nat.mul_comm] using this) (fun h => hh.out ▸ hh5.out)), Below.set4 hb3 (Nat.le_refl _)⟩
      case measure => omega
    · have hno := items_no (n := n') (s := s') hc
      have hr1 : Hid (i = its.length) := Hid.mk (by
        have := congrArg List.length hit.out
        rw [hno.1, List.length_nil, List.length_drop] at this
        omega)
      have hr2 : Hid (k' = (Tm.mk k n s l).last) := Hid.mk (by rw [← hla.out, hno.2])
      clear hno hit hla hsz2
      obtain ⟨ar, cr, rfl, hlr⟩ := owns_lst (l := its) (w := w) (S := S') (by rw [← hr1.out]; exact hown) (fun q hq => hsd.out q (by rw [hr1.out]; exact hq) hq) (fun b o v hb' hc => cell_below hb _ _ _ hc)
      have hlr := Hid.mk hlr
      by_cases hk : k' = 9
      · have hl2 : ¬ l'.length = 2 := fun h => hc ⟨hk, h⟩
        subst hk
        clear hc
        go_wp2
        go_ret2
        exact ⟨⟨none, 0, Or.inr ⟨by rw [← hr2.out]; omega, rfl⟩⟩, hb⟩
      · clear hc
        by_cases hk8 : k' = 8
        · subst hk8
          go_wp2
          go_ret2
          exact ⟨⟨ar, cr, Or.inl ⟨hr2.out.symm, rfl, hlr.out.is⟩⟩, hb⟩
        · go_wp2
          go_ret2
          exact ⟨⟨none, 0, Or.inr ⟨by rw [← hr2.out]; exact hk8, rfl⟩⟩, hb⟩

end Go.Proofs.YtnpnbonodkpkdaaDoor
