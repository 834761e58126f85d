/-
  A term's inner terms are written over: what that leaves.
-/
import Derived.Test.YteklhipcojioaaaDoorZTermSameP
namespace Go.Proofs.YteklhipcojioaaaDoor
open Go.RowKit Go.Deep

/-- Nothing has been written but to blocks from lo on, below hi. -/
structure Over (lo hi : Nat) (w w' : World) : Prop where
  os : w'.os = w.os
  tape : w'.tape = w.tape
  output : w'.output = w.output
  size : w.heap.size ≤ w'.heap.size
  block : ∀ k, k < w.heap.size → ¬ (lo ≤ k ∧ k < hi) → w'.heap[k]? = w.heap[k]?
theorem Over.trans {lo hi lo' hi' : Nat} {a b c : World} (h : Over lo hi a b) (h' : Over lo' hi' b c) (h1 : lo ≤ lo') (h2 : hi' ≤ hi) : Over lo hi a c :=
  ⟨h'.os.trans h.os, h'.tape.trans h.tape, h'.output.trans h.output, Nat.le_trans h.size h'.size, fun k hk hn => (h'.block k (Nat.lt_of_lt_of_le hk h.size) (by omega)).trans (h.block k hk hn)⟩
theorem Over.of {lo hi : Nat} {w w' : World} (h : Below w.heap.size w w') : Over lo hi w w' := ⟨h.os, h.tape, h.output, h.size, fun k hk _ => h.block k hk⟩
theorem Over.put4 {lo hi : Nat} {a w : World} {b o : Nat} {v0 v1 v2 v3 : Value} (h : Over lo hi a w) (hb : lo ≤ b ∧ b < hi) : Over lo hi a (put4 w b o v0 v1 v2 v3) :=
  ⟨h.os, h.tape, h.output, by rw [put4_size]; exact h.size, fun k hk hn => (put4_heap _ _ _ _ _ _ _ _ (fun e => hn (by subst e; exact hb))).trans (h.block k hk hn)⟩
theorem Over.below {lo hi : Nat} {w w' : World} (h : Over lo hi w w') {B : Nat} (h1 : B ≤ lo) (h2 : B ≤ w.heap.size) : Below B w w' := ⟨h.os, h.tape, h.output, h.size, fun k hk => h.block k (by omega) (by omega)⟩

set_option maxHeartbeats 2000000 in
theorem overTerm_any (T : Tm) : ∀ (lo hi : Nat) (v : Value) (w : World), hi ≤ w.heap.size → Own w T lo hi v →
    Calls Tryd.prog 47 #[v] w fun e w' => (∃ u, e = .returned u) ∧ Over lo hi w w' := by
  induction T using Tm.induct with
  | h k n s l ih0 =>
    have ih := Hid.mk ih0
    clear ih0
    intro lo hi v w hhi hown
    obtain ⟨sv, rfl, hs, xs, h3, h4, h5⟩ := hown.out
    clear hown
    rcases h3 with ⟨hx, ⟨rfl, hn⟩ | ⟨g, cap, cur, rfl, hb, hg, hc, hm, hcs, htk⟩⟩
    · have : l = [] := List.eq_nil_of_length_eq_zero hn
      subst this
      go_enter Tryd.func47, Tryd.ntmps47
      go_wp2
      go_loopw [2] (fun ii wr => ii = .int .i64 0 ∧ wr = w.alloc (.cells #[.int .i64 k, .int .i64 n, .string s, .slice none 0 0] 32)) (fun _ _ => 0)
      case atStart => exact ⟨rfl, rfl⟩
      case round =>
        obtain ⟨rfl, rfl⟩ := hrel
        go_wp2
        go_end0
        exact ⟨⟨_, rfl⟩, Over.of ((Below.refl _ _).alloc (Nat.le_refl _) _)⟩
    · have hgi : lo ≤ g ∧ g < hi := ⟨hb, h4 g rfl⟩
      have hlen : l.length ≤ 9223372036854775807 := by unfold maxLen at hm; omega
      have hxs : ∀ j u, xs[j]? = some u → cur[j]? = some u := fun j u hu => by
        rw [← htk, List.getElem?_take] at hu
        split at hu
        · simpa using hu
        · cases hu
      have hxs := Hid.mk hxs
      have hkid : Kids w l lo hi (some g) xs := h5
      have hcsz : Hid (l.length * 4 ≤ cur.size) := Hid.mk (by rw [hcs]; exact Nat.mul_le_mul_right 4 hc)
      have hxl := Hid.mk hx
      clear h4 h5 htk hx hcs
      go_enter Tryd.func47, Tryd.ntmps47
      go_wp2
      go_loopw [2] (fun ii wr => ∃ (i li : Nat) (c : Array Value), ii = .int .i64 i ∧ i ≤ l.length ∧ lo ≤ li ∧ Hid (Kids wr (l.drop i) li hi (some g) (xs.drop (i * 4))) ∧ wr.heap[g]? = some (.cells c 32 (0, 0)) ∧ Hid (c.size = cur.size) ∧ Hid (∀ j, i * 4 ≤ j → c[j]? = cur[j]?) ∧
        wr.heap[w.heap.size]? = some (.cells #[.int .i64 k, .int .i64 n, .string s, .slice (some ⟨g, 0, none⟩) l.length cap] 32) ∧ Over lo hi w wr) (fun ii _ => l.length - (intOf ii).toNat)
      case atStart =>
        exact ⟨0, lo, cur, rfl, Nat.zero_le _, Nat.le_refl _, Hid.mk (by simpa using Kids.move (Nat.le_refl _) (Nat.le_refl _) (fun k _ h2 _ => Below.heap_alloc w _ k (Nat.lt_of_lt_of_le h2 hhi)) (fun _ h => Or.inl h) hkid), (Below.heap_alloc w _ g (by omega)).trans hg, Hid.mk rfl, Hid.mk (fun _ _ => rfl), new_block _ _, Over.of ((Below.refl _ _).alloc (Nat.le_refl _) _)⟩
      case round =>
        obtain ⟨i, li, c, rfl, hi', hlo, hkr, hgr, hcr, hcc, hbox, hov⟩ := hrel
        obtain ⟨⟨g0, g1, g2, g3⟩, f0, f1, f2, f3⟩ := kept4 hbox (Below.refl _ _)
        have hzr := hov.size
        by_cases hlt : i < l.length
        · have hkd := hkr.out
          rw [List.drop_eq_getElem_cons hlt, Kids] at hkd
          obtain ⟨v0, v1, v2, v3, ys, c1, d1, hys, p1, p2, p3, p4, p5, p6⟩ := hkd
          have hgo : ¬ (c1 ≤ g ∧ g < d1) := p4 g rfl
          have hat : ∀ o u, (v0 :: v1 :: v2 :: v3 :: ys)[o]? = some u → wr.cell? ⟨g, i * 4 + o, none⟩ = some u := fun o u hu => by
            rw [cell_of_row wr g _ c 32 (0, 0) hgr, hcc.out _ (by omega)]
            refine hxs.out _ _ ?_
            rw [← hys, List.getElem?_drop] at hu
            exact hu
          have e0 : wr.cell? ⟨g, i * 4, none⟩ = some v0 := hat 0 v0 rfl
          have e1 : wr.cell? ⟨g, i * 4 + 1, none⟩ = some v1 := hat 1 v1 rfl
          have e2 : wr.cell? ⟨g, i * 4 + 2, none⟩ = some v2 := hat 2 v2 rfl
          have e3 : wr.cell? ⟨g, i * 4 + 3, none⟩ = some v3 := hat 3 v3 rfl
          have hyd : Hid (ys = xs.drop ((i + 1) * 4)) := Hid.mk (by
            have := congrArg (List.drop 4) hys
            rw [List.drop_drop] at this
            rw [show (i + 1) * 4 = i * 4 + 4 by omega, this]
            rfl)
          have hcall := Hid.mk (ih.out l[i] (List.getElem_mem hlt) c1 d1 (.agg #[v0, v1, v2, v3]) wr (by omega) p5)
          have p6 := Hid.mk p6
          have hgw : g < w.heap.size := by omega
          have hgb : g ≠ w.heap.size := by omega
          clear hys p4 p5 hat hkr
          go_wp2_with (go_at_call 47; refine hcall.out.mono ?_; rintro e w2 ⟨⟨u2, rfl⟩, ho2⟩; have eg := (ho2.block g (by omega) hgo).trans hgr; have eb := (ho2.block w.heap.size (Array.getElem?_eq_some_iff.1 hbox).1 (by omega)).trans hbox; obtain ⟨⟨q0, q1, q2, q3⟩, r0, r1, r2, r3⟩ := kept4 eb (Below.refl _ _); have frn : ∀ j, w2.frozen? ⟨g, j, none⟩ = false := fun j => (by simp [World.frozen?, eg]); have isn : ∀ j, j < l.length * 4 → ∃ u, w2.cell? ⟨g, j, none⟩ = some u := fun j hj => ⟨_, (cell_of_row w2 g j c 32 (0, 0) eg).trans (Array.getElem?_eq_getElem (by rw [hcr.out]; exact Nat.lt_of_lt_of_le hj hcsz.out))⟩; obtain ⟨z0, y0⟩ := isn (i * 4) (by omega); obtain ⟨z1, y1⟩ := isn (i * 4 + 1) (by omega); obtain ⟨z2, y2⟩ := isn (i * 4 + 2) (by omega); obtain ⟨z3, y3⟩ := isn (i * 4 + 3) (by omega); have fr0 := frn (i * 4); have fr1 := frn (i * 4 + 1); have fr2 := frn (i * 4 + 2); have fr3 := frn (i * 4 + 3); clear isn frn)
          go_roundw
          case rel =>
            have hz2 := ho2.size
            refine ⟨i + 1, d1, _, by go_num, hlt, by omega, Hid.mk ?_, put4_block eg, Hid.mk (by simpa using hcr.out), Hid.mk (fun j hj => ?_), (put4_heap _ _ _ _ _ _ _ _ (Ne.symm hgb)).trans eb, (hov.trans ho2 (by omega) p3).put4 hgi⟩
            · rw [← hyd.out]
              exact Kids.move (Nat.le_refl _) (Nat.le_refl _) (fun k h1 h2 h3 => (put4_heap _ _ _ _ _ _ _ _ (fun e => h3 (by rw [e]))).trans (ho2.block k (by omega) (by omega))) (fun _ h => Or.inl h) p6.out
            · rw [← hcc.out j (by omega)]
              simp only [Array.getElem?_setIfInBounds]
              rw [if_neg (by omega), if_neg (by omega), if_neg (by omega), if_neg (by omega)]
          case measure => simp [intOf]; omega
        · go_wp2
          go_end0
          exact ⟨⟨_, rfl⟩, hov⟩

end Go.Proofs.YteklhipcojioaaaDoor
