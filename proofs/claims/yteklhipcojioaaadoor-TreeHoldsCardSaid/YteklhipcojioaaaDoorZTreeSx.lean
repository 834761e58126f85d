/-
  The program's tree and the document's, side by side; lists written over; keys compared.
-/
import Derived.Test.YteklhipcojioaaaDoorZTreeTo
import Derived.Test.YteklhipcojioaaaDoorZTermOver
import Derived.Test.YteklhipcojioaaaDoorZTermMore
namespace Go.Proofs.YteklhipcojioaaaDoor
open Go.RowKit Go.Deep Go.Maps Go.WideShapes

theorem Over.only {lo hi : Nat} {w w' : World} (h : Over lo hi w w') : Only (fun k => lo ≤ k ∧ k < hi) w w' := ⟨h.os, h.tape, h.output, h.size, h.block⟩
theorem sameTermRefl (T : Tm) (S S' : Nat → Prop) (v u : Value) (w : World) (hv : Lies w S T v) (hu : Lies w S' T u) :
    Calls Tryd.prog 32 #[v, u] w fun e w' => e = .returned (.bool true) ∧ Below w.heap.size w w' := by
  have h := sameTerm_any T T S S' v u w hv hu
  rwa [eqB_refl] at h
theorem sameAllRefl (l : List Tm) (S S' : Nat → Prop) (a a' : Option Addr) (cap cap' : Nat) (w : World) (hl : Lst w S l a cap) (hl' : Lst w S' l a' cap') :
    Calls Tryd.prog 16 #[.slice a l.length cap, .slice a' l.length cap'] w fun e w' => e = .returned (.bool true) ∧ Below w.heap.size w w' := by
  have h := sameAll_any l l S S' a a' cap cap' w hl hl'
  rwa [eqL_refl] at h
set_option maxHeartbeats 2000000 in
theorem overAll_any (l : List Tm) (lo hi : Nat) (v : Value) (w : World) (hhi : hi ≤ w.heap.size) (hown : OwnL w l lo hi v) :
    Calls Tryd.prog 18 #[v] w fun e w' => (∃ u, e = .returned u) ∧ Over lo hi w w' := by
  obtain ⟨xs, h3, h4, h5⟩ := hown
  rcases h3 with ⟨hx, ⟨rfl, hn⟩ | ⟨g, cap, cur, rfl, hb, hg, hc, hm, hcs, htk⟩⟩
  · have : l = [] := List.eq_nil_of_length_eq_zero hn
    subst this
    clear h4 h5 hx hn hhi
    go_enter Tryd.func18, Tryd.ntmps18
    go_wp2
    go_loopw [2] (fun ii wr => ii = .int .i64 0 ∧ wr = w) (fun _ _ => 0)
    case atStart => exact ⟨rfl, rfl⟩
    case round =>
      obtain ⟨rfl, rfl⟩ := hrel
      go_wp2
      go_end0
      exact ⟨⟨_, rfl⟩, Over.of (Below.refl _ _)⟩
  · have hgi : lo ≤ g ∧ g < hi := ⟨hb, h4 g rfl⟩
    have hlen : l.length ≤ 9223372036854775807 := by unfold maxLen at hm; omega
    have hxs : ∀ j u, xs[j]? = some u → cur[j]? = some u := fun j u hu => by
      rw [← htk, List.getElem?_take] at hu
      split at hu
      · simpa using hu
      · cases hu
    have hxs := Hid.mk hxs
    have hkid : Kids w l lo hi (some g) xs := h5
    have hcsz : Hid (l.length * 4 ≤ cur.size) := Hid.mk (by rw [hcs]; exact Nat.mul_le_mul_right 4 hc)
    clear h4 h5 htk hx hcs
    go_enter Tryd.func18, Tryd.ntmps18
    go_wp2
    go_loopw [2] (fun ii wr => ∃ (i li : Nat) (c : Array Value), ii = .int .i64 i ∧ i ≤ l.length ∧ lo ≤ li ∧ Hid (Kids wr (l.drop i) li hi (some g) (xs.drop (i * 4))) ∧ wr.heap[g]? = some (.cells c 32 (0, 0)) ∧ Hid (c.size = cur.size) ∧ Hid (∀ j, i * 4 ≤ j → c[j]? = cur[j]?) ∧
      Over lo hi w wr) (fun ii _ => l.length - (intOf ii).toNat)
    case atStart =>
      exact ⟨0, lo, cur, rfl, Nat.zero_le _, Nat.le_refl _, Hid.mk (by simpa using hkid), hg, Hid.mk rfl, Hid.mk (fun _ _ => rfl), Over.of (Below.refl _ _)⟩
    case round =>
      obtain ⟨i, li, c, rfl, hi', hlo, hkr, hgr, hcr, hcc, hov⟩ := hrel
      have hzr := hov.size
      by_cases hlt : i < l.length
      · have hkd := hkr.out
        rw [List.drop_eq_getElem_cons hlt, Kids] at hkd
        obtain ⟨v0, v1, v2, v3, ys, c1, d1, hys, p1, p2, p3, p4, p5, p6⟩ := hkd
        have hgo : ¬ (c1 ≤ g ∧ g < d1) := p4 g rfl
        have hat : ∀ o u, (v0 :: v1 :: v2 :: v3 :: ys)[o]? = some u → wr.cell? ⟨g, i * 4 + o, none⟩ = some u := fun o u hu => by
          rw [cell_of_row wr g _ c 32 (0, 0) hgr, hcc.out _ (by omega)]
          refine hxs.out _ _ ?_
          rw [← hys, List.getElem?_drop] at hu
          exact hu
        have e0 : wr.cell? ⟨g, i * 4, none⟩ = some v0 := hat 0 v0 rfl
        have e1 : wr.cell? ⟨g, i * 4 + 1, none⟩ = some v1 := hat 1 v1 rfl
        have e2 : wr.cell? ⟨g, i * 4 + 2, none⟩ = some v2 := hat 2 v2 rfl
        have e3 : wr.cell? ⟨g, i * 4 + 3, none⟩ = some v3 := hat 3 v3 rfl
        have hyd : Hid (ys = xs.drop ((i + 1) * 4)) := Hid.mk (by
          have := congrArg (List.drop 4) hys
          rw [List.drop_drop] at this
          rw [show (i + 1) * 4 = i * 4 + 4 by omega, this]
          rfl)
        have hcall := Hid.mk (overTerm_any l[i] c1 d1 (.agg #[v0, v1, v2, v3]) wr (by omega) p5)
        have p6 := Hid.mk p6
        clear hys p4 p5 hat hkr
        go_wp2_with (go_at_call 47; refine hcall.out.mono ?_; rintro e w2 ⟨⟨u2, rfl⟩, ho2⟩; have eg := (ho2.block g (by omega) hgo).trans hgr; have frn : ∀ j, w2.frozen? ⟨g, j, none⟩ = false := fun j => (by simp [World.frozen?, eg]); have isn : ∀ j, j < l.length * 4 → ∃ u, w2.cell? ⟨g, j, none⟩ = some u := fun j hj => ⟨_, (cell_of_row w2 g j c 32 (0, 0) eg).trans (Array.getElem?_eq_getElem (by rw [hcr.out]; exact Nat.lt_of_lt_of_le hj hcsz.out))⟩; obtain ⟨z0, y0⟩ := isn (i * 4) (by omega); obtain ⟨z1, y1⟩ := isn (i * 4 + 1) (by omega); obtain ⟨z2, y2⟩ := isn (i * 4 + 2) (by omega); obtain ⟨z3, y3⟩ := isn (i * 4 + 3) (by omega); have fr0 := frn (i * 4); have fr1 := frn (i * 4 + 1); have fr2 := frn (i * 4 + 2); have fr3 := frn (i * 4 + 3); clear isn frn)
        go_roundw
        case rel =>
          have hz2 := ho2.size
          refine ⟨i + 1, d1, _, by go_num, hlt, by omega, Hid.mk ?_, put4_block eg, Hid.mk (by simpa using hcr.out), Hid.mk (fun j hj => ?_), (hov.trans ho2 (by omega) p3).put4 hgi⟩
          · rw [← hyd.out]
            exact Kids.move (Nat.le_refl _) (Nat.le_refl _) (fun k h1 h2 h3 => (put4_heap _ _ _ _ _ _ _ _ (fun e => h3 (by rw [e]))).trans (ho2.block k (by omega) (by omega))) (fun _ h => Or.inl h) p6.out
          · rw [← hcc.out j (by omega)]
            simp only [Array.getElem?_setIfInBounds]
            rw [if_neg (by omega), if_neg (by omega), if_neg (by omega), if_neg (by omega)]
        case measure => simp [intOf]; omega
      · go_wp2
        go_end0
        exact ⟨⟨_, rfl⟩, hov⟩
set_option maxHeartbeats 2000000 in
theorem three_any (T : Tm) (n : Int) (b : Bool) (lo hi : Nat) (F' : Nat → Prop) (av bv : Value) (w : World) (ha : Own w T lo hi av) (hi2 : hi ≤ w.heap.size) (hb : Lies w F' T bv) :
    Calls Tryd.prog 43 #[av, .int .i64 n, .bool b, bv, .int .i64 n, .bool b] w fun e w' => e = .returned (.bool true) ∧ Over lo hi w w' := by
  obtain ⟨ak, an, sa, aa, am, ac, rfl⟩ := ha.agg
  obtain ⟨bk, bn, bs, ba, bm, bc, rfl⟩ := hb.agg
  obtain ⟨nb, hnb⟩ : ∃ nb, w.heap.size = nb := ⟨_, rfl⟩
  obtain ⟨W1, hW1⟩ : ∃ W1, (w.alloc (.cells #[.int .i64 ak, .int .i64 an, .string sa, .slice aa am ac] 32)).alloc (.cells #[.int .i64 bk, .int .i64 bn, .string bs, .slice ba bm bc] 32) = W1 := ⟨_, rfl⟩
  have hu : Below w.heap.size w W1 := by rw [← hW1]; exact (Up.alloc (Up.alloc (Up.refl w))).out
  have g0 : W1.heap[nb]? = some (.cells #[.int .i64 ak, .int .i64 an, .string sa, .slice aa am ac] 32) := by rw [← hW1, ← hnb]; exact new_block1 _ _ _
  have g1 : W1.heap[nb + 1]? = some (.cells #[.int .i64 bk, .int .i64 bn, .string bs, .slice ba bm bc] 32) := by rw [← hW1, ← hnb]; exact new_block2 _ _ _
  have cf : ∀ {j c} {W : World}, W.heap[j]? = some (.cells c 32) → ∀ o, W.cell? ⟨j, o, none⟩ = c[o]? := fun h o => by simp [World.cell?, h]
  have a0 := cf g0 0
  have a1 := cf g0 1
  have a2 := cf g0 2
  have a3 := cf g0 3
  have c0 := cf g1 0
  have c1 := cf g1 1
  have c2 := cf g1 2
  have c3 := cf g1 3
  simp only [List.getElem?_toArray, List.getElem?_cons_zero, List.getElem?_cons_succ] at a0 a1 a2 a3 c0 c1 c2 c3
  have HS := Hid.mk (sameTermRefl T _ F' _ _ W1 ((Own.lies _ _ _ _ ha).below hu) (hb.below hu))
  have HO := Hid.mk (fun (W : World) (hW : Below W1.heap.size W1 W) => overTerm_any T lo hi _ W (by have := hu.size; have := hW.size; omega) (Own.move T lo hi lo hi _ (Nat.le_refl _) (Nat.le_refl _) (fun k _ h2 => (hW.block k (by have := hu.size; omega)).trans (hu.block k (by omega))) ha))
  have HU := Hid.mk hu
  have HW := Hid.mk (And.intro hW1 hnb)
  have HG := Hid.mk (And.intro a0 (And.intro a1 (And.intro a2 a3)))
  clear ha hi2 hb hu hnb hW1 g0 g1 cf
  go_enter Tryd.func43, Tryd.ntmps43
  go_upto_region 1 with fail
  rw [HW.out.1, HW.out.2]
  go_wp2_with (first
    | (go_at_call 47; refine (HO.out _ H2.out).mono ?_; rintro e w3 ⟨⟨u, rfl⟩, ho⟩; have H3 := Hid.mk ((Over.of (lo := lo) (hi := hi) (HU.out.trans (H2.out.mono HU.out.size))).trans ho (Nat.le_refl _) (Nat.le_refl _)); clear ho)
    | (go_at_call 32; refine HS.out.mono ?_; rintro e w2 ⟨rfl, hb⟩; have H2 := Hid.mk hb; replace a0 := cell_below hb _ _ _ a0; replace a1 := cell_below hb _ _ _ a1; replace a2 := cell_below hb _ _ _ a2; replace a3 := cell_below hb _ _ _ a3; clear hb))
  go_ret
  exact ⟨ret_bool (by simp), H3.out⟩

/-- Both, made since w; Sr: the document's memory; F: other blocks, which neither has. The document's keys lie in what was there. -/
structure Sx (w wr : World) (p q : Nat) (L Lr : List Nd) (c ht : Int) (Sr F : Nat → Prop) : Prop where
  tree : To w wr p L c ht (fun k => Sr k ∨ F k)
  rb : Rt wr q Lr (fun b => b < w.heap.size) Sr
  own : ∀ k, Sr k → w.heap.size ≤ k
  apart : ∀ k, F k → ¬ Sr k
theorem Rt.lt {w : World} {q : Nat} {L : List Nd} {F S : Nat → Prop} (h : Rt w q L F S) : ∀ k, S k → k < w.heap.size := let ⟨_, _, h⟩ := h; h.lt
section
variable {w wr w2 : World} {p q : Nat} {L Lr L' : List Nd} {c ht c' ht' : Int} {Sr F : Nat → Prop}
theorem Sx.up (h : Sx w wr p q L Lr c ht Sr F) (hb : Below wr.heap.size wr w2) : Sx w w2 p q L Lr c ht Sr F := ⟨h.tree.up hb, h.rb.up hb, h.own, h.apart⟩
theorem Sx.prog (h : Sx w wr p q L Lr c ht Sr F) (hl : To w w2 p L' c' ht' (fun k => Sr k ∨ F k)) (ho : Only (fun k => ¬ (Sr k ∨ F k)) wr w2) : Sx w w2 p q L' Lr c' ht' Sr F := ⟨hl, by
  obtain ⟨v, hs, hr⟩ := h.rb
  refine ⟨v, hs, ⟨ho.box hr.box (fun hn => hn (Or.inl hr.sq)), hr.row.kept ho (fun g hg hn => hn (Or.inl (hr.sv g hg).1)), hr.len, fun i h1 h2 => ⟨?_, (hr.keys i h1 h2).2⟩, hr.sq, hr.sv, fun k hk => Nat.lt_of_lt_of_le (hr.lt k hk) ho.size, hr.apart⟩⟩
  exact (hr.keys i h1 h2).1.move (fun _ h => h) (fun b o u hb hc => by
    have := h.tree.below
    have := hl.below
    have e1 := this.block b hb
    have e2 := h.tree.below.block b hb
    have e3 : w2.heap[b]? = wr.heap[b]? := e1.trans e2.symm
    rw [World.cell?_of_block (w := wr) (a := ⟨b, o, none⟩) e3]
    exact hc) _ _, h.own, h.apart⟩
/-- .. and what a call that looks has made is none of theirs. -/
theorem Sx.look (h : Sx w wr p q L Lr c ht Sr F) (hl : To w w2 p L' c' ht' (fun k => (Sr k ∨ F k) ∨ (wr.heap.size ≤ k ∧ k < w2.heap.size))) (ho : Only (fun k => ¬ (Sr k ∨ F k)) wr w2) : Sx w w2 p q L' Lr c' ht' Sr (fun k => F k ∨ (wr.heap.size ≤ k ∧ k < w2.heap.size)) := by
  have h0 := h.prog (hl.weaken (fun k hk => Or.inl hk)) ho
  refine ⟨hl.weaken (fun k hk => by rcases hk with e | e | e <;> simp [e]), h0.rb, h0.own, fun k hk hr => ?_⟩
  rcases hk with e | e
  · exact h.apart k e hr
  · have := h.rb.lt k hr; omega
theorem Sx.ref (h : Sx w wr p q L Lr c ht Sr F) (hs : StRt wr q L' (fun b => b < w.heap.size) Sr w2) : ∃ Sr', Sx w w2 p q L L' c ht Sr' F ∧ Only Sr wr w2 := by
  obtain ⟨Sr', h1, h2, h3⟩ := hs
  have hto := h.tree
  refine ⟨Sr', ⟨hto.app (T := Sr) (G := fun k => Sr' k ∨ F k) h2 (fun k hk => ⟨Or.inl hk, h.own k hk⟩) (fun k hk => ?_), h1, fun k hk => ?_, fun k hk hr => ?_⟩, h2⟩
  · rcases hk with hk | hk
    · refine ⟨?_, h1.lt k hk⟩
      rcases h3 k hk with e | e
      · exact Or.inl (Or.inl e)
      · exact Or.inr e
    · obtain ⟨⟨t, K, _, _, _, _, h5⟩, _⟩ := hto
      exact ⟨Or.inl (Or.inr hk), Nat.lt_of_lt_of_le (h5 k (Or.inr hk)).1 h2.size⟩
  · rcases h3 k hk with e | e
    · exact h.own k e
    · exact Nat.le_trans hto.below.size e
  · rcases h3 k hr with e | e
    · exact h.apart k hk e
    · obtain ⟨⟨t, K, _, _, _, _, h5⟩, _⟩ := hto
      have := (h5 k (Or.inr hk)).1; omega
theorem Sx.weaken {F' : Nat → Prop} (h : Sx w wr p q L Lr c ht Sr F) (hF : ∀ k, F' k → F k) : Sx w wr p q L Lr c ht Sr F' := ⟨h.tree.weaken (fun k hk => hk.imp id (hF k)), h.rb, h.own, fun k hk => h.apart k (hF k hk)⟩
/-- New blocks are none of theirs. -/
theorem Sx.more (h : Sx w wr p q L Lr c ht Sr F) (hb : Below wr.heap.size wr w2) (G : Nat → Prop) (hG : ∀ k, G k → wr.heap.size ≤ k ∧ k < w2.heap.size) : Sx w w2 p q L Lr c ht Sr (fun k => F k ∨ G k) :=
  ⟨(h.tree.more hb hG).weaken (fun k hk => by rcases hk with e | e | e <;> simp [e]), h.rb.up hb, h.own, fun k hk hr => by
    rcases hk with e | e
    · exact h.apart k e hr
    · have := h.rb.lt k hr; have := (hG k e).1; omega⟩
/-- Blocks that neither has are written over. -/
theorem Sx.over (h : Sx w wr p q L Lr c ht Sr F) {T : Nat → Prop} (ho : Only T wr w2) (hT : ∀ k, T k → F k ∧ w.heap.size ≤ k) : Sx w w2 p q L Lr c ht Sr F :=
  ⟨h.tree.over ho (fun k hk => ⟨Or.inl (Or.inr (hT k hk).1), (hT k hk).2⟩), h.rb.kept ho (fun k hk ht' => by
    rcases hk with e | e
    · exact h.apart k (hT k ht').1 e
    · have := (hT k ht').2; omega), h.own, h.apart⟩
end
end Go.Proofs.YteklhipcojioaaaDoor
