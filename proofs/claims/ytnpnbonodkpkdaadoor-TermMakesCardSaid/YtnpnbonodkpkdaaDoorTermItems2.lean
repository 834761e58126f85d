/-
  The items of a list, each a copy.
-/
import Derived.Test.YtnpnbonodkpkdaaDoorTermItems
namespace Go.Proofs.YtnpnbonodkpkdaaDoor
open Go.RowKit Go.Deep

theorem MixP.put {w w5 : World} {nb i : Nat} {l : List Tm} {c : Array Value} {t : TypeId} {v0 v1 v2 v3 : Value} (h : MixP w nb l i) (hi : i < l.length) (hb : Below w.heap.size w w5) (hc : w5.heap[nb]? = some (.cells c t (0, 0))) (hs : c.size = l.length * 4) (hnb : nb < w.heap.size)
    (hv : Lies w5 (fun b => w.heap.size ≤ b) l[i] (.agg #[v0, v1, v2, v3])) : MixP (put4 w5 nb (i * 4) v0 v1 v2 v3) nb l (i + 1) := by
  obtain ⟨⟨e0, e1, e2, e3⟩, eo⟩ := put4_cell (o := i * 4) (v0 := v0) (v1 := v1) (v2 := v2) (v3 := v3) hc (by omega)
  have far : ∀ (b o : Nat) (v : Value), nb < b → w5.cell? ⟨b, o, none⟩ = some v → (put4 w5 nb (i * 4) v0 v1 v2 v3).cell? ⟨b, o, none⟩ = some v := fun b o v hb hc => by
    rw [World.cell?_of_block (w := w5) (a := ⟨b, o, none⟩) (put4_heap _ _ _ _ _ _ _ _ (by show b ≠ nb; omega))]
    exact hc
  intro j hj hl
  by_cases hij : j = i
  · subst hij
    exact ⟨v0, v1, v2, v3, e0, e1, e2, e3, hv.move (fun b hb => by omega) (fun b o v hb hc => far b o v (by omega) hc) _ _⟩
  · obtain ⟨u0, u1, u2, u3, d0, d1, d2, d3, hL⟩ := h j (by omega) hl
    exact ⟨u0, u1, u2, u3, (eo _ (by omega)).trans (cell_below hb _ _ _ d0), (eo _ (by omega)).trans (cell_below hb _ _ _ d1), (eo _ (by omega)).trans (cell_below hb _ _ _ d2), (eo _ (by omega)).trans (cell_below hb _ _ _ d3),
      (hL.below hb).move (fun b hb => hb) (fun b o v hb hc => far b o v hb hc) _ _⟩

theorem MixP.same {w w' : World} {nb i : Nat} {l : List Tm} (h : MixP w nb l i) (hk : ∀ k, nb ≤ k → w'.heap[k]? = w.heap[k]?) : MixP w' nb l i := by
  have cm : ∀ (b o : Nat), nb ≤ b → w'.cell? ⟨b, o, none⟩ = w.cell? ⟨b, o, none⟩ := fun b o hb => World.cell?_of_block (w := w) (a := ⟨b, o, none⟩) (hk b hb)
  intro j hj hl
  obtain ⟨u0, u1, u2, u3, d0, d1, d2, d3, hL⟩ := h j hj hl
  exact ⟨u0, u1, u2, u3, (cm _ _ (Nat.le_refl _)).trans d0, (cm _ _ (Nat.le_refl _)).trans d1, (cm _ _ (Nat.le_refl _)).trans d2, (cm _ _ (Nat.le_refl _)).trans d3, hL.move (fun b hb => hb) (fun b o v hb hc => (cm b o (by omega)).trans hc) _ _⟩
theorem MixP.lst {w : World} {nb : Nat} {l : List Tm} {S : Nat → Prop} (h : MixP w nb l l.length) (hS : ∀ b, nb ≤ b → S b) (hl : l.length ≤ 9223372036854775807) : Lst w S l (some ⟨nb, 0, none⟩) l.length :=
  ⟨Nat.le_refl _, hl, Or.inr ⟨_, rfl, fun _ => ⟨hS _ (Nat.le_refl _), rfl⟩, Row.of fun i hi => by
    obtain ⟨u0, u1, u2, u3, d0, d1, d2, d3, hL⟩ := h i hi hi
    show ∃ v0 v1 v2 v3, w.cell? ⟨nb, 0 + i * 4, none⟩ = some v0 ∧ w.cell? ⟨nb, 0 + i * 4 + 1, none⟩ = some v1 ∧ w.cell? ⟨nb, 0 + i * 4 + 2, none⟩ = some v2 ∧ w.cell? ⟨nb, 0 + i * 4 + 3, none⟩ = some v3 ∧ _
    rw [Nat.zero_add]
    exact ⟨u0, u1, u2, u3, d0, d1, d2, d3, hL.wider (fun b hb => hS b (by omega))⟩⟩⟩

/-- A slice of terms and a bool have been returned. -/
def MadeI (S' : Nat → Prop) (T : Tm) (e : Ending) (w' : World) : Prop :=
  ∃ (l : List Tm) (a : Option Addr) (cap : Nat), e = .returned (.tuple #[.slice a l.length cap, .bool (T.last == 8)]) ∧ Lst w' S' l a cap ∧ l = (if T.last = 8 then T.items else [])

theorem lst_nil (w : World) (S : Nat → Prop) : Lst w S [] none 0 := ⟨Nat.le_refl _, by simp, Or.inl ⟨rfl, rfl, rfl⟩⟩

set_option maxHeartbeats 4000000 in
set_option maxRecDepth 100000 in
theorem items_any (T : Tm) (hsz : T.size ≤ 1000000) (hsh : T.Short) (S : Nat → Prop) (v : Value) (w : World) (hv0 : Lies w S T v) :
    Calls Tryd.prog 28 #[v] w fun e w' => MadeI (fun b => w.heap.size ≤ b) T e w' ∧ Below w.heap.size w w' := by
  have hv := hv0.inside
  have hlen := Hid.mk (fun (w1 : World) (hb : Below w.heap.size w w1) => length_any T hsz S v w1 (hv0.below hb))
  have hsz2 := items_size T
  have hTT : ∃ T0, T0 = T := ⟨_, rfl⟩
  obtain ⟨T0, hT0⟩ := hTT
  obtain ⟨k, n, s, l⟩ := T
  obtain ⟨a, cap, rfl, hs, hl⟩ := hv.out
  clear hv0 hv
  generalize hS' : (fun b => S b ∧ b < w.heap.size) = S' at hl
  have hS : ∀ b, S' b → b < w.heap.size := fun b hb => by rw [← hS'] at hb; exact hb.2
  clear hS'
  rw [← hT0] at hlen hsz2 hsz hsh ⊢
  obtain ⟨its, hits⟩ : ∃ its, its = T0.items := ⟨_, rfl⟩
  rw [← hits] at hlen hsz2
  cases hlast : (T0.last == 8) with
  | false =>
    rw [hlast] at hlen
    go_enter Tryd.func28, Tryd.ntmps28
    go_wp2_with (go_at_call 50; refine (hlen.out _ ((Below.refl _ _).alloc (Nat.le_refl _) _)).mono ?_; rintro e w1 ⟨rfl, hb⟩; have hb1 : Below w.heap.size w w1 := ((Below.refl _ _).alloc (Nat.le_refl _) _).trans (hb.mono (by simp)))
    go_ret2
    refine ⟨⟨[], none, 0, by rw [hlast]; rfl, lst_nil _ _, ?_⟩, hb1⟩
    rw [if_neg (fun h => by rw [h] at hlast; cases hlast)]
  | true =>
    have hl8 : T0.last = 8 := by simpa using hlast
    rw [hlast] at hlen
    obtain ⟨i0, hi0, hz0, hz1, hby⟩ := info_at termInfo
    have hN : its.length ≤ 1000000 := by omega
    obtain ⟨M, hM⟩ : ∃ M, M = madeCells (Value.agg #[.int .i64 0, .int .i64 0, .string ByteArray.empty, .slice none 0 0]).cells (((its.length : Nat) : Int).toNat * i0.size) := ⟨_, rfl⟩
    have hMs : M.size = its.length * 4 := by rw [hM, size_madeCells, hz1]; simp
    have hmk : ∀ W : World, (Instr.makeSlice 22 (.int .i64 (its.length : Int)) (.int .i64 (its.length : Int))).run Tryd.prog W = .ok (.slice (some ⟨W.heap.size, 0, none⟩) its.length its.length) (W.alloc (.cells M 24)) := fun W => by
      have h := run_make (P := Tryd.prog) W 22 24 i0 _ Tryd.underlying22 hi0 hz0 .i64 .i64 (its.length : Int) (its.length : Int) (by omega) (by omega) (by rw [hby]; omega) (by omega)
      rw [← hM] at h
      simpa using h
    have hM' := Hid.mk hMs
    clear hM hMs
    have hT0' := Hid.mk hT0
    have hits' := Hid.mk hits
    clear hlast hT0 hits
    go_enter Tryd.func28, Tryd.ntmps28
    go_wp2_with (go_at_call 50; refine (hlen.out _ ((Below.refl _ _).alloc (Nat.le_refl _) _)).mono ?_; rintro e w1 ⟨rfl, hb⟩; have hb1 : Below w.heap.size w w1 := ((Below.refl _ _).alloc (Nat.le_refl _) _).trans (hb.mono (by simp)); obtain ⟨⟨g0, g1, g2, g3⟩, f0, f1, f2, f3⟩ := kept4 (new_block w _) hb)
    obtain ⟨nb, hnb⟩ : ∃ nb, w1.heap.size = nb := ⟨_, rfl⟩
    obtain ⟨w2, hw2⟩ : ∃ w2, w1.alloc (.cells M 24) = w2 := ⟨_, rfl⟩
    rw [hw2, hnb]
    have hz1' : w.heap.size < w1.heap.size := by have := hb.size; rw [World.size_alloc] at this; omega
    have hz2' : w2.heap.size = nb + 1 := by rw [← hw2, World.size_alloc, hnb]
    have hb2 : Below w.heap.size w w2 := by rw [← hw2]; exact hb1.alloc (by omega) _
    have hnew : w2.heap[nb]? = some (.cells M 24 (0, 0)) := by rw [← hw2, ← hnb]; exact new_block _ _
    have hbox2 : w2.heap[w.heap.size]? = some (.cells #[.int .i64 k, .int .i64 n, .string s, .slice a l.length cap] 24) := by
      rw [← hw2]
      exact old_block ((hb.block _ (by simp)).trans (new_block _ _)) _
    have hnbw : w.heap.size < nb := by omega
    clear g0 g1 g2 g3 f0 f1 f2 f3 hlen hmk hw2
    go_loopw [19] (fun ii wr => ∃ (i : Nat) (k' n' : Int) (s' : ByteArray) (l' : List Tm) (a' : Option Addr) (cap' : Nat) (c : Array Value), ii = .int .i64 i ∧ i ≤ its.length ∧ wr.heap[w.heap.size]? = some (.cells #[.int .i64 k', .int .i64 n', .string s', .slice a' l'.length cap'] 24) ∧
      Small k' n' s' ∧ Lst wr S' l' a' cap' ∧ Hid ((Tm.mk k' n' s' l').items = its.drop i) ∧ Hid ((Tm.mk k' n' s' l').Short) ∧ Hid ((Tm.mk k' n' s' l').size ≤ 1000000) ∧ wr.heap[nb]? = some (.cells c 24 (0, 0)) ∧ Hid (c.size = its.length * 4) ∧ Hid (MixP wr nb its i) ∧ Below w.heap.size w wr) (fun ii _ => its.length - (intOf ii).toNat)
    case atStart => exact ⟨0, k, n, s, l, a, cap, M, rfl, Nat.zero_le _, hbox2, hs, hl.below hb2, Hid.mk (by rw [← hT0'.out, ← hits'.out]; rfl), Hid.mk (by rw [← hT0'.out]; exact hsh), Hid.mk (by rw [← hT0'.out]; exact hsz), hnew, hM', Hid.mk (fun j hj => by omega), hb2⟩
    case round =>
      obtain ⟨i, k', n', s', l', a', cap', c, rfl, hi, hbox, hs', hl', hit, hshq, hszq, hcn, hcs, hmx, hbq⟩ := hrel
      obtain ⟨⟨g0, g1, g2, g3⟩, f0, f1, f2, f3⟩ := kept4 hbox (Below.refl _ _)
      by_cases hlt : i < its.length
      · by_cases hc : k' = 9 ∧ l'.length = 2
        · obtain ⟨rfl, hc2⟩ := hc
          obtain ⟨x, y, rfl⟩ := two_of hc2
          have hdrop := hit.out
          rw [items_cons, List.drop_eq_getElem_cons hlt] at hdrop
          obtain ⟨hxe, hye⟩ := List.cons.inj hdrop
          obtain ⟨b, o, rfl, hSb, hrow⟩ := hl'.some (by simp)
          obtain ⟨k1, n1, s1, m1, a1, cap1, hT1, c0, c1, c2, c3, hli1⟩ := hrow.part 0 (by simp)
          obtain ⟨k2, n2, s2, m2, a2, cap2, hT2, d0, d1, d2, d3, hli2⟩ := hrow.part 1 (by simp)
          have hT1' : x = .mk k1 n1 s1 m1 := hT1
          have hT2' : y = .mk k2 n2 s2 m2 := hT2
          have hli1' : Lies wr S' x (.agg #[.int .i64 k1, .int .i64 n1, .string s1, .slice a1 m1.length cap1]) := hli1
          have hli2' : Lies wr S' y (.agg #[.int .i64 k2, .int .i64 n2, .string s2, .slice a2 m2.length cap2]) := hli2
          have hshl := ((Tm.short_mk _ _ _ _).1 hshq.out).2
          have hszl := hszq.out
          rw [Tm.size_mk] at hszl
          simp only [sizes] at hszl
          simp only [Shorts] at hshl
          have hcp := Hid.mk (copyC_any x (by omega) hshl.1 S' _ wr hli1')
          have hys : Hid (y.Short ∧ y.size ≤ 1000000) := Hid.mk ⟨hshl.2.1, by omega⟩
          have hbw := hS b hSb
          have e0 : wr.cell? ⟨b, o, none⟩ = some (.int .i64 k1) := (by simpa using c0)
          have e1 : wr.cell? ⟨b, o + 1, none⟩ = some (.int .i64 n1) := (by simpa using c1)
          have e2 : wr.cell? ⟨b, o + 2, none⟩ = some (.string s1) := (by simpa using c2)
          have e3 : wr.cell? ⟨b, o + 3, none⟩ = some (.slice a1 m1.length cap1) := (by simpa using c3)
          have hzr := hbq.size
          have hnbr : nb < wr.heap.size := (Array.getElem?_eq_some_iff.1 hcn).1
          have hxe' := Hid.mk hxe
          have hye' := Hid.mk hye
          have hli2h := Hid.mk hli2'
          have hT2h := Hid.mk hT2'
          clear hdrop hxe hye hT1 hT2 hT1' hT2' hli1 hli1' hli2 hli2' hshl hszl hit c0 c1 c2 c3 hc2
          have hne1 : nb ≠ b := by omega
          have hne2 : nb ≠ w.heap.size := by omega
          have hne3 : w.heap.size ≠ nb := by omega
          have hne4 : b ≠ nb := by omega
          have hne5 : b ≠ w.heap.size := by omega
          go_wp2_with (go_at_call 36; refine hcp.out.mono ?_; rintro e w5 ⟨⟨v5, rfl, hL5⟩, hb5⟩; obtain ⟨k5, n5, s5, a5, m5, p5, hvv⟩ : ∃ k5 n5 s5 a5 m5 p5, v5 = .agg #[.int .i64 k5, .int .i64 n5, .string s5, .slice a5 m5 p5] := (by cases x; obtain ⟨a4, p4, h4, _⟩ := hL5.out; exact ⟨_, _, _, _, _, _, h4⟩); subst hvv; have en := (hb5.block _ hnbr).trans hcn; have eb := (hb5.block _ (by omega)).trans hbox; obtain ⟨⟨q0, q1, q2, q3⟩, r0, r1, r2, r3⟩ := kept4 eb (Below.refl _ _); have u0 := cell_below hb5 _ _ _ d0; have u1 := cell_below hb5 _ _ _ d1; have u2 := cell_below hb5 _ _ _ d2; have u3 := cell_below hb5 _ _ _ d3; have frn : ∀ j, w5.frozen? ⟨nb, j, none⟩ = false := fun j => (by simp [World.frozen?, en]); have isn : ∀ j, j < its.length * 4 → ∃ u, w5.cell? ⟨nb, j, none⟩ = some u := fun j hj => ⟨_, (cell_of_row w5 nb j c 24 (0, 0) en).trans (Array.getElem?_eq_getElem (by rw [hcs.out]; exact hj))⟩; obtain ⟨z0, y0⟩ := isn (i * 4) (by omega); obtain ⟨z1, y1⟩ := isn (i * 4 + 1) (by omega); obtain ⟨z2, y2⟩ := isn (i * 4 + 2) (by omega); obtain ⟨z3, y3⟩ := isn (i * 4 + 3) (by omega); have fr0 := frn (i * 4); have fr1 := frn (i * 4 + 1); have fr2 := frn (i * 4 + 2); have fr3 := frn (i * 4 + 3); clear isn frn)
          go_roundw
          case rel =>
            have eb6 : (put4 w5 nb (i * 4) (.int .i64 k5) (.int .i64 n5) (.string s5) (.slice a5 m5 p5)).heap[w.heap.size]? = _ := (put4_heap _ _ _ _ _ _ _ _ hne3).trans eb
            have hsame7 : ∀ j, j ≠ nb → j ≠ w.heap.size → ((((((put4 w5 nb (i * 4) (.int .i64 k5) (.int .i64 n5) (.string s5) (.slice a5 m5 p5)).setCell ⟨w.heap.size, 0, none⟩ (.int .i64 k2)).setCell ⟨w.heap.size, 1, none⟩ (.int .i64 n2)).setCell ⟨w.heap.size, 2, none⟩ (.string s2)).setCell ⟨w.heap.size, 3, none⟩ (.slice a2 m2.length cap2))).heap[j]? = w5.heap[j]? := fun j h1 h2 => by
              rw [set4_heap _ _ _ _ _ _ _ h2, put4_heap _ _ _ _ _ _ _ _ h1]
            have hT2e := hT2h.out
            subst hT2e
            have hLy := ((hli2h.out.below hb5).move (fun _ h => h) (fun b o v hb hc => by rw [World.cell?_of_block (w := w5) (a := ⟨b, o, none⟩) (hsame7 b (by have := hS b hb; omega) (by have := hS b hb; omega))]; exact hc) _ _ : Lies _ S' (.mk k2 n2 s2 m2) _)
            obtain ⟨a3, cap3, hv3, hs3, hl3⟩ := hLy.out
            simp only [Value.agg.injEq, Array.mk.injEq, List.cons.injEq, Value.slice.injEq, true_and, and_true] at hv3
            obtain ⟨rfl, rfl⟩ := hv3
            have hmx6 := hmx.out.put hlt hb5 en hcs.out hnbr (by rw [← hxe'.out]; exact hL5)
            exact ⟨i + 1, k2, n2, s2, m2, a2, cap2, _, by go_num, by omega, set4_block eb6, hs3, hl3, Hid.mk hye'.out, Hid.mk hys.out.1, Hid.mk hys.out.2, (set4_heap _ _ _ _ _ _ _ hne2).trans (put4_block en), Hid.mk (by simpa using hcs.out),
              Hid.mk (hmx6.same (fun j hj => set4_heap _ _ _ _ _ _ _ (by omega))), Below.set4 (Below.put4 (hbq.trans (hb5.mono hzr)) (by omega)) (Nat.le_refl _)⟩
          case measure => simp [intOf]; omega
        · have hno := (items_no (n := n') (s := s') hc).1
          have hd := hit.out
          rw [hno, List.drop_eq_getElem_cons hlt] at hd
          cases hd
      · have hmx' := hmx
        obtain rfl : i = its.length := by omega
        have hres := hmx.out.lst (S := fun b => w.heap.size ≤ b) (fun b hb => by omega) (by omega)
        have hres' := Hid.mk hres
        clear hres
        go_wp2
        go_ret2
        exact ⟨⟨its, _, _, by rw [hl8]; rfl, hres'.out, by rw [if_pos hl8]; exact hits'.out⟩, hbq⟩

end Go.Proofs.YtnpnbonodkpkdaaDoor
