/-
  A term of which one part is turned is another term.
-/
import Derived.Test.YtnpnbonodkpkdaaDoorTermMakes2
import Derived.Test.YtnpnbonodkpkdaaDoorTermOver
import Derived.Laws.Bits64
namespace Go.Proofs.YtnpnbonodkpkdaaDoor
open Go.RowKit Go.Deep

theorem bits_turn (n : Int) : bits .xor .i64 n 1 ≠ n ∧ -9223372036854775808 ≤ bits .xor .i64 n 1 ∧ bits .xor .i64 n 1 ≤ 9223372036854775807 := by
  have e : bits .xor .i64 n 1 = IntKind.i64.wrap ((BitVec.ofInt 64 n ^^^ BitVec.ofInt 64 1).toNat : Int) := rfl
  rw [e]
  generalize hx : BitVec.ofInt 64 n ^^^ BitVec.ofInt 64 1 = x
  have hlt := x.isLt
  have hw := IntKind.wrap_i64 (x.toNat : Int)
  have hback : BitVec.ofInt 64 (IntKind.i64.wrap (x.toNat : Int)) = x := by
    apply BitVec.eq_of_toNat_eq
    rw [BitVec.toNat_ofInt, hw]
    omega
  refine ⟨fun h => ?_, by omega, by omega⟩
  rw [h] at hback
  rw [hback] at hx
  have := congrArg (x ^^^ ·) hx
  simp only [← BitVec.xor_assoc, BitVec.xor_self, BitVec.zero_xor] at this
  exact absurd this (by decide)

set_option maxHeartbeats 2000000 in
theorem turned0 (k n : Int) (s : ByteArray) (a : Option Addr) (m cap : Nat) (w : World) :
    Calls Tryd.prog 38 #[.agg #[.int .i64 k, .int .i64 n, .string s, .slice a m cap], .int .i64 0] w fun e w' => e = .returned (.agg #[.int .i64 k, .int .i64 (bits .xor .i64 n 1), .string s, .slice a m cap]) ∧ Below w.heap.size w w' := by
  go_enter Tryd.func38, Tryd.ntmps38
  go_wp2
  exact ret_fresh (w := w.alloc _) rfl (by simp) rfl ⟨rfl, ((Below.refl _ _).alloc (Nat.le_refl _) _).alloc (by simp) _⟩

theorem owns_some {w : World} {base : Nat} {sv : Value} {n : Nat} {xs : List Value} (h : w.ownsRow base 24 4 sv n xs) (hn : 0 < n) :
    ∃ g cap cur, sv = .slice (some ⟨g, 0, none⟩) n cap ∧ base ≤ g ∧ w.heap[g]? = some (.cells cur 24 (0, 0)) ∧ n ≤ cap ∧ cap ≤ 9223372036854775807 ∧ n * 4 ≤ cur.size ∧ ∀ (j : Nat) (u : Value), xs[j]? = some u → cur[j]? = some u := by
  rcases h.2 with ⟨_, h0⟩ | ⟨g, cap, cur, h1, h2, h3, h4, h5, h6, h7⟩
  · omega
  · refine ⟨g, cap, cur, h1, h2, h3, h4, by unfold maxLen at h5; omega, by rw [h6]; exact Nat.mul_le_mul_right 4 h4, fun (j : Nat) (u : Value) hu => ?_⟩
    rw [← h7, List.getElem?_take] at hu
    split at hu
    · simpa using hu
    · cases hu

/-- A slice of which one element has been replaced. -/
theorem lst_set {w w' : World} {S : Nat → Prop} {l : List Tm} {g cap i : Nat} {cur : Array Value} {xs : List Value} {T' : Tm} {u0 u1 u2 u3 : Value} (hi : i < l.length) (hcap : l.length ≤ cap) (hcap2 : cap ≤ 9223372036854775807)
    (hcur : ∀ (j : Nat) (u : Value), xs[j]? = some u → cur[j]? = some u) (hsz : l.length * 4 ≤ cur.size) (hxl : ∀ q (hq : q < l.length), ∃ v0 v1 v2 v3, xs[q * 4]? = some v0 ∧ xs[q * 4 + 1]? = some v1 ∧ xs[q * 4 + 2]? = some v2 ∧ xs[q * 4 + 3]? = some v3 ∧ Lies w S l[q] (.agg #[v0, v1, v2, v3]))
    (hrow : w'.heap[g]? = some (.cells ((((cur.setIfInBounds (i * 4) u0).setIfInBounds (i * 4 + 1) u1).setIfInBounds (i * 4 + 2) u2).setIfInBounds (i * 4 + 3) u3) 24 (0, 0)))
    {S' : Nat → Prop} (hS : ∀ b, S b → S' b) (hw : ∀ b o v, S b → w.cell? ⟨b, o, none⟩ = some v → w'.cell? ⟨b, o, none⟩ = some v) (hg : S' g) (hT : Lies w' S' T' (.agg #[u0, u1, u2, u3])) : Lst w' S' (l.set i T') (some ⟨g, 0, none⟩) cap := by
  refine ⟨by rw [List.length_set]; exact hcap, hcap2, Or.inr ⟨_, rfl, fun _ => ⟨hg, rfl⟩, Row.of fun q hq => ?_⟩⟩
  rw [List.length_set] at hq
  have hcell : ∀ j, w'.cell? ⟨g, 0 + j, none⟩ = _ := fun j => cell_of_row w' g (0 + j) _ 24 (0, 0) hrow
  simp only [Nat.zero_add] at hcell
  rw [Nat.zero_add]
  by_cases hqi : q = i
  · subst hqi
    refine ⟨u0, u1, u2, u3, ?_, ?_, ?_, ?_, by rw [List.getElem_set_self]; exact hT⟩
    all_goals (rw [hcell]; simp only [Array.getElem?_setIfInBounds, Array.size_setIfInBounds]; simp; omega)
  · obtain ⟨v0, v1, v2, v3, e0, e1, e2, e3, hL⟩ := hxl q hq
    refine ⟨v0, v1, v2, v3, ?_, ?_, ?_, ?_, by rw [List.getElem_set_ne (Ne.symm hqi)]; exact hL.move hS hw _ _⟩
    all_goals
      rw [hcell]
      simp only [Array.getElem?_setIfInBounds, Array.size_setIfInBounds]
      rw [if_neg (by omega), if_neg (by omega), if_neg (by omega), if_neg (by omega)]
      exact hcur _ _ (by assumption)
theorem sizes_set (l : List Tm) (i : Nat) (hi : i < l.length) (T : Tm) (h : T.size = l[i].size) : sizes (l.set i T) = sizes l := by
  induction l generalizing i with
  | nil => cases hi
  | cons t r ih =>
    cases i with
    | zero => simp only [List.set_cons_zero, sizes]; rw [h]; rfl
    | succ i => simp only [List.set_cons_succ, sizes]; rw [ih i (by simpa using hi) (by simpa using h)]

set_option maxHeartbeats 4000000 in
theorem turned_any (T : Tm) : ∀ (n : Int) (S : Nat → Prop) (v : Value) (w : World), T.size ≤ 400 → 0 ≤ n → n < T.size → Lies w S T v →
    Calls Tryd.prog 38 #[v, .int .i64 n] w fun e w' => (∃ T', Made S w T' e w' ∧ T' ≠ T ∧ T'.size = T.size) ∧ Below w.heap.size w w' := by
  induction T using Tm.induct with
  | h k z s l ih0 =>
    have ih := Hid.mk ih0
    clear ih0
    intro n S v w hsz hn0 hn1 hv0
    by_cases hz : n = 0
    · subst hz
      obtain ⟨a, cap, rfl, hs, hl⟩ := hv0.out
      refine (turned0 k z s a _ cap w).mono ?_
      rintro e w' ⟨rfl, hb⟩
      have hbt := bits_turn z
      refine ⟨⟨.mk k (bits .xor .i64 z 1) s l, ⟨_, rfl, Lies.mk ⟨hs.k0, hs.k1, hbt.2.1, hbt.2.2, hs.s1⟩ ((hl.below hb).wider (fun b hb => Or.inl hb))⟩, fun e => hbt.1 (by injection e), by rw [Tm.size_mk, Tm.size_mk]⟩, hb⟩
    · have hv := hv0.inside
      obtain ⟨a, cap, rfl, hs, hl⟩ := hv.out
      obtain ⟨i0, hi0, hz0, hz1, hby⟩ := info_at termInfo
      rw [Tm.size_mk] at hsz hn1
      have hll := length_sizes l
      have hpos : 0 < l.length := by
        rcases Nat.eq_zero_or_pos l.length with h | h
        · have := List.eq_nil_of_length_eq_zero h
          subst this
          simp only [sizes] at hn1
          omega
        · exact h
      obtain ⟨b, o, rfl, hSb, hrow⟩ := hl.some hpos
      obtain ⟨xs, hx, hxc, hx1, hxl⟩ := hrow.list
      have hbw := hSb.2
      have hz' : ¬ n = 0 := hz
      clear hv0 hv hz
      obtain ⟨W0, hW0⟩ : ∃ W0, (w.alloc (.cells #[.int .i64 k, .int .i64 z, .string s, .slice (some ⟨b, o, none⟩) l.length cap] 24)).alloc zeroTerm = W0 := ⟨_, rfl⟩
      have hb0 : Up w W0 := by rw [← hW0]; exact (Up.refl w).alloc.alloc
      have hz0w : W0.heap.size = w.heap.size + 1 + 1 := by rw [← hW0]; simp
      have hbx0 : W0.heap[w.heap.size]? = some (.cells #[.int .i64 k, .int .i64 z, .string s, .slice (some ⟨b, o, none⟩) l.length cap] 24) := by rw [← hW0]; exact new_block1 _ _ _
      have hrs0 : W0.heap[w.heap.size + 1]? = some zeroTerm := by rw [← hW0]; exact new_block2 _ _ _
      have hown0 : (W0.alloc (.cells #[] 24)).ownsRow (w.heap.size + 2) 24 4 (.slice (some ⟨W0.heap.size, 0, none⟩) 0 0) 0 [] := World.ownsRow_made W0 #[] 0 (by omega) (Nat.zero_le _) rfl
      have hW0h := Hid.mk hW0
      have hxc' : ∀ j u, xs[j]? = some u → (W0.alloc (.cells #[] 24)).cell? ((⟨b, o, none⟩ : Addr).add j) = some u := fun j u hu => by
        rw [WideShapes.add_plain]
        exact cell_below hb0.alloc.out _ _ _ (hxc j u hu)
      have hxc' := Hid.mk hxc'
      have hcapb := hl.2.1
      have hlcap := hl.1
      have hxl := Hid.mk hxl
      obtain ⟨q0, q1, q2, q3⟩ := ((Up.refl W0).alloc (o := .cells #[] 24)).four hbx0
      have hz0h := Hid.mk hz0w
      have hbase : w.heap.size + 2 ≤ (W0.alloc (.cells #[] 24)).heap.size := by rw [World.size_alloc]; omega
      have hbase0 : W0.heap.size ≤ (W0.alloc (.cells #[] 24)).heap.size := by rw [World.size_alloc]; omega
      clear hW0 hxc hrow hz0w
      go_enter Tryd.func38, Tryd.ntmps38
      go_upto_region 4 with fail
      rw [hW0h.out]
      go_wp2_with (at_builtin; refine wpList_append_own_at _ rfl _ _ 22 rfl (w.heap.size + 2) 24 i0 _ 4 56 Tryd.underlying22 hi0 hz0 hz1 hby rfl (by decide) _ 0 [] rfl hown0 ⟨b, o, none⟩ l.length cap xs rfl hx hxc'.out hx1 (by unfold maxLen; omega) (by omega) hbase ?_; intro v' w3 hown' hgrow hnil hat; have hb3 : Up W0 w3 := (((Below.refl W0.heap.size W0).alloc (Nat.le_refl _) _)).grown hgrow hbase0 (fun k hk => by cases hk; exact Nat.le_refl _); obtain ⟨g, cap', cur, rfl, hbg, hgg, hcc, hmm, hcs, hcu⟩ := owns_some hown' (by omega); have eb := (hb3.out.block _ (Array.getElem?_eq_some_iff.1 hbx0).1).trans hbx0; obtain ⟨⟨q0, q1, q2, q3⟩, r0, r1, r2, r3⟩ := kept4 eb (Below.refl _ _))
      simp only [Nat.zero_add, List.nil_append] at hcc hcs hcu
      obtain ⟨w5, hw5⟩ : ∃ w5, w3.setCell ⟨w.heap.size, 3, none⟩ (.slice (some ⟨g, 0, none⟩) l.length cap') = w5 := ⟨_, rfl⟩
      rw [hw5]
      have hbw5 : Below w.heap.size w w5 := by rw [← hw5]; exact ((hb0.call hb3.out).out).setCell (p := ⟨w.heap.size, 3, none⟩) (Nat.le_refl _) _
      have hgl : g < w3.heap.size := (Array.getElem?_eq_some_iff.1 hgg).1
      have hsz5 : w5.heap.size = w3.heap.size := by rw [← hw5]; exact size_setCell' _ _ _
      have hbx5 : w5.heap[w.heap.size]? = some (.cells #[.int .i64 k, .int .i64 z, .string s, .slice (some ⟨g, 0, none⟩) l.length cap'] 24) := by
        rw [← hw5]; simp [World.setCell, Array.getElem?_modify, eb]
      have hgg5 : w5.heap[g]? = some (.cells cur 24 (0, 0)) := by rw [← hw5]; exact (Below.heap_setCell _ _ _ _ (by show g ≠ w.heap.size; omega)).trans hgg
      have hrs5 : w5.heap[w.heap.size + 1]? = some zeroTerm := by
        rw [← hw5]
        exact (Below.heap_setCell _ _ _ _ (by show w.heap.size + 1 ≠ w.heap.size; omega)).trans ((hb3.out.block _ (Array.getElem?_eq_some_iff.1 hrs0).1).trans hrs0)
      have hcu := Hid.mk hcu
      have hgw : w.heap.size + 2 ≤ g := hbg
      clear hw5 hgg eb hb3 hown' hgrow hnil hat hown0 hxc' hx hx1 hbx0 hrs0 q0 q1 q2 q3 r0 r1 r2 r3 hbase hbase0 hz0h hW0h hb0 hi0 hz0 hz1 hby
      go_loopw [1, 5] (fun nn ii wr => ∃ (i : Nat) (q : Int), i ≤ l.length ∧ ii = .int .i64 i ∧ nn = .int .i64 q ∧ 0 ≤ q ∧ q ≤ 400 ∧ Hid (q + sizes (l.take i) = n - 1) ∧ Up w5 wr) (fun _ ii _ => l.length - (intOf ii).toNat)
      case atStart => exact ⟨0, n - 1, Nat.zero_le _, rfl, rfl, by omega, by omega, Hid.mk (by simp [sizes]), Up.refl _⟩
      case round =>
        obtain ⟨i, q, hi, rfl, rfl, hq0, hq1, hqq, hur⟩ := hrel
        have hlt : i < l.length := by
          rcases Nat.lt_or_ge i l.length with h | h
          · exact h
          · have := hqq.out
            rw [List.take_of_length_le h] at this
            omega
        obtain ⟨v0, v1, v2, v3, x0, x1, x2, x3, hli⟩ := hxl.out i hlt
        have hsi := sizes_at l i hlt
        have hst := sizes_take l i hlt
        have hpi := (l[i]).size_pos
        have hgr := (hur.out.block _ (Array.getElem?_eq_some_iff.1 hgg5).1).trans hgg5
        obtain ⟨⟨g0, g1, g2, g3⟩, f0, f1, f2, f3⟩ := kept4 hbx5 hur.out
        have e0 : wr.cell? ⟨g, i * 4, none⟩ = some v0 := (cell_of_row wr g _ cur 24 (0, 0) hgr).trans (hcu.out _ _ x0)
        have e1 : wr.cell? ⟨g, i * 4 + 1, none⟩ = some v1 := (cell_of_row wr g _ cur 24 (0, 0) hgr).trans (hcu.out _ _ x1)
        have e2 : wr.cell? ⟨g, i * 4 + 2, none⟩ = some v2 := (cell_of_row wr g _ cur 24 (0, 0) hgr).trans (hcu.out _ _ x2)
        have e3 : wr.cell? ⟨g, i * 4 + 3, none⟩ = some v3 := (cell_of_row wr g _ cur 24 (0, 0) hgr).trans (hcu.out _ _ x3)
        have hlw : Hid (∀ W, Up w5 W → Lies W (fun b => S b ∧ b < w.heap.size) l[i] (.agg #[v0, v1, v2, v3])) := Hid.mk (fun W hW => (hli.below hbw5).below hW.out)
        have hpt := Hid.mk (fun W hW => parts_any l[i] _ _ 400 W (hlw.out W hW) (by omega) (by omega))
        have hcnt : cnt l[i].size 400 = l[i].size := by unfold cnt; omega
        rw [hcnt] at hpt
        obtain ⟨N, hN⟩ : ∃ N : Nat, l[i].size = N := ⟨_, rfl⟩
        rw [hN] at hpt hsi hst hpi
        have hNh := Hid.mk hN
        have hx0 := Hid.mk (⟨x0, x1, x2, x3⟩ : _ ∧ _ ∧ _ ∧ _)
        clear hli x0 x1 x2 x3 hcnt hN
        by_cases hm : q < (N : Int)
        · have hcall := Hid.mk (fun W hW => ih.out l[i] (List.getElem_mem hlt) q _ _ W (by have := hNh.out; omega) hq0 (by rw [hNh.out]; exact hm) (hlw.out W hW))
          have hgne : g ≠ w.heap.size := by omega
          have hgne1 : g ≠ w.heap.size + 1 := by omega
          go_wp2_with (go_at_call 40; refine (hpt.out _ hur).mono ?_; rintro e w6 ⟨rfl, hb⟩; have hur : Up w5 w6 := hur.call hb; have hgr := (hur.out.block _ (Array.getElem?_eq_some_iff.1 hgg5).1).trans hgg5; obtain ⟨⟨g0, g1, g2, g3⟩, f0, f1, f2, f3⟩ := kept4 hbx5 hur.out; have e0 := (cell_of_row w6 g _ cur 24 (0, 0) hgr).trans (hcu.out _ _ hx0.out.1); have e1 := (cell_of_row w6 g _ cur 24 (0, 0) hgr).trans (hcu.out _ _ hx0.out.2.1); have e2 := (cell_of_row w6 g _ cur 24 (0, 0) hgr).trans (hcu.out _ _ hx0.out.2.2.1); have e3 := (cell_of_row w6 g _ cur 24 (0, 0) hgr).trans (hcu.out _ _ hx0.out.2.2.2))
          go_region_with (go_at_call 38; refine (hcall.out _ (by first | exact hur | exact hur.drew)).mono ?_; rintro e w7 ⟨⟨T', ⟨v7, rfl, hL7⟩, hne7, hsT⟩, hb7⟩; obtain ⟨k7, n7, s7, a7, m7, c7, hv7⟩ := hL7.agg; subst hv7; have hu7 : Up w5 w7 := Up.call (W := w6.drew) hur.drew hb7; have hgr := (hu7.out.block _ (Array.getElem?_eq_some_iff.1 hgg5).1).trans hgg5; obtain ⟨⟨g0, g1, g2, g3⟩, f0, f1, f2, f3⟩ := kept4 hbx5 hu7.out; obtain ⟨⟨p0, p1, p2, p3⟩, o0, o1, o2, o3⟩ := kept4 hrs5 hu7.out; have frn : ∀ j, w7.frozen? ⟨g, j, none⟩ = false := fun j => (by simp [World.frozen?, hgr]); have isn : ∀ j, j < l.length * 4 → ∃ u, w7.cell? ⟨g, j, none⟩ = some u := fun j hj => ⟨_, (cell_of_row w7 g j cur 24 (0, 0) hgr).trans (Array.getElem?_eq_getElem (by omega))⟩; obtain ⟨z0, y0⟩ := isn (i * 4) (by omega); obtain ⟨z1, y1⟩ := isn (i * 4 + 1) (by omega); obtain ⟨z2, y2⟩ := isn (i * 4 + 2) (by omega); obtain ⟨z3, y3⟩ := isn (i * 4 + 3) (by omega); have fr0 := frn (i * 4); have fr1 := frn (i * 4 + 1); have fr2 := frn (i * 4 + 2); have fr3 := frn (i * 4 + 3); clear isn frn)
          all_goals go_wp2
          all_goals
            have hp : ∀ j, (put4 w7 g (i * 4) (.int .i64 k7) (.int .i64 n7) (.string s7) (.slice a7 m7 c7)).cell? ⟨w.heap.size + 1, j, none⟩ = w7.cell? ⟨w.heap.size + 1, j, none⟩ := fun j => World.cell?_of_block (a := ⟨w.heap.size + 1, j, none⟩) (put4_heap _ _ _ _ _ _ _ _ (Ne.symm hgne1))
            have hz5 := hbw5.size
            have hz6 := hur.out.size
            have hz7 := hu7.out.size
            have hg5 := (Array.getElem?_eq_some_iff.1 hgg5).1
            have hr5 := (Array.getElem?_eq_some_iff.1 hrs5).1
            have hbf := Below.set4 (b := w.heap.size + 1) (v0 := .int .i64 k) (v1 := .int .i64 z) (v2 := .string s) (v3 := .slice (some ⟨g, 0, none⟩) l.length cap') (Below.put4 (o := i * 4) (v0 := .int .i64 k7) (v1 := .int .i64 n7) (v2 := .string s7) (v3 := .slice a7 m7 c7) (hbw5.trans (hu7.out.mono hz5)) (by omega : w.heap.size ≤ g)) (Nat.le_succ _)
            refine ret_stored rfl rfl rfl ((hp 0).trans p0) ((hp 1).trans p1) ((hp 2).trans p2) ((hp 3).trans p3) ⟨⟨.mk k z s (l.set i T'), ⟨_, rfl, ?_⟩, ?_, ?_⟩, hbf⟩
            · have hlst := lst_set (w := w) (S := fun b => S b ∧ b < w.heap.size) (S' := fun b => S b ∨ w.heap.size ≤ b) hlt hcc hmm hcu.out hcs hxl.out ((set4_heap _ _ _ _ _ _ _ hgne1).trans (put4_block hgr)) (fun b hb => Or.inl hb.1) (fun b o v hb hc => cell_below hbf b o v hc) (Or.inr (by omega)) (hL7.move (fun b hb => hb.imp (fun h => h.1) (fun h => by have h' : w6.heap.size ≤ b := h; omega)) (fun b o v hb hc => by
                have hb1 : b ≠ g ∧ b ≠ w.heap.size + 1 := by
                  rcases hb with h | h
                  · exact ⟨by omega, by omega⟩
                  · have h' : w6.heap.size ≤ b := h
                    exact ⟨by omega, by omega⟩
                exact (World.cell?_of_block (w := w7) (a := ⟨b, o, none⟩) ((set4_heap _ _ _ _ _ _ _ hb1.2).trans (put4_heap _ _ _ _ _ _ _ _ hb1.1))).trans hc) _ _)
              have := Lies.mk hs hlst
              rwa [List.length_set] at this
            · intro e
              injection e with _ _ _ e
              have := congrArg (fun x => x[i]?) e
              simp only [List.getElem?_set_self hlt, List.getElem?_eq_getElem hlt, Option.some.injEq] at this
              exact hne7 this
            · rw [Tm.size_mk, Tm.size_mk, sizes_set l i hlt T' hsT]
        · have hqn : Hid (q - N + sizes (l.take (i + 1)) = n - 1) := Hid.mk (by have := hqq.out; omega)
          clear hst
          go_wp2_with (go_at_call 40; refine (hpt.out _ hur).mono ?_; rintro e w6 ⟨rfl, hb⟩; have hur := hur.call hb)
          go_roundw
          case rel => exact ⟨i + 1, q - N, hlt, by go_num, rfl, by omega, by omega, hqn, hur⟩
          case measure => simp [intOf]; omega

end Go.Proofs.YtnpnbonodkpkdaaDoor
