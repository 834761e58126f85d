/-
  How long a term may be: the statement's walk.
-/
import Derived.Test.YtnpnbonodkpkdaaDoorTermAwake
namespace Go.Proofs.YtnpnbonodkpkdaaDoor
open Go.RowKit Go.Deep

theorem MixP.lst0 {w : World} {nb : Nat} {l : List Tm} (h : MixP w nb l l.length) (hl : l.length ≤ 9223372036854775807) : Lst w (fun b => b = nb ∨ nb < b) l (some ⟨nb, 0, none⟩) l.length := h.lst (fun b hb => by omega) hl

theorem Lies.flat {w : World} {S S' : Nat → Prop} {k n : Int} {s : ByteArray} {v : Value} (h : Lies w S (.mk k n s []) v) : Lies w S' (.mk k n s []) v := by
  obtain ⟨a, cap, rfl, hs, h1, h2, h3⟩ := h.out
  refine Lies.mk hs ⟨h1, h2, ?_⟩
  rcases h3 with h3 | ⟨p, rfl, _, _⟩
  · exact Or.inl h3
  · exact Or.inr ⟨p, rfl, fun h => absurd rfl h, by rw [Row]; trivial⟩

/-- The same four cells again and again. -/
def Rep (xs : List Value) (k : Nat) (c0 c1 c2 c3 : Value) : Prop := ∀ j, j < k → xs[j * 4]? = some c0 ∧ xs[j * 4 + 1]? = some c1 ∧ xs[j * 4 + 2]? = some c2 ∧ xs[j * 4 + 3]? = some c3
theorem Rep.step {xs : List Value} {k : Nat} {c0 c1 c2 c3 : Value} (h : Rep xs k c0 c1 c2 c3) (hx : xs.length = k * 4) : Rep (xs ++ [c0, c1, c2, c3]) (k + 1) c0 c1 c2 c3 := by
  intro j hj
  by_cases hjk : j < k
  · obtain ⟨h0, h1, h2, h3⟩ := h j hjk
    refine ⟨?_, ?_, ?_, ?_⟩
    all_goals rw [List.getElem?_append_left (by omega)]; assumption
  · obtain rfl : j = k := by omega
    refine ⟨?_, ?_, ?_, ?_⟩
    all_goals rw [List.getElem?_append_right (by omega), hx]; simp

theorem sizes_ones (l : List Tm) (h : ∀ t ∈ l, t.size = 1) : sizes l = l.length := by
  induction l with
  | nil => simp [sizes]
  | cons t r ih =>
    rw [sizes, h t (by simp), ih (fun t ht => h t (List.mem_cons_of_mem _ ht)), List.length_cons]
    omega
theorem sizes_replicate (m : Nat) (t : Tm) : sizes (List.replicate m t) = m * t.size := by
  induction m with
  | zero => simp [sizes]
  | succ m ih => rw [List.replicate_succ, sizes, ih, Nat.succ_mul]; omega
theorem conses_size (l : List Tm) (T : Tm) : (conses l T).size = T.size + sizes l + l.length := by
  induction l with
  | nil => simp [conses, sizes]
  | cons t r ih =>
    show (Tm.mk 9 0 ⟨#[]⟩ [t, conses r T]).size = _
    rw [Tm.size_mk, sizes, sizes, sizes, sizes, ih, List.length_cons]
    omega

set_option maxHeartbeats 1000000 in
theorem termLong_any (items each : Int) (w : World) (ht : ShapeTab w) (h0 : 0 ≤ items) (h1 : items ≤ 2000) (h2 : 0 ≤ each) (h3 : each ≤ 70) :
    Calls Tryd.prog 4 #[.int .i64 items, .int .i64 each] w fun e w' => e = .returned (.bool true) ∧ Below w.heap.size w w' := by
  obtain ⟨n, rfl⟩ := Int.eq_ofNat_of_zero_le h2
  obtain ⟨m, rfl⟩ := Int.eq_ofNat_of_zero_le h0
  obtain ⟨i0, hi0, hz0, hz1, hby⟩ := info_at termInfo
  obtain ⟨M, hM⟩ : ∃ M, M = madeCells (Value.agg #[.int .i64 0, .int .i64 0, .string ByteArray.empty, .slice none 0 0]).cells (((n : Nat) : Int).toNat * i0.size) := ⟨_, rfl⟩
  have hMs : M.size = n * 4 := by rw [hM, size_madeCells, hz1]; simp
  have hmk : ∀ W : World, (Instr.makeSlice 22 (.int .i64 (n : Int)) (.int .i64 (n : Int))).run Tryd.prog W = .ok (.slice (some ⟨W.heap.size, 0, none⟩) n n) (W.alloc (.cells M 24)) := fun W => by
    have h := run_make (P := Tryd.prog) W 22 24 i0 _ Tryd.underlying22 hi0 hz0 .i64 .i64 (n : Int) (n : Int) (by omega) (by omega) (by rw [hby]; omega) (by omega)
    rw [← hM] at h
    simpa using h
  have hd1 : decide ((m : Int) < 0) = false := decide_eq_false (by omega)
  have hd2 : decide (2000 < (m : Int)) = false := decide_eq_false (by omega)
  have hd3 : decide ((n : Int) < 0) = false := decide_eq_false (by omega)
  have hd4 : decide (70 < (n : Int)) = false := decide_eq_false (by omega)
  obtain ⟨L, hL⟩ : ∃ L : List Tm, L = (List.range n).map (fun i : Nat => Tm.num (i : Int)) := ⟨_, rfl⟩
  have hLl : L.length = n := by rw [hL]; simp
  have hLi : ∀ i (hi : i < L.length), L[i] = .num (i : Int) := fun i hi => by subst hL; simp
  clear hM hL
  go_enter Tryd.func4, Tryd.ntmps4
  go_wp2_with (first
    | (go_at_call 19; refine (tup_any _ _ _ _).mono ?_; rintro e w7 ⟨rfl, hb⟩))
  have hz7 : w.heap.size < w7.heap.size := by have := hb.size; rw [World.size_alloc] at this; exact this
  have hb7 : Up w w7 := (Up.refl w).alloc.call hb
  have hn7 : w7.heap[w.heap.size]? = some (.cells M 24 (0, 0)) := (hb.block _ (by simp)).trans (new_block w _)
  obtain ⟨bx, hbx⟩ : ∃ bx, w7.heap.size = bx := ⟨_, rfl⟩
  obtain ⟨w8, hw8⟩ : ∃ w8, w7.alloc (.cells #[.int .i64 7, .int .i64 0, .string ⟨#[]⟩, .slice (some ⟨w.heap.size, 0, none⟩) n n] 24) = w8 := ⟨_, rfl⟩
  rw [hw8, hbx]
  have hb8 : Up w w8 := by rw [← hw8]; exact hb7.alloc
  have hn8 : w8.heap[w.heap.size]? = some (.cells M 24 (0, 0)) := by rw [← hw8]; exact old_block hn7 _
  have hx8 : w8.heap[bx]? = some (.cells #[.int .i64 7, .int .i64 0, .string ⟨#[]⟩, .slice (some ⟨w.heap.size, 0, none⟩) n n] 24) := by rw [← hw8, ← hbx]; exact new_block _ _
  have hbxw : w.heap.size < bx := by omega
  clear hw8 hb7 hn7 hb hz7 hmk
  go_loopw [6] (fun ii wr => ∃ (i : Nat) (c : Array Value), ii = .int .i64 i ∧ i ≤ n ∧ wr.heap[w.heap.size]? = some (.cells c 24 (0, 0)) ∧ Hid (c.size = n * 4) ∧ wr.heap[bx]? = some (.cells #[.int .i64 7, .int .i64 0, .string ⟨#[]⟩, .slice (some ⟨w.heap.size, 0, none⟩) n n] 24) ∧
    Hid (MixP wr w.heap.size L i) ∧ Up w wr) (fun ii _ => n - (intOf ii).toNat)
  case atStart => exact ⟨0, M, rfl, Nat.zero_le _, hn8, Hid.mk hMs, hx8, Hid.mk (fun j hj => by omega), hb8⟩
  case round =>
    obtain ⟨i, c, rfl, hi, hcn, hcs, hbox, hmx, hk⟩ := hrel
    obtain ⟨⟨g0, g1, g2, g3⟩, f0, f1, f2, f3⟩ := kept4 hbox (Below.refl _ _)
    by_cases hlt : i < n
    · have hzr := hk.out.size
      have hnr : w.heap.size < wr.heap.size := (Array.getElem?_eq_some_iff.1 hcn).1
      have hbr : bx < wr.heap.size := (Array.getElem?_eq_some_iff.1 hbox).1
      go_wp2
      go_region_with (go_at_call 20; refine (num_any _ _).mono ?_; rintro e w5 ⟨rfl, hb5'⟩; have hb5 : Below wr.heap.size wr w5 := (Below.refl wr.heap.size wr).drew.trans hb5'; have en := (hb5.block _ hnr).trans hcn; have eb := (hb5.block _ hbr).trans hbox; obtain ⟨⟨q0, q1, q2, q3⟩, r0, r1, r2, r3⟩ := kept4 eb (Below.refl _ _); have frn : ∀ j, w5.frozen? ⟨w.heap.size, j, none⟩ = false := fun j => (by simp [World.frozen?, en]); have isn : ∀ j, j < n * 4 → ∃ u, w5.cell? ⟨w.heap.size, j, none⟩ = some u := fun j hj => ⟨_, (cell_of_row w5 w.heap.size j c 24 (0, 0) en).trans (Array.getElem?_eq_getElem (by rw [hcs.out]; exact hj))⟩; obtain ⟨z0, y0⟩ := isn (i * 4) (by omega); obtain ⟨z1, y1⟩ := isn (i * 4 + 1) (by omega); obtain ⟨z2, y2⟩ := isn (i * 4 + 2) (by omega); obtain ⟨z3, y3⟩ := isn (i * 4 + 3) (by omega); have fr0 := frn (i * 4); have fr1 := frn (i * 4 + 1); have fr2 := frn (i * 4 + 2); have fr3 := frn (i * 4 + 3); clear isn frn)
      all_goals go_wp2
      all_goals
        go_roundw
        case rel =>
          have hx := hmx.out.put (by omega) hb5 en (by rw [hcs.out, hLl]) hnr (by rw [hLi]; exact num_is w5 _ i (by omega) (by omega))
          exact ⟨i + 1, _, by go_num, by omega, put4_block en, Hid.mk (by simpa using hcs.out), (put4_heap _ _ _ _ _ _ _ _ (by omega)).trans eb, Hid.mk hx, Below.put4 (hk.call hb5).out (Nat.le_refl _)⟩
        case measure => simp [intOf]; omega
    · obtain rfl : i = n := by omega
      clear hMs hn8 hx8 hb8
      have hone : Hid (Lies wr (fun b => b ≤ bx) (.tup L) (.agg #[.int .i64 7, .int .i64 0, .string ⟨#[]⟩, .slice (some ⟨w.heap.size, 0, none⟩) i i])) := Hid.mk (by
        have h : Lst wr (fun b => b ≤ bx) L (some ⟨w.heap.size, 0, none⟩) i := ⟨by omega, by omega, Or.inr ⟨_, rfl, fun _ => ⟨Nat.le_of_lt hbxw, rfl⟩, Row.of fun j hj => by
          obtain ⟨v0, v1, v2, v3, c0, c1, c2, c3, hv⟩ := hmx.out j (by omega) hj
          rw [hLi] at hv ⊢
          refine ⟨v0, v1, v2, v3, ?_, ?_, ?_, ?_, hv.flat⟩
          all_goals (simp only [Nat.zero_add]; assumption)⟩⟩
        have h2 := Lies.mk tup_small (l := L) h
        rwa [hLl] at h2)
      have hbr : bx < wr.heap.size := (Array.getElem?_eq_some_iff.1 hbox).1
      clear hmx hcn hcs
      go_wp2
      obtain ⟨wa, hwr, hboxa, honea, hka, hbra⟩ : ∃ wa, Below (bx + 1) wa wr ∧ wa.heap[bx]? = some (.cells #[.int .i64 7, .int .i64 0, .string ⟨#[]⟩, .slice (some ⟨w.heap.size, 0, none⟩) i i] 24) ∧
          Hid (Lies wa (fun b => b ≤ bx) (.tup L) (.agg #[.int .i64 7, .int .i64 0, .string ⟨#[]⟩, .slice (some ⟨w.heap.size, 0, none⟩) i i])) ∧ Up w wa ∧ bx < wa.heap.size := ⟨wr, Below.refl _ _, hbox, hone, hk, hbr⟩
      clear hbox hone hk hbr
      go_loopw [7, 8] (fun sv jj wr => ∃ (j : Nat) (xs : List Value), j ≤ m ∧ jj = .int .i64 j ∧ wr.ownsRow (bx + 1) 24 4 sv j xs ∧ Hid (Rep xs j (.int .i64 7) (.int .i64 0) (.string ⟨#[]⟩) (.slice (some ⟨w.heap.size, 0, none⟩) i i)) ∧ Below (bx + 1) wa wr) (fun _ jj _ => m - (intOf jj).toNat)
      case atStart => exact ⟨0, [], Nat.zero_le _, rfl, World.ownsRow_nil _ _ _ _, Hid.mk (fun j hj => by omega), hwr⟩
      case round =>
        obtain ⟨j, xs, hj, rfl, hown, hrep, hbq⟩ := hrel
        have hboxq := (hbq.block bx (by omega)).trans hboxa
        obtain ⟨⟨g0, g1, g2, g3⟩, f0, f1, f2, f3⟩ := kept4 hboxq (Below.refl _ _)
        have hzq := hbq.size
        by_cases hlt : j < m
        · go_wp2_with (at_builtin; refine wpList_append_own_at _ rfl _ _ 22 rfl (bx + 1) 24 i0 _ 4 56 Tryd.underlying22 hi0 hz0 hz1 hby rfl (by decide) _ _ _ rfl (hown.alloc _) ⟨wr.heap.size, 0, none⟩ 1 1 [.int .i64 7, .int .i64 0, .string ⟨#[]⟩, .slice (some ⟨w.heap.size, 0, none⟩) i i] rfl rfl (cells_new _ _ _) (fun x hx => by simp at hx; rcases hx with rfl | rfl | rfl | rfl <;> rfl) (by unfold maxLen; omega) (by omega) (by simp; omega) ?_; intro v' w3 hown' hgrow hnil hat)
          go_roundw
          case rel => exact ⟨j + 1, _, by omega, by go_num, hown', Hid.mk (hrep.out.step hown.1), ((hbq.alloc (by omega) _)).grown hgrow (by simp; omega) (fun k hk => (hown.lt k hk).1)⟩
          case measure => simp [intOf]; omega
        · have hjm : j = m := by omega
          subst hjm
          have hl7 := owns_lst (l := List.replicate j (.tup L)) (w := wa) (S := fun b => b ≤ bx) (by rw [List.length_replicate]; exact hown) (fun q hq => by
            obtain ⟨e0, e1, e2, e3⟩ := hrep.out q (by simpa using hq)
            exact ⟨_, _, _, _, e0, e1, e2, e3, by rw [List.getElem_replicate]; exact honea.out⟩) (fun b o v hb hc => by
            rw [World.cell?_of_block (w := wa) (a := ⟨b, o, none⟩) (hbq.block b (by omega))]
            exact hc)
          rw [List.length_replicate] at hl7
          obtain ⟨a7, cap7, rfl, hl7⟩ := hl7
          have hk : Up w wr := hka.out.trans (hbq.mono (by omega))
          have hsz1 := conses_size (List.replicate j (.tup L)) .nil
          rw [sizes_replicate, List.length_replicate] at hsz1
          have hsz2 : (Tm.tup L).size = 1 + i := by
            rw [Tm.tup, Tm.size_mk, sizes_ones L (fun t ht => by
              obtain ⟨q, hq, rfl⟩ := List.getElem_of_mem ht
              rw [hLi]
              simp [Tm.num, Tm.size_mk, sizes]), hLl]
          have hsz3 : Tm.nil.size = 1 := by simp [Tm.nil, Tm.size_mk, sizes]
          have hsz4 : j * (1 + i) ≤ 2000 * 71 := Nat.mul_le_mul (by omega) (by omega)
          rw [hsz2, hsz3] at hsz1
          have hck := Hid.mk (fun (W : World) (v : Value) (hv : Is W (conses (List.replicate j (.tup L)) .nil) v) (ht : ShapeTab W) => checkI_any _ (by omega) _ v W hv ht)
          have hrf := Hid.mk (fun (W : World) (v : Value) (hv : Is W (conses (List.replicate j (.tup L)) .nil) v) => refcheck_any _ (by omega) _ v W hv)
          have hpr := Hid.mk (fun (W : World) (hl : Lst W (fun b => b ≤ bx ∨ bx + 1 ≤ b) (List.replicate j (.tup L)) a7 cap7) => pairs_any (List.replicate j (.tup L)) (by rw [List.length_replicate]; omega) .nil _ a7 cap7 _ W hl (nil_is _ _))
          rw [List.length_replicate] at hpr
          generalize (conses (List.replicate j (.tup L)) .nil).check = ck at hck hrf
          generalize conses (List.replicate j (.tup L)) .nil = T at hck hrf hpr
          have hl7' := Hid.mk hl7
          clear hsz1 hsz2 hsz3 hsz4 hl7 hown hrep honea hLi hboxq g0 g1 g2 g3 f0 f1 f2 f3
          go_wp2_with (first
            | (go_at_call 22; refine (none_any _).mono ?_; rintro e x1 ⟨rfl, hb⟩; have hk := hk.call hb; have hlx := Hid.mk (hl7'.out.below hb))
            | (go_at_call 21; refine (hpr.out _ hlx.out).mono ?_; rintro e x2 ⟨⟨v, rfl, hL⟩, hb⟩; have hk := hk.call hb; obtain ⟨k2, n2, s2, a2, m2, c2, rfl⟩ := hL.agg; have hL := Hid.mk hL.is))
          have hx2 : ∀ (o : Obj), Is (x2.alloc o).drew T (.agg #[.int .i64 k2, .int .i64 n2, .string s2, .slice a2 m2 c2]) := fun o => hL.out.below ((Below.refl _ _).alloc (Nat.le_refl _) o).drew
          have hL := Hid.mk hx2
          clear hx2
          go_region_with (first
            | (go_at_call 11; refine (hck.out _ _ (hL.out _) (ht.below hk.alloc.drew.out)).mono ?_; rintro e x3 ⟨rfl, hb⟩; obtain ⟨⟨g0, g1, g2, g3⟩, f0, f1, f2, f3⟩ := kept4 (w1 := (x2.alloc (.cells #[.int .i64 k2, .int .i64 n2, .string s2, .slice a2 m2 c2] 24)).drew) (new_block x2 _) hb; have hL3 := Hid.mk ((hL.out _).below hb); have hk := hk.alloc.drew.call hb)
            | (go_at_call 12; refine (hrf.out _ _ hL3.out).mono ?_; rintro e x4 ⟨rfl, hb⟩; have hk := hk.call hb)
            | (go_at_call 18; refine (awake_any _ (ht.below hk.out)).mono ?_; rintro e x5 ⟨rfl, hb⟩; have hk := hk.call hb))
          all_goals go_wp2
          all_goals go_ret
          all_goals exact ⟨rfl, hk.out⟩

end Go.Proofs.YtnpnbonodkpkdaaDoor
