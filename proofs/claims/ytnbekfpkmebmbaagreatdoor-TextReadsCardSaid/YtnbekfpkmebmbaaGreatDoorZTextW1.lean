/-
  The writer: numbers, and quoted bytes.
-/
import Derived.Test.YtnbekfpkmebmbaaGreatDoorZTextBld
import Derived.Test.YtnbekfpkmebmbaaGreatDoorZTextNum
import Derived.Test.YtnbekfpkmebmbaaGreatDoorZTextP1
import Derived.Test.YtnbekfpkmebmbaaGreatDoorZFloats
import Derived.Laws.BitsLemmas
import Derived.Test.YtnbekfpkmebmbaaGreatDoorZTextDec
import Derived.Deep.Cut
import Derived.Deep.LoopGhost
namespace Go.Proofs.YtnbekfpkmebmbaaGreatDoor
open Go.RowKit Go.Deep

theorem Bld.up {T : TypeId} {b : Nat} {l : List UInt8} {w w' : World} (h : Bld T b l w) (hb : Below w.heap.size w w') : Bld T b l w' := by
  obtain ⟨hT, hB, hn⟩ := h
  have key : ∀ p, Lib.BuilderAtF T 5 b b p (Lib.byteCells l) w → Lib.BuilderAtF T 5 b b p (Lib.byteCells l) w' := fun p h => by
    obtain ⟨h1, v, h2, ⟨h3, h4⟩, h5⟩ := h
    refine ⟨h1, v, (hb.block _ (Array.getElem?_eq_some_iff.1 h2).1).trans h2, ⟨h3, ?_⟩, h5⟩
    rcases h4 with h4 | ⟨g, cap, cur, fz, e1, e2, e3, r⟩
    · exact Or.inl h4
    · exact Or.inr ⟨g, cap, cur, fz, e1, e2, (hb.block _ (Array.getElem?_eq_some_iff.1 e3).1).trans e3, r⟩
  exact ⟨hT, hB.imp (key _) (key _), fun e => cell_below hb _ _ _ (hn e)⟩
theorem Bld.lt {T : TypeId} {b : Nat} {l : List UInt8} {w : World} (h : Bld T b l w) : b < w.heap.size := by
  rcases h.2.1 with h | h
  · exact h.lt
  · exact h.lt
theorem Wrote.up {b : Nat} {w w' : World} (hb : Below w.heap.size w w') (hlt : b < w.heap.size) : Wrote b w w' :=
  ⟨hb.mono (by omega), fun k o hk hne _ => (hb.block k (Array.getElem?_eq_some_iff.1 hk).1).trans hk⟩

set_option maxHeartbeats 1000000 in
theorem wnumber_any (T : TypeId) (b : Nat) (acc : List UInt8) (n : Int) (w : World) (h0 : -9223372036854775808 ≤ n) (h1 : n ≤ 9223372036854775807) (h : Bld T b acc w) (hw : Wld w) (hlen : acc.length + (dec n).length ≤ 1000000000) :
    Calls Tryz.prog 80 #[.pointer (some ⟨b, 0, none⟩), .int .i64 n] w fun e w' => (∃ u, e = .returned u) ∧ Bld T b (acc ++ dec n) w' ∧ Wrote b w w' := by
  have hlt := h.lt
  go_enter Tryz.func80, Tryz.ntmps80
  go_wp2
  refine wp_region_held (S := fun _ => True) (by kernel_rfl) ?_
  refine chain_take (i := 0) (d := 4) (v := .pointer (some ⟨b, 0, none⟩)) rfl rfl (by kernel_rfl) (by kernel_rfl) (by kernel_rfl) rfl (fun _ _ => rfl) (fun _ _ _ h => h) trivial ?_
  simp only [Act.put, List.setIfInBounds_toArray, List.set_cons_zero, List.set_cons_succ]
  refine chain_take (i := 1) (d := 5) (v := .pointer (some ⟨b, 0, none⟩)) rfl rfl (by kernel_rfl) (by kernel_rfl) (by kernel_rfl) rfl (fun _ _ => (by go_simp)) (fun _ _ _ h => h) trivial ?_
  simp only [Act.put, List.setIfInBounds_toArray, List.set_cons_zero, List.set_cons_succ]
  refine chain_take (i := 2) (d := 6) (v := .pointer (some ⟨b, 0, none⟩)) rfl rfl (by kernel_rfl) (by kernel_rfl) (by kernel_rfl) rfl (fun _ _ => (by go_simp)) (fun _ _ _ h => h) trivial ?_
  simp only [Act.put, List.setIfInBounds_toArray, List.set_cons_zero, List.set_cons_succ]
  refine chain_take (i := 3) (d := 7) (v := .int .i64 n) rfl rfl (by kernel_rfl) (by kernel_rfl) (by kernel_rfl) rfl (fun _ _ => rfl) (fun _ _ _ h => h) trivial ?_
  simp only [Act.put, List.setIfInBounds_toArray, List.set_cons_zero, List.set_cons_succ]
  refine chain_call (i := 4) (d := 8) (f := 97) (args := #[.int .i64 n]) (by kernel_rfl) rfl rfl rfl (by go_simp) ?_
  refine (itoa_any n h0 h1 w.drew (hw.next (Up.refl w).drew)).mono ?_
  rintro e w1 ⟨rfl, hb1⟩
  refine ⟨.string (tx (dec n)), rfl, trivial, ?_⟩
  simp only [Act.put, List.setIfInBounds_toArray, List.set_cons_zero, List.set_cons_succ]
  refine chain_call (i := 5) (d := 9) (f := 85) (args := #[.pointer (some ⟨b, 0, none⟩), .string (tx (dec n))]) (by kernel_rfl) rfl rfl rfl (by go_simp) ?_
  refine (bldText_any T b acc (dec n) w1 (h.up ((Up.refl w).drew.call hb1)) hlen).mono ?_
  rintro e w2 ⟨rfl, h2, k2⟩
  refine ⟨.tuple #[.int .i64 (dec n).length, .nilIface], rfl, trivial, ?_⟩
  simp only [Act.put, List.setIfInBounds_toArray, List.set_cons_zero, List.set_cons_succ]
  refine wpAnyH_done (by kernel_rfl) ?_ _
  go_wp2
  go_end0
  exact ⟨⟨_, rfl⟩, h2, (Wrote.up ((Up.refl w).drew.call hb1) hlt).trans k2⟩

set_option maxHeartbeats 1000000 in
theorem wnamed_any (T : TypeId) (b : Nat) (acc p q : List UInt8) (n : Int) (w : World) (h0 : -9223372036854775808 ≤ n) (h1 : n ≤ 9223372036854775807) (h : Bld T b acc w) (hw : Wld w) (hb : 6 ≤ b) (hlen : acc.length + (p.length + ((dec n).length + q.length)) ≤ 1000000000) :
    Calls Tryz.prog 82 #[.pointer (some ⟨b, 0, none⟩), .string (tx p), .int .i64 n, .string (tx q)] w fun e w' => (∃ u, e = .returned u) ∧ Bld T b (acc ++ (p ++ (dec n ++ q))) w' ∧ Wrote b w w' := by
  have t0 := True.intro
  have l1 : acc.length + p.length ≤ 1000000000 := by omega
  have l2 : (acc ++ p).length + (dec n).length ≤ 1000000000 := by rw [List.length_append]; omega
  have l3 : (acc ++ p ++ dec n).length + q.length ≤ 1000000000 := by rw [List.length_append, List.length_append]; omega
  have he : acc ++ p ++ dec n ++ q = acc ++ (p ++ (dec n ++ q)) := by simp
  have hl1 := Hid.mk l1
  have hl2 := Hid.mk l2
  have hl3 := Hid.mk l3
  clear l1 l2 l3 hlen
  go_enter Tryz.func82, Tryz.ntmps82
  go_wp2_with (first
    | (go_at_call 85; have g := t2; refine (bldText_any T b _ q _ h3 hl3.out).mono ?_; rintro e w3 ⟨rfl, h4, k4⟩)
    | (go_at_call 85; have g := t0; clear t0; refine (bldText_any T b acc p _ h hl1.out).mono ?_; rintro e w1 ⟨rfl, h2, k2⟩; have hw2 := hw.from k2.below hb)
    | (go_at_call 80; refine (wnumber_any T b _ n _ h0 h1 h2 hw2 hl2.out).mono ?_; rintro e w2 ⟨⟨u, rfl⟩, h3, k3⟩; have t2 := True.intro))
  go_end0
  rw [he] at h4
  exact ⟨⟨_, rfl⟩, h4, k2.trans (k3.trans k4)⟩

theorem hexAt (i j : Nat) (e : j = i) (hi : j < 16) : (⟨#[48, 49, 50, 51, 52, 53, 54, 55, 56, 57, 97, 98, 99, 100, 101, 102]⟩ : ByteArray)[j]'hi = hxd i := by
  subst e
  revert hi
  generalize j = i
  intro hi
  rcases i with _ | _ | _ | _ | _ | _ | _ | _ | _ | _ | _ | _ | _ | _ | _ | _ | i
  all_goals first | rfl | omega

set_option maxHeartbeats 2000000 in
theorem wquoted_any (T : TypeId) (b : Nat) (acc : List UInt8) (c : UInt8) (w : World) (h : Bld T b acc w) (hlen : acc.length + 4 ≤ 1000000000) :
    Calls Tryz.prog 99 #[.pointer (some ⟨b, 0, none⟩), .int .u8 c.toNat] w fun e w' => (∃ u, e = .returned u) ∧ Bld T b (acc ++ qb c) w' ∧ Wrote b w w' := by
  have hc := c.toNat_lt
  have hl1 : Hid (∀ x : List UInt8, x.length ≤ 3 → (acc ++ x).length ≤ 1000000000) := Hid.mk (fun x hx => by rw [List.length_append]; omega)
  have hl0 : acc.length ≤ 1000000000 := by omega
  have hl2 : acc.length + ([92, 120] : List UInt8).length ≤ 1000000000 := by simp; omega
  have hl0 := Hid.mk hl0
  have hl2 := Hid.mk hl2
  clear hlen
  have t0 := True.intro
  by_cases h39 : c = 39
  · subst h39
    go_enter Tryz.func99, Tryz.ntmps99
    go_wp2_with (first
      | (go_at_call 65; have g := t0; clear t0; refine (bldByte_any T b acc 92 _ h hl0.out).mono ?_; rintro e w1 ⟨rfl, h2, k2⟩)
      | (go_at_call 65; refine (bldByte_any T b _ 39 _ h2 (hl1.out _ (by simp))).mono ?_; rintro e w2 ⟨rfl, h3, k3⟩))
    go_end0
    rw [List.append_assoc] at h3
    exact ⟨⟨_, rfl⟩, h3, k2.trans k3⟩
  · by_cases h92 : c = 92
    · subst h92
      go_enter Tryz.func99, Tryz.ntmps99
      go_wp2_with (first
        | (go_at_call 65; have g := t0; clear t0; refine (bldByte_any T b acc 92 _ h hl0.out).mono ?_; rintro e w1 ⟨rfl, h2, k2⟩)
        | (go_at_call 65; refine (bldByte_any T b _ 92 _ h2 (hl1.out _ (by simp))).mono ?_; rintro e w2 ⟨rfl, h3, k3⟩))
      go_end0
      rw [List.append_assoc] at h3
      exact ⟨⟨_, rfl⟩, h3, k2.trans k3⟩
    · have d1 : ((c.toNat : Int) == 39) = false := by
        rw [beq_eq_false_iff_ne]
        intro e
        exact h39 (UInt8.toNat_inj.1 (by simp; omega))
      have d2 : ((c.toNat : Int) == 92) = false := by
        rw [beq_eq_false_iff_ne]
        intro e
        exact h92 (UInt8.toNat_inj.1 (by simp; omega))
      cases hn : needs c.toNat with
      | false =>
        have hq : Hid (qb c = [c]) := Hid.mk (by
          unfold qb
          unfold needs at hn
          simp only [decide_eq_false_iff_not] at hn
          rw [if_neg hn, if_neg (by rintro (e | e); exact h39 e; exact h92 e)])
        clear h39 h92
        go_enter Tryz.func99, Tryz.ntmps99
        go_wp2_with (first
          | (go_at_call 91; refine (shown_any c _).mono ?_; rintro e w1 ⟨rfl, rfl⟩; rw [hn])
          | (go_at_call 65; refine (bldByte_any T b acc c _ h hl0.out).mono ?_; rintro e w1 ⟨rfl, h2, k2⟩))
        go_end0
        rw [hq.out]
        exact ⟨⟨_, rfl⟩, h2, k2⟩
      | true =>
        have hq : Hid (qb c = [92, 120, hxd (c.toNat / 16), hxd (c.toNat % 16)]) := Hid.mk (by
          unfold qb
          unfold needs at hn
          simp only [decide_eq_true_eq] at hn
          rw [if_pos hn])
        clear h39 h92
        go_enter Tryz.func99, Tryz.ntmps99
        go_wp2_with (first
          | (go_at_call 91; refine (shown_any c _).mono ?_; rintro e w1 ⟨rfl, rfl⟩; rw [hn])
          | (go_at_call 85; refine (bldText_any T b acc [92, 120] _ h hl2.out).mono ?_; rintro e w1 ⟨rfl, h2, k2⟩))
        refine wp_region_held (S := fun _ => True) (by kernel_rfl) ?_
        refine chain_take (i := 0) (d := 8) (v := .pointer (some ⟨b, 0, none⟩)) rfl rfl (by kernel_rfl) (by kernel_rfl) (by kernel_rfl) rfl (fun _ _ => rfl) (fun _ _ _ h => h) trivial ?_
        simp only [Act.put, List.setIfInBounds_toArray, List.set_cons_zero, List.set_cons_succ]
        refine chain_take (i := 1) (d := 9) (v := .pointer (some ⟨b, 0, none⟩)) rfl rfl (by kernel_rfl) (by kernel_rfl) (by kernel_rfl) rfl (fun _ _ => (by go_simp)) (fun _ _ _ h => h) trivial ?_
        simp only [Act.put, List.setIfInBounds_toArray, List.set_cons_zero, List.set_cons_succ]
        refine chain_take (i := 2) (d := 10) (v := .pointer (some ⟨b, 0, none⟩)) rfl rfl (by kernel_rfl) (by kernel_rfl) (by kernel_rfl) rfl (fun _ _ => (by go_simp)) (fun _ _ _ h => h) trivial ?_
        simp only [Act.put, List.setIfInBounds_toArray, List.set_cons_zero, List.set_cons_succ]
        refine chain_take (i := 3) (d := 11) (v := .int .u8 c.toNat) rfl rfl (by kernel_rfl) (by kernel_rfl) (by kernel_rfl) rfl (fun _ _ => rfl) (fun _ _ _ h => h) trivial ?_
        simp only [Act.put, List.setIfInBounds_toArray, List.set_cons_zero, List.set_cons_succ]
        refine chain_take (i := 4) (d := 12) (v := .int .u8 (c.toNat / 16)) rfl rfl (by kernel_rfl) (by kernel_rfl) (by kernel_rfl) rfl (fun _ _ => (by go_simp)) (fun _ _ _ h => h) trivial ?_
        simp only [Act.put, List.setIfInBounds_toArray, List.set_cons_zero, List.set_cons_succ]
        refine chain_take (i := 5) (d := 13) (v := .int .u8 (hxd (c.toNat / 16)).toNat) rfl rfl (by kernel_rfl) (by kernel_rfl) (by kernel_rfl) rfl (fun _ _ => (by go_simp; rw [dif_pos ⟨by omega, by omega⟩, hexAt (c.toNat / 16) _ (by omega)]; rfl)) (fun _ _ _ h => h) trivial ?_
        simp only [Act.put, List.setIfInBounds_toArray, List.set_cons_zero, List.set_cons_succ]
        refine chain_call (i := 6) (d := 14) (f := 65) (args := #[.pointer (some ⟨b, 0, none⟩), .int .u8 (hxd (c.toNat / 16)).toNat]) (by kernel_rfl) rfl rfl rfl (by go_simp) ?_
        refine (bldByte_any T b _ (hxd (c.toNat / 16)) _ (h2.up (Up.refl w1).drew) (hl1.out _ (by simp))).mono ?_
        rintro e w2 ⟨rfl, h3, k3⟩
        refine ⟨.nilIface, rfl, trivial, ?_⟩
        simp only [Act.put, List.setIfInBounds_toArray, List.set_cons_zero, List.set_cons_succ]
        refine wpAnyH_done (by kernel_rfl) ?_ _
        go_wp2
        refine wp_region_held (S := fun _ => True) (by kernel_rfl) ?_
        refine chain_take (i := 0) (d := 15) (v := .pointer (some ⟨b, 0, none⟩)) rfl rfl (by kernel_rfl) (by kernel_rfl) (by kernel_rfl) rfl (fun _ _ => rfl) (fun _ _ _ h => h) trivial ?_
        simp only [Act.put, List.setIfInBounds_toArray, List.set_cons_zero, List.set_cons_succ]
        refine chain_take (i := 1) (d := 16) (v := .pointer (some ⟨b, 0, none⟩)) rfl rfl (by kernel_rfl) (by kernel_rfl) (by kernel_rfl) rfl (fun _ _ => (by go_simp)) (fun _ _ _ h => h) trivial ?_
        simp only [Act.put, List.setIfInBounds_toArray, List.set_cons_zero, List.set_cons_succ]
        refine chain_take (i := 2) (d := 17) (v := .pointer (some ⟨b, 0, none⟩)) rfl rfl (by kernel_rfl) (by kernel_rfl) (by kernel_rfl) rfl (fun _ _ => (by go_simp)) (fun _ _ _ h => h) trivial ?_
        simp only [Act.put, List.setIfInBounds_toArray, List.set_cons_zero, List.set_cons_succ]
        refine chain_take (i := 3) (d := 18) (v := .int .u8 c.toNat) rfl rfl (by kernel_rfl) (by kernel_rfl) (by kernel_rfl) rfl (fun _ _ => rfl) (fun _ _ _ h => h) trivial ?_
        simp only [Act.put, List.setIfInBounds_toArray, List.set_cons_zero, List.set_cons_succ]
        refine chain_take (i := 4) (d := 19) (v := .int .u8 (c.toNat % 16)) rfl rfl (by kernel_rfl) (by kernel_rfl) (by kernel_rfl) rfl (fun _ _ => (by go_simp; exact u8_and15 (x := (c.toNat : Int)) (by omega) (by omega))) (fun _ _ _ h => h) trivial ?_
        simp only [Act.put, List.setIfInBounds_toArray, List.set_cons_zero, List.set_cons_succ]
        refine chain_take (i := 5) (d := 20) (v := .int .u8 (hxd (c.toNat % 16)).toNat) rfl rfl (by kernel_rfl) (by kernel_rfl) (by kernel_rfl) rfl (fun _ _ => (by go_simp; rw [dif_pos ⟨by omega, by omega⟩, hexAt (c.toNat % 16) _ (by omega)]; rfl)) (fun _ _ _ h => h) trivial ?_
        simp only [Act.put, List.setIfInBounds_toArray, List.set_cons_zero, List.set_cons_succ]
        refine chain_call (i := 6) (d := 21) (f := 65) (args := #[.pointer (some ⟨b, 0, none⟩), .int .u8 (hxd (c.toNat % 16)).toNat]) (by kernel_rfl) rfl rfl rfl (by go_simp) ?_
        refine (bldByte_any T b _ (hxd (c.toNat % 16)) _ (h3.up (Up.refl w2).drew) (by rw [List.append_assoc]; exact hl1.out _ (by simp))).mono ?_
        rintro e w3 ⟨rfl, h4, k4⟩
        refine ⟨.nilIface, rfl, trivial, ?_⟩
        simp only [Act.put, List.setIfInBounds_toArray, List.set_cons_zero, List.set_cons_succ]
        refine wpAnyH_done (by kernel_rfl) ?_ _
        go_wp2
        go_end0
        rw [hq.out]
        refine ⟨⟨_, rfl⟩, ?_, k2.trans (((Wrote.up (Up.refl w1).drew h2.lt).trans k3).trans ((Wrote.up (Up.refl w2).drew h3.lt).trans k4))⟩
        have he : acc ++ [92, 120] ++ [hxd (c.toNat / 16)] ++ [hxd (c.toNat % 16)] = acc ++ [92, 120, hxd (c.toNat / 16), hxd (c.toNat % 16)] := by rw [List.append_assoc, List.append_assoc]; rfl
        rw [← he]
        exact h4

end Go.Proofs.YtnbekfpkmebmbaaGreatDoor

/-
  The writer: atoms.
-/
namespace Go.Proofs.YtnbekfpkmebmbaaGreatDoor
open Go.RowKit Go.Deep

theorem qb_le (c : UInt8) : (qb c).length ≤ 4 := by
  unfold qb
  split
  · simp
  · split <;> simp
theorem flat_le (s : List UInt8) : (s.flatMap qb).length ≤ 4 * s.length := by
  induction s with
  | nil => simp
  | cons c s ih =>
    have := qb_le c
    rw [List.flatMap_cons, List.length_append, List.length_cons]
    omega
theorem flat_take (s : List UInt8) (i : Nat) (hi : i < s.length) : (s.take (i + 1)).flatMap qb = (s.take i).flatMap qb ++ qb s[i] := by
  rw [List.take_succ_eq_append_getElem hi, List.flatMap_append]
  simp

set_option maxHeartbeats 2000000 in
theorem watom_any (T : TypeId) (b : Nat) (acc s : List UInt8) (w : World) (h : Bld T b acc w) (hs : s.length ≤ 1000) (hlen : acc.length + 5000 ≤ 1000000000) :
    Calls Tryz.prog 81 #[.pointer (some ⟨b, 0, none⟩), .string (tx s)] w fun e w' => (∃ u, e = .returned u) ∧ Bld T b (acc ++ atomT s) w' ∧ Wrote b w w' := by
  have hts := tx_size s
  cases hp : plainT s with
  | true =>
    have he : Hid (atomT s = s) := Hid.mk (by unfold atomT; rw [if_pos hp])
    go_enter Tryz.func81, Tryz.ntmps81
    go_wp2_with (first
      | (go_at_call 67; refine (plainP_any s (by omega) _).mono ?_; rintro e w1 ⟨rfl, rfl⟩; rw [hp])
      | (go_at_call 85; refine (bldText_any T b acc s _ h (by omega)).mono ?_; rintro e w1 ⟨rfl, h2, k2⟩))
    refine bodyPost_ret (results_none rfl _ _ _) rfl ?_
    rw [he.out]
    exact ⟨⟨_, rfl⟩, h2, k2⟩
  | false =>
    have he : Hid (acc ++ [39] ++ (s.take s.length).flatMap qb ++ [39] = acc ++ atomT s) := Hid.mk (by unfold atomT; rw [if_neg (by rw [hp]; simp), quoteT, List.take_length]; simp)
    have hl : Hid (∀ i, (acc ++ [39] ++ (s.take i).flatMap qb).length + 4 ≤ 1000000000) := Hid.mk (fun i => by
      have := flat_le (s.take i)
      rw [List.length_append, List.length_append, List.length_singleton]
      rw [List.length_take] at this
      omega)
    have hla : Hid (acc.length ≤ 1000000000) := Hid.mk (by omega)
    have hft := Hid.mk (flat_take s)
    clear hlen
    go_enter Tryz.func81, Tryz.ntmps81
    go_wp2_with (first
      | (go_at_call 67; refine (plainP_any s (by omega) _).mono ?_; rintro e w1 ⟨rfl, rfl⟩; rw [hp])
      | (go_at_call 65; refine (bldByte_any T b acc 39 _ h hla.out).mono ?_; rintro e w1 ⟨rfl, h2, k2⟩))
    go_loopw [18] (fun ii wr => ∃ i, i ≤ s.length ∧ ii = .int .i64 (i : Nat) ∧ Bld T b (acc ++ [39] ++ (s.take i).flatMap qb) wr ∧ Wrote b w wr) (fun ii _ => s.length - (intOf ii).toNat)
    case atStart => exact ⟨0, by omega, rfl, by simpa using h2, k2⟩
    case round =>
      obtain ⟨i, hi, rfl, hb, hk⟩ := hrel
      by_cases hlt : i < s.length
      · have hlt' : i < (tx s).size := by omega
        have hq := Hid.mk (fun w1 (h : Bld T b (acc ++ [39] ++ (s.take i).flatMap qb) w1) => wquoted_any T b _ s[i] w1 h (hl.out i))
        have hg : Hid ((tx s)[i]'hlt' = s[i]) := Hid.mk rfl
        have hft := Hid.mk (hft.out i hlt)
        go_wp2_with (go_at_call 99; refine (hq.out _ hb).mono ?_; rintro e w3 ⟨⟨u, rfl⟩, h3, k3⟩)
        go_roundw
        case rel => exact ⟨i + 1, by omega, by go_num, by rw [hft.out, ← List.append_assoc]; exact h3, hk.trans k3⟩
        case measure => simp [intOf]; omega
      · obtain rfl : i = s.length := by omega
        go_wp2_with (go_at_call 65; refine (bldByte_any T b _ 39 _ hb (by have := hl.out s.length; omega)).mono ?_; rintro e w3 ⟨rfl, h3, k3⟩)
        go_end0
        rw [he.out] at h3
        exact ⟨⟨_, rfl⟩, h3, hk.trans k3⟩

end Go.Proofs.YtnbekfpkmebmbaaGreatDoor

/-
  The writer: terms.
-/
namespace Go.Proofs.YtnbekfpkmebmbaaGreatDoor
open Go.RowKit Go.Deep

theorem Lies.low {w w' : World} {S : Nat → Prop} {T : Tm} {v : Value} {b : Nat} (h : Lies w S T v) (hS : ∀ k, S k → k < b) (hb : Below b w w') : Lies w' S T v :=
  h.move (fun _ h => h) (fun k o v hk hc => by rw [hb.cell (p := ⟨k, o, none⟩) (hS k hk)]; exact hc) _ _
theorem Lst.low {w w' : World} {S : Nat → Prop} {l : List Tm} {a : Option Addr} {cap : Nat} {b : Nat} (h : Lst w S l a cap) (hS : ∀ k, S k → k < b) (hb : Below b w w') : Lst w' S l a cap :=
  h.move (fun _ h => h) (fun k o v hk hc => by rw [hb.cell (p := ⟨k, o, none⟩) (hS k hk)]; exact hc)
theorem Wrote.box {b k : Nat} {w w' : World} {c : Array Value} {t : TypeId} {fr : Nat × Nat} (h : Wrote b w w') (hk : w.heap[k]? = some (.cells c t fr)) (hne : k ≠ b) (ht : t ≠ 5) : w'.heap[k]? = some (.cells c t fr) :=
  h.others k _ hk (fun e => hne (Option.some.inj e)) (fun c' fz e => by simp only [Obj.cells.injEq] at e; exact ht e.2.1)

theorem joinT_first (l : List Tm) (h : 0 < l.length) : joinT ((l.take 1).map Tm.text) = l[0].text := by
  cases l with
  | nil => cases h
  | cons t l => simp [joinT]
theorem joinT_next (l : List Tm) (i : Nat) (h0 : i ≠ 0) (h : i < l.length) : joinT ((l.take (i + 1)).map Tm.text) = joinT ((l.take i).map Tm.text) ++ 44 :: l[i].text := by
  rw [texts_take l i h, joinT_snoc]
  intro he
  have := congrArg List.length he
  rw [List.length_map, List.length_take, List.length_nil] at this
  omega
/-- The writer writes the term's text. -/
def WT (T : Tm) : Prop := ∀ (Ty b : Nat) (acc : List UInt8) (S : Nat → Prop) (v : Value) (w : World), Bld Ty b acc w → Wld w → 6 ≤ b → acc.length + T.text.length + 10000 ≤ 1000000000 → Lies w S T v → (∀ k, S k → k < b) →
  Calls Tryz.prog 58 #[.pointer (some ⟨b, 0, none⟩), v] w fun e w' => (∃ u, e = .returned u) ∧ Bld Ty b (acc ++ T.text) w' ∧ Wrote b w w'

theorem wt_small (k n : Int) (s : ByteArray) (hk : k = 1 ∨ k = 2 ∨ k = 3 ∨ k = 4 ∨ k = 6 ∨ k = 8) (hf : (Tm.mk k n s []).fits = true) : WT (.mk k n s []) := by
  intro Ty b acc S v w h hw hb hlen hv hS
  obtain ⟨a, cap, rfl, hs, hl⟩ := hv.out
  have hlt := h.lt
  obtain ⟨W0, hW0⟩ : ∃ W0, w.alloc (.cells #[.int .i64 k, .int .i64 n, .string s, .slice a 0 cap] 24) = W0 := ⟨_, rfl⟩
  have hbox : W0.heap[w.heap.size]? = some (.cells #[.int .i64 k, .int .i64 n, .string s, .slice a 0 cap] 24) := by rw [← hW0]; exact new_block w _
  have hu0 : Up w W0 := by rw [← hW0]; exact (Up.refl w).alloc
  have h0 := h.up hu0
  have hw0 := hw.next hu0
  have hk0 := Wrote.up hu0 hlt
  obtain ⟨⟨q0, q1, q2, q3⟩, _⟩ := kept4 hbox (Below.refl _ _)
  rw [fits_mk, Bool.and_eq_true] at hf
  have hp := fitR_parts (fitR_fit hf.1)
  clear hf hv hl
  rcases hk with rfl | rfl | rfl | rfl | rfl | rfl
  · obtain ⟨n0, n1, _, _⟩ := hp.1 rfl
    clear hp
    rw [text_k1] at hlen ⊢
    go_enter Tryz.func58, Tryz.ntmps58
    go_wp2_with (go_at_call 80; refine (wnumber_any Ty b acc n _ (by omega) (by omega) h0 hw0 (by omega)).mono ?_; rintro e w2 ⟨⟨u, rfl⟩, h2, k2⟩)
    go_end0
    exact ⟨⟨_, rfl⟩, h2, hk0.trans k2⟩
  · obtain ⟨rfl, n1, _⟩ := hp.2.1 rfl
    clear hp
    rw [text_k2] at hlen ⊢
    have hsl : s.toList.length ≤ 1000 := by rw [ByteArray.toList_eq, Array.length_toList]; show s.size ≤ 1000; omega
    have hsx : tx s.toList = s := by rw [ByteArray.toList_eq]; rfl
    generalize s.toList = S' at *
    subst hsx
    go_enter Tryz.func58, Tryz.ntmps58
    go_wp2_with (go_at_call 81; refine (watom_any Ty b acc S' _ h0 hsl (by omega)).mono ?_; rintro e w2 ⟨⟨u, rfl⟩, h2, k2⟩)
    go_end0
    exact ⟨⟨_, rfl⟩, h2, hk0.trans k2⟩
  · obtain ⟨n0, n1, _, _⟩ := hp.2.2.1 (by omega)
    clear hp
    rw [text_k3] at hlen ⊢
    simp only [List.length_append] at hlen
    have hll := Hid.mk hlen
    clear hlen
    go_enter Tryz.func58, Tryz.ntmps58
    go_wp2_with (go_at_call 82; refine (wnamed_any Ty b acc [35, 82, 101, 102, 60] [62] n _ (by omega) (by omega) h0 hw0 hb (by have := hll.out; omega)).mono ?_; rintro e w2 ⟨⟨u, rfl⟩, h2, k2⟩)
    go_end0
    exact ⟨⟨_, rfl⟩, h2, hk0.trans k2⟩
  · obtain ⟨n0, n1, _, _⟩ := hp.2.2.1 (by omega)
    clear hp
    rw [text_k4] at hlen ⊢
    simp only [List.length_append] at hlen
    have hll := Hid.mk hlen
    clear hlen
    go_enter Tryz.func58, Tryz.ntmps58
    go_wp2_with (go_at_call 82; refine (wnamed_any Ty b acc [35, 84, 105, 100, 60] [62] n _ (by omega) (by omega) h0 hw0 hb (by have := hll.out; omega)).mono ?_; rintro e w2 ⟨⟨u, rfl⟩, h2, k2⟩)
    go_end0
    exact ⟨⟨_, rfl⟩, h2, hk0.trans k2⟩
  · obtain ⟨n0, n1, _, _⟩ := hp.2.2.1 (by omega)
    clear hp
    rw [text_k6] at hlen ⊢
    simp only [List.length_append] at hlen
    have hll := Hid.mk hlen
    clear hlen
    go_enter Tryz.func58, Tryz.ntmps58
    go_wp2_with (go_at_call 82; refine (wnamed_any Ty b acc [60, 48, 46] [46, 48, 62] n _ (by omega) (by omega) h0 hw0 hb (by have := hll.out; omega)).mono ?_; rintro e w2 ⟨⟨u, rfl⟩, h2, k2⟩)
    go_end0
    exact ⟨⟨_, rfl⟩, h2, hk0.trans k2⟩
  · clear hp
    rw [text_k8] at hlen ⊢
    have hll : Hid (acc.length + ([91, 93] : List UInt8).length ≤ 1000000000) := Hid.mk (by omega)
    clear hlen
    go_enter Tryz.func58, Tryz.ntmps58
    go_wp2_with (go_at_call 85; refine (bldText_any Ty b acc [91, 93] _ h0 hll.out).mono ?_; rintro e w2 ⟨rfl, h2, k2⟩)
    go_end0
    exact ⟨⟨_, rfl⟩, h2, hk0.trans k2⟩

set_option maxHeartbeats 2000000 in
theorem wtuple_any (n : Int) (s : ByteArray) (l : List Tm) (ih0 : ∀ t ∈ l, WT t) (Ty b : Nat) (acc : List UInt8) (S : Nat → Prop) (v : Value) (w : World) (h : Bld Ty b acc w) (hw : Wld w) (hb : 6 ≤ b) (hlen : acc.length + (Tm.mk 7 n s l).text.length + 10000 ≤ 1000000000)
    (hv : Lies w S (.mk 7 n s l) v) (hS : ∀ k, S k → k < b) :
    Calls Tryz.prog 84 #[.pointer (some ⟨b, 0, none⟩), v] w fun e w' => (∃ u, e = .returned u) ∧ Bld Ty b (acc ++ (Tm.mk 7 n s l).text) w' ∧ Wrote b w w' := by
  obtain ⟨a, cap, rfl, hs, hl⟩ := hv.out
  have ih := Hid.mk ih0
  clear ih0
  have hlt := h.lt
  obtain ⟨W0, hW0⟩ : ∃ W0, w.alloc (.cells #[.int .i64 7, .int .i64 n, .string s, .slice a l.length cap] 24) = W0 := ⟨_, rfl⟩
  have hbox : W0.heap[w.heap.size]? = some (.cells #[.int .i64 7, .int .i64 n, .string s, .slice a l.length cap] 24) := by rw [← hW0]; exact new_block w _
  have hu0 : Up w W0 := by rw [← hW0]; exact (Up.refl w).alloc
  have h0 := h.up hu0
  have hw0 := hw.next hu0
  have hk0 := Wrote.up hu0 hlt
  obtain ⟨⟨q0, q1, q2, q3⟩, _⟩ := kept4 hbox (Below.refl _ _)
  rw [text_k7] at hlen ⊢
  have hll := Hid.mk hlen
  clear hlen hv
  have t0 := True.intro
  go_enter Tryz.func84, Tryz.ntmps84
  go_wp2_with (go_at_call 65; have g := t0; clear t0; refine (bldByte_any Ty b acc 123 _ h0 (by have := hll.out; omega)).mono ?_; rintro e w1 ⟨rfl, h2, k2⟩; obtain ⟨⟨q0, q1, q2, q3⟩, _⟩ := kept4 (k2.box hbox (by omega) (by decide)) (Below.refl _ _))
  go_loopw [13] (fun ii wr => ∃ (i : Nat), i ≤ l.length ∧ ii = .int .i64 i ∧ Bld Ty b (acc ++ 123 :: joinT ((l.take i).map Tm.text)) wr ∧ Wrote b w wr) (fun ii _ => l.length - (intOf ii).toNat)
  case atStart => exact ⟨0, Nat.zero_le _, rfl, by simpa [joinT] using h2, hk0.trans k2⟩
  case round =>
    clear h2 k2 q0 q1 q2 q3
    obtain ⟨i, hi, rfl, hbl, hk⟩ := hrel
    have hlen2 : l.length ≤ 9223372036854775807 := Nat.le_trans hl.1 hl.2.1
    by_cases hlt : i < l.length
    · obtain ⟨bb, o, rfl, hSb, hr⟩ := hl.some (by omega)
      obtain ⟨k', n', s', m', a', cap', hT, c0, c1, c2, c3, hli⟩ := hr.part i hlt
      have hbb := hS bb hSb
      have c0 : wr.cell? _ = _ := (hk.below.cell (p := ⟨bb, o + i * 4, none⟩) hbb).trans c0
      have c1 : wr.cell? _ = _ := (hk.below.cell (p := ⟨bb, o + i * 4 + 1, none⟩) hbb).trans c1
      have c2 : wr.cell? _ = _ := (hk.below.cell (p := ⟨bb, o + i * 4 + 2, none⟩) hbb).trans c2
      have c3 : wr.cell? _ = _ := (hk.below.cell (p := ⟨bb, o + i * 4 + 3, none⟩) hbb).trans c3
      have hu2 : Up wr (wr.alloc (.cells #[.int .i64 k', .int .i64 n', .string s', .slice a' m'.length cap'] 24)) := (Up.refl wr).alloc
      have hbox2 := new_block wr (.cells #[.int .i64 k', .int .i64 n', .string s', .slice a' m'.length cap'] 24)
      have hb2 := hbl.up hu2
      have hkk := hk.trans (Wrote.up hu2 hbl.lt)
      have hlli := hli.low hS hkk.below
      have hwi := hw.from hkk.below hb
      have hbnd : Hid (∀ j, acc.length + 2 + (joinT ((l.take j).map Tm.text)).length + 10000 ≤ 1000000000) := Hid.mk (fun j => by
        have h1 := joinT_take_le l j
        have h2 := hll.out
        rw [List.length_cons, List.length_append, List.length_singleton] at h2
        omega)
      by_cases hi0 : i = 0
      · have hd : decide (0 < (i : Int)) = false := decide_eq_false (by omega)
        have hc := Hid.mk (ih.out l[i] (List.getElem_mem hlt) Ty b (acc ++ [123]) S _ _ (by subst hi0; simpa [joinT] using hb2) hwi hb (by have := hbnd.out 1; subst hi0; rw [joinT_first l hlt] at this; rw [List.length_append, List.length_singleton]; omega) hlli hS)
        subst hi0
        have hnx := Hid.mk (joinT_first l hlt)
        clear hd
        simp only [Nat.zero_mul, Nat.add_zero] at c0 c1 c2 c3
        go_wp2_with (go_at_call 58; (refine hc.out.mono ?_; rintro e w3 ⟨⟨u, rfl⟩, h3, k3⟩))
        go_roundw
        case rel => exact ⟨1, by omega, by go_num, by rw [hnx.out]; simpa using h3, hkk.trans k3⟩
        case measure => simp [intOf]; omega
      · have hd : decide (0 < (i : Int)) = true := decide_eq_true (by omega)
        have hnx := joinT_next l i hi0 hlt
        have hb1 := hbnd.out (i + 1)
        have hb0 := Hid.mk (hbnd.out i)
        rw [hnx, List.length_append, List.length_cons] at hb1
        have hlb : Hid ((acc ++ 123 :: joinT ((l.take i).map Tm.text)).length ≤ 1000000000) := Hid.mk (by have := hb0.out; rw [List.length_append, List.length_cons]; omega)
        have hc := Hid.mk (fun w1 (h : Bld Ty b (acc ++ 123 :: joinT ((l.take i).map Tm.text) ++ [44]) w1) (hw1 : Wrote b w w1) => ih.out l[i] (List.getElem_mem hlt) Ty b _ S _ w1 h (hw.from hw1.below hb) hb (by rw [List.length_append, List.length_append, List.length_cons, List.length_singleton]; omega) (hli.low hS hw1.below) hS)
        have hnx := Hid.mk hnx
        clear hb1
        have t1 := True.intro
        go_wp2_with (first
          | (go_at_call 58; refine (hc.out _ h3 (hkk.trans k3)).mono ?_; rintro e w4 ⟨⟨u, rfl⟩, h4, k4⟩)
          | (go_at_call 65; have g := t1; clear t1; (refine (bldByte_any Ty b _ 44 _ hb2 hlb.out).mono ?_; rintro e w3 ⟨rfl, h3, k3⟩; obtain ⟨⟨q0, q1, q2, q3⟩, _⟩ := kept4 (k3.box hbox2 (by have := hbl.lt; omega) (by decide)) (Below.refl _ _))))
        go_roundw
        case rel => exact ⟨i + 1, by omega, by go_num, by rw [hnx.out]; simpa using h4, (hkk.trans k3).trans k4⟩
        case measure => simp [intOf]; omega
    · obtain rfl : i = l.length := by omega
      have hlb : Hid ((acc ++ 123 :: joinT ((l.take l.length).map Tm.text)).length ≤ 1000000000) := Hid.mk (by have := hll.out; rw [List.take_length]; rw [List.length_cons, List.length_append] at this; rw [List.length_append, List.length_cons]; omega)
      go_wp2_with (go_at_call 65; refine (bldByte_any Ty b _ 125 _ hbl hlb.out).mono ?_; rintro e w3 ⟨rfl, h3, k3⟩)
      go_end0
      refine ⟨⟨_, rfl⟩, ?_, hk.trans k3⟩
      rw [List.take_length] at h3
      simpa using h3

end Go.Proofs.YtnbekfpkmebmbaaGreatDoor

/-
  The writer: funs.
-/
namespace Go.Proofs.YtnbekfpkmebmbaaGreatDoor
open Go.RowKit Go.Deep

theorem flat_next (l : List Tm) (i : Nat) (h : i < l.length) : ((l.take (i + 1)).map Tm.text).flatMap (44 :: ·) = ((l.take i).map Tm.text).flatMap (44 :: ·) ++ 44 :: l[i].text := by
  rw [texts_take l i h, List.flatMap_append]
  simp
theorem flat_take_le (l : List Tm) (i : Nat) : (((l.take i).map Tm.text).flatMap (44 :: ·)).length ≤ ((l.map Tm.text).flatMap (44 :: ·)).length := by
  conv => rhs; rw [← List.take_append_drop i l, List.map_append, List.flatMap_append, List.length_append]
  omega

set_option maxHeartbeats 2000000 in
theorem wfun_any (n : Int) (s : ByteArray) (l : List Tm) (ih0 : ∀ t ∈ l, WT t) (Ty b : Nat) (acc : List UInt8) (S : Nat → Prop) (v : Value) (w : World) (h : Bld Ty b acc w) (hw : Wld w) (hb : 6 ≤ b) (hlen : acc.length + (Tm.mk 5 n s l).text.length + 10000 ≤ 1000000000)
    (hn0 : -576460752303423488 ≤ n) (hn1 : n ≤ 576460752303423487) (hv : Lies w S (.mk 5 n s l) v) (hS : ∀ k, S k → k < b) :
    Calls Tryz.prog 83 #[.pointer (some ⟨b, 0, none⟩), v] w fun e w' => (∃ u, e = .returned u) ∧ Bld Ty b (acc ++ (Tm.mk 5 n s l).text) w' ∧ Wrote b w w' := by
  obtain ⟨a, cap, rfl, hs, hl⟩ := hv.out
  have ih := Hid.mk ih0
  clear ih0
  have hlt := h.lt
  obtain ⟨W0, hW0⟩ : ∃ W0, w.alloc (.cells #[.int .i64 5, .int .i64 n, .string s, .slice a l.length cap] 24) = W0 := ⟨_, rfl⟩
  have hbox : W0.heap[w.heap.size]? = some (.cells #[.int .i64 5, .int .i64 n, .string s, .slice a l.length cap] 24) := by rw [← hW0]; exact new_block w _
  have hu0 : Up w W0 := by rw [← hW0]; exact (Up.refl w).alloc
  have h0 := h.up hu0
  have hw0 := hw.next hu0
  have hk0 := Wrote.up hu0 hlt
  obtain ⟨⟨q0, q1, q2, q3⟩, _⟩ := kept4 hbox (Below.refl _ _)
  rw [text_k5] at hlen ⊢
  have hll := Hid.mk hlen
  have hpre : Hid (acc.length + (([35, 70, 117, 110, 60] : List UInt8).length + ((dec n).length + ([] : List UInt8).length)) ≤ 1000000000) := Hid.mk (by
    simp only [List.length_append, List.length_cons, List.length_nil] at hlen ⊢
    omega)
  clear hlen hv
  go_enter Tryz.func83, Tryz.ntmps83
  go_wp2_with (go_at_call 82; refine (wnamed_any Ty b acc [35, 70, 117, 110, 60] [] n _ (by omega) (by omega) h0 hw0 hb hpre.out).mono ?_; rintro e w1 ⟨⟨u, rfl⟩, h2, k2⟩; obtain ⟨⟨q0, q1, q2, q3⟩, _⟩ := kept4 (k2.box hbox (by omega) (by decide)) (Below.refl _ _))
  go_loopw [13] (fun ii wr => ∃ (i : Nat), i ≤ l.length ∧ ii = .int .i64 i ∧ Bld Ty b (acc ++ [35, 70, 117, 110, 60] ++ dec n ++ ((l.take i).map Tm.text).flatMap (44 :: ·)) wr ∧ Wrote b w wr) (fun ii _ => l.length - (intOf ii).toNat)
  case atStart => exact ⟨0, Nat.zero_le _, rfl, by simpa using h2, hk0.trans k2⟩
  case round =>
    clear h2 k2 q0 q1 q2 q3
    obtain ⟨i, hi, rfl, hbl, hk⟩ := hrel
    have hlen2 : l.length ≤ 9223372036854775807 := Nat.le_trans hl.1 hl.2.1
    have hbnd : Hid (∀ j, (acc ++ [35, 70, 117, 110, 60] ++ dec n ++ ((l.take j).map Tm.text).flatMap (44 :: ·)).length + 10001 ≤ 1000000000) := Hid.mk (fun j => by
      have h1 := flat_take_le l j
      have h2 := hll.out
      simp only [List.length_append, List.length_cons, List.length_nil] at h2 ⊢
      omega)
    by_cases hlt : i < l.length
    · obtain ⟨bb, o, rfl, hSb, hr⟩ := hl.some (by omega)
      obtain ⟨k', n', s', m', a', cap', hT, c0, c1, c2, c3, hli⟩ := hr.part i hlt
      have hbb := hS bb hSb
      have c0 : wr.cell? _ = _ := (hk.below.cell (p := ⟨bb, o + i * 4, none⟩) hbb).trans c0
      have c1 : wr.cell? _ = _ := (hk.below.cell (p := ⟨bb, o + i * 4 + 1, none⟩) hbb).trans c1
      have c2 : wr.cell? _ = _ := (hk.below.cell (p := ⟨bb, o + i * 4 + 2, none⟩) hbb).trans c2
      have c3 : wr.cell? _ = _ := (hk.below.cell (p := ⟨bb, o + i * 4 + 3, none⟩) hbb).trans c3
      have hu2 : Up wr (wr.alloc (.cells #[.int .i64 k', .int .i64 n', .string s', .slice a' m'.length cap'] 24)) := (Up.refl wr).alloc
      have hbox2 := new_block wr (.cells #[.int .i64 k', .int .i64 n', .string s', .slice a' m'.length cap'] 24)
      have hb2 := hbl.up hu2
      have hkk := hk.trans (Wrote.up hu2 hbl.lt)
      have hnx := flat_next l i hlt
      have hb1 := hbnd.out (i + 1)
      have hlb : Hid ((acc ++ [35, 70, 117, 110, 60] ++ dec n ++ ((l.take i).map Tm.text).flatMap (44 :: ·)).length ≤ 1000000000) := Hid.mk (by have := hbnd.out i; omega)
      rw [hnx, ← List.append_assoc, List.length_append, List.length_cons] at hb1
      obtain ⟨A, hA⟩ : ∃ A, acc ++ [35, 70, 117, 110, 60] ++ dec n ++ ((l.take i).map Tm.text).flatMap (44 :: ·) = A := ⟨_, rfl⟩
      rw [hA] at hbl hb2 hlb hb1
      have hA := Hid.mk hA
      have hc := Hid.mk (fun w1 (h : Bld Ty b (A ++ [44]) w1) (hw1 : Wrote b w w1) => ih.out l[i] (List.getElem_mem hlt) Ty b _ S _ w1 h (hw.from hw1.below hb) hb (by rw [List.length_append, List.length_singleton]; omega) (hli.low hS hw1.below) hS)
      have hnx := Hid.mk hnx
      clear hb1
      have t1 := True.intro
      go_wp2_with (first
        | (go_at_call 58; refine (hc.out _ h3 (hkk.trans k3)).mono ?_; rintro e w4 ⟨⟨u, rfl⟩, h4, k4⟩)
        | (go_at_call 65; have g := t1; clear t1; refine (bldByte_any Ty b _ 44 _ hb2 hlb.out).mono ?_; rintro e w3 ⟨rfl, h3, k3⟩; obtain ⟨⟨q0, q1, q2, q3⟩, _⟩ := kept4 (k3.box hbox2 (by have := hbl.lt; omega) (by decide)) (Below.refl _ _)))
      go_roundw
      case rel => exact ⟨i + 1, by omega, by go_num, by rw [hnx.out, ← List.append_assoc, hA.out]; simpa using h4, (hkk.trans k3).trans k4⟩
      case measure => simp [intOf]; omega
    · obtain rfl : i = l.length := by omega
      have hlb := Hid.mk (hbnd.out l.length)
      go_wp2_with (go_at_call 65; refine (bldByte_any Ty b _ 62 _ hbl (by have := hlb.out; omega)).mono ?_; rintro e w3 ⟨rfl, h3, k3⟩)
      go_end0
      refine ⟨⟨_, rfl⟩, ?_, hk.trans k3⟩
      rw [List.take_length] at h3
      simpa using h3

/-- A box beside the builder is written over. -/
theorem Bld.set4 {T b k : Nat} {l : List UInt8} {w : World} {c : Array Value} {v0 v1 v2 v3 : Value} (h : Bld T b l w) (hk : w.heap[k]? = some (.cells c 24)) (hne : k ≠ b) :
    Bld T b l ((((w.setCell ⟨k, 0, none⟩ v0).setCell ⟨k, 1, none⟩ v1).setCell ⟨k, 2, none⟩ v2).setCell ⟨k, 3, none⟩ v3) := by
  obtain ⟨hT, hB, hn⟩ := h
  have hh : ∀ j, j ≠ k → ((((w.setCell ⟨k, 0, none⟩ v0).setCell ⟨k, 1, none⟩ v1).setCell ⟨k, 2, none⟩ v2).setCell ⟨k, 3, none⟩ v3).heap[j]? = w.heap[j]? := fun j hj => set4_heap w k v0 v1 v2 v3 j hj
  generalize ((((w.setCell ⟨k, 0, none⟩ v0).setCell ⟨k, 1, none⟩ v1).setCell ⟨k, 2, none⟩ v2).setCell ⟨k, 3, none⟩ v3) = w' at hh
  have key : ∀ p, Lib.BuilderAtF T 5 b b p (Lib.byteCells l) w → Lib.BuilderAtF T 5 b b p (Lib.byteCells l) w' := fun p h => by
    obtain ⟨h1, v, h2, ⟨h3, h4⟩, h5⟩ := h
    refine ⟨h1, v, (hh b (Ne.symm hne)).trans h2, ⟨h3, ?_⟩, h5⟩
    rcases h4 with h4 | ⟨g, cap, cur, fz, e1, e2, e3, r⟩
    · exact Or.inl h4
    · refine Or.inr ⟨g, cap, cur, fz, e1, e2, (hh g ?_).trans e3, r⟩
      rintro rfl
      rw [hk] at e3
      simp only [Option.some.injEq, Obj.cells.injEq] at e3
      exact absurd e3.2.1 (by decide)
  refine ⟨hT, hB.imp (key _) (key _), fun e => ?_⟩
  have h2 := hn e
  unfold World.cell? at h2 ⊢
  simp only at h2 ⊢
  rw [hh b (Ne.symm hne)]
  exact h2
theorem Wrote.set4 {b k : Nat} {w w' : World} {v0 v1 v2 v3 : Value} (h : Wrote b w w') (hb : b ≤ k) (hk : w.heap.size ≤ k) :
    Wrote b w ((((w'.setCell ⟨k, 0, none⟩ v0).setCell ⟨k, 1, none⟩ v1).setCell ⟨k, 2, none⟩ v2).setCell ⟨k, 3, none⟩ v3) :=
  ⟨Below.set4 h.below hb, fun j o hj hne ho => (set4_heap w' k v0 v1 v2 v3 j (by have := (Array.getElem?_eq_some_iff.1 hj).1; omega)).trans (h.others j o hj hne ho)⟩

set_option maxHeartbeats 4000000 in
theorem wlist_any (n : Int) (s : ByteArray) (ta tb : Tm) (ih0 : ∀ R : Tm, R.size < (Tm.mk 9 n s [ta, tb]).size → R.fits = true → WT R) (hf : (Tm.mk 9 n s [ta, tb]).fits = true) (Ty b : Nat) (acc : List UInt8) (S : Nat → Prop) (v : Value) (w : World) (h : Bld Ty b acc w) (hw : Wld w) (hb : 6 ≤ b) (hlen : acc.length + (Tm.mk 9 n s [ta, tb]).text.length + 10000 ≤ 1000000000)
    (hv : Lies w S (.mk 9 n s [ta, tb]) v) (hS : ∀ k, S k → k < b) :
    Calls Tryz.prog 86 #[.pointer (some ⟨b, 0, none⟩), v] w fun e w' => (∃ u, e = .returned u) ∧ Bld Ty b (acc ++ (Tm.mk 9 n s [ta, tb]).text) w' ∧ Wrote b w w' := by
  obtain ⟨a, cap, rfl, hs, hl⟩ := hv.out
  have ih := Hid.mk ih0
  clear ih0
  have hlt := h.lt
  obtain ⟨W0, hW0⟩ : ∃ W0, w.alloc (.cells #[.int .i64 9, .int .i64 n, .string s, .slice a 2 cap] 24) = W0 := ⟨_, rfl⟩
  have hbox : W0.heap[w.heap.size]? = some (.cells #[.int .i64 9, .int .i64 n, .string s, .slice a 2 cap] 24) := by rw [← hW0]; exact new_block w _
  have hu0 : Up w W0 := by rw [← hW0]; exact (Up.refl w).alloc
  have h0 := h.up hu0
  have hw0 := hw.next hu0
  have hk0 := Wrote.up hu0 hlt
  obtain ⟨⟨q0, q1, q2, q3⟩, _⟩ := kept4 hbox (Below.refl _ _)
  rw [text_k9] at hlen ⊢
  have hcap1 := hl.1
  obtain ⟨F, hF⟩ : ∃ F, acc ++ 91 :: (ta.text ++ tb.tail) = F := ⟨_, rfl⟩
  have hFl : F.length + 10000 ≤ 1000000000 := by rw [← hF, List.length_append]; exact hlen
  rw [hF]
  have hF := Hid.mk hF
  have hFl := Hid.mk hFl
  have hff := Hid.mk hf
  obtain ⟨Z, hZ⟩ : ∃ Z, (Tm.mk 9 n s [ta, tb]).size = Z := ⟨_, rfl⟩
  rw [hZ] at ih
  have hZ := Hid.mk hZ
  have hla : Hid (acc.length ≤ 1000000000) := Hid.mk (by omega)
  clear hlen hv hf
  have t0 := True.intro
  go_enter Tryz.func86, Tryz.ntmps86
  go_wp2
  apply wp_scope_straight
  go_wp2_with (go_at_call 65; have g := t0; clear t0; refine (bldByte_any Ty b acc 91 _ h0 hla.out).mono ?_; rintro e w1 ⟨rfl, h2, k2⟩; have hbox1 := k2.box hbox (by omega) (by decide))
  apply wp_label
  clear q0 q1 q2 q3
  go_upto_region 2 with fail
  go_loopg [8] Z (fun q _ wr => ∃ (n' : Int) (s' : ByteArray) (x y : Tm) (a' : Option Addr) (cap' : Nat) (A : List UInt8), Hid ((Tm.mk 9 n' s' [x, y]).size ≤ q) ∧ Hid ((Tm.mk 9 n' s' [x, y]).size ≤ Z) ∧ Hid ((Tm.mk 9 n' s' [x, y]).fits = true) ∧
    wr.heap[w.heap.size]? = some (.cells #[.int .i64 9, .int .i64 n', .string s', .slice a' 2 cap'] 24) ∧ 2 ≤ cap' ∧ cap' ≤ 9223372036854775807 ∧ Hid (Lst w S [x, y] a' cap') ∧ Hid (A ++ (x.text ++ y.tail) = F) ∧ Bld Ty b A wr ∧ Wrote b w wr)
  case atStart => exact ⟨n, s, ta, tb, a, cap, acc ++ [91], Hid.mk (by rw [hZ.out]; exact Nat.le_refl _), Hid.mk (by rw [hZ.out]; exact Nat.le_refl _), hff, hbox1, by simpa using hcap1, hl.2.1, Hid.mk hl, Hid.mk (by rw [← hF.out]; simp), h2, hk0.trans k2⟩
  case round =>
    clear hbox1 h2 k2
    obtain ⟨n', s', x, y, a', cap', A, hzq, hzZ, hft, hbox2, hcap2, hcap3, hl', hAF, hbl, hk⟩ := hrel
    obtain ⟨bb, o, rfl, hSb, hr⟩ := hl'.out.some (by simp)
    obtain ⟨k1, n1, s1, m1, a1, cap1, hT1, c0, c1, c2, c3, hli1⟩ := hr.part 0 (by simp)
    obtain ⟨k2, n2, s2, m2, a2, cap3', hT2, e0, e1, e2, e3, hli2⟩ := hr.part 1 (by simp)
    have hT2' : y = .mk k2 n2 s2 m2 := hT2
    subst hT2'
    have hli1' : Lies w S x (.agg #[.int .i64 k1, .int .i64 n1, .string s1, .slice a1 m1.length cap1]) := hli1
    have hli2' : Lies w S (.mk k2 n2 s2 m2) (.agg #[.int .i64 k2, .int .i64 n2, .string s2, .slice a2 m2.length cap3']) := hli2
    simp only [Nat.zero_mul, Nat.add_zero] at c0 c1 c2 c3
    have hbb := hS bb hSb
    have d0 : wr.cell? _ = _ := (hk.below.cell (p := ⟨bb, o, none⟩) hbb).trans c0
    have d1 : wr.cell? _ = _ := (hk.below.cell (p := ⟨bb, o + 1, none⟩) hbb).trans c1
    have d2 : wr.cell? _ = _ := (hk.below.cell (p := ⟨bb, o + 2, none⟩) hbb).trans c2
    have d3 : wr.cell? _ = _ := (hk.below.cell (p := ⟨bb, o + 3, none⟩) hbb).trans c3
    obtain ⟨⟨q0, q1, q2, q3⟩, _⟩ := kept4 hbox2 (Below.refl _ _)
    have hfits := hft.out
    rw [fits_mk, Bool.and_eq_true] at hfits
    have hm := fitss_at hfits.2
    have hfx := hm x (by simp)
    have hfy := hm (.mk k2 n2 s2 m2) (by simp)
    have hsz : (Tm.mk 9 n' s' [x, .mk k2 n2 s2 m2]).size = 1 + (x.size + ((Tm.mk k2 n2 s2 m2).size + 0)) := by rw [Tm.size_mk 9, sizes, sizes, sizes]
    have hz1 := hzq.out
    have hz2 := hzZ.out
    rw [hsz] at hz1 hz2
    have hxp := x.size_pos
    have hlenA := congrArg List.length hAF.out
    rw [List.length_append, List.length_append] at hlenA
    have hFl2 := hFl.out
    have hc := Hid.mk (ih.out x (by omega) hfx Ty b A S _ wr hbl (hw.from hk.below hb) hb (by omega) (hli1'.low hS hk.below) hS)
    have e0 := Hid.mk e0
    have e1 := Hid.mk e1
    have e2 := Hid.mk e2
    have e3 := Hid.mk e3
    have hkb : w.heap.size ≠ b := by omega
    have hlx : Hid ((A ++ x.text).length ≤ 1000000000 ∧ (A ++ x.text).length + (Tm.mk k2 n2 s2 m2).tail.length + 10000 ≤ 1000000000) := Hid.mk (by rw [List.length_append]; omega)
    have hAF2 : Hid (A ++ x.text ++ (Tm.mk k2 n2 s2 m2).tail = F) := Hid.mk (by rw [List.append_assoc]; exact hAF.out)
    have t1 := True.intro
    clear hlenA hFl2 hfits hm
    by_cases hk9 : k2 = 9
    · subst hk9
      have hf2 := hfy
      rw [fits_mk, Bool.and_eq_true] at hf2
      obtain ⟨rfl, _, x', y', rfl⟩ := fitR_cons (fitR_fit hf2.1)
      obtain ⟨a2', cap3'', hv2, hs2, hl2⟩ := hli2'.out
      simp only [Value.agg.injEq, Array.mk.injEq, List.cons.injEq, Value.slice.injEq, true_and, and_true] at hv2
      obtain ⟨rfl, rfl⟩ := hv2
      have hz3 := Hid.mk hz1
      have hz4 := Hid.mk hz2
      have hfy := Hid.mk hfy
      have hc2 : 2 ≤ cap3' := by simpa using hl2.1
      have hc3 : cap3' ≤ 9223372036854775807 := hl2.2.1
      clear hz1 hz2 hsz hf2
      go_wp2_with (first
        | (go_at_call 58; have g := t1; clear t1; refine hc.out.mono ?_; rintro e w3 ⟨⟨u, rfl⟩, h3, k3⟩; have hkk := hk.trans k3; have hbox3 := k3.box hbox2 (by omega) (by decide); obtain ⟨⟨q0, q1, q2, q3⟩, ⟨f0, f1, f2, f3⟩⟩ := kept4 hbox3 (Below.refl _ _); have g0 : w3.cell? _ = _ := (hkk.below.cell (p := ⟨bb, o + 1 * 4, none⟩) hbb).trans e0.out; have g1 : w3.cell? _ = _ := (hkk.below.cell (p := ⟨bb, o + 1 * 4 + 1, none⟩) hbb).trans e1.out; have g2 : w3.cell? _ = _ := (hkk.below.cell (p := ⟨bb, o + 1 * 4 + 2, none⟩) hbb).trans e2.out; have g3 : w3.cell? _ = _ := (hkk.below.cell (p := ⟨bb, o + 1 * 4 + 3, none⟩) hbb).trans e3.out; have h4 := h3.set4 (v0 := .int .i64 9) (v1 := .int .i64 0) (v2 := .string s2) (v3 := .slice a2 2 cap3') hbox3 (by omega); have k4 := hkk.set4 (v0 := .int .i64 9) (v1 := .int .i64 0) (v2 := .string s2) (v3 := .slice a2 2 cap3') (k := w.heap.size) (by omega) (Nat.le_refl _); have hbox4 := set4_block (v0 := .int .i64 9) (v1 := .int .i64 0) (v2 := .string s2) (v3 := .slice a2 2 cap3') hbox3)
        | (go_at_call 65; refine (bldByte_any Ty b _ 44 _ h4 hlx.out.1).mono ?_; rintro e w5 ⟨rfl, h5, k5⟩))
      go_roundg (Tm.mk 9 0 s2 [x', y']).size
      case measure => have := hz3.out; omega
      case rel => exact ⟨0, s2, x', y', a2, cap3', _, Hid.mk (Nat.le_refl _), Hid.mk (by have := hz4.out; omega), hfy, k5.box hbox4 (by omega) (by decide), hc2, hc3, Hid.mk hl2, Hid.mk (by rw [← hAF2.out, tail_k9]; simp), h5, k4.trans k5⟩
    have hd9 : (k2 == 9) = false := by simpa using hk9
    by_cases hk8 : k2 = 8
    · subst hk8
      clear hz1 hz2 hsz
      go_wp2_with (first
        | (go_at_call 58; have g := t1; clear t1; refine hc.out.mono ?_; rintro e w3 ⟨⟨u, rfl⟩, h3, k3⟩; have hkk := hk.trans k3; have hbox3 := k3.box hbox2 (by omega) (by decide); obtain ⟨⟨q0, q1, q2, q3⟩, ⟨f0, f1, f2, f3⟩⟩ := kept4 hbox3 (Below.refl _ _); have g0 : w3.cell? _ = _ := (hkk.below.cell (p := ⟨bb, o + 1 * 4, none⟩) hbb).trans e0.out; have g1 : w3.cell? _ = _ := (hkk.below.cell (p := ⟨bb, o + 1 * 4 + 1, none⟩) hbb).trans e1.out; have g2 : w3.cell? _ = _ := (hkk.below.cell (p := ⟨bb, o + 1 * 4 + 2, none⟩) hbb).trans e2.out; have g3 : w3.cell? _ = _ := (hkk.below.cell (p := ⟨bb, o + 1 * 4 + 3, none⟩) hbb).trans e3.out; have h4 := h3.set4 (v0 := .int .i64 8) (v1 := .int .i64 n2) (v2 := .string s2) (v3 := .slice a2 m2.length cap3') hbox3 (by omega); have k4 := hkk.set4 (v0 := .int .i64 8) (v1 := .int .i64 n2) (v2 := .string s2) (v3 := .slice a2 m2.length cap3') (k := w.heap.size) (by omega) (Nat.le_refl _); have hbox4 := set4_block (v0 := .int .i64 8) (v1 := .int .i64 n2) (v2 := .string s2) (v3 := .slice a2 m2.length cap3') hbox3)
        | (go_at_call 65; refine (bldByte_any Ty b _ 93 _ h4 hlx.out.1).mono ?_; rintro e w5 ⟨rfl, h5, k5⟩))
      try rw [Exit.noGoto_normal]
      go_end0
      refine ⟨⟨_, rfl⟩, ?_, k4.trans k5⟩
      have hF2 := hAF2.out
      rw [tail_k8] at hF2
      rw [← hF2]
      exact h5
    have hd8 : (k2 == 8) = false := by simpa using hk8
    have htl := tail_else k2 n2 s2 m2 hk8 hk9
    have hl3 := hlx.out.2
    rw [htl] at hl3
    simp only [List.length_append, List.length_cons, List.length_nil] at hl3
    have hc2 := Hid.mk (fun w1 (h : Bld Ty b (A ++ x.text ++ [124]) w1) (hw1 : Wrote b w w1) => ih.out (.mk k2 n2 s2 m2) (by omega) hfy Ty b _ S _ w1 h (hw.from hw1.below hb) hb (by simp only [List.length_append, List.length_cons, List.length_nil]; omega) (hli2'.low hS hw1.below) hS)
    have hl3 := Hid.mk hl3
    have hle : Hid ((A ++ x.text ++ [124] ++ (Tm.mk k2 n2 s2 m2).text).length ≤ 1000000000) := Hid.mk (by have := hl3.out; simp only [List.length_append, List.length_cons, List.length_nil]; omega)
    rw [htl] at hAF2
    clear hz1 hz2 hsz
    go_wp2_with (first
      | (go_at_call 65; refine (bldByte_any Ty b _ 93 _ h6 hle.out).mono ?_; rintro e w7 ⟨rfl, h7, k7⟩)
      | (go_at_call 58; have g := t1; clear t1; refine hc.out.mono ?_; rintro e w3 ⟨⟨u, rfl⟩, h3, k3⟩; have hkk := hk.trans k3; have hbox3 := k3.box hbox2 (by omega) (by decide); obtain ⟨⟨q0, q1, q2, q3⟩, ⟨f0, f1, f2, f3⟩⟩ := kept4 hbox3 (Below.refl _ _); have g0 : w3.cell? _ = _ := (hkk.below.cell (p := ⟨bb, o + 1 * 4, none⟩) hbb).trans e0.out; have g1 : w3.cell? _ = _ := (hkk.below.cell (p := ⟨bb, o + 1 * 4 + 1, none⟩) hbb).trans e1.out; have g2 : w3.cell? _ = _ := (hkk.below.cell (p := ⟨bb, o + 1 * 4 + 2, none⟩) hbb).trans e2.out; have g3 : w3.cell? _ = _ := (hkk.below.cell (p := ⟨bb, o + 1 * 4 + 3, none⟩) hbb).trans e3.out; have h4 := h3.set4 (v0 := .int .i64 k2) (v1 := .int .i64 n2) (v2 := .string s2) (v3 := .slice a2 m2.length cap3') hbox3 (by omega); have k4 := hkk.set4 (v0 := .int .i64 k2) (v1 := .int .i64 n2) (v2 := .string s2) (v3 := .slice a2 m2.length cap3') (k := w.heap.size) (by omega) (Nat.le_refl _); have hbox4 := set4_block (v0 := .int .i64 k2) (v1 := .int .i64 n2) (v2 := .string s2) (v3 := .slice a2 m2.length cap3') hbox3)
      | (go_at_call 65; refine (bldByte_any Ty b _ 124 _ h4 hlx.out.1).mono ?_; rintro e w5 ⟨rfl, h5, k5⟩; obtain ⟨⟨r0, r1, r2, r3⟩, _⟩ := kept4 (k5.box hbox4 (by omega) (by decide)) (Below.refl _ _))
      | (go_at_call 58; refine (hc2.out _ h5 (k4.trans k5)).mono ?_; rintro e w6 ⟨⟨u2, rfl⟩, h6, k6⟩))
    try rw [Exit.noGoto_normal]
    go_end0
    refine ⟨⟨_, rfl⟩, ?_, ((k4.trans k5).trans k6).trans k7⟩
    rw [← hAF2.out]
    simpa using h7

set_option maxRecDepth 100000 in
theorem wt_all : ∀ (z : Nat) (T : Tm), T.size ≤ z → T.fits = true → WT T := by
  intro z
  induction z with
  | zero => intro T hz _; have := T.size_pos; omega
  | succ z ih =>
    intro T hz hf
    have ih2 : ∀ R : Tm, R.size < T.size → R.fits = true → WT R := fun R h1 h2 => ih R (by omega) h2
    obtain ⟨k, n, s, l⟩ := T
    have hfit := hf
    rw [fits_mk, Bool.and_eq_true] at hfit
    have hm := fitss_at hfit.2
    have hk := fitR_kind (fitR_fit hfit.1)
    have hp := fitR_parts (fitR_fit hfit.1)
    have hsz := Tm.size_mk k n s l
    have hin : ∀ t ∈ l, WT t := fun t ht => ih2 t (by have := sizes_of_mem ht; omega) (hm t ht)
    by_cases hs : k = 1 ∨ k = 2 ∨ k = 3 ∨ k = 4 ∨ k = 6 ∨ k = 8
    · have hl : l = [] := List.length_eq_zero_iff.1 (by
        rcases hs with rfl | rfl | rfl | rfl | rfl | rfl
        · exact (hp.1 rfl).2.2.2
        · exact (hp.2.1 rfl).2.2
        · exact (hp.2.2.1 (by omega)).2.2.2
        · exact (hp.2.2.1 (by omega)).2.2.2
        · exact (hp.2.2.1 (by omega)).2.2.2
        · exact (hp.2.2.2.2.2 rfl).2.2)
      subst hl
      exact wt_small k n s hs hf
    intro Ty b acc S v w h hw hb hlen hv hS
    obtain ⟨a, cap, rfl, hs2, hl⟩ := hv.out
    have hlt := h.lt
    obtain ⟨W0, hW0⟩ : ∃ W0, w.alloc (.cells #[.int .i64 k, .int .i64 n, .string s, .slice a l.length cap] 24) = W0 := ⟨_, rfl⟩
    have hbox : W0.heap[w.heap.size]? = some (.cells #[.int .i64 k, .int .i64 n, .string s, .slice a l.length cap] 24) := by rw [← hW0]; exact new_block w _
    have hu0 : Up w W0 := by rw [← hW0]; exact (Up.refl w).alloc
    have h0 := h.up hu0
    have hw0 := hw.next hu0
    have hk0 := Wrote.up hu0 hlt
    obtain ⟨⟨q0, q1, q2, q3⟩, _⟩ := kept4 hbox (Below.refl _ _)
    have hv0 := Hid.mk (hv.below hu0)
    obtain h1 | h1 | h1 : k = 5 ∨ k = 7 ∨ k = 9 := by omega
    all_goals subst h1
    · obtain ⟨n0, n1, _⟩ := hp.2.2.2.1 rfl
      have hc := Hid.mk (wfun_any n s l hin Ty b acc S _ W0 h0 hw0 hb hlen (by omega) (by omega) hv0.out hS)
      generalize (Tm.mk 5 n s l).text = X at *
      clear hv hp hm hfit hf hl
      go_enter Tryz.func58, Tryz.ntmps58
      go_wp2_with (go_at_call 83; refine hc.out.mono ?_; rintro e w2 ⟨⟨u, rfl⟩, h2, k2⟩)
      go_end0
      exact ⟨⟨_, rfl⟩, h2, hk0.trans k2⟩
    · have hc := Hid.mk (wtuple_any n s l hin Ty b acc S _ W0 h0 hw0 hb hlen hv0.out hS)
      generalize (Tm.mk 7 n s l).text = X at *
      clear hv hp hm hfit hf hl
      go_enter Tryz.func58, Tryz.ntmps58
      go_wp2_with (go_at_call 84; refine hc.out.mono ?_; rintro e w2 ⟨⟨u, rfl⟩, h2, k2⟩)
      go_end0
      exact ⟨⟨_, rfl⟩, h2, hk0.trans k2⟩
    · obtain ⟨hn9, hs9, x, y, rfl⟩ := fitR_cons (fitR_fit hfit.1)
      have hc := Hid.mk (wlist_any n s x y ih2 hf Ty b acc S (.agg #[.int .i64 9, .int .i64 n, .string s, .slice a 2 cap]) W0 h0 hw0 hb hlen hv0.out hS)
      have hW2 : w.alloc (.cells #[.int .i64 9, .int .i64 n, .string s, .slice a 2 cap] 24) = W0 := hW0
      have q3' : W0.cell? ⟨w.heap.size, 3, none⟩ = some (.slice a 2 cap) := q3
      rw [show ([x, y] : List Tm).length = 2 from rfl]
      clear hW0 q3 hbox hv0 hn9 hs9
      generalize (Tm.mk 9 n s [x, y]).text = X at *
      clear hv hp hm hfit hf hl
      go_enter Tryz.func58, Tryz.ntmps58
      go_wp2_with (go_at_call 86; refine hc.out.mono ?_; rintro e w2 ⟨⟨u, rfl⟩, h2, k2⟩)
      go_end0
      exact ⟨⟨_, rfl⟩, h2, hk0.trans k2⟩

end Go.Proofs.YtnbekfpkmebmbaaGreatDoor
