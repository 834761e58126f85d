/-
  The bytes that stand ahead of a term's parts, and the parts that are gone into.
-/
import Derived.Test.YtnelefokpopfdaaDoorHashNum
namespace Go.Proofs.YtnelefokpopfdaaDoor
open Go.RowKit Go.Deep

attribute [local go_sem] Oper.semAt_some

/-- The bytes that stand ahead of those of a term's parts. -/
def ownBy (k n : Int) (s : ByteArray) (len : Nat) : List UInt8 :=
  b8 k :: ((if k = 1 ∨ k = 3 ∨ k = 4 ∨ k = 6 ∨ k = 5 then le8 n else if k = 2 then b8 s.size :: s.toList else []) ++ (if k = 7 ∨ k = 5 then [b8 len] else []))
theorem b8_kind (k : Int) : ((b8 k).toNat : Int) = k % 256 := b8_toNat k

theorem Went.cons {n₀ B : Nat} {J Jx : List UInt8 → World → Prop} {pre bs : List UInt8} {x : UInt8} {W W1 : World} {e : Ending} {W' : World} (h : Went n₀ B J Jx (pre ++ [x]) bs W1 e W') (hs : SparesC Row8 n₀ B W W1) : Went n₀ B J Jx pre (x :: bs) W e W' := by
  rcases h with ⟨rfl, h1, h2⟩ | ⟨rfl, h⟩
  · exact .inl ⟨rfl, by simpa [List.append_assoc] using h1, hs.trans h2⟩
  · exact .inr ⟨rfl, h⟩

set_option maxHeartbeats 4000000 in
theorem own_in (l n₀ B N : Nat) (J Jx : List UInt8 → World → Prop) (hB : n₀ ≤ B) (hJ : OnRows Row8 B J) (hY : YB l n₀ B N J Jx) (k x : Int) (s : ByteArray) (a : Option Addr) (len cap : Nat) (hs : Small k x s) (_ : len ≤ 9223372036854775807)
    (n : Nat) (pre : List UInt8) (W : World) (hBW : B ≤ W.heap.size) (hJ0 : J pre W) (hN : pre.length + (ownBy k x s len).length ≤ N) :
    CallsIn Fence.wide n Tryd.prog 38 #[.agg #[.int .i64 k, .int .i64 x, .string s, .slice a len cap], .func (.yield l) #[] #[]] W (Went n₀ B J Jx pre (ownBy k x s len) W) := by
  obtain ⟨W0, hW0⟩ : ∃ W0, W.alloc (.cells #[.int .i64 k, .int .i64 x, .string s, .slice a len cap] 24) = W0 := ⟨_, rfl⟩
  have hb0 : Below W.heap.size W W0 := by rw [← hW0]; exact (Below.refl _ _).alloc (Nat.le_refl _) _
  have hbox : W0.heap[W.heap.size]? = some (.cells #[.int .i64 k, .int .i64 x, .string s, .slice a len cap] 24) := by rw [← hW0]; exact new_block _ _
  have hs0 : SparesC Row8 n₀ B W W0 := SparesC.below hb0 (Nat.le_trans hB hBW)
  have hz0 : W0.heap.size = W.heap.size + 1 := by rw [← hW0]; exact World.size_alloc _ _
  obtain ⟨⟨g0, g1, g2, g3⟩, f0, f1, f2, f3⟩ := kept4 hbox (Below.refl _ _)
  have hpos : 1 ≤ (ownBy k x s len).length := by simp [ownBy]
  have hy0 := hY (n - 1) pre (b8 k) W0 (hJ _ _ _ hJ0 (Leaves.below hb0 hBW)) (by omega) (by omega)
  rw [b8_kind] at hy0
  obtain ⟨fn, tmps, assign, body, hy, hR⟩ := hy0
  refine callsIn_of_wp Tryd.func38 rfl trivial ?_ rfl
  simp only [Tryd.ntmps38, List.size_toArray, List.length_cons, List.length_nil, Nat.reduceAdd, Nat.reduceSub, Array.replicate_succ, Array.replicate_zero, List.push_toArray, List.append_toArray, List.nil_append, List.cons_append]
  gi_wp2
  refine ⟨fun h => (by cases h), hR.mono ?_⟩
  clear hR hy
  rintro e W3 (⟨rfl, hJ3, hs3⟩ | ⟨rfl, hx3⟩)
  rotate_left
  · gi_wp2
    go_ret
    exact .inr ⟨rfl, _, hx3⟩
  have hbox3 := hs3.same _ _ hBW hbox (not8 _ _)
  clear g0 g1 g2 g3 f0 f1 f2 f3
  obtain ⟨⟨g0, g1, g2, g3⟩, f0, f1, f2, f3⟩ := kept4 hbox3 (Below.refl _ _)
  have hsp := hs0.trans hs3
  have hz3 := hs3.low.size
  have hz3' : B ≤ W3.heap.size := Nat.le_trans hBW hsp.low.size
  by_cases h1 : k = 1 ∨ k = 3 ∨ k = 4 ∨ k = 6
  · have e1 : ownBy k x s len = b8 k :: le8 x := by
      unfold ownBy
      rw [if_pos (by omega), if_neg (by omega), List.append_nil]
    have hc := number_in l n₀ B N J Jx hY x hs.n0 hs.n1 (n - 1) (pre ++ [b8 k]) W3 hz3' hJ3 (by rw [e1, List.length_cons, le8_length] at hN; rw [List.length_append, List.length_singleton]; omega)
    have e1 := Hid.mk e1
    clear hN hpos
    rcases h1 with rfl | rfl | rfl | rfl
    all_goals
      gi_wp2_with (refine ⟨trivial, (fun h => (by cases h)), ?_⟩; gi_at_call 40; refine hc.mono ?_; clear hc; rintro e W5 (⟨rfl, hj, hsq⟩ | ⟨rfl, hq⟩))
      · go_ret
        rw [e1.out]
        exact Went.cons (.inl ⟨rfl, hj, hsq⟩) hsp
      · go_ret
        exact .inr ⟨rfl, hq⟩
  by_cases h2 : k = 2
  · subst h2
    have e1 : ownBy 2 x s len = b8 2 :: textB s := by simp [ownBy, textB]
    have hc := text_in l n₀ B N J Jx hY s hs.s1 (n - 1) (pre ++ [b8 2]) W3 hz3' hJ3 (by rw [e1, List.length_cons, textB_length] at hN; rw [List.length_append, List.length_singleton]; omega)
    have e1 := Hid.mk e1
    clear hN hpos
    gi_wp2_with (refine ⟨trivial, (fun h => (by cases h)), ?_⟩; gi_at_call 41; refine hc.mono ?_; clear hc; rintro e W5 (⟨rfl, hj, hsq⟩ | ⟨rfl, hq⟩))
    · go_ret
      rw [e1.out]
      exact Went.cons (.inl ⟨rfl, hj, hsq⟩) hsp
    · go_ret
      exact .inr ⟨rfl, hq⟩
  by_cases h7 : k = 7
  · subst h7
    have e1 : ownBy 7 x s len = b8 7 :: [b8 len] := by simp [ownBy]
    have hy1 := hY (n - 1) (pre ++ [b8 7]) (b8 len) W3 hJ3 hz3' (by rw [e1] at hN; rw [List.length_append, List.length_singleton]; simp at hN; omega)
    rw [b8_size] at hy1
    obtain ⟨fn, tmps, assign, body, hy, hR⟩ := hy1
    have e1 := Hid.mk e1
    clear hN hpos h1 h2
    gi_wp2
    refine ⟨fun h => (by cases h), hR.mono ?_⟩
    clear hR hy
    rintro e W5 (⟨rfl, hj, hsq⟩ | ⟨rfl, hq⟩)
    · gi_wp2
      go_ret
      rw [e1.out]
      exact Went.cons (.inl ⟨rfl, hj, hsq⟩) hsp
    · gi_wp2
      go_ret
      exact .inr ⟨rfl, _, hq⟩
  by_cases h5 : k = 5
  · subst h5
    have e1 : ownBy 5 x s len = b8 5 :: (le8 x ++ [b8 len]) := by simp [ownBy]
    have hc := number_in l n₀ B N J Jx hY x hs.n0 hs.n1 (n - 1) (pre ++ [b8 5]) W3 hz3' hJ3 (by rw [e1, List.length_cons, List.length_append, le8_length] at hN; rw [List.length_append, List.length_singleton]; omega)
    have hN2 : (pre ++ [b8 5] ++ le8 x).length < N := by
      rw [e1, List.length_cons, List.length_append, le8_length] at hN
      rw [List.length_append, List.length_append, le8_length, List.length_singleton]
      simp at hN
      omega
    have hc := hc.mono (R' := fun e W5 => (e = .returned (.bool true) ∧ SparesC Row8 n₀ B W3 W5 ∧ W5.cell? ⟨W.heap.size, 3, none⟩ = some (.slice a len cap) ∧ YieldAt Fence.wide (n - 1) Tryd.prog l #[.int .u8 ((len : Int) % 256)] W5 fun e W' =>
        (e = .returned (.bool true) ∧ J (pre ++ [b8 5] ++ le8 x ++ [b8 len]) W' ∧ SparesC Row8 n₀ B W5 W') ∨ (e = .returned (.bool false) ∧ Jx (pre ++ [b8 5] ++ le8 x ++ [b8 len]) W')) ∨ (e = .returned (.bool false) ∧ ∃ q, Jx q W5)) (fun e W5 h => by
      rcases h with ⟨rfl, hj, hsq⟩ | ⟨rfl, hq⟩
      · have hy1 := hY (n - 1) (pre ++ [b8 5] ++ le8 x) (b8 len) W5 hj (Nat.le_trans hz3' hsq.low.size) hN2
        rw [b8_size] at hy1
        have hbox5 := hsq.same _ _ hBW hbox3 (not8 _ _)
        exact .inl ⟨rfl, hsq, (kept4 hbox5 (Below.refl _ _)).1.2.2.2, hy1⟩
      · exact .inr ⟨rfl, hq⟩)
    have e1 := Hid.mk e1
    clear hN hpos h1 h2 h7 hN2
    gi_wp2_with (refine ⟨trivial, (fun h => (by cases h)), ?_⟩; gi_at_call 40; refine hc.mono ?_; clear hc; rintro e W5 (⟨rfl, hsq, g5, fn, tmps, assign, body, hy, hR⟩ | ⟨rfl, hq⟩))
    · refine ⟨fun h => (by cases h), hR.mono ?_⟩
      clear hR hy
      rintro e W6 (⟨rfl, hj, hsr⟩ | ⟨rfl, hq⟩)
      · gi_wp2
        go_ret
        rw [e1.out]
        exact Went.cons (.inl ⟨rfl, by simpa [List.append_assoc] using hj, hsq.trans hsr⟩) hsp
      · gi_wp2
        go_ret
        exact .inr ⟨rfl, _, hq⟩
    · refine ⟨fun _ h => (by cases h), ?_⟩
      gi_wp2
      go_ret
      exact .inr ⟨rfl, hq⟩
  have e1 : ownBy k x s len = [b8 k] := by
    unfold ownBy
    rw [if_neg (by omega), if_neg h2, if_neg (by omega)]
    rfl
  have e1 := Hid.mk e1
  have d1 : (k == 1) = false := by simp; omega
  have d2 : (k == 2) = false := by simp; omega
  have d3 : (k == 3) = false := by simp; omega
  have d4 : (k == 4) = false := by simp; omega
  have d5 : (k == 5) = false := by simp; omega
  have d6 : (k == 6) = false := by simp; omega
  have d7 : (k == 7) = false := by simp; omega
  clear h1 h2 h7 h5 hN hpos
  gi_wp2
  go_ret
  rw [e1.out]
  exact Went.cons (.inl ⟨rfl, by simpa using hJ3, SparesC.refl _ _ _⟩) hsp

/-- The parts that are gone into: of a Cons its head; the tail is gone on with. -/
def partsT (k : Int) (l : List Tm) : List Tm := if k = 5 ∨ k = 7 then l else if k = 9 then l.take 1 else []

set_option maxHeartbeats 4000000 in
theorem hparts_any (k x : Int) (s : ByteArray) (l : List Tm) (hl9 : k = 9 → 1 ≤ l.length) (S : Nat → Prop) (a : Option Addr) (cap : Nat) (w : World) (hl : Lst w S l a cap) :
    Calls Tryd.prog 39 #[.agg #[.int .i64 k, .int .i64 x, .string s, .slice a l.length cap]] w fun e w' => (∃ a' cap', e = .returned (.slice a' (partsT k l).length cap') ∧ Lst w' S (partsT k l) a' cap') ∧ Below w.heap.size w w' := by
  have hb0 := (Below.refl w.heap.size w).alloc (Nat.le_refl _) (.cells #[.int .i64 k, .int .i64 x, .string s, .slice a l.length cap] 24)
  have hlen : l.length ≤ 9223372036854775807 := Nat.le_trans hl.1 hl.2.1
  by_cases h57 : k = 5 ∨ k = 7
  · have e1 : partsT k l = l := if_pos h57
    rw [e1]
    have hl' := Hid.mk (hl.below hb0)
    clear hl
    rcases h57 with rfl | rfl
    all_goals
      go_enter Tryd.func39, Tryd.ntmps39
      go_wp2
      go_ret
      exact ⟨⟨a, cap, rfl, hl'.out⟩, hb0⟩
  by_cases h9 : k = 9
  · subst h9
    have e1 : partsT 9 l = l.take 1 := by simp [partsT]
    have h1 := hl9 rfl
    have e2 : (l.take 1).length = 1 := by rw [List.length_take]; omega
    have hc1 := hl.1
    obtain ⟨b, o, rfl, hSb, hr⟩ := hl.some (by omega)
    have hl' : Hid (Lst (w.alloc (.cells #[.int .i64 9, .int .i64 x, .string s, .slice (some ⟨b, o, none⟩) l.length cap] 24)) S (l.take 1) (some ⟨b, o, none⟩) cap) := Hid.mk (by
      refine ⟨by rw [e2]; omega, hl.2.1, Or.inr ⟨_, rfl, fun _ => ⟨hSb, rfl⟩, Row.of fun i hi => ?_⟩⟩
      obtain ⟨v0, v1, v2, v3, c0, c1, c2, c3, hv⟩ := (hr.below hb0).at i (by omega)
      rw [List.getElem_take]
      exact ⟨v0, v1, v2, v3, c0, c1, c2, c3, hv⟩)
    rw [e1, e2]
    obtain ⟨len, hle⟩ : ∃ len, l.length = len := ⟨_, rfl⟩
    rw [hle] at hlen h1 hc1 hb0 hl' ⊢
    have hmn : min (len : Int) 1 = 1 := by omega
    clear hl hr hl9 h57 e1 e2 hle
    go_enter Tryd.func39, Tryd.ntmps39
    go_wp2
    go_ret
    exact ⟨⟨_, cap, rfl, hl'.out⟩, hb0⟩
  have e1 : partsT k l = [] := by
    unfold partsT
    rw [if_neg h57, if_neg h9]
  rw [e1]
  have d5 : (k == 5) = false := by simp; omega
  have d7 : (k == 7) = false := by simp; omega
  have d9 : (k == 9) = false := by simp; omega
  clear h57 h9 hl hl9
  go_enter Tryd.func39, Tryd.ntmps39
  go_wp2
  go_ret
  exact ⟨⟨none, 0, rfl, lst_nil _ _⟩, hb0⟩

end Go.Proofs.YtnelefokpopfdaaDoor
