/-
  The chapter's examples.
-/
import Derived.Test.YtpfcbokckjfhbaaArenaE
import Derived.OwnWalk
namespace Go.Proofs.Ytpfcbokckjfhbaa
open Go.RowKit Go.Deep Go.Maps Go.WideShapes

/-- An arena made since B; of what was there nothing is written. -/
def Now (B0 : Nat) (w0 w : World) (p bm W : Nat) (B : Blks) : Prop := ∃ S, Ar w p bm S W B ∧ Below B0 w0 w ∧ B0 ≤ w.heap.size ∧ ∀ k, S k → B0 ≤ k
theorem Now.below {B0 : Nat} {w0 w : World} {p bm W : Nat} {B : Blks} (h : Now B0 w0 w p bm W B) : Below B0 w0 w := let ⟨_, _, h, _⟩ := h; h
theorem Now.up {B0 : Nat} {w0 w w' : World} {p bm W : Nat} {B : Blks} (h : Now B0 w0 w p bm W B) (hb : Below w.heap.size w w') : Now B0 w0 w' p bm W B := by
  obtain ⟨S, h1, h2, h3, h4⟩ := h
  exact ⟨S, h1.up hb, h2.trans (hb.mono h3), Nat.le_trans h3 hb.size, h4⟩
theorem Now.step {B0 : Nat} {w0 w w' : World} {p bm W : Nat} {S : Nat → Prop} {B B' : Blks} (h : Ar w p bm S W B) (h2 : Below B0 w0 w) (h3 : B0 ≤ w.heap.size) (h4 : ∀ k, S k → B0 ≤ k) (hs : Step w p bm S W B' w') : Now B0 w0 w' p bm W B' := by
  obtain ⟨S', g1, g2, g3⟩ := hs
  refine ⟨S', g1, h2.trans (g2.below (fun k hk => ?_) h3), Nat.le_trans h3 g2.size, fun k hk => ?_⟩
  · rcases hk with rfl | rfl
    · exact h4 _ h.sp
    · exact h4 _ h.sb
  · rcases g3 k hk with e | e
    · exact h4 k e
    · omega
theorem now_new {W : Nat} (w : World) (h1 : 1 ≤ W) (h2 : W ≤ 16777216) : Calls Try.prog 9 #[.int .i64 W] w fun e w' => e = .returned (.tuple #[.pointer (some ⟨w.heap.size + 1, 0, none⟩), .int .i64 0]) ∧ Now w.heap.size w w' (w.heap.size + 1) w.heap.size W [] :=
  (newA_any W w h1 h2).mono fun _ _ h => ⟨h.1, _, h.2.1, h.2.2, h.2.2.size, fun _ hk => hk.1⟩
section
variable {B0 p bm W : Nat} {w0 w : World} {B : Blks}
theorem Now.take (h : Now B0 w0 w p bm W B) (l : List Int) (a : Option Addr) (cap : Nat) (hc : Cel w l a) (hl : l.length ≤ 1000) (hB : B.length ≤ 1000) :
    Calls Try.prog 15 #[.pointer (some ⟨p, 0, none⟩), .slice a l.length cap] w fun e w' => e = .returned (.tuple #[.int .i64 (takeR W B l).1, .int .i64 (takeR W B l).2.1]) ∧ Now B0 w0 w' p bm W (takeR W B l).2.2 := by
  obtain ⟨S, h1, h2, h3, h4⟩ := h
  exact (take_any p bm W S B l a cap w h1 hc hl hB).mono fun e w' hh => ⟨hh.1, Now.step h1 h2 h3 h4 hh.2⟩
theorem Now.get (h : Now B0 w0 w p bm W B) (n : Int) (hn : In64 n) :
    Calls Try.prog 16 #[.pointer (some ⟨p, 0, none⟩), .int .i64 n] w fun e w' => ∃ v, e = .returned (.tuple #[v, .int .i64 (GetE B n)]) ∧ Wds w' v (GetV B n) ∧ (∀ g, v.ownBlock = some g → w.heap.size ≤ g) ∧ Now B0 w0 w' p bm W B := by
  have h' := h
  obtain ⟨S, h1, h2, h3, h4⟩ := h
  refine (get_any p bm W S B n w h1 hn).mono fun e w' hh => ?_
  obtain ⟨v, g1, g2, g3, g4⟩ := hh
  exact ⟨v, g1, g2, g3, h'.up g4⟩
theorem Now.set (h : Now B0 w0 w p bm W B) (n : Int) (l : List Int) (a : Option Addr) (cap : Nat) (hn : In64 n) (hc : Cel w l a) (hl : l.length ≤ 1000) (hB : B.length ≤ 1000) :
    Calls Try.prog 17 #[.pointer (some ⟨p, 0, none⟩), .int .i64 n, .slice a l.length cap] w fun e w' => e = .returned (.int .i64 (setR B n l).1) ∧ Now B0 w0 w' p bm W (setR B n l).2 := by
  obtain ⟨S, h1, h2, h3, h4⟩ := h
  exact (set_any p bm W S B n l a cap w h1 hn hc hl hB).mono fun e w' hh => ⟨hh.1, Now.step h1 h2 h3 h4 hh.2⟩
theorem Now.drop (h : Now B0 w0 w p bm W B) (n : Int) (hn : In64 n) :
    Calls Try.prog 18 #[.pointer (some ⟨p, 0, none⟩), .int .i64 n] w fun e w' => e = .returned (.int .i64 (dropR B n).1) ∧ Now B0 w0 w' p bm W (dropR B n).2 := by
  obtain ⟨S, h1, h2, h3, h4⟩ := h
  exact (drop_any p bm W S B n w h1 hn).mono fun e w' hh => ⟨hh.1, Now.step h1 h2 h3 h4 hh.2⟩
theorem Now.left (h : Now B0 w0 w p bm W B) : Calls Try.prog 19 #[.pointer (some ⟨p, 0, none⟩)] w fun e w' => e = .returned (.int .i64 ((W : Int) - usedB B)) ∧ Below w.heap.size w w' := by
  obtain ⟨S, h1, h2, h3, h4⟩ := h
  exact left_any p bm W S B w h1
theorem Now.used (h : Now B0 w0 w p bm W B) : Calls Try.prog 20 #[.pointer (some ⟨p, 0, none⟩)] w fun e w' => e = .returned (.int .i64 (usedB B)) ∧ Below w.heap.size w w' := by
  obtain ⟨S, h1, h2, h3, h4⟩ := h
  exact used_any p bm W S B w h1
theorem Now.blocks (h : Now B0 w0 w p bm W B) (hB : B.length ≤ 1000) : Calls Try.prog 21 #[.pointer (some ⟨p, 0, none⟩)] w fun e w' => ∃ v, e = .returned v ∧ Nums w' v (numsB 0 B) ∧ (∀ g, v.ownBlock = some g → w.heap.size ≤ g) ∧ Below w.heap.size w w' := by
  obtain ⟨S, h1, h2, h3, h4⟩ := h
  exact blocks_any p bm W S B w h1 hB
end

/-- So many zeros. -/
abbrev zers (n : Nat) : List Int := List.replicate n 0
theorem zers_len (n : Nat) : (zers n).length = n := List.length_replicate
theorem zero_words (m : Nat) : (Builtin.zeroCells (Value.int .u64 0).cells m).toList = (List.replicate m (0 : Int)).map (.int .u64) := by
  apply List.ext_getElem?
  intro j
  by_cases hj : j < m
  · simp [Builtin.zeroCells, Value.cells, hj, Nat.mod_one]
  · simp [Builtin.zeroCells, Value.cells, hj]
theorem made_words {w : World} {g n : Nat} (h : w.ownsRow 0 72 1 (.slice (some ⟨g, 0, none⟩) n n) n (madeCells (Value.int .u64 0).cells (n * 1)).toList) : Wds w (.slice (some ⟨g, 0, none⟩) n n) (zers n) := by
  unfold Wds
  rw [zers_len, List.map_replicate]
  have e : (madeCells (Value.int .u64 0).cells (n * 1)).toList = List.replicate n (.int .u64 0) := by rw [Nat.mul_one]; simpa [Value.cells] using toList_madeCells_one (.int .u64 0) n
  rw [← e]
  exact h

/-- Does a block of so many words get just that number? -/
def takesB (W : Nat) (B : Blks) (m : Nat) (n : Int) : Bool := decide (((takeR W B (zers m)).1 : Int) = n ∧ (takeR W B (zers m)).2.1 = 0)
set_option maxHeartbeats 1000000 in
set_option maxRecDepth 100000 in
theorem takes_yes {B0 p bm W : Nat} {w0 w : World} {B B' : Blks} (h : Now B0 w0 w p bm W B) (m : Nat) (n : Nat) (hm : m ≤ 1000) (hB : B.length ≤ 1000) (ht : takeR W B (zers m) = (n, 0, B')) :
    Calls Try.prog 22 #[.pointer (some ⟨p, 0, none⟩), .int .i64 m, .int .i64 n] w fun e w' => e = .returned (.bool true) ∧ Now B0 w0 w' p bm W B' := by
  obtain ⟨i0, hi0, hz0, hz1, hby⟩ := info_parts wordInfo
  have hN := Hid.mk h
  have HT := Hid.mk (show m ≤ 1000 ∧ B.length ≤ 1000 ∧ takeR W B (zers m) = (n, 0, B') from ⟨hm, hB, ht⟩)
  clear h hm hB ht
  go_enter Try.func22, Try.ntmps22
  go_wp2_with (first
    | (at_make; refine wpList_make_full _ rfl _ _ 31 rfl 0 72 i0 _ 1 Try.underlying31 hi0 hz0 hz1 .i64 .i64 m m m rfl rfl rfl rfl (by rw [hby]; have := HT.out; omega) (by have := HT.out; unfold maxLen; omega) (by omega) ?_; intro w1 hown hgrow; have HW := Hid.mk (made_words hown); have HN1 := Hid.mk (hN.out.up ⟨hgrow.os, hgrow.tape, hgrow.output, hgrow.size, fun k hk => hgrow.block k hk (by simp)⟩); clear hown hgrow)
    | (go_at_call 15; have hc := HN1.out.take (zers m) _ m HW.out.celA (by rw [zers_len]; exact HT.out.1) HT.out.2.1; rw [HT.out.2.2, zers_len] at hc; refine hc.mono ?_; rintro e w2 ⟨rfl, h2⟩; have HN2 := Hid.mk h2; clear h2 hc))
  go_ret
  exact ⟨rfl, HN2.out⟩

theorem t1 : takeR 10 [] (zers 5) = (1, 0, [some (zers 5)]) := take_new (by decide) (by decide)
theorem t2 : takeR 10 [some (zers 5)] (zers 3) = (2, 0, [some (zers 5), some (zers 3)]) := take_new (by decide) (by decide)
theorem t3 : takeR 10 [some (zers 5), some (zers 3)] (zers 1) = (0, 11, [some (zers 5), some (zers 3)]) := take_full (by decide) (by decide)
theorem t4 : dropR [some (zers 5), some (zers 3)] 1 = (0, [none, some (zers 3)]) := rfl
theorem t5 : takeR 10 [none, some (zers 3)] (zers 6) = (3, 0, [none, some (zers 3), some (zers 6)]) := take_new (by decide) (by decide)
theorem t6 : setR [none, some (zers 3), some (zers 6)] 2 (zers 2) = (2, [none, some (zers 3), some (zers 6)]) := by decide
theorem t7 : setR [none, some (zers 3), some (zers 6)] 2 (zers 3) = (0, [none, some (zers 3), some (zers 6)]) := by decide

set_option maxRecDepth 100000 in
set_option maxHeartbeats 1000000 in
theorem awake8_any (w : World) : Calls Try.prog 11 #[] w fun e w' => e = .returned (.bool true) ∧ Below w.heap.size w w' := by
  have r1 : ∀ w, Calls Try.prog 13 #[.int .i64 1] w fun e w' => e = .returned (.int .i64 2) ∧ w = w' := fun w => round_any 1 w
  have r5 : ∀ w, Calls Try.prog 13 #[.int .i64 5] w fun e w' => e = .returned (.int .i64 6) ∧ w = w' := fun w => round_any 5 w
  go_enter Try.func11, Try.ntmps11
  go_wp2_with (first
    | (go_at_call 9; refine (now_new (W := 10) _ (by decide) (by decide)).mono ?_; rintro e w1 ⟨rfl, h⟩; have n0 := Hid.mk h; clear h)
    | (go_at_call 13; have g := m1; refine (r5 _).mono ?_; rintro e w2 ⟨rfl, rfl⟩)
    | (go_at_call 13; refine (r1 _).mono ?_; rintro e w2 ⟨rfl, rfl⟩; have m1 := True.intro)
    | (go_at_call 22; have g := n1; refine (takes_yes n1.out 3 2 (by decide) (by decide) t2).mono ?_; rintro e w4 ⟨rfl, h⟩; have n2 := Hid.mk h; clear h)
    | (go_at_call 22; refine (takes_yes n0.out 5 1 (by decide) (by decide) t1).mono ?_; rintro e w3 ⟨rfl, h⟩; have n1 := Hid.mk h; clear h)
    | (go_at_call 19; refine n2.out.left.mono ?_; rintro e w5 ⟨rfl, h⟩; have n3 := Hid.mk (n2.out.up h); clear h))
  go_ret
  exact ⟨rfl, n3.out.below⟩

end Go.Proofs.Ytpfcbokckjfhbaa
