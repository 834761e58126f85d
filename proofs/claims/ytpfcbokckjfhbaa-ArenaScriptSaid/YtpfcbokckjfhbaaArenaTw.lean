/-
  The program's arena and the document's, side by side.
-/
import Derived.Test.YtpfcbokckjfhbaaArenaRE
namespace Go.Proofs.Ytpfcbokckjfhbaa
open Go.RowKit Go.Deep Go.Maps Go.WideShapes

/-- Blocks of F are as they were. -/
def Kf (F : Nat → Prop) (w w' : World) : Prop := Only (fun k => ¬ F k) w w'
theorem Kf.refl (F : Nat → Prop) (w : World) : Kf F w w := Only.refl _ _
theorem Kf.drew {F : Nat → Prop} {w w' : World} (h : Kf F w w') : Kf F w w'.drew := Only.drew h
theorem Kf.trans {F : Nat → Prop} {w w1 w2 : World} (h : Kf F w w1) (k : Kf F w1 w2) : Kf F w w2 := Only.trans h k (fun _ hi => Or.inl hi)
theorem Kf.up {F : Nat → Prop} {w w' : World} (h : Below w.heap.size w w') : Kf F w w' := Only.up h
theorem Kf.cell {F : Nat → Prop} {w w' : World} (h : Kf F w w') {b o : Nat} {u : Value} (hb : F b) (hc : w.cell? ⟨b, o, none⟩ = some u) : w'.cell? ⟨b, o, none⟩ = some u := Only.cellS h (fun hn => hn hb) hc
theorem Kf.wds {F : Nat → Prop} {w w' : World} (h : Kf F w w') {v : Value} {xs : List Int} (hv : Wds w v xs) (hF : ∀ g, v.ownBlock = some g → F g) : Wds w' v xs := hv.kept h (fun g hg hn => hn (hF g hg))

/-- Both arenas, made since w0; F: other blocks, which neither has. -/
structure TwS (w0 w : World) (p bm q W : Nat) (B Br : Blks) (F S Sr : Nat → Prop) (v : Value) : Prop where
  ar : Ar w p bm S W B
  ra : Ra w q v Sr W Br
  apart : ∀ k, S k → ¬ Sr k
  mineA : ∀ k, S k → w0.heap.size ≤ k
  mineR : ∀ k, Sr k → w0.heap.size ≤ k
  free : ∀ k, F k → k < w.heap.size ∧ ¬ S k ∧ ¬ Sr k
  below : Below w0.heap.size w0 w
  roomR : usedB Br ≤ W
def Tw (w0 w : World) (p bm q W : Nat) (B Br : Blks) (F : Nat → Prop) : Prop := ∃ S Sr v, TwS w0 w p bm q W B Br F S Sr v
section
variable {w0 w w' : World} {p bm q W : Nat} {B Br : Blks} {F : Nat → Prop}
theorem Tw.below (h : Tw w0 w p bm q W B Br F) : Below w0.heap.size w0 w := let ⟨_, _, _, h⟩ := h; h.below
theorem Tw.up (h : Tw w0 w p bm q W B Br F) (hb : Below w.heap.size w w') : Tw w0 w' p bm q W B Br F := by
  obtain ⟨S, Sr, v, h⟩ := h
  exact ⟨S, Sr, v, h.ar.up hb, h.ra.up hb, h.apart, h.mineA, h.mineR, fun k hk => ⟨Nat.lt_of_lt_of_le (h.free k hk).1 hb.size, (h.free k hk).2⟩, h.below.trans (hb.mono h.below.size), h.roomR⟩
/-- One block more that neither has. -/
theorem Tw.add (h : Tw w0 w p bm q W B Br F) (hb : Below w.heap.size w w') (G : Nat → Prop) (hG : ∀ k, G k → w.heap.size ≤ k ∧ k < w'.heap.size) : Tw w0 w' p bm q W B Br (fun k => F k ∨ G k) := by
  have hu := h.up hb
  obtain ⟨S, Sr, v, h⟩ := h
  refine ⟨S, Sr, v, h.ar.up hb, h.ra.up hb, h.apart, h.mineA, h.mineR, fun k hk => ?_, h.below.trans (hb.mono h.below.size), h.roomR⟩
  rcases hk with hk | hk
  · exact ⟨Nat.lt_of_lt_of_le (h.free k hk).1 hb.size, (h.free k hk).2⟩
  · have := hG k hk
    exact ⟨this.2, fun hS => (by have := h.ar.lt k hS; omega), fun hS => (by have := h.ra.lt k hS; omega)⟩
/-- Blocks that neither has are written over. -/
theorem Tw.over (h : Tw w0 w p bm q W B Br F) {T : Nat → Prop} (ho : Only T w w') (hT : ∀ k, T k → F k ∧ w0.heap.size ≤ k) : Tw w0 w' p bm q W B Br F := by
  obtain ⟨S, Sr, v, h⟩ := h
  exact ⟨S, Sr, v, h.ar.kept ho (fun k hk ht => (h.free k (hT k ht).1).2.1 hk), h.ra.kept ho (fun k hk ht => (h.free k (hT k ht).1).2.2 hk), h.apart, h.mineA, h.mineR, fun k hk => ⟨Nat.lt_of_lt_of_le (h.free k hk).1 ho.size, (h.free k hk).2⟩,
    h.below.trans (ho.below (fun k hk => (hT k hk).2) h.below.size), h.roomR⟩
theorem Tw.weaken {F' : Nat → Prop} (h : Tw w0 w p bm q W B Br F) (hF : ∀ k, F' k → F k) : Tw w0 w p bm q W B Br F' := by
  obtain ⟨S, Sr, v, h⟩ := h
  exact ⟨S, Sr, v, h.ar, h.ra, h.apart, h.mineA, h.mineR, fun k hk => h.free k (hF k hk), h.below, h.roomR⟩
theorem TwS.stepA {S Sr : Nat → Prop} {v : Value} {B' : Blks} (h : TwS w0 w p bm q W B Br F S Sr v) (hs : Step w p bm S W B' w') : Tw w0 w' p bm q W B' Br F ∧ Kf F w w' := by
  obtain ⟨S', g1, g2, g3⟩ := hs
  have hp : ∀ k, (k = p ∨ k = bm) → S k := fun k hk => by
    rcases hk with rfl | rfl
    · exact h.ar.sp
    · exact h.ar.sb
  refine ⟨⟨S', Sr, v, g1, h.ra.kept g2 (fun k hk hT => h.apart k (hp k hT) hk), fun k hk hr => ?_, fun k hk => ?_, h.mineR, fun k hk => ?_, h.below.trans (g2.below (fun k hk => h.mineA k (hp k hk)) h.below.size), h.roomR⟩, g2.mono (fun k hk hF => (h.free k hF).2.1 (hp k hk))⟩
  · rcases g3 k hk with e | e
    · exact h.apart k e hr
    · have := h.ra.lt k hr; omega
  · rcases g3 k hk with e | e
    · exact h.mineA k e
    · exact Nat.le_trans h.below.size e
  · have hf := h.free k hk
    exact ⟨Nat.lt_of_lt_of_le hf.1 g2.size, fun hS => (g3 k hS).elim hf.2.1 (fun e => by omega), hf.2.2⟩
theorem TwS.stepR {S Sr : Nat → Prop} {v : Value} {Br' : Blks} (h : TwS w0 w p bm q W B Br F S Sr v) (hs : StepR w q v Sr W Br' w') (hr' : usedB Br' ≤ W) : Tw w0 w' p bm q W B Br' F ∧ Kf F w w' := by
  obtain ⟨v', S', g1, g2, g3⟩ := hs
  have hp : ∀ k, (k = q ∨ v.ownBlock = some k) → Sr k := fun k hk => by
    rcases hk with rfl | hk
    · exact h.ra.sq
    · exact h.ra.sv k hk
  refine ⟨⟨S, S', v', h.ar.kept g2 (fun k hk hT => h.apart k hk (hp k hT)), g1, fun k hk hr => ?_, h.mineA, fun k hk => ?_, fun k hk => ?_, h.below.trans (g2.below (fun k hk => h.mineR k (hp k hk)) h.below.size), hr'⟩, g2.mono (fun k hk hF => (h.free k hF).2.2 (hp k hk))⟩
  · rcases g3 k hr with e | e
    · exact h.apart k hk e
    · have := h.ar.lt k hk; omega
  · rcases g3 k hk with e | e
    · exact h.mineR k e
    · exact Nat.le_trans h.below.size e
  · have hf := h.free k hk
    exact ⟨Nat.lt_of_lt_of_le hf.1 g2.size, hf.2.1, fun hS => (g3 k hS).elim hf.2.2 (fun e => by omega)⟩
theorem takeR_room {l : List Int} (h : usedB Br ≤ W) : usedB (takeR W Br l).2.2 ≤ W := by
  unfold takeR
  split
  · exact h
  · split
    · exact h
    · show usedB (Br ++ [some l]) ≤ W
      rw [usedB_snoc]; omega
theorem setR_room {n : Int} {l : List Int} (h : usedB Br ≤ W) : usedB (setR Br n l).2 ≤ W := by
  unfold setR
  split
  · exact h
  · rename_i o ho
    split
    · rename_i hr
      show usedB (Br.set (n - 1).toNat (some l)) ≤ W
      have := usedB_set l (blk_some.1 ho).2
      have h0 := rnd_zero l.length
      have h1 := cls_pos o.length
      have : cls l.length = cls o.length := by
        by_cases hh : 1 ≤ l.length ∧ l.length ≤ 16777216
        · rw [rnd_in hh.1 hh.2] at hr; omega
        · have := h0.2 hh; omega
      omega
    · exact h
theorem dropR_room {n : Int} (h : usedB Br ≤ W) : usedB (dropR Br n).2 ≤ W := by
  unfold dropR
  split
  · exact h
  · rename_i o ho
    show usedB (Br.set (n - 1).toNat none) ≤ W
    have := usedB_drop (blk_some.1 ho).2
    omega
theorem Tw.take (h : Tw w0 w p bm q W B Br F) (l : List Int) (a : Option Addr) (cap : Nat) (hc : Cel w l a) (hl : l.length ≤ 1000) (hB : B.length ≤ 1000) :
    Calls Try.prog 15 #[.pointer (some ⟨p, 0, none⟩), .slice a l.length cap] w fun e w' => e = .returned (.tuple #[.int .i64 (takeR W B l).1, .int .i64 (takeR W B l).2.1]) ∧ Tw w0 w' p bm q W (takeR W B l).2.2 Br F ∧ Kf F w w' := by
  obtain ⟨S, Sr, v, h⟩ := h
  exact (take_any p bm W S B l a cap w h.ar hc hl hB).mono fun e w' hh => ⟨hh.1, h.stepA hh.2⟩
theorem Tw.get (h : Tw w0 w p bm q W B Br F) (n : Int) (hn : In64 n) :
    Calls Try.prog 16 #[.pointer (some ⟨p, 0, none⟩), .int .i64 n] w fun e w' => ∃ v, e = .returned (.tuple #[v, .int .i64 (GetE B n)]) ∧ Wds w' v (GetV B n) ∧ (∀ g, v.ownBlock = some g → w.heap.size ≤ g) ∧ Below w.heap.size w w' := by
  obtain ⟨S, Sr, v, h⟩ := h
  exact get_any p bm W S B n w h.ar hn
theorem Tw.set (h : Tw w0 w p bm q W B Br F) (n : Int) (l : List Int) (a : Option Addr) (cap : Nat) (hn : In64 n) (hc : Cel w l a) (hl : l.length ≤ 1000) (hB : B.length ≤ 1000) :
    Calls Try.prog 17 #[.pointer (some ⟨p, 0, none⟩), .int .i64 n, .slice a l.length cap] w fun e w' => e = .returned (.int .i64 (setR B n l).1) ∧ Tw w0 w' p bm q W (setR B n l).2 Br F ∧ Kf F w w' := by
  obtain ⟨S, Sr, v, h⟩ := h
  exact (set_any p bm W S B n l a cap w h.ar hn hc hl hB).mono fun e w' hh => ⟨hh.1, h.stepA hh.2⟩
theorem Tw.drop (h : Tw w0 w p bm q W B Br F) (n : Int) (hn : In64 n) :
    Calls Try.prog 18 #[.pointer (some ⟨p, 0, none⟩), .int .i64 n] w fun e w' => e = .returned (.int .i64 (dropR B n).1) ∧ Tw w0 w' p bm q W (dropR B n).2 Br F ∧ Kf F w w' := by
  obtain ⟨S, Sr, v, h⟩ := h
  exact (drop_any p bm W S B n w h.ar hn).mono fun e w' hh => ⟨hh.1, h.stepA hh.2⟩
theorem Tw.left (h : Tw w0 w p bm q W B Br F) : Calls Try.prog 19 #[.pointer (some ⟨p, 0, none⟩)] w fun e w' => e = .returned (.int .i64 ((W : Int) - usedB B)) ∧ Below w.heap.size w w' := by
  obtain ⟨S, Sr, v, h⟩ := h
  exact left_any p bm W S B w h.ar
theorem Tw.used (h : Tw w0 w p bm q W B Br F) : Calls Try.prog 20 #[.pointer (some ⟨p, 0, none⟩)] w fun e w' => e = .returned (.int .i64 (usedB B)) ∧ Below w.heap.size w w' := by
  obtain ⟨S, Sr, v, h⟩ := h
  exact used_any p bm W S B w h.ar
theorem Tw.blocks (h : Tw w0 w p bm q W B Br F) (hB : B.length ≤ 1000) : Calls Try.prog 21 #[.pointer (some ⟨p, 0, none⟩)] w fun e w' => ∃ a cap, e = .returned (.slice a (numsB 0 B).length cap) ∧ CelI w' (numsB 0 B) a ∧ Below w.heap.size w w' := by
  obtain ⟨S, Sr, v, h⟩ := h
  refine (blocks_any p bm W S B w h.ar hB).mono fun e w' hh => ?_
  obtain ⟨u, rfl, h1, _, h3⟩ := hh
  obtain ⟨a, cap, rfl, hc⟩ := h1.cel
  exact ⟨a, cap, rfl, hc, h3⟩
theorem Tw.takeR (h : Tw w0 w p bm q W B Br F) (l : List Int) (a : Option Addr) (cap : Nat) (hc : Cel w l a) (hl : l.length ≤ 1000) (hB : Br.length ≤ 1000) :
    Calls Try.prog 27 #[.pointer (some ⟨q, 0, none⟩), .slice a l.length cap] w fun e w' => e = .returned (.tuple #[.int .i64 (takeR W Br l).1, .int .i64 (takeR W Br l).2.1]) ∧ Tw w0 w' p bm q W B (takeR W Br l).2.2 F ∧ Kf F w w' := by
  obtain ⟨S, Sr, v, h⟩ := h
  exact (refTake_any q W v Sr Br l a cap w h.ra hc hl hB h.roomR h.ar.most).mono fun e w' hh => ⟨hh.1, h.stepR hh.2 (takeR_room h.roomR)⟩
theorem Tw.getR (h : Tw w0 w p bm q W B Br F) (n : Int) (hB : Br.length ≤ 1000) :
    Calls Try.prog 28 #[.pointer (some ⟨q, 0, none⟩), .int .i64 n] w fun e w' => ∃ u, e = .returned (.tuple #[u, .int .i64 (GetE Br n)]) ∧ Wds w u (GetV Br n) ∧ w = w' := by
  obtain ⟨S, Sr, v, h⟩ := h
  exact getR_any q W v Sr Br n w h.ra hB
theorem Tw.setR (h : Tw w0 w p bm q W B Br F) (n : Int) (l : List Int) (a : Option Addr) (cap : Nat) (hc : Cel w l a) (hl : l.length ≤ 1000) (hB : Br.length ≤ 1000) :
    Calls Try.prog 30 #[.pointer (some ⟨q, 0, none⟩), .int .i64 n, .slice a l.length cap] w fun e w' => e = .returned (.int .i64 (setR Br n l).1) ∧ Tw w0 w' p bm q W B (setR Br n l).2 F ∧ Kf F w w' := by
  obtain ⟨S, Sr, v, h⟩ := h
  exact (setR_any q W v Sr Br n l a cap w h.ra hc hl hB).mono fun e w' hh => ⟨hh.1, h.stepR hh.2 (setR_room h.roomR)⟩
theorem Tw.dropR (h : Tw w0 w p bm q W B Br F) (n : Int) (hB : Br.length ≤ 1000) :
    Calls Try.prog 31 #[.pointer (some ⟨q, 0, none⟩), .int .i64 n] w fun e w' => e = .returned (.int .i64 (dropR Br n).1) ∧ Tw w0 w' p bm q W B (dropR Br n).2 F ∧ Kf F w w' := by
  obtain ⟨S, Sr, v, h⟩ := h
  exact (dropR_any q W v Sr Br n w h.ra hB).mono fun e w' hh => ⟨hh.1, h.stepR hh.2 (dropR_room h.roomR)⟩
theorem Tw.usedR (h : Tw w0 w p bm q W B Br F) (hB : Br.length ≤ 1000) : Calls Try.prog 33 #[.pointer (some ⟨q, 0, none⟩)] w fun e w' => e = .returned (.int .i64 (usedB Br)) ∧ Below w.heap.size w w' := by
  obtain ⟨S, Sr, v, h⟩ := h
  exact usedR_up h.ra hB (by have := h.roomR; have := h.ar.most; omega) rfl
theorem Tw.blocksR (h : Tw w0 w p bm q W B Br F) (hB : Br.length ≤ 1000) : Calls Try.prog 34 #[.pointer (some ⟨q, 0, none⟩)] w fun e w' => ∃ a cap, e = .returned (.slice a (numsB 0 Br).length cap) ∧ CelI w' (numsB 0 Br) a ∧ Below w.heap.size w w' := by
  obtain ⟨S, Sr, v, h⟩ := h
  refine (blocksR_any q W v Sr Br w h.ra hB).mono fun e w' hh => ?_
  obtain ⟨u, rfl, h1, h3⟩ := hh
  obtain ⟨a, cap, rfl, hc⟩ := h1.cel
  exact ⟨a, cap, rfl, hc, h3⟩
theorem Tw.words (h : Tw w0 w p bm q W B Br F) : w.cell? ⟨q, 0, none⟩ = some (.int .i64 W) := let ⟨_, _, _, h⟩ := h; h.ra.cells.1
theorem Tw.most (h : Tw w0 w p bm q W B Br F) : usedB B ≤ W ∧ W ≤ 16777216 := let ⟨_, _, _, h⟩ := h; ⟨h.ar.room, h.ar.most⟩
end

set_option maxHeartbeats 1000000 in
theorem newR_any (W : Nat) (w : World) (h1 : 1 ≤ W) (h2 : W ≤ 16777216) : Calls Try.prog 10 #[.int .i64 W] w fun e w' =>
    e = .returned (.tuple #[.pointer (some ⟨w.heap.size, 0, none⟩), .int .i64 0]) ∧ w' = w.alloc (.cells #[.int .i64 W, .slice none 0 0] 67) := by
  have hn1 : ¬ (W : Int) < 1 := by omega
  have hn2 : ¬ (16777216 : Int) < W := by omega
  go_enter Try.func10, Try.ntmps10
  go_wp2
  go_ret2
  exact ⟨rfl, rfl⟩
theorem newR_not (n : Int) (w : World) (h : n < 1 ∨ 16777216 < n) : Calls Try.prog 10 #[.int .i64 n] w fun e w' => e = .returned (.tuple #[.pointer none, .int .i64 2]) ∧ w = w' := by
  by_cases h1 : n < 1
  · clear h
    go_enter Try.func10, Try.ntmps10
    go_wp2
    go_ret2
    exact ⟨rfl, rfl⟩
  · have h2 : 16777216 < n := by omega
    clear h
    go_enter Try.func10, Try.ntmps10
    go_wp2
    go_ret2
    exact ⟨rfl, rfl⟩
/-- Both, made one behind the other. -/
theorem Tw.made {w w1 : World} {W : Nat} (h : Now w.heap.size w w1 (w.heap.size + 1) w.heap.size W []) : Tw w (w1.alloc (.cells #[.int .i64 W, .slice none 0 0] 67)) (w.heap.size + 1) w.heap.size w1.heap.size W [] [] (fun _ => False) := by
  obtain ⟨S, h1, h2, h3, h4⟩ := h
  have hb : Below w1.heap.size w1 (w1.alloc (.cells #[.int .i64 W, .slice none 0 0] 67)) := (Up.refl w1).alloc.out
  refine ⟨S, fun k => k = w1.heap.size, .slice none 0 0, h1.up hb, ⟨new_block _ _, ⟨[], ⟨rfl, Or.inl ⟨rfl, rfl⟩⟩, fun i hi => absurd hi (Nat.not_lt_zero _), fun i hi => absurd hi (Nat.not_lt_zero _)⟩, rfl, fun g hg => (by cases hg), fun e => (by cases e), fun k hk => (by subst hk; simp), fun l hl => (by cases hl)⟩,
    fun k hk e => ?_, h4, fun k hk => (by subst hk; exact h3), fun k hk => hk.elim, h2.trans (hb.mono h3), Nat.zero_le _⟩
  have := h1.lt k hk
  omega
end Go.Proofs.Ytpfcbokckjfhbaa
