/-
  What is there, as the life of an arena keeps it: a row of blocks held.
-/
import Derived.Test.YtpfcbokckjfhbaaArenaActH
namespace Go.Proofs.Ytpfcbokckjfhbaa
open Go.RowKit Go.Deep Go.Maps Go.WideShapes

/-- The blocks that there are, each with its number. -/
def liveB (i : Nat) : Blks → List (Int × List Int)
  | [] => []
  | none :: r => liveB (i + 1) r
  | some l :: r => (((i + 1 : Nat) : Int), l) :: liveB (i + 1) r
theorem liveB_snoc (l : List Int) : ∀ (B : Blks) (i : Nat), liveB i (B ++ [some l]) = liveB i B ++ [(((i + B.length + 1 : Nat) : Int), l)]
  | [], i => by simp [liveB]
  | none :: r, i => by
    simp only [List.cons_append, liveB, liveB_snoc l r (i + 1), List.length_cons]
    rw [show i + 1 + r.length + 1 = i + (r.length + 1) + 1 by omega]
  | some o :: r, i => by
    simp only [List.cons_append, liveB, liveB_snoc l r (i + 1), List.length_cons]
    rw [show i + 1 + r.length + 1 = i + (r.length + 1) + 1 by omega]
theorem liveB_nums : ∀ (B : Blks) (i : Nat), (liveB i B).map (·.1) = numsB i B
  | [], i => rfl
  | none :: r, i => by simp only [liveB, numsB, liveB_nums r (i + 1)]
  | some o :: r, i => by simp only [liveB, numsB, List.map_cons, liveB_nums r (i + 1)]
theorem liveB_len (B : Blks) : (liveB 0 B).length = (numsB 0 B).length := by rw [← liveB_nums, List.length_map]
theorem liveB_used : ∀ (B : Blks) (i : Nat), ((liveB i B).map fun x => cls x.2.length).sum = usedB B
  | [], i => rfl
  | none :: r, i => by simp only [liveB, usedB, liveB_used r (i + 1)]
  | some o :: r, i => by simp only [liveB, usedB, List.map_cons, List.sum_cons, liveB_used r (i + 1)]
/-- Which place of all blocks one that is there has. -/
theorem liveB_at : ∀ {B : Blks} {i j : Nat} {x : Int × List Int}, (liveB i B)[j]? = some x → ∃ m, B[m]? = some (some x.2) ∧ x.1 = ((i + m + 1 : Nat) : Int) ∧ liveB i (B.set m none) = (liveB i B).eraseIdx j ∧ ∀ l, liveB i (B.set m (some l)) = (liveB i B).set j (x.1, l)
  | [], i, j, x, h => by simp [liveB] at h
  | none :: r, i, j, x, h => by
    obtain ⟨m, h1, h2, h3, h4⟩ := liveB_at (B := r) (i := i + 1) (j := j) (x := x) (by simpa [liveB] using h)
    refine ⟨m + 1, by simpa using h1, by rw [h2]; congr 1; omega, by simpa [liveB] using h3, fun l => by simpa [liveB] using h4 l⟩
  | some o :: r, i, 0, x, h => by
    simp [liveB] at h
    subst h
    exact ⟨0, by simp, by simp, by simp [liveB], fun l => by simp [liveB]⟩
  | some o :: r, i, j + 1, x, h => by
    obtain ⟨m, h1, h2, h3, h4⟩ := liveB_at (B := r) (i := i + 1) (j := j) (x := x) (by simpa [liveB] using h)
    refine ⟨m + 1, by simpa using h1, by rw [h2]; congr 1; omega, by simp [liveB, h3], fun l => by simp [liveB, h4 l]⟩
theorem live_blk {B : Blks} {j : Nat} {x : Int × List Int} (h : (liveB 0 B)[j]? = some x) : blk B x.1 = some x.2 := by
  obtain ⟨m, h1, h2, _⟩ := liveB_at h
  exact blk_some.2 ⟨by omega, by rw [show (x.1 - 1).toNat = m by omega]; exact h1⟩
theorem live_drop {B : Blks} {j : Nat} {x : Int × List Int} (h : (liveB 0 B)[j]? = some x) : liveB 0 (B.set (x.1 - 1).toNat none) = (liveB 0 B).eraseIdx j := by
  obtain ⟨m, h1, h2, h3, h4⟩ := liveB_at h
  rw [show (x.1 - 1).toNat = m by omega]
  exact h3
theorem live_set {B : Blks} {j : Nat} {x : Int × List Int} (h : (liveB 0 B)[j]? = some x) (l : List Int) : liveB 0 (B.set (x.1 - 1).toNat (some l)) = (liveB 0 B).set j (x.1, l) := by
  obtain ⟨m, h1, h2, h3, h4⟩ := liveB_at h
  rw [show (x.1 - 1).toNat = m by omega]
  exact h4 l
theorem live_lt {B : Blks} {j : Nat} {x : Int × List Int} (h : (liveB 0 B)[j]? = some x) : 1 ≤ x.1 ∧ x.1 ≤ B.length := blk_lt (live_blk h)

/-- A row of blocks held: its own row v; S: all its memory. -/
structure Hd (w : World) (v : Value) (S : Nat → Prop) (H : List (Int × List Int)) : Prop where
  row : ∃ xs : List Value, w.ownsRow 0 62 2 v H.length xs ∧ (∀ i (h : i < H.length), xs[i * 2]? = some (.int .i64 H[i].1)) ∧
    ∀ i (h : i < H.length), ∃ lv, xs[i * 2 + 1]? = some lv ∧ Wds w lv H[i].2 ∧ ∀ g, lv.ownBlock = some g → S g ∧ v.ownBlock ≠ some g
  own : ∀ g, v.ownBlock = some g → S g
  lt : ∀ k, S k → k < w.heap.size
theorem Hd.kept {T : Nat → Prop} {w w' : World} {v : Value} {S : Nat → Prop} {H : List (Int × List Int)} (h : Hd w v S H) (ho : Only T w w') (hT : ∀ k, S k → ¬ T k) : Hd w' v S H := by
  refine ⟨?_, h.own, fun k hk => Nat.lt_of_lt_of_le (h.lt k hk) ho.size⟩
  obtain ⟨xs, h1, h2, h3⟩ := h.row
  refine ⟨xs, ownsRow_only h1 ho (fun g hg => hT g (h.own g hg)), h2, fun i hi => ?_⟩
  obtain ⟨lv, g1, g2, g3⟩ := h3 i hi
  exact ⟨lv, g1, g2.kept ho (fun g hg => hT g (g3 g hg).1), g3⟩
theorem Hd.up {w w' : World} {v : Value} {S : Nat → Prop} {H : List (Int × List Int)} (h : Hd w v S H) (hb : Below w.heap.size w w') : Hd w' v S H := h.kept (T := fun _ => False) (Only.up hb) (fun _ _ f => f)
theorem Hd.slice {w : World} {v : Value} {S : Nat → Prop} {H : List (Int × List Int)} (h : Hd w v S H) : ∃ a cap, v = .slice a H.length cap := by
  obtain ⟨xs, h1, _⟩ := h.row
  exact owns_slice h1
theorem ownsRow_cell {w : World} {base g : Nat} {e : TypeId} {size n m cap : Nat} {xs : List Value} (h : w.ownsRow base e size (.slice (some ⟨g, 0, none⟩) n cap) m xs) {j : Nat} {u : Value} (hu : xs[j]? = some u) : w.cell? ⟨g, j, none⟩ = some u := by
  rcases h.2 with ⟨e', _⟩ | ⟨g', cap', cur, hv, _, hh, hn, hm, hs, hx⟩
  · cases e'
  · cases hv
    have e : cur.toList[j]? = some u := by
      rw [← hx, List.getElem?_take] at hu
      split at hu
      · exact hu
      · cases hu
    simp only [World.cell?, hh]
    simpa using e
/-- One that is held: its two cells. -/
theorem Hd.at_ {w : World} {v : Value} {S : Nat → Prop} {H : List (Int × List Int)} (h : Hd w v S H) {i : Nat} (hi : i < H.length) : ∃ g cap a lc, v = .slice (some ⟨g, 0, none⟩) H.length cap ∧ H.length ≤ cap ∧
    w.cell? ⟨g, i * 2, none⟩ = some (.int .i64 H[i].1) ∧ w.cell? ⟨g, i * 2 + 1, none⟩ = some (.slice a H[i].2.length lc) ∧ Wds w (.slice a H[i].2.length lc) H[i].2 ∧ S g := by
  obtain ⟨xs, h1, h2, h3⟩ := h.row
  have n1 := h2 i hi
  obtain ⟨lv, n2, n3, n4⟩ := h3 i hi
  obtain ⟨a, lc, rfl⟩ := owns_slice n3
  have h1' := h1
  rcases h1.2 with ⟨_, e⟩ | ⟨g, cap, cur, rfl, _, hh, hn, hm, hs, hx⟩
  · omega
  · exact ⟨g, cap, a, lc, rfl, hn, ownsRow_cell h1' n1, ownsRow_cell h1' n2, n3, h.own g rfl⟩

/-- An arena, and what is there, made since w0. -/
structure LfS (w0 w : World) (p bm W : Nat) (B : Blks) (v : Value) (H : List (Int × List Int)) (F S Sh : Nat → Prop) : Prop where
  ar : Ar w p bm S W B
  hd : Hd w v Sh H
  apart : ∀ k, S k → ¬ Sh k
  mineA : ∀ k, S k → w0.heap.size ≤ k
  mineH : ∀ k, Sh k → w0.heap.size ≤ k
  free : ∀ k, F k → k < w.heap.size ∧ ¬ S k ∧ ¬ Sh k
  below : Below w0.heap.size w0 w
def Lf (w0 w : World) (p bm W : Nat) (B : Blks) (v : Value) (H : List (Int × List Int)) (F : Nat → Prop) : Prop := ∃ S Sh, LfS w0 w p bm W B v H F S Sh
section
variable {w0 w w' : World} {p bm W : Nat} {B : Blks} {v : Value} {H : List (Int × List Int)} {F : Nat → Prop}
theorem Lf.below (h : Lf w0 w p bm W B v H F) : Below w0.heap.size w0 w := let ⟨_, _, h⟩ := h; h.below
theorem Lf.up (h : Lf w0 w p bm W B v H F) (hb : Below w.heap.size w w') : Lf w0 w' p bm W B v H F := by
  obtain ⟨S, Sh, h⟩ := h
  exact ⟨S, Sh, h.ar.up hb, h.hd.up hb, h.apart, h.mineA, h.mineH, fun k hk => ⟨Nat.lt_of_lt_of_le (h.free k hk).1 hb.size, (h.free k hk).2⟩, h.below.trans (hb.mono h.below.size)⟩
theorem Lf.weaken {F' : Nat → Prop} (h : Lf w0 w p bm W B v H F) (hF : ∀ k, F' k → F k) : Lf w0 w p bm W B v H F' := by
  obtain ⟨S, Sh, h⟩ := h
  exact ⟨S, Sh, h.ar, h.hd, h.apart, h.mineA, h.mineH, fun k hk => h.free k (hF k hk), h.below⟩
theorem Lf.add (h : Lf w0 w p bm W B v H F) (hb : Below w.heap.size w w') (G : Nat → Prop) (hG : ∀ k, G k → w.heap.size ≤ k ∧ k < w'.heap.size) : Lf w0 w' p bm W B v H (fun k => F k ∨ G k) := by
  have hu := h.up hb
  obtain ⟨S, Sh, h⟩ := h
  refine ⟨S, Sh, h.ar.up hb, h.hd.up hb, h.apart, h.mineA, h.mineH, fun k hk => ?_, h.below.trans (hb.mono h.below.size)⟩
  rcases hk with hk | hk
  · exact ⟨Nat.lt_of_lt_of_le (h.free k hk).1 hb.size, (h.free k hk).2⟩
  · have := hG k hk
    exact ⟨this.2, fun hS => (by have := h.ar.lt k hS; omega), fun hS => (by have := h.hd.lt k hS; omega)⟩
theorem Lf.over (h : Lf w0 w p bm W B v H F) {T : Nat → Prop} (ho : Only T w w') (hT : ∀ k, T k → F k ∧ w0.heap.size ≤ k) : Lf w0 w' p bm W B v H F := by
  obtain ⟨S, Sh, h⟩ := h
  exact ⟨S, Sh, h.ar.kept ho (fun k hk ht => (h.free k (hT k ht).1).2.1 hk), h.hd.kept ho (fun k hk ht => (h.free k (hT k ht).1).2.2 hk), h.apart, h.mineA, h.mineH, fun k hk => ⟨Nat.lt_of_lt_of_le (h.free k hk).1 ho.size, (h.free k hk).2⟩,
    h.below.trans (ho.below (fun k hk => (hT k hk).2) h.below.size)⟩
theorem Lf.left (h : Lf w0 w p bm W B v H F) : Calls Try.prog 19 #[.pointer (some ⟨p, 0, none⟩)] w fun e w' => e = .returned (.int .i64 ((W : Int) - usedB B)) ∧ Below w.heap.size w w' := by
  obtain ⟨S, Sh, h⟩ := h
  exact left_any p bm W S B w h.ar
theorem Lf.used (h : Lf w0 w p bm W B v H F) : Calls Try.prog 20 #[.pointer (some ⟨p, 0, none⟩)] w fun e w' => e = .returned (.int .i64 (usedB B)) ∧ Below w.heap.size w w' := by
  obtain ⟨S, Sh, h⟩ := h
  exact used_any p bm W S B w h.ar
theorem Lf.blocks (h : Lf w0 w p bm W B v H F) (hB : B.length ≤ 1000) : Calls Try.prog 21 #[.pointer (some ⟨p, 0, none⟩)] w fun e w' => ∃ a cap, e = .returned (.slice a (liveB 0 B).length cap) ∧ Below w.heap.size w w' := by
  obtain ⟨S, Sh, h⟩ := h
  refine (blocks_any p bm W S B w h.ar hB).mono fun e w' hh => ?_
  obtain ⟨u, rfl, h1, _, h3⟩ := hh
  obtain ⟨a, cap, rfl, hc⟩ := h1.cel
  exact ⟨a, cap, by rw [liveB_len], h3⟩
theorem Lf.get (h : Lf w0 w p bm W B v H F) {j : Nat} {x : Int × List Int} (hx : (liveB 0 B)[j]? = some x) (hB : B.length ≤ 1000) :
    Calls Try.prog 16 #[.pointer (some ⟨p, 0, none⟩), .int .i64 x.1] w fun e w' => ∃ v, e = .returned (.tuple #[v, .int .i64 0]) ∧ Wds w' v x.2 ∧ Below w.heap.size w w' := by
  obtain ⟨S, Sh, h⟩ := h
  have hl := live_lt hx
  refine (get_any p bm W S B x.1 w h.ar ⟨by omega, by omega⟩).mono fun e w' hh => ?_
  obtain ⟨u, rfl, h1, _, h3⟩ := hh
  unfold GetE GetV at *
  rw [live_blk hx] at h1 ⊢
  exact ⟨u, rfl, h1, h3⟩
theorem Lf.good (h : Lf w0 w p bm W B v H F) {j : Nat} {x : Int × List Int} (hx : (liveB 0 B)[j]? = some x) : 1 ≤ x.2.length ∧ x.2.length ≤ 1000 := by
  obtain ⟨S, Sh, h⟩ := h
  exact h.ar.blk_good (live_blk hx)
theorem Lf.stepA {S Sh : Nat → Prop} {B' : Blks} (h : LfS w0 w p bm W B v H F S Sh) (hs : Step w p bm S W B' w') : Lf w0 w' p bm W B' v H F ∧ Kf F w w' ∧ Only (fun k => k = p ∨ k = bm) w w' := by
  obtain ⟨S', g1, g2, g3⟩ := hs
  have hp : ∀ k, (k = p ∨ k = bm) → S k := fun k hk => by
    rcases hk with rfl | rfl
    · exact h.ar.sp
    · exact h.ar.sb
  refine ⟨⟨S', Sh, g1, h.hd.kept g2 (fun k hk hT => h.apart k (hp k hT) hk), fun k hk hr => ?_, fun k hk => ?_, h.mineH, fun k hk => ?_, h.below.trans (g2.below (fun k hk => h.mineA k (hp k hk)) h.below.size)⟩, g2.mono (fun k hk hF => (h.free k hF).2.1 (hp k hk)), g2⟩
  · rcases g3 k hk with e | e
    · exact h.apart k e hr
    · have := h.hd.lt k hr; omega
  · rcases g3 k hk with e | e
    · exact h.mineA k e
    · exact Nat.le_trans h.below.size e
  · have hf := h.free k hk
    exact ⟨Nat.lt_of_lt_of_le hf.1 g2.size, fun hS => (g3 k hS).elim hf.2.1 (fun e => by omega), hf.2.2⟩
theorem Lf.take (h : Lf w0 w p bm W B v H F) (l : List Int) (a : Option Addr) (cap : Nat) (hc : Cel w l a) (hl : l.length ≤ 1000) (hB : B.length ≤ 1000) :
    Calls Try.prog 15 #[.pointer (some ⟨p, 0, none⟩), .slice a l.length cap] w fun e w' => e = .returned (.tuple #[.int .i64 (takeR W B l).1, .int .i64 (takeR W B l).2.1]) ∧ Lf w0 w' p bm W (takeR W B l).2.2 v H F ∧ Kf F w w' := by
  obtain ⟨S, Sh, h⟩ := h
  exact (take_any p bm W S B l a cap w h.ar hc hl hB).mono fun e w' hh => ⟨hh.1, (Lf.stepA h hh.2).1, (Lf.stepA h hh.2).2.1⟩
theorem Lf.set (h : Lf w0 w p bm W B v H F) {j : Nat} {x : Int × List Int} (hx : (liveB 0 B)[j]? = some x) (l : List Int) (a : Option Addr) (cap : Nat) (hc : Cel w l a) (hl : l.length = x.2.length) (hB : B.length ≤ 1000) :
    Calls Try.prog 17 #[.pointer (some ⟨p, 0, none⟩), .int .i64 x.1, .slice a l.length cap] w fun e w' => e = .returned (.int .i64 0) ∧ Lf w0 w' p bm W (B.set (x.1 - 1).toNat (some l)) v H F ∧ Kf F w w' ∧ Only (fun k => k = p ∨ k = bm) w w' := by
  obtain ⟨S, Sh, h⟩ := h
  have hlt := live_lt hx
  have hg := h.ar.blk_good (live_blk hx)
  refine (set_any p bm W S B x.1 l a cap w h.ar ⟨by omega, by omega⟩ hc (by omega) hB).mono fun e w' hh => ?_
  have e1 : setR B x.1 l = (0, B.set (x.1 - 1).toNat (some l)) := by
    unfold setR
    rw [live_blk hx]
    simp only
    rw [if_pos (by rw [rnd_in (by omega) (by omega), hl])]
  rw [e1] at hh
  exact ⟨hh.1, Lf.stepA h hh.2⟩
theorem Lf.drop (h : Lf w0 w p bm W B v H F) {j : Nat} {x : Int × List Int} (hx : (liveB 0 B)[j]? = some x) (hB : B.length ≤ 1000) :
    Calls Try.prog 18 #[.pointer (some ⟨p, 0, none⟩), .int .i64 x.1] w fun e w' => e = .returned (.int .i64 0) ∧ Lf w0 w' p bm W (B.set (x.1 - 1).toNat none) v H F ∧ Kf F w w' ∧ Only (fun k => k = p ∨ k = bm) w w' := by
  obtain ⟨S, Sh, h⟩ := h
  have hlt := live_lt hx
  refine (drop_any p bm W S B x.1 w h.ar ⟨by omega, by omega⟩).mono fun e w' hh => ?_
  have e1 : dropR B x.1 = (0, B.set (x.1 - 1).toNat none) := by
    unfold dropR
    rw [live_blk hx]
  rw [e1] at hh
  exact ⟨hh.1, Lf.stepA h hh.2⟩
/-- Another row is held. -/
theorem LfS.other {S Sh Sh' : Nat → Prop} {v' : Value} {H' : List (Int × List Int)} {F' : Nat → Prop} {T : Nat → Prop} (h : LfS w0 w p bm W B v H F S Sh) (ho : Only T w w') (hT : ∀ k, T k → w0.heap.size ≤ k ∧ ¬ S k ∧ ¬ F' k) (hd : Hd w' v' Sh' H') (hSh : ∀ k, Sh' k → Sh k ∨ (F k ∧ w0.heap.size ≤ k) ∨ w.heap.size ≤ k) (hF : ∀ k, F' k → F k ∧ ¬ Sh' k) :
    Lf w0 w' p bm W B v' H' F' := by
  refine ⟨S, Sh', h.ar.kept ho (fun k hk ht => (hT k ht).2.1 hk), hd, fun k hk hs => ?_, h.mineA, fun k hk => ?_, fun k hk => ⟨Nat.lt_of_lt_of_le (h.free k (hF k hk).1).1 ho.size, (h.free k (hF k hk).1).2.1, (hF k hk).2⟩, h.below.trans (ho.below (fun k hk => (hT k hk).1) h.below.size)⟩
  · rcases hSh k hs with e | e | e
    · exact h.apart k hk e
    · exact (h.free k e.1).2.1 hk
    · have := h.ar.lt k hk; omega
  · rcases hSh k hk with e | e | e
    · exact h.mineH k e
    · exact e.2
    · exact Nat.le_trans h.below.size e
theorem Lf.most (h : Lf w0 w p bm W B v H F) : usedB B ≤ W ∧ W ≤ 16777216 := let ⟨_, _, h⟩ := h; ⟨h.ar.room, h.ar.most⟩
end
end Go.Proofs.Ytpfcbokckjfhbaa
