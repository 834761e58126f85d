/-
  The document's arenas: what its calls answer, and leave.
-/
import Derived.Test.YtpfcbokckjfhbaaArenaR
import Derived.Deep.Cut
import Derived.Deep.LoopGhost
import Derived.Deep.RegionWith
namespace Go.Proofs.Ytpfcbokckjfhbaa
open Go.RowKit Go.Deep Go.Maps Go.WideShapes

theorem ownsRow_set {w : World} {base : Nat} {e : TypeId} {size g n m cap : Nat} {xs : List Value} (h : w.ownsRow base e size (.slice (some ⟨g, 0, none⟩) n cap) m xs) (j : Nat) (u : Value) : (w.setCell ⟨g, j, none⟩ u).ownsRow base e size (.slice (some ⟨g, 0, none⟩) n cap) m (xs.set j u) := by
  obtain ⟨h1, h2⟩ := h
  refine ⟨by simpa using h1, ?_⟩
  rcases h2 with ⟨h2, _⟩ | ⟨b, cap', cur, hv, hb, hh, hn, hm, hs, hx⟩
  · cases h2
  · cases hv
    refine Or.inr ⟨g, cap, cur.setIfInBounds j u, rfl, hb, ?_, hn, hm, by simpa using hs, ?_⟩
    · simp [World.setCell, Array.getElem?_modify, hh]
    · rw [Array.toList_setIfInBounds, ← hx, List.take_set]
/-- What a call on the document's arena leaves. -/
def StepR (w : World) (q : Nat) (v : Value) (S : Nat → Prop) (W : Nat) (B : Blks) (w' : World) : Prop :=
  ∃ v' S', Ra w' q v' S' W B ∧ Only (fun k => k = q ∨ v.ownBlock = some k) w w' ∧ ∀ k, S' k → S k ∨ w.heap.size ≤ k
theorem Ra.step {w w' : World} {q W : Nat} {v : Value} {S : Nat → Prop} {B : Blks} (h : Ra w q v S W B) (hb : Below w.heap.size w w') : StepR w q v S W B w' := ⟨v, S, h.up hb, Only.up hb, fun _ h => Or.inl h⟩

theorem numAt_blk {B : Blks} {n : Int} (h1 : 1 ≤ n) (h2 : n ≤ B.length) : numAt B (n - 1).toNat = if (blk B n).isSome then n else 0 := by
  unfold numAt blk
  rw [if_pos h1]
  cases h : (B[(n - 1).toNat]?).join with
  | none => simp
  | some l => simp; omega
/-- A block's place, or -1. -/
def atR (B : Blks) (n : Int) : Int := if (blk B n).isSome then n - 1 else -1
theorem blk_out {B : Blks} {n : Int} (h : n < 1 ∨ (B.length : Int) < n) : blk B n = none := by
  cases hb : blk B n with
  | none => rfl
  | some l => have := blk_lt hb; omega
set_option maxRecDepth 100000 in
set_option maxHeartbeats 2000000 in
theorem at_any (q W : Nat) (v : Value) (S : Nat → Prop) (B : Blks) (n : Int) (w : World) (h : Ra w q v S W B) (hB : B.length ≤ 1000) :
    Calls Try.prog 43 #[.pointer (some ⟨q, 0, none⟩), .int .i64 n] w fun e w' => e = .returned (.int .i64 (atR B n)) ∧ w = w' := by
  obtain ⟨c0, c1, f1⟩ := h.cells
  unfold atR
  by_cases h1 : n < 1
  · rw [blk_out (Or.inl h1)]
    clear h
    go_enter Try.func43, Try.ntmps43
    go_wp2
    go_ret
    exact ⟨rfl, rfl⟩
  · by_cases h2 : (B.length : Int) < n
    · rw [blk_out (Or.inr h2)]
      obtain ⟨a, cap, rfl⟩ := h.slice
      clear h
      go_enter Try.func43, Try.ntmps43
      go_wp2
      go_ret
      exact ⟨rfl, rfl⟩
    · obtain ⟨I, hI⟩ : ∃ I, (n - 1).toNat = I := ⟨_, rfl⟩
      obtain ⟨g, cap', a', l, lc, rfl, hcap, d0, d1, dw, dl, _, _⟩ := h.at_ (i := I) (by omega)
      have hna := numAt_blk (B := B) (n := n) (by omega) (by omega)
      rw [hI] at hna
      rw [hna] at d0
      have hw : IntKind.i64.wrap (n - 1) = (I : Int) := by rw [wrap_id (by omega) (by omega)]; omega
      have hli : (I : Int) < B.length := by omega
      have HI := Hid.mk (show (I : Int) = n - 1 by omega)
      cases hb : (blk B n).isSome with
      | true =>
        rw [hb, if_pos rfl] at d0
        rw [if_pos rfl]
        have hn0 : (n == 0) = false := by simp; omega
        have h0 : ¬ n = 0 := by omega
        clear h hna hI dw dl hb d1
        go_enter Try.func43, Try.ntmps43
        go_wp2
        go_ret
        exact ⟨ret_int (by have := HI.out; omega), rfl⟩
      | false =>
        rw [hb, if_neg (by decide)] at d0
        rw [if_neg (by decide)]
        clear h hna hI dw dl hb d1
        go_enter Try.func43, Try.ntmps43
        go_wp2
        go_ret
        exact ⟨rfl, rfl⟩

set_option maxRecDepth 100000 in
set_option maxHeartbeats 2000000 in
theorem getR_any (q W : Nat) (v : Value) (S : Nat → Prop) (B : Blks) (n : Int) (w : World) (h : Ra w q v S W B) (hB : B.length ≤ 1000) :
    Calls Try.prog 28 #[.pointer (some ⟨q, 0, none⟩), .int .i64 n] w fun e w' => ∃ u, e = .returned (.tuple #[u, .int .i64 (GetE B n)]) ∧ Wds w u (GetV B n) ∧ w = w' := by
  obtain ⟨c0, c1, f1⟩ := h.cells
  have ha := at_any q W v S B n w h hB
  unfold GetE GetV
  unfold atR at ha
  cases hb : blk B n with
  | none =>
    rw [hb, if_neg (by decide)] at ha
    have HA := Hid.mk ha
    rw [if_neg (by decide)]
    clear h ha hb
    go_enter Try.func28, Try.ntmps28
    go_wp2_with (go_at_call 43; refine HA.out.mono ?_; rintro e w1 ⟨rfl, rfl⟩)
    go_ret2
    exact ⟨.slice none 0 0, rfl, ⟨rfl, Or.inl ⟨rfl, rfl⟩⟩, rfl⟩
  | some o =>
    have hlt := blk_lt hb
    obtain ⟨I, hI⟩ : ∃ I, (n - 1).toNat = I := ⟨_, rfl⟩
    have e1 := (blk_some.1 hb).2
    rw [hI] at e1
    obtain ⟨g, cap', a', l, lc, rfl, hcap, d0, d1, dw, dl, _, _⟩ := h.at_ (i := I) (by omega)
    obtain rfl := dl o e1
    rw [hb, if_pos (show (some _ : Option (List Int)).isSome = true from rfl), show n - 1 = (I : Int) by omega] at ha
    have HA := Hid.mk ha
    have HW := Hid.mk dw
    have hli : (I : Int) < B.length := by omega
    rw [if_pos (show (some _ : Option (List Int)).isSome = true from rfl)]
    clear h ha hb hI e1 dw dl d0 hlt
    go_enter Try.func28, Try.ntmps28
    go_wp2_with (go_at_call 43; refine HA.out.mono ?_; rintro e w1 ⟨rfl, rfl⟩)
    go_ret2
    exact ⟨_, rfl, HW.out, rfl⟩

theorem numAt_set {B : Blks} {i k : Nat} {o l : List Int} (h : B[i]? = some (some o)) : numAt (B.set i (some l)) k = numAt B k := by
  unfold numAt
  by_cases e : i = k
  · subst e
    rw [List.getElem?_set_self (List.getElem?_eq_some_iff.1 h).1, h]
    rfl
  · rw [List.getElem?_set_ne e]
theorem numAt_drop {B : Blks} {i k : Nat} (hk : k < B.length) : numAt (B.set i none) k = if i = k then 0 else numAt B k := by
  unfold numAt
  by_cases e : i = k
  · subst e
    rw [List.getElem?_set_self hk, if_pos rfl]
    rfl
  · rw [List.getElem?_set_ne e, if_neg e]

/-- A block's two cells written over: what is left. -/
theorem ra_put {w w5 : World} {q W I : Nat} {v lv' : Value} {S : Nat → Prop} {B : Blks} {y : Option (List Int)} {l' : List Int} (h : Ra w q v S W B) (hI : I < B.length) (o : Only (fun k => k = q ∨ v.ownBlock = some k) w w5)
    (box5 : w5.heap[q]? = some (.cells #[.int .i64 W, v] 67))
    (hown : ∀ xs, w.ownsRow 0 79 2 v B.length xs → xs[I * 2]? = some (.int .i64 (numAt B I)) → ∃ xs5, w5.ownsRow 0 79 2 v B.length xs5 ∧ ∀ j, xs5[j]? = if j = I * 2 then some (.int .i64 (numAt (B.set I y) I)) else if j = I * 2 + 1 then some lv' else xs[j]?)
    (hlv : Wds w5 lv' l') (hl' : ∀ o, y = some o → l' = o) (hn : ∀ g, lv'.ownBlock = some g → w.heap.size ≤ g) (hg : ∀ x, some x ∈ B.set I y → 1 ≤ x.length ∧ x.length ≤ 1000) : StepR w q v S W (B.set I y) w5 := by
  have hql := h.lt q h.sq
  obtain ⟨xs, h1, h2, h3⟩ := h.row
  obtain ⟨xs5, g1, g2⟩ := hown xs h1 (h2 I hI)
  refine ⟨v, fun k => S k ∨ lv'.ownBlock = some k, ⟨box5, ⟨xs5, ?_, fun i hi => ?_, fun i hi => ?_⟩, Or.inl h.sq, fun g hg => Or.inl (h.sv g hg), h.nv, fun k hk => ?_, hg⟩, o, fun k hk => hk.imp id (hn k)⟩
  · rw [List.length_set]; exact g1
  · rw [List.length_set] at hi
    rw [g2]
    by_cases e : i = I
    · subst e; rw [if_pos rfl]
    · rw [if_neg (by omega), if_neg (by omega), h2 i hi]
      unfold numAt
      rw [List.getElem?_set_ne (fun e' => e e'.symm)]
  · rw [List.length_set] at hi
    rw [g2]
    by_cases e : i = I
    · subst e
      rw [if_neg (by omega), if_pos rfl]
      refine ⟨lv', l', rfl, hlv, fun o ho => hl' o ?_, fun g hg => ⟨Or.inr hg, fun e => (by have := hn g hg; omega), fun e => (by have := h.lt g (h.sv g e); have := hn g hg; omega)⟩⟩
      rw [List.getElem?_set_self hi] at ho
      simpa using ho
    · rw [if_neg (by omega), if_neg (by omega)]
      obtain ⟨lv, l, k1, k2, k3, k4⟩ := h3 i hi
      refine ⟨lv, l, k1, k2.kept o (fun g hg => ?_), fun o ho => k3 o ?_, fun g hg => ⟨Or.inl (k4 g hg).1, (k4 g hg).2⟩⟩
      · have := k4 g hg
        rintro (e | e)
        · exact this.2.1 e
        · exact this.2.2 e
      · rwa [List.getElem?_set_ne (fun e' => e e'.symm)] at ho
  · rcases hk with hk | hk
    · exact Nat.lt_of_lt_of_le (h.lt k hk) o.size
    · exact hlv.block_lt hk

set_option maxRecDepth 100000 in
set_option maxHeartbeats 2000000 in
theorem dropR_any (q W : Nat) (v : Value) (S : Nat → Prop) (B : Blks) (n : Int) (w : World) (h : Ra w q v S W B) (hB : B.length ≤ 1000) :
    Calls Try.prog 31 #[.pointer (some ⟨q, 0, none⟩), .int .i64 n] w fun e w' => e = .returned (.int .i64 (dropR B n).1) ∧ StepR w q v S W (dropR B n).2 w' := by
  obtain ⟨c0, c1, f1⟩ := h.cells
  have ha := at_any q W v S B n w h hB
  have HR := Hid.mk h
  unfold dropR
  unfold atR at ha
  cases hb : blk B n with
  | none =>
    rw [hb, if_neg (by decide)] at ha
    have HA := Hid.mk ha
    clear h ha hb
    go_enter Try.func31, Try.ntmps31
    go_wp2_with (go_at_call 43; refine HA.out.mono ?_; rintro e w1 ⟨rfl, rfl⟩)
    go_ret
    exact ⟨rfl, HR.out.step (Below.refl _ _)⟩
  | some o =>
    have hlt := blk_lt hb
    obtain ⟨I, hI⟩ : ∃ I, (n - 1).toNat = I := ⟨_, rfl⟩
    obtain ⟨g, cap', a', l, lc, rfl, hcap, d0, d1, dw, dl, z0, z1⟩ := h.at_ (i := I) (by omega)
    rw [hb, if_pos (show (some _ : Option (List Int)).isSome = true from rfl), show n - 1 = (I : Int) by omega] at ha
    have HA := Hid.mk ha
    have hli : (I : Int) < B.length := by omega
    have HI := Hid.mk (And.intro hI (show I < B.length by omega))
    clear h ha hb hI dw dl hlt
    go_enter Try.func31, Try.ntmps31
    go_wp2_with (go_at_call 43; refine HA.out.mono ?_; rintro e w1 ⟨rfl, rfl⟩)
    go_ret
    obtain ⟨hI, hIl⟩ := HI.out
    refine ⟨rfl, ?_⟩
    show StepR w q _ S W (B.set (n - 1).toNat none) _
    rw [hI]
    have o5 : Only (fun k => k = q ∨ (Value.slice (some ⟨g, 0, none⟩) B.length cap').ownBlock = some k) w ((w.setCell ⟨g, I * 2, none⟩ (.int .i64 0)).setCell ⟨g, I * 2 + 1, none⟩ (.slice none 0 0)) := (Only.set (S := fun k => k = q ∨ (Value.slice (some ⟨g, 0, none⟩) B.length cap').ownBlock = some k) w _ (Or.inr rfl)).put (Or.inr rfl) _ _
    refine ra_put (lv' := .slice none 0 0) (l' := []) HR.out hIl o5 ?_ (fun xs hx _ => ⟨_, ownsRow_set (ownsRow_set hx (I * 2) (.int .i64 0)) (I * 2 + 1) (.slice none 0 0), fun j => ?_⟩) ⟨rfl, Or.inl ⟨rfl, rfl⟩⟩ (fun o ho => (by cases ho)) (fun g hg => (by cases hg)) (good_drop HR.out.good)
    · have hq : g ≠ q := fun e => HR.out.nv (by rw [← e]; rfl)
      refine (Only.trans (Only.set (S := fun k => k = g) w (p := g) _ rfl) (Only.set (S := fun k => k = g) _ (p := g) _ rfl) (fun i hi => Or.inl hi)).box HR.out.box (fun e => hq e.symm)
    · have hl := hx.1
      rw [List.getElem?_set, List.getElem?_set, numAt_drop hIl, if_pos rfl, List.length_set]
      by_cases e1 : j = I * 2
      · subst e1
        rw [if_neg (by omega), if_pos rfl, if_pos (by omega), if_pos rfl]
      · by_cases e2 : j = I * 2 + 1
        · subst e2
          rw [if_pos rfl, if_pos (by omega), if_neg e1, if_pos rfl]
        · rw [if_neg (fun e => e2 e.symm), if_neg (fun e => e1 e.symm), if_neg e1, if_neg e2]

end Go.Proofs.Ytpfcbokckjfhbaa
