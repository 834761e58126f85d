/-
  What a walk over all that a heap has reaches, plainly; Parts of a boxed word.
-/
import Derived.Test.YtaiiicmldogjoaaDoorZHeapN
import Derived.Test.YtaiiicmldogjoaaDoorZKitLast
namespace Go.Proofs.YtaiiicmldogjoaaDoor
open Go.RowKit Go.Deep Go.Maps Go.WideShapes

/-- The walk over a heap that has been collected: what was seen, all words to do, how many are done. -/
structure Sv (L : List ByteArray) (xs ks rs : List Int) (M V : List Nat) (ts : List Int) (i : Nat) : Prop where
  nodup : V.Nodup
  sub : ∀ p ∈ V, p ∈ M
  den : ∀ t ∈ ts, ∃ T, Den L xs ks T t
  inM : ∀ t ∈ ts, Wd.boxedB t = true → plc t ∈ M
  roots : ∀ w ∈ rs, w ∈ ts
  kids : ∀ p ∈ V, ∀ w ∈ bxw xs ks p, Wd.boxedB w = true → w ∈ ts
  done : ∀ j (h : j < ts.length), j < i → Wd.boxedB ts[j] = true → plc ts[j] ∈ V
  len : ts.length ≤ rs.length + (V.flatMap (bxw xs ks)).length
section
variable {L : List ByteArray} {xs ks rs : List Int} {M V : List Nat} {ts : List Int} {i J : Nat}
theorem Sv.start (hD : Scd (bxw xs ks) rs J M) (hr : ∀ r ∈ rs, ∃ T, Den L xs ks T r) : Sv L xs ks rs M [] rs 0 :=
  ⟨List.nodup_nil, fun p hp => (by cases hp), hr, fun t ht hb => hD.met t (by rw [toks]; exact List.mem_append_left _ ht) hb, fun _ h => h, fun p hp => (by cases hp), fun j _ h => (by omega), by simp⟩
theorem Sv.skip (h : Sv L xs ks rs M V ts i) (hi : i < ts.length) (hb : Wd.boxedB ts[i] = true → plc ts[i] ∈ V) : Sv L xs ks rs M V ts (i + 1) :=
  ⟨h.nodup, h.sub, h.den, h.inM, h.roots, h.kids, fun j hj hl hbj => (by
    rcases Nat.lt_or_ge j i with h1 | h1
    · exact h.done j hj h1 hbj
    · obtain rfl : j = i := by omega
      exact hb hbj), h.len⟩
theorem Sv.more (h : Sv L xs ks rs M V ts i) (hD : Scd (bxw xs ks) rs J M) (hi : i < ts.length) (hb : Wd.boxedB ts[i] = true) (hn : plc ts[i] ∉ V) {k n : Int} {ys : List Int} (hx : Bx xs ks k n (plc ts[i]) ys) (hy : ∀ y ∈ ys, ∃ T, Den L xs ks T y) :
    Sv L xs ks rs M (V ++ [plc ts[i]]) (ts ++ ys) (i + 1) := by
  have hm : plc ts[i] ∈ M := h.inM _ (List.getElem_mem hi) hb
  have hw := hx.words
  have hlead : ∀ w ∈ leadW k n ys.length, Wd.boxedB w = false := fun w hw' => by
    by_cases h9 : k = 9
    · rw [leadW, if_neg (by omega), if_neg (by omega)] at hw'
      cases hw'
    · obtain ⟨x, hx', _, _, _, _, hbx, _⟩ := head_num hx.has hx.fit h9
      rw [hx', List.mem_singleton] at hw'
      rw [hw', hbx]
  refine ⟨?_, fun p hp => ?_, fun t ht => ?_, fun t ht hbt => ?_, fun w hw' => List.mem_append_left _ (h.roots w hw'), fun p hp w hw' hbw => ?_, fun j hj hl hbj => ?_, ?_⟩
  · rw [List.nodup_append]
    refine ⟨h.nodup, by simp, fun a ha b hb' e => ?_⟩
    rw [List.mem_singleton] at hb'
    subst e hb'
    exact hn ha
  · rcases List.mem_append.1 hp with hp | hp
    · exact h.sub p hp
    · rw [List.mem_singleton.1 hp]; exact hm
  · rcases List.mem_append.1 ht with ht | ht
    · exact h.den t ht
    · exact hy t ht
  · rcases List.mem_append.1 ht with ht | ht
    · exact h.inM t ht hbt
    · refine hD.met t ?_ hbt
      rw [toks]
      refine List.mem_append_right _ (List.mem_flatMap.2 ⟨_, hm, ?_⟩)
      rw [hw]
      exact List.mem_append_right _ ht
  · rcases List.mem_append.1 hp with hp | hp
    · exact List.mem_append_left _ (h.kids p hp w hw' hbw)
    · rw [List.mem_singleton.1 hp, hw] at hw'
      rcases List.mem_append.1 hw' with h1 | h1
      · rw [hlead w h1] at hbw; cases hbw
      · exact List.mem_append_right _ h1
  · by_cases h1 : j < ts.length
    · rw [List.getElem_append_left h1] at hbj ⊢
      rcases Nat.lt_or_ge j i with h2 | h2
      · exact List.mem_append_left _ (h.done j h1 h2 hbj)
      · obtain rfl : j = i := by omega
        exact List.mem_append_right _ (List.mem_singleton.2 rfl)
    · omega
  · rw [List.length_append, List.flatMap_append, List.length_append, List.flatMap_singleton, hw, List.length_append]
    have := h.len
    omega
/-- All is reached. -/
theorem Sv.all (h : Sv L xs ks rs M V ts i) (hD : Scd (bxw xs ks) rs J M) (he : ts.length ≤ i) : (V.flatMap (bxw xs ks)).length = (M.flatMap (bxw xs ks)).length := by
  have hd : ∀ t ∈ ts, Wd.boxedB t = true → plc t ∈ V := fun t ht hb => by
    obtain ⟨j, hj, rfl⟩ := List.getElem_of_mem ht
    exact h.done j hj (by omega) hb
  exact all_met hD h.nodup h.sub (fun w hw hb => hd w (h.roots w hw) hb) (fun p hp w hw hb => hd w (h.kids p hp w hw hb) hb)
theorem Sv.bound (h : Sv L xs ks rs M V ts i) : (V.flatMap (bxw xs ks)).length ≤ (M.flatMap (bxw xs ks)).length := sum_le h.nodup h.sub
end

set_option maxHeartbeats 2000000 in
set_option maxRecDepth 100000 in
theorem partsB_any (hb p bm : Nat) (v : Value) (L : List ByteArray) (M : Nat) (wv kv : Value) (xs ks : List Int) (x k n : Int) (q : Nat) (ys : List Int) (w : World) (h : Hea w hb p bm v L M wv kv xs ks) (hwf : Wf xs ks) (hw : Pk x k q) (hx : Bx xs ks k n q ys) (hm : mayB L ks x = true) (hl : ys.length ≤ 64) :
    Calls Tryd.prog 11 #[.pointer (some ⟨hb, 0, none⟩), .int .u64 x] w fun e w' => ∃ v', e = .returned (.tuple #[v', .int .i64 0]) ∧ Wds w' v' ys ∧ (∀ g, v'.ownBlock = some g → w.heap.size ≤ g) ∧ Below w.heap.size w w' := by
  have HMAY := Hid.mk (may_any9 hb p bm v L M wv kv xs ks x w h hwf hw.facts.2.2.2.2.2.2.1 hw.facts.2.2.2.2.2.2.2)
  rw [hm] at HMAY
  have HP := Hid.mk (fun Wx (hb' : Below w.heap.size w Wx) => parts_boxed hb p bm v L M wv kv xs ks x k n q ys Wx (h.up hb') hw hx)
  have c0 := h.c0
  have hll := Hid.mk hl
  clear h hwf hw hx hm hl
  go_enter Tryd.func11, Tryd.ntmps11
  go_wp2_with (first
    | (go_at_call 30; refine (madeH_yes _ _ c0).mono ?_; rintro e w1 ⟨rfl, rfl⟩)
    | (go_at_call 36; refine HMAY.out.mono ?_; rintro e w1 ⟨rfl, hb1⟩; have HB1 := Hid.mk hb1; clear hb1)
    | (go_at_call 40; refine (HP.out _ HB1.out).mono ?_; rintro e w2 ⟨a, cap, rfl, hs, hb2⟩; have HS := Hid.mk hs; have HB2 := Hid.mk (HB1.out.trans (hb2.mono HB1.out.size)); clear hs hb2)
    | (go_at_call 39; refine (clone_any9 ys a cap _ HS.out.cel HS.out.nil (by have := hll.out; omega)).mono ?_; rintro e w3 ⟨v3, rfl, h1, h2, hb3⟩; have H1 := Hid.mk h1; have H2 := Hid.mk h2; have HB3 := Hid.mk hb3; clear h1 h2 hb3))
  go_ret2
  exact ⟨v3, rfl, H1.out, fun g hg => Nat.le_trans HB2.out.size (H2.out g hg), HB2.out.trans (HB3.out.mono HB2.out.size)⟩
theorem St.partsB {W0 w : World} {hb : Nat} {S : Nat → Prop} {L : List ByteArray} {M : Nat} {xs ks : List Int} (h : St W0 w hb S L M xs ks) {x k n : Int} {q : Nat} {ys : List Int} {T : Tm} (hd : Den L xs ks T x) (hw : Pk x k q) (hx : Bx xs ks k n q ys) :
    Calls Tryd.prog 11 #[.pointer (some ⟨hb, 0, none⟩), .int .u64 x] w fun e w' => ∃ v', e = .returned (.tuple #[v', .int .i64 0]) ∧ Wds w' v' ys ∧ (∀ g, v'.ownBlock = some g → w.heap.size ≤ g) ∧ Below w.heap.size w w' := by
  obtain ⟨p, bm, v, wv, kv, hh, ho⟩ := h.hea
  have hl : ys.length ≤ 64 := by
    have := hx.fit
    simp only [fitB, decide_eq_true_eq] at this
    omega
  exact partsB_any hb p bm v L M wv kv xs ks x k n q ys w hh h.wf hw hx (den_may hd) hl
end Go.Proofs.YtaiiicmldogjoaaDoor

/-
  A row of flags: which places were seen; words copied.
-/
namespace Go.Proofs.YtaiiicmldogjoaaDoor
open Go.RowKit Go.Deep Go.Maps Go.WideShapes

def bits (N : Nat) (V : List Nat) : List Bool := (List.range N).map fun p => decide (p ∈ V)
theorem bits_set {N q : Nat} {V : List Nat} (_ : q < N) : (bits N V).set q true = bits N (V ++ [q]) := by
  apply List.ext_getElem?
  intro j
  rw [List.getElem?_set]
  simp only [bits, List.length_map, List.length_range, List.getElem?_map]
  by_cases hj : j < N
  · by_cases e : q = j
    · subst e
      simp [hj]
    · have e' : ¬ j = q := fun h => e h.symm
      simp [e, e', hj]
  · have e : ¬ q = j := by omega
    simp [e, hj]
/-- A row of flags in a block of its own. -/
structure Bw (w : World) (g N : Nat) (V : List Nat) : Prop where
  row : w.heap[g]? = some (.cells ((bits N V).map Value.bool).toArray 4)
theorem Bw.cell {w : World} {g N : Nat} {V : List Nat} (h : Bw w g N V) {p : Nat} (hp : p < N) : w.cell? ⟨g, p, none⟩ = some (.bool (decide (p ∈ V))) := by
  simp [World.cell?, h.row, bits, hp]
theorem Bw.frozen {w : World} {g N : Nat} {V : List Nat} (h : Bw w g N V) (p : Nat) : w.frozen? ⟨g, p, none⟩ = false := by
  simp [World.frozen?, h.row]
theorem Bw.up {w w' : World} {g N : Nat} {V : List Nat} (h : Bw w g N V) (hb : Below w.heap.size w w') : Bw w' g N V := ⟨(hb.block _ (Array.getElem?_eq_some_iff.1 h.row).1).trans h.row⟩
theorem Bw.lt {w : World} {g N : Nat} {V : List Nat} (h : Bw w g N V) : g < w.heap.size := (Array.getElem?_eq_some_iff.1 h.row).1
theorem Bw.set {w : World} {g N q : Nat} {V : List Nat} (h : Bw w g N V) (hq : q < N) : Bw (w.setCell ⟨g, q, none⟩ (.bool true)) g N (V ++ [q]) := by
  constructor
  rw [← bits_set hq, List.map_set]
  simp [World.setCell, Array.getElem?_modify, h.row]
theorem Bw.grown {w w' : World} {g N : Nat} {V : List Nat} {o : Option Nat} (h : Bw w g N V) (hg : w.grownBy w' o) (ho : o ≠ some g) : Bw w' g N V :=
  ⟨(hg.block g h.lt (fun e => ho e.symm)).trans h.row⟩
theorem boolInfo : (Tryd.prog.info? 4).map (fun i => (i.zero, i.size, i.bytes)) = some (some (.bool false), 1, 1) := by kernel_rfl
theorem made_bools (m : Nat) (hm : m ≤ 1000000) (w : World) : ∃ w', (Instr.makeSlice 121 (.int .i64 (m : Int)) (.int .i64 (m : Int))).run Tryd.prog w = .ok (.slice (some ⟨w.heap.size, 0, none⟩) m m) w' ∧ Bw w' w.heap.size m [] ∧ Below w.heap.size w w' := by
  have hi := boolInfo
  cases hq : Tryd.prog.info? 4 with
  | none => rw [hq] at hi; cases hi
  | some i =>
    rw [hq] at hi
    simp only [Option.map_some, Option.some.injEq, Prod.mk.injEq] at hi
    obtain ⟨hz, hs, hb⟩ := hi
    obtain ⟨w', h1, h2, h3⟩ := run_make_full (P := Tryd.prog) w 0 121 4 i _ 1 Tryd.underlying121 hq hz hs .i64 .i64 m (by rw [hb]; omega) (by unfold maxLen; omega) (Nat.zero_le _)
    refine ⟨w', h1, ?_, (Below.refl _ _).grown h3 (Nat.le_refl _) (fun k hk => by cases hk)⟩
    have e : (madeCells (Value.bool false).cells (m * 1)).toList = (bits m []).map Value.bool := by
      apply List.ext_getElem?
      intro j
      by_cases hj : j < m
      · simp [madeCells, Value.cells, bits, hj, Nat.mod_one]
      · simp [madeCells, Value.cells, bits, hj]
    rw [e] at h2
    obtain ⟨_, h4⟩ := h2
    rcases h4 with ⟨h5, _⟩ | ⟨g, cap, cur, hv, _, hh, hn, _, hsz, hx⟩
    · cases h5
    · cases hv
      constructor
      rw [hh]
      have hl : cur.toList.length = m * 1 := by simpa using hsz
      rw [List.take_of_length_le (by omega)] at hx
      rw [← hx]
set_option maxHeartbeats 1000000 in
theorem copy9_any (xs : List Int) (a : Option Addr) (cap : Nat) (w : World) (h : Cel w xs a) (hn : a = none → cap = 0) (hl : xs.length ≤ 1000) :
    Calls Tryd.prog 73 #[.slice a xs.length cap] w fun e w' => ∃ v', e = .returned v' ∧ Wds w' v' xs ∧ (∀ g, v'.ownBlock = some g → w.heap.size ≤ g) ∧ Below w.heap.size w w' := by
  have hb1 : Below w.heap.size w (w.alloc (.cells #[] 22)) := (Up.refl w).alloc.out
  have hw1 : Wds (w.alloc (.cells #[] 22)) (.slice (some ⟨w.heap.size, 0, none⟩) 0 0) [] := ⟨rfl, Or.inr ⟨w.heap.size, 0, #[], rfl, Nat.zero_le _, new_block _ _, Nat.le_refl _, by rw [maxLen]; omega, rfl, rfl⟩⟩
  obtain ⟨v2, w2, hr, h2, hg2, ha2⟩ := append_words (w.alloc (.cells #[] 22)) 25 _ [] xs hw1 a cap (h.up hb1) hn (by simp; omega)
  rw [List.nil_append] at h2
  have H2 := Hid.mk h2
  have H3 : Hid (∀ g, v2.ownBlock = some g → w.heap.size ≤ g) := Hid.mk fun g hg => by
    rcases ha2 with e | e
    · rw [e] at hg; cases hg; exact Nat.le_refl _
    · rw [e] at hg; cases hg; simp
  have H4 := Hid.mk (hb1.grown hg2 hb1.size (fun k hk => by cases hk; exact Nat.le_refl _))
  clear h hl h2 hg2 ha2 hb1 hw1 hn
  go_enter Tryd.func73, Tryd.ntmps73
  go_wp2_with (first
    | (at_builtin; refine Lib.wpList_append_run _ rfl _ _ _ _ rfl _ _ rfl rfl _ _ hr ?_))
  go_ret
  exact ⟨v2, rfl, H2.out, H3.out, H4.out⟩
end Go.Proofs.YtaiiicmldogjoaaDoor
