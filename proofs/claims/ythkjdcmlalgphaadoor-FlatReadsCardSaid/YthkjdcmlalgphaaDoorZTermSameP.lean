/-
  Whether two terms are the same, as the program tells it.
-/
import Derived.Test.YthkjdcmlalgphaaDoorZTermBoth
import Derived.Test.YthkjdcmlalgphaaDoorZTermSame
import Derived.Test.YthkjdcmlalgphaaDoorZTermMore
namespace Go.Proofs.YthkjdcmlalgphaaDoor
open Go.RowKit Go.Deep Go.Shelf

attribute [local go_sem] Oper.semAt_some

theorem pairs_in (n : Nat) (k nn : Int) (s : ByteArray) (a : Option Addr) (len cap : Nat) (k' nn' : Int) (s' : ByteArray) (a' : Option Addr) (len' cap' : Nat) (w : World) :
    CallsIn Fence.wide n Tryd.prog 53 #[.agg #[.int .i64 k, .int .i64 nn, .string s, .slice a len cap], .agg #[.int .i64 k', .int .i64 nn', .string s', .slice a' len' cap']] w fun e w' =>
      e = .returned (.func (.func 79) #[] #[.pointer (some ⟨w.heap.size, 0, none⟩), .pointer (some ⟨w.heap.size + 1, 0, none⟩)]) ∧ w' = (w.alloc (.cells #[.int .i64 k, .int .i64 nn, .string s, .slice a len cap] 25)).alloc (.cells #[.int .i64 k', .int .i64 nn', .string s', .slice a' len' cap'] 25) := by
  refine callsIn_of_wp Tryd.func53 rfl trivial ?_ rfl
  simp only [Tryd.ntmps53, List.size_toArray, List.length_cons, List.length_nil, Nat.reduceAdd, Nat.reduceSub, Array.replicate_succ, Array.replicate_zero, List.push_toArray, List.append_toArray, List.nil_append, List.cons_append]
  gi_wp2
  go_ret
  exact ⟨rfl, rfl⟩

set_option maxHeartbeats 1000000 in
theorem pairs_yields (n n₀ Bt : Nat) (S : Nat → Prop) (T U : Tm) (k nn : Int) (s : ByteArray) (a : Option Addr) (len cap : Nat) (k' nn' : Int) (s' : ByteArray) (a' : Option Addr) (len' cap' : Nat) (w : World) (hn : n₀ ≤ w.heap.size) (hS : ∀ b, S b → b < n₀)
    (hv : Lies w S T (.agg #[.int .i64 k, .int .i64 nn, .string s, .slice a len cap])) (hbox : w.heap[Bt]? = some (.cells #[.int .i64 k, .int .i64 nn, .string s, .slice a len cap] 25))
    (hu : Lies w S U (.agg #[.int .i64 k', .int .i64 nn', .string s', .slice a' len' cap'])) (hboxb : w.heap[Bt + 1]? = some (.cells #[.int .i64 k', .int .i64 nn', .string s', .slice a' len' cap'] 25)) :
    Yields Fence.wide n Tryd.prog 79 #[.pointer (some ⟨Bt, 0, none⟩), .pointer (some ⟨Bt + 1, 0, none⟩)] (fun x : PV × PV => #[.agg #[.int .i64 x.1.k, .int .i64 x.1.n, .string x.1.s, .slice x.1.a x.1.len x.1.cap], .agg #[.int .i64 x.2.k, .int .i64 x.2.n, .string x.2.s, .slice x.2.a x.2.len x.2.cap]]) n₀
      (fun ys => ys.map psh = T.both U) (fun ys => ys.map psh <+: T.both U) (T.both U).length w := by
  intro l J Jx W hW hJ hJx hY h0
  have hbW := (hW.block Bt (Array.getElem?_eq_some_iff.1 hbox).1).trans hbox
  have hbWb := (hW.block (Bt + 1) (Array.getElem?_eq_some_iff.1 hboxb).1).trans hboxb
  obtain ⟨⟨g0, g1, g2, g3⟩, f0, f1, f2, f3⟩ := kept4 hbW (Below.refl _ _)
  obtain ⟨⟨g4, g5, g6, g7⟩, f4, f5, f6, f7⟩ := kept4 hbWb (Below.refl _ _)
  have hc := intoBoth_in l n₀ W.heap.size (T.both U).length S J Jx (Nat.le_trans hn hW.size) hJ hS (fun m pre x W1 hj hz hl => yield_wide m (hY pre x W1 hj hz hl)) T.size T U (Nat.le_refl _) (n - 1) _ _ [] W (hv.below hW) (hu.below hW) (Nat.le_refl _) h0 (by simp)
  refine callsIn_of_wp Tryd.func79 rfl trivial ?_ rfl
  simp only [Tryd.ntmps79, List.size_toArray, List.length_cons, List.length_nil, Nat.reduceAdd, Nat.reduceSub, Array.replicate_succ, Array.replicate_zero, List.push_toArray, List.append_toArray, List.nil_append, List.cons_append]
  gi_wp2_with (refine ⟨trivial, (fun h => (by cases h)), ?_⟩; gi_at_call 80; refine hc.mono ?_; clear hc; rintro e W1 (⟨rfl, ys, hys, hj, _⟩ | ⟨rfl, ys, hys, hj⟩))
  · go_end0
    exact ⟨⟨_, rfl⟩, .inl ⟨ys, hys, by simpa using hj⟩⟩
  · go_end0
    exact ⟨⟨_, rfl⟩, .inr ⟨ys, hys, by simpa using hj⟩⟩

theorem load_bool {w : World} {b : Nat} {v : Value} (h : w.cell? ⟨b, 0, none⟩ = some v) : (loadVar 4 ⟨b, 0, none⟩).run Tryd.prog w = .ok v w := by
  have hagg : (isAgg 4).run Tryd.prog w = .ok false w := by
    unfold isAgg
    rw [Sem.run_bind, run_underlying Tryd.underlying4 w]
    simp
  simp [loadVar, Sem.run_bind, hagg, h]
theorem results_bool {w : World} {fn : Func} {p : Tmp} (h : fn.results = #[.cell p 4]) (tmps : Array Value) {b : Nat} (hp : tmps.getD p undef = .pointer (some ⟨b, 0, none⟩)) {v : Value} (c : w.cell? ⟨b, 0, none⟩ = some v) :
    (results fn tmps).run Tryd.prog w = .ok v w := by
  have hp' : tmps[p]?.getD undef = .pointer (some ⟨b, 0, none⟩) := by simpa using hp
  simp [results, h, hp', asAddr, load_bool c]

set_option maxHeartbeats 4000000 in
set_option maxRecDepth 100000 in
theorem sameP_of (T U : Tm) (hsz : T.size ≤ 1000000) (S : Nat → Prop) (v u : Value) (w : World) (hv : Lies w S T v) (hu : Lies w S U u) (hS : ∀ b, S b → b < w.heap.size) :
    Calls Tryd.prog 30 #[v, u] w fun e w' => e = .returned (.bool (eqB T U)) ∧ Below w.heap.size w w' := by
  refine (callsIn_wide (n := 9)).1 ?_
  obtain ⟨k, nn, s, li⟩ := T
  obtain ⟨a, cap, rfl, hs, hl⟩ := hv.out
  obtain ⟨k', nn', s', li'⟩ := U
  obtain ⟨a', cap', rfl, hs', hl'⟩ := hu.out
  refine callsIn_of_wp_marks Tryd.func30 rfl trivial ?_ rfl
  simp only [Tryd.ntmps30, List.size_toArray, List.length_cons, List.length_nil, Nat.reduceAdd, Nat.reduceSub, Array.replicate_succ, Array.replicate_zero, List.push_toArray, List.append_toArray, List.nil_append, List.cons_append]
  gi_wp2_with (refine ⟨trivial, ?_⟩; gi_at_call 53; refine (pairs_in _ _ _ _ _ _ _ _ _ _ _ _ _ _).mono ?_; rintro e w' ⟨rfl, rfl⟩)
  obtain ⟨w5, hw5⟩ : ∃ w5, ((((w.alloc (.cells #[.int .i64 k, .int .i64 nn, .string s, .slice a li.length cap] 25)).alloc (.cells #[.int .i64 k', .int .i64 nn', .string s', .slice a' li'.length cap'] 25)).alloc (.cells #[.bool false] 4)).alloc (.cells #[.int .i64 k, .int .i64 nn, .string s, .slice a li.length cap] 25)).alloc (.cells #[.int .i64 k', .int .i64 nn', .string s', .slice a' li'.length cap'] 25) = w5 := ⟨_, rfl⟩
  rw [hw5]
  have hz5 : w5.heap.size = w.heap.size + 5 := by rw [← hw5]; simp
  have hb5 : Up w w5 := by rw [← hw5]; exact (Up.refl w).alloc.alloc.alloc.alloc.alloc
  have hbox : w5.heap[w.heap.size + 3]? = some (.cells #[.int .i64 k, .int .i64 nn, .string s, .slice a li.length cap] 25) := by
    rw [← hw5]
    have := heap_alloc_new (((w.alloc (.cells #[.int .i64 k, .int .i64 nn, .string s, .slice a li.length cap] 25)).alloc (.cells #[.int .i64 k', .int .i64 nn', .string s', .slice a' li'.length cap'] 25)).alloc (.cells #[.bool false] 4)) (.cells #[.int .i64 k, .int .i64 nn, .string s, .slice a li.length cap] 25)
    rw [World.size_alloc, World.size_alloc, World.size_alloc] at this
    exact old_block this _
  have hboxb : w5.heap[w.heap.size + 3 + 1]? = some (.cells #[.int .i64 k', .int .i64 nn', .string s', .slice a' li'.length cap'] 25) := by
    rw [← hw5]
    have := heap_alloc_new ((((w.alloc (.cells #[.int .i64 k, .int .i64 nn, .string s, .slice a li.length cap] 25)).alloc (.cells #[.int .i64 k', .int .i64 nn', .string s', .slice a' li'.length cap'] 25)).alloc (.cells #[.bool false] 4)).alloc (.cells #[.int .i64 k, .int .i64 nn, .string s, .slice a li.length cap] 25)) (.cells #[.int .i64 k', .int .i64 nn', .string s', .slice a' li'.length cap'] 25)
    rwa [World.size_alloc, World.size_alloc, World.size_alloc, World.size_alloc] at this
  have hres : w5.heap[w.heap.size + 2]? = some (.cells #[.bool false] 4) := by
    rw [← hw5]
    exact old_block (old_block (new_block3 _ _ _ _) _) _
  refine wpIn_range_cells rfl (by omega) (gf := 79) (lb := #[.pointer (some ⟨w.heap.size + 3, 0, none⟩), .pointer (some ⟨w.heap.size + 3 + 1, 0, none⟩)]) (by simp [Act.eval]) trivial (enters_of Tryd.func79 (by kernel_rfl) rfl)
    (pairs_yields _ w.heap.size (w.heap.size + 3) S _ _ k nn s a li.length cap k' nn' s' a' li'.length cap' w5 (by omega) hS (hv.below hb5.out) hbox (hu.below hb5.out) hboxb) (by omega) (fun _ => rfl)
    (fun pre W => W.heap[w.heap.size + 2]? = some (.cells #[.bool false] 4) ∧ (∀ p ∈ pre.map psh, alike p) ∧ Below w.heap.size w W)
    (fun c pre W => c = .ret ∧ W.heap[w.heap.size + 2]? = some (.cells #[.bool false] 4) ∧ (¬ ∀ p ∈ pre.map psh, alike p) ∧ Below w.heap.size w W)
    (fun s A B hs hb => ⟨(hb.block _ (by omega)).trans hs.1, hs.2.1, hs.2.2.trans (hb.mono (by omega))⟩)
    (fun c s A B hs hb => ⟨hs.1, (hb.block _ (by omega)).trans hs.2.1, hs.2.2.1, hs.2.2.2.trans (hb.mono (by omega))⟩) ⟨hres, fun p hp => by simp at hp, hb5.out⟩ ?round ?done ?stop
  case round =>
    rintro l pre x W rfl ⟨hr, hal, hb⟩ hlen hzW
    gi_wp2
    refine ⟨((Below.refl _ _).alloc (Nat.le_refl _) _).alloc (by simp) _, fun W2 hoth hz2 ⟨hr2, _, hb2⟩ => ?_⟩
    rw [World.size_alloc, World.size_alloc] at hz2
    have hpa : W2.heap[W.heap.size]? = some (.cells #[.int .i64 x.1.k, .int .i64 x.1.n, .string x.1.s, .slice x.1.a x.1.len x.1.cap] 25) := (hoth _ (by omega)).trans (new_block1 _ _ _)
    have hpb : W2.heap[W.heap.size + 1]? = some (.cells #[.int .i64 x.2.k, .int .i64 x.2.n, .string x.2.s, .slice x.2.a x.2.len x.2.cap] 25) := (hoth _ (by omega)).trans (new_block2 _ _ _)
    obtain ⟨⟨g0, g1, g2, g3⟩, f0, f1, f2, f3⟩ := kept4 hpa (Below.refl _ _)
    obtain ⟨⟨g4, g5, g6, g7⟩, f4, f5, f6, f7⟩ := kept4 hpb (Below.refl _ _)
    have gr : W2.cell? ⟨w.heap.size + 2, 0, none⟩ = some (.bool false) := by simp [World.cell?, hr2]
    have fr : W2.frozen? ⟨w.heap.size + 2, 0, none⟩ = false := by simp [World.frozen?, hr2]
    have hyes : Hid (alike (psh x) → ∀ p ∈ (pre ++ [x]).map psh, alike p) := Hid.mk (fun h p hp => by
      rw [List.map_append, List.mem_append] at hp
      rcases hp with hp | hp
      · exact hal p hp
      · simp at hp; subst hp; exact h)
    have hno : Hid (¬ alike (psh x) → ¬ ∀ p ∈ (pre ++ [x]).map psh, alike p) := Hid.mk (fun h h2 => h (h2 _ (by simp)))
    clear hal hr
    have hset : Spares w.heap.size w5.heap.size W2 (W2.setCell ⟨w.heap.size + 2, 0, none⟩ (.bool false)) := Spares.setCell W2 (p := ⟨w.heap.size + 2, 0, none⟩) (by show w.heap.size ≤ w.heap.size + 2; omega) (by show w.heap.size + 2 < w5.heap.size; omega) _
    have hbs : Below w.heap.size w (W2.setCell ⟨w.heap.size + 2, 0, none⟩ (.bool false)) := hb2.setCell (p := ⟨w.heap.size + 2, 0, none⟩) (by show w.heap.size ≤ w.heap.size + 2; omega) _
    have hsh := Hid.mk hset
    have hbh := Hid.mk hbs
    clear hset hbs
    gi_wp2
    all_goals first
      | exact ⟨Spares.refl _ _ _, hr2, hyes.out (by
          show x.1.sh = x.2.sh
          simp only [PV.sh, Prod.mk.injEq]
          exact ⟨by assumption, by assumption, bytes_toList (by assumption), by have g := (by assumption : ((x.1.len : Int) != x.2.len) = false); rw [bne_eq_false_iff_eq] at g; omega⟩), hb2⟩
      | exact ⟨hsh.out, rfl, set1_block hr2, hno.out (fun h => by
          have h' : x.1.sh = x.2.sh := h
          simp only [PV.sh, Prod.mk.injEq] at h'
          obtain ⟨h1, h2, h3, h4⟩ := h'
          first | exact absurd h1 (by assumption) | exact absurd h2 (by assumption) | exact absurd (congrArg ByteArray.toList h3) (by assumption) | (have g := (by assumption : ((x.1.len : Int) != x.2.len) = true); rw [bne_iff_ne] at g; exact g (by rw [h4]))), hbh.out⟩
  case done =>
    rintro D ys W hD hys ⟨hr, hal, hb⟩ hK
    rw [hys] at hal
    have hT := Hid.mk (eqB_iff.2 (both_same _ _ hal))
    have gr : W.cell? ⟨w.heap.size + 2, 0, none⟩ = some (.bool false) := by simp [World.cell?, hr]
    have fr : W.frozen? ⟨w.heap.size + 2, 0, none⟩ = false := by simp [World.frozen?, hr]
    gi_wp2
    have hK' : (W.setCell ⟨w.heap.size + 2, 0, none⟩ (.bool true)).heap[D]? = some (.deferred (some [])) := (Below.heap_setCell W ⟨w.heap.size + 2, 0, none⟩ _ _ (by show D ≠ w.heap.size + 2; omega)).trans hK
    have hc1 : (W.setCell ⟨w.heap.size + 2, 0, none⟩ (.bool true)).heap[w.heap.size + 2]? = some (.cells #[.bool true] 4) := set1_block hr
    refine ⟨by simp, .inl ⟨_, _, rfl, run_takeDeferred hK', ?_⟩⟩
    refine ⟨.bool true, results_bool rfl _ rfl ?_, ?_, (hb.setCell (p := ⟨w.heap.size + 2, 0, none⟩) (by show w.heap.size ≤ w.heap.size + 2; omega) _).trans (below_putObj _ _ _ (by omega))⟩
    · rw [World.cell?_of_block (w := W.setCell ⟨w.heap.size + 2, 0, none⟩ (.bool true)) (World.putObj_heap_other (by show w.heap.size + 1 + 1 ≠ D; omega))]
      simp [World.cell?, hc1]
    · rw [hT.out]
  case stop =>
    rintro D c pre W hD hpre ⟨rfl, hr, hal, hb⟩ hK
    have hT : Hid (eqB (Tm.mk k nn s li) (.mk k' nn' s' li') = false) := Hid.mk (eqB_no (fun e => hal (fun p hp => both_refl _ p (by rw [← e] at hpre; exact hpre.subset hp))))
    have gr : W.cell? ⟨w.heap.size + 2, 0, none⟩ = some (.bool false) := by simp [World.cell?, hr]
    gi_wp2
    refine ⟨by simp, .inl ⟨_, _, rfl, run_takeDeferred hK, ?_⟩⟩
    refine ⟨.bool false, results_bool rfl _ rfl ?_, ?_, hb.trans (below_putObj _ _ _ (by omega))⟩
    · rw [World.cell?_of_block (w := W) (World.putObj_heap_other (by show w.heap.size + 1 + 1 ≠ D; omega))]
      exact gr
    · rw [hT.out]

theorem sameP_any (T U : Tm) (hsz : T.size ≤ 1000000) (S S' : Nat → Prop) (v u : Value) (w : World) (hv : Lies w S T v) (hu : Lies w S' U u) :
    Calls Tryd.prog 30 #[v, u] w fun e w' => e = .returned (.bool (eqB T U)) ∧ Below w.heap.size w w' :=
  sameP_of T U hsz _ v u w hv.is.inside hu.is.inside (fun _ h => h.2)

end Go.Proofs.YthkjdcmlalgphaaDoor
