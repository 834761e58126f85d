/-
  How many words a term has: the sum over its parts.
-/
import Derived.Test.YtamafhcgjbkikaaDoorTermInto
import Derived.Shelf.RegionOpen
namespace Go.Proofs.YtamafhcgjbkikaaDoor
open Go.RowKit Go.Deep Go.Shelf

attribute [local go_sem] Oper.semAt_some

/-- The words of parts. -/
def sumW : List Sh → Int
  | [] => 0
  | p :: r => ownW p.1 + sumW r
theorem sumW_append (a b : List Sh) : sumW (a ++ b) = sumW a + sumW b := by
  induction a with
  | nil => simp [sumW]
  | cons x a ih => simp only [List.cons_append, sumW, ih]; omega
theorem ownW_range (k : Int) : 1 ≤ ownW k ∧ ownW k ≤ 2 := by unfold ownW; split <;> omega
theorem sumW_range (a : List Sh) : 0 ≤ sumW a ∧ sumW a ≤ 2 * a.length := by
  induction a with
  | nil => simp [sumW]
  | cons x a ih =>
    have := ownW_range x.1
    simp only [sumW, List.length_cons]
    omega
theorem pre_length (T : Tm) : T.pre.length ≤ T.size := by
  induction T using Tm.induct with
  | h k n s l ih =>
    rw [Tm.pre_mk, Tm.size_mk]
    split
    · have : (pres l).length ≤ sizes l := by
        induction l with
        | nil => simp [pres]
        | cons t r ihr =>
          have h1 := ih t (by simp)
          have h2 := ihr (fun t ht => ih t (List.mem_cons_of_mem _ ht))
          simp only [pres, sizes, List.length_append]
          omega
      simp only [List.length_cons]
      omega
    · simp

/-- How many words a term has. -/
def Tm.words (T : Tm) : Int := sumW T.pre

theorem parts_in (n : Nat) (k nn : Int) (s : ByteArray) (a : Option Addr) (len cap : Nat) (w : World) :
    CallsIn Fence.wide n Tryd.prog 47 #[.agg #[.int .i64 k, .int .i64 nn, .string s, .slice a len cap]] w fun e w' =>
      e = .returned (.func (.func 53) #[] #[.pointer (some ⟨w.heap.size, 0, none⟩)]) ∧ w' = w.alloc (.cells #[.int .i64 k, .int .i64 nn, .string s, .slice a len cap] 24) := by
  refine callsIn_of_wp Tryd.func47 rfl trivial ?_ rfl
  simp only [Tryd.ntmps47, List.size_toArray, List.length_cons, List.length_nil, Nat.reduceAdd, Nat.reduceSub, Array.replicate_succ, Array.replicate_zero, List.push_toArray, List.append_toArray, List.nil_append, List.cons_append]
  gi_wp2
  go_ret
  exact ⟨rfl, rfl⟩

set_option maxHeartbeats 1000000 in
theorem parts_yields (n n₀ Bt : Nat) (S : Nat → Prop) (T : Tm) (k nn : Int) (s : ByteArray) (a : Option Addr) (len cap : Nat) (w : World) (hn : n₀ ≤ w.heap.size) (hS : ∀ b, S b → b < n₀) (hsh : 1 < n₀) (ht : ShapeTab w)
    (hv : Lies w S T (.agg #[.int .i64 k, .int .i64 nn, .string s, .slice a len cap])) (hbox : w.heap[Bt]? = some (.cells #[.int .i64 k, .int .i64 nn, .string s, .slice a len cap] 24)) :
    Yields Fence.wide n Tryd.prog 53 #[.pointer (some ⟨Bt, 0, none⟩)] (fun x : PV => #[.agg #[.int .i64 x.k, .int .i64 x.n, .string x.s, .slice x.a x.len x.cap]]) n₀
      (fun ys => ys.map PV.sh = T.pre) (fun ys => ys.map PV.sh <+: T.pre) T.pre.length w := by
  intro l J Jx W hW hJ hJx hY h0
  have hbW := (hW.block Bt (Array.getElem?_eq_some_iff.1 hbox).1).trans hbox
  obtain ⟨⟨g0, g1, g2, g3⟩, f0, f1, f2, f3⟩ := kept4 hbW (Below.refl _ _)
  have hc := into_in l n₀ W.heap.size T.pre.length S J Jx (Nat.le_trans hn hW.size) hJ hS hsh (fun m pre x W1 hj hz hl => yield_wide m (hY pre x W1 hj hz hl)) T.size T (Nat.le_refl _) (n - 1) _ [] W (hv.below hW) (ht.below hW) (Nat.le_refl _) h0 (by simp)
  refine callsIn_of_wp Tryd.func53 rfl trivial ?_ rfl
  simp only [Tryd.ntmps53, List.size_toArray, List.length_cons, List.length_nil, Nat.reduceAdd, Nat.reduceSub, Array.replicate_succ, Array.replicate_zero, List.push_toArray, List.append_toArray, List.nil_append, List.cons_append]
  gi_wp2_with (refine ⟨trivial, (fun h => (by cases h)), ?_⟩; gi_at_call 54; refine hc.mono ?_; clear hc; rintro e W1 (⟨rfl, ys, hys, hj, _⟩ | ⟨rfl, ys, hys, hj⟩))
  · go_end0
    exact ⟨⟨_, rfl⟩, .inl ⟨ys, hys, by simpa using hj⟩⟩
  · go_end0
    exact ⟨⟨_, rfl⟩, .inr ⟨ys, hys, by simpa using hj⟩⟩

set_option maxHeartbeats 2000000 in
set_option maxRecDepth 100000 in
theorem words_any (T : Tm) (hsz : T.size ≤ 1000000) (S : Nat → Prop) (v : Value) (w : World) (hv : Lies w S T v) (hS : ∀ b, S b → b < w.heap.size) (ht : ShapeTab w) :
    Calls Tryd.prog 34 #[v] w fun e w' => e = .returned (.int .i64 T.words) ∧ Below w.heap.size w w' := by
  refine (callsIn_wide (n := 9)).1 ?_
  obtain ⟨k, nn, s, li⟩ := T
  obtain ⟨a, cap, rfl, hs, hl⟩ := hv.out
  refine callsIn_of_wp_marks Tryd.func34 rfl trivial ?_ rfl
  simp only [Tryd.ntmps34, List.size_toArray, List.length_cons, List.length_nil, Nat.reduceAdd, Nat.reduceSub, Array.replicate_succ, Array.replicate_zero, List.push_toArray, List.append_toArray, List.nil_append, List.cons_append]
  gi_wp2_with (refine ⟨trivial, ?_⟩; gi_at_call 47; refine (parts_in _ _ _ _ _ _ _ _).mono ?_; rintro e w' ⟨rfl, rfl⟩)
  obtain ⟨w3, hw3⟩ : ∃ w3, ((w.alloc (.cells #[.int .i64 k, .int .i64 nn, .string s, .slice a li.length cap] 24)).alloc (.cells #[.int .i64 0] 3)).alloc (.cells #[.int .i64 k, .int .i64 nn, .string s, .slice a li.length cap] 24) = w3 := ⟨_, rfl⟩
  rw [hw3]
  have hz3 : w3.heap.size = w.heap.size + 3 := by rw [← hw3]; simp
  have hb3 : Below w.heap.size w w3 := by rw [← hw3]; exact (((Below.refl _ w).alloc (Nat.le_refl _) _).alloc (by simp) _).alloc (by simp; omega) _
  have hbox : w3.heap[w.heap.size + 2]? = some (.cells #[.int .i64 k, .int .i64 nn, .string s, .slice a li.length cap] 24) := by
    rw [← hw3]
    have := heap_alloc_new ((w.alloc (.cells #[.int .i64 k, .int .i64 nn, .string s, .slice a li.length cap] 24)).alloc (.cells #[.int .i64 0] 3)) (.cells #[.int .i64 k, .int .i64 nn, .string s, .slice a li.length cap] 24)
    rwa [World.size_alloc, World.size_alloc] at this
  have hsum : w3.heap[w.heap.size + 1]? = some (.cells #[.int .i64 0] 3) := by
    rw [← hw3]
    exact (Below.heap_alloc _ _ _ (by simp)).trans (new_block2 _ _ _)
  refine wpIn_range_cells rfl (by omega) (gf := 53) (lb := #[.pointer (some ⟨w.heap.size + 2, 0, none⟩)]) (by simp [Act.eval]) trivial (enters_of Tryd.func53 (by kernel_rfl) rfl)
    (parts_yields _ w.heap.size (w.heap.size + 2) S _ k nn s a li.length cap w3 (by omega) hS ht.size (ht.below hb3) (hv.below hb3) hbox) (by omega) (fun _ => rfl)
    (fun pre W => W.heap[w.heap.size + 1]? = some (.cells #[.int .i64 (sumW (pre.map PV.sh))] 3) ∧ Below w.heap.size w W) (fun _ _ _ => False)
    (fun s A B hs hb => ⟨(hb.block _ (by omega)).trans hs.1, hs.2.trans (hb.mono (by omega))⟩) (fun _ _ _ _ hs _ => hs) ⟨hsum, hb3⟩ ?round ?done ?stop
  case round =>
    rintro l pre x W rfl ⟨hc, hb⟩ hlen hzW
    gi_wp2
    refine ⟨(Below.refl _ _).alloc (Nat.le_refl _) _, fun W2 hoth hz2 ⟨hc2, hb2⟩ => ?_⟩
    rw [World.size_alloc] at hz2
    have hpb : W2.heap[W.heap.size]? = some (.cells #[.int .i64 x.k, .int .i64 x.n, .string x.s, .slice x.a x.len x.cap] 24) := (hoth _ (by omega)).trans (new_block _ _)
    obtain ⟨⟨g0, g1, g2, g3⟩, f0, f1, f2, f3⟩ := kept4 hpb (Below.refl _ _)
    have hq0 := (sumW_range (pre.map PV.sh)).1
    have hq1 := (sumW_range (pre.map PV.sh)).2
    have hpl := pre_length (Tm.mk k nn s li)
    rw [List.length_map] at hq1
    have hr0 := (ownW_range x.k).1
    have hr1 := (ownW_range x.k).2
    have hsum2 : Hid (sumW ((pre ++ [x]).map PV.sh) = sumW (pre.map PV.sh) + ownW x.k) := Hid.mk (by
      rw [List.map_append, sumW_append]
      simp [sumW, PV.sh])
    have htW := Hid.mk (fun W4 (h : Below w.heap.size w W4) => ownWords_any x.k W4 (ht.below h))
    generalize sumW (pre.map PV.sh) = q at hc hc2 hq0 hq1 hsum2
    generalize ownW x.k = r at hr0 hr1 hsum2 htW
    have gw : W2.cell? ⟨w.heap.size + 1, 0, none⟩ = some (.int .i64 q) := by simp [World.cell?, hc2]
    have fw : W2.frozen? ⟨w.heap.size + 1, 0, none⟩ = false := by simp [World.frozen?, hc2]
    have hlt1 : pre.length < 1000000 := by omega
    clear hpl hlen hc g1 g2 g3 f0 f1 f2 f3
    have hmx : Tryd.prog.follows .mixedOrders = true := by kernel_rfl
    gi_wp2
    gi_region_with_o (refine ⟨trivial, ?_⟩; gi_at_call 48; refine (CallsIn.inRound _ (callsIn_wide.2 (htW.out _ hb2.drew))).mono ?_; rintro e w' ⟨rfl, rfl⟩)
    all_goals gi_wp2
    all_goals
      rw [wrap_id (by omega) (by omega)]
      exact ⟨(Spares.setCell W2 (p := ⟨w.heap.size + 1, 0, none⟩) (Nat.le_succ _) (by show w.heap.size + 1 < w3.heap.size; omega) _).drew,
        by rw [hsum2.out]; exact set1_block hc2, (hb2.setCell (p := ⟨w.heap.size + 1, 0, none⟩) (Nat.le_succ _) _).drew⟩
  case done =>
    rintro D ys W hD hys ⟨hc, hb⟩ hK
    rw [hys] at hc
    have gw : W.cell? ⟨w.heap.size + 1, 0, none⟩ = some (.int .i64 (sumW (Tm.mk k nn s li).pre)) := by simp [World.cell?, hc]
    gi_wp2
    refine ⟨by simp, .inl ⟨_, _, rfl, run_takeDeferred hK, ?_⟩⟩
    exact ⟨_, results_tmp rfl _ _ _, rfl, hb.trans (below_putObj _ _ _ (by omega))⟩
  case stop =>
    rintro D c pre W _ _ h _
    exact h.elim

end Go.Proofs.YtamafhcgjbkikaaDoor
