/-
  How many words a term has: the sum over its parts.
-/
import Derived.Test.YteklhipcojioaaaDoorZRangeCells
import Derived.Shelf.RegionOpen
import Derived.Scope
namespace Go.Proofs.YteklhipcojioaaaDoor
open Go.RowKit Go.Deep Go.Shelf

attribute [local go_sem] Oper.semAt_some

/-- The words of parts. -/
def sumW : List Sh → Int
  | [] => 0
  | p :: r => ownW p.1 + sumW r
theorem sumW_append (a b : List Sh) : sumW (a ++ b) = sumW a + sumW b := by
  induction a with
  | nil => simp [sumW]
  | cons x a ih => simp only [List.cons_append, sumW, ih]; omega
theorem ownW_range (k : Int) : 1 ≤ ownW k ∧ ownW k ≤ 2 := by unfold ownW; split <;> omega
theorem sumW_range (a : List Sh) : 0 ≤ sumW a ∧ sumW a ≤ 2 * a.length := by
  induction a with
  | nil => simp [sumW]
  | cons x a ih =>
    have := ownW_range x.1
    simp only [sumW, List.length_cons]
    omega
theorem pre_length (T : Tm) : T.pre.length ≤ T.size := by
  induction T using Tm.induct with
  | h k n s l ih =>
    rw [Tm.pre_mk, Tm.size_mk]
    split
    · have : (pres l).length ≤ sizes l := by
        induction l with
        | nil => simp [pres]
        | cons t r ihr =>
          have h1 := ih t (by simp)
          have h2 := ihr (fun t ht => ih t (List.mem_cons_of_mem _ ht))
          simp only [pres, sizes, List.length_append]
          omega
      simp only [List.length_cons]
      omega
    · simp

/-- How many words a term has. -/
def Tm.words (T : Tm) : Int := sumW T.pre

theorem parts_in (n : Nat) (k nn : Int) (s : ByteArray) (a : Option Addr) (len cap : Nat) (w : World) :
    CallsIn Fence.wide n Tryd.prog 67 #[.agg #[.int .i64 k, .int .i64 nn, .string s, .slice a len cap]] w fun e w' =>
      e = .returned (.func (.func 80) #[] #[.pointer (some ⟨w.heap.size, 0, none⟩)]) ∧ w' = w.alloc (.cells #[.int .i64 k, .int .i64 nn, .string s, .slice a len cap] 32) := by
  refine callsIn_of_wp Tryd.func67 rfl trivial ?_ rfl
  simp only [Tryd.ntmps67, List.size_toArray, List.length_cons, List.length_nil, Nat.reduceAdd, Nat.reduceSub, Array.replicate_succ, Array.replicate_zero, List.push_toArray, List.append_toArray, List.nil_append, List.cons_append]
  gi_wp2
  go_ret
  exact ⟨rfl, rfl⟩

set_option maxHeartbeats 1000000 in
theorem parts_yields (n n₀ Bt : Nat) (S : Nat → Prop) (T : Tm) (k nn : Int) (s : ByteArray) (a : Option Addr) (len cap : Nat) (w : World) (hn : n₀ ≤ w.heap.size) (hS : ∀ b, S b → b < n₀) (hsh : 0 < n₀) (ht : ShapeTab w)
    (hv : Lies w S T (.agg #[.int .i64 k, .int .i64 nn, .string s, .slice a len cap])) (hbox : w.heap[Bt]? = some (.cells #[.int .i64 k, .int .i64 nn, .string s, .slice a len cap] 32)) :
    Yields Fence.wide n Tryd.prog 80 #[.pointer (some ⟨Bt, 0, none⟩)] (fun x : PV => #[.agg #[.int .i64 x.k, .int .i64 x.n, .string x.s, .slice x.a x.len x.cap]]) n₀
      (fun ys => ys.map PV.sh = T.pre) (fun ys => ys.map PV.sh <+: T.pre) T.pre.length w := by
  intro l J Jx W hW hJ hJx hY h0
  have hbW := (hW.block Bt (Array.getElem?_eq_some_iff.1 hbox).1).trans hbox
  obtain ⟨⟨g0, g1, g2, g3⟩, f0, f1, f2, f3⟩ := kept4 hbW (Below.refl _ _)
  have hc := into_in l n₀ W.heap.size T.pre.length S J Jx (Nat.le_trans hn hW.size) hJ hS hsh (fun m pre x W1 hj hz hl => yield_wide m (hY pre x W1 hj hz hl)) T.size T (Nat.le_refl _) (n - 1) _ [] W (hv.below hW) (ht.below hW) (Nat.le_refl _) h0 (by simp)
  refine callsIn_of_wp Tryd.func80 rfl trivial ?_ rfl
  simp only [Tryd.ntmps80, List.size_toArray, List.length_cons, List.length_nil, Nat.reduceAdd, Nat.reduceSub, Array.replicate_succ, Array.replicate_zero, List.push_toArray, List.append_toArray, List.nil_append, List.cons_append]
  gi_wp2_with (refine ⟨trivial, (fun h => (by cases h)), ?_⟩; gi_at_call 81; refine hc.mono ?_; clear hc; rintro e W1 (⟨rfl, ys, hys, hj, _⟩ | ⟨rfl, ys, hys, hj⟩))
  · go_end0
    exact ⟨⟨_, rfl⟩, .inl ⟨ys, hys, by simpa using hj⟩⟩
  · go_end0
    exact ⟨⟨_, rfl⟩, .inr ⟨ys, hys, by simpa using hj⟩⟩

end Go.Proofs.YteklhipcojioaaaDoor

/-
  Which terms may be, as the program tells it: each part fits, and they have no more words than may be.
-/
namespace Go.Proofs.YteklhipcojioaaaDoor
open Go.RowKit Go.Deep Go.Shelf

attribute [local go_sem] Oper.semAt_some

/-- Does a part fit? -/
def fitP (p : Sh) : Bool := fitB p.1 p.2.1 p.2.2.1.size p.2.2.2
def fitAll (l : List Sh) : Bool := l.all fitP
theorem fitAll_append (a b : List Sh) : fitAll (a ++ b) = (fitAll a && fitAll b) := by simp [fitAll]
/-- The length's word. -/
def longE (q : Int) : Int := if 65536 < q then 3 else 0
/-- What Check tells. -/
def Tm.check (T : Tm) : Int := if fitAll T.pre = true then longE T.words else 2
theorem longE_no {q : Int} (h : ¬ 65536 < q) : longE q = 0 := if_neg h
theorem longE_yes {q : Int} (h : 65536 < q) : longE q = 3 := if_pos h
theorem fitAll_prefix {a b : List Sh} (h : a <+: b) (ha : fitAll a = false) : fitAll b = false := by
  obtain ⟨c, rfl⟩ := h
  rw [fitAll_append, ha]
  rfl

/-- Three boxes more. -/
theorem new_block3 (w : World) (o o' o'' : Obj) : (((w.alloc o).alloc o').alloc o'').heap[w.heap.size + 2]? = some o'' := by
  have := heap_alloc_new ((w.alloc o).alloc o') o''
  rwa [World.size_alloc, World.size_alloc] at this
theorem old_block {w : World} {k : Nat} {o : Obj} (h : w.heap[k]? = some o) (o' : Obj) : (w.alloc o').heap[k]? = some o :=
  (Below.heap_alloc _ _ _ (Array.getElem?_eq_some_iff.1 h).1).trans h

set_option maxHeartbeats 4000000 in
set_option maxRecDepth 100000 in
theorem check_any (T : Tm) (hsz : T.size ≤ 1000000) (S : Nat → Prop) (v : Value) (w : World) (hv : Lies w S T v) (hS : ∀ b, S b → b < w.heap.size) (ht : ShapeTab w) :
    Calls Tryd.prog 51 #[v] w fun e w' => e = .returned (.int .i64 T.check) ∧ Below w.heap.size w w' := by
  refine (callsIn_wide (n := 9)).1 ?_
  obtain ⟨k, nn, s, li⟩ := T
  obtain ⟨a, cap, rfl, hs, hl⟩ := hv.out
  refine callsIn_of_wp_marks Tryd.func51 rfl trivial ?_ rfl
  simp only [Tryd.ntmps51, List.size_toArray, List.length_cons, List.length_nil, Nat.reduceAdd, Nat.reduceSub, Array.replicate_succ, Array.replicate_zero, List.push_toArray, List.append_toArray, List.nil_append, List.cons_append]
  gi_wp2
  refine wpIn_wide.2 (wp_scope_straight ((wpIn_wide (n := 9)).1 ?_))
  gi_wp2
  refine wpIn_label ?_
  gi_wp2_with (refine ⟨trivial, ?_⟩; gi_at_call 67; refine (parts_in _ _ _ _ _ _ _ _).mono ?_; rintro e w' ⟨rfl, rfl⟩)
  obtain ⟨w3, hw3⟩ : ∃ w3, (((w.alloc (.cells #[.int .i64 k, .int .i64 nn, .string s, .slice a li.length cap] 32)).alloc (.cells #[.int .i64 0] 3)).alloc (.cells #[.int .i64 0] 47)).alloc (.cells #[.int .i64 k, .int .i64 nn, .string s, .slice a li.length cap] 32) = w3 := ⟨_, rfl⟩
  rw [hw3]
  have hz3 : w3.heap.size = w.heap.size + 4 := by rw [← hw3]; simp
  have hb3 : Below w.heap.size w w3 := by rw [← hw3]; exact ((((Below.refl _ w).alloc (Nat.le_refl _) _).alloc (by simp) _).alloc (by simp; omega) _).alloc (by simp; omega) _
  have hbox : w3.heap[w.heap.size + 3]? = some (.cells #[.int .i64 k, .int .i64 nn, .string s, .slice a li.length cap] 32) := by
    rw [← hw3]
    have := heap_alloc_new (((w.alloc (.cells #[.int .i64 k, .int .i64 nn, .string s, .slice a li.length cap] 32)).alloc (.cells #[.int .i64 0] 3)).alloc (.cells #[.int .i64 0] 47)) (.cells #[.int .i64 k, .int .i64 nn, .string s, .slice a li.length cap] 32)
    rwa [World.size_alloc, World.size_alloc, World.size_alloc] at this
  have hsum : w3.heap[w.heap.size + 1]? = some (.cells #[.int .i64 0] 3) := by
    rw [← hw3]
    exact old_block (old_block (new_block2 _ _ _) _) _
  have herr : w3.heap[w.heap.size + 2]? = some (.cells #[.int .i64 0] 47) := by
    rw [← hw3]
    exact old_block (new_block3 _ _ _ _) _
  refine wpIn_range_cells rfl (by omega) (gf := 80) (lb := #[.pointer (some ⟨w.heap.size + 3, 0, none⟩)]) (by simp [Act.eval]) trivial (enters_of Tryd.func80 (by kernel_rfl) rfl)
    (parts_yields _ w.heap.size (w.heap.size + 3) S _ k nn s a li.length cap w3 (by omega) hS ht.size (ht.below hb3) (hv.below hb3) hbox) (by omega) (fun _ => rfl)
    (fun pre W => W.heap[w.heap.size + 1]? = some (.cells #[.int .i64 (sumW (pre.map PV.sh))] 3) ∧ W.heap[w.heap.size + 2]? = some (.cells #[.int .i64 (longE (sumW (pre.map PV.sh)))] 47) ∧ fitAll (pre.map PV.sh) = true ∧ Below w.heap.size w W)
    (fun c pre W => c = .exit 0 ∧ W.heap[w.heap.size + 2]? = some (.cells #[.int .i64 2] 47) ∧ fitAll (pre.map PV.sh) = false ∧ Below w.heap.size w W)
    (fun s A B hs hb => ⟨(hb.block _ (by omega)).trans hs.1, (hb.block _ (by omega)).trans hs.2.1, hs.2.2.1, hs.2.2.2.trans (hb.mono (by omega))⟩)
    (fun c s A B hs hb => ⟨hs.1, (hb.block _ (by omega)).trans hs.2.1, hs.2.2.1, hs.2.2.2.trans (hb.mono (by omega))⟩) ⟨hsum, herr, rfl, hb3⟩ ?round ?done ?stop
  case round =>
    rintro l pre x W rfl ⟨hc, he, hf, hb⟩ hlen hzW
    gi_wp2
    refine ⟨(Below.refl _ _).alloc (Nat.le_refl _) _, fun W2 hoth hz2 ⟨hc2, he2, _, hb2⟩ => ?_⟩
    rw [World.size_alloc] at hz2
    have hpb : W2.heap[W.heap.size]? = some (.cells #[.int .i64 x.k, .int .i64 x.n, .string x.s, .slice x.a x.len x.cap] 32) := (hoth _ (by omega)).trans (new_block _ _)
    obtain ⟨⟨g0, g1, g2, g3⟩, f0, f1, f2, f3⟩ := kept4 hpb (Below.refl _ _)
    have hq0 := (sumW_range (pre.map PV.sh)).1
    have hq1 := (sumW_range (pre.map PV.sh)).2
    have hpl := pre_length (Tm.mk k nn s li)
    rw [List.length_map] at hq1
    have hr0 := (ownW_range x.k).1
    have hr1 := (ownW_range x.k).2
    have hsum2 : Hid (sumW ((pre ++ [x]).map PV.sh) = sumW (pre.map PV.sh) + ownW x.k) := Hid.mk (by
      rw [List.map_append, sumW_append]
      simp [sumW, PV.sh])
    have hfit2 : Hid (fitAll ((pre ++ [x]).map PV.sh) = fitB x.k x.n x.s.size x.len) := Hid.mk (by
      rw [List.map_append, fitAll_append, hf]
      simp [fitAll, fitP, PV.sh])
    have hle : Hid (sumW (pre.map PV.sh) ≤ sumW (pre.map PV.sh) + ownW x.k) := Hid.mk (by omega)
    have htW := Hid.mk (fun W4 (h : Below w.heap.size w W4) => ownWords_any x.k W4 (ht.below h))
    have htF := Hid.mk (fun W4 (h : Below w.heap.size w W4) => fits_any x.k x.n x.s x.a x.len x.cap W4 (ht.below h) x.ok.n0 x.ok.n1 x.ok.s1 x.fit)
    generalize sumW (pre.map PV.sh) = q at hc hc2 he he2 hq0 hq1 hsum2 hle
    generalize ownW x.k = r at hr0 hr1 hsum2 htW hle
    generalize fitB x.k x.n x.s.size x.len = ff at hfit2 htF
    have gw : W2.cell? ⟨w.heap.size + 1, 0, none⟩ = some (.int .i64 q) := by simp [World.cell?, hc2]
    have fw : W2.frozen? ⟨w.heap.size + 1, 0, none⟩ = false := by simp [World.frozen?, hc2]
    have hlt1 : pre.length < 1000000 := by omega
    clear hpl hlen hc he g1 g2 g3 f0 f1 f2 f3 hf
    have hmx : Tryd.prog.follows .mixedOrders = true := by kernel_rfl
    gi_wp2
    gi_region_with_o (refine ⟨trivial, ?_⟩; gi_at_call 68; refine (CallsIn.inRound _ (callsIn_wide.2 (htW.out _ hb2.drew))).mono ?_; rintro e w' ⟨rfl, rfl⟩)
    all_goals
      rw [wrap_id (by omega) (by omega)]
      obtain ⟨W3, hW3⟩ : ∃ W3, (W2.setCell ⟨w.heap.size + 1, 0, none⟩ (.int .i64 (q + r))).drew = W3 := ⟨_, rfl⟩
      rw [hW3]
      have hs3 : Spares w.heap.size w3.heap.size W2 W3 := by rw [← hW3]; exact (Spares.setCell W2 (p := ⟨w.heap.size + 1, 0, none⟩) (Nat.le_succ _) (by show w.heap.size + 1 < w3.heap.size; omega) _).drew
      have hq3 : W3.heap[w.heap.size + 1]? = some (.cells #[.int .i64 (q + r)] 3) := by rw [← hW3]; exact set1_block hc2
      have he3 : W3.heap[w.heap.size + 2]? = some (.cells #[.int .i64 (longE q)] 47) := by rw [← hW3]; exact (Below.heap_setCell W2 ⟨w.heap.size + 1, 0, none⟩ _ _ (by simp)).trans he2
      have hp3 := (hs3.same _ (by omega) (by omega)).trans hpb
      have hb3' := hb2.trans hs3.low
      have hz33 := hs3.low.size
      obtain ⟨⟨g0, g1, g2, g3⟩, f0, f1, f2, f3⟩ := kept4 hp3 (Below.refl _ _)
      clear hW3 gw fw
    all_goals gi_wp2_with (refine ⟨trivial, ?_⟩; gi_at_call 69; refine (CallsIn.inRound _ (callsIn_wide.2 (htF.out _ hb3'))).mono ?_; rintro e W5 ⟨rfl, hb5⟩; have gq := (hb5.block _ (Array.getElem?_eq_some_iff.1 hq3).1).trans hq3; have ge := (hb5.block _ (Array.getElem?_eq_some_iff.1 he3).1).trans he3; have cq : W5.cell? ⟨w.heap.size + 1, 0, none⟩ = some (.int .i64 (q + r)) := (by simp [World.cell?, gq]); have ce : W5.cell? ⟨w.heap.size + 2, 0, none⟩ = some (.int .i64 (longE q)) := (by simp [World.cell?, ge]); have fe : W5.frozen? ⟨w.heap.size + 2, 0, none⟩ = false := (by simp [World.frozen?, ge]))
    all_goals
      have hs5 : Spares w.heap.size w3.heap.size W2 W5 := hs3.trans (Spares.below hb5 (by omega))
      have hbe : Below w.heap.size w W5 := hb3'.trans (hb5.mono (by omega))
      have hset : ∀ v, Spares w.heap.size w3.heap.size W2 (W5.setCell ⟨w.heap.size + 2, 0, none⟩ v) := fun v =>
        hs5.trans (Spares.setCell W5 (p := ⟨w.heap.size + 2, 0, none⟩) (by show w.heap.size ≤ w.heap.size + 2; omega) (by show w.heap.size + 2 < w3.heap.size; omega) v)
      have hbs : ∀ v, Below w.heap.size w (W5.setCell ⟨w.heap.size + 2, 0, none⟩ v) := fun v => hbe.setCell (p := ⟨w.heap.size + 2, 0, none⟩) (by show w.heap.size ≤ w.heap.size + 2; omega) v
    all_goals first
      | exact ⟨hset _, rfl, set1_block ge, by rw [hfit2.out]; simpa using (by assumption : (!ff) = true), hbs _⟩
      | exact ⟨hset _, by rw [hsum2.out]; exact (Below.heap_setCell W5 ⟨w.heap.size + 2, 0, none⟩ _ _ (by simp)).trans gq, by rw [hsum2.out, longE_yes (by assumption)]; exact set1_block ge, by rw [hfit2.out]; simpa using (by assumption : (!ff) = false), hbs _⟩
      | exact ⟨hs5, by rw [hsum2.out]; exact gq, by rw [hsum2.out, longE_no (by omega), ge, longE_no (by omega)], by rw [hfit2.out]; simpa using (by assumption : (!ff) = false), hbe⟩
  case done =>
    rintro D ys W hD hys ⟨hc, he, hf, hb⟩ hK
    rw [hys] at he hf
    have gw : W.cell? ⟨w.heap.size + 2, 0, none⟩ = some (.int .i64 (longE (sumW (Tm.mk k nn s li).pre))) := by simp [World.cell?, he]
    gi_wp2
    refine ⟨by simp, .inl ⟨_, _, rfl, run_takeDeferred hK, ?_⟩⟩
    refine ⟨_, results_tmp rfl _ _ _, ?_, hb.trans (below_putObj _ _ _ (by omega))⟩
    exact ret_int (by rw [Tm.check, if_pos hf]; rfl)
  case stop =>
    rintro D c pre W hD hpre ⟨rfl, he, hf, hb⟩ hK
    have gw : W.cell? ⟨w.heap.size + 2, 0, none⟩ = some (.int .i64 2) := by simp [World.cell?, he]
    have hno := fitAll_prefix hpre hf
    gi_wp2
    refine ⟨by simp, .inl ⟨_, _, rfl, run_takeDeferred hK, ?_⟩⟩
    refine ⟨_, results_tmp rfl _ _ _, ?_, hb.trans (below_putObj _ _ _ (by omega))⟩
    exact ret_int (by rw [Tm.check, hno]; rfl)

end Go.Proofs.YteklhipcojioaaaDoor

/-
  The document's answers on terms: which may be, how many words they have.
-/
namespace Go.Proofs.YteklhipcojioaaaDoor
open Go.RowKit Go.Deep

set_option maxHeartbeats 400000 in
theorem numbered_any (n : Int) (w : World) : Calls Tryd.prog 99 #[.int .i64 n] w fun e w' => e = .returned (.bool (decide (0 ≤ n ∧ n ≤ 1073741824))) ∧ w = w' := by
  go_enter Tryd.func99, Tryd.ntmps99
  go_wp2
  all_goals go_ret
  all_goals exact ⟨ret_bool (by simp; try omega), rfl⟩

set_option maxHeartbeats 4000000 in
theorem own_any (k n : Int) (s : ByteArray) (a : Option Addr) (len cap : Nat) (w : World) :
    Calls Tryd.prog 89 #[.agg #[.int .i64 k, .int .i64 n, .string s, .slice a len cap]] w fun e w' => e = .returned (.bool (fitB k n s.size len)) ∧ Below w.heap.size w w' := by
  have hse : s.toList = [] ↔ s.size = 0 := by
    rw [ByteArray.toList_eq, ← ByteArray.size_data, ← Array.length_toList, List.length_eq_zero_iff]
  obtain ⟨z, hz⟩ : ∃ z, s.size = z := ⟨_, rfl⟩
  rw [hz] at hse ⊢
  have hz' := Hid.mk hz
  clear hz
  have hk : (k = 1 ∨ k = 2 ∨ k = 3 ∨ k = 4 ∨ k = 5 ∨ k = 6 ∨ k = 7 ∨ k = 8 ∨ k = 9) ∨ ¬ (k = 1 ∨ k = 2 ∨ k = 3 ∨ k = 4 ∨ k = 5 ∨ k = 6 ∨ k = 7 ∨ k = 8 ∨ k = 9) := Classical.em _
  rcases hk with (rfl | rfl | rfl | rfl | rfl | rfl | rfl | rfl | rfl) | hk
  case inr =>
    have hno : Hid (fitB k n z len = false) := Hid.mk (by simp only [fitB, decide_eq_false_iff_not]; omega)
    have k1 : ¬ k = 1 := fun h => hk (by omega)
    have k2 : ¬ k = 2 := fun h => hk (by omega)
    have k3 : ¬ k = 3 := fun h => hk (by omega)
    have k4 : ¬ k = 4 := fun h => hk (by omega)
    have k5 : ¬ k = 5 := fun h => hk (by omega)
    have k6 : ¬ k = 6 := fun h => hk (by omega)
    have k7 : ¬ k = 7 := fun h => hk (by omega)
    have k8 : ¬ k = 8 := fun h => hk (by omega)
    have k9 : ¬ k = 9 := fun h => hk (by omega)
    clear hk hse
    go_enter Tryd.func89, Tryd.ntmps89
    go_wp2
    go_ret
    exact ⟨ret_bool hno.out.symm, (Below.refl _ _).alloc (Nat.le_refl _) _⟩
  all_goals
    by_cases h0 : z = 0
    · have he := hse.2 h0
      clear hse
      go_enter Tryd.func89, Tryd.ntmps89
      go_wp2_with (first | (go_at_call 99; refine (numbered_any _ _).mono ?_; rintro e w' ⟨rfl, rfl⟩) | fail)
      all_goals go_ret
      all_goals
        refine ⟨ret_bool ?_, (Below.refl _ _).alloc (Nat.le_refl _) _⟩
        have hz2 := hz'.out
        rw [Bool.eq_iff_iff]
        simp only [fitB, beq_iff_eq, decide_eq_true_eq, Bool.false_eq_true, false_iff, true_and, true_or, or_true]
        omega
    · have he : ¬ s.toList = [] := fun h => h0 (hse.1 h)
      clear hse
      go_enter Tryd.func89, Tryd.ntmps89
      go_wp2_with (first | (go_at_call 99; refine (numbered_any _ _).mono ?_; rintro e w' ⟨rfl, rfl⟩) | fail)
      all_goals go_ret
      all_goals
        refine ⟨ret_bool ?_, (Below.refl _ _).alloc (Nat.le_refl _) _⟩
        have hz2 := hz'.out
        rw [Bool.eq_iff_iff]
        simp only [fitB, beq_iff_eq, decide_eq_true_eq, Bool.false_eq_true, false_iff, true_and, true_or, or_true]
        omega

mutual
/-- May all parts of a term be? -/
def Tm.fits : Tm → Bool
  | .mk k n s l => fitB k n s.size l.length && fitss l
def fitss : List Tm → Bool
  | [] => true
  | t :: r => t.fits && fitss r
end
mutual
/-- How many words a term has, by definition. -/
def Tm.wordsR : Tm → Int
  | .mk k _ _ l => ownW k + (if hasL k = true then wordsRs l else 0)
def wordsRs : List Tm → Int
  | [] => 0
  | t :: r => t.wordsR + wordsRs r
end
theorem fits_mk (k n : Int) (s : ByteArray) (l : List Tm) : (Tm.mk k n s l).fits = (fitB k n s.size l.length && fitss l) := by rw [Tm.fits]
theorem wordsR_mk (k n : Int) (s : ByteArray) (l : List Tm) : (Tm.mk k n s l).wordsR = ownW k + (if hasL k = true then wordsRs l else 0) := by rw [Tm.wordsR]
theorem wordsRs_take (l : List Tm) (i : Nat) (hi : i < l.length) : wordsRs (l.take (i + 1)) = wordsRs (l.take i) + l[i].wordsR := by
  induction l generalizing i with
  | nil => cases hi
  | cons t r ih =>
    cases i with
    | zero => simp [wordsRs]
    | succ i =>
      have := ih i (by simpa using hi)
      simp only [List.take_succ_cons, wordsRs, List.getElem_cons_succ]
      omega
theorem fitss_take (l : List Tm) (i : Nat) (hi : i < l.length) : fitss (l.take (i + 1)) = (fitss (l.take i) && l[i].fits) := by
  induction l generalizing i with
  | nil => cases hi
  | cons t r ih =>
    cases i with
    | zero => simp [fitss]
    | succ i =>
      have := ih i (by simpa using hi)
      simp only [List.take_succ_cons, fitss, List.getElem_cons_succ, this, Bool.and_assoc]
theorem fitss_no (l : List Tm) (i : Nat) (hi : i < l.length) (h : l[i].fits = false) : fitss l = false := by
  induction l generalizing i with
  | nil => cases hi
  | cons t r ih =>
    cases i with
    | zero => rw [fitss]; simp only [List.getElem_cons_zero] at h; rw [h]; rfl
    | succ i =>
      have := ih i (by simpa using hi) (by simpa using h)
      rw [fitss, this, Bool.and_false]
/-- What has no parts that count has none, if it fits. -/
theorem fit_noL {k n : Int} {s len : Nat} (h : fitB k n s len = true) (hL : hasL k = false) : len = 0 := by
  have hL' := (hasL_not k).1 hL
  simp only [fitB, decide_eq_true_eq] at h
  omega
theorem words_pre (T : Tm) : T.words = T.wordsR := by
  induction T using Tm.induct with
  | h k n s l ih =>
    have hs : sumW (pres l) = wordsRs l := by
      induction l with
      | nil => rfl
      | cons t r ihr =>
        have h1 := ih t (by simp)
        have h2 := ihr (fun t ht => ih t (List.mem_cons_of_mem _ ht))
        simp only [pres, wordsRs, sumW_append, h2]
        rw [← h1]
        rfl
    rw [Tm.words, Tm.pre_mk, wordsR_mk]
    simp only [sumW]
    split
    · rw [hs]
    · simp [sumW]
theorem fits_pre (T : Tm) : fitAll T.pre = T.fits := by
  induction T using Tm.induct with
  | h k n s l ih =>
    have hs : fitAll (pres l) = fitss l := by
      induction l with
      | nil => rfl
      | cons t r ihr =>
        have h1 := ih t (by simp)
        have h2 := ihr (fun t ht => ih t (List.mem_cons_of_mem _ ht))
        simp only [pres, fitss, fitAll_append, h2, h1]
    rw [Tm.pre_mk, fits_mk]
    show (fitB k n s.size l.length && fitAll (if hasL k = true then pres l else [])) = _
    cases hL : hasL k
    · cases hf : fitB k n s.size l.length
      · rfl
      · have := fit_noL hf hL
        have hl : l = [] := List.eq_nil_of_length_eq_zero this
        subst hl
        simp [fitAll, fitss]
    · rw [if_pos rfl, hs]

end Go.Proofs.YteklhipcojioaaaDoor

/-
  The document's answers on terms, walked: parts, words, check.
-/
namespace Go.Proofs.YteklhipcojioaaaDoor
open Go.RowKit Go.Deep

set_option maxHeartbeats 1000000 in
theorem refparts_any (T : Tm) : ∀ (S : Nat → Prop) (v : Value) (w : World), Lies w S T v →
    Calls Tryd.prog 77 #[v] w fun e w' => e = .returned (.bool T.fits) ∧ Below w.heap.size w w' := by
  induction T using Tm.induct with
  | h k n s l ih0 =>
    intro S v w hv
    obtain ⟨a, cap, rfl, hs, hl⟩ := hv.out
    have ih := Hid.mk ih0
    clear ih0 hv
    have hlen : l.length ≤ 9223372036854775807 := Nat.le_trans hl.1 hl.2.1
    have hfm := Hid.mk (fits_mk k n s l)
    generalize (Tm.mk k n s l).fits = ff at hfm ⊢
    have hown := Hid.mk (fun w1 => own_any k n s a l.length cap w1)
    cases hfb : fitB k n s.size l.length with
    | false =>
      rw [hfb] at hown
      go_enter Tryd.func77, Tryd.ntmps77
      go_wp2_with (go_at_call 89; refine (hown.out _).mono ?_; rintro e w2 ⟨rfl, hb2⟩)
      go_ret
      exact ⟨ret_bool (by rw [hfm.out, hfb]; rfl), ((Below.refl _ _).alloc (Nat.le_refl _) _).trans (hb2.mono (by simp))⟩
    | true =>
      rw [hfb] at hown
      have hff : Hid (ff = fitss l) := Hid.mk (by rw [hfm.out, hfb]; rfl)
      clear hfm hfb
      go_enter Tryd.func77, Tryd.ntmps77
      go_wp2_with (go_at_call 89; refine (hown.out _).mono ?_; rintro e w1 ⟨rfl, hb2⟩; obtain ⟨⟨g0, g1, g2, hc3⟩, f0, f1, f2, f3⟩ := kept4 (new_block w _) hb2; have hb1 : Below w.heap.size w w1 := ((Below.refl _ _).alloc (Nat.le_refl _) _).trans (hb2.mono (by simp)))
      have hz : w.heap.size < w1.heap.size := by have := hb2.size; rw [World.size_alloc] at this; omega
      clear g0 g1 g2 f0 f1 f2 f3 hown
      have hl1 : Lst w1 S l a cap := hl.below hb1
      go_loopw [3] (fun ii wr => ∃ i : Nat, i ≤ l.length ∧ ii = .int .i64 i ∧ Hid (fitss (l.take i) = true) ∧ Below w1.heap.size w1 wr) (fun ii _ => l.length - (intOf ii).toNat)
      case atStart => exact ⟨0, Nat.zero_le _, rfl, Hid.mk (by simp [fitss]), Below.refl _ _⟩
      case round =>
        obtain ⟨i, hi, rfl, hq, hb⟩ := hrel
        have hw3 := (hb.cell (p := ⟨w.heap.size, 3, none⟩) (by show w.heap.size < w1.heap.size; omega)).trans hc3
        have hzr := hb.size
        have hbw : Below w.heap.size w wr := hb1.trans (hb.mono (by omega))
        by_cases hlt : i < l.length
        · obtain ⟨b, o, rfl, _, hr⟩ := (hl1.below hb).some (by omega)
          obtain ⟨k', n', s', m', a', cap', hT, c0, c1, c2, c3, hli⟩ := hr.part i hlt
          have hc := ih.out l[i] (List.getElem_mem hlt) S _ wr hli
          have hyes : Hid (l[i].fits = true → fitss (l.take (i + 1)) = true) := Hid.mk (fun h => by rw [fitss_take l i hlt, hq.out, h]; rfl)
          have hno : Hid (l[i].fits = false → ff = false) := Hid.mk (fun h => by rw [hff.out]; exact fitss_no l i hlt h)
          generalize l[i].fits = x at hc hyes hno
          clear hT hli
          go_wp2_with (go_at_call 77; refine hc.mono ?_; rintro e w2 ⟨rfl, hb2⟩)
          · go_ret
            exact ⟨ret_bool (hno.out (by simpa using (by assumption : (!x) = true))).symm, hbw.trans (hb2.mono (by omega))⟩
          · go_roundw
            case rel => exact ⟨i + 1, by omega, by go_num, Hid.mk (hyes.out (by simpa using (by assumption : (!x) = false))), hb.trans (hb2.mono hzr)⟩
            case measure => simp [intOf]; omega
        · go_wp2
          go_ret
          obtain rfl : i = l.length := by omega
          have := hq.out
          rw [List.take_length] at this
          exact ⟨ret_bool (by rw [hff.out, this]), hbw⟩

theorem wordsRs_le (l : List Tm) (i : Nat) : wordsRs (l.take i) ≤ wordsRs l ∧ 0 ≤ wordsRs (l.take i) := by
  have pos : ∀ t : Tm, 0 ≤ t.wordsR := fun t => by rw [← words_pre]; exact (sumW_range _).1
  induction l generalizing i with
  | nil => simp [wordsRs]
  | cons t r ih =>
    have ht := pos t
    cases i with
    | zero =>
      have := ih 0
      have h2 := ih r.length
      simp only [List.take_zero, wordsRs, List.take_length] at *
      omega
    | succ i =>
      have := ih i
      simp only [List.take_succ_cons, wordsRs]
      omega
theorem words_le (T : Tm) : 0 ≤ T.wordsR ∧ T.wordsR ≤ 2 * T.size := by
  rw [← words_pre]
  have h := sumW_range T.pre
  have h2 := pre_length T
  unfold Tm.words
  omega

set_option maxHeartbeats 1000000 in
theorem refwords_any (T : Tm) (hsz : T.size ≤ 1000000) : ∀ (S : Nat → Prop) (v : Value) (w : World), Lies w S T v →
    Calls Tryd.prog 78 #[v] w fun e w' => e = .returned (.int .i64 T.wordsR) ∧ Below w.heap.size w w' := by
  induction T using Tm.induct with
  | h k n s l ih0 =>
    intro S v w hv
    obtain ⟨a, cap, rfl, hs, hl⟩ := hv.out
    have hmk := Tm.size_mk k n s l
    have ih := Hid.mk (fun t ht => ih0 t ht (by
      obtain ⟨i, hi, rfl⟩ := List.getElem_of_mem ht
      have := sizes_at l i hi
      omega))
    have hwm := wordsR_mk k n s l
    clear ih0 hv
    have hlen : l.length ≤ 9223372036854775807 := Nat.le_trans hl.1 hl.2.1
    have hsl : wordsRs l ≤ 2000000 ∨ hasL k = false := by
      cases hL : hasL k
      · exact Or.inr rfl
      · have := (words_le (.mk k n s l)).2
        rw [hwm, hL, if_pos rfl] at this
        have h2 := ownW_range k
        exact Or.inl (by omega)
    rw [hwm]
    clear hwm hsz hmk
    cases hL : hasL k with
    | false =>
      have hLn := (hasL_not k).1 hL
      have k5 : (k == 5) = false := beq_eq_false_iff_ne.2 (fun h => hLn (by omega))
      have k7 : (k == 7) = false := beq_eq_false_iff_ne.2 (fun h => hLn (by omega))
      have k9 : (k == 9) = false := beq_eq_false_iff_ne.2 (fun h => hLn (by omega))
      have hr : Hid (ownW k + (if false = true then wordsRs l else 0) = 1) := Hid.mk (by simp only [ownW]; split <;> simp <;> omega)
      generalize ownW k + (if false = true then wordsRs l else 0) = r at hr ⊢
      clear hLn hL hsl
      go_enter Tryd.func78, Tryd.ntmps78
      go_wp2
      go_ret
      exact ⟨ret_int hr.out.symm, (Below.refl _ _).alloc (Nat.le_refl _) _⟩
    | true =>
      have hsl' : wordsRs l ≤ 2000000 := hsl.resolve_right (fun h => by rw [hL] at h; cases h)
      have hkk := (hasL_is k).1 hL
      have ho := ownW_range k
      have hif : (if true = true then wordsRs l else 0) = wordsRs l := if_pos rfl
      rw [hif]
      clear hsl hif
      have hkw : (k = 5 ∧ ownW k = 2) ∨ (k = 7 ∧ ownW k = 2) ∨ (k = 9 ∧ ownW k = 1) := by
        rcases hkk with rfl | rfl | rfl
        · exact Or.inl ⟨rfl, rfl⟩
        · exact Or.inr (Or.inl ⟨rfl, rfl⟩)
        · exact Or.inr (Or.inr ⟨rfl, rfl⟩)
      clear hkk hL
      generalize ownW k = r0 at ho hkw ⊢
      have hl0 := (wordsRs_le l l.length).2
      rw [List.take_length] at hl0
      generalize hres : r0 + wordsRs l = res
      have hre := Hid.mk hres
      clear hres
      rcases hkw with ⟨rfl, h0⟩ | ⟨rfl, h0⟩ | ⟨rfl, h0⟩
      all_goals
        have hr0 := Hid.mk h0
        clear ho h0
        go_enter Tryd.func78, Tryd.ntmps78
        go_wp2
        first
        | (obtain ⟨w1, hW1⟩ : ∃ w1, w.alloc (.cells #[.int .i64 5, .int .i64 n, .string s, .slice a l.length cap] 32) = w1 := ⟨_, rfl⟩; rw [hW1])
        | (obtain ⟨w1, hW1⟩ : ∃ w1, w.alloc (.cells #[.int .i64 7, .int .i64 n, .string s, .slice a l.length cap] 32) = w1 := ⟨_, rfl⟩; rw [hW1])
        | (obtain ⟨w1, hW1⟩ : ∃ w1, w.alloc (.cells #[.int .i64 9, .int .i64 n, .string s, .slice a l.length cap] 32) = w1 := ⟨_, rfl⟩; rw [hW1])
        have hz : w1.heap.size = w.heap.size + 1 := by rw [← hW1]; simp
        have hc3 : w1.cell? ⟨w.heap.size, 3, none⟩ = some (.slice a l.length cap) := by rw [← hW1]; exact new_cell w _ _ 3
        have hb1 : Below w.heap.size w w1 := by rw [← hW1]; exact (Below.refl _ _).alloc (Nat.le_refl _) _
        have hl1 : Lst w1 S l a cap := hl.below hb1
        clear hW1
        go_loopw [3, 4] (fun nn ii wr => ∃ (i : Nat) (q : Int), i ≤ l.length ∧ ii = .int .i64 i ∧ nn = .int .i64 q ∧ 0 ≤ q ∧ q ≤ 4000000 ∧ Hid (q = r0 + wordsRs (l.take i)) ∧ Below w1.heap.size w1 wr) (fun _ ii _ => l.length - (intOf ii).toNat)
        case atStart => exact ⟨0, r0, Nat.zero_le _, rfl, by rw [hr0.out], by rw [hr0.out]; decide, by rw [hr0.out]; decide, Hid.mk (by simp [wordsRs]), Below.refl _ _⟩
        case round =>
          obtain ⟨i, q, hi, rfl, rfl, q0, q1, hq, hb⟩ := hrel
          have hw3 := (hb.cell (p := ⟨w.heap.size, 3, none⟩) (by show w.heap.size < w1.heap.size; omega)).trans hc3
          have hzr := hb.size
          have hbw : Below w.heap.size w wr := hb1.trans (hb.mono (by omega))
          by_cases hlt : i < l.length
          · obtain ⟨b, o, rfl, _, hr⟩ := (hl1.below hb).some (by omega)
            obtain ⟨k', n', s', m', a', cap', hT, c0, c1, c2, c3, hli⟩ := hr.part i hlt
            have hc := ih.out l[i] (List.getElem_mem hlt) S _ wr hli
            have x0 := (words_le l[i]).1
            have hxt := wordsRs_take l i hlt
            have hxm := (wordsRs_le l (i + 1)).1
            have hx1 : q + l[i].wordsR ≤ 4000000 := by have := hq.out; have := hr0.out; omega
            have hxq : Hid (q + l[i].wordsR = r0 + wordsRs (l.take (i + 1))) := Hid.mk (by have := hq.out; omega)
            generalize l[i].wordsR = x at hc x0 hx1 hxq
            clear hT hli hxt hxm
            go_wp2_with (go_at_call 78; refine hc.mono ?_; rintro e w2 ⟨rfl, hb2⟩)
            go_roundw
            case rel => exact ⟨i + 1, q + x, by omega, by go_num, rfl, by omega, hx1, hxq, hb.trans (hb2.mono hzr)⟩
            case measure => simp [intOf]; omega
          · go_wp2
            go_ret
            obtain rfl : i = l.length := by omega
            have hqq := hq.out
            rw [List.take_length] at hqq
            exact ⟨ret_int (by rw [hqq, hre.out]), hbw⟩

end Go.Proofs.YteklhipcojioaaaDoor
