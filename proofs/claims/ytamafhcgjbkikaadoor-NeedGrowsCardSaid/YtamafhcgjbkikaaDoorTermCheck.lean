/-
  Which terms may be, as the program tells it: each part fits, and they have no more words than may be.
-/
import Derived.Test.YtamafhcgjbkikaaDoorTermWords
import Derived.Scope
namespace Go.Proofs.YtamafhcgjbkikaaDoor
open Go.RowKit Go.Deep Go.Shelf

attribute [local go_sem] Oper.semAt_some

/-- Does a part fit? -/
def fitP (p : Sh) : Bool := fitB p.1 p.2.1 p.2.2.1.size p.2.2.2
def fitAll (l : List Sh) : Bool := l.all fitP
theorem fitAll_append (a b : List Sh) : fitAll (a ++ b) = (fitAll a && fitAll b) := by simp [fitAll]
/-- The length's word. -/
def longE (q : Int) : Int := if 65536 < q then 3 else 0
/-- What Check tells. -/
def Tm.check (T : Tm) : Int := if fitAll T.pre = true then longE T.words else 2
theorem longE_no {q : Int} (h : ¬ 65536 < q) : longE q = 0 := if_neg h
theorem longE_yes {q : Int} (h : 65536 < q) : longE q = 3 := if_pos h
theorem fitAll_prefix {a b : List Sh} (h : a <+: b) (ha : fitAll a = false) : fitAll b = false := by
  obtain ⟨c, rfl⟩ := h
  rw [fitAll_append, ha]
  rfl

/-- Three boxes more. -/
theorem new_block3 (w : World) (o o' o'' : Obj) : (((w.alloc o).alloc o').alloc o'').heap[w.heap.size + 2]? = some o'' := by
  have := heap_alloc_new ((w.alloc o).alloc o') o''
  rwa [World.size_alloc, World.size_alloc] at this
theorem old_block {w : World} {k : Nat} {o : Obj} (h : w.heap[k]? = some o) (o' : Obj) : (w.alloc o').heap[k]? = some o :=
  (Below.heap_alloc _ _ _ (Array.getElem?_eq_some_iff.1 h).1).trans h

set_option maxHeartbeats 4000000 in
set_option maxRecDepth 100000 in
theorem check_any (T : Tm) (hsz : T.size ≤ 1000000) (S : Nat → Prop) (v : Value) (w : World) (hv : Lies w S T v) (hS : ∀ b, S b → b < w.heap.size) (ht : ShapeTab w) :
    Calls Tryd.prog 33 #[v] w fun e w' => e = .returned (.int .i64 T.check) ∧ Below w.heap.size w w' := by
  refine (callsIn_wide (n := 9)).1 ?_
  obtain ⟨k, nn, s, li⟩ := T
  obtain ⟨a, cap, rfl, hs, hl⟩ := hv.out
  refine callsIn_of_wp_marks Tryd.func33 rfl trivial ?_ rfl
  simp only [Tryd.ntmps33, List.size_toArray, List.length_cons, List.length_nil, Nat.reduceAdd, Nat.reduceSub, Array.replicate_succ, Array.replicate_zero, List.push_toArray, List.append_toArray, List.nil_append, List.cons_append]
  gi_wp2
  refine wpIn_wide.2 (wp_scope_straight ((wpIn_wide (n := 9)).1 ?_))
  gi_wp2
  refine wpIn_label ?_
  gi_wp2_with (refine ⟨trivial, ?_⟩; gi_at_call 47; refine (parts_in _ _ _ _ _ _ _ _).mono ?_; rintro e w' ⟨rfl, rfl⟩)
  obtain ⟨w3, hw3⟩ : ∃ w3, (((w.alloc (.cells #[.int .i64 k, .int .i64 nn, .string s, .slice a li.length cap] 24)).alloc (.cells #[.int .i64 0] 3)).alloc (.cells #[.int .i64 0] 27)).alloc (.cells #[.int .i64 k, .int .i64 nn, .string s, .slice a li.length cap] 24) = w3 := ⟨_, rfl⟩
  rw [hw3]
  have hz3 : w3.heap.size = w.heap.size + 4 := by rw [← hw3]; simp
  have hb3 : Below w.heap.size w w3 := by rw [← hw3]; exact ((((Below.refl _ w).alloc (Nat.le_refl _) _).alloc (by simp) _).alloc (by simp; omega) _).alloc (by simp; omega) _
  have hbox : w3.heap[w.heap.size + 3]? = some (.cells #[.int .i64 k, .int .i64 nn, .string s, .slice a li.length cap] 24) := by
    rw [← hw3]
    have := heap_alloc_new (((w.alloc (.cells #[.int .i64 k, .int .i64 nn, .string s, .slice a li.length cap] 24)).alloc (.cells #[.int .i64 0] 3)).alloc (.cells #[.int .i64 0] 27)) (.cells #[.int .i64 k, .int .i64 nn, .string s, .slice a li.length cap] 24)
    rwa [World.size_alloc, World.size_alloc, World.size_alloc] at this
  have hsum : w3.heap[w.heap.size + 1]? = some (.cells #[.int .i64 0] 3) := by
    rw [← hw3]
    exact old_block (old_block (new_block2 _ _ _) _) _
  have herr : w3.heap[w.heap.size + 2]? = some (.cells #[.int .i64 0] 27) := by
    rw [← hw3]
    exact old_block (new_block3 _ _ _ _) _
  refine wpIn_range_cells rfl (by omega) (gf := 53) (lb := #[.pointer (some ⟨w.heap.size + 3, 0, none⟩)]) (by simp [Act.eval]) trivial (enters_of Tryd.func53 (by kernel_rfl) rfl)
    (parts_yields _ w.heap.size (w.heap.size + 3) S _ k nn s a li.length cap w3 (by omega) hS ht.size (ht.below hb3) (hv.below hb3) hbox) (by omega) (fun _ => rfl)
    (fun pre W => W.heap[w.heap.size + 1]? = some (.cells #[.int .i64 (sumW (pre.map PV.sh))] 3) ∧ W.heap[w.heap.size + 2]? = some (.cells #[.int .i64 (longE (sumW (pre.map PV.sh)))] 27) ∧ fitAll (pre.map PV.sh) = true ∧ Below w.heap.size w W)
    (fun c pre W => c = .exit 0 ∧ W.heap[w.heap.size + 2]? = some (.cells #[.int .i64 2] 27) ∧ fitAll (pre.map PV.sh) = false ∧ Below w.heap.size w W)
    (fun s A B hs hb => ⟨(hb.block _ (by omega)).trans hs.1, (hb.block _ (by omega)).trans hs.2.1, hs.2.2.1, hs.2.2.2.trans (hb.mono (by omega))⟩)
    (fun c s A B hs hb => ⟨hs.1, (hb.block _ (by omega)).trans hs.2.1, hs.2.2.1, hs.2.2.2.trans (hb.mono (by omega))⟩) ⟨hsum, herr, rfl, hb3⟩ ?round ?done ?stop
  case round =>
    rintro l pre x W rfl ⟨hc, he, hf, hb⟩ hlen hzW
    gi_wp2
    refine ⟨(Below.refl _ _).alloc (Nat.le_refl _) _, fun W2 hoth hz2 ⟨hc2, he2, _, hb2⟩ => ?_⟩
    rw [World.size_alloc] at hz2
    have hpb : W2.heap[W.heap.size]? = some (.cells #[.int .i64 x.k, .int .i64 x.n, .string x.s, .slice x.a x.len x.cap] 24) := (hoth _ (by omega)).trans (new_block _ _)
    obtain ⟨⟨g0, g1, g2, g3⟩, f0, f1, f2, f3⟩ := kept4 hpb (Below.refl _ _)
    have hq0 := (sumW_range (pre.map PV.sh)).1
    have hq1 := (sumW_range (pre.map PV.sh)).2
    have hpl := pre_length (Tm.mk k nn s li)
    rw [List.length_map] at hq1
    have hr0 := (ownW_range x.k).1
    have hr1 := (ownW_range x.k).2
    have hsum2 : Hid (sumW ((pre ++ [x]).map PV.sh) = sumW (pre.map PV.sh) + ownW x.k) := Hid.mk (by
      rw [List.map_append, sumW_append]
      simp [sumW, PV.sh])
    have hfit2 : Hid (fitAll ((pre ++ [x]).map PV.sh) = fitB x.k x.n x.s.size x.len) := Hid.mk (by
      rw [List.map_append, fitAll_append, hf]
      simp [fitAll, fitP, PV.sh])
    have hle : Hid (sumW (pre.map PV.sh) ≤ sumW (pre.map PV.sh) + ownW x.k) := Hid.mk (by omega)
    have htW := Hid.mk (fun W4 (h : Below w.heap.size w W4) => ownWords_any x.k W4 (ht.below h))
    have htF := Hid.mk (fun W4 (h : Below w.heap.size w W4) => fits_any x.k x.n x.s x.a x.len x.cap W4 (ht.below h) x.ok.n0 x.ok.n1 x.ok.s1 x.fit)
    generalize sumW (pre.map PV.sh) = q at hc hc2 he he2 hq0 hq1 hsum2 hle
    generalize ownW x.k = r at hr0 hr1 hsum2 htW hle
    generalize fitB x.k x.n x.s.size x.len = ff at hfit2 htF
    have gw : W2.cell? ⟨w.heap.size + 1, 0, none⟩ = some (.int .i64 q) := by simp [World.cell?, hc2]
    have fw : W2.frozen? ⟨w.heap.size + 1, 0, none⟩ = false := by simp [World.frozen?, hc2]
    have hlt1 : pre.length < 1000000 := by omega
    clear hpl hlen hc he g1 g2 g3 f0 f1 f2 f3 hf
    have hmx : Tryd.prog.follows .mixedOrders = true := by kernel_rfl
    gi_wp2
    gi_region_with_o (refine ⟨trivial, ?_⟩; gi_at_call 48; refine (CallsIn.inRound _ (callsIn_wide.2 (htW.out _ hb2.drew))).mono ?_; rintro e w' ⟨rfl, rfl⟩)
    all_goals
      rw [wrap_id (by omega) (by omega)]
      obtain ⟨W3, hW3⟩ : ∃ W3, (W2.setCell ⟨w.heap.size + 1, 0, none⟩ (.int .i64 (q + r))).drew = W3 := ⟨_, rfl⟩
      rw [hW3]
      have hs3 : Spares w.heap.size w3.heap.size W2 W3 := by rw [← hW3]; exact (Spares.setCell W2 (p := ⟨w.heap.size + 1, 0, none⟩) (Nat.le_succ _) (by show w.heap.size + 1 < w3.heap.size; omega) _).drew
      have hq3 : W3.heap[w.heap.size + 1]? = some (.cells #[.int .i64 (q + r)] 3) := by rw [← hW3]; exact set1_block hc2
      have he3 : W3.heap[w.heap.size + 2]? = some (.cells #[.int .i64 (longE q)] 27) := by rw [← hW3]; exact (Below.heap_setCell W2 ⟨w.heap.size + 1, 0, none⟩ _ _ (by simp)).trans he2
      have hp3 := (hs3.same _ (by omega) (by omega)).trans hpb
      have hb3' := hb2.trans hs3.low
      have hz33 := hs3.low.size
      obtain ⟨⟨g0, g1, g2, g3⟩, f0, f1, f2, f3⟩ := kept4 hp3 (Below.refl _ _)
      clear hW3 gw fw
    all_goals gi_wp2_with (refine ⟨trivial, ?_⟩; gi_at_call 49; refine (CallsIn.inRound _ (callsIn_wide.2 (htF.out _ hb3'))).mono ?_; rintro e W5 ⟨rfl, hb5⟩; have gq := (hb5.block _ (Array.getElem?_eq_some_iff.1 hq3).1).trans hq3; have ge := (hb5.block _ (Array.getElem?_eq_some_iff.1 he3).1).trans he3; have cq : W5.cell? ⟨w.heap.size + 1, 0, none⟩ = some (.int .i64 (q + r)) := (by simp [World.cell?, gq]); have ce : W5.cell? ⟨w.heap.size + 2, 0, none⟩ = some (.int .i64 (longE q)) := (by simp [World.cell?, ge]); have fe : W5.frozen? ⟨w.heap.size + 2, 0, none⟩ = false := (by simp [World.frozen?, ge]))
    all_goals
      have hs5 : Spares w.heap.size w3.heap.size W2 W5 := hs3.trans (Spares.below hb5 (by omega))
      have hbe : Below w.heap.size w W5 := hb3'.trans (hb5.mono (by omega))
      have hset : ∀ v, Spares w.heap.size w3.heap.size W2 (W5.setCell ⟨w.heap.size + 2, 0, none⟩ v) := fun v =>
        hs5.trans (Spares.setCell W5 (p := ⟨w.heap.size + 2, 0, none⟩) (by show w.heap.size ≤ w.heap.size + 2; omega) (by show w.heap.size + 2 < w3.heap.size; omega) v)
      have hbs : ∀ v, Below w.heap.size w (W5.setCell ⟨w.heap.size + 2, 0, none⟩ v) := fun v => hbe.setCell (p := ⟨w.heap.size + 2, 0, none⟩) (by show w.heap.size ≤ w.heap.size + 2; omega) v
    all_goals first
      | exact ⟨hset _, rfl, set1_block ge, by rw [hfit2.out]; simpa using (by assumption : (!ff) = true), hbs _⟩
      | exact ⟨hset _, by rw [hsum2.out]; exact (Below.heap_setCell W5 ⟨w.heap.size + 2, 0, none⟩ _ _ (by simp)).trans gq, by rw [hsum2.out, longE_yes (by assumption)]; exact set1_block ge, by rw [hfit2.out]; simpa using (by assumption : (!ff) = false), hbs _⟩
      | exact ⟨hs5, by rw [hsum2.out]; exact gq, by rw [hsum2.out, longE_no (by omega), ge, longE_no (by omega)], by rw [hfit2.out]; simpa using (by assumption : (!ff) = false), hbe⟩
  case done =>
    rintro D ys W hD hys ⟨hc, he, hf, hb⟩ hK
    rw [hys] at he hf
    have gw : W.cell? ⟨w.heap.size + 2, 0, none⟩ = some (.int .i64 (longE (sumW (Tm.mk k nn s li).pre))) := by simp [World.cell?, he]
    gi_wp2
    refine ⟨by simp, .inl ⟨_, _, rfl, run_takeDeferred hK, ?_⟩⟩
    refine ⟨_, results_tmp rfl _ _ _, ?_, hb.trans (below_putObj _ _ _ (by omega))⟩
    exact ret_int (by rw [Tm.check, if_pos hf]; rfl)
  case stop =>
    rintro D c pre W hD hpre ⟨rfl, he, hf, hb⟩ hK
    have gw : W.cell? ⟨w.heap.size + 2, 0, none⟩ = some (.int .i64 2) := by simp [World.cell?, he]
    have hno := fitAll_prefix hpre hf
    gi_wp2
    refine ⟨by simp, .inl ⟨_, _, rfl, run_takeDeferred hK, ?_⟩⟩
    refine ⟨_, results_tmp rfl _ _ _, ?_, hb.trans (below_putObj _ _ _ (by omega))⟩
    exact ret_int (by rw [Tm.check, hno]; rfl)

end Go.Proofs.YtamafhcgjbkikaaDoor
