/-
  Lists made of terms, as the program makes them.
-/
import Derived.Test.YtnbekfpkmebmbaaGreatDoorZTermMore
import Derived.Test.YtnbekfpkmebmbaaGreatDoorZTermWords
import Derived.Test.YtnbekfpkmebmbaaGreatDoorZRangeCells
namespace Go.Proofs.YtnbekfpkmebmbaaGreatDoor
open Go.RowKit Go.Deep Go.Shelf

attribute [local go_sem] Oper.semAt_some

/-- An item, as a body is handed it. -/
structure HV (w : World) (S : Nat → Prop) where
  i : Nat
  t : Tm
  k : Int
  n : Int
  s : ByteArray
  a : Option Addr
  len : Nat
  cap : Nat
  lies : Lies w S t (.agg #[.int .i64 k, .int .i64 n, .string s, .slice a len cap])

theorem backward_in (n : Nat) (a : Option Addr) (len cap : Nat) (w : World) :
    CallsIn Fence.wide n Tryz.prog 88 #[.slice a len cap] w fun e w' =>
      e = .returned (.func (.func 100) #[] #[.pointer (some ⟨w.heap.size, 0, none⟩)]) ∧ w' = w.alloc (.cells #[.slice a len cap] 22) := by
  refine callsIn_of_wp Tryz.func88 rfl trivial ?_ rfl
  simp only [Tryz.ntmps88, List.size_toArray, List.length_cons, List.length_nil, Nat.reduceAdd, Nat.reduceSub, Array.replicate_succ, Array.replicate_zero, List.push_toArray, List.append_toArray, List.nil_append, List.cons_append]
  gi_wp2
  go_ret
  exact ⟨rfl, rfl⟩

set_option maxHeartbeats 1000000 in
set_option maxRecDepth 100000 in
theorem backward_yields (n Bt : Nat) (S : Nat → Prop) (l : List Tm) (a : Option Addr) (cap : Nat) (w : World) (hl : Lst w S l a cap) :
    YieldsQ (fun W1 => W1.heap[Bt]? = some (.cells #[.slice a l.length cap] 22) ∧ ∀ b o v, S b → w.cell? ⟨b, o, none⟩ = some v → W1.cell? ⟨b, o, none⟩ = some v) Fence.wide n Tryz.prog 100 #[.pointer (some ⟨Bt, 0, none⟩)]
      (fun x : HV w S => #[.int .i64 x.i, .agg #[.int .i64 x.k, .int .i64 x.n, .string x.s, .slice x.a x.len x.cap]]) (fun ys => ys.map (·.t) = l.reverse) l.length w := by
  intro lp J W hW hKp hY h0
  have hlen : l.length ≤ 9223372036854775807 := Nat.le_trans hl.1 hl.2.1
  have hcb : ∀ W1 : World, W1.heap[Bt]? = some (.cells #[.slice a l.length cap] 22) → W1.cell? ⟨Bt, 0, none⟩ = some (.slice a l.length cap) := fun W1 h => by simp [World.cell?, h]
  have g0 := hcb _ (hKp _ _ h0).1
  refine callsIn_of_wp Tryz.func100 rfl trivial ?_ rfl
  simp only [Tryz.ntmps100, List.size_toArray, List.length_cons, List.length_nil, Nat.reduceAdd, Nat.reduceSub, Array.replicate_succ, Array.replicate_zero, List.push_toArray, List.append_toArray, List.nil_append, List.cons_append]
  gi_wp2
  gi_loopw [3] (fun ii wr => ∃ (i : Nat) (j : Int) (zs : List (HV w S)), i ≤ l.length ∧ ii = .int .i64 j ∧ j = (i : Int) - 1 ∧ Hid (zs.map (·.t) = (l.drop i).reverse) ∧ Hid (zs.length = l.length - i) ∧ J zs wr) (fun ii _ => (intOf ii + 1).toNat)
  case atStart => exact ⟨l.length, _, [], Nat.le_refl _, rfl, rfl, Hid.mk (by simp), Hid.mk (by simp), h0⟩
  case round =>
    obtain ⟨i, j, zs, hi, rfl, hj, hzs, hzl, hJr⟩ := hrel
    have hkp := hKp _ _ hJr
    have g1 := hcb _ hkp.1
    by_cases hj0 : 0 ≤ j
    · obtain ⟨i0, rfl⟩ := Int.eq_ofNat_of_zero_le hj0
      obtain rfl : i = i0 + 1 := by omega
      have hlt : i0 < l.length := hi
      obtain ⟨b, o, rfl, hSb, hr⟩ := hl.some (by omega)
      obtain ⟨k2, n2, s2, m2, a2, cap2, hT, c0, c1, c2, c3, hli⟩ := hr.part i0 hlt
      have d0 := hkp.2 _ _ _ hSb c0
      have d1 := hkp.2 _ _ _ hSb c1
      have d2 := hkp.2 _ _ _ hSb c2
      have d3 := hkp.2 _ _ _ hSb c3
      obtain ⟨x, hx⟩ : ∃ x : HV w S, x = ⟨i0, l[i0], k2, n2, s2, a2, m2.length, cap2, hli⟩ := ⟨_, rfl⟩
      have hy0 := hY zs x wr hJr (by rw [hzl.out]; omega)
      have hxt : Hid (x.t = l[i0]) := Hid.mk (by rw [hx])
      have hxv : (#[.int .i64 x.i, .agg #[.int .i64 x.k, .int .i64 x.n, .string x.s, .slice x.a x.len x.cap]] : Array Value) = #[.int .i64 i0, .agg #[.int .i64 k2, .int .i64 n2, .string s2, .slice a2 m2.length cap2]] := by rw [hx]
      rw [hxv] at hy0
      clear hx hxv hT hli c0 c1 c2 c3 hj hkp
      obtain ⟨fn, tmps, assign, body, hy, hR⟩ := hy0
      gi_wp2
      refine ⟨fun h => (by cases h), hR.mono ?_⟩
      clear hR hy
      rintro e W3 ⟨rfl, hJ3⟩
      gi_wp2
      go_roundw
      case rel => exact ⟨i0, _, zs ++ [x], by omega, by go_num, rfl, Hid.mk (by rw [List.map_append, hzs.out, List.drop_eq_getElem_cons hlt, List.reverse_cons]; simp [hxt.out]), Hid.mk (by rw [List.length_append, hzl.out]; simp; omega), hJ3⟩
      case measure => simp [intOf]
    · obtain rfl : i = 0 := by omega
      have hdj : decide (0 ≤ j) = false := decide_eq_false hj0
      clear hj
      gi_wp2
      go_end0
      exact ⟨⟨_, rfl⟩, zs, by simpa using hzs.out, hJr⟩

/-- What holds between two rounds. -/
def ListI (w w3 : World) (S : Nat → Prop) (l : List Tm) (a : Option Addr) (cap : Nat) (T : Tm) (ts : List Tm) (W : World) : Prop :=
  (∃ k n s m a1 m1, W.heap[w.heap.size]? = some (.cells #[.int .i64 k, .int .i64 n, .string s, .slice a1 m m1] 24) ∧ Hid (Lies W (fun b => S b ∨ w3.heap.size + 1 < b) (conses ts.reverse T) (.agg #[.int .i64 k, .int .i64 n, .string s, .slice a1 m m1]))) ∧
    W.heap[w.heap.size + 1]? = some (.cells #[.int .i64 0, .int .i64 0, .string ⟨#[]⟩, .slice none 0 0] 24) ∧ W.heap[w.heap.size + 2]? = some (.cells #[.slice a l.length cap] 22) ∧
    (∀ b o v, S b → w3.cell? ⟨b, o, none⟩ = some v → W.cell? ⟨b, o, none⟩ = some v) ∧ Below w.heap.size w W

theorem ListI.other {w w3 : World} {S : Nat → Prop} {l : List Tm} {a : Option Addr} {cap : Nat} {T : Tm} {ts : List Tm} {A B : World} (hz3 : w3.heap.size = w.heap.size + 3) (hS : ∀ b, S b → b < w.heap.size) (h : ListI w w3 S l a cap T ts A)
    (hk : ∀ k, k ≠ w3.heap.size + 1 → k < A.heap.size → B.heap[k]? = A.heap[k]?) (hb : Below w.heap.size w B) : ListI w w3 S l a cap T ts B := by
  obtain ⟨⟨k, n, s, m, a1, m1, hx, hL⟩, hr, hs, hc, _⟩ := h
  have hlt : ∀ {k : Nat} {o : Obj}, A.heap[k]? = some o → k < A.heap.size := fun h => (Array.getElem?_eq_some_iff.1 h).1
  have hcell : ∀ (b o : Nat) (v : Value), b ≠ w3.heap.size + 1 → A.cell? ⟨b, o, none⟩ = some v → B.cell? ⟨b, o, none⟩ = some v := fun b o v hn hc => by
    rw [World.cell?_of_block (w := A) (a := ⟨b, o, none⟩) (hk b hn (World.block_lt_of_cell? A ⟨b, o, none⟩ hc))]
    exact hc
  refine ⟨⟨k, n, s, m, a1, m1, (hk _ (by omega) (hlt hx)).trans hx, Hid.mk ?_⟩, (hk _ (by omega) (hlt hr)).trans hr, (hk _ (by omega) (hlt hs)).trans hs, fun b o v hb hw => hcell b o v (by have := hS b hb; omega) (hc b o v hb hw), hb⟩
  exact hL.out.move (fun _ h => h) (fun b o v hb hw => hcell b o v (by rcases hb with h | h <;> first | (have g := hS b h; omega) | omega) hw) _ _

theorem cons_step2 {wr : World} {S : Nat → Prop} {x : Nat} {t r : Tm} {h0 h1 h2 h3 t0 t1 t2 t3 u0 u1 u2 u3 : Value} {ty : TypeId} (hx : ¬ S x) (hn : S wr.heap.size) (hbox : wr.heap[x]? = some (.cells #[u0, u1, u2, u3] ty))
    (ht : Lies wr S t (.agg #[h0, h1, h2, h3])) (hr : Lies wr S r (.agg #[t0, t1, t2, t3])) :
    let W := (((((wr.alloc (.cells #[h0, h1, h2, h3, t0, t1, t2, t3] 24)).setCell ⟨x, 0, none⟩ (.int .i64 9)).setCell ⟨x, 1, none⟩ (.int .i64 0)).setCell ⟨x, 2, none⟩ (.string ⟨#[]⟩)).setCell ⟨x, 3, none⟩ (.slice (some ⟨wr.heap.size, 0, none⟩) 2 2))
    W.heap[x]? = some (.cells #[.int .i64 9, .int .i64 0, .string ⟨#[]⟩, .slice (some ⟨wr.heap.size, 0, none⟩) 2 2] ty) ∧ (∀ k, k < wr.heap.size → k ≠ x → W.heap[k]? = wr.heap[k]?) ∧
      Lies W S (.mk 9 0 ⟨#[]⟩ [t, r]) (.agg #[.int .i64 9, .int .i64 0, .string ⟨#[]⟩, .slice (some ⟨wr.heap.size, 0, none⟩) 2 2]) ∧ W.heap.size = wr.heap.size + 1 := by
  intro W
  have hxr : x < wr.heap.size := (Array.getElem?_eq_some_iff.1 hbox).1
  have hX : W.heap[x]? = some (.cells #[.int .i64 9, .int .i64 0, .string ⟨#[]⟩, .slice (some ⟨wr.heap.size, 0, none⟩) 2 2] ty) := set4_block (old_block hbox _)
  have hO : ∀ k, k ≠ x → W.heap[k]? = (wr.alloc (.cells #[h0, h1, h2, h3, t0, t1, t2, t3] 24)).heap[k]? := fun k hk => set4_heap _ _ _ _ _ _ _ hk
  have hZ : W.heap.size = wr.heap.size + 1 := (set4_size _ _ _ _ _ _).trans (World.size_alloc _ _)
  clear_value W
  have hnew := (hO wr.heap.size (by omega)).trans (new_block wr _)
  have hoth : ∀ k, k < wr.heap.size → k ≠ x → W.heap[k]? = wr.heap[k]? := fun k hk hn => (hO k hn).trans (Below.heap_alloc _ _ _ hk)
  have hcell : ∀ (b o : Nat) (v : Value), S b → wr.cell? ⟨b, o, none⟩ = some v → W.cell? ⟨b, o, none⟩ = some v := fun b o v hb hc => by
    rw [World.cell?_of_block (w := wr) (a := ⟨b, o, none⟩) (hoth b (World.block_lt_of_cell? wr ⟨b, o, none⟩ hc) (fun e => hx (e ▸ hb)))]
    exact hc
  exact ⟨hX, hoth, cons_lies hnew hn (ht.move (fun _ h => h) hcell _ _) (hr.move (fun _ h => h) hcell _ _), hZ⟩

set_option maxHeartbeats 4000000 in
set_option maxRecDepth 100000 in
theorem makeList_of (l : List Tm) (_hlen : l.length ≤ 1000000) (T : Tm) (S : Nat → Prop) (a : Option Addr) (cap : Nat) (v : Value) (w : World) (hl : Lst w S l a cap) (hv : Lies w S T v) (hS : ∀ b, S b → b < w.heap.size) :
    Calls Tryz.prog 64 #[.slice a l.length cap, v] w fun e w' => Made S w (conses l T) e w' ∧ Below w.heap.size w w' := by
  refine (callsIn_wide (n := 9)).1 ?_
  obtain ⟨k, nn, s, a1, m1, cap1, rfl⟩ := hv.agg
  refine callsIn_of_wp_marks Tryz.func64 rfl trivial ?_ rfl
  simp only [Tryz.ntmps64, List.size_toArray, List.length_cons, List.length_nil, Nat.reduceAdd, Nat.reduceSub, Array.replicate_succ, Array.replicate_zero, List.push_toArray, List.append_toArray, List.nil_append, List.cons_append]
  gi_wp2_with (refine ⟨trivial, ?_⟩; gi_at_call 88; refine (backward_in _ _ _ _ _).mono ?_; rintro e w' ⟨rfl, rfl⟩)
  obtain ⟨w3, hw3⟩ : ∃ w3, ((w.alloc (.cells #[.int .i64 k, .int .i64 nn, .string s, .slice a1 m1 cap1] 24)).alloc (.cells #[.int .i64 0, .int .i64 0, .string ⟨#[]⟩, .slice none 0 0] 24)).alloc (.cells #[.slice a l.length cap] 22) = w3 := ⟨_, rfl⟩
  rw [hw3]
  have hz3 : w3.heap.size = w.heap.size + 3 := by rw [← hw3]; simp
  have hb3 : Up w w3 := by rw [← hw3]; exact (Up.refl w).alloc.alloc.alloc
  have hbox : w3.heap[w.heap.size]? = some (.cells #[.int .i64 k, .int .i64 nn, .string s, .slice a1 m1 cap1] 24) := by rw [← hw3]; exact old_block (new_block1 _ _ _) _
  have hres : w3.heap[w.heap.size + 1]? = some (.cells #[.int .i64 0, .int .i64 0, .string ⟨#[]⟩, .slice none 0 0] 24) := by rw [← hw3]; exact old_block (new_block2 _ _ _) _
  have hsl : w3.heap[w.heap.size + 2]? = some (.cells #[.slice a l.length cap] 22) := by rw [← hw3]; exact new_block3 _ _ _ _
  clear hw3
  refine wpIn_range_quiet rfl (by omega) (gf := 100) (lb := #[.pointer (some ⟨w.heap.size + 2, 0, none⟩)]) (by simp [Act.eval]) trivial (enters_of Tryz.func100 (by kernel_rfl) rfl)
    (backward_yields _ (w.heap.size + 2) S l a cap w3 (hl.below hb3.out)) (fun _ => rfl)
    (fun pre W => ListI w w3 S l a cap T (pre.map (·.t)) W) ?keep ?start ?kp ?round ?done
  case keep => exact fun pre A o h => h.other hz3 hS (fun k hk _ => World.putObj_heap_other hk) (h.2.2.2.2.trans (below_putObj _ _ _ (by omega)))
  case start =>
    intro W1 hW1
    have hk : ∀ {k : Nat} {o : Obj}, w3.heap[k]? = some o → W1.heap[k]? = some o := fun {k o} h => (hW1.block k (Array.getElem?_eq_some_iff.1 h).1).trans h
    exact ⟨⟨k, nn, s, m1, a1, cap1, hk hbox, Hid.mk (((hv.below hb3.out).below hW1).wider (fun b hb => Or.inl hb))⟩, hk hres, hk hsl, fun b o v _ hc => cell_below hW1 b o v hc, hb3.out.trans (hW1.mono (by omega))⟩
  case kp => exact fun pre W h => ⟨h.2.2.1, h.2.2.2.1⟩
  case round =>
    rintro lq pre x W rfl hI hlen2 hzW
    gi_wp2
    have hal : Below W.heap.size W (W.alloc (.cells #[.int .i64 x.k, .int .i64 x.n, .string x.s, .slice x.a x.len x.cap] 24)) := (Below.refl _ _).alloc (Nat.le_refl _) _
    refine ⟨hI.other hz3 hS (fun k _ hk => hal.block k hk) (hI.2.2.2.2.trans (hal.mono (by omega))), hal, fun W2 hoth hz2 hI2 => ?_⟩
    rw [World.size_alloc] at hz2
    have hpa : W2.heap[W.heap.size]? = some (.cells #[.int .i64 x.k, .int .i64 x.n, .string x.s, .slice x.a x.len x.cap] 24) := (hoth _ (by omega)).trans (new_block _ _)
    obtain ⟨⟨k', n', s', m', a', c', hx, hL⟩, hr, hs, hc, hb⟩ := hI2
    obtain ⟨⟨g0, g1, g2, g3⟩, f0, f1, f2, f3⟩ := kept4 hpa (Below.refl _ _)
    obtain ⟨⟨q0, q1, q2, q3⟩, p0, p1, p2, p3⟩ := kept4 hx (Below.refl _ _)
    have hxl : Hid (Lies W2 (fun b => S b ∨ w3.heap.size + 1 < b) x.t (.agg #[.int .i64 x.k, .int .i64 x.n, .string x.s, .slice x.a x.len x.cap])) := Hid.mk (x.lies.move (fun b hb => Or.inl hb) (fun b o v hb hw => hc b o v hb hw) _ _)
    obtain ⟨⟨r0, r1, r2, r3⟩, e0, e1, e2, e3⟩ := kept4 (old_block hx (.cells #[.int .i64 x.k, .int .i64 x.n, .string x.s, .slice x.a x.len x.cap, .int .i64 k', .int .i64 n', .string s', .slice a' m' c'] 24)) (Below.refl _ _)
    have hS1 : ¬ (S w.heap.size ∨ w3.heap.size + 1 < w.heap.size) := fun h => by
      rcases h with h | h
      · have := hS _ h; omega
      · omega
    have hst := Hid.mk (cons_step2 (S := fun b => S b ∨ w3.heap.size + 1 < b) hS1 (Or.inr (by omega)) hx hxl.out hL.out)
    rw [hz2] at hst
    gi_wp2
    obtain ⟨y1, y2, y3, y4⟩ := hst.out
    have hbel : Below w.heap.size w (((((W2.alloc (.cells #[.int .i64 x.k, .int .i64 x.n, .string x.s, .slice x.a x.len x.cap, .int .i64 k', .int .i64 n', .string s', .slice a' m' c'] 24)).setCell ⟨w.heap.size, 0, none⟩ (.int .i64 9)).setCell ⟨w.heap.size, 1, none⟩ (.int .i64 0)).setCell ⟨w.heap.size, 2, none⟩ (.string ⟨#[]⟩)).setCell ⟨w.heap.size, 3, none⟩ (.slice (some ⟨W.heap.size + 1, 0, none⟩) 2 2)) :=
      Below.set4 (hb.alloc (by omega) _) (Nat.le_refl _)
    refine ⟨⟨y2 _ (by omega) (by omega), y2 _ (by omega) (by omega), by omega⟩, ⟨_, _, _, _, _, _, y1, Hid.mk ?_⟩, (y2 _ (by omega) (by omega)).trans hr, (y2 _ (by omega) (by omega)).trans hs, fun b o v hb2 hw => ?_, hbel⟩
    · rw [List.map_append, List.map_singleton, List.reverse_append]
      exact y3
    · have hlt := hS b hb2
      rw [World.cell?_of_block (w := W2) (a := ⟨b, o, none⟩) (y2 b (by omega) (by omega))]
      exact hc b o v hb2 hw
  case done =>
    rintro D ys W rfl hys ⟨⟨k', n', s', m', a', c', hx, hL⟩, hr, hs, hc, hb⟩ hK
    obtain ⟨⟨q0, q1, q2, q3⟩, p0, p1, p2, p3⟩ := kept4 hx (Below.refl _ _)
    obtain ⟨⟨g0, g1, g2, g3⟩, f0, f1, f2, f3⟩ := kept4 hr (Below.refl _ _)
    rw [hys, List.reverse_reverse] at hL
    have hL' := Hid.mk hL.out
    clear hL
    gi_wp2
    have hblk := (set4_heap W (w.heap.size + 1) (.int .i64 k') (.int .i64 n') (.string s') (.slice a' m' c') w3.heap.size (by omega)).trans hK
    obtain ⟨v0, v1, v2, v3⟩ := stored4 (v0 := .int .i64 k') (v1 := .int .i64 n') (v2 := .string s') (v3 := .slice a' m' c') g0 g1 g2 g3
    have hbel : Below w.heap.size w ((((W.setCell ⟨w.heap.size + 1, 0, none⟩ (.int .i64 k')).setCell ⟨w.heap.size + 1, 1, none⟩ (.int .i64 n')).setCell ⟨w.heap.size + 1, 2, none⟩ (.string s')).setCell ⟨w.heap.size + 1, 3, none⟩ (.slice a' m' c')) := Below.set4 hb (Nat.le_succ _)
    have hoth : ∀ k, k ≠ w.heap.size + 1 → ((((W.setCell ⟨w.heap.size + 1, 0, none⟩ (.int .i64 k')).setCell ⟨w.heap.size + 1, 1, none⟩ (.int .i64 n')).setCell ⟨w.heap.size + 1, 2, none⟩ (.string s')).setCell ⟨w.heap.size + 1, 3, none⟩ (.slice a' m' c')).heap[k]? = W.heap[k]? := fun k hk => set4_heap _ _ _ _ _ _ _ hk
    generalize (((W.setCell ⟨w.heap.size + 1, 0, none⟩ (.int .i64 k')).setCell ⟨w.heap.size + 1, 1, none⟩ (.int .i64 n')).setCell ⟨w.heap.size + 1, 2, none⟩ (.string s')).setCell ⟨w.heap.size + 1, 3, none⟩ (.slice a' m' c') = wb at hblk v0 v1 v2 v3 hbel hoth ⊢
    have hput : ∀ k, k ≠ w3.heap.size → (wb.putObj w3.heap.size (.deferred none)).heap[k]? = wb.heap[k]? := fun k hk => World.putObj_heap_other hk
    have hc2 : ∀ (b o : Nat), b ≠ w3.heap.size → (wb.putObj w3.heap.size (.deferred none)).cell? ⟨b, o, none⟩ = wb.cell? ⟨b, o, none⟩ := fun b o hb => World.cell?_of_block (hput b hb)
    refine ⟨by simp, .inl ⟨_, _, rfl, run_takeDeferred hblk, ?_⟩⟩
    refine ⟨_, results_term (b := w.heap.size + 1) rfl _ rfl ((hc2 _ _ (by omega)).trans v0) ((hc2 _ _ (by omega)).trans v1) ((hc2 _ _ (by omega)).trans v2) ((hc2 _ _ (by omega)).trans v3), ⟨_, rfl, ?_⟩, hbel.trans (below_putObj _ _ _ (by omega))⟩
    refine hL'.out.move (fun b hb => hb.imp (fun h => h) (fun h => by omega)) (fun b o v hb hc => ?_) _ _
    have hne : b ≠ w3.heap.size ∧ b ≠ w.heap.size + 1 := by
      rcases hb with h | h
      · have := hS b h; omega
      · omega
    rw [hc2 b o hne.1, World.cell?_of_block (w := W) (a := ⟨b, o, none⟩) (hoth b hne.2)]
    exact hc

/-- What MakeList makes: a list of these, with this end. -/
theorem makeList_any (l : List Tm) (hlen : l.length ≤ 1000000) (T : Tm) (S S' : Nat → Prop) (a : Option Addr) (cap : Nat) (v : Value) (w : World) (hl : Lst w S l a cap) (hv : Lies w S' T v) :
    Calls Tryz.prog 64 #[.slice a l.length cap, v] w fun e w' => (∃ v', e = .returned v' ∧ Is w' (conses l T) v') ∧ Below w.heap.size w w' := by
  refine (makeList_of l hlen T _ a cap v w hl.is.inside hv.is.inside (fun _ h => h.2)).mono ?_
  rintro e w' ⟨⟨v', rfl, h⟩, hb⟩
  exact ⟨⟨v', rfl, h.is⟩, hb⟩

end Go.Proofs.YtnbekfpkmebmbaaGreatDoor
