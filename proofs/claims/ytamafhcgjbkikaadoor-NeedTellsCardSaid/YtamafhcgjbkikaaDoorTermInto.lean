/-
  The parts of a term, one behind the other, each ahead of its own parts: what the iterator over them hands to a loop's body.
-/
import Derived.Test.YtamafhcgjbkikaaDoorTermShape
import Derived.Test.YtamafhcgjbkikaaDoorRangeCells
import Derived.Sort.LoopGhostIn
namespace Go.Proofs.YtamafhcgjbkikaaDoor
open Go.RowKit Go.Deep

attribute [local go_sem] Oper.semAt_some

theorem round_wide {m m' : Nat} {P : Program} {l : Nat} {f : FuncId} {tmps : Array Value} {assign body : Code} {w : World} {R : Ending → World → Prop}
    (h : RoundIn Fence.wide m P l f tmps assign body w R) : RoundIn Fence.wide m' P l f tmps assign body w R := ⟨h.1, fun c cs _ => h.2 c cs (fun d hd => by cases hd)⟩
theorem yield_wide {m : Nat} (m' : Nat) {P : Program} {l : Nat} {args : Array Value} {W : World} {R : Ending → World → Prop} (h : YieldAt Fence.wide m P l args W R) : YieldAt Fence.wide m' P l args W R := by
  obtain ⟨fn, tmps, assign, body, hy, hR⟩ := h
  exact ⟨fn, tmps, assign, body, hy, round_wide hR⟩

/-- A part, as a body is handed it. -/
structure PV where
  k : Int
  n : Int
  s : ByteArray
  a : Option Addr
  len : Nat
  cap : Nat
  ok : Small k n s
  fit : len ≤ 9223372036854775807

/-- What of a part is looked at. -/
abbrev Sh := Int × Int × ByteArray × Nat
def PV.sh (p : PV) : Sh := (p.k, p.n, p.s, p.len)

mutual
/-- A term, and all that is inside, each part ahead of its own. -/
def Tm.pre : Tm → List Sh
  | .mk k n s l => (k, n, s, l.length) :: (if hasL k = true then pres l else [])
def pres : List Tm → List Sh
  | [] => []
  | t :: r => t.pre ++ pres r
end
theorem Tm.pre_mk (k n : Int) (s : ByteArray) (l : List Tm) : (Tm.mk k n s l).pre = (k, n, s, l.length) :: (if hasL k = true then pres l else []) := by rw [Tm.pre]
theorem pres_take (l : List Tm) (i : Nat) (hi : i < l.length) : pres (l.take (i + 1)) = pres (l.take i) ++ l[i].pre := by
  induction l generalizing i with
  | nil => cases hi
  | cons t r ih =>
    cases i with
    | zero => simp [pres]
    | succ i =>
      have := ih i (by simpa using hi)
      simp only [List.take_succ_cons, pres, List.getElem_cons_succ, this, List.append_assoc]
theorem pres_prefix (l : List Tm) (i : Nat) : pres (l.take i) <+: pres l := by
  induction l generalizing i with
  | nil => simp
  | cons t r ih =>
    cases i with
    | zero => simp [pres]
    | succ i =>
      simp only [List.take_succ_cons, pres]
      exact List.prefix_append_right_inj _ |>.2 (ih i)

theorem Spares.step {n₀ B : Nat} {W X Y : World} (h : Spares n₀ B W X) (hb : Below W.heap.size X Y) (hn : n₀ ≤ W.heap.size) : Spares n₀ B W Y :=
  ⟨h.low.trans (hb.mono hn), fun k hB hk => (hb.block k hk).trans (h.same k hB hk)⟩

section
variable {S : Nat → Prop} {n₀ B : Nat}
theorem Lies.spared {W W' : World} {T : Tm} {v : Value} (h : Lies W S T v) (hS : ∀ b, S b → b < n₀) (hb : Below n₀ W W') : Lies W' S T v :=
  h.move (fun _ h => h) (fun b o v hs hc => by rw [hb.cell (p := ⟨b, o, none⟩) (hS b hs)]; exact hc) _ _
end

theorem Row.spared {S : Nat → Prop} {n₀ : Nat} {W X Y : World} {l : List Tm} {b o : Nat} (h : Row X S l b o) (hb : S b) (hS : ∀ b, S b → b < n₀) (hx : Below n₀ W X) (hy : Below n₀ W Y) : Row Y S l b o :=
  h.move (fun _ h => h) (fun b o v hs hc => by
    rw [hy.cell (p := ⟨b, o, none⟩) (hS b hs), ← hx.cell (p := ⟨b, o, none⟩) (hS b hs)]
    exact hc) (fun _ => hb)

set_option maxHeartbeats 2000000 in
set_option maxRecDepth 100000 in
theorem into_in (l n₀ B N : Nat) (S : Nat → Prop) (J Jx : List PV → World → Prop) (hB : n₀ ≤ B) (hJ : OnBelow B J) (hS : ∀ b, S b → b < n₀) (hsh : 1 < n₀)
    (hY : ∀ m pre x W1, J pre W1 → B ≤ W1.heap.size → pre.length < N → YieldAt Fence.wide m Tryd.prog l #[.agg #[.int .i64 x.k, .int .i64 x.n, .string x.s, .slice x.a x.len x.cap]] W1 fun e W' =>
      (e = .returned (.bool true) ∧ J (pre ++ [x]) W' ∧ Spares n₀ B W1 W') ∨ (e = .returned (.bool false) ∧ Jx (pre ++ [x]) W')) (z : Nat) :
    ∀ (T : Tm), T.size ≤ z → ∀ (n : Nat) (v : Value) (pre : List PV) (W : World), Lies W S T v → ShapeTab W → B ≤ W.heap.size → J pre W → pre.length + T.pre.length ≤ N →
      CallsIn Fence.wide n Tryd.prog 54 #[v, .func (.yield l) #[] #[]] W fun e W' =>
        (e = .returned (.bool true) ∧ ∃ ys : List PV, ys.map PV.sh = T.pre ∧ J (pre ++ ys) W' ∧ Spares n₀ B W W') ∨ (e = .returned (.bool false) ∧ ∃ ys : List PV, ys.map PV.sh <+: T.pre ∧ Jx (pre ++ ys) W') := by
  induction z with
  | zero => intro T hz; have := T.size_pos; omega
  | succ z ih0 =>
    intro T hz n v pre W hv ht hBW hJ0 hN
    obtain ⟨k, nn, s, li⟩ := T
    obtain ⟨a, cap, rfl, hs, hl⟩ := hv.out
    have ih := Hid.mk ih0
    clear ih0
    refine callsIn_of_wp Tryd.func54 rfl trivial ?_ rfl
    simp only [Tryd.ntmps54, List.size_toArray, List.length_cons, List.length_nil, Nat.reduceAdd, Nat.reduceSub, Array.replicate_succ, Array.replicate_zero, List.push_toArray, List.append_toArray, List.nil_append, List.cons_append]
    gi_wp2
    gi_loopg [] (z + 1) (fun q wr => ∃ (k' n' : Int) (s' : ByteArray) (l' : List Tm) (a' : Option Addr) (cap' : Nat) (ys : List PV), (Tm.mk k' n' s' l').size ≤ q ∧ q ≤ z + 1 ∧
      wr.heap[W.heap.size]? = some (.cells #[.int .i64 k', .int .i64 n', .string s', .slice a' l'.length cap'] 24) ∧ Small k' n' s' ∧ Lst wr S l' a' cap' ∧
      Hid (ys.map PV.sh ++ (Tm.mk k' n' s' l').pre = (Tm.mk k nn s li).pre) ∧ J (pre ++ ys) wr ∧ Spares n₀ B W wr ∧ W.heap.size < wr.heap.size)
    case atStart =>
      have hb : Below W.heap.size W (W.alloc (.cells #[.int .i64 k, .int .i64 nn, .string s, .slice a li.length cap] 24)) := (Below.refl _ W).alloc (Nat.le_refl _) _
      exact ⟨k, nn, s, li, a, cap, [], hz, Nat.le_refl _, new_block _ _, hs, hl.below hb, Hid.mk (by simp), hJ _ _ _ (by simpa using hJ0) (hb.mono hBW), (Spares.refl _ _ _).step hb (Nat.le_trans hB hBW), by simp⟩
    case round =>
      obtain ⟨k', n', s', l', a', cap', ys, hzq, hqz, hbox, hs', hl', hys, hJr, hsp, hzr⟩ := hrel
      have hn0 : n₀ ≤ W.heap.size := Nat.le_trans hB hBW
      have hlen' : l'.length ≤ 9223372036854775807 := Nat.le_trans hl'.1 hl'.2.1
      obtain ⟨⟨g0, g1, g2, g3⟩, f0, f1, f2, f3⟩ := kept4 hbox (Below.refl _ _)
      have hprelen : pre.length + ys.length + (Tm.mk k' n' s' l').pre.length ≤ N := by
        have := congrArg List.length hys.out
        simp only [List.length_append, List.length_map] at this
        omega
      have hpos : 1 ≤ (Tm.mk k' n' s' l').pre.length := by rw [Tm.pre_mk]; simp
      obtain ⟨x, hx⟩ : ∃ x : PV, x = ⟨k', n', s', a', l'.length, cap', hs', hlen'⟩ := ⟨_, rfl⟩
      have hy0 := hY (n - 1) (pre ++ ys) x wr hJr (by omega) (by rw [List.length_append]; omega)
      have hxs : x.sh = (k', n', s', l'.length) := by rw [hx]; rfl
      have hxv : (Value.agg #[.int .i64 x.k, .int .i64 x.n, .string x.s, .slice x.a x.len x.cap]) = .agg #[.int .i64 k', .int .i64 n', .string s', .slice a' l'.length cap'] := by rw [hx]
      rw [hxv] at hy0
      clear hx hxv
      obtain ⟨fn, tmps, assign, body, hy, hR⟩ := hy0
      gi_wp2
      refine ⟨fun h => (by cases h), hR.mono ?_⟩
      clear hR hy
      rintro e W3 (⟨rfl, hJ3, hs3⟩ | ⟨rfl, hx3⟩)
      · have hbox3 := (hs3.same _ hBW hzr).trans hbox
        have hl3 := hl'.move (fun _ h => h) (w' := W3) (fun b o v hs hc => by rw [hs3.low.cell (p := ⟨b, o, none⟩) (hS b hs)]; exact hc)
        have hsp3 := hsp.trans (hs3.mono (Nat.le_refl _))
        have ht3 := ht.from hsp3.low hsh
        have hz3 := hs3.low.size
        clear g0 g1 g2 g3 f0 f1 f2 f3
        obtain ⟨⟨g0, g1, g2, g3⟩, f0, f1, f2, f3⟩ := kept4 hbox3 (Below.refl _ _)
        have hin := inside_any k' n' s' a' l'.length cap' W3 ht3
        cases hL : hasL k' with
        | false =>
          rw [insV_no hL] at hin
          gi_wp2_with (refine ⟨trivial, (fun h => (by cases h)), ?_⟩; gi_at_call 57; refine (callsIn_wide.2 hin).mono ?_; rintro e w4 ⟨rfl, hb4⟩)
          go_ret
          refine .inl ⟨rfl, ys ++ [x], ?_, ?_, ?_⟩
          · rw [← hys.out, Tm.pre_mk, hL, List.map_append, List.map_singleton, hxs]
            simp
          · rw [← List.append_assoc]
            exact hJ _ _ _ hJ3 (hb4.mono (by omega))
          · exact hsp3.step (hb4.mono (by omega)) hn0
        | true =>
          rw [insV_yes hL] at hin
          by_cases hl0 : l' = []
          · subst hl0
            gi_wp2_with (refine ⟨trivial, (fun h => (by cases h)), ?_⟩; gi_at_call 57; refine (callsIn_wide.2 hin).mono ?_; rintro e w4 ⟨rfl, hb4⟩)
            go_ret
            refine .inl ⟨rfl, ys ++ [x], ?_, ?_, ?_⟩
            · rw [← hys.out, Tm.pre_mk, List.map_append, List.map_singleton, hxs]
              simp [pres]
            · rw [← List.append_assoc]
              exact hJ _ _ _ hJ3 (hb4.mono (by omega))
            · exact hsp3.step (hb4.mono (by omega)) hn0
          · have hpl : 0 < l'.length := List.length_pos_iff.2 hl0
            obtain ⟨b, o, rfl, hSb, hrow⟩ := hl3.some hpl
            obtain ⟨len, hlen⟩ : ∃ len, l'.length = len + 1 := ⟨l'.length - 1, by omega⟩
            rw [hlen] at hin g3 hbox3
            have hne0 : ((len : Int) + 1 == 0) = false := beq_eq_false_iff_ne.2 (by omega)
            have hcap0 : len + 1 ≤ cap' := by have := hl'.1; omega
            have hcap1 : cap' ≤ 9223372036854775807 := hl'.2.1
            have hll := Hid.mk hlen
            clear hlen hl0
            gi_wp2_with (refine ⟨trivial, (fun h => (by cases h)), ?_⟩; gi_at_call 57; refine (callsIn_wide.2 hin).mono ?_; rintro e w4 ⟨rfl, hb4⟩)
            have hz4 := hb4.size
            gi_loopw [24] (fun ii wq => ∃ (j : Nat) (zs : List PV), j ≤ len ∧ ii = .int .i64 j ∧ Hid (zs.map PV.sh = pres (l'.take j)) ∧ J (pre ++ ys ++ [x] ++ zs) wq ∧ Spares n₀ B W wq ∧
              wq.heap[W.heap.size]? = some (.cells #[.int .i64 k', .int .i64 n', .string s', .slice (some ⟨b, o, none⟩) (len + 1) cap'] 24) ∧ W.heap.size < wq.heap.size) (fun ii _ => len - (intOf ii).toNat)
            case atStart => exact ⟨0, [], Nat.zero_le _, rfl, Hid.mk (by simp [pres]), hJ _ _ _ (by simpa using hJ3) (hb4.mono (by omega)), hsp3.step (hb4.mono (by omega)) hn0, (hb4.block _ (by omega)).trans hbox3, by omega⟩
            case round =>
              obtain ⟨j, zs, hj, rfl, hzs, hJq, hspq, hboxq, hzq'⟩ := hrel
              have hrq := hrow.spared hSb hS hsp3.low hspq.low
              have hpre : (Tm.mk k' n' s' l').pre = (k', n', s', l'.length) :: pres l' := by rw [Tm.pre_mk, hL]; rfl
              by_cases hlt : j < len
              · have hjl : j < l'.length := by rw [hll.out]; omega
                obtain ⟨k2, n2, s2, m2, a2, cap2, hT2, c0, c1, c2, c3, hli2⟩ := hrq.part j hjl
                have hpt := pres_take l' j hjl
                have hic : ∀ Wc, Below wr.heap.size wr Wc → CallsIn Fence.wide (n - 1) Tryd.prog 54 #[.agg #[.int .i64 k2, .int .i64 n2, .string s2, .slice a2 m2.length cap2], .func (.yield l) #[] #[]] Wc fun e W' =>
                    (e = .returned (.bool true) ∧ ∃ zs' : List PV, Hid (zs'.map PV.sh = pres (l'.take (j + 1))) ∧ J (pre ++ ys ++ [x] ++ zs') W' ∧ Spares n₀ B W W' ∧
                      W'.heap[W.heap.size]? = some (.cells #[.int .i64 k', .int .i64 n', .string s', .slice (some ⟨b, o, none⟩) (len + 1) cap'] 24) ∧ W.heap.size < W'.heap.size) ∨
                    (e = .returned (.bool false) ∧ ∃ zs' : List PV, zs'.map PV.sh <+: (Tm.mk k nn s li).pre ∧ Jx (pre ++ zs') W') := fun Wc hbc => by
                  have hzc := hbc.size
                  have h1 := sizes_at l' j hjl
                  have h2 := Tm.size_mk k' n' s' l'
                  have hlens := congrArg List.length hzs.out
                  have hpl' := (pres_prefix l' (j + 1)).length_le
                  rw [hpt] at hpl'
                  rw [hpre] at hprelen
                  simp only [List.length_append, List.length_map, List.length_cons] at hlens hpl' hprelen
                  have hspc : Spares n₀ B W Wc := hspq.step (hbc.mono (by omega)) hn0
                  refine (ih.out l'[j] (by omega) (n - 1) _ (pre ++ ys ++ [x] ++ zs) Wc (hli2.below hbc) (ht.from hspc.low hsh) (by omega) (hJ _ _ _ hJq (hbc.mono (by omega))) (by simp only [List.length_append, List.length_cons, List.length_nil]; omega)).mono ?_
                  rintro e W' (⟨rfl, ws, hws, hJw, hsw⟩ | ⟨rfl, ws, hws, hJw⟩)
                  · refine .inl ⟨rfl, zs ++ ws, Hid.mk (by rw [List.map_append, hzs.out, hws, hpt]), by rw [← List.append_assoc]; exact hJw, hspc.trans hsw, ?_, by have := hsw.low.size; omega⟩
                    exact (hsw.same _ hBW (by omega)).trans ((hbc.block _ hzq').trans hboxq)
                  · refine .inr ⟨rfl, ys ++ [x] ++ zs ++ ws, ?_, by simpa [List.append_assoc] using hJw⟩
                    rw [← hys.out, hpre, List.map_append, List.map_append, List.map_append, List.map_singleton, hxs, hzs.out, List.append_assoc, List.append_assoc]
                    refine List.prefix_append_right_inj _ |>.2 ?_
                    rw [List.singleton_append]
                    refine List.cons_prefix_cons.2 ⟨rfl, ?_⟩
                    exact (List.prefix_append_right_inj _ |>.2 hws).trans (by rw [← hpt]; exact pres_prefix _ _)
                clear hT2 hli2 hpt hprelen hpos
                gi_wp2_with (refine ⟨trivial, (fun h => (by cases h)), ?_⟩; gi_at_call 54; refine (hic _ ((Below.refl wr.heap.size wr).alloc (Nat.le_refl _) _)).mono ?_; clear hic; rintro e W5 (⟨rfl, zs', hz5, hJ5, hs5, hb5, hlt5⟩ | ⟨rfl, zs', hz5, hJ5⟩))
                · go_roundw
                  case rel => exact ⟨j + 1, zs', by omega, by go_num, hz5, hJ5, hs5, hb5, hlt5⟩
                  case measure => simp [intOf]; omega
                · go_ret
                  exact .inr ⟨rfl, zs', hz5, hJ5⟩
              · obtain rfl : j = len := by omega
                have hjl : j < l'.length := by rw [hll.out]; omega
                obtain ⟨k2, n2, s2, m2, a2, cap2, hT2, c0, c1, c2, c3, hli2⟩ := hrq.part j hjl
                have hpt := pres_take l' j hjl
                have hT2' := Hid.mk hT2
                clear hT2
                obtain ⟨⟨q0, q1, q2, q3⟩, p0, p1, p2, p3⟩ := kept4 hboxq (Below.refl _ _)
                gi_wp2
                gi_roundg (gk - 1)
                case rel =>
                  have hsub : Below W.heap.size wr ((((wr.setCell ⟨W.heap.size, 0, none⟩ (.int .i64 k2)).setCell ⟨W.heap.size, 1, none⟩ (.int .i64 n2)).setCell ⟨W.heap.size, 2, none⟩ (.string s2)).setCell ⟨W.heap.size, 3, none⟩ (.slice a2 m2.length cap2)) :=
                    Below.set4 (Below.refl _ _) (Nat.le_refl _)
                  have h1 := sizes_at l' j hjl
                  have h2 := Tm.size_mk k' n' s' l'
                  rw [hT2'.out] at h1
                  rw [hT2'.out] at hli2
                  obtain ⟨a3, cap3, hv3, hs3', hl3'⟩ := (hli2.spared hS (hsub.mono hn0)).out
                  simp only [Value.agg.injEq, Array.mk.injEq, List.cons.injEq, Value.slice.injEq, true_and, and_true] at hv3
                  obtain ⟨rfl, rfl⟩ := hv3
                  refine ⟨k2, n2, s2, m2, a2, cap2, ys ++ [x] ++ zs, by omega, by omega, set4_block hboxq, hs3', hl3', Hid.mk ?_, ?_, hspq.step hsub hn0, by rw [set4_size]; exact hzq'⟩
                  · have hall : l'.take (j + 1) = l' := List.take_of_length_le (by rw [hll.out]; exact Nat.le_refl _)
                    rw [hall, hT2'.out] at hpt
                    rw [← hys.out, hpre, hpt, List.map_append, List.map_append, List.map_singleton, hxs, hzs.out]
                    simp
                  · rw [← List.append_assoc, ← List.append_assoc]
                    exact hJ _ _ _ hJq (hsub.mono hBW)
                case measure =>
                  have h2 := Tm.size_mk k' n' s' l'
                  omega
      · gi_wp2
        go_ret
        refine .inr ⟨rfl, ys ++ [x], ?_, by rw [← List.append_assoc]; exact hx3⟩
        rw [← hys.out, Tm.pre_mk, List.map_append, List.map_singleton, hxs]
        exact List.prefix_append_right_inj _ |>.2 (by simp)

end Go.Proofs.YtamafhcgjbkikaaDoor
