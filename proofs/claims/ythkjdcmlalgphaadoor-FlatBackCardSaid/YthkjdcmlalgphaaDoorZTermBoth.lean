/-
  Two terms gone through side by side: what the iterator over them hands to a loop's body.
-/
import Derived.Test.YthkjdcmlalgphaaDoorZTermWords
import Derived.Sort.CutIn
namespace Go.Proofs.YthkjdcmlalgphaaDoor
open Go.RowKit Go.Deep

attribute [local go_sem] Oper.semAt_some

def psh (p : PV × PV) : Sh × Sh := (p.1.sh, p.2.sh)

mutual
/-- Two terms side by side, whatever their kinds, as far as both have parts. -/
def Tm.both : Tm → Tm → List (Sh × Sh)
  | .mk k n s l, .mk k' n' s' l' => ((k, n, s, l.length), (k', n', s', l'.length)) :: boths l l'
def boths : List Tm → List Tm → List (Sh × Sh)
  | [], _ => []
  | _ :: _, [] => []
  | t :: r, t' :: r' => t.both t' ++ boths r r'
end
theorem both_mk (k n : Int) (s : ByteArray) (l : List Tm) (k' n' : Int) (s' : ByteArray) (l' : List Tm) : (Tm.mk k n s l).both (.mk k' n' s' l') = ((k, n, s, l.length), (k', n', s', l'.length)) :: boths l l' := by rw [Tm.both]
theorem boths_nil (l : List Tm) : boths l [] = [] := by cases l <;> rw [boths]
theorem boths_take (l l' : List Tm) (i : Nat) (hi : i < l.length) (hi' : i < l'.length) : boths (l.take (i + 1)) (l'.take (i + 1)) = boths (l.take i) (l'.take i) ++ l[i].both l'[i] := by
  induction l generalizing l' i with
  | nil => cases hi
  | cons t r ih =>
    cases l' with
    | nil => cases hi'
    | cons t' r' =>
      cases i with
      | zero => simp [boths]
      | succ i =>
        have := ih r' i (by simpa using hi) (by simpa using hi')
        simp only [List.take_succ_cons, boths, List.getElem_cons_succ, this, List.append_assoc]
theorem boths_prefix (l l' : List Tm) (i : Nat) : boths (l.take i) (l'.take i) <+: boths l l' := by
  induction l generalizing l' i with
  | nil => simp [boths]
  | cons t r ih =>
    cases l' with
    | nil => simp [boths_nil]
    | cons t' r' =>
      cases i with
      | zero => simp [boths]
      | succ i =>
        simp only [List.take_succ_cons, boths]
        exact List.prefix_append_right_inj _ |>.2 (ih r' i)
theorem boths_min (l l' : List Tm) (i : Nat) (h : i = l.length ∨ i = l'.length) : boths (l.take i) (l'.take i) = boths l l' := by
  induction l generalizing l' i with
  | nil => simp [boths]
  | cons t r ih =>
    cases l' with
    | nil => simp [boths_nil]
    | cons t' r' =>
      cases i with
      | zero => simp at h
      | succ i =>
        simp only [List.take_succ_cons, boths]
        rw [ih r' i (by simpa using h)]

/-- A bool has been returned, with what goes with it. -/
def BothOut (e : Ending) (P Q : Prop) : Prop := ∃ x : Bool, e = .returned (.bool x) ∧ Hid ((x = true ∧ P) ∨ (x = false ∧ Q))

def BothV (v : Value) (P Q : Prop) : Prop := ∃ x : Bool, v = .bool (!x) ∧ Hid ((x = true ∧ P) ∨ (x = false ∧ Q))

def alike (p : Sh × Sh) : Prop := p.1 = p.2
theorem both_same (T : Tm) : ∀ T', (∀ p ∈ T.both T', alike p) → T = T' := by
  induction T using Tm.induct with
  | h k n s l ih =>
    intro T' h
    obtain ⟨k', n', s', l'⟩ := T'
    rw [both_mk] at h
    have h0 : ((k, n, s, l.length) : Sh) = (k', n', s', l'.length) := h ((k, n, s, l.length), (k', n', s', l'.length)) (by simp)
    simp only [Prod.mk.injEq] at h0
    obtain ⟨rfl, rfl, rfl, hl⟩ := h0
    have hp : ∀ p ∈ boths l l', alike p := fun p hp => h p (List.mem_cons_of_mem _ hp)
    have : l = l' := by
      clear h
      induction l generalizing l' with
      | nil =>
        cases l' with
        | nil => rfl
        | cons t' r' => cases hl
      | cons t r ihr =>
        cases l' with
        | nil => cases hl
        | cons t' r' =>
          rw [boths] at hp
          have h1 := ih t (by simp) t' (fun p hq => hp p (List.mem_append_left _ hq))
          have h2 := ihr (fun t ht => ih t (List.mem_cons_of_mem _ ht)) r' (by simpa using hl) (fun p hq => hp p (List.mem_append_right _ hq))
          rw [h1, h2]
    rw [this]
theorem both_refl (T : Tm) : ∀ p ∈ T.both T, alike p := by
  induction T using Tm.induct with
  | h k n s l ih =>
    rw [both_mk]
    intro p hp
    rcases List.mem_cons.1 hp with rfl | hp
    · rfl
    · induction l with
      | nil => rw [boths] at hp; cases hp
      | cons t r ihr =>
        rw [boths] at hp
        rcases List.mem_append.1 hp with h | h
        · exact ih t (by simp) p h
        · exact ihr (fun t ht => ih t (List.mem_cons_of_mem _ ht)) (List.mem_cons_of_mem _ h) h
theorem both_length (T : Tm) : ∀ T', (T.both T').length ≤ T.size := by
  induction T using Tm.induct with
  | h k n s l ih =>
    intro T'
    obtain ⟨k', n', s', l'⟩ := T'
    rw [both_mk, Tm.size_mk, List.length_cons]
    have : (boths l l').length ≤ sizes l := by
      induction l generalizing l' with
      | nil => simp [boths]
      | cons t r ihr =>
        cases l' with
        | nil => simp [boths_nil]
        | cons t' r' =>
          have h1 := ih t (by simp) t'
          have h2 := ihr (fun t ht => ih t (List.mem_cons_of_mem _ ht)) r'
          rw [boths, List.length_append, sizes]
          omega
    omega

set_option maxHeartbeats 2000000 in
set_option maxRecDepth 100000 in
theorem intoBoth_in (l n₀ B N : Nat) (S : Nat → Prop) (J Jx : List (PV × PV) → World → Prop) (hB : n₀ ≤ B) (hJ : OnBelow B J) (hS : ∀ b, S b → b < n₀)
    (hY : ∀ m pre x W1, J pre W1 → B ≤ W1.heap.size → pre.length < N → YieldAt Fence.wide m Tryd.prog l #[.agg #[.int .i64 x.1.k, .int .i64 x.1.n, .string x.1.s, .slice x.1.a x.1.len x.1.cap], .agg #[.int .i64 x.2.k, .int .i64 x.2.n, .string x.2.s, .slice x.2.a x.2.len x.2.cap]] W1 fun e W' =>
      (e = .returned (.bool true) ∧ J (pre ++ [x]) W' ∧ Spares n₀ B W1 W') ∨ (e = .returned (.bool false) ∧ Jx (pre ++ [x]) W')) (z : Nat) :
    ∀ (T U : Tm), T.size ≤ z → ∀ (n : Nat) (v u : Value) (pre : List (PV × PV)) (W : World), Lies W S T v → Lies W S U u → B ≤ W.heap.size → J pre W → pre.length + (T.both U).length ≤ N →
      CallsIn Fence.wide n Tryd.prog 80 #[v, u, .func (.yield l) #[] #[]] W fun e W' =>
        (e = .returned (.bool true) ∧ ∃ ys : List (PV × PV), ys.map psh = T.both U ∧ J (pre ++ ys) W' ∧ Spares n₀ B W W') ∨ (e = .returned (.bool false) ∧ ∃ ys : List (PV × PV), ys.map psh <+: T.both U ∧ Jx (pre ++ ys) W') := by
  induction z with
  | zero => intro T _ hz; have := T.size_pos; omega
  | succ z ih0 =>
    intro T U hz n v u pre W hv hu hBW hJ0 hN
    obtain ⟨k, nn, s, li⟩ := T
    obtain ⟨k2, nn2, s2, li2⟩ := U
    obtain ⟨a, cap, rfl, hs, hl⟩ := hv.out
    obtain ⟨a2, cap2, rfl, hs2, hl2⟩ := hu.out
    have ih := Hid.mk ih0
    clear ih0
    refine callsIn_of_wp Tryd.func80 rfl trivial ?_ rfl
    simp only [Tryd.ntmps80, List.size_toArray, List.length_cons, List.length_nil, Nat.reduceAdd, Nat.reduceSub, Array.replicate_succ, Array.replicate_zero, List.push_toArray, List.append_toArray, List.nil_append, List.cons_append]
    gi_wp2
    gi_loopg [] (z + 1) (fun q wr => ∃ (k' n' : Int) (s' : ByteArray) (l' : List Tm) (a' : Option Addr) (cap' : Nat) (k3 n3 : Int) (s3 : ByteArray) (l3 : List Tm) (a3 : Option Addr) (cap3 : Nat) (ys : List (PV × PV)), (Tm.mk k' n' s' l').size ≤ q ∧ q ≤ z + 1 ∧
      wr.heap[W.heap.size]? = some (.cells #[.int .i64 k', .int .i64 n', .string s', .slice a' l'.length cap'] 25) ∧ wr.heap[W.heap.size + 1]? = some (.cells #[.int .i64 k3, .int .i64 n3, .string s3, .slice a3 l3.length cap3] 25) ∧
      Small k' n' s' ∧ Lst wr S l' a' cap' ∧ Small k3 n3 s3 ∧ Lst wr S l3 a3 cap3 ∧
      Hid (ys.map psh ++ (Tm.mk k' n' s' l').both (.mk k3 n3 s3 l3) = (Tm.mk k nn s li).both (.mk k2 nn2 s2 li2)) ∧ J (pre ++ ys) wr ∧ Spares n₀ B W wr ∧ W.heap.size + 1 < wr.heap.size)
    case atStart =>
      have hb : Below W.heap.size W ((W.alloc (.cells #[.int .i64 k, .int .i64 nn, .string s, .slice a li.length cap] 25)).alloc (.cells #[.int .i64 k2, .int .i64 nn2, .string s2, .slice a2 li2.length cap2] 25)) := ((Below.refl _ W).alloc (Nat.le_refl _) _).alloc (by simp) _
      exact ⟨k, nn, s, li, a, cap, k2, nn2, s2, li2, a2, cap2, [], hz, Nat.le_refl _, new_block1 _ _ _, new_block2 _ _ _, hs, hl.below hb, hs2, hl2.below hb, Hid.mk (by simp), hJ _ _ _ (by simpa using hJ0) (hb.mono hBW), (Spares.refl _ _ _).step hb (Nat.le_trans hB hBW), by simp⟩
    case round =>
      obtain ⟨k', n', s', l', a', cap', k3, n3, s3, l3, a3, cap3, ys, hzq, hqz, hbox, hboxb, hs', hl', hs3', hl3', hys, hJr, hsp, hzr⟩ := hrel
      have hn0 : n₀ ≤ W.heap.size := Nat.le_trans hB hBW
      have hlen' : l'.length ≤ 9223372036854775807 := Nat.le_trans hl'.1 hl'.2.1
      have hlen3 : l3.length ≤ 9223372036854775807 := Nat.le_trans hl3'.1 hl3'.2.1
      obtain ⟨⟨g0, g1, g2, g3⟩, f0, f1, f2, f3⟩ := kept4 hbox (Below.refl _ _)
      obtain ⟨⟨g4, g5, g6, g7⟩, f4, f5, f6, f7⟩ := kept4 hboxb (Below.refl _ _)
      have hprelen : pre.length + ys.length + ((Tm.mk k' n' s' l').both (.mk k3 n3 s3 l3)).length ≤ N := by
        have := congrArg List.length hys.out
        simp only [List.length_append, List.length_map] at this
        omega
      have hpos : 1 ≤ ((Tm.mk k' n' s' l').both (.mk k3 n3 s3 l3)).length := by rw [both_mk]; simp
      obtain ⟨x, hx⟩ : ∃ x : PV × PV, x = (⟨k', n', s', a', l'.length, cap', hs', hlen'⟩, ⟨k3, n3, s3, a3, l3.length, cap3, hs3', hlen3⟩) := ⟨_, rfl⟩
      have hy0 := hY (n - 1) (pre ++ ys) x wr hJr (by omega) (by rw [List.length_append]; omega)
      have hxs : psh x = ((k', n', s', l'.length), (k3, n3, s3, l3.length)) := by rw [hx]; rfl
      have hxv : (#[.agg #[.int .i64 x.1.k, .int .i64 x.1.n, .string x.1.s, .slice x.1.a x.1.len x.1.cap], .agg #[.int .i64 x.2.k, .int .i64 x.2.n, .string x.2.s, .slice x.2.a x.2.len x.2.cap]] : Array Value) =
        #[.agg #[.int .i64 k', .int .i64 n', .string s', .slice a' l'.length cap'], .agg #[.int .i64 k3, .int .i64 n3, .string s3, .slice a3 l3.length cap3]] := by rw [hx]
      rw [hxv] at hy0
      clear hx hxv
      obtain ⟨fn, tmps, assign, body, hy, hR⟩ := hy0
      gi_wp2
      refine ⟨fun h => (by cases h), hR.mono ?_⟩
      clear hR hy
      rintro e W3 (⟨rfl, hJ3, hs3⟩ | ⟨rfl, hx3⟩)
      · have hbox3 := (hs3.same _ hBW (by omega)).trans hbox
        have hboxb3 := (hs3.same _ (by omega) (by omega)).trans hboxb
        have hlm := hl'.move (fun _ h => h) (w' := W3) (fun b o v hs hc => by rw [hs3.low.cell (p := ⟨b, o, none⟩) (hS b hs)]; exact hc)
        have hlm3 := hl3'.move (fun _ h => h) (w' := W3) (fun b o v hs hc => by rw [hs3.low.cell (p := ⟨b, o, none⟩) (hS b hs)]; exact hc)
        have hsp3 := hsp.trans (hs3.mono (Nat.le_refl _))
        have hz3 := hs3.low.size
        clear g0 g1 g2 g3 f0 f1 f2 f3 g4 g5 g6 g7 f4 f5 f6 f7
        obtain ⟨⟨g0, g1, g2, g3⟩, f0, f1, f2, f3⟩ := kept4 hbox3 (Below.refl _ _)
        obtain ⟨⟨g4, g5, g6, g7⟩, f4, f5, f6, f7⟩ := kept4 hboxb3 (Below.refl _ _)
        by_cases h0 : l' = [] ∨ l3 = []
        · have hbn : boths l' l3 = [] := by
            rcases h0 with rfl | rfl
            · rw [boths]
            · exact boths_nil _
          have hz0 : l'.length = 0 ∨ l3.length = 0 := h0.imp (fun h => by rw [h]; rfl) (fun h => by rw [h]; rfl)
          gi_wp2
          all_goals go_ret
          all_goals
            refine .inl ⟨rfl, ys ++ [x], ?_, ?_, hsp3⟩
            · rw [← hys.out, both_mk, hbn, List.map_append, List.map_singleton, hxs]
            · rw [← List.append_assoc]
              exact hJ3
        · have hp1 : 0 < l'.length := List.length_pos_iff.2 (fun h => h0 (Or.inl h))
          have hp2 : 0 < l3.length := List.length_pos_iff.2 (fun h => h0 (Or.inr h))
          obtain ⟨b, o, rfl, hSb, hrow⟩ := hlm.some hp1
          obtain ⟨b3, o3, rfl, hSb3, hrow3⟩ := hlm3.some hp2
          have hcp1 := hl'.1
          have hcp2 := hl'.2.1
          have hcp3 := hl3'.1
          have hcp4 := hl3'.2.1
          obtain ⟨len, N1, N2, hN1, hN2, hm1, hm2, hmin⟩ : ∃ len N1 N2, l'.length = N1 ∧ l3.length = N2 ∧ len + 1 ≤ N1 ∧ len + 1 ≤ N2 ∧ ((N2 = len + 1 ∧ N2 < N1) ∨ (N1 = len + 1 ∧ N1 ≤ N2)) := by
            rcases Nat.lt_or_ge l3.length l'.length with h | h
            · exact ⟨l3.length - 1, _, _, rfl, rfl, by omega, by omega, Or.inl ⟨by omega, h⟩⟩
            · exact ⟨l'.length - 1, _, _, rfl, rfl, by omega, by omega, Or.inr ⟨by omega, h⟩⟩
          have hbmin : Hid (boths (l'.take (len + 1)) (l3.take (len + 1)) = boths l' l3) := Hid.mk (boths_min _ _ _ (by omega))
          rw [hN1] at hbox3 g3 hlen' hcp1
          rw [hN2] at hboxb3 g7 hlen3 hcp3
          have hN1' := Hid.mk hN1
          have hN2' := Hid.mk hN2
          have hne0 : ((len : Int) + 1 == 0) = false := beq_eq_false_iff_ne.2 (by omega)
          clear h0 hp1 hp2 hl' hl3' hlm hlm3 hN1 hN2 hbox hboxb
          have hpre : Hid ((Tm.mk k' n' s' l').both (.mk k3 n3 s3 l3) = ((k', n', s', l'.length), (k3, n3, s3, l3.length)) :: boths l' l3) := Hid.mk (both_mk _ _ _ _ _ _ _ _)
          have hd0 : decide ((len : Int) < 0) = false := decide_eq_false (by omega)
          have hif1 : (if (N2 : Int) < (N1 : Int) then (N2 : Int) else (N1 : Int)) = (len : Int) + 1 := by split <;> omega
          have hif2 : (if N2 < N1 then (N2 : Int) else (N1 : Int)) = (len : Int) + 1 := by split <;> omega
          clear hmin
          all_goals
            gi_wp2
            gi_loopw [24] (fun ii wq => ∃ (j : Nat) (zs : List (PV × PV)), j ≤ len ∧ ii = .int .i64 j ∧ Hid (zs.map psh = boths (l'.take j) (l3.take j)) ∧ J (pre ++ ys ++ [x] ++ zs) wq ∧ Spares n₀ B W wq ∧
              wq.heap[W.heap.size]? = W3.heap[W.heap.size]? ∧ wq.heap[W.heap.size + 1]? = W3.heap[W.heap.size + 1]? ∧ W.heap.size + 1 < wq.heap.size) (fun ii _ => len - (intOf ii).toNat)
            case atStart => exact ⟨0, [], Nat.zero_le _, rfl, Hid.mk (by simp [boths]), (by simpa using hJ3), hsp3, rfl, rfl, by omega⟩
            case round =>
              obtain ⟨j, zs, hj, rfl, hzs, hJq, hspq, hbq1, hbq2, hzq'⟩ := hrel
              have hrq := hrow.spared hSb hS hsp3.low hspq.low
              have hrq3 := hrow3.spared hSb3 hS hsp3.low hspq.low
              have hjl : j < l'.length := by rw [hN1'.out]; omega
              have hjl3 : j < l3.length := by rw [hN2'.out]; omega
              obtain ⟨⟨q0, q1, q2, q3⟩, p0, p1, p2, p3⟩ := kept4 (hbq1.trans hbox3) (Below.refl _ _)
              obtain ⟨⟨q4, q5, q6, q7⟩, p4, p5, p6, p7⟩ := kept4 (hbq2.trans hboxb3) (Below.refl _ _)
              obtain ⟨k4, n4, s4, m4, a4, cap4, hT4, c0, c1, c2, c3, hli4⟩ := hrq.part j hjl
              obtain ⟨k5, n5, s5, m5, a5, cap5, hT5, d0, d1, d2, d3, hli5⟩ := hrq3.part j hjl3
              have hpt := boths_take l' l3 j hjl hjl3
              by_cases hlt : j < len
              · have hic : ∀ Wc, Below wr.heap.size wr Wc → CallsIn Fence.wide (n - 1) Tryd.prog 80 #[.agg #[.int .i64 k4, .int .i64 n4, .string s4, .slice a4 m4.length cap4], .agg #[.int .i64 k5, .int .i64 n5, .string s5, .slice a5 m5.length cap5], .func (.yield l) #[] #[]] Wc fun e W' =>
                    BothOut e (∃ zs' : List (PV × PV), Hid (zs'.map psh = boths (l'.take (j + 1)) (l3.take (j + 1))) ∧ J (pre ++ ys ++ [x] ++ zs') W' ∧ Spares n₀ B W W' ∧
                      W'.heap[W.heap.size]? = W3.heap[W.heap.size]? ∧ W'.heap[W.heap.size + 1]? = W3.heap[W.heap.size + 1]? ∧ W.heap.size + 1 < W'.heap.size)
                    (∃ zs' : List (PV × PV), zs'.map psh <+: (Tm.mk k nn s li).both (.mk k2 nn2 s2 li2) ∧ Jx (pre ++ zs') W') := fun Wc hbc => by
                  have hzc := hbc.size
                  have h1 := sizes_at l' j hjl
                  have h2 := Tm.size_mk k' n' s' l'
                  have hlens := congrArg List.length hzs.out
                  have hpl' := (boths_prefix l' l3 (j + 1)).length_le
                  rw [hpt] at hpl'
                  rw [hpre.out] at hprelen
                  simp only [List.length_append, List.length_map, List.length_cons] at hlens hpl' hprelen
                  have hspc : Spares n₀ B W Wc := hspq.step (hbc.mono (by omega)) hn0
                  refine (ih.out l'[j] l3[j] (by omega) (n - 1) _ _ (pre ++ ys ++ [x] ++ zs) Wc (hli4.below hbc) (hli5.below hbc) (by omega) (hJ _ _ _ hJq (hbc.mono (by omega))) (by simp only [List.length_append, List.length_cons, List.length_nil]; omega)).mono ?_
                  rintro e W' (⟨rfl, ws, hws, hJw, hsw⟩ | ⟨rfl, ws, hws, hJw⟩)
                  · refine ⟨true, rfl, Hid.mk (.inl ⟨rfl, ?_⟩)⟩
                    refine ⟨zs ++ ws, Hid.mk (by rw [List.map_append, hzs.out, hws, hpt]), by rw [← List.append_assoc]; exact hJw, hspc.trans hsw, ?_, ?_, by have := hsw.low.size; omega⟩
                    · exact (hsw.same _ hBW (by omega)).trans ((hbc.block _ (by omega)).trans hbq1)
                    · exact (hsw.same _ (by omega) (by omega)).trans ((hbc.block _ hzq').trans hbq2)
                  · refine ⟨false, rfl, Hid.mk (.inr ⟨rfl, ?_⟩)⟩
                    refine ⟨ys ++ [x] ++ zs ++ ws, ?_, by simpa [List.append_assoc] using hJw⟩
                    rw [← hys.out, hpre.out, List.map_append, List.map_append, List.map_append, List.map_singleton, hxs, hzs.out, List.append_assoc, List.append_assoc]
                    refine List.prefix_append_right_inj _ |>.2 ?_
                    rw [List.singleton_append]
                    refine List.cons_prefix_cons.2 ⟨rfl, ?_⟩
                    exact (List.prefix_append_right_inj _ |>.2 hws).trans (by rw [← hpt]; exact boths_prefix _ _ _)
                clear hT4 hli4 hT5 hli5 hpt hprelen hpos
                have hic' := Hid.mk (hic wr.drew ((Below.refl _ wr).drew))
                clear hic
                have hmx : Tryd.prog.follows .mixedOrders = true := by kernel_rfl
                gi_wp2
                gi_cut [39] from 51 (fun v39 wx => BothV v39 (∃ zs' : List (PV × PV), Hid (zs'.map psh = boths (l'.take (j + 1)) (l3.take (j + 1))) ∧ J (pre ++ ys ++ [x] ++ zs') wx ∧ Spares n₀ B W wx ∧
                      wx.heap[W.heap.size]? = W3.heap[W.heap.size]? ∧ wx.heap[W.heap.size + 1]? = W3.heap[W.heap.size + 1]? ∧ W.heap.size + 1 < wx.heap.size)
                    (∃ zs' : List (PV × PV), zs'.map psh <+: (Tm.mk k nn s li).both (.mk k2 nn2 s2 li2) ∧ Jx (pre ++ zs') wx))
                case first =>
                  gi_region_with_o (refine ⟨trivial, (fun h => (by cases h)), ?_⟩; gi_at_call 80; refine hic'.out.mono ?_; rintro e W5 ⟨x5, rfl, hor⟩)
                  all_goals
                    gi_wp2_with fail
                    gi_meet
                    case rel => exact ⟨x5, rfl, hor⟩
                case rest =>
                  obtain ⟨x5, rfl, hor⟩ := hcut
                  gi_wp2
                  · go_ret
                    have hx5 : x5 = false := by simpa using (by assumption : (!x5) = true)
                    rcases hor.out with ⟨h, _⟩ | ⟨_, zs', hz5, hJ5⟩
                    · rw [hx5] at h; cases h
                    · exact .inr ⟨rfl, zs', hz5, hJ5⟩
                  · have hx5 : x5 = true := by simpa using (by assumption : (!x5) = false)
                    rcases hor.out with ⟨_, zs', hz5, hJ5, hs5, hb51, hb52, hlt5⟩ | ⟨h, _⟩
                    · go_roundw
                      case rel => exact ⟨j + 1, zs', by omega, by go_num, hz5, hJ5, hs5, hb51, hb52, hlt5⟩
                      case measure => simp [intOf]; omega
                    · rw [hx5] at h; cases h
              · obtain rfl : j = len := by omega
                have hT4' := Hid.mk hT4
                have hT5' := Hid.mk hT5
                clear hT4 hT5
                have hb1' := hS b hSb
                have hb3' := hS b3 hSb3
                have hne1 : b ≠ W.heap.size := by omega
                have hne2 : b3 ≠ W.heap.size := by omega
                have hne3 : b ≠ W.heap.size + 1 := by omega
                have hne4 : b3 ≠ W.heap.size + 1 := by omega
                have hne5 : W.heap.size ≠ b := by omega
                have hne6 : W.heap.size ≠ b3 := by omega
                have hmx : Tryd.prog.follows .mixedOrders = true := by kernel_rfl
                gi_wp2
                gi_region
                gi_wp2
                gi_roundg (gk - 1)
                case rel =>
                  have hs1 : Below W.heap.size wr ((((wr.setCell ⟨W.heap.size, 0, none⟩ (.int .i64 k4)).setCell ⟨W.heap.size, 1, none⟩ (.int .i64 n4)).setCell ⟨W.heap.size, 2, none⟩ (.string s4)).setCell ⟨W.heap.size, 3, none⟩ (.slice a4 m4.length cap4)) :=
                    Below.set4 (Below.refl _ _) (Nat.le_refl _)
                  have hx1 := set4_block (v0 := .int .i64 k4) (v1 := .int .i64 n4) (v2 := .string s4) (v3 := .slice a4 m4.length cap4) (hbq1.trans hbox3)
                  have hx2 := (set4_heap wr W.heap.size (.int .i64 k4) (.int .i64 n4) (.string s4) (.slice a4 m4.length cap4) (W.heap.size + 1) (by omega)).trans (hbq2.trans hboxb3)
                  have hz1 := set4_size wr W.heap.size (.int .i64 k4) (.int .i64 n4) (.string s4) (.slice a4 m4.length cap4)
                  generalize (((wr.setCell ⟨W.heap.size, 0, none⟩ (.int .i64 k4)).setCell ⟨W.heap.size, 1, none⟩ (.int .i64 n4)).setCell ⟨W.heap.size, 2, none⟩ (.string s4)).setCell ⟨W.heap.size, 3, none⟩ (.slice a4 m4.length cap4) = wa at hs1 hx1 hx2 hz1 ⊢
                  have hs2 : Below W.heap.size wr ((((wa.setCell ⟨W.heap.size + 1, 0, none⟩ (.int .i64 k5)).setCell ⟨W.heap.size + 1, 1, none⟩ (.int .i64 n5)).setCell ⟨W.heap.size + 1, 2, none⟩ (.string s5)).setCell ⟨W.heap.size + 1, 3, none⟩ (.slice a5 m5.length cap5)) :=
                    Below.set4 hs1 (Nat.le_succ _)
                  have hx3 := (set4_heap wa (W.heap.size + 1) (.int .i64 k5) (.int .i64 n5) (.string s5) (.slice a5 m5.length cap5) W.heap.size (by omega)).trans hx1
                  have hx4 := set4_block (v0 := .int .i64 k5) (v1 := .int .i64 n5) (v2 := .string s5) (v3 := .slice a5 m5.length cap5) hx2
                  have hz2 := set4_size wa (W.heap.size + 1) (.int .i64 k5) (.int .i64 n5) (.string s5) (.slice a5 m5.length cap5)
                  generalize (((wa.setCell ⟨W.heap.size + 1, 0, none⟩ (.int .i64 k5)).setCell ⟨W.heap.size + 1, 1, none⟩ (.int .i64 n5)).setCell ⟨W.heap.size + 1, 2, none⟩ (.string s5)).setCell ⟨W.heap.size + 1, 3, none⟩ (.slice a5 m5.length cap5) = wb at hs2 hx3 hx4 hz2 ⊢
                  have h1 := sizes_at l' j hjl
                  have h2 := Tm.size_mk k' n' s' l'
                  rw [hT4'.out] at h1 hli4
                  rw [hT5'.out] at hli5
                  have hsd : Below W.heap.size wr wb.drew := hs2.drew
                  obtain ⟨a6, cap6, hv6, hs6, hl6⟩ := (hli4.spared hS (hsd.mono hn0)).out
                  simp only [Value.agg.injEq, Array.mk.injEq, List.cons.injEq, Value.slice.injEq, true_and, and_true] at hv6
                  obtain ⟨rfl, rfl⟩ := hv6
                  obtain ⟨a7, cap7, hv7, hs7, hl7⟩ := (hli5.spared hS (hsd.mono hn0)).out
                  simp only [Value.agg.injEq, Array.mk.injEq, List.cons.injEq, Value.slice.injEq, true_and, and_true] at hv7
                  obtain ⟨rfl, rfl⟩ := hv7
                  refine ⟨k4, n4, s4, m4, a4, cap4, k5, n5, s5, m5, a5, cap5, ys ++ [x] ++ zs, by omega, by omega, hx3, hx4, hs6, hl6, hs7, hl7, Hid.mk ?_, ?_, hspq.step hsd hn0, by show W.heap.size + 1 < wb.heap.size; omega⟩
                  · rw [hbmin.out, hT4'.out, hT5'.out] at hpt
                    rw [← hys.out, hpre.out, hpt, List.map_append, List.map_append, List.map_singleton, hxs, hzs.out]
                    simp
                  · rw [← List.append_assoc, ← List.append_assoc]
                    exact hJ _ _ _ hJq (hsd.mono hBW)
                case measure =>
                  have h2 := Tm.size_mk k' n' s' l'
                  omega
      · gi_wp2
        go_ret
        refine .inr ⟨rfl, ys ++ [x], ?_, by rw [← List.append_assoc]; exact hx3⟩
        rw [← hys.out, both_mk, List.map_append, List.map_singleton, hxs]
        exact List.prefix_append_right_inj _ |>.2 (by simp)

end Go.Proofs.YthkjdcmlalgphaaDoor
