/-
  The bytes of a term, one behind the other, as the program hands them to a loop's body.
-/
import Derived.Test.YtnelefokpopfdaaDoorHashOwn
namespace Go.Proofs.YtnelefokpopfdaaDoor
open Go.RowKit Go.Deep

attribute [local go_sem] Oper.semAt_some

theorem bytes_own (k n : Int) (s : ByteArray) (l : List Tm) : (Tm.mk k n s l).bytes = ownBy k n s l.length ++ (if k = 7 ∨ k = 5 ∨ k = 9 then bytesL l else []) := by
  rw [bytes_mk, ownBy, List.cons_append, List.append_assoc]
theorem bytesL_append (a b : List Tm) : bytesL (a ++ b) = bytesL a ++ bytesL b := by
  induction a with
  | nil => simp [bytesL_nil]
  | cons t r ih => rw [List.cons_append, bytesL_cons, bytesL_cons, ih, List.append_assoc]
theorem bytesL_take (l : List Tm) (i : Nat) (hi : i < l.length) : bytesL (l.take (i + 1)) = bytesL (l.take i) ++ l[i].bytes := by
  rw [List.take_succ_eq_append_getElem hi, bytesL_append, bytesL_cons, bytesL_nil, List.append_nil]
theorem bytesL_le (l : List Tm) (i : Nat) : (bytesL (l.take i)).length ≤ (bytesL l).length := by
  have : bytesL l = bytesL (l.take i) ++ bytesL (l.drop i) := by rw [← bytesL_append, List.take_append_drop]
  rw [this, List.length_append]
  omega
theorem fits_cons {n : Int} {s : ByteArray} {l : List Tm} (h : (Tm.mk 9 n s l).fits = true) : ∃ t r, l = [t, r] := by
  rw [fits_mk, Bool.and_eq_true] at h
  have hf := h.1
  unfold fitB at hf
  simp at hf
  obtain ⟨t, r, hl⟩ : ∃ t r, l = [t, r] := by
    match l, hf with
    | [t, r], _ => exact ⟨t, r, rfl⟩
  exact ⟨t, r, hl⟩
theorem fits_parts {k n : Int} {s : ByteArray} {l : List Tm} (h : (Tm.mk k n s l).fits = true) : ∀ t ∈ l, t.fits = true := by
  rw [fits_mk, Bool.and_eq_true] at h
  exact fitss_at h.2
/-- The bytes behind a term's own and its parts': those of its tail. -/
theorem bytes_parts (k n : Int) (s : ByteArray) (l : List Tm) (h9 : k ≠ 9) : (Tm.mk k n s l).bytes = ownBy k n s l.length ++ bytesL (partsT k l) := by
  rw [bytes_own, partsT]
  by_cases h : k = 5 ∨ k = 7
  · rw [if_pos (by omega), if_pos h]
  · rw [if_neg (by omega), if_neg h, if_neg h9, bytesL_nil]
theorem bytes_tail (n : Int) (s : ByteArray) (t r : Tm) : (Tm.mk 9 n s [t, r]).bytes = ownBy 9 n s [t, r].length ++ bytesL (partsT 9 [t, r]) ++ r.bytes := by
  rw [bytes_own, if_pos (by omega), bytesL_cons, bytesL_cons, bytesL_nil]
  simp [partsT, bytesL_cons, bytesL_nil]
theorem parts_in_l (k : Int) (l : List Tm) (i : Nat) (hi : i < (partsT k l).length) : ∃ h : i < l.length, (partsT k l)[i] = l[i] := by
  unfold partsT at hi ⊢
  split
  · rename_i h; rw [if_pos h] at hi; exact ⟨hi, rfl⟩
  · rename_i h
    rw [if_neg h] at hi
    split
    · rename_i h9
      rw [if_pos h9] at hi
      refine ⟨?_, List.getElem_take⟩
      rw [List.length_take] at hi
      omega
    · rename_i h9
      rw [if_neg h9] at hi
      cases hi

set_option maxHeartbeats 4000000 in
set_option maxRecDepth 100000 in
theorem hinto_in (l n₀ B N : Nat) (S : Nat → Prop) (J Jx : List UInt8 → World → Prop) (hB : n₀ ≤ B) (hJ : OnRows Row8 B J) (hS : ∀ b, S b → b < n₀) (hY : YB l n₀ B N J Jx) (z : Nat) :
    ∀ (T : Tm), T.size ≤ z → T.fits = true → ∀ (n : Nat) (v : Value) (pre : List UInt8) (W : World), Lies W S T v → B ≤ W.heap.size → J pre W → pre.length + T.bytes.length ≤ N →
      CallsIn Fence.wide n Tryd.prog 34 #[v, .func (.yield l) #[] #[]] W (Went n₀ B J Jx pre T.bytes W) := by
  induction z with
  | zero => intro T hz; have := T.size_pos; omega
  | succ z ih0 =>
    intro T hz hfit n v pre W hv hBW hJ0 hN
    obtain ⟨k, nn, s, li⟩ := T
    obtain ⟨a, cap, rfl, hs, hl⟩ := hv.out
    have ih := Hid.mk ih0
    clear ih0
    refine callsIn_of_wp Tryd.func34 rfl trivial ?_ rfl
    simp only [Tryd.ntmps34, List.size_toArray, List.length_cons, List.length_nil, Nat.reduceAdd, Nat.reduceSub, Array.replicate_succ, Array.replicate_zero, List.push_toArray, List.append_toArray, List.nil_append, List.cons_append]
    gi_wp2
    gi_loopg [] (z + 1) (fun q wr => ∃ (k' n' : Int) (s' : ByteArray) (l' : List Tm) (a' : Option Addr) (cap' : Nat) (ys : List UInt8), (Tm.mk k' n' s' l').size ≤ q ∧ q ≤ z + 1 ∧ Hid ((Tm.mk k' n' s' l').fits = true) ∧
      wr.heap[W.heap.size]? = some (.cells #[.int .i64 k', .int .i64 n', .string s', .slice a' l'.length cap'] 24) ∧ Small k' n' s' ∧ Lst wr S l' a' cap' ∧
      Hid (ys ++ (Tm.mk k' n' s' l').bytes = (Tm.mk k nn s li).bytes) ∧ J (pre ++ ys) wr ∧ SparesC Row8 n₀ B W wr ∧ W.heap.size < wr.heap.size)
    case atStart =>
      have hb : Below W.heap.size W (W.alloc (.cells #[.int .i64 k, .int .i64 nn, .string s, .slice a li.length cap] 24)) := (Below.refl _ W).alloc (Nat.le_refl _) _
      exact ⟨k, nn, s, li, a, cap, [], hz, Nat.le_refl _, Hid.mk hfit, new_block _ _, hs, hl.below hb, Hid.mk (by simp), hJ _ _ _ (by simpa using hJ0) (Leaves.below hb hBW), (SparesC.refl _ _ _).step hb (Nat.le_trans hB hBW), by simp⟩
    case round =>
      obtain ⟨k', n', s', l', a', cap', ys, hzq, hqz, hfit', hbox, hs', hl', hys, hJr, hsp, hzr⟩ := hrel
      have hn0 : n₀ ≤ W.heap.size := Nat.le_trans hB hBW
      have hlen' : l'.length ≤ 9223372036854775807 := Nat.le_trans hl'.1 hl'.2.1
      obtain ⟨⟨g0, g1, g2, g3⟩, f0, f1, f2, f3⟩ := kept4 hbox (Below.refl _ _)
      have hlen2 : Hid (pre.length + ys.length + (Tm.mk k' n' s' l').bytes.length ≤ N) := Hid.mk (by
        have := congrArg List.length hys.out
        simp only [List.length_append] at this
        omega)
      have hown := own_in l n₀ B N J Jx hB hJ hY k' n' s' a' l'.length cap' hs' hlen' (n - 1) (pre ++ ys) wr (by omega) hJr (by
        have := hlen2.out
        rw [bytes_own, List.length_append] at this
        rw [List.length_append]
        omega)
      obtain ⟨ps, hps⟩ : ∃ ps, partsT k' l' = ps := ⟨_, rfl⟩
      have hown := hown.mono (R' := fun e W3 => (e = .returned (.bool true) ∧ J (pre ++ (ys ++ ownBy k' n' s' l'.length)) W3 ∧ SparesC Row8 n₀ B W W3 ∧ W3.heap[W.heap.size]? = some (.cells #[.int .i64 k', .int .i64 n', .string s', .slice a' l'.length cap'] 24) ∧
          (W3.cell? ⟨W.heap.size, 0, none⟩ = some (.int .i64 k') ∧ W3.cell? ⟨W.heap.size, 1, none⟩ = some (.int .i64 n') ∧ W3.cell? ⟨W.heap.size, 2, none⟩ = some (.string s') ∧ W3.cell? ⟨W.heap.size, 3, none⟩ = some (.slice a' l'.length cap')) ∧
          CallsIn Fence.wide (n - 1) Tryd.prog 39 #[.agg #[.int .i64 k', .int .i64 n', .string s', .slice a' l'.length cap']] W3 fun e w' => (∃ a2 c2, e = .returned (.slice a2 ps.length c2) ∧ Lst w' S ps a2 c2) ∧ Below W3.heap.size W3 w') ∨ (e = .returned (.bool false) ∧ ∃ q, Jx q W3)) (fun e W3 h => by
        rcases h with ⟨rfl, hj, hsq⟩ | ⟨rfl, hq⟩
        · have hbox3 := hsq.same _ _ hBW hbox (not8 _ _)
          refine .inl ⟨rfl, by rw [← List.append_assoc]; exact hj, hsp.trans hsq, hbox3, (kept4 hbox3 (Below.refl _ _)).1, ?_⟩
          rw [← hps]
          exact callsIn_wide.2 (hparts_any k' n' s' l' (fun h9 => by
            subst h9
            obtain ⟨t, r, rfl⟩ := fits_cons hfit'.out
            simp) S a' cap' W3 (hl'.move (fun _ h => h) (fun b o v hs hc => by rw [hsq.low.cell (p := ⟨b, o, none⟩) (hS b hs)]; exact hc)))
        · exact .inr ⟨rfl, hq⟩)
      have hps := Hid.mk hps
      gi_wp2_with (first
        | (refine ⟨trivial, (fun h => (by cases h)), ?_⟩; gi_at_call 38; refine hown.mono ?_; clear hown g0 g1 g2 g3 f0 f1 f2 f3; rintro e W3 (⟨rfl, hJ3, hsp3, hbox3, ⟨g0, g1, g2, g3⟩, hpa⟩ | ⟨rfl, hx3⟩))
        | (refine ⟨trivial, (fun h => (by cases h)), ?_⟩; gi_at_call 39; refine hpa.mono ?_; clear hpa; rintro e W4 ⟨⟨a2, c2, rfl, hl4⟩, hb4⟩))
      · have hz3 : W.heap.size < W3.heap.size := (Array.getElem?_eq_some_iff.1 hbox3).1
        have hz4 := hb4.size
        have hb34 : Below n₀ W3 W4 := hb4.mono (by omega)
        have hbox4 := (hb4.block _ (Array.getElem?_eq_some_iff.1 hbox3).1).trans hbox3
        have hpl : ps.length ≤ 9223372036854775807 := Nat.le_trans hl4.1 hl4.2.1
        have hpb : Hid (∀ j, j ≤ ps.length → pre.length + (ys ++ ownBy k' n' s' l'.length ++ bytesL (ps.take j)).length ≤ N) := Hid.mk (fun j hj => by
          have h1 := hlen2.out
          have h2 := bytesL_le ps j
          have h3 : (ownBy k' n' s' l'.length ++ bytesL ps).length ≤ (Tm.mk k' n' s' l').bytes.length := by
            by_cases h9 : k' = 9
            · subst h9
              obtain ⟨t, r, rfl⟩ := fits_cons hfit'.out
              rw [bytes_tail, ← hps.out]
              simp only [List.length_append, List.length_cons, List.length_nil]
              omega
            · rw [bytes_parts _ _ _ _ h9, hps.out]
              exact Nat.le_refl _
          simp only [List.length_append] at h3 ⊢
          omega)
        gi_loopw [13] (fun ii wq => ∃ (j : Nat), j ≤ ps.length ∧ ii = .int .i64 j ∧ J (pre ++ (ys ++ ownBy k' n' s' l'.length ++ bytesL (ps.take j))) wq ∧ SparesC Row8 n₀ B W wq ∧
          wq.heap[W.heap.size]? = some (.cells #[.int .i64 k', .int .i64 n', .string s', .slice a' l'.length cap'] 24) ∧ W.heap.size < wq.heap.size) (fun ii _ => ps.length - (intOf ii).toNat)
        case atStart => exact ⟨0, Nat.zero_le _, rfl, hJ _ _ _ (by simpa [bytesL_nil] using hJ3) (Leaves.below hb4 (by omega)), hsp3.step hb4 (by omega), hbox4, by omega⟩
        case round =>
          obtain ⟨j, hj, rfl, hJq, hspq, hboxq, hzq'⟩ := hrel
          by_cases hlt : j < ps.length
          · obtain ⟨b, o, rfl, hSb, hrow4⟩ := hl4.some (by omega)
            have hrow := hrow4.spared hSb hS (hsp3.low.trans hb34) hspq.low
            obtain ⟨k2, n2, s2, m2, a3, cap3, hT2, c0, c1, c2', c3, hli2⟩ := hrow.part j hlt
            have hpt := bytesL_take ps j hlt
            have hic : ∀ Wc, Below wr.heap.size wr Wc → CallsIn Fence.wide (n - 1) Tryd.prog 34 #[.agg #[.int .i64 k2, .int .i64 n2, .string s2, .slice a3 m2.length cap3], .func (.yield l) #[] #[]] Wc fun e W' =>
                (e = .returned (.bool true) ∧ J (pre ++ (ys ++ ownBy k' n' s' l'.length ++ bytesL (ps.take (j + 1)))) W' ∧ SparesC Row8 n₀ B W W' ∧
                  W'.heap[W.heap.size]? = some (.cells #[.int .i64 k', .int .i64 n', .string s', .slice a' l'.length cap'] 24) ∧ W.heap.size < W'.heap.size) ∨
                (e = .returned (.bool false) ∧ ∃ q, Jx q W') := fun Wc hbc => by
              have hzc := hbc.size
              have hspc : SparesC Row8 n₀ B W Wc := hspq.step hbc (by omega)
              obtain ⟨hjl, hpj⟩ := parts_in_l k' l' j (by rw [hps.out]; exact hlt)
              have hpj' : ps[j] = l'[j] := by
                have := hps.out
                subst this
                exact hpj
              have h1 := sizes_at l' j hjl
              have h2 := Tm.size_mk k' n' s' l'
              have hlenb := hpb.out (j + 1) (by omega)
              rw [hpt] at hlenb
              refine (ih.out ps[j] (by rw [hpj']; omega) (by rw [hpj']; exact fits_parts hfit'.out _ (List.getElem_mem hjl)) (n - 1) _ (pre ++ (ys ++ ownBy k' n' s' l'.length ++ bytesL (ps.take j))) Wc (hli2.below hbc) (by omega) (hJ _ _ _ hJq (Leaves.below hbc (by omega))) (by
                simp only [List.length_append] at hlenb ⊢
                omega)).mono ?_
              rintro e W' (⟨rfl, hJw, hsw⟩ | ⟨rfl, hq⟩)
              · refine .inl ⟨rfl, by rw [hpt]; simpa [List.append_assoc] using hJw, hspc.trans hsw, ?_, by have := hsw.low.size; omega⟩
                exact hsw.same _ _ hBW ((hbc.block _ hzq').trans hboxq) (not8 _ _)
              · exact .inr ⟨rfl, hq⟩
            clear hT2 hli2 hpt hrow4
            gi_wp2_with (refine ⟨trivial, (fun h => (by cases h)), ?_⟩; gi_at_call 34; refine (hic _ ((Below.refl wr.heap.size wr).alloc (Nat.le_refl _) _)).mono ?_; clear hic; rintro e W5 (⟨rfl, hJ5, hs5, hb5, hlt5⟩ | ⟨rfl, hx5⟩))
            · go_roundw
              case rel => exact ⟨j + 1, by omega, by go_num, hJ5, hs5, hb5, hlt5⟩
              case measure => simp [intOf]; omega
            · go_ret
              exact .inr ⟨rfl, hx5⟩
          · obtain rfl : j = ps.length := by omega
            rw [List.take_length] at hJq
            obtain ⟨⟨q0, q1, q2, q3⟩, p0, p1, p2, p3⟩ := kept4 hboxq (Below.refl _ _)
            by_cases h9 : k' = 9
            · subst h9
              obtain ⟨t, r, rfl⟩ := fits_cons hfit'.out
              have hall : Hid (ys ++ ownBy 9 n' s' [t, r].length ++ bytesL ps ++ r.bytes = (Tm.mk k nn s li).bytes) := Hid.mk (by rw [← hys.out, bytes_tail, hps.out]; simp only [List.append_assoc])
              have hsz2 : Hid (r.size < (Tm.mk 9 n' s' [t, r]).size) := Hid.mk (by simp only [Tm.size_mk, sizes]; omega)
              have hfr : Hid (r.fits = true) := Hid.mk (fits_parts hfit'.out r (by simp))
              obtain ⟨b, o, rfl, hSb, hrow0⟩ := hl'.some (by simp)
              have hrow := hrow0.spared hSb hS hsp.low hspq.low
              obtain ⟨k2, n2, s2, m2, a3, cap3, hT2, c0, c1, c2', c3, hli2⟩ := hrow.part 1 (by simp)
              have hT2' : Hid (r = .mk k2 n2 s2 m2) := Hid.mk hT2
              have hli2 : Hid (Lies wr S r (.agg #[.int .i64 k2, .int .i64 n2, .string s2, .slice a3 m2.length cap3])) := Hid.mk hli2
              clear hT2 hrow hrow0
              gi_wp2
              gi_roundg (gk - 1)
              case rel =>
                have hsub : Below W.heap.size wr ((((wr.setCell ⟨W.heap.size, 0, none⟩ (.int .i64 k2)).setCell ⟨W.heap.size, 1, none⟩ (.int .i64 n2)).setCell ⟨W.heap.size, 2, none⟩ (.string s2)).setCell ⟨W.heap.size, 3, none⟩ (.slice a3 m2.length cap3)) :=
                  Below.set4 (Below.refl _ _) (Nat.le_refl _)
                have hs2 : (Tm.mk k2 n2 s2 m2).size < (Tm.mk 9 n' s' [t, r]).size := by rw [← hT2'.out]; exact hsz2.out
                have hli3 := hli2.out
                have hf3 := hfr.out
                have hall' : ys ++ ownBy 9 n' s' [t, r].length ++ bytesL ps ++ (Tm.mk k2 n2 s2 m2).bytes = (Tm.mk k nn s li).bytes := by rw [← hT2'.out]; exact hall.out
                rw [hT2'.out] at hli3 hf3
                obtain ⟨a4, cap4, hv4, hs4, hl5⟩ := (hli3.spared hS (hsub.mono hn0)).out
                simp only [Value.agg.injEq, Array.mk.injEq, List.cons.injEq, Value.slice.injEq, true_and, and_true] at hv4
                obtain ⟨rfl, rfl⟩ := hv4
                exact ⟨k2, n2, s2, m2, a3, cap3, _, by omega, by omega, Hid.mk hf3, set4_block hboxq, hs4, hl5, Hid.mk hall', hJ _ _ _ hJq (Leaves.one hboxq (not8 _ _) (hsub.mono hBW) (fun k hk _ => set4_heap _ _ _ _ _ _ _ hk)), hspq.news hsub hn0, by rw [set4_size]; exact hzq'⟩
              case measure =>
                have h2 := Tm.size_mk 9 n' s' [t, r]
                omega
            · have hk9 : (k' != 9) = true := by simpa using h9
              have hall : Hid (ys ++ ownBy k' n' s' l'.length ++ bytesL ps = (Tm.mk k nn s li).bytes) := Hid.mk (by rw [← hys.out, bytes_parts _ _ _ _ h9, hps.out, List.append_assoc])
              clear h9
              gi_wp2
              go_ret
              exact .inl ⟨rfl, by rw [← hall.out]; exact hJq, hspq⟩
      · go_ret
        exact .inr ⟨rfl, hx3⟩

end Go.Proofs.YtnelefokpopfdaaDoor
