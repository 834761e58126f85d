/-
  The wanted items of a chain, in new memory.
-/
import Derived.Test.YtkijbphbibcnoaaLinPb
import Derived.RangeFuncBox
import Derived.OwnWalkIn
namespace Go.Proofs.Ytkijbphbibcnoaa
open Go.RowKit Go.Deep Go.Maps Go.WideShapes

attribute [local go_sem] Oper.semAt_some

theorem wpListIn_append_run {F : Fence} {n : Nat} {P : Program} (w : World) {ops : Array Oper} {rest : List Oper} {o : Oper} {a : Act} {Q : Exit → Act → World → Prop}
    (hg : o.guard = none) (s x : Operand) (t tn : TypeId) (hop : o.op = Op.call { callee := Callee.builtin Builtin.append, args := #[s, x], argTypes := #[t, tn] })
    (vs vx : Value) (hs : a.eval s = vs) (hx : a.eval x = vx) (v' : Value) (w' : World) (hr : (Builtin.append_ #[t, tn] o.type #[vs, vx]).run P w = .ok v' w')
    (hK : wpListIn F n P ops Q rest (a.put o.dst v') w') : wpListIn F n P ops Q (o :: rest) a w := by
  refine wpListIn_plain hg fun K hK' => ?_
  unfold Oper.wpIn
  refine ⟨?_, ?_⟩
  · simp [Oper.about, hop, resolve, Target.leads, Sem.run_pure]
  · rw [Oper.semAt_plain F _ _ (by rw [hop]; intro c hc'; cases hc')]
    simp [execOp, hop, resolve, invoke, builtin, hs, hx, hr, Result.andThen]
    exact hK' _ _ hK

set_option maxHeartbeats 4000000 in
set_option maxRecDepth 100000 in
theorem pick_any (gf : Nat) (lb : Array Value) (q : It → Bool) (l : List It) (a : Option Addr) (cap : Nat) (w : World) (hcel : CelT w l a) (hlt : ∀ ad, a = some ad → ad.block < w.heap.size) (hl : l.length ≤ 1000000)
    (eg : ∀ args w, (callFunc gf args).run Try.prog w = .ok (.enter gf args) w) (hq : Tests (fun k => k < w.heap.size) gf lb q l w) :
    Calls Try.prog 43 #[.slice a l.length cap, .func (.func gf) #[] lb] w fun e w' => ∃ v, e = .returned v ∧ Told w w' v (l.filter q) := by
  refine (callsIn_wide (n := 9)).1 ?_
  refine callsIn_of_wp_marks Try.func43 rfl trivial ?_ rfl
  simp only [Try.ntmps43, List.size_toArray, List.length_cons, List.length_nil, Nat.reduceAdd, Nat.reduceSub, Array.replicate_succ, Array.replicate_zero, List.push_toArray, List.append_toArray, List.nil_append, List.cons_append]
  gi_wp2_with (refine ⟨trivial, ?_⟩; gi_at_call 40; refine (callsIn_wide.2 (wanted_any _ _ _ _ _ _)).mono ?_; rintro e w' ⟨rfl, rfl⟩)
  obtain ⟨w3, hw3⟩ : ∃ w3, ((w.alloc (.cells #[.slice none 0 0] 43)).alloc (.cells #[.slice a l.length cap] 43)).alloc (.cells #[.func (.func gf) #[] lb] 72) = w3 := ⟨_, rfl⟩
  rw [hw3]
  have hz3 : w3.heap.size = w.heap.size + 3 := by rw [← hw3]; simp
  have hb3 : Below w.heap.size w w3 := by rw [← hw3]; exact (Up.alloc (Up.alloc (Up.alloc (Up.refl w)))).out
  have hlb : Boxed w3 w.heap.size 43 (.slice none 0 0) := by
    rw [← hw3]
    exact (Below.heap_alloc _ _ _ (by simp; omega)).trans (new_block1 _ _ _)
  have hbc : w3.heap[w.heap.size + 1]? = some (.cells #[.slice a l.length cap] 43) := by
    rw [← hw3]
    exact (Below.heap_alloc _ _ _ (by simp)).trans (new_block2 _ _ _)
  have hbw : w3.heap[w.heap.size + 2]? = some (.cells #[.func (.func gf) #[] lb] 72) := by
    have := heap_alloc_new ((w.alloc (.cells #[.slice none 0 0] 43)).alloc (.cells #[.slice a l.length cap] 43)) (.cells #[.func (.func gf) #[] lb] 72)
    rw [hw3] at this
    simpa using this
  have hq3 : Tests (fun k => k < w.heap.size ∨ k = w.heap.size + 2) gf lb q l w3 := fun W x hx ho =>
    hq W x hx ((Only.up hb3).trans ho (fun i hi => by
      rcases Nat.lt_or_ge i w.heap.size with h | h
      · exact absurd (Or.inl h) hi
      · exact Or.inr h))
  clear hw3
  have HQ3 := Hid.mk hq3
  have HLN := Hid.mk hl
  have HB3 := Hid.mk hb3
  have HZ3 := Hid.mk hz3
  refine wpIn_range_only (n := 9) rfl (by omega) (gf := 49) (lb := #[.pointer (some ⟨w.heap.size + 1, 0, none⟩), .pointer (some ⟨w.heap.size + 2, 0, none⟩)]) (by simp [Act.eval]) trivial (enters_of Try.func49 (by kernel_rfl) rfl)
    (Pr := fun k => k < w.heap.size ∨ k = w.heap.size + 2) (encs := encW)
    (wanted_yields _ _ gf lb q l a cap (w.heap.size + 1) (w.heap.size + 2) w3 hbc hbw (Or.inr rfl) (hcel.up hb3) (fun ad e => Or.inl (hlt ad e)) hl eg hq3) (fun k hk => by omega) (fun _ => rfl)
    (fun (pre : List (It × Nat)) W => ∃ v, Boxed W w.heap.size 43 v ∧ Its W v (pre.map Prod.fst) ∧ (∀ g, v.ownBlock = some g → w3.heap.size + 2 ≤ g) ∧ Below w.heap.size w W) (fun _ _ _ => False)
    (fun pre A B ⟨v, h1, h2, h3, h4⟩ ho => ⟨v, ho.box h1 (by omega), h2.kept ho (fun g hg => by have := h3 g hg; omega), h3, h4.trans (ho.below (fun k hk => by omega) h4.size)⟩) (fun _ _ _ _ h _ => h)
    ⟨_, hlb, Ow.nil _, fun g hg => (by cases hg), hb3⟩ ?round ?done ?stop
  case round =>
    rintro L pre x W rfl ⟨v, hv, hits, hnew, hb⟩ hO hspx hlen hzW
    clear hspx
    clear hlb hbc hbw hcel hlt hq hq3 hb3 eg hl hz3
    obtain ⟨⟨X0, X1⟩, place⟩ := x
    simp only [encW, itV]
    have HB := Hid.mk hb
    have HH := Hid.mk (And.intro hv (And.intro hits hnew))
    have HW := Hid.mk hzW
    have HN := Hid.mk hlen
    clear hb hv hits hnew hzW hO hlen
    gi_wp2
    refine ⟨(Up.alloc (Up.refl W)).out, fun W2 hO2 hz2 ⟨v, hv, hits, hnew, hb2⟩ => ?_⟩
    have hw3 := HZ3.out
    have hW := HW.out
    have hbx := hO2.box (new_block W (.cells #[.int .u32 X0, .int .i64 X1] 54)) (by omega)
    have hWW := hO2.size
    have q0 : W2.cell? ⟨W.heap.size, 0, none⟩ = some (.int .u32 X0) := by simp [World.cell?, hbx]
    have q1 : W2.cell? ⟨W.heap.size, 1, none⟩ = some (.int .i64 X1) := by simp [World.cell?, hbx]
    have c5 := hv.cell
    have f5 := hv.frozen
    have hpl : (pre.map Prod.fst).length ≤ 1000000 := by have := HN.out; have := HLN.out; rw [List.length_map]; omega
    obtain ⟨m, hm⟩ : ∃ m, pre.map Prod.fst = m := ⟨_, rfl⟩
    rw [hm] at hits hpl
    have hsz : W2.heap.size = W.heap.size + 1 := by rw [hz2]; simp
    obtain ⟨v9, w9, hr9, hi9, hg9, ho9⟩ := item_append (W2.alloc (.cells #[.int .u32 X0, .int .i64 X1] 54)) v _ (X0, X1) (hits.up (Up.alloc (Up.refl W2)).out) W2.heap.size (new_block _ _) hpl
    -- what the append leaves
    have hne : ∀ k, v.ownBlock = some k → k ≠ w.heap.size := fun k hk => by have := hnew k hk; omega
    have hon : Only (fun k => v.ownBlock = some k) W2 w9 := (Only.up (Up.alloc (Up.refl W2)).out).trans (Only.grown (S := fun k => v.ownBlock = some k) hg9 (fun _ h => h)) (fun _ h => Or.inl h)
    have hv9 : Boxed w9 w.heap.size 43 v := hon.box hv (fun h => hne _ h rfl)
    have c9 := hv9.cell
    have f9 := hv9.frozen
    have hn9 : ∀ g, v9.ownBlock = some g → w3.heap.size + 2 ≤ g := fun g hg => by
      rcases ho9 with e | e
      · exact hnew g (e ▸ hg)
      · rw [e] at hg
        have e2 := Option.some.inj hg
        simp at e2
        omega
    have HO9 := Hid.mk (show Only (fun k => ¬ (k < w.heap.size ∨ k = w.heap.size + 2) ∧ k ≠ w3.heap.size ∧ k ≠ w3.heap.size + 1) W2 (w9.setCell ⟨w.heap.size, 0, none⟩ v9) from
      (hon.mono (fun k hk => by have := hnew k hk; omega)).put (by omega) _ _)
    have HI9 := Hid.mk (show Its (w9.setCell ⟨w.heap.size, 0, none⟩ v9) v9 ((pre ++ [((X0, X1), place)]).map Prod.fst) from by
      rw [List.map_append, hm]
      exact hi9.kept (T := fun k => k = w.heap.size) (Only.set _ _ rfl) (fun g hg e => by have := hn9 g hg; omega))
    have HV9 := Hid.mk (hv9.set v9)
    have HN9 := Hid.mk hn9
    have HB9 := Hid.mk (show Below w.heap.size w (w9.setCell ⟨w.heap.size, 0, none⟩ v9) from hb2.trans (HO9.out.below (fun k hk => by omega) hb2.size))
    obtain ⟨va, vc, rfl, _⟩ := Its.slice hits
    obtain ⟨va9, vc9, e9, _⟩ := Its.slice hi9
    obtain ⟨M9, hM9⟩ : ∃ M9, (m ++ [(X0, X1)]).length = M9 := ⟨_, rfl⟩
    rw [hM9] at e9
    subst e9
    clear hm hon hne hg9 ho9 hi9 hits hnew hn9 hv hv9 hO2 hbx hWW hb2 hw3 hW hpl hM9 hz2 hsz
    gi_wp2_with (gi_at_builtin; refine wpListIn_append_run _ rfl _ _ _ _ rfl _ _ rfl rfl _ _ hr9 ?_)
    refine ⟨HO9.out, _, HV9.out, HI9.out, HN9.out, HB9.out⟩
  case done =>
    rintro D xs W hD rfl ⟨v, hv, hits, hnew, hb⟩ hK
    have hc := hv.cell
    rw [wantT_all q l _ (Nat.le_refl _)] at hits
    obtain ⟨m, hm⟩ : ∃ m, l.filter q = m := ⟨_, rfl⟩
    rw [hm] at hits
    have HM := Hid.mk hm
    clear hm
    have ho : Only (fun k => k = D) W (W.putObj D (.deferred none)) := only_putObj _ _ _ rfl
    have hDlt : ∀ g, v.ownBlock = some g → g ≠ D := fun g hg e => by
      rcases hits.2 with ⟨rfl, _⟩ | ⟨b, cap, cur, rfl, _, hb2, _⟩
      · cases hg
      · cases hg
        have e' : b = D := e
        rw [e', hK] at hb2
        cases hb2
    have H1 := Hid.mk (hits.kept ho (fun g hg e => hDlt g hg e))
    have H2 := Hid.mk (show ∀ g, v.ownBlock = some g → w.heap.size ≤ g from fun g hg => by have := hnew g hg; omega)
    have H3 := Hid.mk (hb.trans (ho.below (fun k hk => by omega) hb.size))
    obtain ⟨va, vc, rfl, _⟩ := Its.slice hits
    clear hits hnew hDlt ho hb hv
    gi_wp2
    refine ⟨by simp, .inl ⟨_, _, rfl, run_takeDeferred hK, ?_⟩⟩
    refine ⟨_, results_tmp rfl _ _ _, _, rfl, ?_⟩
    rw [HM.out]
    exact ⟨H1.out, H2.out, H3.out⟩
  case stop =>
    rintro D c pre W _ _ h _
    exact h.elim
end Go.Proofs.Ytkijbphbibcnoaa
