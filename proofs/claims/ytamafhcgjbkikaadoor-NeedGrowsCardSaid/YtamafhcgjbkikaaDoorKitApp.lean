/-
  Rows that a call makes for itself and appends to, amid regions that draw their order.
-/
import Derived.Test.YtamafhcgjbkikaaDoorKitRow
import Derived.Test.YtamafhcgjbkikaaDoorKitLast
namespace Go.Proofs.YtamafhcgjbkikaaDoor
open Go.RowKit Go.Deep Go.Maps Go.WideShapes

/-- A row of the call's own, made since w. -/
structure Apn {α : Type} (s : Srt α) (w w' : World) (v : Value) (l : List α) : Prop where
  row : Ow s w' v l
  new : ∀ g, v.ownBlock = some g → w.heap.size ≤ g
  below : Below w.heap.size w w'
theorem Apn.more {α : Type} {s : Srt α} {w w' w2 : World} {v v' : Value} {l l' : List α} (h : Apn s w w' v l) (h2 : Ow s w2 v' l') (hg : w'.grownBy w2 v.ownBlock) (ho : v'.ownBlock = v.ownBlock ∨ v'.ownBlock = some w'.heap.size) : Apn s w w2 v' l' :=
  ⟨h2, fun g e => by
    rcases ho with ho | ho
    · exact h.new g (ho ▸ e)
    · rw [ho] at e; cases e; exact h.below.size, h.below.grown hg h.below.size (fun k hk => h.new k hk)⟩
theorem Apn.up {α : Type} {s : Srt α} {w w' w2 : World} {v : Value} {l : List α} (h : Apn s w w' v l) (hb : Below w'.heap.size w' w2) : Apn s w w2 v l := ⟨h.row.up hb, h.new, h.below.trans (hb.mono h.below.size)⟩
theorem Apn.empty {α : Type} (s : Srt α) {w w' : World} (h : Up w w') : Apn s w (w'.alloc (.cells #[] s.t)) (.slice (some ⟨w'.heap.size, 0, none⟩) 0 0) [] := ⟨Ow.fresh (s := s) w' [] (by simp), fun g e => (by cases e; exact h.out.size), h.alloc.out⟩
/-- Elements behind an address appended, however their number is written. -/
theorem cs_append {α : Type} (s : Srt α) (w : World) (ty : TypeId) (v : Value) (l m : List α) (a : Option Addr) (n c : Nat) (h : Ow s w v l) (hc : Cs s w m a) (hn : a = none → c = 0) (he : n = m.length) (hl : l.length + m.length ≤ 100000000) : ∃ v' w', (Builtin.append_ #[s.st, s.st] ty #[v, .slice a n c]).run Tryd.prog w = .ok v' w' ∧
    Ow s w' v' (l ++ m) ∧ w.grownBy w' v.ownBlock ∧ (v'.ownBlock = v.ownBlock ∨ v'.ownBlock = some w.heap.size) := by
  subst he
  exact append_row s w ty v l m h _ _ hc hn hl
theorem exec_append {P : Program} {ev : Operand → Value} {w w' : World} {s x : Operand} {t tn ty : TypeId} {vs vx v' : Value} {ps : String} {af : Array Edge} {dst : Option Tmp} (hs : ev s = vs) (hx : ev x = vx) (hr : (Builtin.append_ #[t, tn] ty #[vs, vx]).run P w = .ok v' w') :
    (execOp ev ⟨dst, .call { callee := .builtin .append, args := #[s, x], argTypes := #[t, tn] }, ty, ps, af, none⟩).run P w = .ok (.value v') w' := by
  unfold execOp
  simp only [resolve, invoke, builtin, Sem.run_bind, Sem.run_pure, Result.andThen_ok, List.map_toArray, List.map_cons, List.map_nil, hs, hx, hr]
section
variable {P : Program} {md : Region.Mode} {ops : Array Oper} {Q : Exit → Act → World → Prop} {S : World → Prop} {fuel : Nat} {listed : Array Bool} {a : Act} {w : World}
/-- Two that make memory, in either order. -/
theorem chain_fork {i j : Nat} {oi oj : Oper} {di dj : Tmp} {vi vj : Value} {wi wj : World} (hr : Region.ready md ops listed = [i, j])
    (hi : ops[i]? = some oi) (hdi : oi.dst = some di) (hwi : Region.wanted oi (yielded ops a.tmps) = true) (hxi : (execOp a.eval oi).run P w = .ok (.value vi) wi) (hSi : S wi)
    (hj : ops[j]? = some oj) (hdj : oj.dst = some dj) (hwj : Region.wanted oj (yielded ops a.tmps) = true) (hxj : (execOp a.eval oj).run P w = .ok (.value vj) wj) (hSj : S wj)
    (h1 : wpAnyH P md ops Q S fuel (listed.setIfInBounds i true) (a.put (some di) vi) wi) (h2 : wpAnyH P md ops Q S fuel (listed.setIfInBounds j true) (a.put (some dj) vj) wj) : wpAnyH P md ops Q S (fuel + 1) listed a w := by
  refine wpAnyH_all hr (by simp) (fun k hk => ?_)
  rcases List.mem_cons.1 hk with rfl | hk
  · unfold wpOp
    simp only [hi]
    rw [if_pos hwi]
    refine .inl ?_
    unfold Oper.wp
    rw [hxi]
    exact ⟨hSi, by rw [hdi]; exact h1⟩
  · obtain rfl := List.mem_singleton.1 hk
    unfold wpOp
    simp only [hj]
    rw [if_pos hwj]
    refine .inl ?_
    unfold Oper.wp
    rw [hxj]
    exact ⟨hSj, by rw [hdj]; exact h2⟩
end
end Go.Proofs.YtamafhcgjbkikaaDoor
