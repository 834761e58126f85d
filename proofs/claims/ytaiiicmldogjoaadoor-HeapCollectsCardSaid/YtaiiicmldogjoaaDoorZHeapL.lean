/-
  What is moved: the new places in a map, the new pile; one word moved.
-/
import Derived.Test.YtaiiicmldogjoaaDoorZHeapK
import Derived.Maps.OwnOps
namespace Go.Proofs.YtaiiicmldogjoaaDoor
open Go.RowKit Go.Deep Go.Maps Go.WideShapes

def kyI (k : Int) : Lit := .int .i64 k
theorem kyI_inj {a b : Int} (h : kyI a = kyI b) : a = b := by simpa [kyI] using h
theorem kyI_lit (k : Int) : Go.WideAt.IsKeyLit (kyI k) := by simp [kyI, Go.WideAt.IsKeyLit]
/-- The map of new places. -/
structure MapP (D : DataW Unit) (f : Nat → List Int) (M : List Nat) : Prop where
  map : IsMap D
  has : ∀ q : Nat, Maps.has D (kyI q) = decide (q ∈ M)
  at_ : ∀ q : Nat, q ∈ M → D.atKey (kyI q) (.lit (.int .i64 0)) = .lit (.int .i64 (off f M q))
theorem MapP.nil (f : Nat → List Int) : MapP (.map []) f [] := ⟨⟨[], rfl⟩, fun q => by simp; rfl, fun q h => by cases h⟩
theorem MapP.snoc {D : DataW Unit} {f : Nat → List Int} {M : List Nat} (h : MapP D f M) {q : Nat} (hq : q ∉ M) : MapP (D.put (kyI q) (.lit (.int .i64 (M.flatMap f).length))) f (M ++ [q]) := by
  refine ⟨h.map.put _ _, fun x => ?_, fun x hx => ?_⟩
  · by_cases e : q = x
    · subst e
      rw [has_put_same h.map (kyI_lit _)]
      simp
    · rw [has_put_other (fun e' => e (by have := kyI_inj e'; omega)), h.has]
      simp [Ne.symm e]
  · by_cases e : q = x
    · subst e
      rw [atKey_put_same h.map (kyI_lit _), off_new hq]
    · have hx' : x ∈ M := by rcases List.mem_append.1 hx with h | h; exact h; exact absurd (List.mem_singleton.1 h).symm e
      rw [atKey_put_other (fun e' => e (by have := kyI_inj e'; omega)), h.at_ x hx', off_append hx']
theorem keyedJ : Keyed Tryd.prog 3 := int_keyed Tryd.underlying3
theorem key_intJ {n : Int} (h : -9223372036854775808 ≤ n ∧ n ≤ 9223372036854775807) : keyOf Tryd.prog 3 (.int .i64 n) = some (kyI n) := keyOf_int_mk Tryd.underlying3 (WalkArith.wf_i64 h)
theorem zeroIntJ (w : World) : (zeroValue 3).run Tryd.prog w = .ok (.int .i64 0) w := Tryd.zeroValue3 w

/-- A collection under way: of the heap that lay in W, what has been moved. -/
structure Cs (W w : World) (hb hx nx px pb : Nat) (xs ks : List Int) (M : List Nat) (wv kv : Value) (ys : List Int) : Prop where
  pil : Pil w nx 0 wv kv ys (nk xs ks M)
  cp : w.cell? ⟨px, 0, none⟩ = some (.map (some pb))
  map : ∃ D : DataW Unit, w.ownsMap Tryd.prog 3 (plainElem Tryd.prog 3) pb M.length D ∧ MapP D (bxw xs ks) M
  ch : w.cell? ⟨hx, 0, none⟩ = some (.pointer (some ⟨hb, 0, none⟩))
  below : Below W.heap.size W w
  new : ∀ k, PMine nx wv kv k ∨ k = pb → W.heap.size ≤ k ∧ k ≠ hx ∧ k ≠ px
  npb : ¬ PMine nx wv kv pb
  len : ys.length = (M.flatMap (bxw xs ks)).length
def CMine (nx pb : Nat) (wv kv : Value) (k : Nat) : Prop := PMine nx wv kv k ∨ k = pb
structure CStp (nx pb : Nat) (w : World) (wv kv : Value) (w' : World) (wv' kv' : Value) : Prop where
  only : Only (CMine nx pb wv kv) w w'
  own : ∀ k, PMine nx wv' kv' k → PMine nx wv kv k ∨ w.heap.size ≤ k
section
variable {W w w' : World} {hb hx nx px pb : Nat} {xs ks : List Int} {M : List Nat} {wv kv : Value} {ys : List Int}
theorem Cs.lt (h : Cs W w hb hx nx px pb xs ks M wv kv ys) {k : Nat} (hk : CMine nx pb wv kv k) : k < w.heap.size := by
  rcases hk with hk | rfl
  · exact h.pil.mine_lt hk
  · obtain ⟨D, ⟨es, cl, hm, _⟩, _⟩ := h.map
    exact (Array.getElem?_eq_some_iff.1 hm).1
theorem Cs.kept {S : Nat → Prop} (h : Cs W w hb hx nx px pb xs ks M wv kv ys) (ho : Only S w w') (hS : ∀ k, CMine nx pb wv kv k → ¬ S k) (h1 : ¬ S hx) (h2 : ¬ S px) (hB : ∀ k, S k → W.heap.size ≤ k) : Cs W w' hb hx nx px pb xs ks M wv kv ys := by
  refine ⟨h.pil.kept ho fun k hk => hS k (Or.inl hk), ho.cellS h2 h.cp, ?_, ho.cellS h1 h.ch, h.below.trans (ho.below hB h.below.size), h.new, h.npb, h.len⟩
  obtain ⟨D, hD, hM⟩ := h.map
  exact ⟨D, ownsMap_same hD (ho.block pb (h.lt (Or.inr rfl)) (hS pb (Or.inr rfl))), hM⟩
theorem Cs.up (h : Cs W w hb hx nx px pb xs ks M wv kv ys) (hb' : Below w.heap.size w w') : Cs W w' hb hx nx px pb xs ks M wv kv ys := h.kept (S := fun _ => False) (Only.up hb') (fun _ _ f => f) (fun f => f) (fun f => f) (fun _ f => f.elim)
theorem CStp.up (hb' : Below w.heap.size w w') : CStp nx pb w wv kv w' wv kv := ⟨Only.up hb', fun _ h => Or.inl h⟩
theorem CStp.trans {w1 w2 : World} {wv1 kv1 wv2 kv2 : Value} (h : CStp nx pb w wv kv w1 wv1 kv1) (k : CStp nx pb w1 wv1 kv1 w2 wv2 kv2) : CStp nx pb w wv kv w2 wv2 kv2 :=
  ⟨h.only.trans k.only fun i hi => by
    rcases hi with hi | rfl
    · exact (h.own i hi).imp Or.inl id
    · exact Or.inl (Or.inr rfl), fun i hi => (k.own i hi).elim (h.own i) fun hh => Or.inr (Nat.le_trans h.only.size hh)⟩
end
end Go.Proofs.YtaiiicmldogjoaaDoor
