/-
  Which blocks a call has written; rows that a call owns.
-/
import Derived.Test.YtamafhcgjbkikaaDoorKitChain
import Derived.Maps.AppendAt
import Derived.Maps.OwnSet
import Derived.Deep.Slices
import Derived.Deep.Fields
namespace Go.Proofs.YtamafhcgjbkikaaDoor
open Go.RowKit Go.Deep Go.Maps Go.WideShapes

/-- Of what was there nothing has been written but blocks of S. -/
structure Only (S : Nat → Prop) (w w' : World) : Prop where
  os : w'.os = w.os
  tape : w'.tape = w.tape
  output : w'.output = w.output
  size : w.heap.size ≤ w'.heap.size
  block : ∀ k, k < w.heap.size → ¬ S k → w'.heap[k]? = w.heap[k]?
theorem Only.refl (S : Nat → Prop) (w : World) : Only S w w := ⟨rfl, rfl, rfl, Nat.le_refl _, fun _ _ _ => rfl⟩
theorem Only.trans {S S' : Nat → Prop} {a b c : World} (h : Only S a b) (k : Only S' b c) (hS : ∀ i, S' i → S i ∨ a.heap.size ≤ i) : Only S a c :=
  ⟨k.os.trans h.os, k.tape.trans h.tape, k.output.trans h.output, Nat.le_trans h.size k.size, fun i hi hn => (k.block i (Nat.lt_of_lt_of_le hi h.size) (fun hs => (hS i hs).elim hn (fun hh => by omega))).trans (h.block i hi hn)⟩
theorem Only.up {S : Nat → Prop} {w w' : World} (h : Below w.heap.size w w') : Only S w w' := ⟨h.os, h.tape, h.output, h.size, fun k hk _ => h.block k hk⟩
theorem Only.mono {S S' : Nat → Prop} {w w' : World} (h : Only S w w') (hS : ∀ k, S k → S' k) : Only S' w w' := ⟨h.os, h.tape, h.output, h.size, fun k hk hn => h.block k hk (fun hs => hn (hS k hs))⟩
theorem Only.grown {S : Nat → Prop} {w w' : World} {row : Option Nat} (h : w.grownBy w' row) (hS : ∀ k, row = some k → S k) : Only S w w' :=
  ⟨h.os, h.tape, h.output, h.size, fun k hk hn => h.block k hk (fun e => hn (hS k e.symm))⟩
theorem Only.set {S : Nat → Prop} (w : World) {p j : Nat} (v : Value) (hp : S p) : Only S w (w.setCell ⟨p, j, none⟩ v) :=
  ⟨rfl, rfl, rfl, by simp [World.setCell], fun k _ hn => Below.heap_setCell _ _ _ _ (fun e => hn (by rw [e]; exact hp))⟩
theorem Only.below {S : Nat → Prop} {w w' : World} {B : Nat} (h : Only S w w') (hS : ∀ k, S k → B ≤ k) (hB : B ≤ w.heap.size) : Below B w w' :=
  ⟨h.os, h.tape, h.output, h.size, fun k hk => h.block k (by omega) (fun hs => by have := hS k hs; omega)⟩
theorem Only.box {S : Nat → Prop} {w w' : World} {k : Nat} {o : Obj} (h : Only S w w') (hk : w.heap[k]? = some o) (hn : ¬ S k) : w'.heap[k]? = some o := (h.block k (Array.getElem?_eq_some_iff.1 hk).1 hn).trans hk
theorem Only.nothing {w w' : World} (h : Only (fun _ => False) w w') : Below w.heap.size w w' := ⟨h.os, h.tape, h.output, h.size, fun k hk => h.block k hk (fun f => f)⟩
theorem ownsMap_same {H : Type} {w w' : World} {b n : Nat} {D : DataW H} {k : TypeId} {R : Value → Option (DataW H × List MemPlace)} (h : w.ownsMap Tryd.prog k R b n D) (hb : w'.heap[b]? = w.heap[b]?) : w'.ownsMap Tryd.prog k R b n D := by
  obtain ⟨es, clock, h1, h2⟩ := h
  exact ⟨es, clock, hb.trans h1, h2⟩
theorem owns_slice {w : World} {base : Nat} {e : TypeId} {size : Nat} {v : Value} {n : Nat} {xs : List Value} (h : w.ownsRow base e size v n xs) : ∃ a cap, v = .slice a n cap := by
  rcases h.2 with ⟨rfl, rfl⟩ | ⟨g, cap, cur, rfl, _⟩
  · exact ⟨none, 0, rfl⟩
  · exact ⟨_, cap, rfl⟩
theorem wf_i64' {x : Int} (h0 : -9223372036854775808 ≤ x) (h1 : x ≤ 9223372036854775807) : (Lit.int .i64 x).wf = true := WalkArith.wf_i64 ⟨h0, h1⟩
theorem grown_box {w w2 : World} {r : Option Nat} {o o' : Obj} {k : Nat} (hg : (w.alloc o).grownBy w2 r) (hk : w.heap[k]? = some o') (hr : r ≠ some k) : w2.heap[k]? = some o' := by
  have hlt := (Array.getElem?_eq_some_iff.1 hk).1
  rw [hg.block k (by simp; omega) (fun e => hr e.symm), Below.heap_alloc _ _ _ hlt]
  exact hk
theorem ownsRow_up {w w' : World} {base : Nat} {e : TypeId} {size : Nat} {v : Value} {n : Nat} {xs : List Value} (h : w.ownsRow base e size v n xs) (hb : Below w.heap.size w w') : w'.ownsRow base e size v n xs :=
  h.kept (row := none) ⟨hb.os, hb.tape, hb.output, hb.size, fun k hk _ => hb.block k hk⟩ (by cases hv : v.ownBlock <;> simp)
theorem Only.drew {S : Nat → Prop} {w w' : World} (h : Only S w w') : Only S w w'.drew := ⟨h.os, h.tape, h.output, h.size, h.block⟩
theorem Only.call {S : Nat → Prop} {a b c : World} (h : Only S a b) (hb : Below b.heap.size b c) : Only S a c := h.trans (S' := fun _ => False) (Only.up hb) (fun _ f => f.elim)
theorem Only.put {S : Nat → Prop} {a b : World} {p : Nat} (h : Only S a b) (hp : S p) (j : Nat) (v : Value) : Only S a (b.setCell ⟨p, j, none⟩ v) := h.trans (S' := fun k => k = p) (Only.set b v rfl) (fun _ e => Or.inl (e ▸ hp))
theorem Only.cell {B : Nat} {w w' : World} (h : Only (fun k => k = B) w w') {b o : Nat} {u : Value} (hb : b ≠ B) (hc : w.cell? ⟨b, o, none⟩ = some u) : w'.cell? ⟨b, o, none⟩ = some u := by
  rw [World.cell?_of_block (w := w) (a := ⟨b, o, none⟩) (h.block b (World.block_lt_of_cell? w ⟨b, o, none⟩ hc) hb)]
  exact hc
theorem grownBy_refl (w : World) (r : Option Nat) : w.grownBy w r := ⟨rfl, rfl, rfl, Nat.le_refl _, fun _ _ _ => rfl⟩
theorem Only.cellS {S : Nat → Prop} {w w' : World} (h : Only S w w') {b o : Nat} {u : Value} (hb : ¬ S b) (hc : w.cell? ⟨b, o, none⟩ = some u) : w'.cell? ⟨b, o, none⟩ = some u := by
  rw [World.cell?_of_block (w := w) (a := ⟨b, o, none⟩) (h.block b (World.block_lt_of_cell? w ⟨b, o, none⟩ hc) hb)]
  exact hc
theorem Only.grow {S : Nat → Prop} {row : Option Nat} {w w1 w' : World} (h : Only S w w1) (hg : w1.grownBy w' row) (hS : ∀ k, row = some k → S k) : Only S w w' := h.trans (Only.grown (S := S) hg hS) (fun _ h => Or.inl h)

end Go.Proofs.YtamafhcgjbkikaaDoor
