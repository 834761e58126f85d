/-
  A heap in memory: its box, its words, its kinds, its table; what stays where a call writes other blocks.
-/
import Derived.Test.YtaiiicmldogjoaaDoorZHeapPlain
import Derived.Test.YtaiiicmldogjoaaDoorZKitKinds
import Derived.Test.YtaiiicmldogjoaaDoorZKitLast
import Derived.Test.YtaiiicmldogjoaaDoorZWordLaws
import Derived.Test.YtaiiicmldogjoaaDoorZKitBase
import Derived.Test.YtaiiicmldogjoaaDoorZFlatRow
namespace Go.Proofs.YtaiiicmldogjoaaDoor
open Go.RowKit Go.Deep Go.Maps Go.WideShapes

/-- Words and their kinds, in two cells. -/
structure Pil (w : World) (b o : Nat) (wv kv : Value) (xs ks : List Int) : Prop where
  c0 : w.cell? ⟨b, o, none⟩ = some wv
  c1 : w.cell? ⟨b, o + 1, none⟩ = some kv
  f0 : w.frozen? ⟨b, o, none⟩ = false
  f1 : w.frozen? ⟨b, o + 1, none⟩ = false
  row : Wds w wv xs
  kin : Kds w kv ks
  n0 : wv.ownBlock ≠ some b
  n1 : kv.ownBlock ≠ some b
  n2 : ∀ g, wv.ownBlock = some g → kv.ownBlock ≠ some g
/-- The blocks of a pile. -/
def PMine (b : Nat) (wv kv : Value) (k : Nat) : Prop := k = b ∨ wv.ownBlock = some k ∨ kv.ownBlock = some k
/-- What adding to a pile has written. -/
structure PStp (b o : Nat) (w : World) (wv kv : Value) (w' : World) (wv' kv' : Value) : Prop where
  only : Only (PMine b wv kv) w w'
  rest : ∀ j, j ≠ o → j ≠ o + 1 → w'.cell? ⟨b, j, none⟩ = w.cell? ⟨b, j, none⟩
  own : ∀ k, wv'.ownBlock = some k ∨ kv'.ownBlock = some k → (wv.ownBlock = some k ∨ kv.ownBlock = some k) ∨ w.heap.size ≤ k

section
variable {w w' : World} {b o : Nat} {wv kv : Value} {xs ks : List Int}
theorem Only.frozenS {S : Nat → Prop} (h : Only S w w') {b o : Nat} {u : Bool} (hl : b < w.heap.size) (hb : ¬ S b) (hc : w.frozen? ⟨b, o, none⟩ = u) : w'.frozen? ⟨b, o, none⟩ = u := by
  rw [World.frozen?_of_block (w := w) (a := ⟨b, o, none⟩) (h.block b hl hb)]
  exact hc
theorem Pil.lt (h : Pil w b o wv kv xs ks) : b < w.heap.size := World.block_lt_of_cell? w ⟨b, o, none⟩ h.c0
theorem Pil.kept {S : Nat → Prop} (h : Pil w b o wv kv xs ks) (ho : Only S w w') (hS : ∀ k, PMine b wv kv k → ¬ S k) : Pil w' b o wv kv xs ks :=
  ⟨ho.cellS (hS b (Or.inl rfl)) h.c0, ho.cellS (hS b (Or.inl rfl)) h.c1, ho.frozenS h.lt (hS b (Or.inl rfl)) h.f0, ho.frozenS h.lt (hS b (Or.inl rfl)) h.f1,
    h.row.kept ho fun g hg => hS g (Or.inr (Or.inl hg)), h.kin.kept ho fun g hg => hS g (Or.inr (Or.inr hg)), h.n0, h.n1, h.n2⟩
theorem Pil.up (h : Pil w b o wv kv xs ks) (hb : Below w.heap.size w w') : Pil w' b o wv kv xs ks := h.kept (S := fun _ => False) (Only.up hb) fun _ _ f => f
theorem Pil.mine_lt (h : Pil w b o wv kv xs ks) {k : Nat} (hk : PMine b wv kv k) : k < w.heap.size := by
  rcases hk with rfl | hk | hk
  · exact h.lt
  · exact h.row.block_lt hk
  · exact h.kin.block_lt hk
end

/-- A heap: its box at hb, its table at p, its words' row wv, its kinds' row kv. -/
structure Hea (w : World) (hb p bm : Nat) (v : Value) (L : List ByteArray) (M : Nat) (wv kv : Value) (xs ks : List Int) : Prop where
  tab : Tab w p bm v L
  c0 : w.cell? ⟨hb, 0, none⟩ = some (.pointer (some ⟨hb, 0, none⟩))
  c1 : w.cell? ⟨hb, 1, none⟩ = some (.pointer (some ⟨p, 0, none⟩))
  c2 : w.cell? ⟨hb, 2, none⟩ = some (.int .i64 M)
  pil : Pil w hb 3 wv kv xs ks
  nb : ¬ Mine p bm v hb
  nr : ∀ g, wv.ownBlock = some g ∨ kv.ownBlock = some g → ¬ Mine p bm v g
  wt : WordTab w
  st : ShapeTab w
  gw : ¬ (Mine p bm v 1 ∨ PMine hb wv kv 1)
  gs : ¬ (Mine p bm v 0 ∨ PMine hb wv kv 0)
  len : ks.length = xs.length
  m0 : xs.length ≤ M
  m1 : M ≤ 1000000
/-- The blocks of a heap, and of its table. -/
def HOwn (hb p bm : Nat) (v wv kv : Value) (k : Nat) : Prop := Mine p bm v k ∨ PMine hb wv kv k
/-- A step of a heap: what was written, which blocks are its own then. -/
structure Stp (hb p bm : Nat) (w : World) (v wv kv : Value) (w' : World) (v' wv' kv' : Value) : Prop where
  only : Only (HOwn hb p bm v wv kv) w w'
  own : ∀ k, HOwn hb p bm v' wv' kv' k → HOwn hb p bm v wv kv k ∨ w.heap.size ≤ k

theorem ShapeTab.kept {B : Nat → Prop} {w0 w : World} (h : ShapeTab w0) (ho : Only B w0 w) (hB : ¬ B 0) : ShapeTab w :=
  ⟨fun k j hk hj => by rw [World.cell?_of_block (w := w0) (a := ⟨0, k * 6 + j, none⟩) (ho.block _ h.size hB)]; exact h.cell k j hk hj, Nat.lt_of_lt_of_le h.size ho.size⟩
section
variable {w w' : World} {hb p bm : Nat} {v wv kv : Value} {L : List ByteArray} {M : Nat} {xs ks : List Int}
theorem Hea.own_lt (h : Hea w hb p bm v L M wv kv xs ks) {k : Nat} (hk : HOwn hb p bm v wv kv k) : k < w.heap.size := hk.elim h.tab.lt h.pil.mine_lt
theorem Hea.kept {S : Nat → Prop} (h : Hea w hb p bm v L M wv kv xs ks) (ho : Only S w w') (hS : ∀ k, HOwn hb p bm v wv kv k → ¬ S k) (h0 : ¬ S 1) (h1 : ¬ S 0) : Hea w' hb p bm v L M wv kv xs ks :=
  have hh := hS hb (Or.inr (Or.inl rfl))
  ⟨h.tab.kept ho fun k hk => hS k (Or.inl hk), ho.cellS hh h.c0, ho.cellS hh h.c1, ho.cellS hh h.c2, h.pil.kept ho fun k hk => hS k (Or.inr hk), h.nb, h.nr, h.wt.kept ho h0, h.st.kept ho h1, h.gw, h.gs, h.len, h.m0, h.m1⟩
theorem Hea.up (h : Hea w hb p bm v L M wv kv xs ks) (hb' : Below w.heap.size w w') : Hea w' hb p bm v L M wv kv xs ks := h.kept (S := fun _ => False) (Only.up hb') (fun _ _ f => f) (fun f => f) (fun f => f)
theorem Stp.refl (hb p bm : Nat) (w : World) (v wv kv : Value) : Stp hb p bm w v wv kv w v wv kv := ⟨Only.refl _ _, fun _ h => Or.inl h⟩
theorem Stp.up (hb' : Below w.heap.size w w') : Stp hb p bm w v wv kv w' v wv kv := ⟨Only.up hb', fun _ h => Or.inl h⟩
theorem Stp.trans {w1 w2 : World} {v1 wv1 kv1 v2 wv2 kv2 : Value} (h : Stp hb p bm w v wv kv w1 v1 wv1 kv1) (k : Stp hb p bm w1 v1 wv1 kv1 w2 v2 wv2 kv2) : Stp hb p bm w v wv kv w2 v2 wv2 kv2 :=
  ⟨h.only.trans k.only h.own, fun i hi => (k.own i hi).elim (h.own i) fun hh => Or.inr (Nat.le_trans h.only.size hh)⟩
theorem Stp.then_ {w1 w2 : World} {v1 wv1 kv1 : Value} (h : Stp hb p bm w v wv kv w1 v1 wv1 kv1) (hb' : Below w1.heap.size w1 w2) : Stp hb p bm w v wv kv w2 v1 wv1 kv1 := h.trans (Stp.up hb')
theorem Stp.after {w1 w2 : World} {v1 wv1 kv1 : Value} (hb' : Below w.heap.size w w1) (h : Stp hb p bm w1 v wv kv w2 v1 wv1 kv1) : Stp hb p bm w v wv kv w2 v1 wv1 kv1 := (Stp.up hb').trans h
/-- What lies beside a heap stays. -/
theorem Stp.cell {w1 : World} {v1 wv1 kv1 : Value} (h : Stp hb p bm w v wv kv w1 v1 wv1 kv1) {b o : Nat} {u : Value} (hn : ¬ HOwn hb p bm v wv kv b) (hc : w.cell? ⟨b, o, none⟩ = some u) : w1.cell? ⟨b, o, none⟩ = some u := h.only.cellS hn hc
/-- Atoms put into the table. -/
theorem Hea.left {L' : List ByteArray} (h : Hea w hb p bm v L M wv kv xs ks) (hl : Left w p bm v L' w') : ∃ v', Hea w' hb p bm v' L' M wv kv xs ks ∧ Stp hb p bm w v wv kv w' v' wv kv := by
  obtain ⟨v', ht, ho, hv⟩ := hl
  have hm : ∀ k, k < w.heap.size → Mine p bm v' k → Mine p bm v k := fun k hk hmk => by
    rcases hmk with hmk | hmk | hmk
    · exact Or.inl hmk
    · exact Or.inr (Or.inl hmk)
    · rcases hv k hmk with hh | hh
      · exact Or.inr (Or.inr hh)
      · omega
  have nw0 := h.wt.size
  have ns0 := h.st.size
  refine ⟨v', ⟨ht, ho.cellS h.nb h.c0, ho.cellS h.nb h.c1, ho.cellS h.nb h.c2, h.pil.kept ho ?_, fun hk => h.nb (hm _ h.pil.lt hk), fun g hg hk => h.nr g hg (hm g (h.pil.mine_lt (Or.inr hg)) hk), h.wt.kept ho fun hk => h.gw (Or.inl hk), h.st.kept ho fun hk => h.gs (Or.inl hk),
    fun hk => h.gw (hk.imp (hm _ nw0) id), fun hk => h.gs (hk.imp (hm _ ns0) id), h.len, h.m0, h.m1⟩, ho.mono fun k hk => Or.inl hk, ?_⟩
  · intro k hk
    rcases hk with rfl | hk
    · exact h.nb
    · exact h.nr k hk
  · intro k hk
    rcases hk with (hk | hk | hk) | hk
    · exact Or.inl (Or.inl (Or.inl hk))
    · exact Or.inl (Or.inl (Or.inr (Or.inl hk)))
    · rcases hv k hk with hh | hh
      · exact Or.inl (Or.inl (Or.inr (Or.inr hh)))
      · exact Or.inr hh
    · exact Or.inl (Or.inr hk)
/-- The pile of a heap added to. -/
theorem Hea.piled {wv' kv' : Value} {xs' ks' : List Int} (h : Hea w hb p bm v L M wv kv xs ks) (hp : Pil w' hb 3 wv' kv' xs' ks') (hs : PStp hb 3 w wv kv w' wv' kv') (hl : ks'.length = xs'.length) (hm : xs'.length ≤ M) :
    Hea w' hb p bm v L M wv' kv' xs' ks' ∧ Stp hb p bm w v wv kv w' v wv' kv' := by
  have ho := hs.only
  have nm : ∀ k, Mine p bm v k → ¬ PMine hb wv kv k := fun k hk hq => by
    rcases hq with rfl | hq
    · exact h.nb hk
    · exact h.nr k hq hk
  have own : ∀ k, PMine hb wv' kv' k → PMine hb wv kv k ∨ w.heap.size ≤ k := fun k hk => by
    rcases hk with rfl | hk
    · exact Or.inl (Or.inl rfl)
    · exact (hs.own k hk).imp (fun h => Or.inr h) id
  have old : ∀ k, k < w.heap.size → PMine hb wv' kv' k → PMine hb wv kv k := fun k hk hq => (own k hq).elim id fun hh => by omega
  refine ⟨⟨h.tab.kept ho nm, (hs.rest 0 (by decide) (by decide)).trans h.c0, (hs.rest 1 (by decide) (by decide)).trans h.c1, (hs.rest 2 (by decide) (by decide)).trans h.c2, hp, h.nb, fun g hg hk => ?_, h.wt.kept ho fun hk => h.gw (Or.inr hk), h.st.kept ho fun hk => h.gs (Or.inr hk),
    fun hk => h.gw (hk.imp id (old _ h.wt.size)), fun hk => h.gs (hk.imp id (old _ h.st.size)), hl, hm, h.m1⟩, ho.mono fun k hk => Or.inr hk, fun k hk => ?_⟩
  · rcases hs.own g hg with hh | hh
    · exact h.nr g hh hk
    · have := h.tab.lt hk
      omega
  · rcases hk with hk | hk
    · exact Or.inl (Or.inl hk)
    · exact (own k hk).imp (fun h => Or.inr h) id
end
end Go.Proofs.YtaiiicmldogjoaaDoor
