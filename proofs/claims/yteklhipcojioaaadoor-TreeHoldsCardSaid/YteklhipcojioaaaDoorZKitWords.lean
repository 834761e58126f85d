/-
  Rows of words: a call's own ones, those that came in; words appended.
-/
import Derived.Test.YteklhipcojioaaaDoorZKitRegion
import Derived.Lib.AppendZerosOnto
import Derived.OwnWalk
import Derived.Deep.Slices
import Derived.Deep.Fields
import Derived.Test.YteklhipcojioaaaDoorZTreeHo
import Derived.Test.YteklhipcojioaaaDoorZTermOpen
namespace Go.Proofs.YteklhipcojioaaaDoor
open Go.RowKit Go.Deep Go.Maps Go.WideShapes Go.ChangeShapes

/-- .. and of nothing. -/
theorem run_append_own_none {P : Program} (w : World) (base : Nat) (t ty e : TypeId) (i : TypeInfo) (size : Nat) (ht : P.underlying t = some (.slice e)) (hi : P.info? e = some i)
    (v : Value) (n : Nat) (xs : List Value) (hown : w.ownsRow base e size v n xs) :
    (Builtin.append_ #[t, t] ty #[v, .slice none 0 0]).run P w = .ok v w := by
  obtain ⟨a, cap, rfl⟩ := owns_slice hown
  have hcap : n ≤ cap := by
    rcases hown.2 with ⟨h, h'⟩ | ⟨g, cap', cur, h, _, _, hc, _⟩
    · omega
    · cases h; exact hc
  cases a with
  | none => simp [Builtin.append_, run_underlying ht, sizeOf, typeInfo, hi, Builtin.lenOf, Builtin.firstCells, hcap]
  | some a => simp [Builtin.append_, run_underlying ht, sizeOf, typeInfo, hi, Builtin.lenOf, Builtin.firstCells, hcap, storeCells]
/-- Words that came in. -/
structure Wrd (w : World) (xs : List Int) (a : Option Addr) (cap : Nat) : Prop where
  len : xs.length ≤ cap ∧ cap ≤ 9223372036854775807
  rng : ∀ x ∈ xs, 0 ≤ x ∧ x < 18446744073709551616
  cells : 0 < xs.length → ∃ b o, a = some ⟨b, o, none⟩ ∧ ∀ j (h : j < xs.length), w.cell? ⟨b, o + j, none⟩ = some (.int .u64 xs[j])
/-- Words that lie behind an address. -/
def Cel (w : World) (xs : List Int) (a : Option Addr) : Prop := 0 < xs.length → ∃ b o, a = some ⟨b, o, none⟩ ∧ ∀ j (h : j < xs.length), w.cell? ⟨b, o + j, none⟩ = some (.int .u64 xs[j])
theorem Cel.up {w w' : World} {xs : List Int} {a : Option Addr} (h : Cel w xs a) (hb : Below w.heap.size w w') : Cel w' xs a := fun h0 => by
  obtain ⟨b, o, e, hc⟩ := h h0
  exact ⟨b, o, e, fun j hj => cell_below hb _ _ _ (hc j hj)⟩
theorem Wrd.cel {w : World} {xs : List Int} {a : Option Addr} {cap : Nat} (h : Wrd w xs a cap) : Cel w xs a := h.cells
/-- A block with words in it, beside a table. -/
theorem cel_at {w : World} {g : Nat} {xs : List Int} {t : TypeId} (h : w.heap[g]? = some (.cells (xs.map (Value.int .u64)).toArray t)) : Cel w xs (some ⟨g, 0, none⟩) := fun _ =>
  ⟨g, 0, rfl, fun j hj => by simp [World.cell?, h, hj]⟩
theorem Wrd.lt {w : World} {xs : List Int} {la : Option Addr} {cap : Nat} (h : Wrd w xs la cap) (h0 : 0 < xs.length) {ad : Addr} (e : la = some ad) : ad.block < w.heap.size := by
  obtain ⟨b, o, e', hc⟩ := h.cells h0
  rw [e] at e'
  cases e'
  have := World.block_lt_of_cell? w _ (hc 0 h0)
  exact this
theorem Wrd.only {P : Nat → Prop} {w w' : World} {xs : List Int} {la : Option Addr} {cap : Nat} (h : Wrd w xs la cap) (o : Only P w w') (hS : ∀ ad, la = some ad → 0 < xs.length → ¬ P ad.block) : Wrd w' xs la cap :=
  ⟨h.len, h.rng, fun h0 => by
    obtain ⟨b, oo, e, hc⟩ := h.cells h0
    exact ⟨b, oo, e, fun j hj => o.cellS (hS _ e h0) (hc j hj)⟩⟩
theorem Wrd.below {w w' : World} {xs : List Int} {la : Option Addr} {lcap : Nat} (h : Wrd w xs la lcap) (hb : Below w.heap.size w w') : Wrd w' xs la lcap :=
  ⟨h.len, h.rng, fun h0 => by
    obtain ⟨b, o, e, hc⟩ := h.cells h0
    exact ⟨b, o, e, fun j hj => cell_below hb _ _ _ (hc j hj)⟩⟩
end Go.Proofs.YteklhipcojioaaaDoor

/-
  What a call is handed as a slice of structs, or as words, lies in memory as one.
-/
namespace Go.Proofs.YteklhipcojioaaaDoor
open Go.RowKit Go.Deep Go.ChangeShapes Go.WideShapes

section
variable {H : Type} {enc : TypeId × Value → H} {w : World} {base : Nat} {spare : Nat → Bool} {held : Bool}

theorem spot_free {w : World} {a : Addr} {v : Value} (h : w.cell? a = some v) : a.spot = none := by
  unfold World.cell? at h
  rcases hsp : a.spot with _ | s
  · rfl
  · exfalso
    rw [hsp] at h
    split at h <;> simp at h

set_option maxRecDepth 100000 in
/-- A slice that came in, each element of k cells, of which Good says what they are. -/
structure Els {E : Type} (w : World) (k : Nat) (Good : E → List Value → Prop) (L : List E) (a : Option Addr) : Prop where
  at_ : 0 < L.length → ∃ b o, a = some ⟨b, o, none⟩ ∧ b < w.heap.size ∧ ∀ i (h : i < L.length), ∃ us, us.length = k ∧ Good L[i] us ∧ ∀ j (hj : j < us.length), w.cell? ⟨b, o + (i * k + j), none⟩ = some us[j]
theorem rows_of {E : Type} {k : Nat} {e st : TypeId} (hst : Tryd.prog.underlying st = some (.slice e)) (hk : Tryd.prog.cellsOf e = k) (h0 : 0 < k) (Good : E → List Value → Prop)
    (ih : ∀ (n : Nat) (cs : List Value) (x : DataW H × List MemPlace), DataW.trod enc Tryd.prog w base spare held n e cs = some x → ∃ T, cs.length = k ∧ Good T cs)
    {fuel : Nat} {cs : List Value} {x : DataW H × List MemPlace} (h : DataW.trod enc Tryd.prog w base spare held fuel st cs = some x) : ∃ (L : List E) (a : Option Addr) (cap : Nat), cs = [.slice a L.length cap] ∧ L.length ≤ cap ∧ cap ≤ maxLen ∧ Els w k Good L a := by
  rcases DataW.trod_slice hst h with ⟨rfl, _⟩ | ⟨a, len, cap, elems, rest, n', hn, rfl, _, _, hle, hm, hlen, hel, _⟩
  · exact ⟨[], none, 0, rfl, Nat.le_refl _, by simp, ⟨fun h => absurd h (Nat.lt_irrefl _)⟩⟩
  · have key : ∀ i : Fin len, ∃ T, ∃ us : List Value, us.length = k ∧ Good T us ∧ ∀ j (hj : j < us.length), w.cell? ((a.add (i.1 * k)).add j) = some us[j] := by
      intro i
      have h1 := hel i.1 i.2
      rw [List.getElem?_eq_getElem (by omega), hk, Option.bind_eq_some_iff] at h1
      obtain ⟨cs', hc, ht⟩ := h1
      obtain ⟨T, hT1, hT2⟩ := ih _ _ _ ht
      obtain ⟨_, _, hat⟩ := World.cells?_some hc
      refine ⟨T, cs', hT1, hT2, fun j hj => ?_⟩
      have := hat j (by omega)
      rw [this]
      simp [hj]
    obtain ⟨f, hf⟩ := Classical.axiomOfChoice key
    refine ⟨List.ofFn f, some a, cap, by simp, by simpa using hle, hm, ⟨fun hpos => ?_⟩⟩
    have hpos' : 0 < len := by simpa using hpos
    obtain ⟨u0, hu0, _, hc0⟩ := hf ⟨0, hpos'⟩
    have c00 := hc0 0 (by omega)
    have hsp : a.spot = none := spot_free (v := u0[0]) (by simpa [Addr.add] using c00)
    obtain ⟨b, o, sp⟩ := a
    simp only at hsp
    subst hsp
    refine ⟨b, o, rfl, ?_, fun i hi => ?_⟩
    · have := World.block_lt_of_cell? w _ c00
      simpa [WideShapes.add_plain] using this
    · have hi' : i < len := by simpa using hi
      obtain ⟨us, h1, h2, h3⟩ := hf ⟨i, hi'⟩
      refine ⟨us, h1, by simpa using h2, fun j hj => ?_⟩
      have := h3 j hj
      simp only [WideShapes.add_plain] at this
      rwa [Nat.add_assoc] at this

set_option maxRecDepth 100000 in
/-- .. as an argument. -/
theorem open_rows {E : Type} {k : Nat} {e st : TypeId} (hst : Tryd.prog.underlying st = some (.slice e)) (hk : Tryd.prog.cellsOf e = k) (h0 : 0 < k) (Good : E → List Value → Prop)
    (ih : ∀ (n : Nat) (cs : List Value) (x : DataW H × List MemPlace), DataW.trod enc Tryd.prog w base spare held n e cs = some x → ∃ T, cs.length = k ∧ Good T cs)
    {r : Reach} {b0 : Nat} {v : Value} {d : DataW H} {p : List MemPlace} (hv : Value.okWide Tryd.prog w r b0 st v) (h : DataW.Trod enc Tryd.prog w base spare held st v d p) :
    ∃ (L : List E) (a : Option Addr) (cap : Nat), v = .slice a L.length cap ∧ L.length ≤ cap ∧ cap ≤ maxLen ∧ Els w k Good L a := by
  obtain ⟨a, len, cap, rfl⟩ := okWide_slice hst hv
  obtain ⟨fuel, hf⟩ := h
  obtain ⟨L, a', cap', hc, h1, h2, h3⟩ := rows_of hst hk h0 Good ih hf
  have hc' : Value.slice a len cap = .slice a' L.length cap' := by simpa [Value.cells] using hc
  exact ⟨L, a', cap', hc', h1, h2, h3⟩
end
end Go.Proofs.YteklhipcojioaaaDoor

/-
  Rows of truths, as they come in.
-/
namespace Go.Proofs.YteklhipcojioaaaDoor
open Go.RowKit Go.Deep Go.ChangeShapes Go.WideShapes

theorem cells_bool11 : Tryd.prog.cellsOf 4 = 1 := by kernel_rfl
section
variable {H : Type} {enc : TypeId × Value → H} {w : World} {base : Nat} {spare : Nat → Bool} {held : Bool}
set_option maxRecDepth 100000 in
theorem open_bools11 {r : Reach} {b0 : Nat} {v : Value} {d : DataW H} {p : List MemPlace} (hv : Value.okWide Tryd.prog w r b0 60 v) (h : DataW.Trod enc Tryd.prog w base spare held 60 v d p) :
    ∃ (B : List Bool) (a : Option Addr) (cap : Nat), v = .slice a B.length cap ∧ CelB w B a := by
  obtain ⟨B, a, cap, h1, _, _, h2⟩ := open_rows (k := 1) Tryd.underlying60 cells_bool11 (by decide) (fun b us => us = [.bool b]) (fun n cs x hx => by
    obtain ⟨b, h1, _⟩ := DataW.trod_bool Tryd.underlying4 hx
    exact ⟨b, by rw [h1]; rfl, h1⟩) hv h
  refine ⟨B, a, cap, h1, fun h0 => ?_⟩
  obtain ⟨b, o, ha, _, hel⟩ := h2.at_ h0
  refine ⟨b, o, ha, fun j hj => ?_⟩
  obtain ⟨us, _, rfl, hc⟩ := hel j hj
  have := hc 0 (by simp)
  simpa using this
end
end Go.Proofs.YteklhipcojioaaaDoor
