/-
  What a call is handed as a slice of structs, or as words, lies in memory as one.
-/
import Derived.Test.YtgfelddgiabeoaaKitWords
import Derived.Deep.Slices
import Derived.Deep.Fields
namespace Go.Proofs.Ytgfelddgiabeoaa
open Go.RowKit Go.Deep Go.ChangeShapes Go.WideShapes

section
variable {H : Type} {enc : TypeId × Value → H} {w : World} {base : Nat} {spare : Nat → Bool} {held : Bool}

theorem spot_free {w : World} {a : Addr} {v : Value} (h : w.cell? a = some v) : a.spot = none := by
  unfold World.cell? at h
  rcases hsp : a.spot with _ | s
  · rfl
  · exfalso
    rw [hsp] at h
    split at h <;> simp at h

set_option maxRecDepth 100000 in
/-- A slice that came in, each element of k cells, of which Good says what they are. -/
structure Els {E : Type} (w : World) (k : Nat) (Good : E → List Value → Prop) (L : List E) (a : Option Addr) : Prop where
  at_ : 0 < L.length → ∃ b o, a = some ⟨b, o, none⟩ ∧ b < w.heap.size ∧ ∀ i (h : i < L.length), ∃ us, us.length = k ∧ Good L[i] us ∧ ∀ j (hj : j < us.length), w.cell? ⟨b, o + (i * k + j), none⟩ = some us[j]
theorem rows_of {E : Type} {k : Nat} {e st : TypeId} (hst : Try.prog.underlying st = some (.slice e)) (hk : Try.prog.cellsOf e = k) (h0 : 0 < k) (Good : E → List Value → Prop)
    (ih : ∀ (n : Nat) (cs : List Value) (x : DataW H × List MemPlace), DataW.trod enc Try.prog w base spare held n e cs = some x → ∃ T, cs.length = k ∧ Good T cs)
    {fuel : Nat} {cs : List Value} {x : DataW H × List MemPlace} (h : DataW.trod enc Try.prog w base spare held fuel st cs = some x) : ∃ (L : List E) (a : Option Addr) (cap : Nat), cs = [.slice a L.length cap] ∧ L.length ≤ cap ∧ cap ≤ maxLen ∧ Els w k Good L a := by
  rcases DataW.trod_slice hst h with ⟨rfl, _⟩ | ⟨a, len, cap, elems, rest, n', hn, rfl, _, _, hle, hm, hlen, hel, _⟩
  · exact ⟨[], none, 0, rfl, Nat.le_refl _, by simp, ⟨fun h => absurd h (Nat.lt_irrefl _)⟩⟩
  · have key : ∀ i : Fin len, ∃ T, ∃ us : List Value, us.length = k ∧ Good T us ∧ ∀ j (hj : j < us.length), w.cell? ((a.add (i.1 * k)).add j) = some us[j] := by
      intro i
      have h1 := hel i.1 i.2
      rw [List.getElem?_eq_getElem (by omega), hk, Option.bind_eq_some_iff] at h1
      obtain ⟨cs', hc, ht⟩ := h1
      obtain ⟨T, hT1, hT2⟩ := ih _ _ _ ht
      obtain ⟨_, _, hat⟩ := World.cells?_some hc
      refine ⟨T, cs', hT1, hT2, fun j hj => ?_⟩
      have := hat j (by omega)
      rw [this]
      simp [hj]
    obtain ⟨f, hf⟩ := Classical.axiomOfChoice key
    refine ⟨List.ofFn f, some a, cap, by simp, by simpa using hle, hm, ⟨fun hpos => ?_⟩⟩
    have hpos' : 0 < len := by simpa using hpos
    obtain ⟨u0, hu0, _, hc0⟩ := hf ⟨0, hpos'⟩
    have c00 := hc0 0 (by omega)
    have hsp : a.spot = none := spot_free (v := u0[0]) (by simpa [Addr.add] using c00)
    obtain ⟨b, o, sp⟩ := a
    simp only at hsp
    subst hsp
    refine ⟨b, o, rfl, ?_, fun i hi => ?_⟩
    · have := World.block_lt_of_cell? w _ c00
      simpa [WideShapes.add_plain] using this
    · have hi' : i < len := by simpa using hi
      obtain ⟨us, h1, h2, h3⟩ := hf ⟨i, hi'⟩
      refine ⟨us, h1, by simpa using h2, fun j hj => ?_⟩
      have := h3 j hj
      simp only [WideShapes.add_plain] at this
      rwa [Nat.add_assoc] at this

theorem cells_word : Try.prog.cellsOf 74 = 1 := by kernel_rfl
set_option maxRecDepth 100000 in
/-- .. as an argument. -/
theorem open_rows {E : Type} {k : Nat} {e st : TypeId} (hst : Try.prog.underlying st = some (.slice e)) (hk : Try.prog.cellsOf e = k) (h0 : 0 < k) (Good : E → List Value → Prop)
    (ih : ∀ (n : Nat) (cs : List Value) (x : DataW H × List MemPlace), DataW.trod enc Try.prog w base spare held n e cs = some x → ∃ T, cs.length = k ∧ Good T cs)
    {r : Reach} {b0 : Nat} {v : Value} {d : DataW H} {p : List MemPlace} (hv : Value.okWide Try.prog w r b0 st v) (h : DataW.Trod enc Try.prog w base spare held st v d p) :
    ∃ (L : List E) (a : Option Addr) (cap : Nat), v = .slice a L.length cap ∧ L.length ≤ cap ∧ cap ≤ maxLen ∧ Els w k Good L a := by
  obtain ⟨a, len, cap, rfl⟩ := okWide_slice hst hv
  obtain ⟨fuel, hf⟩ := h
  obtain ⟨L, a', cap', hc, h1, h2, h3⟩ := rows_of hst hk h0 Good ih hf
  have hc' : Value.slice a len cap = .slice a' L.length cap' := by simpa [Value.cells] using hc
  exact ⟨L, a', cap', hc', h1, h2, h3⟩
end
end Go.Proofs.Ytgfelddgiabeoaa
