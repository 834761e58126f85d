/-
  Bytes in memory; the document's Mix, walked.
-/
import Derived.Test.YtnelefokpopfdaaDoorHashPlain
import Derived.Test.YtnelefokpopfdaaDoorTermAwake
import Derived.Laws.Bits64
namespace Go.Proofs.YtnelefokpopfdaaDoor
open Go.RowKit Go.Deep

/-- A slice of bytes. -/
def Byt (w : World) (S : Nat → Prop) (bs : List UInt8) (a : Option Addr) (cap : Nat) : Prop :=
  bs.length ≤ cap ∧ cap ≤ 9223372036854775807 ∧ ((a = none ∧ bs = [] ∧ cap = 0) ∨ ∃ p : Addr, a = some p ∧ (bs ≠ [] → S p.block ∧ p.spot = none) ∧ ∀ j (h : j < bs.length), w.cell? ⟨p.block, p.off + j, none⟩ = some (.int .u8 bs[j].toNat))
theorem Byt.some {w : World} {S : Nat → Prop} {bs : List UInt8} {a : Option Addr} {cap : Nat} (h : Byt w S bs a cap) (hl : 0 < bs.length) :
    ∃ b o, a = some ⟨b, o, none⟩ ∧ S b ∧ ∀ j (h : j < bs.length), w.cell? ⟨b, o + j, none⟩ = some (.int .u8 bs[j].toNat) := by
  obtain ⟨_, _, ⟨_, rfl, _⟩ | ⟨⟨b, o, sp⟩, rfl, hs, hr⟩⟩ := h
  · cases hl
  · obtain ⟨hp, rfl⟩ : S b ∧ sp = none := hs (fun e => by subst e; cases hl)
    exact ⟨b, o, rfl, hp, hr⟩
theorem Byt.below {w w' : World} {S : Nat → Prop} {bs : List UInt8} {a : Option Addr} {cap : Nat} (h : Byt w S bs a cap) (hb : Below w.heap.size w w') : Byt w' S bs a cap := by
  obtain ⟨h1, h2, h3⟩ := h
  refine ⟨h1, h2, ?_⟩
  rcases h3 with h3 | ⟨p, rfl, hs, hr⟩
  · exact Or.inl h3
  · exact Or.inr ⟨p, rfl, hs, fun j h => cell_below hb _ _ _ (hr j h)⟩

/-- A mix goes on by a byte. -/
def mix1 (h : Int) (b : UInt8) : Int := IntKind.u32.wrap (bits .xor .u32 h (b.toNat : Int) * 16777619)
def mixT (h : Int) (bs : List UInt8) : Int := bs.foldl mix1 h
theorem mixT_take (h : Int) (bs : List UInt8) (i : Nat) (hi : i < bs.length) : mixT h (bs.take (i + 1)) = mix1 (mixT h (bs.take i)) bs[i] := by
  unfold mixT
  rw [List.take_succ_eq_append_getElem hi, List.foldl_append]
  rfl
theorem wrap_u32 (n : Int) : IntKind.u32.wrap n = n % 4294967296 := by simp [IntKind.wrap, IntKind.bits, IntKind.signed]
theorem mixT_range (h : Int) (bs : List UInt8) (h0 : 0 ≤ h) (h1 : h < 4294967296) : 0 ≤ mixT h bs ∧ mixT h bs < 4294967296 := by
  have : ∀ (bs : List UInt8) (h : Int), 0 ≤ h ∧ h < 4294967296 → 0 ≤ bs.foldl mix1 h ∧ bs.foldl mix1 h < 4294967296 := by
    intro bs
    induction bs with
    | nil => intro h hh; exact hh
    | cons b r ih => intro h _; exact ih _ (by unfold mix1; rw [wrap_u32]; omega)
  exact this bs h ⟨h0, h1⟩

end Go.Proofs.YtnelefokpopfdaaDoor
