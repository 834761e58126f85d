/-
  A slice of bytes that a call is handed: its bytes lie in memory.
-/
import Derived.Test.YtnelefokpopfdaaHashMix
import Derived.Deep.Slices
import Derived.Deep.Fields
namespace Go.Proofs.Ytnelefokpopfdaa
open Go.ChangeShapes Go.WideShapes Go.RowKit Go.Deep

theorem cells_byte : Try.prog.cellsOf 5 = 1 := by kernel_rfl

section
variable {H : Type} {enc : TypeId × Value → H} {w : World} {base : Nat} {spare : Nat → Bool} {held : Bool}

theorem open_bytes {r : Reach} {b0 : Nat} {v : Value} {d : DataW H} {p : List MemPlace} (hv : Value.okWide Try.prog w r b0 23 v) (h : DataW.Trod enc Try.prog w base spare held 23 v d p) :
    ∃ (bs : List UInt8) (a : Option Addr) (cap : Nat), v = .slice a bs.length cap ∧ Byt w (fun _ => True) bs a cap := by
  obtain ⟨a, len, cap, rfl⟩ := okWide_slice Try.underlying23 hv
  obtain ⟨fuel, hf⟩ := h
  rcases open_ints Try.underlying23 Try.underlying5 cells_byte hf with ⟨hc, _⟩ | ⟨a', len', cap', zs, hc, _, hle, hm, hz, _, hcell, hw⟩
  · have hc' : Value.slice a len cap = .slice none 0 0 := by simpa [Value.cells] using hc
    obtain ⟨rfl, rfl, rfl⟩ := by simpa using hc'
    exact ⟨[], none, 0, rfl, Nat.le_refl _, by omega, Or.inl ⟨rfl, rfl, rfl⟩⟩
  · have hc' : Value.slice a len cap = .slice (some a') len' cap' := by simpa [Value.cells] using hc
    obtain ⟨rfl, rfl, rfl⟩ := by simpa using hc'
    have hlz : len ≤ zs.length := by rw [hz]; split <;> omega
    have hlb : ((zs.take len).map fun z => UInt8.ofNat z.toNat).length = len := by rw [List.length_map, List.length_take]; omega
    have hspot : 0 < zs.length → a'.spot = none := fun h0 => by
      have hc0 := hcell 0 h0
      have hs : (a'.add 0).spot = a'.spot := by unfold Addr.add; simp
      unfold World.cell? at hc0
      rw [hs] at hc0
      rcases hsp : a'.spot with _ | s
      · rfl
      · exfalso
        rw [hsp] at hc0
        split at hc0 <;> simp at hc0
    refine ⟨(zs.take len).map fun z => UInt8.ofNat z.toNat, some a', cap, by rw [hlb], by rw [hlb]; exact hle, by unfold maxLen at hm; omega, Or.inr ⟨_, rfl, fun hne => ⟨trivial, hspot ?_⟩, fun j hj => ?_⟩⟩
    · rcases Nat.eq_zero_or_pos zs.length with h | h
      · obtain rfl := List.eq_nil_of_length_eq_zero h
        simp at hne
      · exact h
    · have hj' : j < len := by rw [hlb] at hj; exact hj
      have hcj := hcell j (by omega)
      have hspot := hspot (by omega)
      have hadd : a'.add j = ⟨a'.block, a'.off + j, none⟩ := by
        obtain ⟨b, o, sp⟩ := a'
        simp only at hspot
        subst hspot
        exact add_plain _ _ _
      rw [hadd] at hcj
      rw [hcj]
      have hb := bounds_u8 (hw zs[j] (List.getElem_mem (by omega)))
      simp only [List.getElem_map, List.getElem_take, List.getD, List.getElem?_eq_getElem (show j < zs.length by omega), Option.getD_some]
      congr 2
      rw [UInt8.toNat_ofNat']
      omega
end
end Go.Proofs.Ytnelefokpopfdaa
