/-
  Whether a table tells just what the document's has.
-/
import Derived.Test.YthkjdcmlalgphaaDoorZAtomR
namespace Go.Proofs.YthkjdcmlalgphaaDoor
open Go.RowKit Go.Deep Go.Maps Go.WideShapes Go.WideMaps

theorem texts_up {w w' : World} {v : Value} {L : List ByteArray} (h : Texts w v L) (hb : Up w w') : Texts w' v L := ownsRow_up h hb.out
theorem hGle {w w1 : World} {n cap : Nat} {g : Nat} (hb : Below w.heap.size w w1) (h : ∀ k, (Value.slice (some ⟨g, 0, none⟩) n cap).ownBlock = some k → w1.heap.size ≤ k) : w.heap.size ≤ g := Nat.le_trans hb.size (h g rfl)

theorem name_at (p bm : Nat) (v : Value) (L : List ByteArray) (i : Nat) (w : World) (h : Tab w p bm v L) (hi : i < L.length) :
    Calls Tryd.prog 61 #[.pointer (some ⟨p, 0, none⟩), .int .i64 i] w fun e w' => e = .returned (.tuple #[.string L[i], .int .i64 0]) ∧ Below w.heap.size w w' :=
  (name_any p bm v L i w h).mono fun e w' hh => by
    obtain ⟨⟨j, hj, hij, he⟩ | ⟨hn, _⟩, hb⟩ := hh
    · obtain rfl : i = j := by omega
      exact ⟨he, hb⟩
    · omega
theorem name_out (p bm : Nat) (v : Value) (L : List ByteArray) (n : Int) (w : World) (h : Tab w p bm v L) (hn : n < 0 ∨ (L.length : Int) ≤ n) :
    Calls Tryd.prog 61 #[.pointer (some ⟨p, 0, none⟩), .int .i64 n] w fun e w' => e = .returned (.tuple #[.string ⟨#[]⟩, .int .i64 5]) ∧ Below w.heap.size w w' :=
  (name_any p bm v L n w h).mono fun e w' hh => by
    obtain ⟨⟨j, hj, hij, he⟩ | ⟨_, he⟩, hb⟩ := hh
    · omega
    · exact ⟨he, hb⟩

end Go.Proofs.YthkjdcmlalgphaaDoor
