/-
  One call of a script: both arenas answer alike.
-/
import Derived.Test.YtpfcbokckjfhbaaArenaTw
import Derived.Test.YtpfcbokckjfhbaaArenaOpen
namespace Go.Proofs.Ytpfcbokckjfhbaa
open Go.RowKit Go.Deep Go.Maps Go.WideShapes

theorem cel_lent {w : World} {g n cap : Nat} {l r : List Int} (h : Wds w (.slice (some ⟨g, 0, none⟩) n cap) (l ++ r)) : Cel w l (some ⟨g, 0, none⟩) := fun h0 => by
  obtain ⟨b, o, e, hc⟩ := h.celA (by simp; omega)
  refine ⟨b, o, e, fun j hj => ?_⟩
  have := hc j (by simp; omega)
  rwa [List.getElem_append_left hj] at this
theorem wds_short {w : World} {g cap : Nat} {l r : List Int} {n : Nat} (h : Wds w (.slice (some ⟨g, 0, none⟩) n cap) (l ++ r)) : Wds w (.slice (some ⟨g, 0, none⟩) l.length cap) l := by
  refine ⟨by simp, ?_⟩
  rcases h.2 with ⟨e, _⟩ | ⟨g', cap', cur, hv, hb, hh, hn, hm, hs, hx⟩
  · cases e
  · simp only [Value.slice.injEq, Option.some.injEq, Addr.mk.injEq, and_true] at hv
    obtain ⟨rfl, _, rfl⟩ := hv
    refine Or.inr ⟨g, cap, cur, rfl, hb, hh, by simp at hn; omega, hm, hs, ?_⟩
    have := congrArg (List.take l.length) hx
    rw [List.take_take, List.map_append, List.take_left' (by simp)] at this
    rw [← this]
    congr 1
    simp
theorem Tw.getV_len {w0 w : World} {p bm q W : Nat} {B Br : Blks} {F : Nat → Prop} (h : Tw w0 w p bm q W B Br F) (n : Int) : (GetV B n).length ≤ 1000 := by
  obtain ⟨S, Sr, v, h⟩ := h
  unfold GetV
  cases hb : blk B n with
  | none => simp
  | some l => exact (h.ar.blk_good hb).2
theorem sameInts_self (xs : List Int) (a b : Option Addr) (ca cb : Nat) (w : World) (hx : CelI w xs a) (hy : CelI w xs b) (hl : xs.length ≤ 1000000) :
    Calls Try.prog 23 #[.slice a xs.length ca, .slice b xs.length cb] w fun e w' => e = .returned (.bool true) ∧ Below w.heap.size w w' := by
  have := sameInts_any xs xs a b ca cb w hx hy hl
  rwa [decide_eq_true (rfl : xs = xs)] at this
theorem takeR_len (W : Nat) (B : Blks) (l : List Int) : (takeR W B l).2.2.length ≤ B.length + 1 := by
  unfold takeR
  split
  · simp
  · split <;> simp
theorem setR_len (B : Blks) (n : Int) (l : List Int) : (setR B n l).2.length ≤ B.length + 1 := by
  unfold setR
  split
  · simp
  · split <;> simp
theorem dropR_len (B : Blks) (n : Int) : (dropR B n).2.length ≤ B.length + 1 := by
  unfold dropR
  split <;> simp

end Go.Proofs.Ytpfcbokckjfhbaa
