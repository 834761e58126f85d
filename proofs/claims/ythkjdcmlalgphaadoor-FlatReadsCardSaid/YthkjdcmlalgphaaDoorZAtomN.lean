/-
  The laws' own helpers: a text has just that number; the chapter's examples; the name of a number.
-/
import Derived.Test.YthkjdcmlalgphaaDoorZAtomR
import Derived.Laws.IdiomStrings
namespace Go.Proofs.YthkjdcmlalgphaaDoor
open Go.RowKit Go.Deep Go.Maps Go.WideShapes Go.WideMaps

/-- Has a text put into L just that number? -/
def gives (L : List ByteArray) (s : ByteArray) (n : Int) : Bool := decide (((put L s).1 : Int) = n ∧ (put L s).2.1 = 0)
end Go.Proofs.YthkjdcmlalgphaaDoor

/-
  The chapter's examples.
-/
namespace Go.Proofs.YthkjdcmlalgphaaDoor
open Go.RowKit Go.Deep Go.Maps Go.WideShapes Go.WideMaps

def ta : ByteArray := ⟨#[97]⟩
def tb : ByteArray := ⟨#[98]⟩
def tc : ByteArray := ⟨#[99]⟩
theorem pos0 (s : ByteArray) : pos s [] = none := rfl
theorem put0 : put [] ⟨#[97]⟩ = (0, 0, [ta]) := put_new (by decide) rfl (by decide) (by decide)
theorem put1 : put [ta] ⟨#[98]⟩ = (1, 0, [ta, tb]) := put_new (by decide) (by decide) (by decide) (by decide)
theorem put2 : put [ta, tb] ⟨#[97]⟩ = (0, 0, [ta, tb]) := put_there (by decide) (by decide)
theorem put3 : put [ta, tb] ⟨#[]⟩ = (2, 0, [ta, tb, ⟨#[]⟩]) := put_new (by decide) (by decide) (by decide) (by decide)
/-- What is left behind such a call, where all that was made since B is new. -/
theorem Left.go {w w' : World} {p bm B : Nat} {v : Value} {L : List ByteArray} (h : Left w p bm v L w') (hB : B ≤ w.heap.size) (hM : ∀ k, Mine p bm v k → B ≤ k) : ∃ v', Tab w' p bm v' L ∧ Below B w w' ∧ B ≤ w'.heap.size ∧ ∀ k, Mine p bm v' k → B ≤ k := by
  obtain ⟨v', h1, h2, h3⟩ := h
  refine ⟨v', h1, h2.below hM hB, Nat.le_trans hB h2.size, fun k hk => ?_⟩
  rcases hk with rfl | rfl | hk
  · exact hM _ (Or.inl rfl)
  · exact hM _ (Or.inr (Or.inl rfl))
  · rcases h3 k hk with h | h
    · exact hM _ (Or.inr (Or.inr h))
    · omega
theorem mine_new (w : World) : ∀ k, Mine (w.heap.size + 1) w.heap.size (.slice none 0 0) k → w.heap.size ≤ k := by
  rintro k (rfl | rfl | hk)
  · omega
  · omega
  · cases hk

/-- A table of this list, made since B; of what was there nothing is written. -/
def Now (B : Nat) (w0 w : World) (p bm : Nat) (L : List ByteArray) : Prop := ∃ v, Tab w p bm v L ∧ Below B w0 w ∧ B ≤ w.heap.size ∧ ∀ k, Mine p bm v k → B ≤ k
theorem Now.made {w w' : World} (h : Tab w' (w.heap.size + 1) w.heap.size (.slice none 0 0) []) (hb : Below w.heap.size w w') : Now w.heap.size w w' (w.heap.size + 1) w.heap.size [] := ⟨_, h, hb, hb.size, mine_new w⟩
theorem Now.up {B : Nat} {w0 w w' : World} {p bm : Nat} {L : List ByteArray} (h : Now B w0 w p bm L) (hb : Below w.heap.size w w') : Now B w0 w' p bm L := by
  obtain ⟨v, h1, h2, h3, h4⟩ := h
  exact ⟨v, h1.up hb, h2.trans (hb.mono h3), Nat.le_trans h3 hb.size, h4⟩
theorem now_made (w : World) : Calls Tryd.prog 25 #[] w fun e w' => e = .returned (.pointer (some ⟨w.heap.size + 1, 0, none⟩)) ∧ Now w.heap.size w w' (w.heap.size + 1) w.heap.size [] :=
  (new_any w).mono fun _ _ h => ⟨h.1, Now.made h.2.1 h.2.2⟩

theorem small_a (n : Nat) (a : Array UInt8) (h : a.size = n) (hn : n ≤ 100) : (⟨a⟩ : ByteArray).size ≤ maxLen := by
  have : (⟨a⟩ : ByteArray).size = n := h
  unfold maxLen
  omega

end Go.Proofs.YthkjdcmlalgphaaDoor
