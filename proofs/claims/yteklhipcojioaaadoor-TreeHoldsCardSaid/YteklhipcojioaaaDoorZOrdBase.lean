/-
  A few words that layer 2's texts have, too: here without these texts.
-/
import Derived.Test.YteklhipcojioaaaDoorZTermMore
import Derived.Test.YteklhipcojioaaaDoorZFloats
import Derived.Deep.RegionHeld3
import Derived.Deep.DeepCutAuto
namespace Go.Proofs.YteklhipcojioaaaDoor
open Go.RowKit Go.Deep

/-- Of the first i terms of l the cells are in xs. -/
def Side (w : World) (S : Nat → Prop) (l : List Tm) (i : Nat) (xs : List Value) : Prop :=
  ∀ q (_ : q < i) (h : q < l.length), ∃ v0 v1 v2 v3, xs[q * 4]? = some v0 ∧ xs[q * 4 + 1]? = some v1 ∧ xs[q * 4 + 2]? = some v2 ∧ xs[q * 4 + 3]? = some v3 ∧ Lies w S l[q] (.agg #[v0, v1, v2, v3])

theorem owns_some {w : World} {base : Nat} {sv : Value} {n : Nat} {xs : List Value} (h : w.ownsRow base 32 4 sv n xs) (hn : 0 < n) :
    ∃ g cap cur, sv = .slice (some ⟨g, 0, none⟩) n cap ∧ base ≤ g ∧ w.heap[g]? = some (.cells cur 32 (0, 0)) ∧ n ≤ cap ∧ cap ≤ 9223372036854775807 ∧ n * 4 ≤ cur.size ∧ ∀ (j : Nat) (u : Value), xs[j]? = some u → cur[j]? = some u := by
  rcases h.2 with ⟨_, h0⟩ | ⟨g, cap, cur, h1, h2, h3, h4, h5, h6, h7⟩
  · omega
  · refine ⟨g, cap, cur, h1, h2, h3, h4, by unfold maxLen at h5; omega, by rw [h6]; exact Nat.mul_le_mul_right 4 h4, fun (j : Nat) (u : Value) hu => ?_⟩
    rw [← h7, List.getElem?_take] at hu
    split at hu
    · simpa using hu
    · cases hu

theorem is_after {w w' : World} {T : Tm} {v : Value} {S : Nat → Prop} (h : Lies w S T v) (hk : ∀ k, S k → k < w.heap.size → w'.heap[k]? = w.heap[k]?) : Is w' T v :=
  h.move (fun _ _ => trivial) (fun b o v hb hc => by rw [World.cell?_of_block (w := w) (a := ⟨b, o, none⟩) (hk b hb (World.block_lt_of_cell? w ⟨b, o, none⟩ hc))]; exact hc) _ _

theorem Own.isO {w : World} {T : Tm} {lo hi : Nat} {v : Value} (h : Own w T lo hi v) : Is w T v := (Own.lies T lo hi v h).is

/-- A pointer to a variable that holds a term. -/
def OVar (w : World) (T : Tm) (lo : Nat) (p : Value) : Prop := ∃ b k n s sl, p = .pointer (some ⟨b, 0, none⟩) ∧ lo ≤ b ∧ w.heap[b]? = some (.cells #[.int .i64 k, .int .i64 n, .string s, sl] 32) ∧ Is w T (.agg #[.int .i64 k, .int .i64 n, .string s, sl])


end Go.Proofs.YteklhipcojioaaaDoor
