/-
  The document's own tables of atoms, and two rows held against one another.
-/
import Derived.Test.YtaiiicmldogjoaaDoorZAtomBase
import Derived.Laws.IdiomStrings
namespace Go.Proofs.YtaiiicmldogjoaaDoor
open Go.RowKit Go.Deep Go.Maps Go.WideShapes Go.WideMaps

def MineR (q : Nat) (v : Value) (k : Nat) : Prop := k = q ∨ v.ownBlock = some k
theorem pos_step {s : ByteArray} {L : List ByteArray} {i : Nat} (hi : i < L.length) (hf : ∀ j (hj : j < L.length), j < i → L[j] ≠ s) (hn : L[i] ≠ s) : ∀ j (hj : j < L.length), j < i + 1 → L[j] ≠ s := by
  intro j hj hji
  rcases Nat.lt_or_ge j i with h | h
  · exact hf j hj h
  · obtain rfl : j = i := by omega
    exact hn
theorem posI_of {s : ByteArray} {L : List ByteArray} {i : Nat} (hi : i < L.length) (hf : ∀ j (hj : j < L.length), j < i → L[j] ≠ s) (hs : L[i] = s) : posI s L = i := by rw [posI, pos_of hi hs hf]
theorem posI_none {s : ByteArray} {L : List ByteArray} (hf : ∀ j (hj : j < L.length), j < L.length → L[j] ≠ s) : posI s L = -1 := by rw [posI, pos_none_of (fun j hj => hf j hj hj)]

theorem bytesA_ne {a b : ByteArray} (h : a ≠ b) : (a.toList == b.toList) = false := by
  rw [beq_eq_false_iff_ne, ByteArray.toList_eq, ByteArray.toList_eq]
  exact fun e => h (ByteArray.ext (Array.toList_inj.1 e))
theorem bytesA_eq (a : ByteArray) : (a.toList == a.toList) = true := by simp

end Go.Proofs.YtaiiicmldogjoaaDoor

/-
  The document's table: a text put; two rows of the same texts.
-/
namespace Go.Proofs.YtaiiicmldogjoaaDoor
open Go.RowKit Go.Deep Go.Maps Go.WideShapes Go.WideMaps

end Go.Proofs.YtaiiicmldogjoaaDoor

/-
  The laws' own helpers: a text has just that number; the chapter's examples; the name of a number.
-/
namespace Go.Proofs.YtaiiicmldogjoaaDoor
open Go.RowKit Go.Deep Go.Maps Go.WideShapes Go.WideMaps

/-- Has a text put into L just that number? -/
def gives (L : List ByteArray) (s : ByteArray) (n : Int) : Bool := decide (((put L s).1 : Int) = n ∧ (put L s).2.1 = 0)
end Go.Proofs.YtaiiicmldogjoaaDoor

/-
  The chapter's examples.
-/
namespace Go.Proofs.YtaiiicmldogjoaaDoor
open Go.RowKit Go.Deep Go.Maps Go.WideShapes Go.WideMaps

def ta : ByteArray := ⟨#[97]⟩
def tb : ByteArray := ⟨#[98]⟩
def tc : ByteArray := ⟨#[99]⟩
theorem pos0 (s : ByteArray) : pos s [] = none := rfl
theorem put0 : put [] ⟨#[97]⟩ = (0, 0, [ta]) := put_new (by decide) rfl (by decide) (by decide)
theorem put1 : put [ta] ⟨#[98]⟩ = (1, 0, [ta, tb]) := put_new (by decide) (by decide) (by decide) (by decide)
theorem put2 : put [ta, tb] ⟨#[97]⟩ = (0, 0, [ta, tb]) := put_there (by decide) (by decide)
theorem put3 : put [ta, tb] ⟨#[]⟩ = (2, 0, [ta, tb, ⟨#[]⟩]) := put_new (by decide) (by decide) (by decide) (by decide)
/-- What is left behind such a call, where all that was made since B is new. -/
theorem Left.go {w w' : World} {p bm B : Nat} {v : Value} {L : List ByteArray} (h : Left w p bm v L w') (hB : B ≤ w.heap.size) (hM : ∀ k, Mine p bm v k → B ≤ k) : ∃ v', Tab w' p bm v' L ∧ Below B w w' ∧ B ≤ w'.heap.size ∧ ∀ k, Mine p bm v' k → B ≤ k := by
  obtain ⟨v', h1, h2, h3⟩ := h
  refine ⟨v', h1, h2.below hM hB, Nat.le_trans hB h2.size, fun k hk => ?_⟩
  rcases hk with rfl | rfl | hk
  · exact hM _ (Or.inl rfl)
  · exact hM _ (Or.inr (Or.inl rfl))
  · rcases h3 k hk with h | h
    · exact hM _ (Or.inr (Or.inr h))
    · omega
theorem mine_new (w : World) : ∀ k, Mine (w.heap.size + 1) w.heap.size (.slice none 0 0) k → w.heap.size ≤ k := by
  rintro k (rfl | rfl | hk)
  · omega
  · omega
  · cases hk

/-- A table of this list, made since B; of what was there nothing is written. -/
def Now (B : Nat) (w0 w : World) (p bm : Nat) (L : List ByteArray) : Prop := ∃ v, Tab w p bm v L ∧ Below B w0 w ∧ B ≤ w.heap.size ∧ ∀ k, Mine p bm v k → B ≤ k
theorem Now.made {w w' : World} (h : Tab w' (w.heap.size + 1) w.heap.size (.slice none 0 0) []) (hb : Below w.heap.size w w') : Now w.heap.size w w' (w.heap.size + 1) w.heap.size [] := ⟨_, h, hb, hb.size, mine_new w⟩
theorem Now.up {B : Nat} {w0 w w' : World} {p bm : Nat} {L : List ByteArray} (h : Now B w0 w p bm L) (hb : Below w.heap.size w w') : Now B w0 w' p bm L := by
  obtain ⟨v, h1, h2, h3, h4⟩ := h
  exact ⟨v, h1.up hb, h2.trans (hb.mono h3), Nat.le_trans h3 hb.size, h4⟩
theorem now_len {B p bm : Nat} {L : List ByteArray} {w0 w : World} (h : Now B w0 w p bm L) {n : Int} (hn : n = L.length) :
    Calls Tryd.prog 60 #[.pointer (some ⟨p, 0, none⟩)] w fun e w' => e = .returned (.int .i64 n) ∧ w = w' := by
  obtain ⟨v, h1, _⟩ := h
  rw [hn]
  exact len_any _ _ _ _ _ h1
theorem now_made (w : World) : Calls Tryd.prog 25 #[] w fun e w' => e = .returned (.pointer (some ⟨w.heap.size + 1, 0, none⟩)) ∧ Now w.heap.size w w' (w.heap.size + 1) w.heap.size [] :=
  (new_any w).mono fun _ _ h => ⟨h.1, Now.made h.2.1 h.2.2⟩

theorem small_a (n : Nat) (a : Array UInt8) (h : a.size = n) (hn : n ≤ 100) : (⟨a⟩ : ByteArray).size ≤ maxLen := by
  have : (⟨a⟩ : ByteArray).size = n := h
  unfold maxLen
  omega

end Go.Proofs.YtaiiicmldogjoaaDoor

/-
  AtomNone returns true: tables that nobody made.
-/
namespace Go.Proofs.YtaiiicmldogjoaaDoor
open Go.RowKit Go.Deep Go.Maps Go.WideShapes Go.WideMaps

theorem cell_is {w : World} {b j : Nat} {c : Array Value} {t : TypeId} {v : Value} (h : w.heap[b]? = some (.cells c t)) (hj : c[j]? = some v) : w.cell? ⟨b, j, none⟩ = some v := by simp [World.cell?, h, hj]
/-- No table, or one that nobody made. -/
def NoTab (w : World) (v : Value) : Prop := v = .pointer none ∨ ∃ p, v = .pointer (some ⟨p, 0, none⟩) ∧ w.cell? ⟨p, 0, none⟩ = some (.pointer none)
theorem made_not {v : Value} {w : World} (h : NoTab w v) : Calls Tryd.prog 67 #[v] w fun e w' => e = .returned (.bool false) ∧ w = w' := by
  rcases h with rfl | ⟨p, rfl, hc⟩
  · exact made_nil w
  · exact made_zero p w hc
theorem intern_not {v : Value} {w : World} (s : ByteArray) (h : NoTab w v) : Calls Tryd.prog 56 #[v, .string s] w fun e w' => e = .returned (.tuple #[.int .i64 0, .int .i64 1]) ∧ w = w' := by
  have H := Hid.mk h
  clear h
  go_enter Tryd.func56, Tryd.ntmps56
  go_wp2_with (first | (go_at_call 67; refine (made_not H.out).mono ?_; rintro e w1 ⟨rfl, rfl⟩))
  go_ret2
  exact ⟨rfl, rfl⟩
theorem find_not {v : Value} {w : World} (s : ByteArray) (h : NoTab w v) : Calls Tryd.prog 58 #[v, .string s] w fun e w' => e = .returned (.tuple #[.int .i64 0, .bool false]) ∧ w = w' := by
  have H := Hid.mk h
  clear h
  go_enter Tryd.func58, Tryd.ntmps58
  go_wp2_with (first | (go_at_call 67; refine (made_not H.out).mono ?_; rintro e w1 ⟨rfl, rfl⟩))
  go_ret2
  exact ⟨rfl, rfl⟩
theorem name_not {v : Value} {w : World} (n : Int) (h : NoTab w v) : Calls Tryd.prog 48 #[v, .int .i64 n] w fun e w' => e = .returned (.tuple #[.string ⟨#[]⟩, .int .i64 1]) ∧ w = w' := by
  have H := Hid.mk h
  clear h
  go_enter Tryd.func48, Tryd.ntmps48
  go_wp2_with (first | (go_at_call 67; refine (made_not H.out).mono ?_; rintro e w1 ⟨rfl, rfl⟩))
  go_ret2
  exact ⟨rfl, rfl⟩
theorem len_not {v : Value} {w : World} (h : NoTab w v) : Calls Tryd.prog 60 #[v] w fun e w' => e = .returned (.int .i64 0) ∧ w = w' := by
  have H := Hid.mk h
  clear h
  go_enter Tryd.func60, Tryd.ntmps60
  go_wp2_with (first | (go_at_call 67; refine (made_not H.out).mono ?_; rintro e w1 ⟨rfl, rfl⟩))
  go_ret
  exact ⟨rfl, rfl⟩
theorem all_not {v : Value} {w : World} (h : NoTab w v) : Calls Tryd.prog 57 #[v] w fun e w' => e = .returned (.slice none 0 0) ∧ w = w' := by
  have H := Hid.mk h
  clear h
  go_enter Tryd.func57, Tryd.ntmps57
  go_wp2_with (first | (go_at_call 67; refine (made_not H.out).mono ?_; rintro e w1 ⟨rfl, rfl⟩))
  go_ret
  exact ⟨rfl, rfl⟩

end Go.Proofs.YtaiiicmldogjoaaDoor
