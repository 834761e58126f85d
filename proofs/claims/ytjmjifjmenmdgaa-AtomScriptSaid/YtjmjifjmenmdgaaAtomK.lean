/-
  The chapter's examples.
-/
import Derived.Test.YtjmjifjmenmdgaaAtomN
import Derived.Laws.IdiomStrings
namespace Go.Proofs.Ytjmjifjmenmdgaa
open Go.RowKit Go.Deep Go.Maps Go.WideShapes Go.WideMaps

def ta : ByteArray := ⟨#[97]⟩
def tb : ByteArray := ⟨#[98]⟩
def tc : ByteArray := ⟨#[99]⟩
theorem pos0 (s : ByteArray) : pos s [] = none := rfl
theorem put0 : put [] ⟨#[97]⟩ = (0, 0, [ta]) := put_new (by decide) rfl (by decide) (by decide)
theorem put1 : put [ta] ⟨#[98]⟩ = (1, 0, [ta, tb]) := put_new (by decide) (by decide) (by decide) (by decide)
theorem put2 : put [ta, tb] ⟨#[97]⟩ = (0, 0, [ta, tb]) := put_there (by decide) (by decide)
theorem put3 : put [ta, tb] ⟨#[]⟩ = (2, 0, [ta, tb, ⟨#[]⟩]) := put_new (by decide) (by decide) (by decide) (by decide)
theorem interned_yes {p bm : Nat} {v : Value} {L L' : List ByteArray} {s : ByteArray} {n : Nat} {w : World} (h : Tab w p bm v L) (hp : put L s = (n, 0, L')) (hs : s.size ≤ maxLen) {k : Int} (hk : k = n) :
    Calls Try.prog 18 #[.pointer (some ⟨p, 0, none⟩), .string s, .int .i64 k] w fun e w' => e = .returned (.bool true) ∧ Left w p bm v L' w' := by
  refine (interned_any p bm v L s k w h hs).mono fun e w' hh => ?_
  obtain ⟨he, hl⟩ := hh
  rw [hp] at hl
  refine ⟨?_, hl⟩
  rw [he, gives, hp]
  simp [hk]
/-- What is left behind such a call, where all that was made since B is new. -/
theorem Left.go {w w' : World} {p bm B : Nat} {v : Value} {L : List ByteArray} (h : Left w p bm v L w') (hB : B ≤ w.heap.size) (hM : ∀ k, Mine p bm v k → B ≤ k) : ∃ v', Tab w' p bm v' L ∧ Below B w w' ∧ B ≤ w'.heap.size ∧ ∀ k, Mine p bm v' k → B ≤ k := by
  obtain ⟨v', h1, h2, h3⟩ := h
  refine ⟨v', h1, h2.below hM hB, Nat.le_trans hB h2.size, fun k hk => ?_⟩
  rcases hk with rfl | rfl | hk
  · exact hM _ (Or.inl rfl)
  · exact hM _ (Or.inr (Or.inl rfl))
  · rcases h3 k hk with h | h
    · exact hM _ (Or.inr (Or.inr h))
    · omega
theorem mine_new (w : World) : ∀ k, Mine (w.heap.size + 1) w.heap.size (.slice none 0 0) k → w.heap.size ≤ k := by
  rintro k (rfl | rfl | hk)
  · omega
  · omega
  · cases hk

/-- A table of this list, made since B; of what was there nothing is written. -/
def Now (B : Nat) (w0 w : World) (p bm : Nat) (L : List ByteArray) : Prop := ∃ v, Tab w p bm v L ∧ Below B w0 w ∧ B ≤ w.heap.size ∧ ∀ k, Mine p bm v k → B ≤ k
theorem Now.made {w w' : World} (h : Tab w' (w.heap.size + 1) w.heap.size (.slice none 0 0) []) (hb : Below w.heap.size w w') : Now w.heap.size w w' (w.heap.size + 1) w.heap.size [] := ⟨_, h, hb, hb.size, mine_new w⟩
theorem Now.up {B : Nat} {w0 w w' : World} {p bm : Nat} {L : List ByteArray} (h : Now B w0 w p bm L) (hb : Below w.heap.size w w') : Now B w0 w' p bm L := by
  obtain ⟨v, h1, h2, h3, h4⟩ := h
  exact ⟨v, h1.up hb, h2.trans (hb.mono h3), Nat.le_trans h3 hb.size, h4⟩
theorem now_interned {B p bm : Nat} {L L' : List ByteArray} {s : ByteArray} {n : Nat} {w0 w : World} (h : Now B w0 w p bm L) (hp : put L s = (n, 0, L')) (hs : s.size ≤ maxLen) {k : Int} (hk : k = n) :
    Calls Try.prog 18 #[.pointer (some ⟨p, 0, none⟩), .string s, .int .i64 k] w fun e w' => e = .returned (.bool true) ∧ Now B w0 w' p bm L' := by
  obtain ⟨v, h1, h2, h3, h4⟩ := h
  refine (interned_yes h1 hp hs hk).mono fun e w' hh => ⟨hh.1, ?_⟩
  obtain ⟨v', g1, g2, g3, g4⟩ := hh.2.go h3 h4
  exact ⟨v', g1, h2.trans g2, g3, g4⟩
theorem now_len {B p bm : Nat} {L : List ByteArray} {w0 w : World} (h : Now B w0 w p bm L) {n : Int} (hn : n = L.length) :
    Calls Try.prog 16 #[.pointer (some ⟨p, 0, none⟩)] w fun e w' => e = .returned (.int .i64 n) ∧ w = w' := by
  obtain ⟨v, h1, _⟩ := h
  rw [hn]
  exact len_any _ _ _ _ _ h1
theorem now_made (w : World) : Calls Try.prog 8 #[] w fun e w' => e = .returned (.pointer (some ⟨w.heap.size + 1, 0, none⟩)) ∧ Now w.heap.size w w' (w.heap.size + 1) w.heap.size [] :=
  (new_any w).mono fun _ _ h => ⟨h.1, Now.made h.2.1 h.2.2⟩

theorem small_a (n : Nat) (a : Array UInt8) (h : a.size = n) (hn : n ≤ 100) : (⟨a⟩ : ByteArray).size ≤ maxLen := by
  have : (⟨a⟩ : ByteArray).size = n := h
  unfold maxLen
  omega

set_option maxRecDepth 100000 in
set_option maxHeartbeats 1000000 in
theorem awake6_any (w : World) : Calls Try.prog 13 #[] w fun e w' => e = .returned (.bool true) ∧ Below w.heap.size w w' := by
  go_enter Try.func13, Try.ntmps13
  go_wp2_with (first
    | (go_at_call 8; refine (now_made _).mono ?_; rintro e w1 ⟨rfl, h⟩; have n0 := Hid.mk h; clear h)
    | (go_at_call 16; refine (now_len (n := 2) n3.out rfl).mono ?_; rintro e w9 ⟨rfl, rfl⟩)
    | (go_at_call 18; have g := n2; refine (now_interned n2.out put2 (small_a 1 _ rfl (by decide)) (k := 0) rfl).mono ?_; rintro e w4 ⟨rfl, h⟩; have n3 := Hid.mk h; clear h)
    | (go_at_call 18; have g := n1; refine (now_interned n1.out put1 (small_a 1 _ rfl (by decide)) (k := 1) rfl).mono ?_; rintro e w3 ⟨rfl, h⟩; have n2 := Hid.mk h; clear h)
    | (go_at_call 18; refine (now_interned n0.out put0 (small_a 1 _ rfl (by decide)) (k := 0) rfl).mono ?_; rintro e w2 ⟨rfl, h⟩; have n1 := Hid.mk h; clear h))
  go_ret
  obtain ⟨v, h1, h2, h3, h4⟩ := n3.out
  exact ⟨rfl, h2⟩

end Go.Proofs.Ytjmjifjmenmdgaa
