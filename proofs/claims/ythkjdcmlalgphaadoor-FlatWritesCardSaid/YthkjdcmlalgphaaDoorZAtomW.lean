/-
  AtomKnown: the chapter's examples are answered as it says.
-/
import Derived.Test.YthkjdcmlalgphaaDoorZAtomN
import Derived.Test.YthkjdcmlalgphaaDoorZAtomT
import Derived.Deep.Strs
namespace Go.Proofs.YthkjdcmlalgphaaDoor
open Go.RowKit Go.Deep Go.Maps Go.WideShapes Go.WideMaps

theorem now_name {B p bm : Nat} {L : List ByteArray} {w0 w : World} (h : Now B w0 w p bm L) (i : Nat) (hi : i < L.length) {n : Int} (hn : n = i) {x : ByteArray} (hx : L[i] = x) :
    Calls Tryd.prog 61 #[.pointer (some ⟨p, 0, none⟩), .int .i64 n] w fun e w' => e = .returned (.tuple #[.string x, .int .i64 0]) ∧ Now B w0 w' p bm L := by
  obtain ⟨v, h1, h2, h3, h4⟩ := h
  subst hn
  refine (name_any p bm v L i w h1).mono fun e w' hh => ?_
  obtain ⟨⟨j, hj, hij, he⟩ | ⟨hn, _⟩, hb⟩ := hh
  · obtain rfl : i = j := by omega
    rw [hx] at he
    exact ⟨he, Now.up ⟨v, h1, h2, h3, h4⟩ hb⟩
  · omega
theorem now_noname {B p bm : Nat} {L : List ByteArray} {w0 w : World} (h : Now B w0 w p bm L) {n : Int} (hn : L.length ≤ n) :
    Calls Tryd.prog 61 #[.pointer (some ⟨p, 0, none⟩), .int .i64 n] w fun e w' => e = .returned (.tuple #[.string ⟨#[]⟩, .int .i64 5]) ∧ Now B w0 w' p bm L := by
  obtain ⟨v, h1, h2, h3, h4⟩ := h
  refine (name_any p bm v L n w h1).mono fun e w' hh => ?_
  obtain ⟨⟨j, hj, hij, he⟩ | ⟨_, he⟩, hb⟩ := hh
  · omega
  · exact ⟨he, Now.up ⟨v, h1, h2, h3, h4⟩ hb⟩
theorem now_intern {B p bm : Nat} {L : List ByteArray} {s : ByteArray} {w0 w : World} (h : Now B w0 w p bm L) (hs : s.size ≤ maxLen) :
    Calls Tryd.prog 35 #[.pointer (some ⟨p, 0, none⟩), .string s] w fun e w' => e = .returned (.tuple #[.int .i64 (put L s).1, .int .i64 (put L s).2.1]) ∧ Now B w0 w' p bm (put L s).2.2 := by
  obtain ⟨v, h1, h2, h3, h4⟩ := h
  refine (intern_any p bm v L s w h1 hs).mono fun e w' hh => ⟨hh.1, ?_⟩
  obtain ⟨v', g1, g2, g3, g4⟩ := hh.2.go h3 h4
  exact ⟨v', g1, h2.trans g2, g3, g4⟩
theorem now_long {B p bm : Nat} {L : List ByteArray} {s : ByteArray} {w0 w : World} (h : Now B w0 w p bm L) (hs : s.size ≤ maxLen) (hl : 64 < s.size) :
    Calls Tryd.prog 35 #[.pointer (some ⟨p, 0, none⟩), .string s] w fun e w' => e = .returned (.tuple #[.int .i64 0, .int .i64 2]) ∧ Now B w0 w' p bm L := by
  have := now_intern h hs
  rw [put_long hl] at this
  exact this

theorem byteInfo6 : (Tryd.prog.info? 5).map (fun i => (i.zero, i.size, i.bytes)) = some (some (.int .u8 0), 1, 1) := by kernel_rfl
/-- Zero bytes, so many. -/
def zeros (n : Nat) : ByteArray := ⟨(List.replicate n (0 : UInt8)).toArray⟩
theorem zeros_size (n : Nat) : (zeros n).size = n := by
  show (List.replicate n (0 : UInt8)).toArray.size = n
  simp
theorem conv_zeros {w : World} {g n : Nat} (h : w.ownsRow 0 5 1 (.slice (some ⟨g, 0, none⟩) n n) n (madeCells (Value.int .u8 0).cells (n * 1)).toList) :
    (convert 136 9 (.slice (some ⟨g, 0, none⟩) n n)).run Tryd.prog w = .ok (.string (zeros n)) w := by
  have := run_convert_bytes_back (P := Tryd.prog) w 136 9 5 ⟨g, 0, none⟩ n (List.replicate n (0 : UInt8)) Tryd.underlying136 Tryd.underlying5 Tryd.underlying9 (fun j hj => by
    have hj' : j < n := by simpa using hj
    have hc := h.cellAt j (by omega)
    have e : (⟨g, 0, none⟩ : Addr).add j = ⟨g, j, none⟩ := by simp [Addr.add]; intro h; exact h.symm
    rw [e, hc, Nat.mul_one]
    have : (madeCells (Value.int .u8 0).cells n).toList = List.replicate n (.int .u8 0) := by simpa [Value.cells] using toList_madeCells_one (.int .u8 0) n
    rw [this, List.getElem?_replicate, if_pos hj']
    simp)
  rw [List.length_replicate] at this
  exact this

end Go.Proofs.YthkjdcmlalgphaaDoor

/-
  A slice of texts that a call is handed; two tables side by side.
-/
namespace Go.Proofs.YthkjdcmlalgphaaDoor
open Go.RowKit Go.Deep Go.Maps Go.WideShapes Go.WideMaps Go.ChangeShapes

/-- A slice of texts that came in. -/
structure Str (w : World) (l : List ByteArray) (a : Option Addr) (cap : Nat) : Prop where
  size : ∀ j (h : j < l.length), l[j].size ≤ maxLen
  len : l.length ≤ maxLen
  cells : 0 < l.length → ∃ b o, a = some ⟨b, o, none⟩ ∧ b < w.heap.size ∧ ∀ j (h : j < l.length), w.cell? ⟨b, o + j, none⟩ = some (.string l[j])

set_option maxRecDepth 100000 in
theorem cells_text : Tryd.prog.cellsOf 9 = 1 := by kernel_rfl
set_option maxRecDepth 100000 in
theorem open_texts {H : Type} {enc : TypeId × Value → H} {w : World} {base : Nat} {spare : Nat → Bool} {held : Bool} {r : Reach} {b0 : Nat} {v : Value} {d : DataW H} {p : List MemPlace}
    (hv : Value.okWide Tryd.prog w r b0 22 v) (h : DataW.Trod enc Tryd.prog w base spare held 22 v d p) : ∃ (l : List ByteArray) (a : Option Addr) (cap : Nat), v = .slice a l.length cap ∧ Str w l a cap := by
  obtain ⟨a, len, cap, rfl⟩ := okWide_slice Tryd.underlying22 hv
  obtain ⟨fuel, hf⟩ := h
  rcases open_strs Tryd.underlying22 Tryd.underlying9 cells_text hf with ⟨hc, _⟩ | ⟨a', len', cap', m, Sx, hc, _, hle, hm, hz, _, hcell⟩
  · have hc' : Value.slice a len cap = .slice none 0 0 := by simpa [Value.cells] using hc
    obtain ⟨rfl, rfl, rfl⟩ := by simpa using hc'
    exact ⟨[], none, 0, rfl, Str.mk (fun j h => absurd h (Nat.not_lt_zero _)) (Nat.zero_le _) (fun h => absurd h (Nat.lt_irrefl _))⟩
  · have hc' : Value.slice a len cap = .slice (some a') len' cap' := by simpa [Value.cells] using hc
    obtain ⟨rfl, rfl, rfl⟩ := by simpa using hc'
    have hlm : len ≤ m := by rw [hz]; split <;> omega
    have hl : ((List.range len).map Sx).length = len := by simp
    refine ⟨(List.range len).map Sx, some a', cap, by rw [hl], Str.mk (fun j hj => ?_) (by rw [hl]; omega) (fun h0 => ?_)⟩
    · have hj' : j < len := by rw [hl] at hj; exact hj
      simpa using (hcell j (by omega)).2
    · rw [hl] at h0
      have hc0 := (hcell 0 (by omega)).1
      have hspot : a'.spot = none := by
        have hs : (a'.add 0).spot = a'.spot := by unfold Addr.add; simp
        unfold World.cell? at hc0
        rw [hs] at hc0
        rcases hsp : a'.spot with _ | s
        · rfl
        · exfalso
          rw [hsp] at hc0
          split at hc0 <;> simp at hc0
      obtain ⟨b, o, sp⟩ := a'
      simp only at hspot
      subst hspot
      refine ⟨b, o, rfl, ?_, fun j hj => ?_⟩
      · have := World.block_lt_of_cell? w _ hc0
        simpa [add_plain] using this
      · have hj' : j < len := by rw [hl] at hj; exact hj
        have := (hcell j (by omega)).1
        rw [add_plain] at this
        rw [this]
        simp
theorem Str.now {w w' : World} {l : List ByteArray} {a : Option Addr} {cap : Nat} (h : Str w l a cap) (hb : Below w.heap.size w w') (i : Nat) (hi : i < l.length) : ∃ b o, a = some ⟨b, o, none⟩ ∧ ∀ j (_ : j < l.length), w'.cell? ⟨b, o + j, none⟩ = some (.string l[j]) := by
  obtain ⟨b, o, ha, hlt, hc⟩ := h.cells (by omega)
  exact ⟨b, o, ha, fun j hj => by rw [hb.cell (p := ⟨b, o + j, none⟩) hlt]; exact hc j hj⟩

theorem Str.cell {w w' : World} {l : List ByteArray} {b o cap : Nat} (h : Str w l (some ⟨b, o, none⟩) cap) (hb : Below w.heap.size w w') (i : Nat) (hi : i < l.length) : w'.cell? ⟨b, o + i, none⟩ = some (.string l[i]) := by
  obtain ⟨b', o', ha, hc⟩ := h.now hb i hi
  simp only [Option.some.injEq, Addr.mk.injEq, and_true] at ha
  obtain ⟨rfl, rfl⟩ := ha
  exact hc i hi

/-- Two tables side by side, made since B. -/
def Two (B : Nat) (w0 w : World) (p bm q : Nat) (L M : List ByteArray) : Prop :=
  ∃ v vr, Tab w p bm v L ∧ RTab w q vr M ∧ (∀ k, Mine p bm v k → ¬ MineR q vr k) ∧ (∀ k, Mine p bm v k → B ≤ k) ∧ (∀ k, MineR q vr k → B ≤ k) ∧ Below B w0 w ∧ B ≤ w.heap.size
theorem Two.up {B p bm q : Nat} {w0 w w' : World} {L M : List ByteArray} (h : Two B w0 w p bm q L M) (hb : Below w.heap.size w w') : Two B w0 w' p bm q L M := by
  obtain ⟨v, vr, h1, h2, h3, h4, h5, h6, h7⟩ := h
  exact ⟨v, vr, h1.up hb, h2.up hb, h3, h4, h5, h6.trans (hb.mono h7), Nat.le_trans h7 hb.size⟩
theorem Two.below {B p bm q : Nat} {w0 w : World} {L M : List ByteArray} (h : Two B w0 w p bm q L M) : Below B w0 w := by
  obtain ⟨v, vr, h1, h2, h3, h4, h5, h6, h7⟩ := h
  exact h6
theorem Two.intern {B p bm q : Nat} {w0 w : World} {L M : List ByteArray} (h : Two B w0 w p bm q L M) (s : ByteArray) (hs : s.size ≤ maxLen) :
    Calls Tryd.prog 35 #[.pointer (some ⟨p, 0, none⟩), .string s] w fun e w' => e = .returned (.tuple #[.int .i64 (put L s).1, .int .i64 (put L s).2.1]) ∧ Two B w0 w' p bm q (put L s).2.2 M := by
  obtain ⟨v, vr, h1, h2, h3, h4, h5, h6, h7⟩ := h
  refine (intern_any p bm v L s w h1 hs).mono fun e w' hh => ⟨hh.1, ?_⟩
  obtain ⟨v', g1, g2, g3⟩ := hh.2
  refine ⟨v', vr, g1, h2.kept g2 (fun k hk hm => h3 k hm hk), fun k hk hm => ?_, fun k hk => ?_, h5, h6.trans (g2.below h4 h7), Nat.le_trans h7 g2.size⟩
  · have hlt := h2.lt hm
    rcases hk with rfl | rfl | hk
    · exact h3 _ (Or.inl rfl) hm
    · exact h3 _ (Or.inr (Or.inl rfl)) hm
    · rcases g3 k hk with e | e
      · exact h3 _ (Or.inr (Or.inr e)) hm
      · omega
  · rcases hk with rfl | rfl | hk
    · exact h4 _ (Or.inl rfl)
    · exact h4 _ (Or.inr (Or.inl rfl))
    · rcases g3 k hk with e | e
      · exact h4 _ (Or.inr (Or.inr e))
      · omega
theorem Two.internR {B p bm q : Nat} {w0 w : World} {L M : List ByteArray} (h : Two B w0 w p bm q L M) (s : ByteArray) (hs : s.size ≤ 1000000000) :
    Calls Tryd.prog 36 #[.pointer (some ⟨q, 0, none⟩), .string s] w fun e w' => e = .returned (.tuple #[.int .i64 (put M s).1, .int .i64 (put M s).2.1]) ∧ Two B w0 w' p bm q L (put M s).2.2 := by
  obtain ⟨v, vr, h1, h2, h3, h4, h5, h6, h7⟩ := h
  refine (internR_any q vr M s w h2 hs).mono fun e w' hh => ⟨hh.1, ?_⟩
  obtain ⟨v', g1, g2, g3⟩ := hh.2
  refine ⟨v, v', h1.kept g2 (fun k hk hm => h3 k hk hm), g1, fun k hk hm => ?_, h4, fun k hk => ?_, h6.trans (g2.below h5 h7), Nat.le_trans h7 g2.size⟩
  · have hlt := h1.lt hk
    rcases hm with rfl | hm
    · exact h3 _ hk (Or.inl rfl)
    · rcases g3 k hm with e | e
      · exact h3 _ hk (Or.inr e)
      · omega
  · rcases hk with rfl | hk
    · exact h5 _ (Or.inl rfl)
    · rcases g3 k hk with e | e
      · exact h5 _ (Or.inr e)
      · omega
/-- The two, made one behind the other. -/
theorem Two.made {w w1 : World} (h : Now w.heap.size w w1 (w.heap.size + 1) w.heap.size []) : Two w.heap.size w (w1.alloc (.cells #[.slice none 0 0] 69)) (w.heap.size + 1) w.heap.size w1.heap.size [] [] := by
  obtain ⟨v, h1, h2, h3, h4⟩ := h
  have hb : Below w1.heap.size w1 (w1.alloc (.cells #[.slice none 0 0] 69)) := (Below.refl _ _).alloc (Nat.le_refl _) _
  refine ⟨v, .slice none 0 0, h1.up hb, ⟨new_block _ _, Texts.nil _, by simp [Value.ownBlock], by simp, by simp [bytesOf]⟩, fun k hk hm => ?_, h4, fun k hk => ?_, h2.trans (hb.mono h3), by simp; omega⟩
  · have := h1.lt hk
    rcases hm with rfl | hm
    · omega
    · cases hm
  · rcases hk with rfl | hk
    · exact h3
    · cases hk
end Go.Proofs.YthkjdcmlalgphaaDoor
