/-
  AtomKnown: the chapter's examples are answered as it says.
-/
import Derived.Test.YtjmjifjmenmdgaaAtomK
namespace Go.Proofs.Ytjmjifjmenmdgaa
open Go.RowKit Go.Deep Go.Maps Go.WideShapes Go.WideMaps

theorem now_name {B p bm : Nat} {L : List ByteArray} {w0 w : World} (h : Now B w0 w p bm L) (i : Nat) (hi : i < L.length) {n : Int} (hn : n = i) {x : ByteArray} (hx : L[i] = x) :
    Calls Try.prog 15 #[.pointer (some ⟨p, 0, none⟩), .int .i64 n] w fun e w' => e = .returned (.tuple #[.string x, .int .i64 0]) ∧ Now B w0 w' p bm L := by
  obtain ⟨v, h1, h2, h3, h4⟩ := h
  subst hn
  refine (name_any p bm v L i w h1).mono fun e w' hh => ?_
  obtain ⟨⟨j, hj, hij, he⟩ | ⟨hn, _⟩, hb⟩ := hh
  · obtain rfl : i = j := by omega
    rw [hx] at he
    exact ⟨he, Now.up ⟨v, h1, h2, h3, h4⟩ hb⟩
  · omega
theorem now_noname {B p bm : Nat} {L : List ByteArray} {w0 w : World} (h : Now B w0 w p bm L) {n : Int} (hn : L.length ≤ n) :
    Calls Try.prog 15 #[.pointer (some ⟨p, 0, none⟩), .int .i64 n] w fun e w' => e = .returned (.tuple #[.string ⟨#[]⟩, .int .i64 5]) ∧ Now B w0 w' p bm L := by
  obtain ⟨v, h1, h2, h3, h4⟩ := h
  refine (name_any p bm v L n w h1).mono fun e w' hh => ?_
  obtain ⟨⟨j, hj, hij, he⟩ | ⟨_, he⟩, hb⟩ := hh
  · omega
  · exact ⟨he, Now.up ⟨v, h1, h2, h3, h4⟩ hb⟩
theorem now_find {B p bm : Nat} {L : List ByteArray} {s : ByteArray} {w0 w : World} (h : Now B w0 w p bm L) (hs : s.size ≤ maxLen) {o : Option Nat} (ho : pos s L = o) :
    Calls Try.prog 14 #[.pointer (some ⟨p, 0, none⟩), .string s] w fun e w' => e = .returned (.tuple #[.int .i64 (o.getD 0), .bool o.isSome]) ∧ w = w' := by
  obtain ⟨v, h1, _⟩ := h
  subst ho
  exact findT_any p bm v L s w h1 hs
theorem now_intern {B p bm : Nat} {L : List ByteArray} {s : ByteArray} {w0 w : World} (h : Now B w0 w p bm L) (hs : s.size ≤ maxLen) :
    Calls Try.prog 9 #[.pointer (some ⟨p, 0, none⟩), .string s] w fun e w' => e = .returned (.tuple #[.int .i64 (put L s).1, .int .i64 (put L s).2.1]) ∧ Now B w0 w' p bm (put L s).2.2 := by
  obtain ⟨v, h1, h2, h3, h4⟩ := h
  refine (intern_any p bm v L s w h1 hs).mono fun e w' hh => ⟨hh.1, ?_⟩
  obtain ⟨v', g1, g2, g3, g4⟩ := hh.2.go h3 h4
  exact ⟨v', g1, h2.trans g2, g3, g4⟩
theorem now_long {B p bm : Nat} {L : List ByteArray} {s : ByteArray} {w0 w : World} (h : Now B w0 w p bm L) (hs : s.size ≤ maxLen) (hl : 64 < s.size) :
    Calls Try.prog 9 #[.pointer (some ⟨p, 0, none⟩), .string s] w fun e w' => e = .returned (.tuple #[.int .i64 0, .int .i64 2]) ∧ Now B w0 w' p bm L := by
  have := now_intern h hs
  rw [put_long hl] at this
  exact this

theorem byteInfo6 : (Try.prog.info? 5).map (fun i => (i.zero, i.size, i.bytes)) = some (some (.int .u8 0), 1, 1) := by kernel_rfl
/-- Zero bytes, so many. -/
def zeros (n : Nat) : ByteArray := ⟨(List.replicate n (0 : UInt8)).toArray⟩
theorem zeros_size (n : Nat) : (zeros n).size = n := by
  show (List.replicate n (0 : UInt8)).toArray.size = n
  simp
theorem conv_zeros {w : World} {g n : Nat} (h : w.ownsRow 0 5 1 (.slice (some ⟨g, 0, none⟩) n n) n (madeCells (Value.int .u8 0).cells (n * 1)).toList) :
    (convert 47 9 (.slice (some ⟨g, 0, none⟩) n n)).run Try.prog w = .ok (.string (zeros n)) w := by
  have := run_convert_bytes_back (P := Try.prog) w 47 9 5 ⟨g, 0, none⟩ n (List.replicate n (0 : UInt8)) Try.underlying47 Try.underlying5 Try.underlying9 (fun j hj => by
    have hj' : j < n := by simpa using hj
    have hc := h.cellAt j (by omega)
    have e : (⟨g, 0, none⟩ : Addr).add j = ⟨g, j, none⟩ := by simp [Addr.add]; intro h; exact h.symm
    rw [e, hc, Nat.mul_one]
    have : (madeCells (Value.int .u8 0).cells n).toList = List.replicate n (.int .u8 0) := by simpa [Value.cells] using toList_madeCells_one (.int .u8 0) n
    rw [this, List.getElem?_replicate, if_pos hj']
    simp)
  rw [List.length_replicate] at this
  exact this

set_option maxRecDepth 100000 in
set_option maxHeartbeats 2000000 in
theorem known6_any (w : World) : Calls Try.prog 5 #[] w fun e w' => e = .returned (.bool true) ∧ Below w.heap.size w w' := by
  obtain ⟨i0, hi0, hz0, hz1, hby⟩ := info_parts byteInfo6
  go_enter Try.func5, Try.ntmps5
  go_wp2_with (first
    | (go_at_call 8; refine (now_made _).mono ?_; rintro e w1 ⟨rfl, h⟩; have n0 := Hid.mk h; clear h)
    | (go_at_call 18; have g := n7; refine (now_interned n7.out put3 (small_a 0 _ rfl (by decide)) (k := 2) rfl).mono ?_; rintro e w9 ⟨rfl, h⟩; have n8 := Hid.mk h; clear h)
    | (go_at_call 18; have g := n1; refine (now_interned n1.out put1 (small_a 1 _ rfl (by decide)) (k := 1) rfl).mono ?_; rintro e w3 ⟨rfl, h⟩; have n2 := Hid.mk h; clear h)
    | (go_at_call 18; refine (now_interned n0.out put0 (small_a 1 _ rfl (by decide)) (k := 0) rfl).mono ?_; rintro e w2 ⟨rfl, h⟩; have n1 := Hid.mk h; clear h)
    | (go_at_call 15; have g := n3; refine (now_noname n3.out (n := 2) (by decide)).mono ?_; rintro e w5 ⟨rfl, h⟩; have n4 := Hid.mk h; clear h)
    | (go_at_call 15; refine (now_name n2.out 1 (by decide) (n := 1) rfl (x := ⟨#[98]⟩) rfl).mono ?_; rintro e w4 ⟨rfl, h⟩; have n3 := Hid.mk h; clear h)
    | (go_at_call 14; have g := f1; refine (now_find n4.out (small_a 1 _ rfl (by decide)) (o := none) (by decide)).mono ?_; rintro e w99 ⟨rfl, rfl⟩)
    | (go_at_call 14; refine (now_find n4.out (small_a 1 _ rfl (by decide)) (o := some 1) (by decide)).mono ?_; rintro e w99 ⟨rfl, rfl⟩; have f1 := True.intro)
    | (at_make; refine wpList_make_full _ rfl _ _ 47 rfl 0 5 i0 _ 1 Try.underlying47 hi0 hz0 hz1 .i64 .i64 65 65 65 rfl rfl rfl rfl (by rw [hby]; decide) (by decide) (by omega) ?_; intro w6 hown hgrow; have hcv := conv_zeros hown; have n5 := Hid.mk (n4.out.up ⟨hgrow.os, hgrow.tape, hgrow.output, hgrow.size, fun k hk => hgrow.block k hk (by simp)⟩); clear hown hgrow)
    | (go_at_call 9; refine (now_long n5.out (by rw [zeros_size]; decide) (by rw [zeros_size]; decide)).mono ?_; rintro e w7 ⟨rfl, h⟩; have n6 := Hid.mk h; clear h)
    | (go_at_call 13; refine (awake6_any _).mono ?_; rintro e w8 ⟨rfl, h⟩; have n7 := Hid.mk (n6.out.up h); clear h))
  go_ret
  obtain ⟨v, h1, h2, h3, h4⟩ := n8.out
  exact ⟨rfl, h2⟩

end Go.Proofs.Ytjmjifjmenmdgaa
