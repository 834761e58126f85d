/-
  The chapter's example: the heap behind its first row, and what a word's term is.
-/
import Derived.Test.YtaiiicmldogjoaaDoorZHeapN
import Derived.Test.YtaiiicmldogjoaaDoorZTermMore
import Derived.Test.YtaiiicmldogjoaaDoorZTermSame
import Derived.Test.YtaiiicmldogjoaaDoorZKitLast
import Derived.Test.YtaiiicmldogjoaaDoorZAtomR
namespace Go.Proofs.YtaiiicmldogjoaaDoor
open Go.RowKit Go.Deep Go.Maps Go.WideShapes

def rowT : Tm := .tup [.num 1, .num 2]
def rowX : List Int := [42, 17, 33]
def rowK : List Int := rowT.kds
theorem rowT_check : rowT.check = 0 := by kernel_rfl
theorem rowT_nums : rowT.nums [] = (true, []) := by kernel_rfl
theorem rowT_size : rowT.size ≤ 1000000 := by simp [rowT, Tm.tup, Tm.num, Tm.size_mk, sizes]
theorem rowT_words : rowT.wordsR = 4 := by kernel_rfl
theorem rowT_own : rowT.own [] 0 = 7 := by kernel_rfl
theorem rowT_laid : rowT.laid [] 0 = rowX := by kernel_rfl

theorem St.putE {W0 w : World} {hb : Nat} {S : Nat → Prop} {L L' : List ByteArray} {M : Nat} {xs ks xs' ks' : List Int} {x : Int} (h : St W0 w hb S L M xs ks) {T : Tm} {tv : Value} (hT : Lies w (Sf S w) T tv) (hc : T.check = 0) (hn : T.nums L = (true, L')) (hsz : T.size ≤ 1000000) (hM : (xs.length : Int) + (T.wordsR - 1) ≤ M)
    (hx : T.own L' xs.length = x) (hxs : xs ++ T.laid L' xs.length = xs') (hks : ks ++ T.kds = ks') :
    Calls Tryd.prog 6 #[.pointer (some ⟨hb, 0, none⟩), tv] w fun e w' => ∃ S', e = .returned (.tuple #[.int .u64 x, .int .i64 0]) ∧ St W0 w' hb S' L' M xs' ks' ∧ Sp S w S' w' := by
  subst hx hxs hks
  have := h.put hT hc (by rw [hn]) hsz hM
  rw [hn] at this
  exact this

/-- The row's term, made of a new row of two numbers. -/
theorem row_made {w w' : World} {t : TypeId} (hb : Below (w.alloc (.cells #[.int .i64 1, .int .i64 1, .string ⟨#[]⟩, .slice none 0 0, .int .i64 1, .int .i64 2, .string ⟨#[]⟩, .slice none 0 0] t)).heap.size (w.alloc (.cells #[.int .i64 1, .int .i64 1, .string ⟨#[]⟩, .slice none 0 0, .int .i64 1, .int .i64 2, .string ⟨#[]⟩, .slice none 0 0] t)) w') :
    Lies w' (fun b => w.heap.size ≤ b) rowT (.agg #[.int .i64 7, .int .i64 0, .string ⟨#[]⟩, .slice (some ⟨w.heap.size, 0, none⟩) 2 2]) ∧ Below w.heap.size w w' := by
  have hb5 := (Below.refl w.heap.size w).alloc (Nat.le_refl _) (.cells #[.int .i64 1, .int .i64 1, .string ⟨#[]⟩, .slice none 0 0, .int .i64 1, .int .i64 2, .string ⟨#[]⟩, .slice none 0 0] t)
  have hx6 := (hb.block _ (by simp)).trans (new_block w (.cells #[.int .i64 1, .int .i64 1, .string ⟨#[]⟩, .slice none 0 0, .int .i64 1, .int .i64 2, .string ⟨#[]⟩, .slice none 0 0] t))
  exact ⟨Lies.mk (l := [.num 1, .num 2]) tup_small (lst2 hx6 (Nat.le_refl _) (num_is _ _ 1 (by omega) (by omega)) (num_is _ _ 2 (by omega) (by omega))), hb5.trans (hb.mono hb5.size)⟩

theorem newH_lit (p bm : Nat) (v : Value) (M : Nat) (n : Int) (W0 w : World) (hn : (M : Int) = n) (h : Tab w p bm v []) (hM : M ≤ 1000000) (hb0 : Below W0.heap.size W0 w) (hm : ∀ k, Mine p bm v k → W0.heap.size ≤ k) (hW : WordTab W0) (hS : ShapeTab W0) :
    Calls Tryd.prog 16 #[.pointer (some ⟨p, 0, none⟩), .int .i64 n] w fun e w' => ∃ hb S, e = .returned (.tuple #[.pointer (some ⟨hb, 0, none⟩), .int .i64 0]) ∧ St W0 w' hb S [] M [] [] ∧ Below w.heap.size w w' := by
  subst hn
  exact newH_any p bm v M W0 w h hM hb0 hm hW hS

set_option maxHeartbeats 2000000 in
set_option maxRecDepth 100000 in
theorem eight_any (w : World) (hW : WordTab w) (hH : ShapeTab w) : Calls Tryd.prog 18 #[] w fun e w' => ∃ hb S, e = .returned (.tuple #[.pointer (some ⟨hb, 0, none⟩), .bool true]) ∧ St w w' hb S [] 8 rowX rowK := by
  have HWH := Hid.mk (show WordTab w ∧ ShapeTab w from ⟨hW, hH⟩)
  clear hW hH
  go_enter Tryd.func18, Tryd.ntmps18
  go_wp2_with (first
    | (go_at_call 25; refine (new_any _).mono ?_; rintro e w1 ⟨rfl, hT1, hb1⟩; have hM1 := Hid.mk (mine_new w); have HT1 := Hid.mk hT1; have HB1 := Hid.mk hb1; clear hT1 hb1)
    | (go_at_call 16; (refine (newH_lit _ _ _ 8 8 w _ rfl HT1.out (by decide) HB1.out (fun k hk => hM1.out k hk) HWH.out.1 HWH.out.2).mono ?_); rintro e w2 ⟨hb, S, rfl, h2, _⟩; have H2 := Hid.mk h2; clear h2)
    | (go_at_call 20; refine (num_any _ _).mono ?_; rintro e w3 ⟨rfl, hb3⟩; have H3 := Hid.mk (H2.out.up hb3); clear hb3 H2 HT1)
    | (go_at_call 20; refine (num_any _ _).mono ?_; rintro e w4 ⟨rfl, hb4⟩; have H4 := Hid.mk (H3.out.up hb4); clear hb4 H3)
    | (go_at_call 19; refine (tup_any _ _ _ _).mono ?_; rintro e w6 ⟨rfl, hb6⟩
       have hr := row_made hb6
       have HL6 := Hid.mk (H4.out.lies_new hr.1)
       have H6 := Hid.mk (H4.out.up hr.2)
       clear hb6 hr H4)
    | (go_at_call 6; refine (H6.out.putE HL6.out rowT_check rowT_nums rowT_size (by rw [rowT_words]; decide) rowT_own (show _ = rowX from rowT_laid) (show _ = rowK from rfl)).mono ?_; rintro e w7 ⟨S7, rfl, h7, _⟩; have H7 := Hid.mk h7; clear h7 H6 HL6)
    | (go_at_call 13; refine H7.out.used.mono ?_; rintro e w8 ⟨rfl, rfl⟩; rw [show ((rowX.length : Nat) : Int) = 3 from rfl]))
  go_ret2
  exact ⟨_, _, rfl, H7.out⟩

set_option maxHeartbeats 2000000 in
set_option maxRecDepth 100000 in
theorem got_any {W0 : World} {hb : Nat} {S : Nat → Prop} {L : List ByteArray} {M : Nat} {xs ks : List Int} {T : Tm} {x : Int} {S0 : Nat → Prop} {k n : Int} {s : ByteArray} {a : Option Addr} {m c : Nat} (w : World) (h : St W0 w hb S L M xs ks) (hd : Den L xs ks T x) (hw : T.wordsR ≤ 65536) (hT : Lies w S0 T (.agg #[.int .i64 k, .int .i64 n, .string s, .slice a m c])) :
    Calls Tryd.prog 21 #[.pointer (some ⟨hb, 0, none⟩), .int .u64 x, .agg #[.int .i64 k, .int .i64 n, .string s, .slice a m c]] w fun e w' => e = .returned (.bool true) ∧ Below w.heap.size w w' := by
  obtain ⟨W1, hW1⟩ : ∃ W1, w.alloc (.cells #[.int .i64 k, .int .i64 n, .string s, .slice a m c] 42) = W1 := ⟨_, rfl⟩
  have hb1 : Below w.heap.size w W1 := by rw [← hW1]; exact (Below.refl _ _).alloc (Nat.le_refl _) _
  have hx1 : W1.heap[w.heap.size]? = some (.cells #[.int .i64 k, .int .i64 n, .string s, .slice a m c] 42) := by rw [← hW1]; exact new_block _ _
  have H1 := Hid.mk (h.up hb1)
  have HL1 := Hid.mk (hT.below hb1)
  have HD := Hid.mk hd
  have HWd := Hid.mk hw
  have HB1 := Hid.mk (show Up w W1 from hb1)
  have HX1 := Hid.mk hx1
  clear h hd hw hT hb1 hx1
  go_enter Tryd.func21, Tryd.ntmps21
  go_upto_region 1 with fail
  try rw [hW1]
  clear hW1
  go_wp2_with (first
    | (go_at_call 7; refine (H1.out.get HD.out HWd.out).mono ?_
       rintro e w2 ⟨k2, n2, s2, a2, m2, c2, rfl, hl2, hb2⟩
       obtain ⟨W3, hW3⟩ : ∃ W3, w2.alloc (.cells #[.int .i64 k2, .int .i64 n2, .string s2, .slice a2 m2 c2] 42) = W3 := ⟨_, rfl⟩
       have hb3 : Below w2.heap.size w2 W3 := (by rw [← hW3]; exact (Below.refl _ _).alloc (Nat.le_refl _) _)
       have hx3 : W3.heap[w2.heap.size]? = some (.cells #[.int .i64 k2, .int .i64 n2, .string s2, .slice a2 m2 c2] 42) := (by rw [← hW3]; exact new_block _ _)
       have hu3 : Up W1 W3 := (show Up W1 w2 from hb2).call hb3
       have hy3 := (hu3.out.block _ (Array.getElem?_eq_some_iff.1 HX1.out).1).trans HX1.out
       obtain ⟨⟨p0, p1, p2, p3⟩, _⟩ := kept4 hx3 (Below.refl _ _)
       obtain ⟨⟨q0, q1, q2, q3⟩, _⟩ := kept4 hy3 (Below.refl _ _)
       have HU3 := Hid.mk (HB1.out.call hu3.out)
       have HL3 := Hid.mk (hl2.below hb3)
       have HM3 := Hid.mk (HL1.out.below hu3.out)
       clear hl2 hb2 hb3 hx3 hy3 hu3)
    | (go_at_call 49; refine (sameTerm_any _ _ _ _ _ _ _ HL3.out HM3.out).mono ?_; rintro e w4 ⟨rfl, hb4⟩; rw [eqB_refl]; have HB4 := Hid.mk hb4; clear hb4))
  go_ret
  exact ⟨rfl, (HU3.out.call HB4.out).out⟩

theorem rowT_known (L : List ByteArray) : rowT.known L := by simp [rowT, Tm.tup, Tm.num, known_mk, knowns]
theorem den_rowT {L : List ByteArray} (hL : L.length ≤ 4096) (zs zs' : List Int) : Den L (rowX ++ zs) (rowK ++ zs') rowT 7 :=
  put_den hL rowT (by kernel_rfl) (rowT_known L) [] [] rfl (show 0 + 3 ≤ 1073741824 by omega) zs zs'

set_option maxHeartbeats 2000000 in
set_option maxRecDepth 100000 in
theorem awake9_any (w : World) (hW : WordTab w) (hH : ShapeTab w) : Calls Tryd.prog 17 #[] w fun e w' => e = .returned (.bool true) ∧ Below w.heap.size w w' := by
  have HE := Hid.mk (eight_any w hW hH)
  clear hW hH
  go_enter Tryd.func17, Tryd.ntmps17
  go_wp2_with (first
    | (go_at_call 18; refine HE.out.mono ?_; rintro e w2 ⟨hb, S, rfl, h2⟩; have H2 := Hid.mk h2; clear h2)
    | (go_at_call 20; refine (num_any _ _).mono ?_; rintro e w3 ⟨rfl, hb3⟩; have H3 := Hid.mk (H2.out.up hb3); clear hb3 H2)
    | (go_at_call 20; refine (num_any _ _).mono ?_; rintro e w4 ⟨rfl, hb4⟩; have H4 := Hid.mk (H3.out.up hb4); clear hb4 H3)
    | (go_at_call 19; refine (tup_any _ _ _ _).mono ?_; rintro e w6 ⟨rfl, hb6⟩
       have hr := row_made hb6
       have HL6 := Hid.mk (H4.out.lies_new hr.1)
       have H6 := Hid.mk (H4.out.up hr.2)
       clear hb6 hr H4)
    | (go_at_call 21; refine (got_any _ H6.out (den_rowT (by decide) [] []) (by rw [rowT_words]; decide) HL6.out).mono ?_; rintro e w7 ⟨rfl, hb7⟩; have H7 := Hid.mk (H6.out.up hb7); clear hb7 H6 HL6))
  go_ret
  exact ⟨rfl, H7.out.below⟩
end Go.Proofs.YtaiiicmldogjoaaDoor
