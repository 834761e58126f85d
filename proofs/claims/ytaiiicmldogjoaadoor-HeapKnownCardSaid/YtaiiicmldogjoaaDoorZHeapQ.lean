/-
  The chapter's example: the heap behind its first row, and what a word's term is.
-/
import Derived.Test.YtaiiicmldogjoaaDoorZHeapN
import Derived.Test.YtaiiicmldogjoaaDoorZTermMore
import Derived.Test.YtaiiicmldogjoaaDoorZTermSame
import Derived.Test.YtaiiicmldogjoaaDoorZKitLast
import Derived.Test.YtaiiicmldogjoaaDoorZAtomR
namespace Go.Proofs.YtaiiicmldogjoaaDoor
open Go.RowKit Go.Deep Go.Maps Go.WideShapes

def rowT : Tm := .tup [.num 1, .num 2]
def rowX : List Int := [42, 17, 33]
def rowK : List Int := rowT.kds
theorem rowT_check : rowT.check = 0 := by kernel_rfl
theorem rowT_nums : rowT.nums [] = (true, []) := by kernel_rfl
theorem rowT_size : rowT.size ≤ 1000000 := by simp [rowT, Tm.tup, Tm.num, Tm.size_mk, sizes]
theorem rowT_words : rowT.wordsR = 4 := by kernel_rfl
theorem rowT_own : rowT.own [] 0 = 7 := by kernel_rfl
theorem rowT_laid : rowT.laid [] 0 = rowX := by kernel_rfl

theorem St.putE {W0 w : World} {hb : Nat} {S : Nat → Prop} {L L' : List ByteArray} {M : Nat} {xs ks xs' ks' : List Int} {x : Int} (h : St W0 w hb S L M xs ks) {T : Tm} {tv : Value} (hT : Lies w (Sf S w) T tv) (hc : T.check = 0) (hn : T.nums L = (true, L')) (hsz : T.size ≤ 1000000) (hM : (xs.length : Int) + (T.wordsR - 1) ≤ M)
    (hx : T.own L' xs.length = x) (hxs : xs ++ T.laid L' xs.length = xs') (hks : ks ++ T.kds = ks') :
    Calls Tryd.prog 6 #[.pointer (some ⟨hb, 0, none⟩), tv] w fun e w' => ∃ S', e = .returned (.tuple #[.int .u64 x, .int .i64 0]) ∧ St W0 w' hb S' L' M xs' ks' ∧ Sp S w S' w' := by
  subst hx hxs hks
  have := h.put hT hc (by rw [hn]) hsz hM
  rw [hn] at this
  exact this

/-- The row's term, made of a new row of two numbers. -/
theorem row_made {w w' : World} {t : TypeId} (hb : Below (w.alloc (.cells #[.int .i64 1, .int .i64 1, .string ⟨#[]⟩, .slice none 0 0, .int .i64 1, .int .i64 2, .string ⟨#[]⟩, .slice none 0 0] t)).heap.size (w.alloc (.cells #[.int .i64 1, .int .i64 1, .string ⟨#[]⟩, .slice none 0 0, .int .i64 1, .int .i64 2, .string ⟨#[]⟩, .slice none 0 0] t)) w') :
    Lies w' (fun b => w.heap.size ≤ b) rowT (.agg #[.int .i64 7, .int .i64 0, .string ⟨#[]⟩, .slice (some ⟨w.heap.size, 0, none⟩) 2 2]) ∧ Below w.heap.size w w' := by
  have hb5 := (Below.refl w.heap.size w).alloc (Nat.le_refl _) (.cells #[.int .i64 1, .int .i64 1, .string ⟨#[]⟩, .slice none 0 0, .int .i64 1, .int .i64 2, .string ⟨#[]⟩, .slice none 0 0] t)
  have hx6 := (hb.block _ (by simp)).trans (new_block w (.cells #[.int .i64 1, .int .i64 1, .string ⟨#[]⟩, .slice none 0 0, .int .i64 1, .int .i64 2, .string ⟨#[]⟩, .slice none 0 0] t))
  exact ⟨Lies.mk (l := [.num 1, .num 2]) tup_small (lst2 hx6 (Nat.le_refl _) (num_is _ _ 1 (by omega) (by omega)) (num_is _ _ 2 (by omega) (by omega))), hb5.trans (hb.mono hb5.size)⟩

theorem newH_lit (p bm : Nat) (v : Value) (M : Nat) (n : Int) (W0 w : World) (hn : (M : Int) = n) (h : Tab w p bm v []) (hM : M ≤ 1000000) (hb0 : Below W0.heap.size W0 w) (hm : ∀ k, Mine p bm v k → W0.heap.size ≤ k) (hW : WordTab W0) (hS : ShapeTab W0) :
    Calls Tryd.prog 16 #[.pointer (some ⟨p, 0, none⟩), .int .i64 n] w fun e w' => ∃ hb S, e = .returned (.tuple #[.pointer (some ⟨hb, 0, none⟩), .int .i64 0]) ∧ St W0 w' hb S [] M [] [] ∧ Below w.heap.size w w' := by
  subst hn
  exact newH_any p bm v M W0 w h hM hb0 hm hW hS

set_option maxHeartbeats 2000000 in
set_option maxRecDepth 100000 in
theorem eight_any (w : World) (hW : WordTab w) (hH : ShapeTab w) : Calls Tryd.prog 18 #[] w fun e w' => ∃ hb S, e = .returned (.tuple #[.pointer (some ⟨hb, 0, none⟩), .bool true]) ∧ St w w' hb S [] 8 rowX rowK := by
  have HWH := Hid.mk (show WordTab w ∧ ShapeTab w from ⟨hW, hH⟩)
  clear hW hH
  go_enter Tryd.func18, Tryd.ntmps18
  go_wp2_with (first
    | (go_at_call 25; refine (new_any _).mono ?_; rintro e w1 ⟨rfl, hT1, hb1⟩; have hM1 := Hid.mk (mine_new w); have HT1 := Hid.mk hT1; have HB1 := Hid.mk hb1; clear hT1 hb1)
    | (go_at_call 16; (refine (newH_lit _ _ _ 8 8 w _ rfl HT1.out (by decide) HB1.out (fun k hk => hM1.out k hk) HWH.out.1 HWH.out.2).mono ?_); rintro e w2 ⟨hb, S, rfl, h2, _⟩; have H2 := Hid.mk h2; clear h2)
    | (go_at_call 20; refine (num_any _ _).mono ?_; rintro e w3 ⟨rfl, hb3⟩; have H3 := Hid.mk (H2.out.up hb3); clear hb3 H2 HT1)
    | (go_at_call 20; refine (num_any _ _).mono ?_; rintro e w4 ⟨rfl, hb4⟩; have H4 := Hid.mk (H3.out.up hb4); clear hb4 H3)
    | (go_at_call 19; refine (tup_any _ _ _ _).mono ?_; rintro e w6 ⟨rfl, hb6⟩
       have hr := row_made hb6
       have HL6 := Hid.mk (H4.out.lies_new hr.1)
       have H6 := Hid.mk (H4.out.up hr.2)
       clear hb6 hr H4)
    | (go_at_call 6; refine (H6.out.putE HL6.out rowT_check rowT_nums rowT_size (by rw [rowT_words]; decide) rowT_own (show _ = rowX from rowT_laid) (show _ = rowK from rfl)).mono ?_; rintro e w7 ⟨S7, rfl, h7, _⟩; have H7 := Hid.mk h7; clear h7 H6 HL6)
    | (go_at_call 13; refine H7.out.used.mono ?_; rintro e w8 ⟨rfl, rfl⟩; rw [show ((rowX.length : Nat) : Int) = 3 from rfl]))
  go_ret2
  exact ⟨_, _, rfl, H7.out⟩

set_option maxHeartbeats 2000000 in
set_option maxRecDepth 100000 in
theorem got_any {W0 : World} {hb : Nat} {S : Nat → Prop} {L : List ByteArray} {M : Nat} {xs ks : List Int} {T : Tm} {x : Int} {S0 : Nat → Prop} {k n : Int} {s : ByteArray} {a : Option Addr} {m c : Nat} (w : World) (h : St W0 w hb S L M xs ks) (hd : Den L xs ks T x) (hw : T.wordsR ≤ 65536) (hT : Lies w S0 T (.agg #[.int .i64 k, .int .i64 n, .string s, .slice a m c])) :
    Calls Tryd.prog 21 #[.pointer (some ⟨hb, 0, none⟩), .int .u64 x, .agg #[.int .i64 k, .int .i64 n, .string s, .slice a m c]] w fun e w' => e = .returned (.bool true) ∧ Below w.heap.size w w' := by
  obtain ⟨W1, hW1⟩ : ∃ W1, w.alloc (.cells #[.int .i64 k, .int .i64 n, .string s, .slice a m c] 42) = W1 := ⟨_, rfl⟩
  have hb1 : Below w.heap.size w W1 := by rw [← hW1]; exact (Below.refl _ _).alloc (Nat.le_refl _) _
  have hx1 : W1.heap[w.heap.size]? = some (.cells #[.int .i64 k, .int .i64 n, .string s, .slice a m c] 42) := by rw [← hW1]; exact new_block _ _
  have H1 := Hid.mk (h.up hb1)
  have HL1 := Hid.mk (hT.below hb1)
  have HD := Hid.mk hd
  have HWd := Hid.mk hw
  have HB1 := Hid.mk (show Up w W1 from hb1)
  have HX1 := Hid.mk hx1
  clear h hd hw hT hb1 hx1
  go_enter Tryd.func21, Tryd.ntmps21
  go_upto_region 1 with fail
  try rw [hW1]
  clear hW1
  go_wp2_with (first
    | (go_at_call 7; refine (H1.out.get HD.out HWd.out).mono ?_
       rintro e w2 ⟨k2, n2, s2, a2, m2, c2, rfl, hl2, hb2⟩
       obtain ⟨W3, hW3⟩ : ∃ W3, w2.alloc (.cells #[.int .i64 k2, .int .i64 n2, .string s2, .slice a2 m2 c2] 42) = W3 := ⟨_, rfl⟩
       have hb3 : Below w2.heap.size w2 W3 := (by rw [← hW3]; exact (Below.refl _ _).alloc (Nat.le_refl _) _)
       have hx3 : W3.heap[w2.heap.size]? = some (.cells #[.int .i64 k2, .int .i64 n2, .string s2, .slice a2 m2 c2] 42) := (by rw [← hW3]; exact new_block _ _)
       have hu3 : Up W1 W3 := (show Up W1 w2 from hb2).call hb3
       have hy3 := (hu3.out.block _ (Array.getElem?_eq_some_iff.1 HX1.out).1).trans HX1.out
       obtain ⟨⟨p0, p1, p2, p3⟩, _⟩ := kept4 hx3 (Below.refl _ _)
       obtain ⟨⟨q0, q1, q2, q3⟩, _⟩ := kept4 hy3 (Below.refl _ _)
       have HU3 := Hid.mk (HB1.out.call hu3.out)
       have HL3 := Hid.mk (hl2.below hb3)
       have HM3 := Hid.mk (HL1.out.below hu3.out)
       clear hl2 hb2 hb3 hx3 hy3 hu3)
    | (go_at_call 49; refine (sameTerm_any _ _ _ _ _ _ _ HL3.out HM3.out).mono ?_; rintro e w4 ⟨rfl, hb4⟩; rw [eqB_refl]; have HB4 := Hid.mk hb4; clear hb4))
  go_ret
  exact ⟨rfl, (HU3.out.call HB4.out).out⟩

theorem rowT_known (L : List ByteArray) : rowT.known L := by simp [rowT, Tm.tup, Tm.num, known_mk, knowns]
theorem den_rowT {L : List ByteArray} (hL : L.length ≤ 4096) (zs zs' : List Int) : Den L (rowX ++ zs) (rowK ++ zs') rowT 7 :=
  put_den hL rowT (by kernel_rfl) (rowT_known L) [] [] rfl (show 0 + 3 ≤ 1073741824 by omega) zs zs'

set_option maxHeartbeats 2000000 in
set_option maxRecDepth 100000 in
theorem awake9_any (w : World) (hW : WordTab w) (hH : ShapeTab w) : Calls Tryd.prog 17 #[] w fun e w' => e = .returned (.bool true) ∧ Below w.heap.size w w' := by
  have HE := Hid.mk (eight_any w hW hH)
  clear hW hH
  go_enter Tryd.func17, Tryd.ntmps17
  go_wp2_with (first
    | (go_at_call 18; refine HE.out.mono ?_; rintro e w2 ⟨hb, S, rfl, h2⟩; have H2 := Hid.mk h2; clear h2)
    | (go_at_call 20; refine (num_any _ _).mono ?_; rintro e w3 ⟨rfl, hb3⟩; have H3 := Hid.mk (H2.out.up hb3); clear hb3 H2)
    | (go_at_call 20; refine (num_any _ _).mono ?_; rintro e w4 ⟨rfl, hb4⟩; have H4 := Hid.mk (H3.out.up hb4); clear hb4 H3)
    | (go_at_call 19; refine (tup_any _ _ _ _).mono ?_; rintro e w6 ⟨rfl, hb6⟩
       have hr := row_made hb6
       have HL6 := Hid.mk (H4.out.lies_new hr.1)
       have H6 := Hid.mk (H4.out.up hr.2)
       clear hb6 hr H4)
    | (go_at_call 21; refine (got_any _ H6.out (den_rowT (by decide) [] []) (by rw [rowT_words]; decide) HL6.out).mono ?_; rintro e w7 ⟨rfl, hb7⟩; have H7 := Hid.mk (H6.out.up hb7); clear hb7 H6 HL6))
  go_ret
  exact ⟨rfl, H7.out.below⟩
end Go.Proofs.YtaiiicmldogjoaaDoor

/-
  The calls of a heap that is nil, or that nobody made.
-/
namespace Go.Proofs.YtaiiicmldogjoaaDoor
open Go.RowKit Go.Deep Go.Maps Go.WideShapes

theorem noH_up {v : Value} {w w' : World} (h : NoTab w v) (hb : Below w.heap.size w w') : NoTab w' v := by
  rcases h with rfl | ⟨p, rfl, hc⟩
  · exact Or.inl rfl
  · exact Or.inr ⟨p, rfl, cell_below hb _ _ _ hc⟩
theorem madeH_no {v : Value} {w : World} (h : NoTab w v) : Calls Tryd.prog 30 #[v] w fun e w' => e = .returned (.bool false) ∧ w = w' := by
  rcases h with rfl | ⟨p, rfl, hc⟩
  · exact madeH_nil w
  · exact madeH_zero p w hc
theorem putH_no {o : Option Addr} {w : World} (k n : Int) (s : ByteArray) (a : Option Addr) (m c : Nat) (h : NoTab w (.pointer o)) :
    Calls Tryd.prog 6 #[.pointer o, .agg #[.int .i64 k, .int .i64 n, .string s, .slice a m c]] w fun e w' => e = .returned (.tuple #[.int .u64 0, .int .i64 1]) ∧ Below w.heap.size w w' := by
  obtain ⟨W0, hW0⟩ : ∃ W0, w.alloc (.cells #[.int .i64 k, .int .i64 n, .string s, .slice a m c] 42) = W0 := ⟨_, rfl⟩
  have hb0 : Below w.heap.size w W0 := by rw [← hW0]; exact (Below.refl _ _).alloc (Nat.le_refl _) _
  have HM := Hid.mk (madeH_no (noH_up h hb0))
  have HB0 := Hid.mk hb0
  clear h hb0
  go_enter Tryd.func6, Tryd.ntmps6
  go_upto_region 1 with fail
  try rw [hW0]
  clear hW0
  go_wp2_with (go_at_call 30; refine HM.out.mono ?_; rintro e w1 ⟨rfl, rfl⟩)
  go_ret2
  exact ⟨rfl, HB0.out⟩
theorem getH_no {o : Option Addr} {w : World} (x : Int) (h : NoTab w (.pointer o)) :
    Calls Tryd.prog 7 #[.pointer o, .int .u64 x] w fun e w' => e = .returned (.tuple #[.agg #[.int .i64 0, .int .i64 0, .string ⟨#[]⟩, .slice none 0 0], .int .i64 1]) ∧ Below w.heap.size w w' := by
  obtain ⟨W0, hW0⟩ : ∃ W0, w.alloc (.cells #[.int .i64 0, .int .i64 0, .string ⟨#[]⟩, .slice none 0 0] 42) = W0 := ⟨_, rfl⟩
  have hb0 : Below w.heap.size w W0 := by rw [← hW0]; exact (Below.refl _ _).alloc (Nat.le_refl _) _
  have hbx : W0.heap[w.heap.size]? = some (.cells #[.int .i64 0, .int .i64 0, .string ⟨#[]⟩, .slice none 0 0] 42) := by rw [← hW0]; exact new_block _ _
  have HM := Hid.mk (madeH_no (noH_up h hb0))
  have HB0 := Hid.mk hb0
  obtain ⟨⟨q0, q1, q2, q3⟩, r0, r1, r2, r3⟩ := kept4 hbx (Below.refl _ _)
  clear hb0 hbx h
  go_enter Tryd.func7, Tryd.ntmps7
  go_upto_region 1 with fail
  try rw [hW0]
  clear hW0
  go_wp2_with (go_at_call 30; refine HM.out.mono ?_; rintro e w1 ⟨rfl, rfl⟩)
  exact ret2_stored rfl rfl rfl rfl q0 q1 q2 q3 ⟨rfl, Below.set4 HB0.out (Nat.le_refl _)⟩
theorem joinH_no {o : Option Addr} {w : World} (k n : Int) (sv : Value) (h : NoTab w (.pointer o)) :
    Calls Tryd.prog 38 #[.pointer o, .int .i64 k, .int .i64 n, sv] w fun e w' => e = .returned (.tuple #[.int .u64 0, .int .i64 1]) ∧ w = w' := by
  have HM := Hid.mk (madeH_no h)
  clear h
  go_enter Tryd.func38, Tryd.ntmps38
  go_wp2_with (go_at_call 30; refine HM.out.mono ?_; rintro e w1 ⟨rfl, rfl⟩)
  go_ret2
  exact ⟨rfl, rfl⟩
theorem tupleH_no {o : Option Addr} {w : World} (sv : Value) (h : NoTab w (.pointer o)) :
    Calls Tryd.prog 8 #[.pointer o, sv] w fun e w' => e = .returned (.tuple #[.int .u64 0, .int .i64 1]) ∧ w = w' := by
  have HM := Hid.mk (joinH_no 7 0 sv h)
  clear h
  go_enter Tryd.func8, Tryd.ntmps8
  go_wp2_with (go_at_call 38; refine HM.out.mono ?_; rintro e w1 ⟨rfl, rfl⟩)
  go_ret2
  exact ⟨rfl, rfl⟩
theorem funH_no {o : Option Addr} {w : World} (n : Int) (sv : Value) (h : NoTab w (.pointer o)) :
    Calls Tryd.prog 10 #[.pointer o, .int .i64 n, sv] w fun e w' => e = .returned (.tuple #[.int .u64 0, .int .i64 1]) ∧ w = w' := by
  have HM := Hid.mk (joinH_no 5 n sv h)
  clear h
  go_enter Tryd.func10, Tryd.ntmps10
  go_wp2_with (go_at_call 38; refine HM.out.mono ?_; rintro e w1 ⟨rfl, rfl⟩)
  go_ret2
  exact ⟨rfl, rfl⟩
theorem consH_no {o : Option Addr} {w : World} (x y : Int) (h : NoTab w (.pointer o)) :
    Calls Tryd.prog 9 #[.pointer o, .int .u64 x, .int .u64 y] w fun e w' => e = .returned (.tuple #[.int .u64 0, .int .i64 1]) ∧ Below w.heap.size w w' := by
  have hb0 : Below w.heap.size w (w.alloc (.cells #[.int .u64 x, .int .u64 y] 22)) := (Below.refl _ _).alloc (Nat.le_refl _) _
  have HM := Hid.mk (joinH_no 9 0 (.slice (some ⟨w.heap.size, 0, none⟩) 2 2) (noH_up h hb0))
  have HB0 := Hid.mk hb0
  clear h hb0
  go_enter Tryd.func9, Tryd.ntmps9
  go_wp2_with (go_at_call 38; refine HM.out.mono ?_; rintro e w1 ⟨rfl, rfl⟩)
  go_ret2
  exact ⟨rfl, HB0.out⟩
theorem partsH_no {o : Option Addr} {w : World} (x : Int) (h : NoTab w (.pointer o)) :
    Calls Tryd.prog 11 #[.pointer o, .int .u64 x] w fun e w' => e = .returned (.tuple #[.slice none 0 0, .int .i64 1]) ∧ w = w' := by
  have HM := Hid.mk (madeH_no h)
  clear h
  go_enter Tryd.func11, Tryd.ntmps11
  go_wp2_with (go_at_call 30; refine HM.out.mono ?_; rintro e w1 ⟨rfl, rfl⟩)
  go_ret2
  exact ⟨rfl, rfl⟩
theorem collectH_no {o : Option Addr} {w : World} (h : NoTab w (.pointer o)) :
    Calls Tryd.prog 12 #[.pointer o, .slice none 0 0] w fun e w' => e = .returned (.tuple #[.slice none 0 0, .int .i64 1]) ∧ Below w.heap.size w w' := by
  obtain ⟨W0, hW0⟩ : ∃ W0, w.alloc (.cells #[.pointer o] 23) = W0 := ⟨_, rfl⟩
  have hb0 : Below w.heap.size w W0 := by rw [← hW0]; exact (Below.refl _ _).alloc (Nat.le_refl _) _
  have c2 : W0.cell? ⟨w.heap.size, 0, none⟩ = some (.pointer o) := by rw [← hW0]; exact cell_is (new_block _ _) rfl
  have HM := Hid.mk (madeH_no (noH_up h hb0))
  have HB0 := Hid.mk hb0
  clear h hb0
  go_enter Tryd.func12, Tryd.ntmps12
  go_upto_region 1 with fail
  try rw [hW0]
  clear hW0
  go_wp2_with (go_at_call 30; refine HM.out.mono ?_; rintro e w1 ⟨rfl, rfl⟩)
  go_ret2
  exact ⟨rfl, HB0.out⟩
theorem usedH_no {o : Option Addr} {w : World} (h : NoTab w (.pointer o)) : Calls Tryd.prog 13 #[.pointer o] w fun e w' => e = .returned (.int .i64 0) ∧ w = w' := by
  have HM := Hid.mk (madeH_no h)
  clear h
  go_enter Tryd.func13, Tryd.ntmps13
  go_wp2_with (go_at_call 30; refine HM.out.mono ?_; rintro e w1 ⟨rfl, rfl⟩)
  go_ret
  exact ⟨rfl, rfl⟩
theorem limitH_no {o : Option Addr} {w : World} (h : NoTab w (.pointer o)) : Calls Tryd.prog 14 #[.pointer o] w fun e w' => e = .returned (.int .i64 0) ∧ w = w' := by
  have HM := Hid.mk (madeH_no h)
  clear h
  go_enter Tryd.func14, Tryd.ntmps14
  go_wp2_with (go_at_call 30; refine HM.out.mono ?_; rintro e w1 ⟨rfl, rfl⟩)
  go_ret
  exact ⟨rfl, rfl⟩
theorem wordsH_no {o : Option Addr} {w : World} (h : NoTab w (.pointer o)) : Calls Tryd.prog 15 #[.pointer o] w fun e w' => e = .returned (.slice none 0 0) ∧ w = w' := by
  have HM := Hid.mk (madeH_no h)
  clear h
  go_enter Tryd.func15, Tryd.ntmps15
  go_wp2_with (go_at_call 30; refine HM.out.mono ?_; rintro e w1 ⟨rfl, rfl⟩)
  go_ret
  exact ⟨rfl, rfl⟩
theorem newH_no {v : Value} {w : World} (n : Int) (h : NoTab w v) : Calls Tryd.prog 16 #[v, .int .i64 n] w fun e w' => e = .returned (.tuple #[.pointer none, .int .i64 1]) ∧ w = w' := by
  have hc := Hid.mk (name_not (-1) h)
  clear h
  go_enter Tryd.func16, Tryd.ntmps16
  go_wp2_with (go_at_call 48; refine hc.out.mono ?_; rintro e w1 ⟨rfl, rfl⟩)
  go_ret2
  exact ⟨rfl, rfl⟩
end Go.Proofs.YtaiiicmldogjoaaDoor
