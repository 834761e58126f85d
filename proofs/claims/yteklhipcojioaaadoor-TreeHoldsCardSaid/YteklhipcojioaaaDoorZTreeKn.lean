/-
  The examples of the tree's chapter: TreeKnown returns true.
-/
import Derived.Test.YteklhipcojioaaaDoorZTreeActC
namespace Go.Proofs.YteklhipcojioaaaDoor
open Go.RowKit Go.Deep Go.Maps Go.WideShapes

theorem num_mk (n : Int) : (Tm.num n).size = 1 ∧ (Tm.num n).Short := by
  constructor
  · simp [Tm.num, Tm.size_mk, sizes]
  · simp [Tm.num, Tm.short_mk, Shorts, empty_200]
theorem low_up {x : Int} {n : Nat} (h : LowI x n) (hn : n ≤ 700000) : x ≤ 39 := (low_log h hn).2
section
variable {w0 w : World} {p : Nat} {L L2 : List Nd} {c ht a : Int} {b : Bool} {F : Nat → Prop} {T : Tm} {n : Int} {kv : Value}
/-- A key put whose place is known. -/
theorem To.putk (h : To w0 w p L c ht F) (hs : SizeT L c) (hk : Lies w (fun _ => False) T kv) (ho : KeyOk T) (ht0 : ShapeTab w0) (hg : getN L T = a) (hi : isN L T = b) (hp : putN L T n = L2) :
    Calls Tryd.prog 20 #[.pointer (some ⟨p, 0, none⟩), kv, .int .i64 n] w fun e w' => e = .returned (.tuple #[.int .i64 a, .bool b, .int .i64 0]) ∧ ∃ c' ht', To w0 w' p L2 c' ht' F ∧ c ≤ c' ∧ c' ≤ c + 39 ∧ Only (fun k => ¬ F k) w w' := by
  refine (h.put hs hk (fun _ f => f.elim) ho.size ho.short ht0).mono fun e w' hh => ?_
  obtain ⟨h1, c', ht', h2, ⟨h3, h4⟩, h6⟩ := hh
  rw [if_pos ho.check, if_pos ho.check, hg, hi, ho.check] at h1
  rw [if_pos ho.check, hp] at h2
  have := low_up h4 hs.1
  exact ⟨h1, c', ht', h2, h3, by omega, h6⟩
theorem To.removek (h : To w0 w p L c ht F) (hs : SizeT L c) (hk : Lies w (fun _ => False) T kv) (hg : getN L T = a) (hi : isN L T = b) (hp : removeN L T = L2) :
    Calls Tryd.prog 22 #[.pointer (some ⟨p, 0, none⟩), kv] w fun e w' => e = .returned (.tuple #[.int .i64 a, .bool b]) ∧ ∃ c' ht', To w0 w' p L2 c' ht' F ∧ c ≤ c' ∧ c' ≤ c + 39 ∧ Only (fun k => ¬ F k) w w' := by
  refine (h.remove hs hk (fun _ f => f.elim)).mono fun e w' hh => ?_
  obtain ⟨h1, c', ht', h2, ⟨h3, h4⟩, h6⟩ := hh
  rw [hg, hi] at h1
  rw [hp] at h2
  have := low_up h4 hs.1
  exact ⟨h1, c', ht', h2, h3, by omega, h6⟩
theorem To.getk (h : To w0 w p L c ht F) (hs : SizeT L c) (hk : Lies w (fun _ => False) T kv) (hg : getN L T = a) (hi : isN L T = b) :
    Calls Tryd.prog 21 #[.pointer (some ⟨p, 0, none⟩), kv] w fun e w' => e = .returned (.tuple #[.int .i64 a, .bool b]) ∧ ∃ c', To w0 w' p L c' ht F ∧ c ≤ c' ∧ c' ≤ c + 39 ∧ LowI (c' - c) L.length ∧ (b = true → c < c') ∧ Only (fun k => ¬ F k) w w' := by
  refine (h.get hs hk (fun _ f => f.elim)).mono fun e w' hh => ?_
  obtain ⟨h1, c', h2, ⟨h3, h4, h5⟩, h6⟩ := hh
  rw [hg, hi] at h1
  rw [hi] at h5
  have := low_up h4 hs.1
  exact ⟨h1, c', h2.weaken (fun k hk => Or.inl hk), h3, by omega, h4, h5, h6⟩
theorem To.nextk {X : Tm × Int × Bool} (h : To w0 w p L c ht F) (hs : SizeT L c) (hk : Lies w (fun _ => False) T kv) (hX : tellN L ((nextN L T : Nat)) = X) :
    Calls Tryd.prog 25 #[.pointer (some ⟨p, 0, none⟩), kv] w fun e w' => ∃ tv, e = .returned (.tuple #[tv, .int .i64 X.2.1, .bool X.2.2]) ∧ Own w' X.1 w.heap.size w'.heap.size tv ∧ ∃ c', To w0 w' p L c' ht (fun k => F k ∨ (w.heap.size ≤ k ∧ k < w'.heap.size)) ∧ c ≤ c' ∧ c' ≤ c + 39 ∧ Only (fun k => ¬ F k) w w' := by
  refine (h.next hs hk (fun _ f => f.elim)).mono fun e w' hh => ?_
  obtain ⟨tv, h1, h2, c', h3, h4, h5, h6⟩ := hh
  rw [hX] at h1 h2
  have := low_up h5 hs.1
  exact ⟨tv, h1, h2, c', h3, h4, by omega, h6⟩
theorem To.prevk {X : Tm × Int × Bool} (h : To w0 w p L c ht F) (hs : SizeT L c) (hk : Lies w (fun _ => False) T kv) (hX : tellN L ((atN L T : Int) - 1) = X) :
    Calls Tryd.prog 26 #[.pointer (some ⟨p, 0, none⟩), kv] w fun e w' => ∃ tv, e = .returned (.tuple #[tv, .int .i64 X.2.1, .bool X.2.2]) ∧ Own w' X.1 w.heap.size w'.heap.size tv ∧ ∃ c', To w0 w' p L c' ht (fun k => F k ∨ (w.heap.size ≤ k ∧ k < w'.heap.size)) ∧ c ≤ c' ∧ c' ≤ c + 39 ∧ Only (fun k => ¬ F k) w w' := by
  refine (h.prev hs hk (fun _ f => f.elim)).mono fun e w' hh => ?_
  obtain ⟨tv, h1, h2, c', h3, h4, h5, h6⟩ := hh
  rw [hX] at h1 h2
  have := low_up h5 hs.1
  exact ⟨tv, h1, h2, c', h3, h4, by omega, h6⟩
end
/-- A key told, in a box of the law's; all of it in blocks of F. -/
structure TB (w : World) (F : Nat → Prop) (nb : Nat) (T : Tm) (k n : Int) (s : ByteArray) (a : Option Addr) (m c : Nat) : Prop where
  c0 : w.cell? ⟨nb, 0, none⟩ = some (.int .i64 k)
  c1 : w.cell? ⟨nb, 1, none⟩ = some (.int .i64 n)
  c2 : w.cell? ⟨nb, 2, none⟩ = some (.string s)
  c3 : w.cell? ⟨nb, 3, none⟩ = some (.slice a m c)
  lies : Lies w F T (.agg #[.int .i64 k, .int .i64 n, .string s, .slice a m c])
  nbF : F nb
theorem TB.kept {w w' : World} {F X : Nat → Prop} {nb : Nat} {T : Tm} {k n : Int} {s : ByteArray} {a : Option Addr} {m c : Nat} (h : TB w F nb T k n s a m c) (ho : Only X w w') (hX : ∀ k, F k → ¬ X k) : TB w' F nb T k n s a m c :=
  have x := hX nb h.nbF
  ⟨ho.cellS x h.c0, ho.cellS x h.c1, ho.cellS x h.c2, ho.cellS x h.c3, h.lies.move (fun _ h => h) (fun b _ _ hb hc => ho.cellS (hX b hb) hc) _ _, h.nbF⟩
theorem TB.up {w w' : World} {F : Nat → Prop} {nb : Nat} {T : Tm} {k n : Int} {s : ByteArray} {a : Option Addr} {m c : Nat} (h : TB w F nb T k n s a m c) (hb : Below w.heap.size w w') : TB w' F nb T k n s a m c := h.kept (X := fun _ => False) (Only.up hb) (fun _ _ f => f)
theorem TB.mono {w : World} {F F' : Nat → Prop} {nb : Nat} {T : Tm} {k n : Int} {s : ByteArray} {a : Option Addr} {m c : Nat} (h : TB w F nb T k n s a m c) (hF : ∀ k, F k → F' k) : TB w F' nb T k n s a m c := ⟨h.c0, h.c1, h.c2, h.c3, h.lies.wider hF, hF _ h.nbF⟩
/-- What a call has told is boxed. -/
theorem told_box {w0 w3 w4 : World} {p : Nat} {L : List Nd} {c ht : Int} {F : Nat → Prop} {T : Tm} {k n : Int} {s : ByteArray} {a : Option Addr} {m cc : Nat} (h : To w0 w4 p L c ht (fun k => F k ∨ (w3.heap.size ≤ k ∧ k < w4.heap.size))) (h34 : w3.heap.size ≤ w4.heap.size) (ho : Own w4 T w3.heap.size w4.heap.size (.agg #[.int .i64 k, .int .i64 n, .string s, .slice a m cc])) :
    ∃ nb W, w4.heap.size = nb ∧ w4.alloc (.cells #[.int .i64 k, .int .i64 n, .string s, .slice a m cc] 32) = W ∧ Below w4.heap.size w4 W ∧ To w0 W p L c ht (fun k => F k ∨ (w3.heap.size ≤ k ∧ k < W.heap.size)) ∧ TB W (fun k => w3.heap.size ≤ k ∧ k < W.heap.size) nb T k n s a m cc := by
  obtain ⟨nb, W, e1, e2, hb, c0, c1, c2, c3⟩ := boxed_key w4 k n s a m cc
  have hs : W.heap.size = nb + 1 := by rw [← e2, World.size_alloc, e1]
  refine ⟨nb, W, e1, e2, hb, (h.more hb (G := fun k => w4.heap.size ≤ k ∧ k < W.heap.size) (fun k hk => hk)).weaken (fun k hk => ?_), c0, c1, c2, c3, ((Own.lies _ _ _ _ ho).below hb).wider (fun b hb' => ⟨hb'.1, by have := hb'.2; omega⟩), by omega⟩
  rcases hk with e | e
  · exact Or.inl (Or.inl e)
  · by_cases h5 : k < w4.heap.size
    · exact Or.inl (Or.inr ⟨e.1, h5⟩)
    · exact Or.inr ⟨by omega, e.2⟩
/-- A number in a box of its own, as a list. -/
theorem lst_num (n : Int) {w : World} (h0 : -9223372036854775808 ≤ n) (h1 : n ≤ 9223372036854775807) : Lst (w.alloc (.cells #[.int .i64 1, .int .i64 n, .string ⟨#[]⟩, .slice none 0 0] 32)) (fun _ => True) [.num n] (some ⟨w.heap.size, 0, none⟩) 1 := by
  refine ⟨Nat.le_refl _, by decide, Or.inr ⟨_, rfl, fun _ => ⟨trivial, rfl⟩, Row.of fun i hi => ?_⟩⟩
  obtain rfl : i = 0 := by simp at hi; omega
  exact ⟨_, _, _, _, new_cell _ _ _ 0, new_cell _ _ _ 1, new_cell _ _ _ 2, new_cell _ _ _ 3, num_is _ _ n h0 h1⟩
set_option maxHeartbeats 2000000 in
theorem told11_any (want m : Int) (F' : Nat → Prop) (av : Value) (w : World) (ha : Lies w F' (.num want) av) (h0 : -9223372036854775808 ≤ want) (h1 : want ≤ 9223372036854775807) :
    Calls Tryd.prog 29 #[av, .int .i64 m, .bool true, .int .i64 want, .int .i64 m] w fun e w' => e = .returned (.bool true) ∧ Below w.heap.size w w' := by
  obtain ⟨kk, kn, ks, ka, km, kc, rfl⟩ := ha.agg
  obtain ⟨nb, W1, hnb, hW1, hu, b0, b1, b2, b3⟩ := boxed_key w kk kn ks ka km kc
  have HS := Hid.mk (fun (W : World) (hW : Below W1.heap.size W1 W) => sameTermRefl (.num want) F' (fun _ => True) _ _ W ((ha.below hu).below hW) (num_is W _ want h0 h1))
  have HU := Hid.mk hu
  have HW := Hid.mk (And.intro hW1 hnb)
  clear ha hu hnb hW1
  go_enter Tryd.func29, Tryd.ntmps29
  go_upto_region 1 with fail
  rw [HW.out.1, HW.out.2]
  refine region_up (W := W1) (by kernel_rfl) (by kernel_rfl) (Up.refl _) ?_
  refine quiet_value (v := .bool true) rfl (fun _ _ => rfl) ?_
  simp only [Act.put, List.setIfInBounds_toArray, List.set_cons_zero, List.set_cons_succ]
  refine quiet_value (v := .bool true) rfl (fun _ _ => rfl) ?_
  simp only [Act.put, List.setIfInBounds_toArray, List.set_cons_zero, List.set_cons_succ]
  refine quiet_value (v := .int .i64 m) rfl (fun _ _ => rfl) ?_
  simp only [Act.put, List.setIfInBounds_toArray, List.set_cons_zero, List.set_cons_succ]
  refine quiet_value (v := .int .i64 m) rfl (fun _ _ => rfl) ?_
  simp only [Act.put, List.setIfInBounds_toArray, List.set_cons_zero, List.set_cons_succ]
  refine quiet_value (v := .bool true) rfl (fun _ _ => (by go_simp)) ?_
  simp only [Act.put, List.setIfInBounds_toArray, List.set_cons_zero, List.set_cons_succ]
  refine quiet_value (v := .bool true) rfl (fun _ _ => (by go_simp)) ?_
  simp only [Act.put, List.setIfInBounds_toArray, List.set_cons_zero, List.set_cons_succ]
  refine quiet_value (v := .bool true) rfl (fun _ _ => rfl) ?_
  simp only [Act.put, List.setIfInBounds_toArray, List.set_cons_zero, List.set_cons_succ]
  refine quiet_value (v := .agg #[.int .i64 kk, .int .i64 kn, .string ks, .slice ka km kc]) rfl (fun W h => (by have u0 := cell_below h.out _ _ _ b0; have u1 := cell_below h.out _ _ _ b1; have u2 := cell_below h.out _ _ _ b2; have u3 := cell_below h.out _ _ _ b3; go_simp)) ?_
  simp only [Act.put, List.setIfInBounds_toArray, List.set_cons_zero, List.set_cons_succ]
  refine quiet_value (v := .int .i64 want) rfl (fun _ _ => rfl) ?_
  simp only [Act.put, List.setIfInBounds_toArray, List.set_cons_zero, List.set_cons_succ]
  refine quiet_call (v := .agg #[.int .i64 1, .int .i64 want, .string ⟨#[]⟩, .slice none 0 0]) rfl (fun W => (by go_simp)) (fun W h => (num_any want W).mono fun e w' ⟨he, hb⟩ => ⟨he, h.call hb⟩) ?_
  simp only [Act.put, List.setIfInBounds_toArray, List.set_cons_zero, List.set_cons_succ]
  refine quiet_call (v := .bool true) rfl (fun W => (by go_simp)) (fun W h => (HS.out W h.out).mono fun e w' ⟨he, hb⟩ => ⟨he, h.call hb⟩) ?_
  simp only [Act.put, List.setIfInBounds_toArray, List.set_cons_zero, List.set_cons_succ]
  refine quiet_value (v := .bool true) rfl (fun _ _ => (by go_simp)) ?_
  simp only [Act.put, List.setIfInBounds_toArray, List.set_cons_zero, List.set_cons_succ]
  refine quiet_value (v := .bool true) rfl (fun _ _ => rfl) ?_
  simp only [Act.put, List.setIfInBounds_toArray, List.set_cons_zero, List.set_cons_succ]
  refine quiet_nil ?_
  intro w2 hw2
  have HB := Hid.mk (HU.out.trans (hw2.out.mono HU.out.size))
  clear hw2 b0 b1 b2 b3
  go_wp2
  go_ret
  exact ⟨rfl, HB.out⟩
def kL1 : List Nd := [(.num 5, 1)]
def kL2 : List Nd := [(.num 3, 2), (.num 5, 1)]
def kL3 : List Nd := [(.num 3, 2), (.num 5, 7)]
def kL4 : List Nd := [(.num 3, 2)]
theorem ok5 : KeyOk (.num 5) := ⟨by kernel_rfl, by rw [(num_mk 5).1]; decide, (num_mk 5).2⟩
theorem ok3 : KeyOk (.num 3) := ⟨by kernel_rfl, by rw [(num_mk 3).1]; decide, (num_mk 3).2⟩
theorem size_small {L : List Nd} {c : Int} (h : L.length ≤ 10) (h0 : 0 ≤ c) (h1 : c ≤ 1000) : SizeT L c := ⟨by omega, h0, by omega⟩
set_option maxHeartbeats 8000000 in
set_option maxRecDepth 100000 in
theorem first11_any (w : World) (hst : ShapeTab w) : Calls Tryd.prog 27 #[] w fun e w' => ∃ p c ht, e = .returned (.tuple #[.pointer (some ⟨p, 0, none⟩), .bool true]) ∧ To w w' p kL3 c ht (fun _ => False) ∧ 0 ≤ c ∧ c ≤ 200 := by
  have HST := Hid.mk hst
  clear hst
  go_enter Tryd.func27, Tryd.ntmps27
  go_wp2_with (first
    | (have g := T6; go_at_call 20; refine (H6.out.putk (L2 := kL3) (a := 1) (b := true) (size_small (by decide) (by have := C4.out; omega) (by have := C4.out; omega)) (num_is _ _ 5 (by decide) (by decide)) ok5 HST.out (by kernel_rfl) (by kernel_rfl) (by kernel_rfl)).mono ?_; rintro e w7 ⟨rfl, c7, ht7, h, hc1, hc2, _⟩; have H7 := Hid.mk h; have C7 := Hid.mk (And.intro hc1 hc2); clear h hc1 hc2)
    | (have g := H4; go_at_call 28; refine (num_any 5 _).mono ?_; rintro e w6 ⟨rfl, hb⟩; have H6 := Hid.mk (H4.out.up hb); have T6 := True.intro; clear hb)
    | (have g := T3; go_at_call 20; refine (H3.out.putk (L2 := kL2) (a := 0) (b := false) (size_small (by decide) (by have := C2.out; omega) (by have := C2.out; omega)) (num_is _ _ 3 (by decide) (by decide)) ok3 HST.out (by kernel_rfl) (by kernel_rfl) (by kernel_rfl)).mono ?_; rintro e w4 ⟨rfl, c4, ht4, h, hc1, hc2, _⟩; have H4 := Hid.mk h; have C4 := Hid.mk (show 0 ≤ c4 ∧ c4 ≤ 80 by have := C2.out; omega); clear h hc1 hc2)
    | (have g := H2; go_at_call 28; refine (num_any 3 _).mono ?_; rintro e w3 ⟨rfl, hb⟩; have H3 := Hid.mk (H2.out.up hb); have T3 := True.intro; clear hb)
    | (have g := T1; go_at_call 20; refine (H1.out.putk (L2 := kL1) (a := 0) (b := false) (size_small (by decide) (by decide) (by decide)) (num_is _ _ 5 (by decide) (by decide)) ok5 HST.out (by kernel_rfl) (by kernel_rfl) (by kernel_rfl)).mono ?_; rintro e w2 ⟨rfl, c2, ht2, h, hc1, hc2, _⟩; have H2 := Hid.mk h; have C2 := Hid.mk (show 0 ≤ c2 ∧ c2 ≤ 40 by omega); clear h hc1 hc2)
    | (have g := H0; go_at_call 28; refine (num_any 5 _).mono ?_; rintro e w1' ⟨rfl, hb⟩; have H1 := Hid.mk (H0.out.up hb); have T1 := True.intro; clear hb)
    | (go_at_call 8; refine (to_new w).mono ?_; rintro e w1 ⟨p, rfl, h⟩; have H0 := Hid.mk h; clear h))
  go_ret2
  exact ⟨p, c7, ht7, rfl, H7.out, by have := C4.out; have := C7.out; omega, by have := C4.out; have := C7.out; omega⟩
set_option maxHeartbeats 8000000 in
set_option maxRecDepth 100000 in
theorem awake11 (w : World) (hst : ShapeTab w) : Calls Tryd.prog 19 #[] w fun e w' => e = .returned (.bool true) ∧ Below w.heap.size w w' := by
  have HF := Hid.mk (first11_any w hst)
  clear hst
  go_enter Tryd.func19, Tryd.ntmps19
  go_upto_region 5 with (first
    | (go_at_call 23; refine H1.out.first.mono ?_; rintro e w2 ⟨v2, he2, ho2, hb2⟩; rw [show tellN kL3 0 = (.num 3, 2, true) by kernel_rfl] at he2 ho2; obtain rfl := he2; have HO2 := Hid.mk ho2; have H2 := Hid.mk (H1.out.up hb2); obtain ⟨tk2, tn2, ts2, ta2, tm2, tc2, rfl⟩ := ho2.agg; clear ho2 hb2)
    | (go_at_call 27; refine HF.out.mono ?_; rintro e w1 ⟨p, c, ht, rfl, h, hc⟩; have H1 := Hid.mk h; clear h hc))
  obtain ⟨nb2, W2, hnb2, hW2, hu2, a0, a1, a2, a3⟩ := boxed_key w2 tk2 tn2 ts2 ta2 tm2 tc2
  have HL2 := Hid.mk ((Own.lies _ _ _ _ HO2.out).below hu2)
  have H3 := Hid.mk (H2.out.up hu2)
  rw [hW2, hnb2]
  clear hnb2 hW2 hu2
  go_upto_region 6 with (go_at_call 24; refine H3.out.last.mono ?_; rintro e w4 ⟨v4, he4, ho4, hb4⟩; rw [show tellN kL3 ((kL3.length : Int) - 1) = (.num 5, 7, true) by kernel_rfl] at he4 ho4; obtain rfl := he4; have HO4 := Hid.mk ho4; have H4 := Hid.mk (H3.out.up hb4); have HB4 := Hid.mk hb4; replace a0 := cell_below hb4 _ _ _ a0; replace a1 := cell_below hb4 _ _ _ a1; replace a2 := cell_below hb4 _ _ _ a2; replace a3 := cell_below hb4 _ _ _ a3; obtain ⟨tk4, tn4, ts4, ta4, tm4, tc4, rfl⟩ := ho4.agg; clear ho4 hb4)
  obtain ⟨nb4, W4, hnb4, hW4, hu4, d0, d1, d2, d3⟩ := boxed_key w4 tk4 tn4 ts4 ta4 tm4 tc4
  have HL4 := Hid.mk ((Own.lies _ _ _ _ HO4.out).below hu4)
  have HL3 := Hid.mk ((HL2.out.below HB4.out).below hu4)
  have H5 := Hid.mk (H4.out.up hu4)
  replace a0 := cell_below hu4 _ _ _ a0
  replace a1 := cell_below hu4 _ _ _ a1
  replace a2 := cell_below hu4 _ _ _ a2
  replace a3 := cell_below hu4 _ _ _ a3
  rw [hW4, hnb4]
  clear hnb4 hW4 hu4
  go_wp2_with (first
    | (have g := H6; go_at_call 29; refine (told11_any 5 7 _ _ _ HL5.out (by decide) (by decide)).mono ?_; rintro e w7 ⟨rfl, hb⟩; have H7 := Hid.mk (H6.out.up hb); clear hb)
    | (go_at_call 29; refine (told11_any 3 2 _ _ _ HL3.out (by decide) (by decide)).mono ?_; rintro e w6 ⟨rfl, hb⟩; have H6 := Hid.mk (H5.out.up hb); have HL5 := Hid.mk (HL4.out.below hb); replace d0 := cell_below hb _ _ _ d0; replace d1 := cell_below hb _ _ _ d1; replace d2 := cell_below hb _ _ _ d2; replace d3 := cell_below hb _ _ _ d3; clear hb))
  go_ret
  exact ⟨rfl, H7.out.below⟩
set_option maxHeartbeats 8000000 in
set_option maxRecDepth 100000 in
theorem known11 (w : World) (hst : ShapeTab w) : Calls Tryd.prog 5 #[] w fun e w' => e = .returned (.bool true) ∧ Below w.heap.size w w' := by
  have HF := Hid.mk (first11_any w hst)
  have HST := Hid.mk hst
  clear hst
  go_enter Tryd.func5, Tryd.ntmps5
  go_upto_region 5 with (first
    | (go_at_call 25; refine (H3.out.nextk (X := (.num 5, 7, true)) (size_small (by decide) (by have := C1.out; omega) (by have := C1.out; omega)) (num_is _ _ 3 (by decide) (by decide)) (by kernel_rfl)).mono ?_; rintro e w4 ⟨v4, rfl, ho4, c4, h, hc1, hc2, hfr⟩; have HO4 := Hid.mk (And.intro ho4 hfr.size); have H4 := Hid.mk h; have C4 := Hid.mk (show 0 ≤ c4 ∧ c4 ≤ 240 by have := C1.out; omega); obtain ⟨tk4, tn4, ts4, ta4, tm4, tc4, rfl⟩ := ho4.agg; clear ho4 h hc1 hc2 hfr)
    | (have g := H2; go_at_call 28; refine (num_any 3 _).mono ?_; rintro e w3 ⟨rfl, hb⟩; have H3 := Hid.mk (H2.out.up hb); clear hb)
    | (go_at_call 19; refine (awake11 _ (HST.out.below H1.out.below)).mono ?_; rintro e w2 ⟨rfl, hb⟩; have H2 := Hid.mk (H1.out.up hb); clear hb)
    | (go_at_call 27; refine HF.out.mono ?_; rintro e w1 ⟨p, c1, ht, rfl, h, hc⟩; have H1 := Hid.mk h; have C1 := Hid.mk hc; clear h hc))
  obtain ⟨nb4, W4, hnb4, hW4, _, h5, htb4⟩ := told_box H4.out HO4.out.2 HO4.out.1
  obtain ⟨F4, hF4⟩ : ∃ F4, (fun k => w3.heap.size ≤ k ∧ k < W4.heap.size) = F4 := ⟨_, rfl⟩
  rw [hF4] at htb4
  have H5 : Hid (To w W4 p kL3 c4 ht F4) := Hid.mk (h5.weaken (fun k hk => Or.inr (by rw [← hF4] at hk; exact hk)))
  have TB4 := Hid.mk htb4
  obtain ⟨a0, a1, a2, a3, _, _⟩ := htb4
  rw [hW4, hnb4]
  clear hnb4 hW4 h5 hF4
  go_upto_region 6 with (first
    | (have g := H6; go_at_call 25; refine (H6.out.nextk (X := (.num 5, 7, true)) (size_small (by decide) (by have := C4.out; omega) (by have := C4.out; omega)) (num_is _ _ 4 (by decide) (by decide)) (by kernel_rfl)).mono ?_; rintro e w7 ⟨v7, rfl, ho7, c7, h, hc1, hc2, hfr⟩; have HO7 := Hid.mk (And.intro ho7 hfr.size); have H7 := Hid.mk h; have C7 := Hid.mk (show 0 ≤ c7 ∧ c7 ≤ 280 by have := C4.out; omega); have TB7 := Hid.mk (TB6.out.kept hfr (fun k hk hn => hn hk)); clear a0 a1 a2 a3; obtain ⟨a0, a1, a2, a3, _, _⟩ := TB7.out; obtain ⟨tk7, tn7, ts7, ta7, tm7, tc7, rfl⟩ := ho7.agg; clear ho7 h hc1 hc2 hfr)
    | (go_at_call 28; refine (num_any 4 _).mono ?_; rintro e w6 ⟨rfl, hb⟩; have H6 := Hid.mk (H5.out.up hb); have TB6 := Hid.mk (TB4.out.up hb); clear a0 a1 a2 a3; obtain ⟨a0, a1, a2, a3, _, _⟩ := TB6.out; clear hb))
  obtain ⟨nb7, W7, hnb7, hW7, hb77, h8, htb7⟩ := told_box H7.out HO7.out.2 HO7.out.1
  obtain ⟨F7, hF7⟩ : ∃ F7, (fun k => F4 k ∨ (w6.heap.size ≤ k ∧ k < W7.heap.size)) = F7 := ⟨_, rfl⟩
  rw [hF7] at h8
  have H8 := Hid.mk h8
  have TB8 := Hid.mk ((TB7.out.up hb77).mono (F' := F7) (fun k hk => by rw [← hF7]; exact Or.inl hk))
  have TC8 := Hid.mk (htb7.mono (F' := F7) (fun k hk => by rw [← hF7]; exact Or.inr hk))
  clear a0 a1 a2 a3
  obtain ⟨a0, a1, a2, a3, _, _⟩ := TB8.out
  obtain ⟨d0, d1, d2, d3, _, _⟩ := TC8.out
  rw [hW7, hnb7]
  clear hnb7 hW7 h8 hF7 htb7 hb77
  go_upto_region 7 with (first
    | (have g := H9; go_at_call 26; refine (H9.out.prevk (X := (zeroTm, 0, false)) (size_small (by decide) (by have := C7.out; omega) (by have := C7.out; omega)) (num_is _ _ 3 (by decide) (by decide)) (by kernel_rfl)).mono ?_; rintro e w10 ⟨v10, rfl, ho10, c10, h, hc1, hc2, hfr⟩; have H10 := Hid.mk (h.weaken (F' := F7) (fun k hk => Or.inl hk)); have C10 := Hid.mk (show 0 ≤ c10 ∧ c10 ≤ 320 by have := C7.out; omega); have TB10 := Hid.mk (TB9.out.kept hfr (fun k hk hn => hn hk)); have TC10 := Hid.mk (TC9.out.kept hfr (fun k hk hn => hn hk)); clear a0 a1 a2 a3 d0 d1 d2 d3; obtain ⟨a0, a1, a2, a3, _, _⟩ := TB10.out; obtain ⟨d0, d1, d2, d3, _, _⟩ := TC10.out; obtain ⟨tkx, tnx, tsx, tax, tmx, tcx, rfl⟩ := ho10.agg; clear ho10 h hc1 hc2 hfr)
    | (go_at_call 28; refine (num_any 3 _).mono ?_; rintro e w9 ⟨rfl, hb⟩; have H9 := Hid.mk (H8.out.up hb); have TB9 := Hid.mk (TB8.out.up hb); have TC9 := Hid.mk (TC8.out.up hb); clear a0 a1 a2 a3 d0 d1 d2 d3; obtain ⟨a0, a1, a2, a3, _, _⟩ := TB9.out; obtain ⟨d0, d1, d2, d3, _, _⟩ := TC9.out; clear hb))
  obtain ⟨Wx, hWx⟩ : ∃ Wx, w10.alloc (.cells #[.int .i64 tkx, .int .i64 tnx, .string tsx, .slice tax tmx tcx] 32) = Wx := ⟨_, rfl⟩
  have hbx : Below w10.heap.size w10 Wx := by rw [← hWx]; exact (Up.alloc (Up.refl w10)).out
  have H11 := Hid.mk (H10.out.up hbx)
  have TB11 := Hid.mk (TB10.out.up hbx)
  have TC11 := Hid.mk (TC10.out.up hbx)
  clear a0 a1 a2 a3 d0 d1 d2 d3
  obtain ⟨a0, a1, a2, a3, _, _⟩ := TB11.out
  obtain ⟨d0, d1, d2, d3, _, _⟩ := TC11.out
  rw [hWx]
  clear hWx hbx
  go_upto_region 9 with (first
    | (go_at_call 21; refine (H14.out.getk (a := 0) (b := false) (size_small (by decide) (by have := C13.out; omega) (by have := C13.out; omega)) (num_is _ _ 5 (by decide) (by decide)) (by kernel_rfl) (by kernel_rfl)).mono ?_; rintro e w15 ⟨rfl, c15, h, hc1, hc2, _, _, hfr⟩; have H15 := Hid.mk h; have C15 := Hid.mk (show 0 ≤ c15 ∧ c15 ≤ 400 by have := C13.out; omega); have TB15 := Hid.mk (TB14.out.kept hfr (fun k hk hn => hn hk)); have TC15 := Hid.mk (TC14.out.kept hfr (fun k hk hn => hn hk)); clear a0 a1 a2 a3 d0 d1 d2 d3; obtain ⟨a0, a1, a2, a3, _, _⟩ := TB15.out; obtain ⟨d0, d1, d2, d3, _, _⟩ := TC15.out; clear h hc1 hc2 hfr)
    | (have g := H13; go_at_call 28; refine (num_any 5 _).mono ?_; rintro e w14 ⟨rfl, hb⟩; have H14 := Hid.mk (H13.out.up hb); have TB14 := Hid.mk (TB13.out.up hb); have TC14 := Hid.mk (TC13.out.up hb); clear a0 a1 a2 a3 d0 d1 d2 d3; obtain ⟨a0, a1, a2, a3, _, _⟩ := TB14.out; obtain ⟨d0, d1, d2, d3, _, _⟩ := TC14.out; clear hb)
    | (go_at_call 22; refine (H12.out.removek (a := 7) (b := true) (L2 := kL4) (size_small (by decide) (by have := C10.out; omega) (by have := C10.out; omega)) (num_is _ _ 5 (by decide) (by decide)) (by kernel_rfl) (by kernel_rfl) (by kernel_rfl)).mono ?_; rintro e w13 ⟨rfl, c13, ht13, h, hc1, hc2, hfr⟩; have H13 := Hid.mk h; have C13 := Hid.mk (show 0 ≤ c13 ∧ c13 ≤ 360 by have := C10.out; omega); have TB13 := Hid.mk (TB12.out.kept hfr (fun k hk hn => hn hk)); have TC13 := Hid.mk (TC12.out.kept hfr (fun k hk hn => hn hk)); clear a0 a1 a2 a3 d0 d1 d2 d3; obtain ⟨a0, a1, a2, a3, _, _⟩ := TB13.out; obtain ⟨d0, d1, d2, d3, _, _⟩ := TC13.out; clear h hc1 hc2 hfr)
    | (go_at_call 28; refine (num_any 5 _).mono ?_; rintro e w12 ⟨rfl, hb⟩; have H12 := Hid.mk (H11.out.up hb); have TB12 := Hid.mk (TB11.out.up hb); have TC12 := Hid.mk (TC11.out.up hb); clear a0 a1 a2 a3 d0 d1 d2 d3; obtain ⟨a0, a1, a2, a3, _, _⟩ := TB12.out; obtain ⟨d0, d1, d2, d3, _, _⟩ := TC12.out; clear hb))
  have HL4 := Hid.mk (show kL4.map (·.1) = [Tm.num 3] from rfl)
  go_wp2_with (first
    | (go_at_call 16; refine (sameAllRefl [.num 3] _ (fun _ => True) _ _ _ 1 _ (HK20.out.below (Up.alloc (Up.refl w21)).out) (lst_num 3 (w := w21) (by decide) (by decide))).mono ?_; rintro e w22 ⟨rfl, hb⟩; have HZ := Hid.mk ((H21.out.up (Up.alloc (Up.refl w21)).out).up hb); clear hb)
    | (have g := HK19; go_at_call 28; refine (num_any 3 _).mono ?_; rintro e w21 ⟨rfl, hb⟩; have H21 := Hid.mk (H19.out.up hb); have HK20 := Hid.mk (HK19.out.below hb); clear hb)
    | (go_at_call 15; refine (H18.out.keys (size_small (by decide) (by have := C15.out; omega) (by have := C15.out; omega))).mono ?_; rintro e w19 ⟨u, rfl, ho, hb⟩; rw [HL4.out] at ho; obtain ⟨ua, uc, rfl, hlst⟩ := OwnL.lst ho; have HK19 := Hid.mk hlst; have H19 := Hid.mk (H18.out.up hb); clear ho hb hlst)
    | (go_at_call 13; refine H17.out.len.mono ?_; rintro e w18 ⟨rfl, hb⟩; rw [show ((kL4.length : Nat) : Int) = 1 from rfl]; have H18 := Hid.mk (H17.out.up hb); clear hb)
    | (have g := H16; go_at_call 29; refine (told11_any 5 7 _ _ _ TC16.out.lies (by decide) (by decide)).mono ?_; rintro e w17 ⟨rfl, hb⟩; have H17 := Hid.mk (H16.out.up hb); clear hb)
    | (go_at_call 29; refine (told11_any 5 7 _ _ _ TB15.out.lies (by decide) (by decide)).mono ?_; rintro e w16 ⟨rfl, hb⟩; have H16 := Hid.mk (H15.out.up hb); have TC16 := Hid.mk (TC15.out.up hb); clear d0 d1 d2 d3; obtain ⟨d0, d1, d2, d3, _, _⟩ := TC16.out; clear hb))
  go_ret
  exact ⟨rfl, HZ.out.below⟩
end Go.Proofs.YteklhipcojioaaaDoor
