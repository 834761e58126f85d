/-
  One call of a script, on both sides.
-/
import Derived.Test.YteklhipcojioaaaDoorZTreeSx
namespace Go.Proofs.YteklhipcojioaaaDoor
open Go.RowKit Go.Deep Go.Maps Go.WideShapes

theorem StRt.only {w w' : World} {q : Nat} {F S : Nat → Prop} {L : List Nd} (h : StRt w q L F S w') : Only S w w' := let ⟨_, _, h, _⟩ := h; h
/-- Put of the document's tree, whatever the key. -/
theorem putR11_any (q : Nat) (L : List Nd) (F S : Nat → Prop) (T : Tm) (n : Int) (kv : Value) (w : World) (h : Rt w q L F S) (hk : Lies w F T kv) (hF : ∀ b, F b → b < w.heap.size) (hL : L.length ≤ 1000000) (hsz : T.size ≤ 1000000) :
    Calls Tryd.prog 39 #[.pointer (some ⟨q, 0, none⟩), kv, .int .i64 n] w fun e w' => e = .returned (.tuple #[.int .i64 (if T.check = 0 then getN L T else 0), .bool (if T.check = 0 then isN L T else false), .int .i64 T.check]) ∧ StRt w q (if T.check = 0 then putN L T n else L) F S w' := by
  by_cases hc : T.check = 0
  · rw [if_pos hc, if_pos hc, if_pos hc, hc]
    cases hi : isN L T with
    | true => exact putR11_is q L F S F T n kv w h hk hF hL hsz hc hi
    | false =>
      have h0 : getN L T = 0 := by unfold getN; rw [hi]; rfl
      rw [h0]
      exact putR11_none q L F S T n kv w h hk hF hL hsz hc hi
  · rw [if_neg hc, if_neg hc, if_neg hc]
    exact putR11_bad q L F S F T n kv w h hk hsz hc
def putL (L : List Nd) (T : Tm) (n : Int) : List Nd := if T.check = 0 then putN L T n else L
/-- A call's own boxes: the act, its key's copy. -/
structure InB (A B : Nat) (w : World) (nb nb2 lo hi : Nat) (kd n kk kn : Int) (ks : ByteArray) (ka : Option Addr) (km kc : Nat) (tk tn : Int) (ts : ByteArray) (ta : Option Addr) (tm tc : Nat) (T : Tm) : Prop where
  c0 : w.cell? ⟨nb, 0, none⟩ = some (.int .i64 kd)
  c1 : w.cell? ⟨nb, 1, none⟩ = some (.int .i64 n)
  c2 : w.cell? ⟨nb, 2, none⟩ = some (.int .i64 kk)
  c3 : w.cell? ⟨nb, 3, none⟩ = some (.int .i64 kn)
  c4 : w.cell? ⟨nb, 4, none⟩ = some (.string ks)
  c5 : w.cell? ⟨nb, 5, none⟩ = some (.slice ka km kc)
  d0 : w.cell? ⟨nb2, 0, none⟩ = some (.int .i64 tk)
  d1 : w.cell? ⟨nb2, 1, none⟩ = some (.int .i64 tn)
  d2 : w.cell? ⟨nb2, 2, none⟩ = some (.string ts)
  d3 : w.cell? ⟨nb2, 3, none⟩ = some (.slice ta tm tc)
  own : Own w T lo hi (.agg #[.int .i64 tk, .int .i64 tn, .string ts, .slice ta tm tc])
  nb_ : A ≤ nb ∧ nb < B
  nb2_ : A ≤ nb2 ∧ nb2 < B
  lo_ : A ≤ lo
  hi_ : hi ≤ B
  b_ : B ≤ w.heap.size
theorem InB.kept {A B : Nat} {w w' : World} {nb nb2 lo hi : Nat} {kd n kk kn : Int} {ks : ByteArray} {ka : Option Addr} {km kc : Nat} {tk tn : Int} {ts : ByteArray} {ta : Option Addr} {tm tc : Nat} {T : Tm} {X : Nat → Prop}
    (h : InB A B w nb nb2 lo hi kd n kk kn ks ka km kc tk tn ts ta tm tc T) (ho : Only X w w') (hX : ∀ k, A ≤ k → k < B → ¬ X k) : InB A B w' nb nb2 lo hi kd n kk kn ks ka km kc tk tn ts ta tm tc T :=
  have x1 := hX nb h.nb_.1 h.nb_.2
  have x2 := hX nb2 h.nb2_.1 h.nb2_.2
  ⟨ho.cellS x1 h.c0, ho.cellS x1 h.c1, ho.cellS x1 h.c2, ho.cellS x1 h.c3, ho.cellS x1 h.c4, ho.cellS x1 h.c5, ho.cellS x2 h.d0, ho.cellS x2 h.d1, ho.cellS x2 h.d2, ho.cellS x2 h.d3,
    Own.move _ _ _ _ _ _ (Nat.le_refl _) (Nat.le_refl _) (fun k h1 h2 => ho.block k (by have := h.hi_; have := h.b_; omega) (hX k (by have := h.lo_; omega) (by have := h.hi_; omega))) h.own, h.nb_, h.nb2_, h.lo_, h.hi_, Nat.le_trans h.b_ ho.size⟩
theorem InB.up {A B : Nat} {w w' : World} {nb nb2 lo hi : Nat} {kd n kk kn : Int} {ks : ByteArray} {ka : Option Addr} {km kc : Nat} {tk tn : Int} {ts : ByteArray} {ta : Option Addr} {tm tc : Nat} {T : Tm}
    (h : InB A B w nb nb2 lo hi kd n kk kn ks ka km kc tk tn ts ta tm tc T) (hb : Below w.heap.size w w') : InB A B w' nb nb2 lo hi kd n kk kn ks ka km kc tk tn ts ta tm tc T := h.kept (X := fun _ => False) (Only.up hb) (fun _ _ _ f => f)
theorem key_same {w0 a b : World} {T : Tm} {v : Value} (h : Lies a (fun k => k < w0.heap.size) T v) (ha : Below w0.heap.size w0 a) (hb : Below w0.heap.size w0 b) : Lies b (fun k => k < w0.heap.size) T v := h.move (fun _ h => h) (fun k o u hk hc => by
  have e3 : b.heap[k]? = a.heap[k]? := (hb.block k hk).trans (ha.block k hk).symm
  rw [World.cell?_of_block (w := a) (a := ⟨k, o, none⟩) e3]
  exact hc) _ _
theorem key_kept {w0 a b : World} {T : Tm} {v : Value} {S : Nat → Prop} (h : Lies a (fun k => k < w0.heap.size) T v) (ho : Only S a b) (hS : ∀ k, S k → w0.heap.size ≤ k) : Lies b (fun k => k < w0.heap.size) T v := h.move (fun _ h => h) (fun k o u hk hc => ho.cellS (fun hs => by have := hS k hs; have hk' : k < w0.heap.size := hk; omega) hc) _ _
section
variable {w wr : World} {p q : Nat} {L : List Nd} {c ht : Int} {Sr F : Nat → Prop}
set_option maxHeartbeats 16000000 in
set_option maxRecDepth 100000 in
theorem act11_0 (h : Sx w wr p q L L c ht Sr F) (hs : SizeT L c) (hL : L.length < 600000) (T : Tm) (n kk kn : Int) (ks : ByteArray) (ka : Option Addr) (km kc : Nat) (hk : Lies wr (fun b => b < w.heap.size) T (.agg #[.int .i64 kk, .int .i64 kn, .string ks, .slice ka km kc])) (hsz : T.size ≤ 1000000) (hsh : T.Short) (hst : ShapeTab w) :
    Calls Tryd.prog 11 #[.pointer (some ⟨p, 0, none⟩), .pointer (some ⟨q, 0, none⟩), .agg #[.int .i64 0, .int .i64 n, .int .i64 kk, .int .i64 kn, .string ks, .slice ka km kc]] wr fun e w' => e = .returned (.bool true) ∧ ∃ c' ht' Sr', Sx w w' p q (putL L T n) (putL L T n) c' ht' Sr' F ∧ c ≤ c' ∧ LowI (c' - c) L.length := by
  obtain ⟨X0, hX0⟩ : ∃ X0, (if T.check = 0 then getN L T else 0) = X0 := ⟨_, rfl⟩
  obtain ⟨X1, hX1⟩ : ∃ X1, (if T.check = 0 then isN L T else false) = X1 := ⟨_, rfl⟩
  obtain ⟨X2, hX2⟩ : ∃ X2, putL L T n = X2 := ⟨_, rfl⟩
  obtain ⟨X3, hX3⟩ : ∃ X3, T.check = X3 := ⟨_, rfl⟩
  rw [hX2]
  unfold putL at hX2
  have HXD := Hid.mk (And.intro hX0 (And.intro hX1 (And.intro hX2 hX3)))
  clear hX0 hX1 hX2 hX3
  obtain ⟨nb, hnb⟩ : ∃ nb, wr.heap.size = nb := ⟨_, rfl⟩
  obtain ⟨W1, hW1⟩ : ∃ W1, wr.alloc (.cells #[.int .i64 0, .int .i64 n, .int .i64 kk, .int .i64 kn, .string ks, .slice ka km kc] 34) = W1 := ⟨_, rfl⟩
  have hu : Up wr W1 := by rw [← hW1]; exact (Up.refl wr).alloc
  have hcell : ∀ j, W1.cell? ⟨nb, j, none⟩ = (#[Value.int .i64 0, .int .i64 n, .int .i64 kk, .int .i64 kn, .string ks, .slice ka km kc] : Array Value)[j]? := fun j => by rw [← hW1, ← hnb]; exact new_cell _ _ _ j
  have c0 := hcell 0
  have c1 := hcell 1
  have c2 := hcell 2
  have c3 := hcell 3
  have c4 := hcell 4
  have c5 := hcell 5
  simp only [List.getElem?_toArray, List.getElem?_cons_zero, List.getElem?_cons_succ] at c0 c1 c2 c3 c4 c5
  have HCP := Hid.mk (copyTerm_any T hsz _ _ W1 (hk.below hu.out))
  have HW := Hid.mk (And.intro hW1 hnb)
  have HU := Hid.mk hu.out
  have HSZ := Hid.mk (show W1.heap.size = nb + 1 by rw [← hW1, World.size_alloc, hnb])
  have HX0 := Hid.mk h
  have HIN := Hid.mk (show SizeT L c ∧ L.length < 600000 ∧ T.size ≤ 1000000 ∧ T.Short ∧ ShapeTab w ∧ (∀ W, Below wr.heap.size wr W → Lies W (fun b => b < w.heap.size) T (.agg #[.int .i64 kk, .int .i64 kn, .string ks, .slice ka km kc])) from ⟨hs, hL, hsz, hsh, hst, fun W hW => hk.below hW⟩)
  have HWB := Hid.mk h.tree.below
  clear h hs hL hk hsz hsh hst hu hcell hnb hW1
  go_enter Tryd.func11, Tryd.ntmps11
  go_upto_region 1 with fail
  rw [HW.out.1, HW.out.2]
  go_upto_region 2 with (go_at_call 38; refine HCP.out.mono ?_; rintro e w2 ⟨⟨tv, rfl, hown⟩, hb⟩; obtain ⟨tk, tn, ts, ta, tm, tc, rfl⟩ := hown.agg; have HC2 := Hid.mk (And.intro hown hb); clear hown)
  obtain ⟨hown, hb⟩ := HC2.out
  obtain ⟨nb2, hnb2⟩ : ∃ nb2, w2.heap.size = nb2 := ⟨_, rfl⟩
  obtain ⟨w3, hw3⟩ : ∃ w3, w2.alloc (.cells #[.int .i64 tk, .int .i64 tn, .string ts, .slice ta tm tc] 32) = w3 := ⟨_, rfl⟩
  have hu3 : Below W1.heap.size W1 w3 := by rw [← hw3]; exact hb.trans ((Up.alloc (Up.refl w2)).out.mono hb.size)
  have hsz3 : w3.heap.size = nb2 + 1 := by rw [← hw3, World.size_alloc, hnb2]
  have dcell : ∀ j, w3.cell? ⟨nb2, j, none⟩ = (#[Value.int .i64 tk, .int .i64 tn, .string ts, .slice ta tm tc] : Array Value)[j]? := fun j => by rw [← hw3, ← hnb2]; exact new_cell _ _ _ j
  have hal : Below w2.heap.size w2 w3 := by rw [← hw3]; exact (Up.alloc (Up.refl w2)).out
  have hIB : InB wr.heap.size w3.heap.size w3 nb nb2 W1.heap.size w2.heap.size 0 n kk kn ks ka km kc tk tn ts ta tm tc T := by
    have h1 := HSZ.out
    have h2 := hb.size
    have h3 := HW.out.2
    exact ⟨cell_below hu3 _ _ _ c0, cell_below hu3 _ _ _ c1, cell_below hu3 _ _ _ c2, cell_below hu3 _ _ _ c3, cell_below hu3 _ _ _ c4, cell_below hu3 _ _ _ c5, dcell 0, dcell 1, dcell 2, dcell 3,
      Own.move _ _ _ _ _ _ (Nat.le_refl _) (Nat.le_refl _) (fun k _ h5 => hal.block k h5) hown, ⟨by omega, by omega⟩, ⟨by omega, by omega⟩, by omega, by omega, Nat.le_refl _⟩
  obtain ⟨A, hA⟩ : ∃ A, wr.heap.size = A := ⟨_, rfl⟩
  obtain ⟨B, hB⟩ : ∃ B, w3.heap.size = B := ⟨_, rfl⟩
  obtain ⟨lo, hlo⟩ : ∃ lo, W1.heap.size = lo := ⟨_, rfl⟩
  obtain ⟨hi, hhi⟩ : ∃ hi, w2.heap.size = hi := ⟨_, rfl⟩
  have hwr3 : Below wr.heap.size wr w3 := HU.out.trans (hu3.mono HU.out.size)
  have hwA : w.heap.size ≤ A := by rw [← hA]; exact HWB.out.size
  obtain ⟨F2, hF2⟩ : ∃ F2, (fun k => F k ∨ (A ≤ k ∧ k < B)) = F2 := ⟨_, rfl⟩
  have HX3 : Hid (Sx w w3 p q L L c ht Sr F2) := Hid.mk (by rw [← hF2, ← hA, ← hB]; exact HX0.out.more hwr3 _ (fun k hk => hk))
  rw [hA, hB, hlo, hhi] at hIB
  have HB3 := Hid.mk hIB
  have HF2 := Hid.mk (show (∀ k, A ≤ k → k < B → F2 k) ∧ (∀ k, F k → F2 k) ∧ w.heap.size ≤ A from ⟨fun k h1 h2 => by rw [← hF2]; exact Or.inr ⟨h1, h2⟩, fun k hk => by rw [← hF2]; exact Or.inl hk, hwA⟩)
  have HKY := Hid.mk (fun (W : World) (hW : Below w3.heap.size w3 W) => HIN.out.2.2.2.2.2 W (hwr3.trans (hW.mono hwr3.size)))
  rw [hw3, hnb2]
  clear hw3 hown hb hu3 hsz3 dcell hal hIB hA hB hlo hhi hwr3 hwA hF2 c0 c1 c2 c3 c4 c5
  obtain ⟨c0, c1, c2, c3, c4, c5, d0, d1, d2, d3, _, _, _, _, _, _⟩ := HB3.out
  clear hnb2
  have HP := Hid.mk (HX3.out.tree.put HIN.out.1 (n := n) (Own.lies _ _ _ _ HB3.out.own) (fun b hb => Or.inr (Or.inr (HF2.out.1 b (by have := HB3.out.lo_; omega) (by have := HB3.out.hi_; omega)))) HIN.out.2.2.1 HIN.out.2.2.2.1 HIN.out.2.2.2.2.1)
  have HR := Hid.mk (fun (W : World) (hr : Rt W q L (fun b => b < w.heap.size) Sr) (hW : w.heap.size ≤ W.heap.size) (hk : Lies W (fun b => b < w.heap.size) T (.agg #[.int .i64 kk, .int .i64 kn, .string ks, .slice ka km kc])) => putR11_any q L _ Sr T n _ W hr hk (fun b hb => Nat.lt_of_lt_of_le hb hW) (by have := HIN.out.2.1; omega) HIN.out.2.2.1)
  obtain ⟨hX0, hX1, hX2, hX3⟩ := HXD.out
  rw [hX0, hX1, hX2, hX3] at HP
  simp only [hX0, hX1, hX2] at HR
  simp only [hX3] at HR
  clear hX0 hX1 hX2 hX3
  go_wp2_with (first
    | (have gz := HZ9; go_at_call 47; refine (overTerm_any T lo hi _ w9 (by have := HB9.out.hi_; have := HB9.out.b_; omega) HB9.out.own).mono ?_; rintro e w10 ⟨⟨u, rfl⟩, ho⟩; have HZ := Hid.mk ho; clear ho)
    | (have gy := HX5; go_at_call 32; refine (sameTermRefl T _ _ _ _ _ (Own.lies _ _ _ _ HB5.out.own) (HK5.out)).mono ?_; rintro e w9 ⟨rfl, hb⟩; have HZ9 := Hid.mk (HX5.out.up hb); have HB9 := Hid.mk (HB5.out.up hb); clear c0 c1 c2 c3 c4 c5 d0 d1 d2 d3; obtain ⟨c0, c1, c2, c3, c4, c5, d0, d1, d2, d3, _, _, _, _, _, _⟩ := HB9.out; clear hb)
    | (go_at_call 39; refine (HR.out w4 HX4.out.rb HX4.out.tree.below.size HK4.out).mono ?_; rintro e w5 ⟨rfl, hs⟩; have HO5 := Hid.mk hs.only; obtain ⟨Sr5, hx5, ho5⟩ := HX4.out.ref hs; have HX5 := Hid.mk hx5; have HB5 := Hid.mk (HB4.out.kept ho5 (fun k h1 h2 hn => HX4.out.apart k (HF2.out.1 k h1 h2) hn)); have HK5 := Hid.mk (key_kept HK4.out ho5 HX4.out.own); clear c0 c1 c2 c3 c4 c5 d0 d1 d2 d3; obtain ⟨c0, c1, c2, c3, c4, c5, d0, d1, d2, d3, _, _, _, _, _, _⟩ := HB5.out; clear hs hx5 ho5)
    | (go_at_call 20; refine HP.out.mono ?_; rintro e w4 ⟨rfl, c', ht', hto, ⟨hc1, hc2⟩, ho⟩; have HX4 := Hid.mk (HX3.out.prog hto ho); have HB4 := Hid.mk (HB3.out.kept ho (fun k h1 h2 hn => hn (Or.inr (HF2.out.1 k h1 h2)))); have HK4 := Hid.mk (key_same (HKY.out w3 (Below.refl _ _)) HX3.out.tree.below hto.below); have HLW := Hid.mk (And.intro hc1 hc2); clear c0 c1 c2 c3 c4 c5 d0 d1 d2 d3; obtain ⟨c0, c1, c2, c3, c4, c5, d0, d1, d2, d3, _, _, _, _, _, _⟩ := HB4.out; clear hto ho hc1 hc2))
  go_ret
  have hov := HZ9.out.over HZ.out.only (fun k hk => ⟨HF2.out.1 k (by have := HB9.out.lo_; omega) (by have := HB9.out.hi_; omega), by have := HF2.out.2.2; have := HB9.out.lo_; omega⟩)
  exact ⟨rfl, c', ht', Sr5, hov.weaken HF2.out.2.1, HLW.out.1, HLW.out.2⟩
end
end Go.Proofs.YteklhipcojioaaaDoor

/-
  One call of a script, on both sides: further kinds.
-/
namespace Go.Proofs.YteklhipcojioaaaDoor
open Go.RowKit Go.Deep Go.Maps Go.WideShapes

section
variable {w wr : World} {p q : Nat} {L : List Nd} {c ht : Int} {Sr F : Nat → Prop}
set_option maxHeartbeats 16000000 in
set_option maxRecDepth 100000 in
theorem act11_1 (h : Sx w wr p q L L c ht Sr F) (hs : SizeT L c) (hL : L.length < 600000) (T : Tm) (n kk kn : Int) (ks : ByteArray) (ka : Option Addr) (km kc : Nat) (hk : Lies wr (fun b => b < w.heap.size) T (.agg #[.int .i64 kk, .int .i64 kn, .string ks, .slice ka km kc])) (hsz : T.size ≤ 1000000) (hsh : T.Short) (hst : ShapeTab w) :
    Calls Tryd.prog 11 #[.pointer (some ⟨p, 0, none⟩), .pointer (some ⟨q, 0, none⟩), .agg #[.int .i64 1, .int .i64 n, .int .i64 kk, .int .i64 kn, .string ks, .slice ka km kc]] wr fun e w' => e = .returned (.bool true) ∧ ∃ c', Sx w w' p q L L c' ht Sr F ∧ c ≤ c' ∧ LowI (c' - c) L.length := by
  obtain ⟨nb, hnb⟩ : ∃ nb, wr.heap.size = nb := ⟨_, rfl⟩
  obtain ⟨W1, hW1⟩ : ∃ W1, wr.alloc (.cells #[.int .i64 1, .int .i64 n, .int .i64 kk, .int .i64 kn, .string ks, .slice ka km kc] 34) = W1 := ⟨_, rfl⟩
  have hu : Up wr W1 := by rw [← hW1]; exact (Up.refl wr).alloc
  have hcell : ∀ j, W1.cell? ⟨nb, j, none⟩ = (#[Value.int .i64 1, .int .i64 n, .int .i64 kk, .int .i64 kn, .string ks, .slice ka km kc] : Array Value)[j]? := fun j => by rw [← hW1, ← hnb]; exact new_cell _ _ _ j
  have c0 := hcell 0
  have c1 := hcell 1
  have c2 := hcell 2
  have c3 := hcell 3
  have c4 := hcell 4
  have c5 := hcell 5
  simp only [List.getElem?_toArray, List.getElem?_cons_zero, List.getElem?_cons_succ] at c0 c1 c2 c3 c4 c5
  have HCP := Hid.mk (copyTerm_any T hsz _ _ W1 (hk.below hu.out))
  have HW := Hid.mk (And.intro hW1 hnb)
  have HU := Hid.mk hu.out
  have HSZ := Hid.mk (show W1.heap.size = nb + 1 by rw [← hW1, World.size_alloc, hnb])
  have HX0 := Hid.mk h
  have HIN := Hid.mk (show SizeT L c ∧ L.length < 600000 ∧ T.size ≤ 1000000 ∧ T.Short ∧ ShapeTab w ∧ (∀ W, Below wr.heap.size wr W → Lies W (fun b => b < w.heap.size) T (.agg #[.int .i64 kk, .int .i64 kn, .string ks, .slice ka km kc])) from ⟨hs, hL, hsz, hsh, hst, fun W hW => hk.below hW⟩)
  have HWB := Hid.mk h.tree.below
  clear h hs hL hk hsz hsh hst hu hcell hnb hW1
  go_enter Tryd.func11, Tryd.ntmps11
  go_upto_region 1 with fail
  rw [HW.out.1, HW.out.2]
  go_upto_region 2 with (go_at_call 38; refine HCP.out.mono ?_; rintro e w2 ⟨⟨tv, rfl, hown⟩, hb⟩; obtain ⟨tk, tn, ts, ta, tm, tc, rfl⟩ := hown.agg; have HC2 := Hid.mk (And.intro hown hb); clear hown)
  obtain ⟨hown, hb⟩ := HC2.out
  obtain ⟨nb2, hnb2⟩ : ∃ nb2, w2.heap.size = nb2 := ⟨_, rfl⟩
  obtain ⟨w3, hw3⟩ : ∃ w3, w2.alloc (.cells #[.int .i64 tk, .int .i64 tn, .string ts, .slice ta tm tc] 32) = w3 := ⟨_, rfl⟩
  have hu3 : Below W1.heap.size W1 w3 := by rw [← hw3]; exact hb.trans ((Up.alloc (Up.refl w2)).out.mono hb.size)
  have hsz3 : w3.heap.size = nb2 + 1 := by rw [← hw3, World.size_alloc, hnb2]
  have dcell : ∀ j, w3.cell? ⟨nb2, j, none⟩ = (#[Value.int .i64 tk, .int .i64 tn, .string ts, .slice ta tm tc] : Array Value)[j]? := fun j => by rw [← hw3, ← hnb2]; exact new_cell _ _ _ j
  have hal : Below w2.heap.size w2 w3 := by rw [← hw3]; exact (Up.alloc (Up.refl w2)).out
  have hIB : InB wr.heap.size w3.heap.size w3 nb nb2 W1.heap.size w2.heap.size 1 n kk kn ks ka km kc tk tn ts ta tm tc T := by
    have h1 := HSZ.out
    have h2 := hb.size
    have h3 := HW.out.2
    exact ⟨cell_below hu3 _ _ _ c0, cell_below hu3 _ _ _ c1, cell_below hu3 _ _ _ c2, cell_below hu3 _ _ _ c3, cell_below hu3 _ _ _ c4, cell_below hu3 _ _ _ c5, dcell 0, dcell 1, dcell 2, dcell 3,
      Own.move _ _ _ _ _ _ (Nat.le_refl _) (Nat.le_refl _) (fun k _ h5 => hal.block k h5) hown, ⟨by omega, by omega⟩, ⟨by omega, by omega⟩, by omega, by omega, Nat.le_refl _⟩
  obtain ⟨A, hA⟩ : ∃ A, wr.heap.size = A := ⟨_, rfl⟩
  obtain ⟨B, hB⟩ : ∃ B, w3.heap.size = B := ⟨_, rfl⟩
  obtain ⟨lo, hlo⟩ : ∃ lo, W1.heap.size = lo := ⟨_, rfl⟩
  obtain ⟨hi, hhi⟩ : ∃ hi, w2.heap.size = hi := ⟨_, rfl⟩
  have hwr3 : Below wr.heap.size wr w3 := HU.out.trans (hu3.mono HU.out.size)
  have hwA : w.heap.size ≤ A := by rw [← hA]; exact HWB.out.size
  obtain ⟨F2, hF2⟩ : ∃ F2, (fun k => F k ∨ (A ≤ k ∧ k < B)) = F2 := ⟨_, rfl⟩
  have HX3 : Hid (Sx w w3 p q L L c ht Sr F2) := Hid.mk (by rw [← hF2, ← hA, ← hB]; exact HX0.out.more hwr3 _ (fun k hk => hk))
  rw [hA, hB, hlo, hhi] at hIB
  have HB3 := Hid.mk hIB
  have HF2 := Hid.mk (show (∀ k, A ≤ k → k < B → F2 k) ∧ (∀ k, F k → F2 k) ∧ w.heap.size ≤ A from ⟨fun k h1 h2 => by rw [← hF2]; exact Or.inr ⟨h1, h2⟩, fun k hk => by rw [← hF2]; exact Or.inl hk, hwA⟩)
  have HKY := Hid.mk (fun (W : World) (hW : Below w3.heap.size w3 W) => HIN.out.2.2.2.2.2 W (hwr3.trans (hW.mono hwr3.size)))
  rw [hw3, hnb2]
  clear hw3 hown hb hu3 hsz3 dcell hal hIB hA hB hlo hhi hwr3 hwA hF2 c0 c1 c2 c3 c4 c5
  obtain ⟨c0, c1, c2, c3, c4, c5, d0, d1, d2, d3, _, _, _, _, _, _⟩ := HB3.out
  clear hnb2
  have HP := Hid.mk (HX3.out.tree.get HIN.out.1 (Own.lies _ _ _ _ HB3.out.own) (fun b hb => Or.inr (Or.inr (HF2.out.1 b (by have := HB3.out.lo_; omega) (by have := HB3.out.hi_; omega)))))
  have HR := Hid.mk (fun (W : World) (hr : Rt W q L (fun b => b < w.heap.size) Sr) (hW : w.heap.size ≤ W.heap.size) (hk : Lies W (fun b => b < w.heap.size) T (.agg #[.int .i64 kk, .int .i64 kn, .string ks, .slice ka km kc])) => getR11_any q L _ Sr _ T _ W hr hk (by have := HIN.out.2.1; omega))
  generalize getN L T = X0 at *
  generalize isN L T = X1 at *
  go_wp2_with (first
    | (have gz := HZ9; go_at_call 47; refine (overTerm_any T lo hi _ w9 (by have := HB9.out.hi_; have := HB9.out.b_; omega) HB9.out.own).mono ?_; rintro e w10 ⟨⟨u, rfl⟩, ho⟩; have HZ := Hid.mk ho; clear ho)
    | (have gy := HX5; go_at_call 32; refine (sameTermRefl T _ _ _ _ _ (Own.lies _ _ _ _ HB5.out.own) (HK5.out)).mono ?_; rintro e w9 ⟨rfl, hb⟩; have HZ9 := Hid.mk (HX5.out.up hb); have HB9 := Hid.mk (HB5.out.up hb); clear c0 c1 c2 c3 c4 c5 d0 d1 d2 d3; obtain ⟨c0, c1, c2, c3, c4, c5, d0, d1, d2, d3, _, _, _, _, _, _⟩ := HB9.out; clear hb)
    | (go_at_call 40; refine (HR.out w4 HX4.out.rb HX4.out.tree.below.size HK4.out).mono ?_; rintro e w5 ⟨rfl, hb⟩; have HX5 := Hid.mk (HX4.out.up hb); have HB5 := Hid.mk (HB4.out.up hb); have HK5 := Hid.mk (HK4.out.below hb); clear c0 c1 c2 c3 c4 c5 d0 d1 d2 d3; obtain ⟨c0, c1, c2, c3, c4, c5, d0, d1, d2, d3, _, _, _, _, _, _⟩ := HB5.out; clear hb)
    | (go_at_call 21; refine HP.out.mono ?_; rintro e w4 ⟨rfl, c', hto, ⟨hc1, hc2, hc3⟩, ho⟩; have HX4 := Hid.mk (HX3.out.prog (hto.weaken (fun k hk => Or.inl hk)) ho); have HB4 := Hid.mk (HB3.out.kept ho (fun k h1 h2 hn => hn (Or.inr (HF2.out.1 k h1 h2)))); have HK4 := Hid.mk (key_same (HKY.out w3 (Below.refl _ _)) HX3.out.tree.below hto.below); have HLW := Hid.mk (And.intro hc1 hc2); clear c0 c1 c2 c3 c4 c5 d0 d1 d2 d3; obtain ⟨c0, c1, c2, c3, c4, c5, d0, d1, d2, d3, _, _, _, _, _, _⟩ := HB4.out; clear hto ho hc1 hc2 hc3))
  go_ret
  have hov := HZ9.out.over HZ.out.only (fun k hk => ⟨HF2.out.1 k (by have := HB9.out.lo_; omega) (by have := HB9.out.hi_; omega), by have := HF2.out.2.2; have := HB9.out.lo_; omega⟩)
  exact ⟨rfl, c', hov.weaken HF2.out.2.1, HLW.out.1, HLW.out.2⟩
set_option maxHeartbeats 16000000 in
set_option maxRecDepth 100000 in
theorem act11_2 (h : Sx w wr p q L L c ht Sr F) (hs : SizeT L c) (hL : L.length < 600000) (T : Tm) (n kk kn : Int) (ks : ByteArray) (ka : Option Addr) (km kc : Nat) (hk : Lies wr (fun b => b < w.heap.size) T (.agg #[.int .i64 kk, .int .i64 kn, .string ks, .slice ka km kc])) (hsz : T.size ≤ 1000000) (hsh : T.Short) (hst : ShapeTab w) :
    Calls Tryd.prog 11 #[.pointer (some ⟨p, 0, none⟩), .pointer (some ⟨q, 0, none⟩), .agg #[.int .i64 2, .int .i64 n, .int .i64 kk, .int .i64 kn, .string ks, .slice ka km kc]] wr fun e w' => e = .returned (.bool true) ∧ ∃ c' ht' Sr', Sx w w' p q (removeN L T) (removeN L T) c' ht' Sr' F ∧ c ≤ c' ∧ LowI (c' - c) L.length := by
  obtain ⟨nb, hnb⟩ : ∃ nb, wr.heap.size = nb := ⟨_, rfl⟩
  obtain ⟨W1, hW1⟩ : ∃ W1, wr.alloc (.cells #[.int .i64 2, .int .i64 n, .int .i64 kk, .int .i64 kn, .string ks, .slice ka km kc] 34) = W1 := ⟨_, rfl⟩
  have hu : Up wr W1 := by rw [← hW1]; exact (Up.refl wr).alloc
  have hcell : ∀ j, W1.cell? ⟨nb, j, none⟩ = (#[Value.int .i64 2, .int .i64 n, .int .i64 kk, .int .i64 kn, .string ks, .slice ka km kc] : Array Value)[j]? := fun j => by rw [← hW1, ← hnb]; exact new_cell _ _ _ j
  have c0 := hcell 0
  have c1 := hcell 1
  have c2 := hcell 2
  have c3 := hcell 3
  have c4 := hcell 4
  have c5 := hcell 5
  simp only [List.getElem?_toArray, List.getElem?_cons_zero, List.getElem?_cons_succ] at c0 c1 c2 c3 c4 c5
  have HCP := Hid.mk (copyTerm_any T hsz _ _ W1 (hk.below hu.out))
  have HW := Hid.mk (And.intro hW1 hnb)
  have HU := Hid.mk hu.out
  have HSZ := Hid.mk (show W1.heap.size = nb + 1 by rw [← hW1, World.size_alloc, hnb])
  have HX0 := Hid.mk h
  have HIN := Hid.mk (show SizeT L c ∧ L.length < 600000 ∧ T.size ≤ 1000000 ∧ T.Short ∧ ShapeTab w ∧ (∀ W, Below wr.heap.size wr W → Lies W (fun b => b < w.heap.size) T (.agg #[.int .i64 kk, .int .i64 kn, .string ks, .slice ka km kc])) from ⟨hs, hL, hsz, hsh, hst, fun W hW => hk.below hW⟩)
  have HWB := Hid.mk h.tree.below
  clear h hs hL hk hsz hsh hst hu hcell hnb hW1
  go_enter Tryd.func11, Tryd.ntmps11
  go_upto_region 1 with fail
  rw [HW.out.1, HW.out.2]
  go_upto_region 2 with (go_at_call 38; refine HCP.out.mono ?_; rintro e w2 ⟨⟨tv, rfl, hown⟩, hb⟩; obtain ⟨tk, tn, ts, ta, tm, tc, rfl⟩ := hown.agg; have HC2 := Hid.mk (And.intro hown hb); clear hown)
  obtain ⟨hown, hb⟩ := HC2.out
  obtain ⟨nb2, hnb2⟩ : ∃ nb2, w2.heap.size = nb2 := ⟨_, rfl⟩
  obtain ⟨w3, hw3⟩ : ∃ w3, w2.alloc (.cells #[.int .i64 tk, .int .i64 tn, .string ts, .slice ta tm tc] 32) = w3 := ⟨_, rfl⟩
  have hu3 : Below W1.heap.size W1 w3 := by rw [← hw3]; exact hb.trans ((Up.alloc (Up.refl w2)).out.mono hb.size)
  have hsz3 : w3.heap.size = nb2 + 1 := by rw [← hw3, World.size_alloc, hnb2]
  have dcell : ∀ j, w3.cell? ⟨nb2, j, none⟩ = (#[Value.int .i64 tk, .int .i64 tn, .string ts, .slice ta tm tc] : Array Value)[j]? := fun j => by rw [← hw3, ← hnb2]; exact new_cell _ _ _ j
  have hal : Below w2.heap.size w2 w3 := by rw [← hw3]; exact (Up.alloc (Up.refl w2)).out
  have hIB : InB wr.heap.size w3.heap.size w3 nb nb2 W1.heap.size w2.heap.size 2 n kk kn ks ka km kc tk tn ts ta tm tc T := by
    have h1 := HSZ.out
    have h2 := hb.size
    have h3 := HW.out.2
    exact ⟨cell_below hu3 _ _ _ c0, cell_below hu3 _ _ _ c1, cell_below hu3 _ _ _ c2, cell_below hu3 _ _ _ c3, cell_below hu3 _ _ _ c4, cell_below hu3 _ _ _ c5, dcell 0, dcell 1, dcell 2, dcell 3,
      Own.move _ _ _ _ _ _ (Nat.le_refl _) (Nat.le_refl _) (fun k _ h5 => hal.block k h5) hown, ⟨by omega, by omega⟩, ⟨by omega, by omega⟩, by omega, by omega, Nat.le_refl _⟩
  obtain ⟨A, hA⟩ : ∃ A, wr.heap.size = A := ⟨_, rfl⟩
  obtain ⟨B, hB⟩ : ∃ B, w3.heap.size = B := ⟨_, rfl⟩
  obtain ⟨lo, hlo⟩ : ∃ lo, W1.heap.size = lo := ⟨_, rfl⟩
  obtain ⟨hi, hhi⟩ : ∃ hi, w2.heap.size = hi := ⟨_, rfl⟩
  have hwr3 : Below wr.heap.size wr w3 := HU.out.trans (hu3.mono HU.out.size)
  have hwA : w.heap.size ≤ A := by rw [← hA]; exact HWB.out.size
  obtain ⟨F2, hF2⟩ : ∃ F2, (fun k => F k ∨ (A ≤ k ∧ k < B)) = F2 := ⟨_, rfl⟩
  have HX3 : Hid (Sx w w3 p q L L c ht Sr F2) := Hid.mk (by rw [← hF2, ← hA, ← hB]; exact HX0.out.more hwr3 _ (fun k hk => hk))
  rw [hA, hB, hlo, hhi] at hIB
  have HB3 := Hid.mk hIB
  have HF2 := Hid.mk (show (∀ k, A ≤ k → k < B → F2 k) ∧ (∀ k, F k → F2 k) ∧ w.heap.size ≤ A from ⟨fun k h1 h2 => by rw [← hF2]; exact Or.inr ⟨h1, h2⟩, fun k hk => by rw [← hF2]; exact Or.inl hk, hwA⟩)
  have HKY := Hid.mk (fun (W : World) (hW : Below w3.heap.size w3 W) => HIN.out.2.2.2.2.2 W (hwr3.trans (hW.mono hwr3.size)))
  rw [hw3, hnb2]
  clear hw3 hown hb hu3 hsz3 dcell hal hIB hA hB hlo hhi hwr3 hwA hF2 c0 c1 c2 c3 c4 c5
  obtain ⟨c0, c1, c2, c3, c4, c5, d0, d1, d2, d3, _, _, _, _, _, _⟩ := HB3.out
  clear hnb2
  have HP := Hid.mk (HX3.out.tree.remove HIN.out.1 (Own.lies _ _ _ _ HB3.out.own) (fun b hb => Or.inr (Or.inr (HF2.out.1 b (by have := HB3.out.lo_; omega) (by have := HB3.out.hi_; omega)))))
  have HR := Hid.mk (fun (W : World) (hr : Rt W q L (fun b => b < w.heap.size) Sr) (hW : w.heap.size ≤ W.heap.size) (hk : Lies W (fun b => b < w.heap.size) T (.agg #[.int .i64 kk, .int .i64 kn, .string ks, .slice ka km kc])) => removeR11_any q L _ Sr _ T _ W hr hk (fun b hb => Nat.lt_of_lt_of_le hb hW) (by have := HIN.out.2.1; omega))
  generalize getN L T = X0 at *
  generalize isN L T = X1 at *
  go_wp2_with (first
    | (have gz := HZ9; go_at_call 47; refine (overTerm_any T lo hi _ w9 (by have := HB9.out.hi_; have := HB9.out.b_; omega) HB9.out.own).mono ?_; rintro e w10 ⟨⟨u, rfl⟩, ho⟩; have HZ := Hid.mk ho; clear ho)
    | (have gy := HX5; go_at_call 32; refine (sameTermRefl T _ _ _ _ _ (Own.lies _ _ _ _ HB5.out.own) (HK5.out)).mono ?_; rintro e w9 ⟨rfl, hb⟩; have HZ9 := Hid.mk (HX5.out.up hb); have HB9 := Hid.mk (HB5.out.up hb); clear c0 c1 c2 c3 c4 c5 d0 d1 d2 d3; obtain ⟨c0, c1, c2, c3, c4, c5, d0, d1, d2, d3, _, _, _, _, _, _⟩ := HB9.out; clear hb)
    | (go_at_call 41; refine (HR.out w4 HX4.out.rb HX4.out.tree.below.size HK4.out).mono ?_; rintro e w5 ⟨rfl, hs⟩; obtain ⟨Sr5, hx5, ho5⟩ := HX4.out.ref hs; have HX5 := Hid.mk hx5; have HB5 := Hid.mk (HB4.out.kept ho5 (fun k h1 h2 hn => HX4.out.apart k (HF2.out.1 k h1 h2) hn)); have HK5 := Hid.mk (key_kept HK4.out ho5 HX4.out.own); clear c0 c1 c2 c3 c4 c5 d0 d1 d2 d3; obtain ⟨c0, c1, c2, c3, c4, c5, d0, d1, d2, d3, _, _, _, _, _, _⟩ := HB5.out; clear hs hx5 ho5)
    | (go_at_call 22; refine HP.out.mono ?_; rintro e w4 ⟨rfl, c', ht', hto, ⟨hc1, hc2⟩, ho⟩; have HX4 := Hid.mk (HX3.out.prog hto ho); have HB4 := Hid.mk (HB3.out.kept ho (fun k h1 h2 hn => hn (Or.inr (HF2.out.1 k h1 h2)))); have HK4 := Hid.mk (key_same (HKY.out w3 (Below.refl _ _)) HX3.out.tree.below hto.below); have HLW := Hid.mk (And.intro hc1 hc2); clear c0 c1 c2 c3 c4 c5 d0 d1 d2 d3; obtain ⟨c0, c1, c2, c3, c4, c5, d0, d1, d2, d3, _, _, _, _, _, _⟩ := HB4.out; clear hto ho hc1 hc2))
  go_ret
  have hov := HZ9.out.over HZ.out.only (fun k hk => ⟨HF2.out.1 k (by have := HB9.out.lo_; omega) (by have := HB9.out.hi_; omega), by have := HF2.out.2.2; have := HB9.out.lo_; omega⟩)
  exact ⟨rfl, c', ht', Sr5, hov.weaken HF2.out.2.1, HLW.out.1, HLW.out.2⟩
end
end Go.Proofs.YteklhipcojioaaaDoor
