/-
  One call of a script, on both sides: further kinds.
-/
import Derived.Test.YteklhipcojioaaaDoorZTreeActA
namespace Go.Proofs.YteklhipcojioaaaDoor
open Go.RowKit Go.Deep Go.Maps Go.WideShapes

section
variable {w wr : World} {p q : Nat} {L : List Nd} {c ht : Int} {Sr F : Nat → Prop}
set_option maxHeartbeats 16000000 in
set_option maxRecDepth 100000 in
theorem act11_3 (h : Sx w wr p q L L c ht Sr F) (hs : SizeT L c) (hL : L.length < 600000) (T : Tm) (n kk kn : Int) (ks : ByteArray) (ka : Option Addr) (km kc : Nat) (hk : Lies wr (fun b => b < w.heap.size) T (.agg #[.int .i64 kk, .int .i64 kn, .string ks, .slice ka km kc])) (hsz : T.size ≤ 1000000) (hsh : T.Short) (hst : ShapeTab w) :
    Calls Tryd.prog 11 #[.pointer (some ⟨p, 0, none⟩), .pointer (some ⟨q, 0, none⟩), .agg #[.int .i64 3, .int .i64 n, .int .i64 kk, .int .i64 kn, .string ks, .slice ka km kc]] wr fun e w' => e = .returned (.bool true) ∧ Sx w w' p q L L c ht Sr F := by
  obtain ⟨nb, hnb⟩ : ∃ nb, wr.heap.size = nb := ⟨_, rfl⟩
  obtain ⟨W1, hW1⟩ : ∃ W1, wr.alloc (.cells #[.int .i64 3, .int .i64 n, .int .i64 kk, .int .i64 kn, .string ks, .slice ka km kc] 34) = W1 := ⟨_, rfl⟩
  have hu : Up wr W1 := by rw [← hW1]; exact (Up.refl wr).alloc
  have hcell : ∀ j, W1.cell? ⟨nb, j, none⟩ = (#[Value.int .i64 3, .int .i64 n, .int .i64 kk, .int .i64 kn, .string ks, .slice ka km kc] : Array Value)[j]? := fun j => by rw [← hW1, ← hnb]; exact new_cell _ _ _ j
  have c0 := hcell 0
  have c1 := hcell 1
  have c2 := hcell 2
  have c3 := hcell 3
  have c4 := hcell 4
  have c5 := hcell 5
  simp only [List.getElem?_toArray, List.getElem?_cons_zero, List.getElem?_cons_succ] at c0 c1 c2 c3 c4 c5
  have HCP := Hid.mk (copyTerm_any T hsz _ _ W1 (hk.below hu.out))
  have HW := Hid.mk (And.intro hW1 hnb)
  have HU := Hid.mk hu.out
  have HSZ := Hid.mk (show W1.heap.size = nb + 1 by rw [← hW1, World.size_alloc, hnb])
  have HX0 := Hid.mk h
  have HIN := Hid.mk (show SizeT L c ∧ L.length < 600000 ∧ T.size ≤ 1000000 ∧ T.Short ∧ ShapeTab w ∧ (∀ W, Below wr.heap.size wr W → Lies W (fun b => b < w.heap.size) T (.agg #[.int .i64 kk, .int .i64 kn, .string ks, .slice ka km kc])) from ⟨hs, hL, hsz, hsh, hst, fun W hW => hk.below hW⟩)
  have HWB := Hid.mk h.tree.below
  clear h hs hL hk hsz hsh hst hu hcell hnb hW1
  go_enter Tryd.func11, Tryd.ntmps11
  go_upto_region 1 with fail
  rw [HW.out.1, HW.out.2]
  go_upto_region 2 with (go_at_call 38; refine HCP.out.mono ?_; rintro e w2 ⟨⟨tv, rfl, hown⟩, hb⟩; obtain ⟨tk, tn, ts, ta, tm, tc, rfl⟩ := hown.agg; have HC2 := Hid.mk (And.intro hown hb); clear hown)
  obtain ⟨hown, hb⟩ := HC2.out
  obtain ⟨nb2, hnb2⟩ : ∃ nb2, w2.heap.size = nb2 := ⟨_, rfl⟩
  obtain ⟨w3, hw3⟩ : ∃ w3, w2.alloc (.cells #[.int .i64 tk, .int .i64 tn, .string ts, .slice ta tm tc] 32) = w3 := ⟨_, rfl⟩
  have hu3 : Below W1.heap.size W1 w3 := by rw [← hw3]; exact hb.trans ((Up.alloc (Up.refl w2)).out.mono hb.size)
  have hsz3 : w3.heap.size = nb2 + 1 := by rw [← hw3, World.size_alloc, hnb2]
  have dcell : ∀ j, w3.cell? ⟨nb2, j, none⟩ = (#[Value.int .i64 tk, .int .i64 tn, .string ts, .slice ta tm tc] : Array Value)[j]? := fun j => by rw [← hw3, ← hnb2]; exact new_cell _ _ _ j
  have hal : Below w2.heap.size w2 w3 := by rw [← hw3]; exact (Up.alloc (Up.refl w2)).out
  have hIB : InB wr.heap.size w3.heap.size w3 nb nb2 W1.heap.size w2.heap.size 3 n kk kn ks ka km kc tk tn ts ta tm tc T := by
    have h1 := HSZ.out
    have h2 := hb.size
    have h3 := HW.out.2
    exact ⟨cell_below hu3 _ _ _ c0, cell_below hu3 _ _ _ c1, cell_below hu3 _ _ _ c2, cell_below hu3 _ _ _ c3, cell_below hu3 _ _ _ c4, cell_below hu3 _ _ _ c5, dcell 0, dcell 1, dcell 2, dcell 3,
      Own.move _ _ _ _ _ _ (Nat.le_refl _) (Nat.le_refl _) (fun k _ h5 => hal.block k h5) hown, ⟨by omega, by omega⟩, ⟨by omega, by omega⟩, by omega, by omega, Nat.le_refl _⟩
  obtain ⟨A, hA⟩ : ∃ A, wr.heap.size = A := ⟨_, rfl⟩
  obtain ⟨B, hB⟩ : ∃ B, w3.heap.size = B := ⟨_, rfl⟩
  obtain ⟨lo, hlo⟩ : ∃ lo, W1.heap.size = lo := ⟨_, rfl⟩
  obtain ⟨hi, hhi⟩ : ∃ hi, w2.heap.size = hi := ⟨_, rfl⟩
  have hwr3 : Below wr.heap.size wr w3 := HU.out.trans (hu3.mono HU.out.size)
  have hwA : w.heap.size ≤ A := by rw [← hA]; exact HWB.out.size
  obtain ⟨F2, hF2⟩ : ∃ F2, (fun k => F k ∨ (A ≤ k ∧ k < B)) = F2 := ⟨_, rfl⟩
  have HX3 : Hid (Sx w w3 p q L L c ht Sr F2) := Hid.mk (by rw [← hF2, ← hA, ← hB]; exact HX0.out.more hwr3 _ (fun k hk => hk))
  rw [hA, hB, hlo, hhi] at hIB
  have HB3 := Hid.mk hIB
  have HF2 := Hid.mk (show (∀ k, A ≤ k → k < B → F2 k) ∧ (∀ k, F k → F2 k) ∧ w.heap.size ≤ A from ⟨fun k h1 h2 => by rw [← hF2]; exact Or.inr ⟨h1, h2⟩, fun k hk => by rw [← hF2]; exact Or.inl hk, hwA⟩)
  have HKY := Hid.mk (fun (W : World) (hW : Below w3.heap.size w3 W) => HIN.out.2.2.2.2.2 W (hwr3.trans (hW.mono hwr3.size)))
  rw [hw3, hnb2]
  clear hw3 hown hb hu3 hsz3 dcell hal hIB hA hB hlo hhi hwr3 hwA hF2 c0 c1 c2 c3 c4 c5
  obtain ⟨c0, c1, c2, c3, c4, c5, d0, d1, d2, d3, _, _, _, _, _, _⟩ := HB3.out
  clear hnb2
  have HP := Hid.mk HX3.out.tree.first
  have HR := Hid.mk (fun (W : World) (hr : Rt W q L (fun b => b < w.heap.size) Sr) (hW : w.heap.size ≤ W.heap.size) => firstR_any q L _ Sr W hr (fun b hb => Nat.lt_of_lt_of_le hb hW) )
  generalize tellN L (0) = X at *
  obtain ⟨X0, X1, X2⟩ := X
  go_upto_region 18 with (go_at_call 23; refine HP.out.mono ?_; rintro e w4 ⟨kv4, rfl, hown4, hb4⟩; obtain ⟨sk, sn, ss, sa, sm, sc, rfl⟩ := hown4.agg; have HX4' := HX3.out.more hb4 (fun k => w3.heap.size ≤ k ∧ k < w4.heap.size) (fun k hk => hk); have HB4' := HB3.out.up hb4; have HK4' := HKY.out w4 hb4; have hsz34 : w3.heap.size ≤ w4.heap.size := hb4.size; clear hb4; have HO4 := Hid.mk (And.intro hown4 hsz34); have HX4 := Hid.mk HX4'; have HB4 := Hid.mk HB4'; have HK4 := Hid.mk HK4'; clear c0 c1 c2 c3 c4 c5 d0 d1 d2 d3; obtain ⟨c0, c1, c2, c3, c4, c5, d0, d1, d2, d3, _, _, _, _, _, _⟩ := HB4.out; clear HX4' HB4' HK4' hown4 hsz34)
  obtain ⟨W5, hW5⟩ : ∃ W5, w4.alloc (.cells #[.int .i64 sk, .int .i64 sn, .string ss, .slice sa sm sc] 32) = W5 := ⟨_, rfl⟩
  have hb45 : Below w4.heap.size w4 W5 := by rw [← hW5]; exact (Up.alloc (Up.refl w4)).out
  have hsz5 : W5.heap.size = w4.heap.size + 1 := by rw [← hW5, World.size_alloc]
  have hcl5 : ∀ j, W5.cell? ⟨w4.heap.size, j, none⟩ = (#[Value.int .i64 sk, .int .i64 sn, .string ss, .slice sa sm sc] : Array Value)[j]? := fun j => by rw [← hW5]; exact new_cell _ _ _ j
  obtain ⟨sb, hsb⟩ : ∃ sb, w4.heap.size = sb := ⟨_, rfl⟩
  rw [hsb] at hcl5 hsz5
  have s0 := hcl5 0
  have s1 := hcl5 1
  have s2 := hcl5 2
  have s3 := hcl5 3
  simp only [List.getElem?_toArray, List.getElem?_cons_zero, List.getElem?_cons_succ] at s0 s1 s2 s3
  have HB4b := Hid.mk (HB4.out.up hb45)
  have HK4b := Hid.mk (HK4.out.below hb45)
  have HG := Hid.mk (show w3.heap.size ≤ sb ∧ W5.heap.size = sb + 1 ∧ B ≤ w3.heap.size ∧ Own W5 X0 w3.heap.size sb (.agg #[.int .i64 sk, .int .i64 sn, .string ss, .slice sa sm sc]) from ⟨by rw [← hsb]; exact HO4.out.2, hsz5, HB3.out.b_, by
    have h1 := HO4.out.1
    rw [hsb] at h1
    exact Own.move _ _ _ _ _ _ (Nat.le_refl _) (Nat.le_refl _) (fun k _ h2 => hb45.block k (by omega)) h1⟩)
  have hB3 := HB3.out.b_
  obtain ⟨F3, hF3⟩ : ∃ F3, (fun k => F2 k ∨ (w3.heap.size ≤ k ∧ k < sb)) = F3 := ⟨_, rfl⟩
  have HX5 : Hid (Sx w W5 p q L L c ht Sr F3) := Hid.mk (by rw [← hF3, ← hsb]; exact HX4.out.up hb45)
  have HF3 := Hid.mk (show (∀ k, F2 k → F3 k) ∧ (∀ k, w3.heap.size ≤ k → k < sb → F3 k) ∧ w.heap.size ≤ w3.heap.size from ⟨fun k hk => by rw [← hF3]; exact Or.inl hk, fun k h1 h2 => by rw [← hF3]; exact Or.inr ⟨h1, h2⟩, HX3.out.tree.below.size⟩)
  clear c0 c1 c2 c3 c4 c5 d0 d1 d2 d3
  obtain ⟨c0, c1, c2, c3, c4, c5, d0, d1, d2, d3, _, _, _, _, _, _⟩ := HB4b.out
  rw [hW5, hsb]
  clear hW5 hb45 hsz5 hcl5 hsb hF3 hB3
  go_upto_region 19 with (go_at_call 42; refine (HR.out W5 HX5.out.rb HX5.out.tree.below.size).mono ?_; rintro e w6 ⟨rv, rfl, hly, hb6⟩; obtain ⟨rk, rn, rs, ra, rm, rc, rfl⟩ := hly.agg; have HR6 := Hid.mk (And.intro hly hb6); clear hb6 hly)
  obtain ⟨hly, hb6⟩ := HR6.out
  obtain ⟨W6, hW6⟩ : ∃ W6, w6.alloc (.cells #[.int .i64 rk, .int .i64 rn, .string rs, .slice ra rm rc] 32) = W6 := ⟨_, rfl⟩
  have ha6 : Below w6.heap.size w6 W6 := by rw [← hW6]; exact (Up.alloc (Up.refl w6)).out
  have hu6 : Below W5.heap.size W5 W6 := hb6.trans (ha6.mono hb6.size)
  have hcl6 : ∀ j, W6.cell? ⟨w6.heap.size, j, none⟩ = (#[Value.int .i64 rk, .int .i64 rn, .string rs, .slice ra rm rc] : Array Value)[j]? := fun j => by rw [← hW6]; exact new_cell _ _ _ j
  obtain ⟨rb, hrb⟩ : ∃ rb, w6.heap.size = rb := ⟨_, rfl⟩
  rw [hrb] at hcl6
  have r0 := hcl6 0
  have r1 := hcl6 1
  have r2 := hcl6 2
  have r3 := hcl6 3
  simp only [List.getElem?_toArray, List.getElem?_cons_zero, List.getElem?_cons_succ] at r0 r1 r2 r3
  have HX6 := Hid.mk (HX5.out.up hu6)
  have HB6 := Hid.mk (HB4b.out.up hu6)
  have HK6 := Hid.mk (HK4b.out.below hu6)
  have HO6 := Hid.mk (And.intro (Own.move X0 w3.heap.size sb w3.heap.size sb _ (Nat.le_refl _) (Nat.le_refl _) (fun k _ h2 => hu6.block k (by have := HG.out.2.1; omega)) HG.out.2.2.2) (And.intro (Nat.le_trans (show sb ≤ W5.heap.size from by have := HG.out.2.1; omega) hu6.size) (hly.below ha6)))
  replace s0 := cell_below hu6 _ _ _ s0
  replace s1 := cell_below hu6 _ _ _ s1
  replace s2 := cell_below hu6 _ _ _ s2
  replace s3 := cell_below hu6 _ _ _ s3
  clear c0 c1 c2 c3 c4 c5 d0 d1 d2 d3
  obtain ⟨c0, c1, c2, c3, c4, c5, d0, d1, d2, d3, _, _, _, _, _, _⟩ := HB6.out
  rw [hW6, hrb]
  clear hW6 hrb hly hb6 ha6 hu6 hcl6
  go_wp2_with (first
    | (have gz := HZ9; go_at_call 47; refine (overTerm_any T lo hi _ w9 (by have := HB9.out.hi_; have := HB9.out.b_; omega) HB9.out.own).mono ?_; rintro e w10 ⟨⟨u, rfl⟩, ho⟩; have HZ := Hid.mk ho; clear ho)
    | (have gy := HX7; go_at_call 32; refine (sameTermRefl T _ _ _ _ _ (Own.lies _ _ _ _ HB7.out.own) HK7.out).mono ?_; rintro e w9 ⟨rfl, hb⟩; have HZ9 := Hid.mk (HX7.out.up hb); have HB9 := Hid.mk (HB7.out.up hb); clear c0 c1 c2 c3 c4 c5 d0 d1 d2 d3; obtain ⟨c0, c1, c2, c3, c4, c5, d0, d1, d2, d3, _, _, _, _, _, _⟩ := HB9.out; clear hb)
    | (go_at_call 43; refine (three_any X0 X1 X2 w3.heap.size sb _ _ _ _ (HO6.out.1) HO6.out.2.1 HO6.out.2.2).mono ?_; rintro e w7 ⟨rfl, ho⟩; have HX7 := Hid.mk (HX6.out.over ho.only (fun k hk => ⟨HF3.out.2.1 k hk.1 hk.2, by have := HF3.out.2.2; omega⟩)); have HB7 := Hid.mk (HB6.out.kept ho.only (fun k h1 h2 hn => by have := HG.out.2.2.1; omega)); have HK7 := Hid.mk (HK6.out.move (fun _ h => h) (fun b o u hb hc => ho.only.cellS (fun hh => by have := HF3.out.2.2; have hbb : b < w.heap.size := hb; omega) hc) _ _); clear c0 c1 c2 c3 c4 c5 d0 d1 d2 d3; obtain ⟨c0, c1, c2, c3, c4, c5, d0, d1, d2, d3, _, _, _, _, _, _⟩ := HB7.out; clear ho))
  go_ret
  have hov := HZ9.out.over HZ.out.only (fun k hk => ⟨HF3.out.1 k (HF2.out.1 k (by have := HB9.out.lo_; omega) (by have := HB9.out.hi_; omega)), by have := HF2.out.2.2; have := HB9.out.lo_; omega⟩)
  exact ⟨rfl, hov.weaken (fun k hk => HF3.out.1 k (HF2.out.2.1 k hk))⟩
set_option maxHeartbeats 16000000 in
set_option maxRecDepth 100000 in
theorem act11_4 (h : Sx w wr p q L L c ht Sr F) (hs : SizeT L c) (hL : L.length < 600000) (T : Tm) (n kk kn : Int) (ks : ByteArray) (ka : Option Addr) (km kc : Nat) (hk : Lies wr (fun b => b < w.heap.size) T (.agg #[.int .i64 kk, .int .i64 kn, .string ks, .slice ka km kc])) (hsz : T.size ≤ 1000000) (hsh : T.Short) (hst : ShapeTab w) :
    Calls Tryd.prog 11 #[.pointer (some ⟨p, 0, none⟩), .pointer (some ⟨q, 0, none⟩), .agg #[.int .i64 4, .int .i64 n, .int .i64 kk, .int .i64 kn, .string ks, .slice ka km kc]] wr fun e w' => e = .returned (.bool true) ∧ Sx w w' p q L L c ht Sr F := by
  obtain ⟨nb, hnb⟩ : ∃ nb, wr.heap.size = nb := ⟨_, rfl⟩
  obtain ⟨W1, hW1⟩ : ∃ W1, wr.alloc (.cells #[.int .i64 4, .int .i64 n, .int .i64 kk, .int .i64 kn, .string ks, .slice ka km kc] 34) = W1 := ⟨_, rfl⟩
  have hu : Up wr W1 := by rw [← hW1]; exact (Up.refl wr).alloc
  have hcell : ∀ j, W1.cell? ⟨nb, j, none⟩ = (#[Value.int .i64 4, .int .i64 n, .int .i64 kk, .int .i64 kn, .string ks, .slice ka km kc] : Array Value)[j]? := fun j => by rw [← hW1, ← hnb]; exact new_cell _ _ _ j
  have c0 := hcell 0
  have c1 := hcell 1
  have c2 := hcell 2
  have c3 := hcell 3
  have c4 := hcell 4
  have c5 := hcell 5
  simp only [List.getElem?_toArray, List.getElem?_cons_zero, List.getElem?_cons_succ] at c0 c1 c2 c3 c4 c5
  have HCP := Hid.mk (copyTerm_any T hsz _ _ W1 (hk.below hu.out))
  have HW := Hid.mk (And.intro hW1 hnb)
  have HU := Hid.mk hu.out
  have HSZ := Hid.mk (show W1.heap.size = nb + 1 by rw [← hW1, World.size_alloc, hnb])
  have HX0 := Hid.mk h
  have HIN := Hid.mk (show SizeT L c ∧ L.length < 600000 ∧ T.size ≤ 1000000 ∧ T.Short ∧ ShapeTab w ∧ (∀ W, Below wr.heap.size wr W → Lies W (fun b => b < w.heap.size) T (.agg #[.int .i64 kk, .int .i64 kn, .string ks, .slice ka km kc])) from ⟨hs, hL, hsz, hsh, hst, fun W hW => hk.below hW⟩)
  have HWB := Hid.mk h.tree.below
  clear h hs hL hk hsz hsh hst hu hcell hnb hW1
  go_enter Tryd.func11, Tryd.ntmps11
  go_upto_region 1 with fail
  rw [HW.out.1, HW.out.2]
  go_upto_region 2 with (go_at_call 38; refine HCP.out.mono ?_; rintro e w2 ⟨⟨tv, rfl, hown⟩, hb⟩; obtain ⟨tk, tn, ts, ta, tm, tc, rfl⟩ := hown.agg; have HC2 := Hid.mk (And.intro hown hb); clear hown)
  obtain ⟨hown, hb⟩ := HC2.out
  obtain ⟨nb2, hnb2⟩ : ∃ nb2, w2.heap.size = nb2 := ⟨_, rfl⟩
  obtain ⟨w3, hw3⟩ : ∃ w3, w2.alloc (.cells #[.int .i64 tk, .int .i64 tn, .string ts, .slice ta tm tc] 32) = w3 := ⟨_, rfl⟩
  have hu3 : Below W1.heap.size W1 w3 := by rw [← hw3]; exact hb.trans ((Up.alloc (Up.refl w2)).out.mono hb.size)
  have hsz3 : w3.heap.size = nb2 + 1 := by rw [← hw3, World.size_alloc, hnb2]
  have dcell : ∀ j, w3.cell? ⟨nb2, j, none⟩ = (#[Value.int .i64 tk, .int .i64 tn, .string ts, .slice ta tm tc] : Array Value)[j]? := fun j => by rw [← hw3, ← hnb2]; exact new_cell _ _ _ j
  have hal : Below w2.heap.size w2 w3 := by rw [← hw3]; exact (Up.alloc (Up.refl w2)).out
  have hIB : InB wr.heap.size w3.heap.size w3 nb nb2 W1.heap.size w2.heap.size 4 n kk kn ks ka km kc tk tn ts ta tm tc T := by
    have h1 := HSZ.out
    have h2 := hb.size
    have h3 := HW.out.2
    exact ⟨cell_below hu3 _ _ _ c0, cell_below hu3 _ _ _ c1, cell_below hu3 _ _ _ c2, cell_below hu3 _ _ _ c3, cell_below hu3 _ _ _ c4, cell_below hu3 _ _ _ c5, dcell 0, dcell 1, dcell 2, dcell 3,
      Own.move _ _ _ _ _ _ (Nat.le_refl _) (Nat.le_refl _) (fun k _ h5 => hal.block k h5) hown, ⟨by omega, by omega⟩, ⟨by omega, by omega⟩, by omega, by omega, Nat.le_refl _⟩
  obtain ⟨A, hA⟩ : ∃ A, wr.heap.size = A := ⟨_, rfl⟩
  obtain ⟨B, hB⟩ : ∃ B, w3.heap.size = B := ⟨_, rfl⟩
  obtain ⟨lo, hlo⟩ : ∃ lo, W1.heap.size = lo := ⟨_, rfl⟩
  obtain ⟨hi, hhi⟩ : ∃ hi, w2.heap.size = hi := ⟨_, rfl⟩
  have hwr3 : Below wr.heap.size wr w3 := HU.out.trans (hu3.mono HU.out.size)
  have hwA : w.heap.size ≤ A := by rw [← hA]; exact HWB.out.size
  obtain ⟨F2, hF2⟩ : ∃ F2, (fun k => F k ∨ (A ≤ k ∧ k < B)) = F2 := ⟨_, rfl⟩
  have HX3 : Hid (Sx w w3 p q L L c ht Sr F2) := Hid.mk (by rw [← hF2, ← hA, ← hB]; exact HX0.out.more hwr3 _ (fun k hk => hk))
  rw [hA, hB, hlo, hhi] at hIB
  have HB3 := Hid.mk hIB
  have HF2 := Hid.mk (show (∀ k, A ≤ k → k < B → F2 k) ∧ (∀ k, F k → F2 k) ∧ w.heap.size ≤ A from ⟨fun k h1 h2 => by rw [← hF2]; exact Or.inr ⟨h1, h2⟩, fun k hk => by rw [← hF2]; exact Or.inl hk, hwA⟩)
  have HKY := Hid.mk (fun (W : World) (hW : Below w3.heap.size w3 W) => HIN.out.2.2.2.2.2 W (hwr3.trans (hW.mono hwr3.size)))
  rw [hw3, hnb2]
  clear hw3 hown hb hu3 hsz3 dcell hal hIB hA hB hlo hhi hwr3 hwA hF2 c0 c1 c2 c3 c4 c5
  obtain ⟨c0, c1, c2, c3, c4, c5, d0, d1, d2, d3, _, _, _, _, _, _⟩ := HB3.out
  clear hnb2
  have HP := Hid.mk HX3.out.tree.last
  have HR := Hid.mk (fun (W : World) (hr : Rt W q L (fun b => b < w.heap.size) Sr) (hW : w.heap.size ≤ W.heap.size) => lastR_any q L _ Sr W hr (fun b hb => Nat.lt_of_lt_of_le hb hW) (by have := HIN.out.2.1; omega))
  generalize tellN L ((L.length : Int) - 1) = X at *
  obtain ⟨X0, X1, X2⟩ := X
  go_upto_region 22 with (go_at_call 24; refine HP.out.mono ?_; rintro e w4 ⟨kv4, rfl, hown4, hb4⟩; obtain ⟨sk, sn, ss, sa, sm, sc, rfl⟩ := hown4.agg; have HX4' := HX3.out.more hb4 (fun k => w3.heap.size ≤ k ∧ k < w4.heap.size) (fun k hk => hk); have HB4' := HB3.out.up hb4; have HK4' := HKY.out w4 hb4; have hsz34 : w3.heap.size ≤ w4.heap.size := hb4.size; clear hb4; have HO4 := Hid.mk (And.intro hown4 hsz34); have HX4 := Hid.mk HX4'; have HB4 := Hid.mk HB4'; have HK4 := Hid.mk HK4'; clear c0 c1 c2 c3 c4 c5 d0 d1 d2 d3; obtain ⟨c0, c1, c2, c3, c4, c5, d0, d1, d2, d3, _, _, _, _, _, _⟩ := HB4.out; clear HX4' HB4' HK4' hown4 hsz34)
  obtain ⟨W5, hW5⟩ : ∃ W5, w4.alloc (.cells #[.int .i64 sk, .int .i64 sn, .string ss, .slice sa sm sc] 32) = W5 := ⟨_, rfl⟩
  have hb45 : Below w4.heap.size w4 W5 := by rw [← hW5]; exact (Up.alloc (Up.refl w4)).out
  have hsz5 : W5.heap.size = w4.heap.size + 1 := by rw [← hW5, World.size_alloc]
  have hcl5 : ∀ j, W5.cell? ⟨w4.heap.size, j, none⟩ = (#[Value.int .i64 sk, .int .i64 sn, .string ss, .slice sa sm sc] : Array Value)[j]? := fun j => by rw [← hW5]; exact new_cell _ _ _ j
  obtain ⟨sb, hsb⟩ : ∃ sb, w4.heap.size = sb := ⟨_, rfl⟩
  rw [hsb] at hcl5 hsz5
  have s0 := hcl5 0
  have s1 := hcl5 1
  have s2 := hcl5 2
  have s3 := hcl5 3
  simp only [List.getElem?_toArray, List.getElem?_cons_zero, List.getElem?_cons_succ] at s0 s1 s2 s3
  have HB4b := Hid.mk (HB4.out.up hb45)
  have HK4b := Hid.mk (HK4.out.below hb45)
  have HG := Hid.mk (show w3.heap.size ≤ sb ∧ W5.heap.size = sb + 1 ∧ B ≤ w3.heap.size ∧ Own W5 X0 w3.heap.size sb (.agg #[.int .i64 sk, .int .i64 sn, .string ss, .slice sa sm sc]) from ⟨by rw [← hsb]; exact HO4.out.2, hsz5, HB3.out.b_, by
    have h1 := HO4.out.1
    rw [hsb] at h1
    exact Own.move _ _ _ _ _ _ (Nat.le_refl _) (Nat.le_refl _) (fun k _ h2 => hb45.block k (by omega)) h1⟩)
  have hB3 := HB3.out.b_
  obtain ⟨F3, hF3⟩ : ∃ F3, (fun k => F2 k ∨ (w3.heap.size ≤ k ∧ k < sb)) = F3 := ⟨_, rfl⟩
  have HX5 : Hid (Sx w W5 p q L L c ht Sr F3) := Hid.mk (by rw [← hF3, ← hsb]; exact HX4.out.up hb45)
  have HF3 := Hid.mk (show (∀ k, F2 k → F3 k) ∧ (∀ k, w3.heap.size ≤ k → k < sb → F3 k) ∧ w.heap.size ≤ w3.heap.size from ⟨fun k hk => by rw [← hF3]; exact Or.inl hk, fun k h1 h2 => by rw [← hF3]; exact Or.inr ⟨h1, h2⟩, HX3.out.tree.below.size⟩)
  clear c0 c1 c2 c3 c4 c5 d0 d1 d2 d3
  obtain ⟨c0, c1, c2, c3, c4, c5, d0, d1, d2, d3, _, _, _, _, _, _⟩ := HB4b.out
  rw [hW5, hsb]
  clear hW5 hb45 hsz5 hcl5 hsb hF3 hB3
  go_upto_region 23 with (go_at_call 44; refine (HR.out W5 HX5.out.rb HX5.out.tree.below.size).mono ?_; rintro e w6 ⟨rv, rfl, hly, hb6⟩; obtain ⟨rk, rn, rs, ra, rm, rc, rfl⟩ := hly.agg; have HR6 := Hid.mk (And.intro hly hb6); clear hb6 hly)
  obtain ⟨hly, hb6⟩ := HR6.out
  obtain ⟨W6, hW6⟩ : ∃ W6, w6.alloc (.cells #[.int .i64 rk, .int .i64 rn, .string rs, .slice ra rm rc] 32) = W6 := ⟨_, rfl⟩
  have ha6 : Below w6.heap.size w6 W6 := by rw [← hW6]; exact (Up.alloc (Up.refl w6)).out
  have hu6 : Below W5.heap.size W5 W6 := hb6.trans (ha6.mono hb6.size)
  have hcl6 : ∀ j, W6.cell? ⟨w6.heap.size, j, none⟩ = (#[Value.int .i64 rk, .int .i64 rn, .string rs, .slice ra rm rc] : Array Value)[j]? := fun j => by rw [← hW6]; exact new_cell _ _ _ j
  obtain ⟨rb, hrb⟩ : ∃ rb, w6.heap.size = rb := ⟨_, rfl⟩
  rw [hrb] at hcl6
  have r0 := hcl6 0
  have r1 := hcl6 1
  have r2 := hcl6 2
  have r3 := hcl6 3
  simp only [List.getElem?_toArray, List.getElem?_cons_zero, List.getElem?_cons_succ] at r0 r1 r2 r3
  have HX6 := Hid.mk (HX5.out.up hu6)
  have HB6 := Hid.mk (HB4b.out.up hu6)
  have HK6 := Hid.mk (HK4b.out.below hu6)
  have HO6 := Hid.mk (And.intro (Own.move X0 w3.heap.size sb w3.heap.size sb _ (Nat.le_refl _) (Nat.le_refl _) (fun k _ h2 => hu6.block k (by have := HG.out.2.1; omega)) HG.out.2.2.2) (And.intro (Nat.le_trans (show sb ≤ W5.heap.size from by have := HG.out.2.1; omega) hu6.size) (hly.below ha6)))
  replace s0 := cell_below hu6 _ _ _ s0
  replace s1 := cell_below hu6 _ _ _ s1
  replace s2 := cell_below hu6 _ _ _ s2
  replace s3 := cell_below hu6 _ _ _ s3
  clear c0 c1 c2 c3 c4 c5 d0 d1 d2 d3
  obtain ⟨c0, c1, c2, c3, c4, c5, d0, d1, d2, d3, _, _, _, _, _, _⟩ := HB6.out
  rw [hW6, hrb]
  clear hW6 hrb hly hb6 ha6 hu6 hcl6
  go_wp2_with (first
    | (have gz := HZ9; go_at_call 47; refine (overTerm_any T lo hi _ w9 (by have := HB9.out.hi_; have := HB9.out.b_; omega) HB9.out.own).mono ?_; rintro e w10 ⟨⟨u, rfl⟩, ho⟩; have HZ := Hid.mk ho; clear ho)
    | (have gy := HX7; go_at_call 32; refine (sameTermRefl T _ _ _ _ _ (Own.lies _ _ _ _ HB7.out.own) HK7.out).mono ?_; rintro e w9 ⟨rfl, hb⟩; have HZ9 := Hid.mk (HX7.out.up hb); have HB9 := Hid.mk (HB7.out.up hb); clear c0 c1 c2 c3 c4 c5 d0 d1 d2 d3; obtain ⟨c0, c1, c2, c3, c4, c5, d0, d1, d2, d3, _, _, _, _, _, _⟩ := HB9.out; clear hb)
    | (go_at_call 43; refine (three_any X0 X1 X2 w3.heap.size sb _ _ _ _ (HO6.out.1) HO6.out.2.1 HO6.out.2.2).mono ?_; rintro e w7 ⟨rfl, ho⟩; have HX7 := Hid.mk (HX6.out.over ho.only (fun k hk => ⟨HF3.out.2.1 k hk.1 hk.2, by have := HF3.out.2.2; omega⟩)); have HB7 := Hid.mk (HB6.out.kept ho.only (fun k h1 h2 hn => by have := HG.out.2.2.1; omega)); have HK7 := Hid.mk (HK6.out.move (fun _ h => h) (fun b o u hb hc => ho.only.cellS (fun hh => by have := HF3.out.2.2; have hbb : b < w.heap.size := hb; omega) hc) _ _); clear c0 c1 c2 c3 c4 c5 d0 d1 d2 d3; obtain ⟨c0, c1, c2, c3, c4, c5, d0, d1, d2, d3, _, _, _, _, _, _⟩ := HB7.out; clear ho))
  go_ret
  have hov := HZ9.out.over HZ.out.only (fun k hk => ⟨HF3.out.1 k (HF2.out.1 k (by have := HB9.out.lo_; omega) (by have := HB9.out.hi_; omega)), by have := HF2.out.2.2; have := HB9.out.lo_; omega⟩)
  exact ⟨rfl, hov.weaken (fun k hk => HF3.out.1 k (HF2.out.2.1 k hk))⟩
end
end Go.Proofs.YteklhipcojioaaaDoor

/-
  One call of a script, on both sides: further kinds.
-/
namespace Go.Proofs.YteklhipcojioaaaDoor
open Go.RowKit Go.Deep Go.Maps Go.WideShapes

section
variable {w wr : World} {p q : Nat} {L : List Nd} {c ht : Int} {Sr F : Nat → Prop}
set_option maxHeartbeats 16000000 in
set_option maxRecDepth 100000 in
theorem act11_5 (h : Sx w wr p q L L c ht Sr F) (hs : SizeT L c) (hL : L.length < 600000) (T : Tm) (n kk kn : Int) (ks : ByteArray) (ka : Option Addr) (km kc : Nat) (hk : Lies wr (fun b => b < w.heap.size) T (.agg #[.int .i64 kk, .int .i64 kn, .string ks, .slice ka km kc])) (hsz : T.size ≤ 1000000) (hsh : T.Short) (hst : ShapeTab w) :
    Calls Tryd.prog 11 #[.pointer (some ⟨p, 0, none⟩), .pointer (some ⟨q, 0, none⟩), .agg #[.int .i64 5, .int .i64 n, .int .i64 kk, .int .i64 kn, .string ks, .slice ka km kc]] wr fun e w' => e = .returned (.bool true) ∧ ∃ c', Sx w w' p q L L c' ht Sr F ∧ c ≤ c' ∧ LowI (c' - c) L.length := by
  obtain ⟨nb, hnb⟩ : ∃ nb, wr.heap.size = nb := ⟨_, rfl⟩
  obtain ⟨W1, hW1⟩ : ∃ W1, wr.alloc (.cells #[.int .i64 5, .int .i64 n, .int .i64 kk, .int .i64 kn, .string ks, .slice ka km kc] 34) = W1 := ⟨_, rfl⟩
  have hu : Up wr W1 := by rw [← hW1]; exact (Up.refl wr).alloc
  have hcell : ∀ j, W1.cell? ⟨nb, j, none⟩ = (#[Value.int .i64 5, .int .i64 n, .int .i64 kk, .int .i64 kn, .string ks, .slice ka km kc] : Array Value)[j]? := fun j => by rw [← hW1, ← hnb]; exact new_cell _ _ _ j
  have c0 := hcell 0
  have c1 := hcell 1
  have c2 := hcell 2
  have c3 := hcell 3
  have c4 := hcell 4
  have c5 := hcell 5
  simp only [List.getElem?_toArray, List.getElem?_cons_zero, List.getElem?_cons_succ] at c0 c1 c2 c3 c4 c5
  have HCP := Hid.mk (copyTerm_any T hsz _ _ W1 (hk.below hu.out))
  have HW := Hid.mk (And.intro hW1 hnb)
  have HU := Hid.mk hu.out
  have HSZ := Hid.mk (show W1.heap.size = nb + 1 by rw [← hW1, World.size_alloc, hnb])
  have HX0 := Hid.mk h
  have HIN := Hid.mk (show SizeT L c ∧ L.length < 600000 ∧ T.size ≤ 1000000 ∧ T.Short ∧ ShapeTab w ∧ (∀ W, Below wr.heap.size wr W → Lies W (fun b => b < w.heap.size) T (.agg #[.int .i64 kk, .int .i64 kn, .string ks, .slice ka km kc])) from ⟨hs, hL, hsz, hsh, hst, fun W hW => hk.below hW⟩)
  have HWB := Hid.mk h.tree.below
  clear h hs hL hk hsz hsh hst hu hcell hnb hW1
  go_enter Tryd.func11, Tryd.ntmps11
  go_upto_region 1 with fail
  rw [HW.out.1, HW.out.2]
  go_upto_region 2 with (go_at_call 38; refine HCP.out.mono ?_; rintro e w2 ⟨⟨tv, rfl, hown⟩, hb⟩; obtain ⟨tk, tn, ts, ta, tm, tc, rfl⟩ := hown.agg; have HC2 := Hid.mk (And.intro hown hb); clear hown)
  obtain ⟨hown, hb⟩ := HC2.out
  obtain ⟨nb2, hnb2⟩ : ∃ nb2, w2.heap.size = nb2 := ⟨_, rfl⟩
  obtain ⟨w3, hw3⟩ : ∃ w3, w2.alloc (.cells #[.int .i64 tk, .int .i64 tn, .string ts, .slice ta tm tc] 32) = w3 := ⟨_, rfl⟩
  have hu3 : Below W1.heap.size W1 w3 := by rw [← hw3]; exact hb.trans ((Up.alloc (Up.refl w2)).out.mono hb.size)
  have hsz3 : w3.heap.size = nb2 + 1 := by rw [← hw3, World.size_alloc, hnb2]
  have dcell : ∀ j, w3.cell? ⟨nb2, j, none⟩ = (#[Value.int .i64 tk, .int .i64 tn, .string ts, .slice ta tm tc] : Array Value)[j]? := fun j => by rw [← hw3, ← hnb2]; exact new_cell _ _ _ j
  have hal : Below w2.heap.size w2 w3 := by rw [← hw3]; exact (Up.alloc (Up.refl w2)).out
  have hIB : InB wr.heap.size w3.heap.size w3 nb nb2 W1.heap.size w2.heap.size 5 n kk kn ks ka km kc tk tn ts ta tm tc T := by
    have h1 := HSZ.out
    have h2 := hb.size
    have h3 := HW.out.2
    exact ⟨cell_below hu3 _ _ _ c0, cell_below hu3 _ _ _ c1, cell_below hu3 _ _ _ c2, cell_below hu3 _ _ _ c3, cell_below hu3 _ _ _ c4, cell_below hu3 _ _ _ c5, dcell 0, dcell 1, dcell 2, dcell 3,
      Own.move _ _ _ _ _ _ (Nat.le_refl _) (Nat.le_refl _) (fun k _ h5 => hal.block k h5) hown, ⟨by omega, by omega⟩, ⟨by omega, by omega⟩, by omega, by omega, Nat.le_refl _⟩
  obtain ⟨A, hA⟩ : ∃ A, wr.heap.size = A := ⟨_, rfl⟩
  obtain ⟨B, hB⟩ : ∃ B, w3.heap.size = B := ⟨_, rfl⟩
  obtain ⟨lo, hlo⟩ : ∃ lo, W1.heap.size = lo := ⟨_, rfl⟩
  obtain ⟨hi, hhi⟩ : ∃ hi, w2.heap.size = hi := ⟨_, rfl⟩
  have hwr3 : Below wr.heap.size wr w3 := HU.out.trans (hu3.mono HU.out.size)
  have hwA : w.heap.size ≤ A := by rw [← hA]; exact HWB.out.size
  obtain ⟨F2, hF2⟩ : ∃ F2, (fun k => F k ∨ (A ≤ k ∧ k < B)) = F2 := ⟨_, rfl⟩
  have HX3 : Hid (Sx w w3 p q L L c ht Sr F2) := Hid.mk (by rw [← hF2, ← hA, ← hB]; exact HX0.out.more hwr3 _ (fun k hk => hk))
  rw [hA, hB, hlo, hhi] at hIB
  have HB3 := Hid.mk hIB
  have HF2 := Hid.mk (show (∀ k, A ≤ k → k < B → F2 k) ∧ (∀ k, F k → F2 k) ∧ w.heap.size ≤ A from ⟨fun k h1 h2 => by rw [← hF2]; exact Or.inr ⟨h1, h2⟩, fun k hk => by rw [← hF2]; exact Or.inl hk, hwA⟩)
  have HKY := Hid.mk (fun (W : World) (hW : Below w3.heap.size w3 W) => HIN.out.2.2.2.2.2 W (hwr3.trans (hW.mono hwr3.size)))
  rw [hw3, hnb2]
  clear hw3 hown hb hu3 hsz3 dcell hal hIB hA hB hlo hhi hwr3 hwA hF2 c0 c1 c2 c3 c4 c5
  obtain ⟨c0, c1, c2, c3, c4, c5, d0, d1, d2, d3, _, _, _, _, _, _⟩ := HB3.out
  clear hnb2
  have HP := Hid.mk (HX3.out.tree.next HIN.out.1 (Own.lies _ _ _ _ HB3.out.own) (fun b hb => Or.inr (Or.inr (HF2.out.1 b (by have := HB3.out.lo_; omega) (by have := HB3.out.hi_; omega)))))
  have HR := Hid.mk (fun (W : World) (hr : Rt W q L (fun b => b < w.heap.size) Sr) (hW : w.heap.size ≤ W.heap.size) (hk : Lies W (fun b => b < w.heap.size) T (.agg #[.int .i64 kk, .int .i64 kn, .string ks, .slice ka km kc])) => nextR_any q L _ Sr _ T _ W hr hk (fun b hb => Nat.lt_of_lt_of_le hb hW) (by have := HIN.out.2.1; omega))
  generalize tellN L ((nextN L T : Nat)) = X at *
  obtain ⟨X0, X1, X2⟩ := X
  go_upto_region 26 with (go_at_call 25; refine HP.out.mono ?_; rintro e w4 ⟨kv4, rfl, hown4, c', hto, hc1, hc2, ho⟩; obtain ⟨sk, sn, ss, sa, sm, sc, rfl⟩ := hown4.agg; have HX4' := HX3.out.look hto ho; have HB4' := HB3.out.kept ho (fun k h1 h2 hn => hn (Or.inr (HF2.out.1 k h1 h2))); have HK4' := key_same (HKY.out w3 (Below.refl _ _)) HX3.out.tree.below hto.below; have HLW := Hid.mk (And.intro hc1 hc2); have hsz34 : w3.heap.size ≤ w4.heap.size := ho.size; clear hto ho hc1 hc2; have HO4 := Hid.mk (And.intro hown4 hsz34); have HX4 := Hid.mk HX4'; have HB4 := Hid.mk HB4'; have HK4 := Hid.mk HK4'; clear c0 c1 c2 c3 c4 c5 d0 d1 d2 d3; obtain ⟨c0, c1, c2, c3, c4, c5, d0, d1, d2, d3, _, _, _, _, _, _⟩ := HB4.out; clear HX4' HB4' HK4' hown4 hsz34)
  obtain ⟨W5, hW5⟩ : ∃ W5, w4.alloc (.cells #[.int .i64 sk, .int .i64 sn, .string ss, .slice sa sm sc] 32) = W5 := ⟨_, rfl⟩
  have hb45 : Below w4.heap.size w4 W5 := by rw [← hW5]; exact (Up.alloc (Up.refl w4)).out
  have hsz5 : W5.heap.size = w4.heap.size + 1 := by rw [← hW5, World.size_alloc]
  have hcl5 : ∀ j, W5.cell? ⟨w4.heap.size, j, none⟩ = (#[Value.int .i64 sk, .int .i64 sn, .string ss, .slice sa sm sc] : Array Value)[j]? := fun j => by rw [← hW5]; exact new_cell _ _ _ j
  obtain ⟨sb, hsb⟩ : ∃ sb, w4.heap.size = sb := ⟨_, rfl⟩
  rw [hsb] at hcl5 hsz5
  have s0 := hcl5 0
  have s1 := hcl5 1
  have s2 := hcl5 2
  have s3 := hcl5 3
  simp only [List.getElem?_toArray, List.getElem?_cons_zero, List.getElem?_cons_succ] at s0 s1 s2 s3
  have HB4b := Hid.mk (HB4.out.up hb45)
  have HK4b := Hid.mk (HK4.out.below hb45)
  have HG := Hid.mk (show w3.heap.size ≤ sb ∧ W5.heap.size = sb + 1 ∧ B ≤ w3.heap.size ∧ Own W5 X0 w3.heap.size sb (.agg #[.int .i64 sk, .int .i64 sn, .string ss, .slice sa sm sc]) from ⟨by rw [← hsb]; exact HO4.out.2, hsz5, HB3.out.b_, by
    have h1 := HO4.out.1
    rw [hsb] at h1
    exact Own.move _ _ _ _ _ _ (Nat.le_refl _) (Nat.le_refl _) (fun k _ h2 => hb45.block k (by omega)) h1⟩)
  have hB3 := HB3.out.b_
  obtain ⟨F3, hF3⟩ : ∃ F3, (fun k => F2 k ∨ (w3.heap.size ≤ k ∧ k < sb)) = F3 := ⟨_, rfl⟩
  have HX5 : Hid (Sx w W5 p q L L c' ht Sr F3) := Hid.mk (by rw [← hF3, ← hsb]; exact HX4.out.up hb45)
  have HF3 := Hid.mk (show (∀ k, F2 k → F3 k) ∧ (∀ k, w3.heap.size ≤ k → k < sb → F3 k) ∧ w.heap.size ≤ w3.heap.size from ⟨fun k hk => by rw [← hF3]; exact Or.inl hk, fun k h1 h2 => by rw [← hF3]; exact Or.inr ⟨h1, h2⟩, HX3.out.tree.below.size⟩)
  clear c0 c1 c2 c3 c4 c5 d0 d1 d2 d3
  obtain ⟨c0, c1, c2, c3, c4, c5, d0, d1, d2, d3, _, _, _, _, _, _⟩ := HB4b.out
  rw [hW5, hsb]
  clear hW5 hb45 hsz5 hcl5 hsb hF3 hB3
  go_upto_region 27 with (go_at_call 45; refine (HR.out W5 HX5.out.rb HX5.out.tree.below.size HK4b.out).mono ?_; rintro e w6 ⟨rv, rfl, hly, hb6⟩; obtain ⟨rk, rn, rs, ra, rm, rc, rfl⟩ := hly.agg; have HR6 := Hid.mk (And.intro hly hb6); clear hb6 hly)
  obtain ⟨hly, hb6⟩ := HR6.out
  obtain ⟨W6, hW6⟩ : ∃ W6, w6.alloc (.cells #[.int .i64 rk, .int .i64 rn, .string rs, .slice ra rm rc] 32) = W6 := ⟨_, rfl⟩
  have ha6 : Below w6.heap.size w6 W6 := by rw [← hW6]; exact (Up.alloc (Up.refl w6)).out
  have hu6 : Below W5.heap.size W5 W6 := hb6.trans (ha6.mono hb6.size)
  have hcl6 : ∀ j, W6.cell? ⟨w6.heap.size, j, none⟩ = (#[Value.int .i64 rk, .int .i64 rn, .string rs, .slice ra rm rc] : Array Value)[j]? := fun j => by rw [← hW6]; exact new_cell _ _ _ j
  obtain ⟨rb, hrb⟩ : ∃ rb, w6.heap.size = rb := ⟨_, rfl⟩
  rw [hrb] at hcl6
  have r0 := hcl6 0
  have r1 := hcl6 1
  have r2 := hcl6 2
  have r3 := hcl6 3
  simp only [List.getElem?_toArray, List.getElem?_cons_zero, List.getElem?_cons_succ] at r0 r1 r2 r3
  have HX6 := Hid.mk (HX5.out.up hu6)
  have HB6 := Hid.mk (HB4b.out.up hu6)
  have HK6 := Hid.mk (HK4b.out.below hu6)
  have HO6 := Hid.mk (And.intro (Own.move X0 w3.heap.size sb w3.heap.size sb _ (Nat.le_refl _) (Nat.le_refl _) (fun k _ h2 => hu6.block k (by have := HG.out.2.1; omega)) HG.out.2.2.2) (And.intro (Nat.le_trans (show sb ≤ W5.heap.size from by have := HG.out.2.1; omega) hu6.size) (hly.below ha6)))
  replace s0 := cell_below hu6 _ _ _ s0
  replace s1 := cell_below hu6 _ _ _ s1
  replace s2 := cell_below hu6 _ _ _ s2
  replace s3 := cell_below hu6 _ _ _ s3
  clear c0 c1 c2 c3 c4 c5 d0 d1 d2 d3
  obtain ⟨c0, c1, c2, c3, c4, c5, d0, d1, d2, d3, _, _, _, _, _, _⟩ := HB6.out
  rw [hW6, hrb]
  clear hW6 hrb hly hb6 ha6 hu6 hcl6
  go_wp2_with (first
    | (have gz := HZ9; go_at_call 47; refine (overTerm_any T lo hi _ w9 (by have := HB9.out.hi_; have := HB9.out.b_; omega) HB9.out.own).mono ?_; rintro e w10 ⟨⟨u, rfl⟩, ho⟩; have HZ := Hid.mk ho; clear ho)
    | (have gy := HX7; go_at_call 32; refine (sameTermRefl T _ _ _ _ _ (Own.lies _ _ _ _ HB7.out.own) HK7.out).mono ?_; rintro e w9 ⟨rfl, hb⟩; have HZ9 := Hid.mk (HX7.out.up hb); have HB9 := Hid.mk (HB7.out.up hb); clear c0 c1 c2 c3 c4 c5 d0 d1 d2 d3; obtain ⟨c0, c1, c2, c3, c4, c5, d0, d1, d2, d3, _, _, _, _, _, _⟩ := HB9.out; clear hb)
    | (go_at_call 43; refine (three_any X0 X1 X2 w3.heap.size sb _ _ _ _ (HO6.out.1) HO6.out.2.1 HO6.out.2.2).mono ?_; rintro e w7 ⟨rfl, ho⟩; have HX7 := Hid.mk (HX6.out.over ho.only (fun k hk => ⟨HF3.out.2.1 k hk.1 hk.2, by have := HF3.out.2.2; omega⟩)); have HB7 := Hid.mk (HB6.out.kept ho.only (fun k h1 h2 hn => by have := HG.out.2.2.1; omega)); have HK7 := Hid.mk (HK6.out.move (fun _ h => h) (fun b o u hb hc => ho.only.cellS (fun hh => by have := HF3.out.2.2; have hbb : b < w.heap.size := hb; omega) hc) _ _); clear c0 c1 c2 c3 c4 c5 d0 d1 d2 d3; obtain ⟨c0, c1, c2, c3, c4, c5, d0, d1, d2, d3, _, _, _, _, _, _⟩ := HB7.out; clear ho))
  go_ret
  have hov := HZ9.out.over HZ.out.only (fun k hk => ⟨HF3.out.1 k (HF2.out.1 k (by have := HB9.out.lo_; omega) (by have := HB9.out.hi_; omega)), by have := HF2.out.2.2; have := HB9.out.lo_; omega⟩)
  exact ⟨rfl, c', hov.weaken (fun k hk => HF3.out.1 k (HF2.out.2.1 k hk)), HLW.out.1, HLW.out.2⟩
set_option maxHeartbeats 16000000 in
set_option maxRecDepth 100000 in
theorem act11_6 (h : Sx w wr p q L L c ht Sr F) (hs : SizeT L c) (hL : L.length < 600000) (T : Tm) (n kk kn : Int) (ks : ByteArray) (ka : Option Addr) (km kc : Nat) (hk : Lies wr (fun b => b < w.heap.size) T (.agg #[.int .i64 kk, .int .i64 kn, .string ks, .slice ka km kc])) (hsz : T.size ≤ 1000000) (hsh : T.Short) (hst : ShapeTab w) :
    Calls Tryd.prog 11 #[.pointer (some ⟨p, 0, none⟩), .pointer (some ⟨q, 0, none⟩), .agg #[.int .i64 6, .int .i64 n, .int .i64 kk, .int .i64 kn, .string ks, .slice ka km kc]] wr fun e w' => e = .returned (.bool true) ∧ ∃ c', Sx w w' p q L L c' ht Sr F ∧ c ≤ c' ∧ LowI (c' - c) L.length := by
  obtain ⟨nb, hnb⟩ : ∃ nb, wr.heap.size = nb := ⟨_, rfl⟩
  obtain ⟨W1, hW1⟩ : ∃ W1, wr.alloc (.cells #[.int .i64 6, .int .i64 n, .int .i64 kk, .int .i64 kn, .string ks, .slice ka km kc] 34) = W1 := ⟨_, rfl⟩
  have hu : Up wr W1 := by rw [← hW1]; exact (Up.refl wr).alloc
  have hcell : ∀ j, W1.cell? ⟨nb, j, none⟩ = (#[Value.int .i64 6, .int .i64 n, .int .i64 kk, .int .i64 kn, .string ks, .slice ka km kc] : Array Value)[j]? := fun j => by rw [← hW1, ← hnb]; exact new_cell _ _ _ j
  have c0 := hcell 0
  have c1 := hcell 1
  have c2 := hcell 2
  have c3 := hcell 3
  have c4 := hcell 4
  have c5 := hcell 5
  simp only [List.getElem?_toArray, List.getElem?_cons_zero, List.getElem?_cons_succ] at c0 c1 c2 c3 c4 c5
  have HCP := Hid.mk (copyTerm_any T hsz _ _ W1 (hk.below hu.out))
  have HW := Hid.mk (And.intro hW1 hnb)
  have HU := Hid.mk hu.out
  have HSZ := Hid.mk (show W1.heap.size = nb + 1 by rw [← hW1, World.size_alloc, hnb])
  have HX0 := Hid.mk h
  have HIN := Hid.mk (show SizeT L c ∧ L.length < 600000 ∧ T.size ≤ 1000000 ∧ T.Short ∧ ShapeTab w ∧ (∀ W, Below wr.heap.size wr W → Lies W (fun b => b < w.heap.size) T (.agg #[.int .i64 kk, .int .i64 kn, .string ks, .slice ka km kc])) from ⟨hs, hL, hsz, hsh, hst, fun W hW => hk.below hW⟩)
  have HWB := Hid.mk h.tree.below
  clear h hs hL hk hsz hsh hst hu hcell hnb hW1
  go_enter Tryd.func11, Tryd.ntmps11
  go_upto_region 1 with fail
  rw [HW.out.1, HW.out.2]
  go_upto_region 2 with (go_at_call 38; refine HCP.out.mono ?_; rintro e w2 ⟨⟨tv, rfl, hown⟩, hb⟩; obtain ⟨tk, tn, ts, ta, tm, tc, rfl⟩ := hown.agg; have HC2 := Hid.mk (And.intro hown hb); clear hown)
  obtain ⟨hown, hb⟩ := HC2.out
  obtain ⟨nb2, hnb2⟩ : ∃ nb2, w2.heap.size = nb2 := ⟨_, rfl⟩
  obtain ⟨w3, hw3⟩ : ∃ w3, w2.alloc (.cells #[.int .i64 tk, .int .i64 tn, .string ts, .slice ta tm tc] 32) = w3 := ⟨_, rfl⟩
  have hu3 : Below W1.heap.size W1 w3 := by rw [← hw3]; exact hb.trans ((Up.alloc (Up.refl w2)).out.mono hb.size)
  have hsz3 : w3.heap.size = nb2 + 1 := by rw [← hw3, World.size_alloc, hnb2]
  have dcell : ∀ j, w3.cell? ⟨nb2, j, none⟩ = (#[Value.int .i64 tk, .int .i64 tn, .string ts, .slice ta tm tc] : Array Value)[j]? := fun j => by rw [← hw3, ← hnb2]; exact new_cell _ _ _ j
  have hal : Below w2.heap.size w2 w3 := by rw [← hw3]; exact (Up.alloc (Up.refl w2)).out
  have hIB : InB wr.heap.size w3.heap.size w3 nb nb2 W1.heap.size w2.heap.size 6 n kk kn ks ka km kc tk tn ts ta tm tc T := by
    have h1 := HSZ.out
    have h2 := hb.size
    have h3 := HW.out.2
    exact ⟨cell_below hu3 _ _ _ c0, cell_below hu3 _ _ _ c1, cell_below hu3 _ _ _ c2, cell_below hu3 _ _ _ c3, cell_below hu3 _ _ _ c4, cell_below hu3 _ _ _ c5, dcell 0, dcell 1, dcell 2, dcell 3,
      Own.move _ _ _ _ _ _ (Nat.le_refl _) (Nat.le_refl _) (fun k _ h5 => hal.block k h5) hown, ⟨by omega, by omega⟩, ⟨by omega, by omega⟩, by omega, by omega, Nat.le_refl _⟩
  obtain ⟨A, hA⟩ : ∃ A, wr.heap.size = A := ⟨_, rfl⟩
  obtain ⟨B, hB⟩ : ∃ B, w3.heap.size = B := ⟨_, rfl⟩
  obtain ⟨lo, hlo⟩ : ∃ lo, W1.heap.size = lo := ⟨_, rfl⟩
  obtain ⟨hi, hhi⟩ : ∃ hi, w2.heap.size = hi := ⟨_, rfl⟩
  have hwr3 : Below wr.heap.size wr w3 := HU.out.trans (hu3.mono HU.out.size)
  have hwA : w.heap.size ≤ A := by rw [← hA]; exact HWB.out.size
  obtain ⟨F2, hF2⟩ : ∃ F2, (fun k => F k ∨ (A ≤ k ∧ k < B)) = F2 := ⟨_, rfl⟩
  have HX3 : Hid (Sx w w3 p q L L c ht Sr F2) := Hid.mk (by rw [← hF2, ← hA, ← hB]; exact HX0.out.more hwr3 _ (fun k hk => hk))
  rw [hA, hB, hlo, hhi] at hIB
  have HB3 := Hid.mk hIB
  have HF2 := Hid.mk (show (∀ k, A ≤ k → k < B → F2 k) ∧ (∀ k, F k → F2 k) ∧ w.heap.size ≤ A from ⟨fun k h1 h2 => by rw [← hF2]; exact Or.inr ⟨h1, h2⟩, fun k hk => by rw [← hF2]; exact Or.inl hk, hwA⟩)
  have HKY := Hid.mk (fun (W : World) (hW : Below w3.heap.size w3 W) => HIN.out.2.2.2.2.2 W (hwr3.trans (hW.mono hwr3.size)))
  rw [hw3, hnb2]
  clear hw3 hown hb hu3 hsz3 dcell hal hIB hA hB hlo hhi hwr3 hwA hF2 c0 c1 c2 c3 c4 c5
  obtain ⟨c0, c1, c2, c3, c4, c5, d0, d1, d2, d3, _, _, _, _, _, _⟩ := HB3.out
  clear hnb2
  have HP := Hid.mk (HX3.out.tree.prev HIN.out.1 (Own.lies _ _ _ _ HB3.out.own) (fun b hb => Or.inr (Or.inr (HF2.out.1 b (by have := HB3.out.lo_; omega) (by have := HB3.out.hi_; omega)))))
  have HR := Hid.mk (fun (W : World) (hr : Rt W q L (fun b => b < w.heap.size) Sr) (hW : w.heap.size ≤ W.heap.size) (hk : Lies W (fun b => b < w.heap.size) T (.agg #[.int .i64 kk, .int .i64 kn, .string ks, .slice ka km kc])) => prevR_any q L _ Sr _ T _ W hr hk (fun b hb => Nat.lt_of_lt_of_le hb hW) (by have := HIN.out.2.1; omega))
  generalize tellN L ((atN L T : Int) - 1) = X at *
  obtain ⟨X0, X1, X2⟩ := X
  go_upto_region 30 with (go_at_call 26; refine HP.out.mono ?_; rintro e w4 ⟨kv4, rfl, hown4, c', hto, hc1, hc2, ho⟩; obtain ⟨sk, sn, ss, sa, sm, sc, rfl⟩ := hown4.agg; have HX4' := HX3.out.look hto ho; have HB4' := HB3.out.kept ho (fun k h1 h2 hn => hn (Or.inr (HF2.out.1 k h1 h2))); have HK4' := key_same (HKY.out w3 (Below.refl _ _)) HX3.out.tree.below hto.below; have HLW := Hid.mk (And.intro hc1 hc2); have hsz34 : w3.heap.size ≤ w4.heap.size := ho.size; clear hto ho hc1 hc2; have HO4 := Hid.mk (And.intro hown4 hsz34); have HX4 := Hid.mk HX4'; have HB4 := Hid.mk HB4'; have HK4 := Hid.mk HK4'; clear c0 c1 c2 c3 c4 c5 d0 d1 d2 d3; obtain ⟨c0, c1, c2, c3, c4, c5, d0, d1, d2, d3, _, _, _, _, _, _⟩ := HB4.out; clear HX4' HB4' HK4' hown4 hsz34)
  obtain ⟨W5, hW5⟩ : ∃ W5, w4.alloc (.cells #[.int .i64 sk, .int .i64 sn, .string ss, .slice sa sm sc] 32) = W5 := ⟨_, rfl⟩
  have hb45 : Below w4.heap.size w4 W5 := by rw [← hW5]; exact (Up.alloc (Up.refl w4)).out
  have hsz5 : W5.heap.size = w4.heap.size + 1 := by rw [← hW5, World.size_alloc]
  have hcl5 : ∀ j, W5.cell? ⟨w4.heap.size, j, none⟩ = (#[Value.int .i64 sk, .int .i64 sn, .string ss, .slice sa sm sc] : Array Value)[j]? := fun j => by rw [← hW5]; exact new_cell _ _ _ j
  obtain ⟨sb, hsb⟩ : ∃ sb, w4.heap.size = sb := ⟨_, rfl⟩
  rw [hsb] at hcl5 hsz5
  have s0 := hcl5 0
  have s1 := hcl5 1
  have s2 := hcl5 2
  have s3 := hcl5 3
  simp only [List.getElem?_toArray, List.getElem?_cons_zero, List.getElem?_cons_succ] at s0 s1 s2 s3
  have HB4b := Hid.mk (HB4.out.up hb45)
  have HK4b := Hid.mk (HK4.out.below hb45)
  have HG := Hid.mk (show w3.heap.size ≤ sb ∧ W5.heap.size = sb + 1 ∧ B ≤ w3.heap.size ∧ Own W5 X0 w3.heap.size sb (.agg #[.int .i64 sk, .int .i64 sn, .string ss, .slice sa sm sc]) from ⟨by rw [← hsb]; exact HO4.out.2, hsz5, HB3.out.b_, by
    have h1 := HO4.out.1
    rw [hsb] at h1
    exact Own.move _ _ _ _ _ _ (Nat.le_refl _) (Nat.le_refl _) (fun k _ h2 => hb45.block k (by omega)) h1⟩)
  have hB3 := HB3.out.b_
  obtain ⟨F3, hF3⟩ : ∃ F3, (fun k => F2 k ∨ (w3.heap.size ≤ k ∧ k < sb)) = F3 := ⟨_, rfl⟩
  have HX5 : Hid (Sx w W5 p q L L c' ht Sr F3) := Hid.mk (by rw [← hF3, ← hsb]; exact HX4.out.up hb45)
  have HF3 := Hid.mk (show (∀ k, F2 k → F3 k) ∧ (∀ k, w3.heap.size ≤ k → k < sb → F3 k) ∧ w.heap.size ≤ w3.heap.size from ⟨fun k hk => by rw [← hF3]; exact Or.inl hk, fun k h1 h2 => by rw [← hF3]; exact Or.inr ⟨h1, h2⟩, HX3.out.tree.below.size⟩)
  clear c0 c1 c2 c3 c4 c5 d0 d1 d2 d3
  obtain ⟨c0, c1, c2, c3, c4, c5, d0, d1, d2, d3, _, _, _, _, _, _⟩ := HB4b.out
  rw [hW5, hsb]
  clear hW5 hb45 hsz5 hcl5 hsb hF3 hB3
  go_upto_region 31 with (go_at_call 46; refine (HR.out W5 HX5.out.rb HX5.out.tree.below.size HK4b.out).mono ?_; rintro e w6 ⟨rv, rfl, hly, hb6⟩; obtain ⟨rk, rn, rs, ra, rm, rc, rfl⟩ := hly.agg; have HR6 := Hid.mk (And.intro hly hb6); clear hb6 hly)
  obtain ⟨hly, hb6⟩ := HR6.out
  obtain ⟨W6, hW6⟩ : ∃ W6, w6.alloc (.cells #[.int .i64 rk, .int .i64 rn, .string rs, .slice ra rm rc] 32) = W6 := ⟨_, rfl⟩
  have ha6 : Below w6.heap.size w6 W6 := by rw [← hW6]; exact (Up.alloc (Up.refl w6)).out
  have hu6 : Below W5.heap.size W5 W6 := hb6.trans (ha6.mono hb6.size)
  have hcl6 : ∀ j, W6.cell? ⟨w6.heap.size, j, none⟩ = (#[Value.int .i64 rk, .int .i64 rn, .string rs, .slice ra rm rc] : Array Value)[j]? := fun j => by rw [← hW6]; exact new_cell _ _ _ j
  obtain ⟨rb, hrb⟩ : ∃ rb, w6.heap.size = rb := ⟨_, rfl⟩
  rw [hrb] at hcl6
  have r0 := hcl6 0
  have r1 := hcl6 1
  have r2 := hcl6 2
  have r3 := hcl6 3
  simp only [List.getElem?_toArray, List.getElem?_cons_zero, List.getElem?_cons_succ] at r0 r1 r2 r3
  have HX6 := Hid.mk (HX5.out.up hu6)
  have HB6 := Hid.mk (HB4b.out.up hu6)
  have HK6 := Hid.mk (HK4b.out.below hu6)
  have HO6 := Hid.mk (And.intro (Own.move X0 w3.heap.size sb w3.heap.size sb _ (Nat.le_refl _) (Nat.le_refl _) (fun k _ h2 => hu6.block k (by have := HG.out.2.1; omega)) HG.out.2.2.2) (And.intro (Nat.le_trans (show sb ≤ W5.heap.size from by have := HG.out.2.1; omega) hu6.size) (hly.below ha6)))
  replace s0 := cell_below hu6 _ _ _ s0
  replace s1 := cell_below hu6 _ _ _ s1
  replace s2 := cell_below hu6 _ _ _ s2
  replace s3 := cell_below hu6 _ _ _ s3
  clear c0 c1 c2 c3 c4 c5 d0 d1 d2 d3
  obtain ⟨c0, c1, c2, c3, c4, c5, d0, d1, d2, d3, _, _, _, _, _, _⟩ := HB6.out
  rw [hW6, hrb]
  clear hW6 hrb hly hb6 ha6 hu6 hcl6
  go_wp2_with (first
    | (have gz := HZ9; go_at_call 47; refine (overTerm_any T lo hi _ w9 (by have := HB9.out.hi_; have := HB9.out.b_; omega) HB9.out.own).mono ?_; rintro e w10 ⟨⟨u, rfl⟩, ho⟩; have HZ := Hid.mk ho; clear ho)
    | (have gy := HX7; go_at_call 32; refine (sameTermRefl T _ _ _ _ _ (Own.lies _ _ _ _ HB7.out.own) HK7.out).mono ?_; rintro e w9 ⟨rfl, hb⟩; have HZ9 := Hid.mk (HX7.out.up hb); have HB9 := Hid.mk (HB7.out.up hb); clear c0 c1 c2 c3 c4 c5 d0 d1 d2 d3; obtain ⟨c0, c1, c2, c3, c4, c5, d0, d1, d2, d3, _, _, _, _, _, _⟩ := HB9.out; clear hb)
    | (go_at_call 43; refine (three_any X0 X1 X2 w3.heap.size sb _ _ _ _ (HO6.out.1) HO6.out.2.1 HO6.out.2.2).mono ?_; rintro e w7 ⟨rfl, ho⟩; have HX7 := Hid.mk (HX6.out.over ho.only (fun k hk => ⟨HF3.out.2.1 k hk.1 hk.2, by have := HF3.out.2.2; omega⟩)); have HB7 := Hid.mk (HB6.out.kept ho.only (fun k h1 h2 hn => by have := HG.out.2.2.1; omega)); have HK7 := Hid.mk (HK6.out.move (fun _ h => h) (fun b o u hb hc => ho.only.cellS (fun hh => by have := HF3.out.2.2; have hbb : b < w.heap.size := hb; omega) hc) _ _); clear c0 c1 c2 c3 c4 c5 d0 d1 d2 d3; obtain ⟨c0, c1, c2, c3, c4, c5, d0, d1, d2, d3, _, _, _, _, _, _⟩ := HB7.out; clear ho))
  go_ret
  have hov := HZ9.out.over HZ.out.only (fun k hk => ⟨HF3.out.1 k (HF2.out.1 k (by have := HB9.out.lo_; omega) (by have := HB9.out.hi_; omega)), by have := HF2.out.2.2; have := HB9.out.lo_; omega⟩)
  exact ⟨rfl, c', hov.weaken (fun k hk => HF3.out.1 k (HF2.out.2.1 k hk)), HLW.out.1, HLW.out.2⟩
end
end Go.Proofs.YteklhipcojioaaaDoor

/-
  One call of a script, on both sides: further kinds.
-/
namespace Go.Proofs.YteklhipcojioaaaDoor
open Go.RowKit Go.Deep Go.Maps Go.WideShapes

section
variable {w wr : World} {p q : Nat} {L : List Nd} {c ht : Int} {Sr F : Nat → Prop}
set_option maxHeartbeats 16000000 in
set_option maxRecDepth 100000 in
theorem act11_N (h : Sx w wr p q L L c ht Sr F) (hs : SizeT L c) (hL : L.length < 600000) (T : Tm) (n kk kn : Int) (ks : ByteArray) (ka : Option Addr) (km kc : Nat) (hk : Lies wr (fun b => b < w.heap.size) T (.agg #[.int .i64 kk, .int .i64 kn, .string ks, .slice ka km kc])) (hsz : T.size ≤ 1000000) (hsh : T.Short) (hst : ShapeTab w) (kd : Int) (hkd : ¬ kd = 0 ∧ ¬ kd = 1 ∧ ¬ kd = 2 ∧ ¬ kd = 3 ∧ ¬ kd = 4 ∧ ¬ kd = 5 ∧ ¬ kd = 6) :
    Calls Tryd.prog 11 #[.pointer (some ⟨p, 0, none⟩), .pointer (some ⟨q, 0, none⟩), .agg #[.int .i64 kd, .int .i64 n, .int .i64 kk, .int .i64 kn, .string ks, .slice ka km kc]] wr fun e w' => e = .returned (.bool true) ∧ Sx w w' p q L L c ht Sr F := by
  obtain ⟨nb, hnb⟩ : ∃ nb, wr.heap.size = nb := ⟨_, rfl⟩
  obtain ⟨W1, hW1⟩ : ∃ W1, wr.alloc (.cells #[.int .i64 kd, .int .i64 n, .int .i64 kk, .int .i64 kn, .string ks, .slice ka km kc] 34) = W1 := ⟨_, rfl⟩
  have hu : Up wr W1 := by rw [← hW1]; exact (Up.refl wr).alloc
  have hcell : ∀ j, W1.cell? ⟨nb, j, none⟩ = (#[Value.int .i64 kd, .int .i64 n, .int .i64 kk, .int .i64 kn, .string ks, .slice ka km kc] : Array Value)[j]? := fun j => by rw [← hW1, ← hnb]; exact new_cell _ _ _ j
  have c0 := hcell 0
  have c1 := hcell 1
  have c2 := hcell 2
  have c3 := hcell 3
  have c4 := hcell 4
  have c5 := hcell 5
  simp only [List.getElem?_toArray, List.getElem?_cons_zero, List.getElem?_cons_succ] at c0 c1 c2 c3 c4 c5
  have HCP := Hid.mk (copyTerm_any T hsz _ _ W1 (hk.below hu.out))
  have HW := Hid.mk (And.intro hW1 hnb)
  have HU := Hid.mk hu.out
  have HSZ := Hid.mk (show W1.heap.size = nb + 1 by rw [← hW1, World.size_alloc, hnb])
  have HX0 := Hid.mk h
  have HIN := Hid.mk (show SizeT L c ∧ L.length < 600000 ∧ T.size ≤ 1000000 ∧ T.Short ∧ ShapeTab w ∧ (∀ W, Below wr.heap.size wr W → Lies W (fun b => b < w.heap.size) T (.agg #[.int .i64 kk, .int .i64 kn, .string ks, .slice ka km kc])) from ⟨hs, hL, hsz, hsh, hst, fun W hW => hk.below hW⟩)
  have HWB := Hid.mk h.tree.below
  clear h hs hL hk hsz hsh hst hu hcell hnb hW1
  go_enter Tryd.func11, Tryd.ntmps11
  go_upto_region 1 with fail
  rw [HW.out.1, HW.out.2]
  go_upto_region 2 with (go_at_call 38; refine HCP.out.mono ?_; rintro e w2 ⟨⟨tv, rfl, hown⟩, hb⟩; obtain ⟨tk, tn, ts, ta, tm, tc, rfl⟩ := hown.agg; have HC2 := Hid.mk (And.intro hown hb); clear hown)
  obtain ⟨hown, hb⟩ := HC2.out
  obtain ⟨nb2, hnb2⟩ : ∃ nb2, w2.heap.size = nb2 := ⟨_, rfl⟩
  obtain ⟨w3, hw3⟩ : ∃ w3, w2.alloc (.cells #[.int .i64 tk, .int .i64 tn, .string ts, .slice ta tm tc] 32) = w3 := ⟨_, rfl⟩
  have hu3 : Below W1.heap.size W1 w3 := by rw [← hw3]; exact hb.trans ((Up.alloc (Up.refl w2)).out.mono hb.size)
  have hsz3 : w3.heap.size = nb2 + 1 := by rw [← hw3, World.size_alloc, hnb2]
  have dcell : ∀ j, w3.cell? ⟨nb2, j, none⟩ = (#[Value.int .i64 tk, .int .i64 tn, .string ts, .slice ta tm tc] : Array Value)[j]? := fun j => by rw [← hw3, ← hnb2]; exact new_cell _ _ _ j
  have hal : Below w2.heap.size w2 w3 := by rw [← hw3]; exact (Up.alloc (Up.refl w2)).out
  have hIB : InB wr.heap.size w3.heap.size w3 nb nb2 W1.heap.size w2.heap.size kd n kk kn ks ka km kc tk tn ts ta tm tc T := by
    have h1 := HSZ.out
    have h2 := hb.size
    have h3 := HW.out.2
    exact ⟨cell_below hu3 _ _ _ c0, cell_below hu3 _ _ _ c1, cell_below hu3 _ _ _ c2, cell_below hu3 _ _ _ c3, cell_below hu3 _ _ _ c4, cell_below hu3 _ _ _ c5, dcell 0, dcell 1, dcell 2, dcell 3,
      Own.move _ _ _ _ _ _ (Nat.le_refl _) (Nat.le_refl _) (fun k _ h5 => hal.block k h5) hown, ⟨by omega, by omega⟩, ⟨by omega, by omega⟩, by omega, by omega, Nat.le_refl _⟩
  obtain ⟨A, hA⟩ : ∃ A, wr.heap.size = A := ⟨_, rfl⟩
  obtain ⟨B, hB⟩ : ∃ B, w3.heap.size = B := ⟨_, rfl⟩
  obtain ⟨lo, hlo⟩ : ∃ lo, W1.heap.size = lo := ⟨_, rfl⟩
  obtain ⟨hi, hhi⟩ : ∃ hi, w2.heap.size = hi := ⟨_, rfl⟩
  have hwr3 : Below wr.heap.size wr w3 := HU.out.trans (hu3.mono HU.out.size)
  have hwA : w.heap.size ≤ A := by rw [← hA]; exact HWB.out.size
  obtain ⟨F2, hF2⟩ : ∃ F2, (fun k => F k ∨ (A ≤ k ∧ k < B)) = F2 := ⟨_, rfl⟩
  have HX3 : Hid (Sx w w3 p q L L c ht Sr F2) := Hid.mk (by rw [← hF2, ← hA, ← hB]; exact HX0.out.more hwr3 _ (fun k hk => hk))
  rw [hA, hB, hlo, hhi] at hIB
  have HB3 := Hid.mk hIB
  have HF2 := Hid.mk (show (∀ k, A ≤ k → k < B → F2 k) ∧ (∀ k, F k → F2 k) ∧ w.heap.size ≤ A from ⟨fun k h1 h2 => by rw [← hF2]; exact Or.inr ⟨h1, h2⟩, fun k hk => by rw [← hF2]; exact Or.inl hk, hwA⟩)
  have HKY := Hid.mk (fun (W : World) (hW : Below w3.heap.size w3 W) => HIN.out.2.2.2.2.2 W (hwr3.trans (hW.mono hwr3.size)))
  rw [hw3, hnb2]
  clear hw3 hown hb hu3 hsz3 dcell hal hIB hA hB hlo hhi hwr3 hwA hF2 c0 c1 c2 c3 c4 c5
  obtain ⟨c0, c1, c2, c3, c4, c5, d0, d1, d2, d3, _, _, _, _, _, _⟩ := HB3.out
  clear hnb2
  obtain ⟨k0, k1, k2, k3, k4, k5, k6⟩ := hkd
  go_wp2_with (first
    | (have gz := HZ9; go_at_call 47; refine (overTerm_any T lo hi _ w9 (by have := HB9.out.hi_; have := HB9.out.b_; omega) HB9.out.own).mono ?_; rintro e w10 ⟨⟨u, rfl⟩, ho⟩; have HZ := Hid.mk ho; clear ho)
    | (have gy := HX3; go_at_call 32; refine (sameTermRefl T _ _ _ _ _ (Own.lies _ _ _ _ HB3.out.own) (HKY.out w3 (Below.refl _ _))).mono ?_; rintro e w9 ⟨rfl, hb⟩; have HZ9 := Hid.mk (HX3.out.up hb); have HB9 := Hid.mk (HB3.out.up hb); clear c0 c1 c2 c3 c4 c5 d0 d1 d2 d3; obtain ⟨c0, c1, c2, c3, c4, c5, d0, d1, d2, d3, _, _, _, _, _, _⟩ := HB9.out; clear hb))
  go_ret
  have hov := HZ9.out.over HZ.out.only (fun k hk => ⟨HF2.out.1 k (by have := HB9.out.lo_; omega) (by have := HB9.out.hi_; omega), by have := HF2.out.2.2; have := HB9.out.lo_; omega⟩)
  exact ⟨rfl, hov.weaken HF2.out.2.1⟩
/-- A call of whatever kind. -/
theorem act11_all (h : Sx w wr p q L L c ht Sr F) (hs : SizeT L c) (hL : L.length < 600000) (T : Tm) (kd n kk kn : Int) (ks : ByteArray) (ka : Option Addr) (km kc : Nat) (hk : Lies wr (fun b => b < w.heap.size) T (.agg #[.int .i64 kk, .int .i64 kn, .string ks, .slice ka km kc])) (hsz : T.size ≤ 1000000) (hsh : T.Short) (hst : ShapeTab w) :
    Calls Tryd.prog 11 #[.pointer (some ⟨p, 0, none⟩), .pointer (some ⟨q, 0, none⟩), .agg #[.int .i64 kd, .int .i64 n, .int .i64 kk, .int .i64 kn, .string ks, .slice ka km kc]] wr fun e w' => e = .returned (.bool true) ∧ ∃ L' c' ht' Sr', Sx w w' p q L' L' c' ht' Sr' F ∧ c ≤ c' ∧ LowI (c' - c) L.length ∧ (kd = 3 ∨ kd = 4 → c' = c) ∧ L'.length ≤ L.length + 1 := by
  have l0 : LowI (c - c) L.length := by rw [Int.sub_self]; exact low_zero _
  by_cases k0 : kd = 0
  · subst k0
    refine (act11_0 h hs hL T n kk kn ks ka km kc hk hsz hsh hst).mono fun e w' hh => ?_
    obtain ⟨h1, c', ht', Sr', h2, h3, h4⟩ := hh
    refine ⟨h1, _, c', ht', Sr', h2, h3, h4, fun e => (by omega), ?_⟩
    unfold putL
    split
    · rw [putN_len]; split <;> omega
    · omega
  by_cases k1 : kd = 1
  · subst k1
    refine (act11_1 h hs hL T n kk kn ks ka km kc hk hsz hsh hst).mono fun e w' hh => ?_
    obtain ⟨h1, c', h2, h3, h4⟩ := hh
    exact ⟨h1, L, c', ht, Sr, h2, h3, h4, fun e => (by omega), by omega⟩
  by_cases k2 : kd = 2
  · subst k2
    refine (act11_2 h hs hL T n kk kn ks ka km kc hk hsz hsh hst).mono fun e w' hh => ?_
    obtain ⟨h1, c', ht', Sr', h2, h3, h4⟩ := hh
    refine ⟨h1, _, c', ht', Sr', h2, h3, h4, fun e => (by omega), ?_⟩
    rw [removeN_len]; split <;> omega
  by_cases k3 : kd = 3
  · subst k3
    exact (act11_3 h hs hL T n kk kn ks ka km kc hk hsz hsh hst).mono fun e w' hh => ⟨hh.1, L, c, ht, Sr, hh.2, Int.le_refl _, l0, fun _ => rfl, by omega⟩
  by_cases k4 : kd = 4
  · subst k4
    exact (act11_4 h hs hL T n kk kn ks ka km kc hk hsz hsh hst).mono fun e w' hh => ⟨hh.1, L, c, ht, Sr, hh.2, Int.le_refl _, l0, fun _ => rfl, by omega⟩
  by_cases k5 : kd = 5
  · subst k5
    refine (act11_5 h hs hL T n kk kn ks ka km kc hk hsz hsh hst).mono fun e w' hh => ?_
    obtain ⟨h1, c', h2, h3, h4⟩ := hh
    exact ⟨h1, L, c', ht, Sr, h2, h3, h4, fun e => (by omega), by omega⟩
  by_cases k6 : kd = 6
  · subst k6
    refine (act11_6 h hs hL T n kk kn ks ka km kc hk hsz hsh hst).mono fun e w' hh => ?_
    obtain ⟨h1, c', h2, h3, h4⟩ := hh
    exact ⟨h1, L, c', ht, Sr, h2, h3, h4, fun e => (by omega), by omega⟩
  exact (act11_N h hs hL T n kk kn ks ka km kc hk hsz hsh hst kd ⟨k0, k1, k2, k3, k4, k5, k6⟩).mono fun e w' hh => ⟨hh.1, L, c, ht, Sr, hh.2, Int.le_refl _, l0, fun _ => rfl, by omega⟩
end
end Go.Proofs.YteklhipcojioaaaDoor
