/-
  The document's tree: the number of a key; the i-th key; neighbours.
-/
import Derived.Test.YteklhipcojioaaaDoorZTreeKit
import Derived.Test.YteklhipcojioaaaDoorZRegionUp
namespace Go.Proofs.YteklhipcojioaaaDoor
open Go.RowKit Go.Deep Go.Maps Go.WideShapes

/-- A key boxed by a call: its world, its cells. -/
theorem boxed_key (w : World) (kk kn : Int) (ks : ByteArray) (ka : Option Addr) (km kc : Nat) : ∃ nb W1, w.heap.size = nb ∧ w.alloc (.cells #[.int .i64 kk, .int .i64 kn, .string ks, .slice ka km kc] 32) = W1 ∧ Below w.heap.size w W1 ∧
    W1.cell? ⟨nb, 0, none⟩ = some (.int .i64 kk) ∧ W1.cell? ⟨nb, 1, none⟩ = some (.int .i64 kn) ∧ W1.cell? ⟨nb, 2, none⟩ = some (.string ks) ∧ W1.cell? ⟨nb, 3, none⟩ = some (.slice ka km kc) :=
  ⟨_, _, rfl, rfl, (Up.refl w).alloc.out, new_cell _ _ _ 0, new_cell _ _ _ 1, new_cell _ _ _ 2, new_cell _ _ _ 3⟩

set_option maxHeartbeats 4000000 in
set_option maxRecDepth 100000 in
theorem getR11_any (q : Nat) (L : List Nd) (F S F' : Nat → Prop) (T : Tm) (kv : Value) (w : World) (h : Rt w q L F S) (hk : Lies w F' T kv) (hL : L.length ≤ 1000000) :
    Calls Tryd.prog 40 #[.pointer (some ⟨q, 0, none⟩), kv] w fun e w' => e = .returned (.tuple #[.int .i64 (getN L T), .bool (isN L T)]) ∧ Below w.heap.size w w' := by
  obtain ⟨kk, kn, ks, ka, km, kc, rfl⟩ := hk.agg
  obtain ⟨nb, W1, hnb, hW1, hu, b0, b1, b2, b3⟩ := boxed_key w kk kn ks ka km kc
  have HA := Hid.mk (atR11_any q L F S F' T _ W1 (h.up hu) (hk.below hu) hL)
  have HR := Hid.mk (fun (W : World) (hW : Below w.heap.size w W) => h.up hW)
  have HU := Hid.mk hu
  have HW := Hid.mk (And.intro hW1 hnb)
  unfold getN
  cases hi : isN L T with
  | true =>
    obtain ⟨hl, hz⟩ := isN_some hi
    have hn : numN L (atN L T) = (L[atN L T]'hl).2 := by unfold numN; rw [List.getElem?_eq_getElem hl]
    rw [if_pos rfl, hn]
    rw [hi] at HA
    have HAT := Hid.mk (fun (W : World) (hW : Below w.heap.size w W) => let ⟨_, _, h⟩ := h.up hW; (show ∃ g cap, W.cell? ⟨q, 0, none⟩ = some (Value.slice (some ⟨g, 0, none⟩) L.length cap) ∧ W.cell? ⟨g, atN L T * 5 + 4, none⟩ = some (Value.int IntKind.i64 (L[atN L T]'hl).2) from by
      obtain ⟨g, cap, x, rfl, _, _, _, _, _, y4, _⟩ := h.at_ hl
      exact ⟨g, cap, h.cells.1, y4⟩))
    clear hz
    generalize (L[atN L T]'hl).2 = N at *
    generalize atN L T = I at *
    have hIi : (I : Int) < L.length := by omega
    clear h hk hL hu hi hl hn hnb hW1
    go_enter Tryd.func40, Tryd.ntmps40
    go_upto_region 1 with fail
    rw [HW.out.1, HW.out.2]
    go_wp2_with (go_at_call 65; refine HA.out.mono ?_; rintro e w2 ⟨rfl, hb⟩; have H2 := Hid.mk (HU.out.trans (hb.mono HU.out.size)); obtain ⟨g, cap, e0, y4⟩ := HAT.out w2 (HU.out.trans (hb.mono HU.out.size)); clear hb)
    go_ret2
    exact ⟨rfl, H2.out⟩
  | false =>
    rw [if_neg (by decide)]
    rw [hi] at HA
    clear h hk hL hu hi hnb hW1
    go_enter Tryd.func40, Tryd.ntmps40
    go_upto_region 1 with fail
    rw [HW.out.1, HW.out.2]
    go_wp2_with (go_at_call 65; refine HA.out.mono ?_; rintro e w2 ⟨rfl, hb⟩; have H2 := Hid.mk (HU.out.trans (hb.mono HU.out.size)); clear hb)
    go_ret2
    exact ⟨rfl, H2.out⟩

/-- The i-th key and its number, told. -/
def zeroTm : Tm := .mk 0 0 ⟨#[]⟩ []
def tellN (L : List Nd) (i : Int) : Tm × Int × Bool := if 0 ≤ i ∧ i < L.length then (keyN L i.toNat, numN L i.toNat, true) else (zeroTm, 0, false)
theorem ret3_at {fn : Func} {R : Ending → World → Prop} {a : Act} {p q r : Tmp} {b : Nat} {w : World} {u t v0 v1 v2 v3 : Value} (h : fn.results = #[.cell p 32, .tmp q, .tmp r]) (hp : a.tmps.getD p undef = .pointer (some ⟨b, 0, none⟩)) (hq : a.tmps.getD q undef = u) (hr : a.tmps.getD r undef = t) (hd : a.defers = [])
    (h0 : w.cell? ⟨b, 0, none⟩ = some v0) (h1 : w.cell? ⟨b, 1, none⟩ = some v1) (h2 : w.cell? ⟨b, 2, none⟩ = some v2) (h3 : w.cell? ⟨b, 3, none⟩ = some v3)
    (hR : R (.returned (.tuple #[.agg #[v0, v1, v2, v3], u, t])) w) : bodyPost Tryd.prog fn R .ret a w := by
  have hp' : a.tmps[p]?.getD undef = .pointer (some ⟨b, 0, none⟩) := by simpa using hp
  have hq' : a.tmps[q]?.getD undef = u := by simpa using hq
  have hr' : a.tmps[r]?.getD undef = t := by simpa using hr
  have hl := load4 (o := 0) h0 h1 h2 h3
  exact bodyPost_ret (by simp [results, h, hp', hq', hr', asAddr, hl]) hd hR
theorem ret3_stored {fn : Func} {R : Ending → World → Prop} {a : Act} {p q r : Tmp} {b : Nat} {w : World} {u t u0 u1 u2 u3 v0 v1 v2 v3 : Value} (h : fn.results = #[.cell p 32, .tmp q, .tmp r]) (hp : a.tmps.getD p undef = .pointer (some ⟨b, 0, none⟩)) (hq : a.tmps.getD q undef = u) (hr : a.tmps.getD r undef = t) (hd : a.defers = [])
    (h0 : w.cell? ⟨b, 0, none⟩ = some u0) (h1 : w.cell? ⟨b, 1, none⟩ = some u1) (h2 : w.cell? ⟨b, 2, none⟩ = some u2) (h3 : w.cell? ⟨b, 3, none⟩ = some u3)
    (hR : R (.returned (.tuple #[.agg #[v0, v1, v2, v3], u, t])) ((((w.setCell ⟨b, 0, none⟩ v0).setCell ⟨b, 1, none⟩ v1).setCell ⟨b, 2, none⟩ v2).setCell ⟨b, 3, none⟩ v3)) :
    bodyPost Tryd.prog fn R .ret a ((((w.setCell ⟨b, 0, none⟩ v0).setCell ⟨b, 1, none⟩ v1).setCell ⟨b, 2, none⟩ v2).setCell ⟨b, 3, none⟩ v3) := by
  obtain ⟨e0, e1, e2, e3⟩ := stored4 (v0 := v0) (v1 := v1) (v2 := v2) (v3 := v3) h0 h1 h2 h3
  exact ret3_at h hp hq hr hd e0 e1 e2 e3 hR
theorem lies_zero (w : World) (F : Nat → Prop) : Lies w F zeroTm (.agg #[.int .i64 0, .int .i64 0, .string ⟨#[]⟩, .slice none 0 0]) := Lies.mk ⟨by omega, by omega, by omega, by omega, (Nat.zero_le _ : 0 ≤ 9223372036854775807)⟩ (lst_nil _ _)
set_option maxHeartbeats 4000000 in
set_option maxRecDepth 100000 in
theorem nodeR_any (q : Nat) (L : List Nd) (F S : Nat → Prop) (i : Int) (w : World) (h : Rt w q L F S) :
    Calls Tryd.prog 66 #[.pointer (some ⟨q, 0, none⟩), .int .i64 i] w fun e w' => ∃ tv, e = .returned (.tuple #[tv, .int .i64 (tellN L i).2.1, .bool (tellN L i).2.2]) ∧ Lies w' F (tellN L i).1 tv ∧ Below w.heap.size w w' := by
  obtain ⟨nb, hnb⟩ : ∃ nb, w.heap.size = nb := ⟨_, rfl⟩
  obtain ⟨W1, hW1⟩ : ∃ W1, w.alloc (.cells #[.int .i64 0, .int .i64 0, .string ⟨#[]⟩, .slice none 0 0] 32) = W1 := ⟨_, rfl⟩
  have hu : Up w W1 := by rw [← hW1]; exact (Up.refl w).alloc
  have hbox : W1.heap[nb]? = some (.cells #[.int .i64 0, .int .i64 0, .string ⟨#[]⟩, .slice none 0 0] 32) := by rw [← hW1, ← hnb]; exact new_block w _
  have hcell : ∀ j, W1.cell? ⟨nb, j, none⟩ = (#[Value.int .i64 0, .int .i64 0, .string ⟨#[]⟩, .slice none 0 0] : Array Value)[j]? := fun j => by rw [← hW1, ← hnb]; exact new_cell _ _ _ j
  have b0 := hcell 0
  have b1 := hcell 1
  have b2 := hcell 2
  have b3 := hcell 3
  simp only [List.getElem?_toArray, List.getElem?_cons_zero, List.getElem?_cons_succ] at b0 b1 b2 b3
  have HW := Hid.mk (And.intro hW1 (And.intro hnb hbox))
  have HU := Hid.mk hu.out
  obtain ⟨v, hs, h⟩ := h
  have h1 := h.up hu.out
  obtain ⟨c0, _⟩ := h1.cells
  have hqn : q ≠ nb := fun e => by have := h.lt q h.sq; omega
  unfold tellN
  by_cases hi : 0 ≤ i ∧ i < L.length
  · rw [if_pos hi]
    obtain ⟨I, rfl⟩ := Int.eq_ofNat_of_zero_le hi.1
    have hI : I < L.length := by omega
    obtain ⟨g, vc, x, rfl, _, y0, y1, y2, y3, y4, hly⟩ := h1.at_ hI
    have hgn : g ≠ nb := fun e => by have := h.lt g (h.sv g rfl).1; omega
    rw [Int.toNat_natCast]
    have ek : keyN L I = L[I].1 := by unfold keyN; rw [List.getElem?_eq_getElem hI]
    have en : numN L I = L[I].2 := by unfold numN; rw [List.getElem?_eq_getElem hI]
    simp only [ek, en]
    obtain ⟨xk, xn, xs, xa, xm, xc, xnum⟩ := x
    simp only at y0 y1 y2 y3
    change Lies W1 F _ (.agg #[.int .i64 xk, .int .i64 xn, .string xs, .slice xa xm xc]) at hly
    have hly0 : ∀ (W : World), Only (fun k => k = nb) W1 W → Lies W F (L[I]'hI).1 (.agg #[.int .i64 xk, .int .i64 xn, .string xs, .slice xa xm xc]) := fun W ho => by
      obtain ⟨_, _, x', e, _, z0, z1, z2, z3, _, hlw⟩ := h.at_ hI
      simp only [Value.slice.injEq, Option.some.injEq, Addr.mk.injEq, and_true, true_and] at e
      obtain ⟨rfl, _⟩ := e
      have q0 := (cell_below HU.out _ _ _ z0).symm.trans y0
      have q1 := (cell_below HU.out _ _ _ z1).symm.trans y1
      have q2 := (cell_below HU.out _ _ _ z2).symm.trans y2
      have q3 := (cell_below HU.out _ _ _ z3).symm.trans y3
      obtain ⟨zk, zn, zs, za, zm, zc, znum⟩ := x'
      simp only [Option.some.injEq, Value.int.injEq, Value.string.injEq, Value.slice.injEq, true_and] at q0 q1 q2 q3
      obtain ⟨rfl, rfl, rfl⟩ := q3
      subst q0 q1 q2
      have hin := Lies.inside _ _ hlw
      exact (hin.below HU.out).move (fun _ hb => hb.1) (fun b o u hb hc => ho.cellS (fun e => by have := hb.2; omega) hc) _ _
    have HLY := Hid.mk hly0
    generalize (L[I]'hI).2 = N at *
    generalize (L[I]'hI).1 = T at *
    have k1 : decide ((I : Int) < 0) = false := by rw [decide_eq_false_iff_not]; omega
    have k2 : decide ((L.length : Int) ≤ I) = false := by rw [decide_eq_false_iff_not]; omega
    have k3 : (I : Int) < L.length := by omega
    have NBq := hqn
    have NBg := hgn
    obtain ⟨WF, hWF⟩ : ∃ WF, put4 { W1 with drawn := W1.drawn + 1 } nb 0 (.int .i64 xk) (.int .i64 xn) (.string xs) (.slice xa xm xc) = WF := ⟨_, rfl⟩
    have HOF : Only (fun k => k = nb) W1 WF := by
      rw [← hWF]
      unfold put4
      exact ((((Only.refl (fun k => k = nb) W1).drew.put rfl _ _).put rfl _ _).put rfl _ _).put rfl _ _
    have hF : WF.cell? ⟨nb, 0, none⟩ = some (.int .i64 xk) ∧ WF.cell? ⟨nb, 1, none⟩ = some (.int .i64 xn) ∧ WF.cell? ⟨nb, 2, none⟩ = some (.string xs) ∧ WF.cell? ⟨nb, 3, none⟩ = some (.slice xa xm xc) := by
      rw [← hWF]
      unfold put4
      exact stored4 (w := { W1 with drawn := W1.drawn + 1 }) b0 b1 b2 b3
    clear b0 b1 b2 b3 h h1 hi hI ek en hly hly0 hcell hW1 hnb hu hqn hgn
    go_enter Tryd.func66, Tryd.ntmps66
    go_upto_region 1 with fail
    rw [HW.out.1, HW.out.2.1]
    go_upto_region 3 with fail
    refine wp_region_held (S := Only (fun k => k = nb) W1) (by kernel_rfl) ?_
    have HS0 := (Only.refl (fun k => k = nb) W1).drew
    refine chain_take (i := 0) (d := 19) (v := .pointer (some ⟨q, 0, none⟩)) rfl rfl (by kernel_rfl) (by kernel_rfl) (by kernel_rfl) rfl (fun W h => rfl) (fun _ _ _ h => h) HS0 ?_
    simp only [Act.put, List.setIfInBounds_toArray, List.set_cons_zero, List.set_cons_succ]
    refine chain_take (i := 1) (d := 20) (v := .pointer (some ⟨q, 0, none⟩)) rfl rfl (by kernel_rfl) (by kernel_rfl) (by kernel_rfl) rfl (fun W h => (by go_simp)) (fun _ _ _ h => h) HS0 ?_
    simp only [Act.put, List.setIfInBounds_toArray, List.set_cons_zero, List.set_cons_succ]
    refine chain_take (i := 2) (d := 21) (v := .pointer (some ⟨q, 0, none⟩)) rfl rfl (by kernel_rfl) (by kernel_rfl) (by kernel_rfl) rfl (fun W h => (by go_simp)) (fun _ _ _ h => h) HS0 ?_
    simp only [Act.put, List.setIfInBounds_toArray, List.set_cons_zero, List.set_cons_succ]
    refine chain_take (i := 3) (d := 22) (v := .slice (some ⟨g, 0, none⟩) L.length vc) rfl rfl (by kernel_rfl) (by kernel_rfl) (by kernel_rfl) rfl (fun W h => (by have u0 := Only.cell h NBq c0; go_simp)) (fun _ _ _ h => h) HS0 ?_
    simp only [Act.put, List.setIfInBounds_toArray, List.set_cons_zero, List.set_cons_succ]
    refine chain_take (i := 4) (d := 23) (v := .int .i64 I) rfl rfl (by kernel_rfl) (by kernel_rfl) (by kernel_rfl) rfl (fun W h => rfl) (fun _ _ _ h => h) HS0 ?_
    simp only [Act.put, List.setIfInBounds_toArray, List.set_cons_zero, List.set_cons_succ]
    refine chain_take (i := 5) (d := 24) (v := .pointer (some ⟨g, I * 5, none⟩)) rfl rfl (by kernel_rfl) (by kernel_rfl) (by kernel_rfl) rfl (fun W h => (by go_simp)) (fun _ _ _ h => h) HS0 ?_
    simp only [Act.put, List.setIfInBounds_toArray, List.set_cons_zero, List.set_cons_succ]
    refine chain_take (i := 6) (d := 25) (v := .pointer (some ⟨g, I * 5, none⟩)) rfl rfl (by kernel_rfl) (by kernel_rfl) (by kernel_rfl) rfl (fun W h => (by go_simp)) (fun _ _ _ h => h) HS0 ?_
    simp only [Act.put, List.setIfInBounds_toArray, List.set_cons_zero, List.set_cons_succ]
    refine chain_take (i := 7) (d := 26) (v := .agg #[.int .i64 xk, .int .i64 xn, .string xs, .slice xa xm xc]) rfl rfl (by kernel_rfl) (by kernel_rfl) (by kernel_rfl) rfl (fun W h => (by have u0 := Only.cell h NBg y0; have u1 := Only.cell h NBg y1; have u2 := Only.cell h NBg y2; have u3 := Only.cell h NBg y3; go_simp)) (fun _ _ _ h => h) HS0 ?_
    simp only [Act.put, List.setIfInBounds_toArray, List.set_cons_zero, List.set_cons_succ]
    refine chain_take (i := 8) (d := 27) (v := .pointer (some ⟨q, 0, none⟩)) rfl rfl (by kernel_rfl) (by kernel_rfl) (by kernel_rfl) rfl (fun W h => rfl) (fun _ _ _ h => h) HS0 ?_
    simp only [Act.put, List.setIfInBounds_toArray, List.set_cons_zero, List.set_cons_succ]
    refine chain_take (i := 9) (d := 28) (v := .pointer (some ⟨q, 0, none⟩)) rfl rfl (by kernel_rfl) (by kernel_rfl) (by kernel_rfl) rfl (fun W h => (by go_simp)) (fun _ _ _ h => h) HS0 ?_
    simp only [Act.put, List.setIfInBounds_toArray, List.set_cons_zero, List.set_cons_succ]
    refine chain_take (i := 10) (d := 29) (v := .pointer (some ⟨q, 0, none⟩)) rfl rfl (by kernel_rfl) (by kernel_rfl) (by kernel_rfl) rfl (fun W h => (by go_simp)) (fun _ _ _ h => h) HS0 ?_
    simp only [Act.put, List.setIfInBounds_toArray, List.set_cons_zero, List.set_cons_succ]
    refine chain_take (i := 11) (d := 30) (v := .slice (some ⟨g, 0, none⟩) L.length vc) rfl rfl (by kernel_rfl) (by kernel_rfl) (by kernel_rfl) rfl (fun W h => (by have u0 := Only.cell h NBq c0; go_simp)) (fun _ _ _ h => h) HS0 ?_
    simp only [Act.put, List.setIfInBounds_toArray, List.set_cons_zero, List.set_cons_succ]
    refine chain_take (i := 12) (d := 31) (v := .int .i64 I) rfl rfl (by kernel_rfl) (by kernel_rfl) (by kernel_rfl) rfl (fun W h => rfl) (fun _ _ _ h => h) HS0 ?_
    simp only [Act.put, List.setIfInBounds_toArray, List.set_cons_zero, List.set_cons_succ]
    refine chain_take (i := 13) (d := 32) (v := .pointer (some ⟨g, I * 5, none⟩)) rfl rfl (by kernel_rfl) (by kernel_rfl) (by kernel_rfl) rfl (fun W h => (by go_simp)) (fun _ _ _ h => h) HS0 ?_
    simp only [Act.put, List.setIfInBounds_toArray, List.set_cons_zero, List.set_cons_succ]
    refine chain_take (i := 14) (d := 33) (v := .pointer (some ⟨g, I * 5 + 4, none⟩)) rfl rfl (by kernel_rfl) (by kernel_rfl) (by kernel_rfl) rfl (fun W h => (by go_simp)) (fun _ _ _ h => h) HS0 ?_
    simp only [Act.put, List.setIfInBounds_toArray, List.set_cons_zero, List.set_cons_succ]
    refine chain_take (i := 15) (d := 34) (v := .int .i64 N) rfl rfl (by kernel_rfl) (by kernel_rfl) (by kernel_rfl) rfl (fun W h => (by have u0 := Only.cell h NBg y4; go_simp)) (fun _ _ _ h => h) HS0 ?_
    simp only [Act.put, List.setIfInBounds_toArray, List.set_cons_zero, List.set_cons_succ]
    refine chain_skip (i := 16) (w' := WF) (by kernel_rfl) rfl rfl rfl (by rw [← hWF]; exact exec_store4 (w := { W1 with drawn := W1.drawn + 1 }) hbox (by decide) rfl rfl _ _ _ _) HOF ?_
    refine chain_value (i := 17) (d := 5) (v := .int .i64 N) (w' := WF) (by kernel_rfl) rfl rfl rfl rfl HOF ?_
    simp only [Act.put, List.setIfInBounds_toArray, List.set_cons_zero, List.set_cons_succ]
    refine chain_value (i := 18) (d := 6) (v := .bool true) (w' := WF) (by kernel_rfl) rfl rfl rfl rfl HOF ?_
    simp only [Act.put, List.setIfInBounds_toArray, List.set_cons_zero, List.set_cons_succ]
    refine wpAnyH_done (by kernel_rfl) ?_ _
    have HF := Hid.mk (And.intro hF HOF)
    clear hF HOF hbox hWF HS0 c0 y0 y1 y2 y3 y4
    go_wp2
    refine ret3_at rfl rfl rfl rfl rfl HF.out.1.1 HF.out.1.2.1 HF.out.1.2.2.1 HF.out.1.2.2.2 ⟨_, rfl, HLY.out _ HF.out.2, ?_⟩
    have h2 := HF.out.2.below (B := w.heap.size) (fun k hk => by rw [hk]; exact Nat.le_of_eq HW.out.2.1) HU.out.size
    exact HU.out.trans h2
  · rw [if_neg hi]
    obtain ⟨va, vc, rfl, _, _⟩ := h1.slice
    have HC := Hid.mk (And.intro b0 (And.intro b1 (And.intro b2 b3)))
    have z0 : ∀ j, W1.frozen? ⟨nb, j, none⟩ = false := fun j => by simp [World.frozen?, hbox]
    have z1 := z0 0
    have z2 := z0 1
    have z3 := z0 2
    have z4 := z0 3
    have kk : i < 0 ∨ ¬ i < 0 ∧ (L.length : Int) ≤ i := by omega
    clear h h1 hi hcell hbox hW1 hnb hu hqn z0
    rcases kk with k1 | ⟨k1, k2⟩
    all_goals go_enter Tryd.func66, Tryd.ntmps66
    all_goals go_upto_region 1 with fail
    all_goals rw [HW.out.1, HW.out.2.1]
    all_goals go_wp2
    all_goals refine ret3_stored rfl rfl rfl rfl rfl HC.out.1 HC.out.2.1 HC.out.2.2.1 HC.out.2.2.2 ⟨_, rfl, lies_zero _ _, ?_⟩
    all_goals exact Below.set4 HU.out (Nat.le_of_eq HW.out.2.1)
end Go.Proofs.YteklhipcojioaaaDoor

/-
  The document's tree: first, last, next, ahead.
-/
namespace Go.Proofs.YteklhipcojioaaaDoor
open Go.RowKit Go.Deep Go.Maps Go.WideShapes

/-- A box for a term, zero as yet. -/
def Zbox (w : World) (nb : Nat) : Prop := (w.cell? ⟨nb, 0, none⟩ = some (.int .i64 0) ∧ w.cell? ⟨nb, 1, none⟩ = some (.int .i64 0) ∧ w.cell? ⟨nb, 2, none⟩ = some (.string ⟨#[]⟩) ∧ w.cell? ⟨nb, 3, none⟩ = some (.slice none 0 0)) ∧
  (w.frozen? ⟨nb, 0, none⟩ = false ∧ w.frozen? ⟨nb, 1, none⟩ = false ∧ w.frozen? ⟨nb, 2, none⟩ = false ∧ w.frozen? ⟨nb, 3, none⟩ = false)
theorem zbox_of {w : World} {nb : Nat} (h : w.heap[nb]? = some (.cells #[.int .i64 0, .int .i64 0, .string ⟨#[]⟩, .slice none 0 0] 32)) : Zbox w nb := ⟨⟨by simp [World.cell?, h], by simp [World.cell?, h], by simp [World.cell?, h], by simp [World.cell?, h]⟩, by simp [World.frozen?, h], by simp [World.frozen?, h], by simp [World.frozen?, h], by simp [World.frozen?, h]⟩
theorem box_up {w w' : World} {nb : Nat} (h : Zbox w nb) (hb : Below w.heap.size w w') : Zbox w' nb := by
  have hl := World.block_lt_of_cell? w _ h.1.1
  have hf := (bcell hb).2
  exact ⟨⟨cell_below hb _ _ _ h.1.1, cell_below hb _ _ _ h.1.2.1, cell_below hb _ _ _ h.1.2.2.1, cell_below hb _ _ _ h.1.2.2.2⟩, (hf _ _ hl).trans h.2.1, (hf _ _ hl).trans h.2.2.1, (hf _ _ hl).trans h.2.2.2.1, (hf _ _ hl).trans h.2.2.2.2⟩
theorem set4_cell {w : World} {nb b o : Nat} {u v0 v1 v2 v3 : Value} (hb : b ≠ nb) (hc : w.cell? ⟨b, o, none⟩ = some u) : ((((w.setCell ⟨nb, 0, none⟩ v0).setCell ⟨nb, 1, none⟩ v1).setCell ⟨nb, 2, none⟩ v2).setCell ⟨nb, 3, none⟩ v3).cell? ⟨b, o, none⟩ = some u :=
  ((((Only.refl (fun k => k = nb) w).put rfl 0 v0).put rfl 1 v1).put rfl 2 v2).put rfl 3 v3 |>.cellS hb hc
/-- What two calls told of a key: apart from the box it goes into. -/
def TellsIn (w : World) (F : Nat → Prop) (nb : Nat) (T : Tm) (v : Value) : Prop := Lies w (fun b => F b ∧ b ≠ nb) T v
set_option maxHeartbeats 4000000 in
set_option maxRecDepth 100000 in
theorem firstR_any (q : Nat) (L : List Nd) (F S : Nat → Prop) (w : World) (h : Rt w q L F S) (hF : ∀ b, F b → b < w.heap.size) :
    Calls Tryd.prog 42 #[.pointer (some ⟨q, 0, none⟩)] w fun e w' => ∃ tv, e = .returned (.tuple #[tv, .int .i64 (tellN L 0).2.1, .bool (tellN L 0).2.2]) ∧ Lies w' F (tellN L 0).1 tv ∧ Below w.heap.size w w' := by
  obtain ⟨nb, hnb⟩ : ∃ nb, w.heap.size = nb := ⟨_, rfl⟩
  obtain ⟨w1, hW1⟩ : ∃ W1, w.alloc (.cells #[.int .i64 0, .int .i64 0, .string ⟨#[]⟩, .slice none 0 0] 32) = W1 := ⟨_, rfl⟩
  have hu : Up w w1 := by rw [← hW1]; exact (Up.refl w).alloc
  have HBw1 := Hid.mk (zbox_of (w := w1) (nb := nb) (by rw [← hW1, ← hnb]; exact new_block w _))
  have HR := Hid.mk (fun (W : World) (hW : Below w.heap.size w W) => h.up hW)
  have Hw1 := Hid.mk hu.out
  have HW := Hid.mk (And.intro hW1 hnb)
  have HF := Hid.mk hF
  obtain ⟨X, hX⟩ : ∃ X, tellN L 0 = X := ⟨_, rfl⟩
  have HN := Hid.mk (fun (W : World) (hW : Below w.heap.size w W) => hX ▸ nodeR_any q L F S 0 W (h.up hW))
  rw [hX]
  obtain ⟨X0, X1, X2⟩ := X
  clear h hu hX hW1 hF hnb
  go_enter Tryd.func42, Tryd.ntmps42
  go_upto_region 1 with fail
  rw [HW.out.1, HW.out.2]
  go_wp2_with (go_at_call 66; refine (HN.out _ Hw1.out).mono ?_; rintro e w3 ⟨tv, rfl, hly, hb⟩; obtain ⟨tk, tn, ts, ta, tm, tc, rfl⟩ := hly.agg; have H3 := Hid.mk (Hw1.out.trans (hb.mono Hw1.out.size)); have HLY := Hid.mk hly; have HBX := Hid.mk (box_up HBw1.out hb); obtain ⟨⟨e0, e1, e2, e3⟩, z1, z2, z3, z4⟩ := box_up HBw1.out hb; clear hb hly)
  refine ret3_stored rfl rfl rfl rfl rfl HBX.out.1.1 HBX.out.1.2.1 HBX.out.1.2.2.1 HBX.out.1.2.2.2 ⟨_, rfl, ?_, ?_⟩
  · exact HLY.out.move (fun _ h => h) (fun b o u hb hc => set4_cell (by have := HF.out b hb; have := HW.out.2; omega) hc) _ _
  · exact Below.set4 H3.out (Nat.le_of_eq HW.out.2)

set_option maxHeartbeats 4000000 in
set_option maxRecDepth 100000 in
theorem lastR_any (q : Nat) (L : List Nd) (F S : Nat → Prop) (w : World) (h : Rt w q L F S) (hF : ∀ b, F b → b < w.heap.size) (hL : L.length ≤ 1000000) :
    Calls Tryd.prog 44 #[.pointer (some ⟨q, 0, none⟩)] w fun e w' => ∃ tv, e = .returned (.tuple #[tv, .int .i64 (tellN L (L.length - 1)).2.1, .bool (tellN L (L.length - 1)).2.2]) ∧ Lies w' F (tellN L (L.length - 1)).1 tv ∧ Below w.heap.size w w' := by
  obtain ⟨nb, hnb⟩ : ∃ nb, w.heap.size = nb := ⟨_, rfl⟩
  obtain ⟨w1, hW1⟩ : ∃ W1, w.alloc (.cells #[.int .i64 0, .int .i64 0, .string ⟨#[]⟩, .slice none 0 0] 32) = W1 := ⟨_, rfl⟩
  have hu : Up w w1 := by rw [← hW1]; exact (Up.refl w).alloc
  have HBw1 := Hid.mk (zbox_of (w := w1) (nb := nb) (by rw [← hW1, ← hnb]; exact new_block w _))
  have Hw1 := Hid.mk hu.out
  have HW := Hid.mk (And.intro hW1 hnb)
  have HF := Hid.mk hF
  obtain ⟨v, hs, h'⟩ := h.up hu.out
  obtain ⟨c0, _⟩ := h'.cells
  obtain ⟨va, vc, rfl, _, _⟩ := h'.slice
  obtain ⟨I, hI⟩ : ∃ I : Int, (L.length : Int) - 1 = I := ⟨_, rfl⟩
  have hwi : IntKind.i64.wrap ((L.length : Int) - 1) = I := by rw [wrap_id (by omega) (by omega)]; exact hI
  rw [hI]
  obtain ⟨X, hX⟩ : ∃ X, tellN L I = X := ⟨_, rfl⟩
  have HN := Hid.mk (fun (W : World) (hW : Below w.heap.size w W) => hX ▸ nodeR_any q L F S I W (h.up hW))
  rw [hX]
  obtain ⟨X0, X1, X2⟩ := X
  clear h h' hu hX hW1 hF hnb hI hL
  go_enter Tryd.func44, Tryd.ntmps44
  go_upto_region 1 with fail
  rw [HW.out.1, HW.out.2]
  go_wp2_with (go_at_call 66; refine (HN.out _ Hw1.out).mono ?_; rintro e w3 ⟨tv, rfl, hly, hb⟩; obtain ⟨tk, tn, ts, ta, tm, tc, rfl⟩ := hly.agg; have H3 := Hid.mk (Hw1.out.trans (hb.mono Hw1.out.size)); have HLY := Hid.mk hly; have HBX := Hid.mk (box_up HBw1.out hb); obtain ⟨⟨e0, e1, e2, e3⟩, z1, z2, z3, z4⟩ := box_up HBw1.out hb; clear hb hly)
  refine ret3_stored rfl rfl rfl rfl rfl HBX.out.1.1 HBX.out.1.2.1 HBX.out.1.2.2.1 HBX.out.1.2.2.2 ⟨_, rfl, ?_, ?_⟩
  · exact HLY.out.move (fun _ h => h) (fun b o u hb hc => set4_cell (by have := HF.out b hb; have := HW.out.2; omega) hc) _ _
  · exact Below.set4 H3.out (Nat.le_of_eq HW.out.2)
/-- A key in a box, and a box for a term, both new. -/
theorem boxes2 (w : World) (kk kn : Int) (ks : ByteArray) (ka : Option Addr) (km kc : Nat) : ∃ nb W1, w.heap.size = nb ∧ (w.alloc (.cells #[.int .i64 kk, .int .i64 kn, .string ks, .slice ka km kc] 32)).alloc (.cells #[.int .i64 0, .int .i64 0, .string ⟨#[]⟩, .slice none 0 0] 32) = W1 ∧ Below w.heap.size w W1 ∧
    (W1.cell? ⟨nb, 0, none⟩ = some (.int .i64 kk) ∧ W1.cell? ⟨nb, 1, none⟩ = some (.int .i64 kn) ∧ W1.cell? ⟨nb, 2, none⟩ = some (.string ks) ∧ W1.cell? ⟨nb, 3, none⟩ = some (.slice ka km kc)) ∧ Zbox W1 (nb + 1) := by
  have hu := (Up.refl (w.alloc (.cells #[.int .i64 kk, .int .i64 kn, .string ks, .slice ka km kc] 32))).alloc (o := (.cells #[.int .i64 0, .int .i64 0, .string ⟨#[]⟩, .slice none 0 0] 32))
  refine ⟨_, _, rfl, rfl, (Up.alloc (Up.alloc (Up.refl w))).out, ⟨cell_below hu.out _ _ _ (new_cell _ _ _ 0), cell_below hu.out _ _ _ (new_cell _ _ _ 1), cell_below hu.out _ _ _ (new_cell _ _ _ 2), cell_below hu.out _ _ _ (new_cell _ _ _ 3)⟩, ?_⟩
  refine zbox_of ?_
  exact new_block2 _ _ _
set_option maxHeartbeats 4000000 in
set_option maxRecDepth 100000 in
theorem prevR_any (q : Nat) (L : List Nd) (F S F' : Nat → Prop) (T : Tm) (kv : Value) (w : World) (h : Rt w q L F S) (hk : Lies w F' T kv) (hF : ∀ b, F b → b < w.heap.size) (hL : L.length ≤ 1000000) :
    Calls Tryd.prog 46 #[.pointer (some ⟨q, 0, none⟩), kv] w fun e w' => ∃ tv, e = .returned (.tuple #[tv, .int .i64 (tellN L ((atN L T : Int) - 1)).2.1, .bool (tellN L ((atN L T : Int) - 1)).2.2]) ∧ Lies w' F (tellN L ((atN L T : Int) - 1)).1 tv ∧ Below w.heap.size w w' := by
  obtain ⟨kk, kn, ks, ka, km, kc, rfl⟩ := hk.agg
  obtain ⟨nb, w1, hnb, hW1, hu, ⟨b0, b1, b2, b3⟩, hz⟩ := boxes2 w kk kn ks ka km kc
  have HBw1 := Hid.mk hz
  have Hw1 := Hid.mk hu
  have HW := Hid.mk (And.intro hW1 hnb)
  have HF := Hid.mk hF
  have HA := Hid.mk (atR11_any q L F S F' T _ w1 (h.up hu) (hk.below hu) hL)
  obtain ⟨I, hI⟩ : ∃ I : Int, (atN L T : Int) - 1 = I := ⟨_, rfl⟩
  have hal := atN_le L T
  have hwi : IntKind.i64.wrap ((atN L T : Int) - 1) = I := by rw [wrap_id (by omega) (by omega)]; exact hI
  generalize isN L T = b at *
  rw [hI]
  obtain ⟨X, hX⟩ : ∃ X, tellN L I = X := ⟨_, rfl⟩
  have HN := Hid.mk (fun (W : World) (hW : Below w.heap.size w W) => hX ▸ nodeR_any q L F S I W (h.up hW))
  rw [hX]
  obtain ⟨X0, X1, X2⟩ := X
  clear h hk hu hX hW1 hF hnb hI hL hal hz
  generalize atN L T = A at *
  go_enter Tryd.func46, Tryd.ntmps46
  go_upto_region 1 with fail
  rw [HW.out.1, HW.out.2]
  go_wp2_with (first
    | (go_at_call 66; refine (HN.out _ H2.out).mono ?_; rintro e w3 ⟨tv, rfl, hly, hb⟩; obtain ⟨tk, tn, ts, ta, tm, tc, rfl⟩ := hly.agg; have H3 := Hid.mk (H2.out.trans (hb.mono H2.out.size)); have HLY := Hid.mk hly; have HBX := Hid.mk (box_up HB2.out hb); obtain ⟨⟨e0, e1, e2, e3⟩, z1, z2, z3, z4⟩ := box_up HB2.out hb; clear hb hly)
    | (go_at_call 65; refine HA.out.mono ?_; rintro e w2 ⟨rfl, hb⟩; have H2 := Hid.mk (Hw1.out.trans (hb.mono Hw1.out.size)); have HB2 := Hid.mk (box_up HBw1.out hb); clear hb))
  refine ret3_stored rfl rfl rfl rfl rfl HBX.out.1.1 HBX.out.1.2.1 HBX.out.1.2.2.1 HBX.out.1.2.2.2 ⟨_, rfl, ?_, ?_⟩
  · exact HLY.out.move (fun _ h => h) (fun b o u hb hc => set4_cell (by have := HF.out b hb; have := HW.out.2; omega) hc) _ _
  · exact Below.set4 H3.out (by have := HW.out.2; omega)
set_option maxHeartbeats 4000000 in
set_option maxRecDepth 100000 in
theorem nextR_any (q : Nat) (L : List Nd) (F S F' : Nat → Prop) (T : Tm) (kv : Value) (w : World) (h : Rt w q L F S) (hk : Lies w F' T kv) (hF : ∀ b, F b → b < w.heap.size) (hL : L.length ≤ 1000000) :
    Calls Tryd.prog 45 #[.pointer (some ⟨q, 0, none⟩), kv] w fun e w' => ∃ tv, e = .returned (.tuple #[tv, .int .i64 (tellN L ((nextN L T : Nat))).2.1, .bool (tellN L ((nextN L T : Nat))).2.2]) ∧ Lies w' F (tellN L ((nextN L T : Nat))).1 tv ∧ Below w.heap.size w w' := by
  obtain ⟨kk, kn, ks, ka, km, kc, rfl⟩ := hk.agg
  obtain ⟨nb, w1, hnb, hW1, hu, ⟨b0, b1, b2, b3⟩, hz⟩ := boxes2 w kk kn ks ka km kc
  have HBw1 := Hid.mk hz
  have Hw1 := Hid.mk hu
  have HW := Hid.mk (And.intro hW1 hnb)
  have HF := Hid.mk hF
  have HA := Hid.mk (atR11_any q L F S F' T _ w1 (h.up hu) (hk.below hu) hL)
  obtain ⟨I, hI⟩ : ∃ I : Int, (nextN L T : Nat) = I := ⟨_, rfl⟩
  have hal := atN_le L T
  have hnx : nextN L T = if isN L T = true then atN L T + 1 else atN L T := rfl
  rw [hI]
  obtain ⟨X, hX⟩ : ∃ X, tellN L I = X := ⟨_, rfl⟩
  have HN := Hid.mk (fun (W : World) (hW : Below w.heap.size w W) => hX ▸ nodeR_any q L F S I W (h.up hW))
  rw [hX]
  obtain ⟨X0, X1, X2⟩ := X
  cases hi : isN L T with
  | true =>
    rw [hi] at HA hnx
    rw [if_pos rfl] at hnx
    have hwi : IntKind.i64.wrap ((atN L T : Int) + 1) = I := by rw [wrap_id (by omega) (by omega)]; omega
    clear h hk hu hX hW1 hF hnb hI hL hal hz hi hnx
    generalize atN L T = A at *
    go_enter Tryd.func45, Tryd.ntmps45
    go_upto_region 1 with fail
    rw [HW.out.1, HW.out.2]
    go_wp2_with (first
      | (go_at_call 66; refine (HN.out _ H2.out).mono ?_; rintro e w3 ⟨tv, rfl, hly, hb⟩; obtain ⟨tk, tn, ts, ta, tm, tc, rfl⟩ := hly.agg; have H3 := Hid.mk (H2.out.trans (hb.mono H2.out.size)); have HLY := Hid.mk hly; have HBX := Hid.mk (box_up HB2.out hb); obtain ⟨⟨e0, e1, e2, e3⟩, z1, z2, z3, z4⟩ := box_up HB2.out hb; clear hb hly)
      | (go_at_call 65; refine HA.out.mono ?_; rintro e w2 ⟨rfl, hb⟩; have H2 := Hid.mk (Hw1.out.trans (hb.mono Hw1.out.size)); have HB2 := Hid.mk (box_up HBw1.out hb); clear hb))
    refine ret3_stored rfl rfl rfl rfl rfl HBX.out.1.1 HBX.out.1.2.1 HBX.out.1.2.2.1 HBX.out.1.2.2.2 ⟨_, rfl, ?_, ?_⟩
    · exact HLY.out.move (fun _ h => h) (fun b o u hb hc => set4_cell (by have := HF.out b hb; have := HW.out.2; omega) hc) _ _
    · exact Below.set4 H3.out (by have := HW.out.2; omega)
  | false =>
    rw [hi] at HA hnx
    rw [if_neg (by decide)] at hnx
    have hIA : (atN L T : Int) = I := by omega
    rw [hIA] at HA
    clear h hk hu hX hW1 hF hnb hI hL hal hz hi hnx hIA
    go_enter Tryd.func45, Tryd.ntmps45
    go_upto_region 1 with fail
    rw [HW.out.1, HW.out.2]
    go_wp2_with (first
      | (go_at_call 66; refine (HN.out _ H2.out).mono ?_; rintro e w3 ⟨tv, rfl, hly, hb⟩; obtain ⟨tk, tn, ts, ta, tm, tc, rfl⟩ := hly.agg; have H3 := Hid.mk (H2.out.trans (hb.mono H2.out.size)); have HLY := Hid.mk hly; have HBX := Hid.mk (box_up HB2.out hb); obtain ⟨⟨e0, e1, e2, e3⟩, z1, z2, z3, z4⟩ := box_up HB2.out hb; clear hb hly)
      | (go_at_call 65; refine HA.out.mono ?_; rintro e w2 ⟨rfl, hb⟩; have H2 := Hid.mk (Hw1.out.trans (hb.mono Hw1.out.size)); have HB2 := Hid.mk (box_up HBw1.out hb); clear hb))
    refine ret3_stored rfl rfl rfl rfl rfl HBX.out.1.1 HBX.out.1.2.1 HBX.out.1.2.2.1 HBX.out.1.2.2.2 ⟨_, rfl, ?_, ?_⟩
    · exact HLY.out.move (fun _ h => h) (fun b o u hb hc => set4_cell (by have := HF.out b hb; have := HW.out.2; omega) hc) _ _
    · exact Below.set4 H3.out (by have := HW.out.2; omega)
end Go.Proofs.YteklhipcojioaaaDoor
