/-
  The document's tree in memory: a row of keys and numbers; where a key is.
-/
import Derived.Test.YteklhipcojioaaaDoorZOrdPlain
import Derived.Test.YteklhipcojioaaaDoorZOrdRef
import Derived.Test.YteklhipcojioaaaDoorZKitRow
import Derived.Test.YteklhipcojioaaaDoorZTermClone
import Derived.Deep.Cut
import Derived.Deep.RegionWith
import Derived.Deep.LoopGhost
namespace Go.Proofs.YteklhipcojioaaaDoor
open Go.RowKit Go.Deep Go.Maps Go.WideShapes

/-- A key's four cells, and its number. -/
structure Hdr where
  k : Int
  n : Int
  s : ByteArray
  a : Option Addr
  m : Nat
  c : Nat
  num : Int
def Hdr.tv (h : Hdr) : Value := .agg #[.int .i64 h.k, .int .i64 h.n, .string h.s, .slice h.a h.m h.c]
theorem hd_one : ∀ (h : Hdr) (u : Value), u ∈ [Value.int .i64 h.k, .int .i64 h.n, .string h.s, .slice h.a h.m h.c, .int .i64 h.num] → u.oneCell' = true := fun h u hu => by
  simp only [List.mem_cons, List.not_mem_nil, or_false] at hu
  rcases hu with rfl | rfl | rfl | rfl | rfl <;> rfl
def hdS : Srt Hdr := { t := 73, st := 26, k := 5, enc := fun h => [.int .i64 h.k, .int .i64 h.n, .string h.s, .slice h.a h.m h.c, .int .i64 h.num], z := .agg #[.int .i64 0, .int .i64 0, .string ByteArray.empty, .slice none 0 0, .int .i64 0], bytes := 64, und := Tryd.underlying26, info := by kernel_rfl, zc := rfl, pos := by decide, few := by decide, len := fun _ => rfl, one := hd_one }
/-- The document's tree: its box at q, its row v, of headers hs; the keys' parts in blocks of F, its own memory in S. -/
structure RtS (w : World) (q : Nat) (v : Value) (hs : List Hdr) (L : List Nd) (F S : Nat → Prop) : Prop where
  box : w.heap[q]? = some (.cells #[v] 28)
  row : Ow hdS w v hs
  len : hs.length = L.length
  keys : ∀ (i : Nat) (h : i < hs.length) (h' : i < L.length), Lies w F L[i].1 hs[i].tv ∧ hs[i].num = L[i].2
  sq : S q
  sv : ∀ g, v.ownBlock = some g → S g ∧ g ≠ q
  lt : ∀ k, S k → k < w.heap.size
  apart : ∀ b, F b → ¬ S b
def Rt (w : World) (q : Nat) (L : List Nd) (F S : Nat → Prop) : Prop := ∃ v hs, RtS w q v hs L F S
section
variable {w w' : World} {q : Nat} {v : Value} {hs : List Hdr} {L : List Nd} {F S : Nat → Prop}
theorem RtS.kept {T : Nat → Prop} (h : RtS w q v hs L F S) (ho : Only T w w') (hT : ∀ k, S k ∨ F k → ¬ T k) : RtS w' q v hs L F S :=
  ⟨ho.box h.box (hT q (Or.inl h.sq)), h.row.kept ho (fun g hg => hT g (Or.inl (h.sv g hg).1)), h.len, fun i h1 h2 => ⟨(h.keys i h1 h2).1.move (fun _ h => h) (fun b _ _ hb hc => ho.cellS (hT b (Or.inr hb)) hc) _ _, (h.keys i h1 h2).2⟩, h.sq, h.sv, fun k hk => Nat.lt_of_lt_of_le (h.lt k hk) ho.size, h.apart⟩
theorem RtS.up (h : RtS w q v hs L F S) (hb : Below w.heap.size w w') : RtS w' q v hs L F S :=
  ⟨(Only.up (S := fun _ => False) hb).box h.box (fun f => f), h.row.up hb, h.len, fun i h1 h2 => ⟨(h.keys i h1 h2).1.below hb, (h.keys i h1 h2).2⟩, h.sq, h.sv, fun k hk => Nat.lt_of_lt_of_le (h.lt k hk) hb.size, h.apart⟩
theorem Rt.up (h : Rt w q L F S) (hb : Below w.heap.size w w') : Rt w' q L F S := let ⟨v, hs, h⟩ := h; ⟨v, hs, h.up hb⟩
theorem Rt.kept {T : Nat → Prop} (h : Rt w q L F S) (ho : Only T w w') (hT : ∀ k, S k ∨ F k → ¬ T k) : Rt w' q L F S := let ⟨v, hs, h⟩ := h; ⟨v, hs, h.kept ho hT⟩
theorem RtS.cells (h : RtS w q v hs L F S) : w.cell? ⟨q, 0, none⟩ = some v ∧ w.frozen? ⟨q, 0, none⟩ = false := by
  have h' := h.box
  simp [World.cell?, World.frozen?, h']
theorem RtS.slice (h : RtS w q v hs L F S) : ∃ a cap, v = .slice a L.length cap ∧ L.length ≤ cap ∧ cap ≤ maxLen := by
  obtain ⟨a, cap, e, h1, h2, _⟩ := h.row.cells
  exact ⟨a, cap, by rw [e, h.len], by rw [← h.len]; exact h1, h2⟩
theorem RtS.at_ (h : RtS w q v hs L F S) {i : Nat} (hi : i < L.length) : ∃ g cap, ∃ x : Hdr, v = .slice (some ⟨g, 0, none⟩) L.length cap ∧ L.length ≤ cap ∧ w.cell? ⟨g, i * 5, none⟩ = some (.int .i64 x.k) ∧ w.cell? ⟨g, i * 5 + 1, none⟩ = some (.int .i64 x.n) ∧ w.cell? ⟨g, i * 5 + 2, none⟩ = some (.string x.s) ∧
    w.cell? ⟨g, i * 5 + 3, none⟩ = some (.slice x.a x.m x.c) ∧ w.cell? ⟨g, i * 5 + 4, none⟩ = some (.int .i64 L[i].2) ∧ Lies w F L[i].1 x.tv := by
  have hil : i < hs.length := by rw [h.len]; exact hi
  obtain ⟨g, cap, rfl, h1, _⟩ := h.row.some_ (by omega)
  have hx := List.getElem?_eq_getElem hil
  obtain ⟨k1, k2⟩ := h.keys i hil hi
  have c4 := h.row.cel hx (j := 4) rfl
  rw [k2] at c4
  exact ⟨g, cap, hs[i], by rw [h.len], by rw [← h.len]; exact h1, h.row.cel hx (j := 0) rfl, h.row.cel hx (j := 1) rfl, h.row.cel hx (j := 2) rfl, h.row.cel hx (j := 3) rfl, c4, k1⟩
end

set_option maxHeartbeats 4000000 in
set_option maxRecDepth 100000 in
theorem atR11_any (q : Nat) (L : List Nd) (F S F' : Nat → Prop) (T : Tm) (kv : Value) (w : World) (h : Rt w q L F S) (hk : Lies w F' T kv) (hL : L.length ≤ 1000000) :
    Calls Tryd.prog 65 #[.pointer (some ⟨q, 0, none⟩), kv] w fun e w' => e = .returned (.tuple #[.int .i64 (atN L T), .bool (isN L T)]) ∧ Below w.heap.size w w' := by
  obtain ⟨kk, kn, ks, ka, km, kc, rfl⟩ := hk.agg
  obtain ⟨v, hs, h⟩ := h
  obtain ⟨c0, _⟩ := h.cells
  obtain ⟨va, vc, rfl, _, _⟩ := h.slice
  obtain ⟨nb, hnb⟩ : ∃ nb, w.heap.size = nb := ⟨_, rfl⟩
  obtain ⟨W1, hW1⟩ : ∃ W1, w.alloc (.cells #[.int .i64 kk, .int .i64 kn, .string ks, .slice ka km kc] 32) = W1 := ⟨_, rfl⟩
  have hu : Up w W1 := by rw [← hW1]; exact (Up.refl w).alloc
  have hcell : ∀ j, W1.cell? ⟨nb, j, none⟩ = (#[Value.int .i64 kk, .int .i64 kn, .string ks, .slice ka km kc] : Array Value)[j]? := fun j => by rw [← hW1, ← hnb]; exact new_cell _ _ _ j
  have b0 := hcell 0
  have b1 := hcell 1
  have b2 := hcell 2
  have b3 := hcell 3
  simp only [List.getElem?_toArray, List.getElem?_cons_zero, List.getElem?_cons_succ] at b0 b1 b2 b3
  have HR := Hid.mk (fun (W : World) (hW : Below w.heap.size w W) => h.up hW)
  have HK := Hid.mk (fun (W : World) (hW : Below w.heap.size w W) => hk.below hW)
  have HU := Hid.mk hu.out
  replace c0 := cell_below hu.out _ _ _ c0
  have HW := Hid.mk (And.intro hW1 hnb)
  have HLL := Hid.mk hL
  clear h hk hu hcell hL hnb hW1
  go_enter Tryd.func65, Tryd.ntmps65
  go_upto_region 1 with fail
  rw [HW.out.1, HW.out.2]
  go_wp2
  go_loopw [6] (fun ii wr => ∃ i : Nat, i ≤ L.length ∧ i ≤ atN L T ∧ ii = .int .i64 i ∧ Hid (Below W1.heap.size W1 wr)) (fun ii _ => L.length - (intOf ii).toNat)
  case atStart => exact ⟨0, Nat.zero_le _, Nat.zero_le _, rfl, Hid.mk (Below.refl _ _)⟩
  case round =>
    obtain ⟨i, hi, hia, rfl, hB⟩ := hrel
    have hLb := HLL.out
    have e0 := cell_below hB.out _ _ _ c0
    have d0 := cell_below hB.out _ _ _ b0
    have d1 := cell_below hB.out _ _ _ b1
    have d2 := cell_below hB.out _ _ _ b2
    have d3 := cell_below hB.out _ _ _ b3
    by_cases hlt : i < L.length
    · obtain ⟨g, cap', x, hv, _, y0, y1, y2, y3, y4, hly⟩ := (HR.out _ (HU.out.trans (hB.out.mono HU.out.size))).at_ hlt
      simp only [Value.slice.injEq, true_and] at hv
      obtain ⟨rfl, rfl⟩ := hv
      obtain ⟨xk, xn, xs, xa, xm, xc, xnum⟩ := x
      simp only at y0 y1 y2 y3
      have hli : (i : Int) < L.length := by omega
      have HC := Hid.mk (fun (W : World) (hW : Below wr.heap.size wr W) => refcompare_any _ _ _ _ _ _ W (hly.below hW) (HK.out W ((HU.out.trans (hB.out.mono HU.out.size)).trans (hW.mono (HU.out.trans (hB.out.mono HU.out.size)).size))))
      have hge := fun (e : i = atN L T) => atN_ge L T (e ▸ hlt)
      have hlt' := fun (e : i < atN L T) => atN_lt L T i e hlt
      obtain ⟨C, hC⟩ : ∃ C, (L[i]'hlt).1.cmp T = C := ⟨_, rfl⟩
      rw [hC] at HC hlt'
      change Hid (∀ W, Below wr.heap.size wr W → Calls Tryd.prog 79 #[.agg #[.int .i64 xk, .int .i64 xn, .string xs, .slice xa xm xc], .agg #[.int .i64 kk, .int .i64 kn, .string ks, .slice ka km kc]] W fun e w' => e = .returned (.int .i64 C) ∧ Below W.heap.size W w') at HC
      have HI := Hid.mk hlt
      by_cases hc : C < 0
      · have hia1 : i + 1 ≤ atN L T := by
          rcases Nat.lt_or_eq_of_le hia with e | e
          · exact e
          · exfalso
            subst e
            exact hge rfl (hC ▸ hc)
        have HIA := Hid.mk hia1
        have hwi : IntKind.i64.wrap ((i : Int) + 1) = ((i + 1 : Nat) : Int) := by rw [wrap_id (by omega) (by omega)]; omega
        clear y4 hlt hge hlt' hC hly hia1
        go_upto_region 2 with fail
        refine region_up (W := wr) (by kernel_rfl) (by kernel_rfl) (Up.refl _) ?_
        refine quiet_value (v := .int .i64 i) rfl (fun _ _ => rfl) ?_
        simp only [Act.put, List.setIfInBounds_toArray, List.set_cons_zero, List.set_cons_succ]
        refine quiet_value (v := .pointer (some ⟨q, 0, none⟩)) rfl (fun _ _ => rfl) ?_
        simp only [Act.put, List.setIfInBounds_toArray, List.set_cons_zero, List.set_cons_succ]
        refine quiet_value (v := .pointer (some ⟨q, 0, none⟩)) rfl (fun _ _ => (by go_simp)) ?_
        simp only [Act.put, List.setIfInBounds_toArray, List.set_cons_zero, List.set_cons_succ]
        refine quiet_value (v := .pointer (some ⟨q, 0, none⟩)) rfl (fun _ _ => (by go_simp)) ?_
        simp only [Act.put, List.setIfInBounds_toArray, List.set_cons_zero, List.set_cons_succ]
        refine quiet_value (v := .slice (some ⟨g, 0, none⟩) L.length vc) rfl (fun W h => (by have u0 := cell_below h.out _ _ _ e0; go_simp)) ?_
        simp only [Act.put, List.setIfInBounds_toArray, List.set_cons_zero, List.set_cons_succ]
        refine quiet_value (v := .int .i64 L.length) rfl (fun _ _ => (by go_simp)) ?_
        simp only [Act.put, List.setIfInBounds_toArray, List.set_cons_zero, List.set_cons_succ]
        refine quiet_value (v := .bool true) rfl (fun _ _ => (by go_simp)) ?_
        simp only [Act.put, List.setIfInBounds_toArray, List.set_cons_zero, List.set_cons_succ]
        refine quiet_value (v := .bool true) rfl (fun _ _ => rfl) ?_
        simp only [Act.put, List.setIfInBounds_toArray, List.set_cons_zero, List.set_cons_succ]
        refine quiet_value (v := .pointer (some ⟨q, 0, none⟩)) rfl (fun _ _ => rfl) ?_
        simp only [Act.put, List.setIfInBounds_toArray, List.set_cons_zero, List.set_cons_succ]
        refine quiet_value (v := .pointer (some ⟨q, 0, none⟩)) rfl (fun _ _ => (by go_simp)) ?_
        simp only [Act.put, List.setIfInBounds_toArray, List.set_cons_zero, List.set_cons_succ]
        refine quiet_value (v := .pointer (some ⟨q, 0, none⟩)) rfl (fun _ _ => (by go_simp)) ?_
        simp only [Act.put, List.setIfInBounds_toArray, List.set_cons_zero, List.set_cons_succ]
        refine quiet_value (v := .slice (some ⟨g, 0, none⟩) L.length vc) rfl (fun W h => (by have u0 := cell_below h.out _ _ _ e0; go_simp)) ?_
        simp only [Act.put, List.setIfInBounds_toArray, List.set_cons_zero, List.set_cons_succ]
        refine quiet_value (v := .int .i64 i) rfl (fun _ _ => rfl) ?_
        simp only [Act.put, List.setIfInBounds_toArray, List.set_cons_zero, List.set_cons_succ]
        refine quiet_value (v := .pointer (some ⟨g, i * 5, none⟩)) rfl (fun _ _ => (by go_simp)) ?_
        simp only [Act.put, List.setIfInBounds_toArray, List.set_cons_zero, List.set_cons_succ]
        refine quiet_value (v := .pointer (some ⟨g, i * 5, none⟩)) rfl (fun _ _ => (by go_simp)) ?_
        simp only [Act.put, List.setIfInBounds_toArray, List.set_cons_zero, List.set_cons_succ]
        refine quiet_value (v := .agg #[.int .i64 xk, .int .i64 xn, .string xs, .slice xa xm xc]) rfl (fun W h => (by have u0 := cell_below h.out _ _ _ y0; have u1 := cell_below h.out _ _ _ y1; have u2 := cell_below h.out _ _ _ y2; have u3 := cell_below h.out _ _ _ y3; go_simp)) ?_
        simp only [Act.put, List.setIfInBounds_toArray, List.set_cons_zero, List.set_cons_succ]
        refine quiet_value (v := .agg #[.int .i64 kk, .int .i64 kn, .string ks, .slice ka km kc]) rfl (fun W h => (by have u0 := cell_below h.out _ _ _ d0; have u1 := cell_below h.out _ _ _ d1; have u2 := cell_below h.out _ _ _ d2; have u3 := cell_below h.out _ _ _ d3; go_simp)) ?_
        simp only [Act.put, List.setIfInBounds_toArray, List.set_cons_zero, List.set_cons_succ]
        refine quiet_call (v := .int .i64 C) rfl (fun W => (by go_simp)) (fun W h => (HC.out W h.out).mono fun e w' ⟨he, hb⟩ => ⟨he, h.call hb⟩) ?_
        simp only [Act.put, List.setIfInBounds_toArray, List.set_cons_zero, List.set_cons_succ]
        refine quiet_value (v := .bool true) rfl (fun _ _ => (by go_simp)) ?_
        simp only [Act.put, List.setIfInBounds_toArray, List.set_cons_zero, List.set_cons_succ]
        refine quiet_value (v := .bool true) rfl (fun _ _ => rfl) ?_
        simp only [Act.put, List.setIfInBounds_toArray, List.set_cons_zero, List.set_cons_succ]
        refine quiet_nil ?_
        intro w2 hw2
        have HB2 := Hid.mk (hB.out.trans (hw2.out.mono hB.out.size))
        clear hw2 e0 d0 d1 d2 d3 y0 y1 y2 y3
        go_wp2
        go_roundw
        case rel => exact ⟨i + 1, HI.out, HIA.out, by first | rfl | go_num, HB2⟩
        case measure => have h1 : i < L.length := HI.out; simp [intOf]; omega
      · have hie : i = atN L T := by
          rcases Nat.lt_or_eq_of_le hia with e | e
          · exact absurd (hlt' e) hc
          · exact e
        have hisv : isN L T = decide (C = 0) := by
          unfold isN
          rw [← hie, List.getElem?_eq_getElem hlt]
          show decide _ = decide _
          rw [hC]
        have HIE := Hid.mk (And.intro hie hisv)
        clear y4 hlt hge hlt' hly hie hisv hC
        go_upto_region 2 with fail
        refine region_up (W := wr) (by kernel_rfl) (by kernel_rfl) (Up.refl _) ?_
        refine quiet_value (v := .int .i64 i) rfl (fun _ _ => rfl) ?_
        simp only [Act.put, List.setIfInBounds_toArray, List.set_cons_zero, List.set_cons_succ]
        refine quiet_value (v := .pointer (some ⟨q, 0, none⟩)) rfl (fun _ _ => rfl) ?_
        simp only [Act.put, List.setIfInBounds_toArray, List.set_cons_zero, List.set_cons_succ]
        refine quiet_value (v := .pointer (some ⟨q, 0, none⟩)) rfl (fun _ _ => (by go_simp)) ?_
        simp only [Act.put, List.setIfInBounds_toArray, List.set_cons_zero, List.set_cons_succ]
        refine quiet_value (v := .pointer (some ⟨q, 0, none⟩)) rfl (fun _ _ => (by go_simp)) ?_
        simp only [Act.put, List.setIfInBounds_toArray, List.set_cons_zero, List.set_cons_succ]
        refine quiet_value (v := .slice (some ⟨g, 0, none⟩) L.length vc) rfl (fun W h => (by have u0 := cell_below h.out _ _ _ e0; go_simp)) ?_
        simp only [Act.put, List.setIfInBounds_toArray, List.set_cons_zero, List.set_cons_succ]
        refine quiet_value (v := .int .i64 L.length) rfl (fun _ _ => (by go_simp)) ?_
        simp only [Act.put, List.setIfInBounds_toArray, List.set_cons_zero, List.set_cons_succ]
        refine quiet_value (v := .bool true) rfl (fun _ _ => (by go_simp)) ?_
        simp only [Act.put, List.setIfInBounds_toArray, List.set_cons_zero, List.set_cons_succ]
        refine quiet_value (v := .bool true) rfl (fun _ _ => rfl) ?_
        simp only [Act.put, List.setIfInBounds_toArray, List.set_cons_zero, List.set_cons_succ]
        refine quiet_value (v := .pointer (some ⟨q, 0, none⟩)) rfl (fun _ _ => rfl) ?_
        simp only [Act.put, List.setIfInBounds_toArray, List.set_cons_zero, List.set_cons_succ]
        refine quiet_value (v := .pointer (some ⟨q, 0, none⟩)) rfl (fun _ _ => (by go_simp)) ?_
        simp only [Act.put, List.setIfInBounds_toArray, List.set_cons_zero, List.set_cons_succ]
        refine quiet_value (v := .pointer (some ⟨q, 0, none⟩)) rfl (fun _ _ => (by go_simp)) ?_
        simp only [Act.put, List.setIfInBounds_toArray, List.set_cons_zero, List.set_cons_succ]
        refine quiet_value (v := .slice (some ⟨g, 0, none⟩) L.length vc) rfl (fun W h => (by have u0 := cell_below h.out _ _ _ e0; go_simp)) ?_
        simp only [Act.put, List.setIfInBounds_toArray, List.set_cons_zero, List.set_cons_succ]
        refine quiet_value (v := .int .i64 i) rfl (fun _ _ => rfl) ?_
        simp only [Act.put, List.setIfInBounds_toArray, List.set_cons_zero, List.set_cons_succ]
        refine quiet_value (v := .pointer (some ⟨g, i * 5, none⟩)) rfl (fun _ _ => (by go_simp)) ?_
        simp only [Act.put, List.setIfInBounds_toArray, List.set_cons_zero, List.set_cons_succ]
        refine quiet_value (v := .pointer (some ⟨g, i * 5, none⟩)) rfl (fun _ _ => (by go_simp)) ?_
        simp only [Act.put, List.setIfInBounds_toArray, List.set_cons_zero, List.set_cons_succ]
        refine quiet_value (v := .agg #[.int .i64 xk, .int .i64 xn, .string xs, .slice xa xm xc]) rfl (fun W h => (by have u0 := cell_below h.out _ _ _ y0; have u1 := cell_below h.out _ _ _ y1; have u2 := cell_below h.out _ _ _ y2; have u3 := cell_below h.out _ _ _ y3; go_simp)) ?_
        simp only [Act.put, List.setIfInBounds_toArray, List.set_cons_zero, List.set_cons_succ]
        refine quiet_value (v := .agg #[.int .i64 kk, .int .i64 kn, .string ks, .slice ka km kc]) rfl (fun W h => (by have u0 := cell_below h.out _ _ _ d0; have u1 := cell_below h.out _ _ _ d1; have u2 := cell_below h.out _ _ _ d2; have u3 := cell_below h.out _ _ _ d3; go_simp)) ?_
        simp only [Act.put, List.setIfInBounds_toArray, List.set_cons_zero, List.set_cons_succ]
        refine quiet_call (v := .int .i64 C) rfl (fun W => (by go_simp)) (fun W h => (HC.out W h.out).mono fun e w' ⟨he, hb⟩ => ⟨he, h.call hb⟩) ?_
        simp only [Act.put, List.setIfInBounds_toArray, List.set_cons_zero, List.set_cons_succ]
        refine quiet_value (v := .bool false) rfl (fun _ _ => (by go_simp)) ?_
        simp only [Act.put, List.setIfInBounds_toArray, List.set_cons_zero, List.set_cons_succ]
        refine quiet_value (v := .bool false) rfl (fun _ _ => rfl) ?_
        simp only [Act.put, List.setIfInBounds_toArray, List.set_cons_zero, List.set_cons_succ]
        refine quiet_nil ?_
        intro w3 hw3
        have HW3 := Hid.mk ((HU.out.trans (hB.out.mono HU.out.size)).trans (hw3.out.mono (HU.out.trans (hB.out.mono HU.out.size)).size))
        replace HC := Hid.mk (fun (W : World) (hW : Below w3.heap.size w3 W) => HC.out W (hw3.out.trans (hW.mono hw3.out.size)))
        replace e0 := cell_below hw3.out _ _ _ e0
        replace d0 := cell_below hw3.out _ _ _ d0
        replace d1 := cell_below hw3.out _ _ _ d1
        replace d2 := cell_below hw3.out _ _ _ d2
        replace d3 := cell_below hw3.out _ _ _ d3
        replace y0 := cell_below hw3.out _ _ _ y0
        replace y1 := cell_below hw3.out _ _ _ y1
        replace y2 := cell_below hw3.out _ _ _ y2
        replace y3 := cell_below hw3.out _ _ _ y3
        clear hw3
        by_cases hz : C = 0
        · subst hz
          go_upto_region 4 with fail
          refine region_up (W := w3) (by kernel_rfl) (by kernel_rfl) (Up.refl _) ?_
          refine quiet_value (v := .int .i64 i) rfl (fun _ _ => rfl) ?_
          simp only [Act.put, List.setIfInBounds_toArray, List.set_cons_zero, List.set_cons_succ]
          refine quiet_value (v := .int .i64 i) rfl (fun _ _ => rfl) ?_
          simp only [Act.put, List.setIfInBounds_toArray, List.set_cons_zero, List.set_cons_succ]
          refine quiet_value (v := .pointer (some ⟨q, 0, none⟩)) rfl (fun _ _ => rfl) ?_
          simp only [Act.put, List.setIfInBounds_toArray, List.set_cons_zero, List.set_cons_succ]
          refine quiet_value (v := .pointer (some ⟨q, 0, none⟩)) rfl (fun _ _ => (by go_simp)) ?_
          simp only [Act.put, List.setIfInBounds_toArray, List.set_cons_zero, List.set_cons_succ]
          refine quiet_value (v := .pointer (some ⟨q, 0, none⟩)) rfl (fun _ _ => (by go_simp)) ?_
          simp only [Act.put, List.setIfInBounds_toArray, List.set_cons_zero, List.set_cons_succ]
          refine quiet_value (v := .slice (some ⟨g, 0, none⟩) L.length vc) rfl (fun W h => (by have u0 := cell_below h.out _ _ _ e0; go_simp)) ?_
          simp only [Act.put, List.setIfInBounds_toArray, List.set_cons_zero, List.set_cons_succ]
          refine quiet_value (v := .int .i64 L.length) rfl (fun _ _ => (by go_simp)) ?_
          simp only [Act.put, List.setIfInBounds_toArray, List.set_cons_zero, List.set_cons_succ]
          refine quiet_value (v := .bool true) rfl (fun _ _ => (by go_simp)) ?_
          simp only [Act.put, List.setIfInBounds_toArray, List.set_cons_zero, List.set_cons_succ]
          refine quiet_value (v := .bool true) rfl (fun _ _ => rfl) ?_
          simp only [Act.put, List.setIfInBounds_toArray, List.set_cons_zero, List.set_cons_succ]
          refine quiet_value (v := .pointer (some ⟨q, 0, none⟩)) rfl (fun _ _ => rfl) ?_
          simp only [Act.put, List.setIfInBounds_toArray, List.set_cons_zero, List.set_cons_succ]
          refine quiet_value (v := .pointer (some ⟨q, 0, none⟩)) rfl (fun _ _ => (by go_simp)) ?_
          simp only [Act.put, List.setIfInBounds_toArray, List.set_cons_zero, List.set_cons_succ]
          refine quiet_value (v := .pointer (some ⟨q, 0, none⟩)) rfl (fun _ _ => (by go_simp)) ?_
          simp only [Act.put, List.setIfInBounds_toArray, List.set_cons_zero, List.set_cons_succ]
          refine quiet_value (v := .slice (some ⟨g, 0, none⟩) L.length vc) rfl (fun W h => (by have u0 := cell_below h.out _ _ _ e0; go_simp)) ?_
          simp only [Act.put, List.setIfInBounds_toArray, List.set_cons_zero, List.set_cons_succ]
          refine quiet_value (v := .int .i64 i) rfl (fun _ _ => rfl) ?_
          simp only [Act.put, List.setIfInBounds_toArray, List.set_cons_zero, List.set_cons_succ]
          refine quiet_value (v := .pointer (some ⟨g, i * 5, none⟩)) rfl (fun _ _ => (by go_simp)) ?_
          simp only [Act.put, List.setIfInBounds_toArray, List.set_cons_zero, List.set_cons_succ]
          refine quiet_value (v := .pointer (some ⟨g, i * 5, none⟩)) rfl (fun _ _ => (by go_simp)) ?_
          simp only [Act.put, List.setIfInBounds_toArray, List.set_cons_zero, List.set_cons_succ]
          refine quiet_value (v := .agg #[.int .i64 xk, .int .i64 xn, .string xs, .slice xa xm xc]) rfl (fun W h => (by have u0 := cell_below h.out _ _ _ y0; have u1 := cell_below h.out _ _ _ y1; have u2 := cell_below h.out _ _ _ y2; have u3 := cell_below h.out _ _ _ y3; go_simp)) ?_
          simp only [Act.put, List.setIfInBounds_toArray, List.set_cons_zero, List.set_cons_succ]
          refine quiet_value (v := .agg #[.int .i64 kk, .int .i64 kn, .string ks, .slice ka km kc]) rfl (fun W h => (by have u0 := cell_below h.out _ _ _ d0; have u1 := cell_below h.out _ _ _ d1; have u2 := cell_below h.out _ _ _ d2; have u3 := cell_below h.out _ _ _ d3; go_simp)) ?_
          simp only [Act.put, List.setIfInBounds_toArray, List.set_cons_zero, List.set_cons_succ]
          refine quiet_call (v := .int .i64 0) rfl (fun W => (by go_simp)) (fun W h => (HC.out W h.out).mono fun e w' ⟨he, hb⟩ => ⟨he, h.call hb⟩) ?_
          simp only [Act.put, List.setIfInBounds_toArray, List.set_cons_zero, List.set_cons_succ]
          refine quiet_value (v := .bool true) rfl (fun _ _ => (by go_simp)) ?_
          simp only [Act.put, List.setIfInBounds_toArray, List.set_cons_zero, List.set_cons_succ]
          refine quiet_value (v := .bool true) rfl (fun _ _ => rfl) ?_
          simp only [Act.put, List.setIfInBounds_toArray, List.set_cons_zero, List.set_cons_succ]
          refine quiet_value (v := .int .i64 i) rfl (fun _ _ => rfl) ?_
          simp only [Act.put, List.setIfInBounds_toArray, List.set_cons_zero, List.set_cons_succ]
          refine quiet_value (v := .bool true) rfl (fun _ _ => rfl) ?_
          simp only [Act.put, List.setIfInBounds_toArray, List.set_cons_zero, List.set_cons_succ]
          refine quiet_nil ?_
          intro w4 hw4
          have HW4 := Hid.mk (HW3.out.trans (hw4.out.mono HW3.out.size))
          clear hw4
          go_wp2
          go_ret2
          exact ⟨by rw [HIE.out.2, ← HIE.out.1]; rfl, HW4.out⟩
        · have hzd : decide (C = 0) = false := decide_eq_false hz
          have HZ := Hid.mk hzd
          go_upto_region 4 with fail
          refine region_up (W := w3) (by kernel_rfl) (by kernel_rfl) (Up.refl _) ?_
          refine quiet_value (v := .int .i64 i) rfl (fun _ _ => rfl) ?_
          simp only [Act.put, List.setIfInBounds_toArray, List.set_cons_zero, List.set_cons_succ]
          refine quiet_value (v := .int .i64 i) rfl (fun _ _ => rfl) ?_
          simp only [Act.put, List.setIfInBounds_toArray, List.set_cons_zero, List.set_cons_succ]
          refine quiet_value (v := .pointer (some ⟨q, 0, none⟩)) rfl (fun _ _ => rfl) ?_
          simp only [Act.put, List.setIfInBounds_toArray, List.set_cons_zero, List.set_cons_succ]
          refine quiet_value (v := .pointer (some ⟨q, 0, none⟩)) rfl (fun _ _ => (by go_simp)) ?_
          simp only [Act.put, List.setIfInBounds_toArray, List.set_cons_zero, List.set_cons_succ]
          refine quiet_value (v := .pointer (some ⟨q, 0, none⟩)) rfl (fun _ _ => (by go_simp)) ?_
          simp only [Act.put, List.setIfInBounds_toArray, List.set_cons_zero, List.set_cons_succ]
          refine quiet_value (v := .slice (some ⟨g, 0, none⟩) L.length vc) rfl (fun W h => (by have u0 := cell_below h.out _ _ _ e0; go_simp)) ?_
          simp only [Act.put, List.setIfInBounds_toArray, List.set_cons_zero, List.set_cons_succ]
          refine quiet_value (v := .int .i64 L.length) rfl (fun _ _ => (by go_simp)) ?_
          simp only [Act.put, List.setIfInBounds_toArray, List.set_cons_zero, List.set_cons_succ]
          refine quiet_value (v := .bool true) rfl (fun _ _ => (by go_simp)) ?_
          simp only [Act.put, List.setIfInBounds_toArray, List.set_cons_zero, List.set_cons_succ]
          refine quiet_value (v := .bool true) rfl (fun _ _ => rfl) ?_
          simp only [Act.put, List.setIfInBounds_toArray, List.set_cons_zero, List.set_cons_succ]
          refine quiet_value (v := .pointer (some ⟨q, 0, none⟩)) rfl (fun _ _ => rfl) ?_
          simp only [Act.put, List.setIfInBounds_toArray, List.set_cons_zero, List.set_cons_succ]
          refine quiet_value (v := .pointer (some ⟨q, 0, none⟩)) rfl (fun _ _ => (by go_simp)) ?_
          simp only [Act.put, List.setIfInBounds_toArray, List.set_cons_zero, List.set_cons_succ]
          refine quiet_value (v := .pointer (some ⟨q, 0, none⟩)) rfl (fun _ _ => (by go_simp)) ?_
          simp only [Act.put, List.setIfInBounds_toArray, List.set_cons_zero, List.set_cons_succ]
          refine quiet_value (v := .slice (some ⟨g, 0, none⟩) L.length vc) rfl (fun W h => (by have u0 := cell_below h.out _ _ _ e0; go_simp)) ?_
          simp only [Act.put, List.setIfInBounds_toArray, List.set_cons_zero, List.set_cons_succ]
          refine quiet_value (v := .int .i64 i) rfl (fun _ _ => rfl) ?_
          simp only [Act.put, List.setIfInBounds_toArray, List.set_cons_zero, List.set_cons_succ]
          refine quiet_value (v := .pointer (some ⟨g, i * 5, none⟩)) rfl (fun _ _ => (by go_simp)) ?_
          simp only [Act.put, List.setIfInBounds_toArray, List.set_cons_zero, List.set_cons_succ]
          refine quiet_value (v := .pointer (some ⟨g, i * 5, none⟩)) rfl (fun _ _ => (by go_simp)) ?_
          simp only [Act.put, List.setIfInBounds_toArray, List.set_cons_zero, List.set_cons_succ]
          refine quiet_value (v := .agg #[.int .i64 xk, .int .i64 xn, .string xs, .slice xa xm xc]) rfl (fun W h => (by have u0 := cell_below h.out _ _ _ y0; have u1 := cell_below h.out _ _ _ y1; have u2 := cell_below h.out _ _ _ y2; have u3 := cell_below h.out _ _ _ y3; go_simp)) ?_
          simp only [Act.put, List.setIfInBounds_toArray, List.set_cons_zero, List.set_cons_succ]
          refine quiet_value (v := .agg #[.int .i64 kk, .int .i64 kn, .string ks, .slice ka km kc]) rfl (fun W h => (by have u0 := cell_below h.out _ _ _ d0; have u1 := cell_below h.out _ _ _ d1; have u2 := cell_below h.out _ _ _ d2; have u3 := cell_below h.out _ _ _ d3; go_simp)) ?_
          simp only [Act.put, List.setIfInBounds_toArray, List.set_cons_zero, List.set_cons_succ]
          refine quiet_call (v := .int .i64 C) rfl (fun W => (by go_simp)) (fun W h => (HC.out W h.out).mono fun e w' ⟨he, hb⟩ => ⟨he, h.call hb⟩) ?_
          simp only [Act.put, List.setIfInBounds_toArray, List.set_cons_zero, List.set_cons_succ]
          refine quiet_value (v := .bool false) rfl (fun _ _ => (by go_simp)) ?_
          simp only [Act.put, List.setIfInBounds_toArray, List.set_cons_zero, List.set_cons_succ]
          refine quiet_value (v := .bool false) rfl (fun _ _ => rfl) ?_
          simp only [Act.put, List.setIfInBounds_toArray, List.set_cons_zero, List.set_cons_succ]
          refine quiet_value (v := .int .i64 i) rfl (fun _ _ => rfl) ?_
          simp only [Act.put, List.setIfInBounds_toArray, List.set_cons_zero, List.set_cons_succ]
          refine quiet_value (v := .bool false) rfl (fun _ _ => rfl) ?_
          simp only [Act.put, List.setIfInBounds_toArray, List.set_cons_zero, List.set_cons_succ]
          refine quiet_nil ?_
          intro w4 hw4
          have HW4 := Hid.mk (HW3.out.trans (hw4.out.mono HW3.out.size))
          clear hw4
          go_wp2
          go_ret2
          exact ⟨by rw [HIE.out.2, ← HIE.out.1, HZ.out]; rfl, HW4.out⟩
    · have hie : i = L.length := by omega
      have hat : atN L T = i := by have := atN_le L T; omega
      have hisv : isN L T = false := by
        unfold isN
        rw [hat, List.getElem?_eq_none (by omega)]
      have HIE := Hid.mk (And.intro hat hisv)
      subst hie
      clear hlt hat hisv
      go_upto_region 2 with fail
      refine region_up (W := wr) (by kernel_rfl) (by kernel_rfl) (Up.refl _) ?_
      refine quiet_value (v := .int .i64 L.length) rfl (fun _ _ => rfl) ?_
      simp only [Act.put, List.setIfInBounds_toArray, List.set_cons_zero, List.set_cons_succ]
      refine quiet_value (v := .pointer (some ⟨q, 0, none⟩)) rfl (fun _ _ => rfl) ?_
      simp only [Act.put, List.setIfInBounds_toArray, List.set_cons_zero, List.set_cons_succ]
      refine quiet_value (v := .pointer (some ⟨q, 0, none⟩)) rfl (fun _ _ => (by go_simp)) ?_
      simp only [Act.put, List.setIfInBounds_toArray, List.set_cons_zero, List.set_cons_succ]
      refine quiet_value (v := .pointer (some ⟨q, 0, none⟩)) rfl (fun _ _ => (by go_simp)) ?_
      simp only [Act.put, List.setIfInBounds_toArray, List.set_cons_zero, List.set_cons_succ]
      refine quiet_value (v := .slice va L.length vc) rfl (fun W h => (by have u0 := cell_below h.out _ _ _ e0; go_simp)) ?_
      simp only [Act.put, List.setIfInBounds_toArray, List.set_cons_zero, List.set_cons_succ]
      refine quiet_value (v := .int .i64 L.length) rfl (fun _ _ => (by go_simp)) ?_
      simp only [Act.put, List.setIfInBounds_toArray, List.set_cons_zero, List.set_cons_succ]
      refine quiet_value (v := .bool false) rfl (fun _ _ => (by go_simp)) ?_
      simp only [Act.put, List.setIfInBounds_toArray, List.set_cons_zero, List.set_cons_succ]
      refine quiet_value (v := .bool false) rfl (fun _ _ => rfl) ?_
      simp only [Act.put, List.setIfInBounds_toArray, List.set_cons_zero, List.set_cons_succ]
      refine quiet_not rfl ?_
      simp only [Act.put, List.setIfInBounds_toArray, List.set_cons_zero, List.set_cons_succ]
      refine quiet_not rfl ?_
      simp only [Act.put, List.setIfInBounds_toArray, List.set_cons_zero, List.set_cons_succ]
      refine quiet_not rfl ?_
      simp only [Act.put, List.setIfInBounds_toArray, List.set_cons_zero, List.set_cons_succ]
      refine quiet_not rfl ?_
      simp only [Act.put, List.setIfInBounds_toArray, List.set_cons_zero, List.set_cons_succ]
      refine quiet_not rfl ?_
      simp only [Act.put, List.setIfInBounds_toArray, List.set_cons_zero, List.set_cons_succ]
      refine quiet_not rfl ?_
      simp only [Act.put, List.setIfInBounds_toArray, List.set_cons_zero, List.set_cons_succ]
      refine quiet_not rfl ?_
      simp only [Act.put, List.setIfInBounds_toArray, List.set_cons_zero, List.set_cons_succ]
      refine quiet_not rfl ?_
      simp only [Act.put, List.setIfInBounds_toArray, List.set_cons_zero, List.set_cons_succ]
      refine quiet_not rfl ?_
      simp only [Act.put, List.setIfInBounds_toArray, List.set_cons_zero, List.set_cons_succ]
      refine quiet_not rfl ?_
      simp only [Act.put, List.setIfInBounds_toArray, List.set_cons_zero, List.set_cons_succ]
      refine quiet_not rfl ?_
      simp only [Act.put, List.setIfInBounds_toArray, List.set_cons_zero, List.set_cons_succ]
      refine quiet_value (v := .bool false) rfl (fun _ _ => rfl) ?_
      simp only [Act.put, List.setIfInBounds_toArray, List.set_cons_zero, List.set_cons_succ]
      refine quiet_nil ?_
      intro w3 hw3
      have HW3 := Hid.mk ((HU.out.trans (hB.out.mono HU.out.size)).trans (hw3.out.mono (HU.out.trans (hB.out.mono HU.out.size)).size))
      replace e0 := cell_below hw3.out _ _ _ e0
      clear hw3
      go_upto_region 4 with fail
      refine region_up (W := w3) (by kernel_rfl) (by kernel_rfl) (Up.refl _) ?_
      refine quiet_value (v := .int .i64 L.length) rfl (fun _ _ => rfl) ?_
      simp only [Act.put, List.setIfInBounds_toArray, List.set_cons_zero, List.set_cons_succ]
      refine quiet_value (v := .int .i64 L.length) rfl (fun _ _ => rfl) ?_
      simp only [Act.put, List.setIfInBounds_toArray, List.set_cons_zero, List.set_cons_succ]
      refine quiet_value (v := .pointer (some ⟨q, 0, none⟩)) rfl (fun _ _ => rfl) ?_
      simp only [Act.put, List.setIfInBounds_toArray, List.set_cons_zero, List.set_cons_succ]
      refine quiet_value (v := .pointer (some ⟨q, 0, none⟩)) rfl (fun _ _ => (by go_simp)) ?_
      simp only [Act.put, List.setIfInBounds_toArray, List.set_cons_zero, List.set_cons_succ]
      refine quiet_value (v := .pointer (some ⟨q, 0, none⟩)) rfl (fun _ _ => (by go_simp)) ?_
      simp only [Act.put, List.setIfInBounds_toArray, List.set_cons_zero, List.set_cons_succ]
      refine quiet_value (v := .slice va L.length vc) rfl (fun W h => (by have u0 := cell_below h.out _ _ _ e0; go_simp)) ?_
      simp only [Act.put, List.setIfInBounds_toArray, List.set_cons_zero, List.set_cons_succ]
      refine quiet_value (v := .int .i64 L.length) rfl (fun _ _ => (by go_simp)) ?_
      simp only [Act.put, List.setIfInBounds_toArray, List.set_cons_zero, List.set_cons_succ]
      refine quiet_value (v := .bool false) rfl (fun _ _ => (by go_simp)) ?_
      simp only [Act.put, List.setIfInBounds_toArray, List.set_cons_zero, List.set_cons_succ]
      refine quiet_value (v := .bool false) rfl (fun _ _ => rfl) ?_
      simp only [Act.put, List.setIfInBounds_toArray, List.set_cons_zero, List.set_cons_succ]
      refine quiet_not rfl ?_
      simp only [Act.put, List.setIfInBounds_toArray, List.set_cons_zero, List.set_cons_succ]
      refine quiet_not rfl ?_
      simp only [Act.put, List.setIfInBounds_toArray, List.set_cons_zero, List.set_cons_succ]
      refine quiet_not rfl ?_
      simp only [Act.put, List.setIfInBounds_toArray, List.set_cons_zero, List.set_cons_succ]
      refine quiet_not rfl ?_
      simp only [Act.put, List.setIfInBounds_toArray, List.set_cons_zero, List.set_cons_succ]
      refine quiet_not rfl ?_
      simp only [Act.put, List.setIfInBounds_toArray, List.set_cons_zero, List.set_cons_succ]
      refine quiet_not rfl ?_
      simp only [Act.put, List.setIfInBounds_toArray, List.set_cons_zero, List.set_cons_succ]
      refine quiet_not rfl ?_
      simp only [Act.put, List.setIfInBounds_toArray, List.set_cons_zero, List.set_cons_succ]
      refine quiet_not rfl ?_
      simp only [Act.put, List.setIfInBounds_toArray, List.set_cons_zero, List.set_cons_succ]
      refine quiet_not rfl ?_
      simp only [Act.put, List.setIfInBounds_toArray, List.set_cons_zero, List.set_cons_succ]
      refine quiet_not rfl ?_
      simp only [Act.put, List.setIfInBounds_toArray, List.set_cons_zero, List.set_cons_succ]
      refine quiet_not rfl ?_
      simp only [Act.put, List.setIfInBounds_toArray, List.set_cons_zero, List.set_cons_succ]
      refine quiet_value (v := .bool false) rfl (fun _ _ => rfl) ?_
      simp only [Act.put, List.setIfInBounds_toArray, List.set_cons_zero, List.set_cons_succ]
      refine quiet_value (v := .int .i64 L.length) rfl (fun _ _ => rfl) ?_
      simp only [Act.put, List.setIfInBounds_toArray, List.set_cons_zero, List.set_cons_succ]
      refine quiet_value (v := .bool false) rfl (fun _ _ => rfl) ?_
      simp only [Act.put, List.setIfInBounds_toArray, List.set_cons_zero, List.set_cons_succ]
      refine quiet_nil ?_
      intro w4 hw4
      have HW4 := Hid.mk (HW3.out.trans (hw4.out.mono HW3.out.size))
      clear hw4
      go_wp2
      go_ret2
      exact ⟨by rw [HIE.out.1, HIE.out.2]; rfl, HW4.out⟩
end Go.Proofs.YteklhipcojioaaaDoor
