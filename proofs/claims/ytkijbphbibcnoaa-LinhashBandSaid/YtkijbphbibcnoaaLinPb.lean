/-
  The program's filter of a chain, as a function to range over; what it hands out.
-/
import Derived.Test.YtkijbphbibcnoaaLinPa
import Derived.Test.YtkijbphbibcnoaaRangeOnly
import Derived.Shelf.AbstractIn
import Derived.Laws.EntriesVeiled
import Derived.BigQuiet
namespace Go.Proofs.Ytkijbphbibcnoaa
open Go.RowKit Go.Deep Go.Maps Go.WideShapes

attribute [local go_sem] Oper.semAt_some

theorem no_fn {F : Fence} : ∀ f : FuncId, (none : Option FuncId) = some f → F.fn f := fun _ hf => by cases hf
def itV (x : It) : Value := .agg #[.int .u32 x.1, .int .i64 x.2]
/-- What is handed out: a place, an item. -/
def encW (x : It × Nat) : Array Value := #[.int .i64 x.2, itV x.1]
/-- The wanted items among the first i, with their places. -/
def wantT (q : It → Bool) (l : List It) (i : Nat) : List (It × Nat) := ((l.take i).zipIdx).filter fun x => q x.1
theorem wantT_zero (q : It → Bool) (l : List It) : wantT q l 0 = [] := by simp [wantT]
theorem wantT_succ (q : It → Bool) {l : List It} {i : Nat} (h : i < l.length) : wantT q l (i + 1) = wantT q l i ++ (if q l[i] then [(l[i], i)] else []) := by
  unfold wantT
  rw [List.take_add_one, List.getElem?_eq_getElem h, Option.toList_some, List.zipIdx_append, List.filter_append]
  congr 1
  have hl : (l.take i).length = i := by rw [List.length_take]; omega
  rw [hl]
  simp [List.filter_cons]
theorem wantT_len (q : It → Bool) (l : List It) (i : Nat) : (wantT q l i).length ≤ i := by
  unfold wantT
  have h1 := List.length_filter_le (fun x : It × Nat => q x.1) ((l.take i).zipIdx)
  rw [List.length_zipIdx, List.length_take] at h1
  omega
theorem wantT_all (q : It → Bool) (l : List It) (n : Nat) (h : l.length ≤ n) : (wantT q l n).map Prod.fst = l.filter q := by
  unfold wantT
  rw [List.take_of_length_le h]
  have := List.filter_map (f := fun x : It × Nat => x.1) (p := q) (l := l.zipIdx)
  rw [List.zipIdx_map_fst] at this
  exact this.symm
theorem wantT_pre (q : It → Bool) (l : List It) {i j : Nat} (h : i ≤ j) : wantT q l i <+: wantT q l j := by
  induction j with
  | zero => obtain rfl : i = 0 := by omega
            exact List.prefix_refl _
  | succ j ih =>
    by_cases e : i = j + 1
    · subst e; exact List.prefix_refl _
    · refine (ih (by omega)).trans ?_
      by_cases hj : j < l.length
      · rw [wantT_succ q hj]
        exact List.prefix_append _ _
      · unfold wantT
        rw [List.take_of_length_le (by omega), List.take_of_length_le (by omega)]
        exact List.prefix_refl _

/-- What a function of items answers, wherever no block of Pr has turned. -/
def Tests (Pr : Nat → Prop) (gf : Nat) (lb : Array Value) (q : It → Bool) (l : List It) (w : World) : Prop :=
  ∀ (W : World) (x : It), x ∈ l → Only (fun k => ¬ Pr k) w W → Calls Try.prog gf (#[itV x] ++ lb) W fun e W' => e = .returned (.bool (q x)) ∧ Below W.heap.size W W'

theorem wanted_any (a : Option Addr) (len cap gf : Nat) (lb : Array Value) (w : World) :
    Calls Try.prog 40 #[.slice a len cap, .func (.func gf) #[] lb] w fun e w' =>
      e = .returned (.func (.func 49) #[] #[.pointer (some ⟨w.heap.size, 0, none⟩), .pointer (some ⟨w.heap.size + 1, 0, none⟩)]) ∧
      w' = (w.alloc (.cells #[.slice a len cap] 43)).alloc (.cells #[.func (.func gf) #[] lb] 72) := by
  have hmf : ∀ (fn : Fn) (first cap : Array Value) (w : World), (Instr.makeFunc fn first cap).run Try.prog w = .ok (.func fn first cap) w := fun _ _ _ _ => rfl
  go_enter Try.func40, Try.ntmps40
  go_wp2
  go_ret
  exact ⟨by simp, rfl⟩

set_option maxHeartbeats 4000000 in
set_option maxRecDepth 100000 in
theorem wanted_yields (n : Nat) (Pr : Nat → Prop) (gf : Nat) (lb : Array Value) (q : It → Bool) (l : List It) (a : Option Addr) (cap bc bw : Nat) (w : World)
    (hbc : w.heap[bc]? = some (.cells #[.slice a l.length cap] 43)) (hbw : w.heap[bw]? = some (.cells #[.func (.func gf) #[] lb] 72)) (hPw : Pr bw)
    (hcel : CelT w l a) (hPa : ∀ ad, a = some ad → Pr ad.block) (hl : l.length ≤ 1000000) (eg : ∀ args w, (callFunc gf args).run Try.prog w = .ok (.enter gf args) w) (hq : Tests Pr gf lb q l w) :
    YieldsO Pr Fence.wide n Try.prog 49 #[.pointer (some ⟨bc, 0, none⟩), .pointer (some ⟨bw, 0, none⟩)] encW (fun xs => xs = wantT q l l.length) (fun pre => pre <+: wantT q l l.length) l.length w := by
  intro L J Jx W hW hJ hJx hY h0
  have kc : W.cell? ⟨bc, 0, none⟩ = some (.slice a l.length cap) := by
    have := (Only.up (S := fun _ => False) hW).box hbc (fun f => f)
    simp [World.cell?, this]
  have HBW := Hid.mk (fun (W' : World) (h : Only (fun k => ¬ Pr k) W W') => show W'.cell? ⟨bw, 0, none⟩ = some (.func (.func gf) #[] lb) from by
    have := h.box ((Only.up (S := fun _ => False) hW).box hbw (fun f => f)) (fun h => h hPw)
    simp [World.cell?, this])
  have HCEL := Hid.mk (fun (W' : World) (h : Only (fun k => ¬ Pr k) W W') => show CelT W' l a from (hcel.up hW).kept h (fun ad e h => h (hPa ad e)))
  have HQ := Hid.mk (fun (W' : World) (h : Only (fun k => ¬ Pr k) W W') (x : It) (hx : x ∈ l) => hq W' x hx ((Only.up hW).trans h (fun _ h => Or.inl h)))
  have HY := Hid.mk hY
  have HJ := Hid.mk hJ
  have HLN := Hid.mk hl
  clear hbc hbw hcel hPa hq hY hW hl hPw hJ
  refine callsIn_of_wp Try.func49 rfl trivial ?_ rfl
  simp only [Try.ntmps49, List.size_toArray, List.length_cons, List.length_nil, Nat.reduceAdd, Nat.reduceSub, Array.replicate_succ, Array.replicate_zero, List.push_toArray, List.append_toArray, List.nil_append, List.cons_append]
  gi_wp2
  gi_loopw [8] (fun ii wr => ∃ (i : Nat), i ≤ l.length ∧ ii = .int .i64 i ∧ Hid (J (wantT q l i) wr) ∧ Hid (Only (fun k => ¬ Pr k) W wr)) (fun ii _ => l.length - (intOf ii).toNat)
  case atStart => exact ⟨0, Nat.zero_le _, rfl, Hid.mk (by rw [wantT_zero]; exact h0), Hid.mk (Only.refl _ _)⟩
  case round =>
    obtain ⟨i, hi, rfl, hJr, hO⟩ := hrel
    by_cases hlt : i < l.length
    · obtain ⟨b, o, rfl, x0, x1⟩ := CelT.item (HCEL.out wr hO.out) hlt
      have hws := wantT_succ q hlt
      have hwl := wantT_len q l i
      have hwi : IntKind.i64.wrap ((i : Int) + 1) = ((i + 1 : Nat) : Int) := by have := HLN.out; rw [wrap_id (by omega) (by omega)]; omega
      have HL := Hid.mk hlt
      have hil : (i : Int) < l.length := by omega
      have hmem : l[i]'hlt ∈ l := List.getElem_mem hlt
      obtain ⟨X, hX⟩ : ∃ X, l[i]'hlt = X := ⟨_, rfl⟩
      rw [hX] at x0 x1 hws hmem
      -- the item's own block
      obtain ⟨W1, hW1⟩ : ∃ W1, wr.alloc (.cells #[.int .u32 X.1, .int .i64 X.2] 54) = W1 := ⟨_, rfl⟩
      have hb1 : Below wr.heap.size wr W1 := by rw [← hW1]; exact (Up.alloc (Up.refl wr)).out
      have hbx : W1.heap[wr.heap.size]? = some (.cells #[.int .u32 X.1, .int .i64 X.2] 54) := by rw [← hW1]; exact new_block _ _
      have hO1 := hO.out.call hb1
      have kw := HBW.out W1 hO1
      have hc := HQ.out W1 hO1 X hmem
      have q0 : W1.cell? ⟨wr.heap.size, 0, none⟩ = some (.int .u32 X.1) := by simp [World.cell?, hbx]
      have q1 : W1.cell? ⟨wr.heap.size, 1, none⟩ = some (.int .i64 X.2) := by simp [World.cell?, hbx]
      have HB1 := Hid.mk hb1
      have HO1 := Hid.mk hO1
      have HJ1 := Hid.mk (HJ.out _ _ _ hJr.out hb1)
      have HWS := Hid.mk hws
      have HWL := Hid.mk hwl
      clear hX hb1 hO1 hmem hlt hws hwl hbx hi
      cases hqx : q X
      · rw [hqx] at hc HWS
        have hc := Hid.mk hc
        clear hqx
        gi_wp2_with (refine ⟨trivial, (fun h => (by cases h)), ?_⟩; gi_at_fn gf; refine (callsIn_wide.2 hc.out).mono ?_; rintro e W2 ⟨rfl, hb2⟩; have HB2 := Hid.mk hb2; clear hb2)
        refine And.intro no_fn ?_
        gi_wp2
        go_roundw
        case rel => exact ⟨i + 1, HL.out, by first | rfl | go_num, Hid.mk (by rw [HWS.out]; simpa using HJ.out _ _ _ HJ1.out HB2.out), Hid.mk (HO1.out.call HB2.out)⟩
        case measure => have h1 : i < l.length := HL.out; simp [intOf]; omega
      · rw [hqx] at hc HWS
        have hc := Hid.mk hc
        clear hqx
        have HPX := Hid.mk (show wantT q l i ++ [(X, i)] <+: wantT q l l.length from by
          have h1 := wantT_pre q l (i := i + 1) (j := l.length) HL.out
          rw [HWS.out] at h1
          simpa using h1)
        gi_wp2_with (refine ⟨trivial, (fun h => (by cases h)), ?_⟩; gi_at_fn gf; refine (callsIn_wide.2 hc.out).mono ?_; rintro e W2 ⟨rfl, hb2⟩; have r0 := cell_below hb2 _ _ _ q0; have r1 := cell_below hb2 _ _ _ q1; obtain ⟨fn, tmps, assign, body, hy, hR⟩ := HY.out (wantT q l i) (X, i) W2 (HJ.out _ _ _ HJ1.out hb2) (HO1.out.call hb2) HPX.out (by have := HWL.out; have := HL.out; omega); have HO2 := Hid.mk (HO1.out.call hb2); have hR := Hid.mk hR; unfold encW itV at hy; clear hb2 q0 q1)
        refine ⟨fun h => (by cases h), hR.out.mono ?_⟩
        clear hR hy r0 r1
        rintro e W3 (⟨rfl, hJ3, hs3⟩ | ⟨rfl, hx3⟩)
        · have HJ3 := Hid.mk hJ3
          have HO3 := Hid.mk (HO2.out.trans hs3 (fun _ h => Or.inl h))
          clear hJ3 hs3
          gi_wp2
          go_roundw
          case rel => exact ⟨i + 1, HL.out, by first | rfl | go_num, Hid.mk (by rw [HWS.out]; exact HJ3.out), HO3⟩
          case measure => have h1 : i < l.length := HL.out; simp [intOf]; omega
        · have HX3 := Hid.mk hx3
          clear hx3
          gi_wp2
          refine bodyPost_ret (results_none rfl _ _ _) rfl ?_
          exact ⟨⟨_, rfl⟩, .inr ⟨_, HPX.out, HX3.out⟩⟩
    · obtain rfl : i = l.length := by omega
      clear hlt
      have HJ2 := Hid.mk hJr.out
      gi_wp2
      go_end0
      exact ⟨⟨_, rfl⟩, .inl ⟨_, rfl, HJ2.out⟩⟩
end Go.Proofs.Ytkijbphbibcnoaa
