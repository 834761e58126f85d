/-
  slices' CompactFunc at terms that are sorted.
-/
import Derived.Test.YtabcekeeekbdiaaOrdStable
import Derived.Test.YtabcekeeekbdiaaOrdUniqRef
import Derived.Lib.SliceRun
namespace Go.Proofs.Ytabcekeeekbdiaa
open Go.RowKit Go.Deep

/-- Package order's alike, as a value. -/
abbrev alikeV : Value := .func (.func 39) #[] #[]

theorem setCells_block {g : Nat} {t : TypeId} : ∀ (vs : List Value) (o : Nat) (w : World) (cur : Array Value), w.heap[g]? = some (.cells cur t (0, 0)) →
    ∃ cur' : Array Value, (w.setCells g o vs).heap[g]? = some (.cells cur' t (0, 0)) ∧ cur'.size = cur.size ∧ ∀ j, j < o → cur'[j]? = cur[j]? := by
  intro vs
  induction vs with
  | nil => intro o w cur h; exact ⟨cur, h, rfl, fun _ _ => rfl⟩
  | cons v r ih =>
    intro o w cur h
    obtain ⟨cur', h1, h2, h3⟩ := ih (o + 1) (w.setCell ⟨g, o, none⟩ v) (cur.setIfInBounds o v) (by simp [World.setCell, Array.getElem?_modify, h])
    exact ⟨cur', h1, by rw [h2, Array.size_setIfInBounds], fun j hj => by rw [h3 j (by omega), Array.getElem?_setIfInBounds, if_neg (by omega)]⟩
theorem setCells_up {w0 : World} {g : Nat} (hg : w0.heap.size ≤ g) : ∀ (vs : List Value) (o : Nat) (w : World), Up w0 w → Up w0 (w.setCells g o vs) := by
  intro vs
  induction vs with
  | nil => intro o w h; exact h
  | cons v r ih => intro o w h; exact ih (o + 1) _ (Below.setCell (p := ⟨g, o, none⟩) h hg v)
theorem Rw.cut {w0 w : World} {S : Nat → Prop} {g : Nat} {l : List Tm} (h : Rw w0 S g l w) (k : Nat) (vs : List Value) : Rw w0 S g (l.take k) (w.setCells g (k * 4) vs) := by
  obtain ⟨cur, hc, hs, hx⟩ := h.row
  obtain ⟨cur', h1, h2, h3⟩ := setCells_block vs (k * 4) w cur hc
  refine ⟨h.new, setCells_up h.new vs _ _ h.up, cur', h1, by rw [List.length_take]; omega, fun i hi => ?_⟩
  rw [List.length_take] at hi
  obtain ⟨k', n, s, a, m, cap, hL, c0, c1, c2, c3⟩ := hx i (by omega)
  exact ⟨k', n, s, a, m, cap, by rw [List.getElem_take]; exact hL, (h3 _ (by omega)).trans c0, (h3 _ (by omega)).trans c1, (h3 _ (by omega)).trans c2, (h3 _ (by omega)).trans c3⟩
theorem zero_term (w : World) : (zeroValue 24).run Try.prog w = .ok (.agg #[.int .i64 0, .int .i64 0, .string ⟨#[]⟩, .slice none 0 0]) w := by
  go_simp
theorem zero_cells : (Value.agg #[.int .i64 0, .int .i64 0, .string ⟨#[]⟩, .slice none 0 0]).cells = #[.int .i64 0, .int .i64 0, .string ⟨#[]⟩, .slice none 0 0] := by
  go_simp
theorem run_clear_term {w0 w : World} {S : Nat → Prop} {g : Nat} {l : List Tm} (h : Rw w0 S g l w) (k c : Nat) (hk : k < l.length) :
    ∃ vs : List Value, ∀ ty, (Builtin.clear_ #[22] ty #[.slice (some ⟨g, k * 4, none⟩) (l.length - k) c]).run Try.prog w = .ok (.tuple #[]) (w.setCells g (k * 4) vs) := by
  obtain ⟨cur, hc, hs, hx⟩ := h.row
  refine ⟨(Builtin.zeroCells (Value.agg #[.int .i64 0, .int .i64 0, .string ⟨#[]⟩, .slice none 0 0]).cells (l.length - k)).toList, fun ty => ?_⟩
  have hl : (Builtin.zeroCells (Value.agg #[.int .i64 0, .int .i64 0, .string ⟨#[]⟩, .slice none 0 0]).cells (l.length - k)).toList.length = (l.length - k) * 4 := by
    rw [Array.length_toList, size_zeroCells, zero_cells]; rfl
  have hst := run_storeCells_cells (P := Try.prog) g (k * 4) (Builtin.zeroCells (Value.agg #[.int .i64 0, .int .i64 0, .string ⟨#[]⟩, .slice none 0 0]).cells (l.length - k)).toList 0 w
    (fun j hj => by
      rw [cell_of_row w g _ cur _ (0, 0) hc]
      rw [hl] at hj
      rw [Array.getElem?_eq_getElem (by omega)]
      rfl) (fun j hj => by simp [World.frozen?, hc]) (fun v hv => by
      rw [zero_cells] at hv
      simp only [Builtin.zeroCells, Array.toList_map, List.mem_map] at hv
      obtain ⟨i, _, rfl⟩ := hv
      have h4 : i % #[Value.int .i64 0, .int .i64 0, .string ⟨#[]⟩, .slice none 0 0].size = i % 4 := rfl
      rw [h4]
      rcases (by omega : i % 4 = 0 ∨ i % 4 = 1 ∨ i % 4 = 2 ∨ i % 4 = 3) with e | e | e | e <;> rw [e] <;> rfl)
  simp only [Nat.add_zero] at hst
  obtain ⟨m, hm⟩ : ∃ m, l.length - k = m + 1 := ⟨l.length - k - 1, by omega⟩
  rw [hm] at hst ⊢
  simp [Builtin.clear_, run_underlying Try.underlying22, hst]

theorem uniq_keep {l : List Tm} {i : Nat} (h0 : 0 < i) (hi : i < l.length) (b : Bool) (hb : (l[i].cmp (l[i - 1]'(by omega)) == 0) = b) : uniqT (l.take (i + 1)) = uniqT (l.take i) ++ (if b = true then [] else [l[i]]) := by
  rw [uniqT_take l i hi, keep_succ l i h0 hi]
  have h1 := cmp_neg l[i] l[i - 1]
  have : (l[i - 1].cmp l[i] != 0) = !b := by
    rw [← hb, h1]
    generalize l[i].cmp l[i - 1] = x
    by_cases hx : x = 0
    · subst hx; rfl
    · have e1 : (x == 0) = false := by simpa using hx
      have e2 : (-x != 0) = true := by simp; omega
      rw [e1, e2]; rfl
  rw [this]
  cases b <;> rfl
theorem uniq_short {l : List Tm} (h : l.length < 2) : uniqT l = l := by
  match l, h with
  | [], _ => rfl
  | [x], _ => rfl

set_option maxRecDepth 100000 in
set_option maxHeartbeats 4000000 in
theorem compact_any (w0 : World) (S : Nat → Prop) (g cap L : Nat) (l : List Tm) (hl : l.length = L) (_hcap : L ≤ cap) (_hcap2 : cap ≤ 9223372036854775807) (hlen : L ≤ 1000000) (w : World) (h : Rw w0 S g l w) :
    Calls Try.prog 38 #[.slice (some ⟨g, 0, none⟩) L cap, alikeV] w fun e w' => e = .returned (.slice (some ⟨g, 0, none⟩) (uniqT l).length cap) ∧ Rw w0 S g (uniqT l) w' := by
  have h0 := Hid.mk h
  have hll := Hid.mk hl
  clear h
  by_cases h2 : L < 2
  · have hu := Hid.mk (uniq_short (l := l) (by omega))
    have hd : decide ((L : Int) < 2) = true := by simp; omega
    clear hl
    go_enter Try.func38, Try.ntmps38
    go_wp2
    go_ret
    exact ⟨by rw [hu.out, hll.out]; rfl, by rw [hu.out]; exact h0.out⟩
  have hd2 : decide ((L : Int) < 2) = false := by simp; omega
  clear hl
  go_enter Try.func38, Try.ntmps38
  go_wp2
  go_loopw [5] (fun kk wr => ∃ k : Nat, kk = .int .i64 k ∧ 0 < k ∧ k ≤ L ∧ Hid (uniqT (l.take k) = l.take k) ∧ Hid (Rw w0 S g l wr)) (fun kk _ => L - (intOf kk).toNat)
  case atStart => exact ⟨1, rfl, by omega, by omega, Hid.mk (uniq_short (by rw [List.length_take]; omega)), h0⟩
  case round =>
    clear h0
    obtain ⟨k, rfl, hk0, hkL, hun, hrw⟩ := hrel
    by_cases hlt : k < L
    rotate_left
    · have hd : decide ((k : Int) < (L : Int)) = false := by simp; omega
      have hu : Hid (uniqT l = l) := Hid.mk (by have h1 := hun.out; rwa [List.take_of_length_le (by have := hll.out; omega)] at h1)
      go_wp2
      go_ret
      exact ⟨by rw [hu.out, hll.out]; rfl, by rw [hu.out]; exact hrw.out⟩
    have hd : decide ((k : Int) < (L : Int)) = true := by simp; omega
    obtain ⟨p, hp⟩ : ∃ p, k - 1 = p := ⟨_, rfl⟩
    have hkl : k < l.length := by have := hll.out; omega
    have hpl : p < l.length := by omega
    obtain ⟨k2, n2, s2, a2, m2, c2, hly, y0, y1, y2, y3⟩ := hrw.out.at k hkl
    obtain ⟨k1, n1, s1, a1, m1, c1, hlx, x0, x1, x2, x3⟩ := hrw.out.at p hpl
    have hcall := Hid.mk (fun (W : World) (hW : Up wr W) => alike_any l[k] l[p] S S _ _ W ((hrw.out.later hW).is hly) ((hrw.out.later hW).is hlx))
    obtain ⟨z, hz⟩ : ∃ z, (l[k].cmp l[p] == 0) = z := ⟨_, rfl⟩
    rw [hz] at hcall
    have hkeep := Hid.mk (uniq_keep hk0 hkl z (by simp only [hp]; exact hz))
    have wS : IntKind.i64.wrap ((k : Int) - 1) = (p : Int) := by rw [IntKind.wrap_i64]; omega
    have dk : (0 : Int) ≤ (k : Int) := by omega
    have dp : (0 : Int) ≤ (p : Int) := by omega
    have dk' : (k : Int) < (L : Int) := by omega
    have dp' : (p : Int) < (L : Int) := by omega
    have dpn : p < L := by omega
    have hph := Hid.mk hp
    clear hp hz hly hlx
    by_cases hzt : z = true
    rotate_left
    · have hzf : z = false := by simpa using hzt
      subst hzf
      go_upto_region 6 with fail
      refine region_up (W := wr) (by kernel_rfl) (by kernel_rfl) (Up.refl _) ?_
      refine quiet_value (v := alikeV) rfl (fun _ _ => rfl) ?_
      simp only [Act.put, List.setIfInBounds_toArray, List.set_cons_zero, List.set_cons_succ]
      refine quiet_value (v := .slice (some ⟨g, 0, none⟩) L cap) rfl (fun _ _ => rfl) ?_
      simp only [Act.put, List.setIfInBounds_toArray, List.set_cons_zero, List.set_cons_succ]
      refine quiet_value (v := .int .i64 k) rfl (fun _ _ => rfl) ?_
      simp only [Act.put, List.setIfInBounds_toArray, List.set_cons_zero, List.set_cons_succ]
      refine quiet_value (v := .pointer (some ⟨g, k * 4, none⟩)) rfl (fun _ _ => (by go_simp)) ?_
      simp only [Act.put, List.setIfInBounds_toArray, List.set_cons_zero, List.set_cons_succ]
      refine quiet_value (v := .agg #[.int .i64 k2, .int .i64 n2, .string s2, .slice a2 m2 c2]) rfl (fun W h => (by have u0 := cell_below h.out _ _ _ y0; have u1 := cell_below h.out _ _ _ y1; have u2 := cell_below h.out _ _ _ y2; have u3 := cell_below h.out _ _ _ y3; go_simp)) ?_
      simp only [Act.put, List.setIfInBounds_toArray, List.set_cons_zero, List.set_cons_succ]
      refine quiet_value (v := .slice (some ⟨g, 0, none⟩) L cap) rfl (fun _ _ => rfl) ?_
      simp only [Act.put, List.setIfInBounds_toArray, List.set_cons_zero, List.set_cons_succ]
      refine quiet_value (v := .int .i64 k) rfl (fun _ _ => rfl) ?_
      simp only [Act.put, List.setIfInBounds_toArray, List.set_cons_zero, List.set_cons_succ]
      refine quiet_value (v := .int .i64 p) rfl (fun _ _ => (by go_simp)) ?_
      simp only [Act.put, List.setIfInBounds_toArray, List.set_cons_zero, List.set_cons_succ]
      refine quiet_value (v := .pointer (some ⟨g, p * 4, none⟩)) rfl (fun _ _ => (by go_simp)) ?_
      simp only [Act.put, List.setIfInBounds_toArray, List.set_cons_zero, List.set_cons_succ]
      refine quiet_value (v := .agg #[.int .i64 k1, .int .i64 n1, .string s1, .slice a1 m1 c1]) rfl (fun W h => (by have u0 := cell_below h.out _ _ _ x0; have u1 := cell_below h.out _ _ _ x1; have u2 := cell_below h.out _ _ _ x2; have u3 := cell_below h.out _ _ _ x3; go_simp)) ?_
      simp only [Act.put, List.setIfInBounds_toArray, List.set_cons_zero, List.set_cons_succ]
      refine quiet_call (v := .bool false) rfl (fun W => (by go_simp)) (fun W h => (hcall.out W h).mono fun e w' ⟨he, hb⟩ => ⟨he, h.call hb⟩) ?_
      simp only [Act.put, List.setIfInBounds_toArray, List.set_cons_zero, List.set_cons_succ]
      refine quiet_nil ?_
      intro w6 hw6
      go_wp2
      go_roundw
      case rel => exact ⟨k + 1, by go_num, by omega, by omega, Hid.mk (by rw [hkeep.out, hun.out, if_neg (by simp), ← List.take_succ_eq_append_getElem hkl]), Hid.mk (hrw.out.later hw6)⟩
      case measure => simp [intOf]; omega
    subst hzt
    go_upto_region 6 with fail
    refine region_up (W := wr) (by kernel_rfl) (by kernel_rfl) (Up.refl _) ?_
    refine quiet_value (v := alikeV) rfl (fun _ _ => rfl) ?_
    simp only [Act.put, List.setIfInBounds_toArray, List.set_cons_zero, List.set_cons_succ]
    refine quiet_value (v := .slice (some ⟨g, 0, none⟩) L cap) rfl (fun _ _ => rfl) ?_
    simp only [Act.put, List.setIfInBounds_toArray, List.set_cons_zero, List.set_cons_succ]
    refine quiet_value (v := .int .i64 k) rfl (fun _ _ => rfl) ?_
    simp only [Act.put, List.setIfInBounds_toArray, List.set_cons_zero, List.set_cons_succ]
    refine quiet_value (v := .pointer (some ⟨g, k * 4, none⟩)) rfl (fun _ _ => (by go_simp)) ?_
    simp only [Act.put, List.setIfInBounds_toArray, List.set_cons_zero, List.set_cons_succ]
    refine quiet_value (v := .agg #[.int .i64 k2, .int .i64 n2, .string s2, .slice a2 m2 c2]) rfl (fun W h => (by have u0 := cell_below h.out _ _ _ y0; have u1 := cell_below h.out _ _ _ y1; have u2 := cell_below h.out _ _ _ y2; have u3 := cell_below h.out _ _ _ y3; go_simp)) ?_
    simp only [Act.put, List.setIfInBounds_toArray, List.set_cons_zero, List.set_cons_succ]
    refine quiet_value (v := .slice (some ⟨g, 0, none⟩) L cap) rfl (fun _ _ => rfl) ?_
    simp only [Act.put, List.setIfInBounds_toArray, List.set_cons_zero, List.set_cons_succ]
    refine quiet_value (v := .int .i64 k) rfl (fun _ _ => rfl) ?_
    simp only [Act.put, List.setIfInBounds_toArray, List.set_cons_zero, List.set_cons_succ]
    refine quiet_value (v := .int .i64 p) rfl (fun _ _ => (by go_simp)) ?_
    simp only [Act.put, List.setIfInBounds_toArray, List.set_cons_zero, List.set_cons_succ]
    refine quiet_value (v := .pointer (some ⟨g, p * 4, none⟩)) rfl (fun _ _ => (by go_simp)) ?_
    simp only [Act.put, List.setIfInBounds_toArray, List.set_cons_zero, List.set_cons_succ]
    refine quiet_value (v := .agg #[.int .i64 k1, .int .i64 n1, .string s1, .slice a1 m1 c1]) rfl (fun W h => (by have u0 := cell_below h.out _ _ _ x0; have u1 := cell_below h.out _ _ _ x1; have u2 := cell_below h.out _ _ _ x2; have u3 := cell_below h.out _ _ _ x3; go_simp)) ?_
    simp only [Act.put, List.setIfInBounds_toArray, List.set_cons_zero, List.set_cons_succ]
    refine quiet_call (v := .bool true) rfl (fun W => (by go_simp)) (fun W h => (hcall.out W h).mono fun e w' ⟨he, hb⟩ => ⟨he, h.call hb⟩) ?_
    simp only [Act.put, List.setIfInBounds_toArray, List.set_cons_zero, List.set_cons_succ]
    refine quiet_nil ?_
    intro w6 hw6
    have hst : Hid (Rw w0 S g l w6) := Hid.mk (hrw.out.later hw6)
    have hu1 : Hid (uniqT (l.take (k + 1)) = l.take k) := Hid.mk (by rw [hkeep.out, hun.out, if_pos rfl, List.append_nil])
    clear hrw hcall hkeep x0 x1 x2 x3 y0 y1 y2 y3 hun wS dp dp' dpn hph hpl
    obtain ⟨M, hM⟩ : ∃ M, L - k = M := ⟨_, rfl⟩
    go_wp2

    have hML : k + M = L := by omega
    clear hM
    go_loopw [5, 7] (fun jj qq wr => ∃ (j q : Nat) (R : List Tm), jj = .int .i64 j ∧ qq = .int .i64 q ∧ 0 < q ∧ q ≤ M ∧ j + 1 ≤ k + q ∧ 0 < j ∧ Hid (R.length = L) ∧ Hid (R.take j = uniqT (l.take (k + q))) ∧ Hid (∀ i, k + q - 1 ≤ i → R[i]? = l[i]?) ∧ Hid (Rw w0 S g R wr)) (fun _ qq _ => M + 1 - (intOf qq).toNat)
    case atStart => exact ⟨k, 1, l, rfl, rfl, by omega, by omega, by omega, hk0, hll, Hid.mk hu1.out.symm, Hid.mk (fun _ _ => rfl), hst⟩
    case round =>
      clear hst hu1 hd hd2
      obtain ⟨j, q, R, rfl, rfl, hq0, hqM, hjq, hj0, hRl, hRt, hRs, hrw⟩ := hrel
      by_cases hlq : q < M
      rotate_left
      · have hd : decide ((q : Int) < (M : Int)) = false := by simp; omega
        have hfin : Hid (R.take j = uniqT l) := Hid.mk (by rw [hRt.out, List.take_of_length_le (by have := hll.out; omega)])
        have hjl : j < R.length := by have := hRl.out; omega
        obtain ⟨vs, hclr⟩ := run_clear_term hrw.out j (cap - j) hjl
        rw [hRl.out] at hclr
        have hjL : j < L := by omega
        have hend := Hid.mk (hrw.out.cut j vs)
        have hul : Hid ((uniqT l).length = j) := Hid.mk (by rw [← hfin.out, List.length_take]; omega)
        clear hjl hrw hRs
        go_wp2
        go_ret
        exact ⟨by rw [hul.out]; rfl, by rw [← hfin.out]; exact hend.out⟩
      have hd : decide ((q : Int) < (M : Int)) = true := by simp; omega
      obtain ⟨i, hi⟩ : ∃ i, k + q = i := ⟨_, rfl⟩
      obtain ⟨p, hp⟩ : ∃ p, q - 1 = p := ⟨_, rfl⟩
      have hil : i < l.length := by have := hll.out; omega
      have gi : R[i]? = some l[i] := (hRs.out i (by omega)).trans (List.getElem?_eq_getElem hil)
      have gp : R[i - 1]? = some (l[i - 1]'(by omega)) := (hRs.out (i - 1) (by omega)).trans (List.getElem?_eq_getElem (by omega))
      obtain ⟨k2, n2, s2, a2, m2, c2, hly, y0, y1, y2, y3⟩ := hrw.out.pick gi
      obtain ⟨k1, n1, s1, a1, m1, c1, hlx, x0, x1, x2, x3⟩ := hrw.out.pick gp
      have hcall := Hid.mk (fun (W : World) (hW : Up wr W) => alike_any l[i] (l[i - 1]'(by omega)) S S _ _ W ((hrw.out.later hW).is hly) ((hrw.out.later hW).is hlx))
      obtain ⟨z, hz⟩ : ∃ z, (l[i].cmp (l[i - 1]'(by omega)) == 0) = z := ⟨_, rfl⟩
      rw [hz] at hcall
      have hkeep := Hid.mk (uniq_keep (by omega) hil z hz)
      rw [show i * 4 = k * 4 + q * 4 by omega] at y0 y1 y2 y3
      rw [show (i - 1) * 4 = k * 4 + p * 4 by omega] at x0 x1 x2 x3
      have wS : IntKind.i64.wrap ((q : Int) - 1) = (p : Int) := by rw [IntKind.wrap_i64]; omega
      have dq : (0 : Int) ≤ (q : Int) := by omega
      have dp : (0 : Int) ≤ (p : Int) := by omega
      have dq' : (q : Int) < (M : Int) := by omega
      have dp' : (p : Int) < (M : Int) := by omega
      have dpn : p < M := by omega
      have djL : j < L := by omega
      have hjl : j < R.length := by have := hRl.out; omega
      obtain ⟨cur, hcur, hcsz⟩ := hrw.out.room j hjl
      have hput := Hid.mk (fun (W : World) (hW : Up wr W) => (hrw.out.later hW).put j hjl hly)
      have hcw := Hid.mk (fun (W : World) (hW : Up wr W) => (hW.out.block _ (Array.getElem?_eq_some_iff.1 hcur).1).trans hcur)
      have hph := Hid.mk hp
      have hih := Hid.mk hi
      have hrl := Hid.mk (fun (W : World) (hW : Up wr W) => hrw.out.later hW)
      clear hp hi hz hly hlx hcur hrw gi gp hjl
      by_cases hzt : z = true
      · subst hzt
        go_upto_region 11 with fail
        refine region_up (W := wr) (by kernel_rfl) (by kernel_rfl) (Up.refl _) ?_
        refine quiet_value (v := alikeV) rfl (fun _ _ => rfl) ?_
        simp only [Act.put, List.setIfInBounds_toArray, List.set_cons_zero, List.set_cons_succ]
        refine quiet_value (v := .slice (some ⟨g, k * 4, none⟩) M (cap - k)) rfl (fun _ _ => rfl) ?_
        simp only [Act.put, List.setIfInBounds_toArray, List.set_cons_zero, List.set_cons_succ]
        refine quiet_value (v := .int .i64 q) rfl (fun _ _ => rfl) ?_
        simp only [Act.put, List.setIfInBounds_toArray, List.set_cons_zero, List.set_cons_succ]
        refine quiet_value (v := .pointer (some ⟨g, k * 4 + q * 4, none⟩)) rfl (fun _ _ => (by go_simp)) ?_
        simp only [Act.put, List.setIfInBounds_toArray, List.set_cons_zero, List.set_cons_succ]
        refine quiet_value (v := .agg #[.int .i64 k2, .int .i64 n2, .string s2, .slice a2 m2 c2]) rfl (fun W h => (by have u0 := cell_below h.out _ _ _ y0; have u1 := cell_below h.out _ _ _ y1; have u2 := cell_below h.out _ _ _ y2; have u3 := cell_below h.out _ _ _ y3; go_simp)) ?_
        simp only [Act.put, List.setIfInBounds_toArray, List.set_cons_zero, List.set_cons_succ]
        refine quiet_value (v := .slice (some ⟨g, k * 4, none⟩) M (cap - k)) rfl (fun _ _ => rfl) ?_
        simp only [Act.put, List.setIfInBounds_toArray, List.set_cons_zero, List.set_cons_succ]
        refine quiet_value (v := .int .i64 q) rfl (fun _ _ => rfl) ?_
        simp only [Act.put, List.setIfInBounds_toArray, List.set_cons_zero, List.set_cons_succ]
        refine quiet_value (v := .int .i64 p) rfl (fun _ _ => (by go_simp)) ?_
        simp only [Act.put, List.setIfInBounds_toArray, List.set_cons_zero, List.set_cons_succ]
        refine quiet_value (v := .pointer (some ⟨g, k * 4 + p * 4, none⟩)) rfl (fun _ _ => (by go_simp)) ?_
        simp only [Act.put, List.setIfInBounds_toArray, List.set_cons_zero, List.set_cons_succ]
        refine quiet_value (v := .agg #[.int .i64 k1, .int .i64 n1, .string s1, .slice a1 m1 c1]) rfl (fun W h => (by have u0 := cell_below h.out _ _ _ x0; have u1 := cell_below h.out _ _ _ x1; have u2 := cell_below h.out _ _ _ x2; have u3 := cell_below h.out _ _ _ x3; go_simp)) ?_
        simp only [Act.put, List.setIfInBounds_toArray, List.set_cons_zero, List.set_cons_succ]
        refine quiet_call (v := .bool true) rfl (fun W => (by go_simp)) (fun W h => (hcall.out W h).mono fun e w' ⟨he, hb⟩ => ⟨he, h.call hb⟩) ?_
        simp only [Act.put, List.setIfInBounds_toArray, List.set_cons_zero, List.set_cons_succ]
        refine quiet_value (v := .bool false) rfl (fun _ _ => (by go_simp)) ?_
        simp only [Act.put, List.setIfInBounds_toArray, List.set_cons_zero, List.set_cons_succ]
        refine quiet_nil ?_
        intro w6 hw6
        go_wp2
        go_roundw
        case rel => exact ⟨j, q + 1, R, rfl, by go_num, by omega, by omega, by omega, hj0, hRl, Hid.mk (by have h1 := hkeep.out; rw [if_pos rfl, List.append_nil, ← hih.out] at h1; rw [hRt.out, ← h1]; rfl), Hid.mk (fun i hi => hRs.out i (by omega)), Hid.mk (hrl.out w6 hw6)⟩
        case measure => simp [intOf]; omega
      · have hzf : z = false := by simpa using hzt
        subst hzf
        go_upto_region 11 with fail
        refine region_up (W := wr) (by kernel_rfl) (by kernel_rfl) (Up.refl _) ?_
        refine quiet_value (v := alikeV) rfl (fun _ _ => rfl) ?_
        simp only [Act.put, List.setIfInBounds_toArray, List.set_cons_zero, List.set_cons_succ]
        refine quiet_value (v := .slice (some ⟨g, k * 4, none⟩) M (cap - k)) rfl (fun _ _ => rfl) ?_
        simp only [Act.put, List.setIfInBounds_toArray, List.set_cons_zero, List.set_cons_succ]
        refine quiet_value (v := .int .i64 q) rfl (fun _ _ => rfl) ?_
        simp only [Act.put, List.setIfInBounds_toArray, List.set_cons_zero, List.set_cons_succ]
        refine quiet_value (v := .pointer (some ⟨g, k * 4 + q * 4, none⟩)) rfl (fun _ _ => (by go_simp)) ?_
        simp only [Act.put, List.setIfInBounds_toArray, List.set_cons_zero, List.set_cons_succ]
        refine quiet_value (v := .agg #[.int .i64 k2, .int .i64 n2, .string s2, .slice a2 m2 c2]) rfl (fun W h => (by have u0 := cell_below h.out _ _ _ y0; have u1 := cell_below h.out _ _ _ y1; have u2 := cell_below h.out _ _ _ y2; have u3 := cell_below h.out _ _ _ y3; go_simp)) ?_
        simp only [Act.put, List.setIfInBounds_toArray, List.set_cons_zero, List.set_cons_succ]
        refine quiet_value (v := .slice (some ⟨g, k * 4, none⟩) M (cap - k)) rfl (fun _ _ => rfl) ?_
        simp only [Act.put, List.setIfInBounds_toArray, List.set_cons_zero, List.set_cons_succ]
        refine quiet_value (v := .int .i64 q) rfl (fun _ _ => rfl) ?_
        simp only [Act.put, List.setIfInBounds_toArray, List.set_cons_zero, List.set_cons_succ]
        refine quiet_value (v := .int .i64 p) rfl (fun _ _ => (by go_simp)) ?_
        simp only [Act.put, List.setIfInBounds_toArray, List.set_cons_zero, List.set_cons_succ]
        refine quiet_value (v := .pointer (some ⟨g, k * 4 + p * 4, none⟩)) rfl (fun _ _ => (by go_simp)) ?_
        simp only [Act.put, List.setIfInBounds_toArray, List.set_cons_zero, List.set_cons_succ]
        refine quiet_value (v := .agg #[.int .i64 k1, .int .i64 n1, .string s1, .slice a1 m1 c1]) rfl (fun W h => (by have u0 := cell_below h.out _ _ _ x0; have u1 := cell_below h.out _ _ _ x1; have u2 := cell_below h.out _ _ _ x2; have u3 := cell_below h.out _ _ _ x3; go_simp)) ?_
        simp only [Act.put, List.setIfInBounds_toArray, List.set_cons_zero, List.set_cons_succ]
        refine quiet_call (v := .bool false) rfl (fun W => (by go_simp)) (fun W h => (hcall.out W h).mono fun e w' ⟨he, hb⟩ => ⟨he, h.call hb⟩) ?_
        simp only [Act.put, List.setIfInBounds_toArray, List.set_cons_zero, List.set_cons_succ]
        refine quiet_value (v := .bool true) rfl (fun _ _ => (by go_simp)) ?_
        simp only [Act.put, List.setIfInBounds_toArray, List.set_cons_zero, List.set_cons_succ]
        refine quiet_nil ?_
        intro w6 hw6
        have hc6 := hcw.out w6 hw6
        have f : ∀ o, w6.frozen? ⟨g, o, none⟩ = false := fun o => by simp [World.frozen?, hc6]
        have e : ∀ o, w6.cell? ⟨g, o, none⟩ = cur[o]? := fun o => cell_of_row w6 g o cur _ (0, 0) hc6
        have e0 := (e (j * 4)).trans (Array.getElem?_eq_getElem (by omega))
        have e1 := (e (j * 4 + 1)).trans (Array.getElem?_eq_getElem (by omega))
        have e2 := (e (j * 4 + 2)).trans (Array.getElem?_eq_getElem (by omega))
        have e3 := (e (j * 4 + 3)).trans (Array.getElem?_eq_getElem (by omega))
        have f0 := f (j * 4)
        have f1 := f (j * 4 + 1)
        have f2 := f (j * 4 + 2)
        have f3 := f (j * 4 + 3)
        have y0 := cell_below hw6.out _ _ _ y0
        have y1 := cell_below hw6.out _ _ _ y1
        have y2 := cell_below hw6.out _ _ _ y2
        have y3 := cell_below hw6.out _ _ _ y3
        have hput6 := Hid.mk (hput.out w6 hw6)
        clear e f hc6 hcw hput
        go_wp2
        go_roundw
        case rel => exact ⟨j + 1, q + 1, R.set j (l[i]'(by have := hll.out; have := hih.out; omega)), by go_num, by go_num, by omega, by omega, by omega, by omega, Hid.mk (by rw [List.length_set]; exact hRl.out), Hid.mk (by
          have h1 := hkeep.out
          rw [if_neg (by simp)] at h1
          rw [List.take_succ_eq_append_getElem (by rw [List.length_set]; have := hRl.out; omega), List.getElem_set_self, List.take_set_of_le (Nat.le_refl _), hRt.out, show k + (q + 1) = i + 1 by have := hih.out; omega, h1, (by rw [hih.out] : uniqT (l.take (k + q)) = uniqT (l.take i))]), Hid.mk (fun i' hi' => by
          rw [List.getElem?_set_ne (by omega)]
          exact hRs.out i' (by omega)), hput6⟩
        case measure => simp [intOf]; omega

end Go.Proofs.Ytabcekeeekbdiaa
