/-
  The document's buckets: one fewer.
-/
import Derived.Test.YtkijbphbibcnoaaLinRE
namespace Go.Proofs.Ytkijbphbibcnoaa
open Go.RowKit Go.Deep Go.Maps Go.WideShapes

/-- Buckets joined, of the last one so many items having moved. -/
def joinP (B : Bks) (l : List It) : Bks := (List.range (B.length - 1)).map fun j => rowB B j ++ l.filter (goesTo (B.length - 1) j)
theorem joinP_len (B : Bks) (l : List It) : (joinP B l).length = B.length - 1 := by simp [joinP]
theorem joinB_part (B : Bks) : joinB B = joinP B (rowB B (B.length - 1)) := rfl
theorem joinP_nil (B : Bks) : joinP B [] = B.take (B.length - 1) := by
  apply List.ext_getElem
  · simp [joinP]
  · intro i h1 h2
    have hi : i < B.length - 1 := by simpa [joinP] using h1
    simp [joinP, rowB, show i < B.length by omega]
theorem joinP_snoc {B : Bks} (hn : 2 ≤ B.length) (P : List It) (x : It) : joinP B (P ++ [x]) = (joinP B P).set (bkt x.1 (B.length - 1)) (rowB (joinP B P) (bkt x.1 (B.length - 1)) ++ [x]) := by
  have hb := bkt_lt x.1 (B.length - 1) (by omega)
  apply List.ext_getElem
  · simp [joinP]
  · intro i h1 h2
    have hi : i < B.length - 1 := by simpa [joinP] using h1
    have e1 : rowB (joinP B P) (bkt x.1 (B.length - 1)) = rowB B (bkt x.1 (B.length - 1)) ++ P.filter (goesTo (B.length - 1) (bkt x.1 (B.length - 1))) := rowB_map hb
    have e2 : (joinP B (P ++ [x]))[i] = rowB B i ++ (P ++ [x]).filter (goesTo (B.length - 1) i) := by simp [joinP]
    have e3 : (joinP B P)[i]'(by rw [joinP_len]; exact hi) = rowB B i ++ P.filter (goesTo (B.length - 1) i) := by simp [joinP]
    simp only [e1]
    rw [List.getElem_set, e2, List.filter_append]
    by_cases e : bkt x.1 (B.length - 1) = i
    · subst e
      rw [if_pos rfl]
      simp [goesTo]
    · rw [if_neg e, e3]
      simp [goesTo, e]
theorem rowB_joinP (B : Bks) (P : List It) (j : Nat) (h : P.length ≤ szB B) : (rowB (joinP B P) j).length ≤ 2 * szB B := by
  by_cases hj : j < B.length - 1
  · have e : rowB (joinP B P) j = rowB B j ++ P.filter (goesTo (B.length - 1) j) := rowB_map hj
    rw [e, List.length_append]
    have h1 := rowB_len_le B j
    have h2 := List.length_filter_le (goesTo (B.length - 1) j) P
    omega
  · rw [rowB_ge (by rw [joinP_len]; omega)]
    exact Nat.zero_le _

section
variable {α : Type} {s : Srt α} {o : Srt Sl} {w w' : World} {v u : Value} {ls : List Sl} {L : List (List α)} {S : Nat → Prop}
/-- The first rows under a new outer one. -/
theorem GdS.fewer (h : GdS s o w v ls L S) (hb : Below w.heap.size w w') (hS : ∀ k, S k → k < w.heap.size) (m : Nat) (hu : Ow o w' u (ls.take m)) (hn : ∀ b, u.ownBlock = some b → w.heap.size ≤ b) :
    GdS s o w' u (ls.take m) (L.take m) (fun k => (S k ∧ ∀ (i : Nat) (x : Sl), m ≤ i → ls[i]? = some x → x.v.ownBlock ≠ some k) ∨ u.ownBlock = some k) := by
  have old : ∀ (i : Nat) (x : Sl), (ls.take m)[i]? = some x → i < m ∧ ls[i]? = some x := fun i x hx => by
    rw [List.getElem?_take] at hx
    split at hx
    · rename_i hi
      exact ⟨hi, hx⟩
    · cases hx
  refine ⟨hu, by rw [List.length_take, List.length_take, h.len], fun i x l hx hl => ?_, fun g hg => Or.inr hg, fun i x g hx hg => ⟨Or.inl ⟨(h.si i x g (old i x hx).2 hg).1, fun j y hj hy e => ?_⟩, fun e => ?_⟩, fun i j x y g hij hx hy => h.dist i j x y g hij (old i x hx).2 (old j y hy).2⟩
  · rw [List.getElem?_take, if_pos (old i x hx).1] at hl
    exact (h.inner i x l (old i x hx).2 hl).up hb
  · have := (old i x hx).1
    exact h.dist i j x y g (by omega) (old i x hx).2 hy hg e
  · have h1 := hn g e
    have h2 := hS g (h.si i x g (old i x hx).2 hg).1
    omega
end
/-- Amid a join: the last bucket's items are as they were. -/
def AmidJ (w : World) (q least : Nat) (S : Nat → Prop) (C : Bks) (lst : List It) (la : Option Addr) (w' : World) : Prop := ∃ S', Rb w' q least S' C ∧ Only S w w' ∧ (∀ k, S' k → S k ∨ w.heap.size ≤ k) ∧ CelT w' lst la ∧ (∀ ad, la = some ad → ¬ S' ad.block ∧ ad.block < w'.heap.size)
theorem AmidJ.step {w w1 w2 : World} {q least : Nat} {S S1 : Nat → Prop} {D : Bks} {lst : List It} {la : Option Addr} (ho : Only S w w1) (hS : ∀ k, S1 k → S k ∨ w.heap.size ≤ k) (hc : CelT w1 lst la) (ha : ∀ ad, la = some ad → ¬ S1 ad.block ∧ ad.block < w1.heap.size) (h : StR w1 q least S1 D w2) : AmidJ w q least S D lst la w2 := by
  obtain ⟨S', h1, h2, h3⟩ := h
  refine ⟨S', h1, ho.trans h2 hS, fun k hk => ?_, hc.kept h2 (fun ad e => (ha ad e).1), fun ad e => ⟨fun hk => ?_, Nat.lt_of_lt_of_le (ha ad e).2 h2.size⟩⟩
  · rcases h3 k hk with e | e
    · exact hS k e
    · exact Or.inr (Nat.le_trans ho.size e)
  · rcases h3 _ hk with e2 | e2
    · exact (ha ad e).1 e2
    · have := (ha ad e).2; omega

theorem RbS.cut {w : World} {q least g0 cap0 M : Nat} {S : Nat → Prop} {B : Bks} (h : RbS w q least (.slice (some ⟨g0, 0, none⟩) B.length cap0) S B) (hM : B.length = M + 1) : ∃ la lc, ∃ ls : List Sl, w.cell? ⟨g0, M, none⟩ = some (.slice la (B[M]'(by omega)).length lc) ∧ CelT w (B[M]'(by omega)) la ∧
    (Cs rwS w (ls.take M) (some ⟨g0, 0, none⟩) ∧ (ls.take M).length = M) ∧
    ∀ (w5 : World) (ua : Option Addr) (uc : Nat), Below w.heap.size w w5 → Ow rwS w5 (.slice ua M uc) (ls.take M) → (∀ b, (Value.slice ua M uc).ownBlock = some b → w.heap.size ≤ b) → AmidJ w q least S (B.take M) (B[M]'(by omega)) la (w5.setCell ⟨q, 1, none⟩ (.slice ua M uc)) := by
  obtain ⟨ls, hg⟩ := h.gd
  obtain ⟨g, cap, x, e, _, hgS, hx, hc, hz, hn, hxi, hxg⟩ := hg.at_ outR (i := M) (by omega)
  simp only [Value.slice.injEq, Option.some.injEq, Addr.mk.injEq, and_true, true_and] at e
  obtain ⟨rfl, rfl⟩ := e
  have e : x.v = .slice x.a (B[M]'(by omega)).length x.c := by unfold Sl.v; rw [hn]
  rw [e] at hc hxi hxg
  have hql := h.lt q h.sq
  obtain ⟨oa, oc, eo, _, _, _, hocs⟩ := hg.outer.cells
  simp only [Value.slice.injEq] at eo
  obtain ⟨rfl, _, _⟩ := eo
  have hcel : CelT w (B[M]'(by omega)) x.a := by
    obtain ⟨a2, c2, e, hcel⟩ := Its.slice hxi
    simp only [Value.slice.injEq] at e
    obtain ⟨rfl, _, _⟩ := e
    exact hcel
  refine ⟨x.a, x.c, ls, hc, hcel, ⟨hocs.take M, by rw [List.length_take, hg.len]; omega⟩, fun w5 ua uc hb5 hu hnew => ?_⟩
  have hf := hg.fewer hb5 (fun k hk => h.lt k hk.1) M hu hnew
  have hset : Only (fun k => k = q) w5 (w5.setCell ⟨q, 1, none⟩ (.slice ua M uc)) := Only.set w5 _ rfl
  have hbox := (Only.up (S := fun _ => False) hb5).box h.box (fun f => f)
  have hall : Only S w (w5.setCell ⟨q, 1, none⟩ (.slice ua M uc)) := (Only.up hb5).put h.sq _ _
  refine ⟨fun k => k = q ∨ ((S k ∧ k ≠ q) ∧ ∀ (i : Nat) (y : Sl), M ≤ i → ls[i]? = some y → y.v.ownBlock ≠ some k) ∨ (Value.slice ua M uc).ownBlock = some k, ⟨_, put_box hbox 1 _, ?_, Or.inl rfl, fun k hk => ?_⟩, hall, fun k hk => ?_, ?_, fun ad ha => ⟨fun hk => ?_, ?_⟩⟩
  · refine Gd.wider (Gd.kept ⟨_, hf⟩ hset (fun k hk hk' => ?_)) (fun k hk => ⟨Or.inr hk, ?_⟩)
    · rcases hk with hk | hk
      · exact hk.1.2 hk'
      · have := hnew k hk; omega
    · rcases hk with hk | hk
      · exact hk.1.2
      · intro e'; have := hnew k hk; omega
  · rw [size_setCell']
    rcases hk with hk | hk | hk
    · have := hb5.size; omega
    · have := h.lt k hk.1.1; have := hb5.size; omega
    · exact hu.lt hk
  · rcases hk with hk | hk | hk
    · exact Or.inl (hk ▸ h.sq)
    · exact Or.inl hk.1.1
    · exact Or.inr (hnew k hk)
  · exact (hcel.up hb5).kept hset (fun ad ha => (hxg ad.block (by rw [ha]; rfl)).1.2)
  · have hxa := hxg ad.block (by rw [ha]; rfl)
    rcases hk with hk | hk | hk
    · exact hxa.1.2 hk
    · exact hk.2 M x (Nat.le_refl _) hx (by rw [e, ha]; rfl)
    · have h1 := hnew _ hk
      have h2 := h.lt _ hxa.1.1
      omega
  · have hxa := hxg ad.block (by rw [ha]; rfl)
    exact Nat.lt_of_lt_of_le (h.lt _ hxa.1.1) hall.size
set_option maxHeartbeats 16000000 in
set_option maxRecDepth 100000 in
theorem joinR_any (q least : Nat) (S : Nat → Prop) (B : Bks) (w : World) (hb : Rb w q least S B) (hfit : Placed B) (hl : 1 ≤ least) (h2 : B.length ≤ 100000) (hu : szB B ≤ 100000) :
    Calls Try.prog 34 #[.pointer (some ⟨q, 0, none⟩)] w fun e w' => e = .returned (.int .i64 (if least < B.length then 0 else 9)) ∧ StR w q least S (if least < B.length then joinB B else B) w' := by
  obtain ⟨v, hb⟩ := hb
  obtain ⟨c0, c1, f1⟩ := hb.cells
  have h1 := hfit.some_
  obtain ⟨g0, cap0, hv, hcap0⟩ : ∃ g0 cap0, v = .slice (some ⟨g0, 0, none⟩) B.length cap0 ∧ B.length ≤ cap0 := by
    obtain ⟨g, cap, _, _, e, h, _⟩ := hb.at_ (i := 0) (by omega)
    exact ⟨g, cap, e, h⟩
  subst hv
  have HB := Hid.mk hb
  by_cases hle : least < B.length
  · rw [if_pos hle, if_pos hle]
    have HLN := Hid.mk (And.intro h2 (And.intro hu (And.intro h1 (And.intro hle hl))))
    obtain ⟨M, hM⟩ : ∃ M, B.length = M + 1 := ⟨B.length - 1, by omega⟩
    obtain ⟨la, lc, ls, l0, hlcel, hlls, hcut⟩ := hb.cut hM
    have HCS := Hid.mk hlcel
    have hjn := joinP_nil B
    rw [show B.length - 1 = M by omega] at hjn
    have hro := rowB_lt (B := B) (n := M) (by omega)
    have hjp := joinB_part B
    rw [show B.length - 1 = M by omega, hro] at hjp
    have hfr : ∀ x ∈ B[M]'(by omega), x.1 < 4294967296 := fun x hx => (hfit.at_ M x (by rw [hro]; exact hx)).1
    have hrl := rowB_len_le B M
    rw [hro] at hrl
    generalize B[M]'(by omega) = lst at *
    rw [← hjn] at hcut
    rw [hjp]
    have HFIN := Hid.mk (fun (w' : World) (h : AmidJ w q least S (joinP B lst) lst la w') => (show StR w q least S (joinP B lst) w' from by
      obtain ⟨S', h1, h2, h3, _⟩ := h
      exact ⟨S', h1, h2, h3⟩))
    have HCUT := Hid.mk hcut
    have HFR := Hid.mk hfr
    have HLL := Hid.mk (show lst.length ≤ 100000 by omega)
    have HM := Hid.mk hM
    have HSZ := Hid.mk hrl
    obtain ⟨N, hN⟩ : ∃ N, B.length = N := ⟨_, rfl⟩
    rw [hN] at c1 hM
    have g1 : (least : Int) < N := by omega
    have g1' : least < N := by omega
    have g2 : IntKind.i64.wrap ((N : Int) - 1) = (M : Int) := by rw [wrap_id (by omega) (by omega)]; omega
    have g3 : (M : Int) < N := by omega
    have g4 : (M : Int) ≤ cap0 := by omega
    have hcml : cap0 ≤ 9223372036854775807 := by
      obtain ⟨_, cap, e, _, hm⟩ := hb.gd.slice
      simp only [Value.slice.injEq] at e
      have := e.2.2
      unfold maxLen at hm
      omega
    have HQ := Hid.mk (And.intro (hb.lt q hb.sq) f1)
    have HLS := Hid.mk hlls
    clear hb h1 h2 hu hfit hcap0 hN hle hl f1 hcut hlcel hlls hjn hro hjp hfr hrl hM
    go_enter Try.func34, Try.ntmps34
    go_upto_region 1 with fail
    refine region_up (W := w) (by kernel_rfl) (by kernel_rfl) (Up.refl _) ?_
    refine quiet_value (v := .pointer (some ⟨q, 0, none⟩)) rfl (fun _ _ => rfl) ?_
    simp only [Act.put, List.setIfInBounds_toArray, List.set_cons_zero, List.set_cons_succ]
    refine quiet_value (v := .pointer (some ⟨q, 0, none⟩)) rfl (fun _ _ => (by go_simp)) ?_
    simp only [Act.put, List.setIfInBounds_toArray, List.set_cons_zero, List.set_cons_succ]
    refine quiet_value (v := .pointer (some ⟨q, 1, none⟩)) rfl (fun _ _ => (by go_simp)) ?_
    simp only [Act.put, List.setIfInBounds_toArray, List.set_cons_zero, List.set_cons_succ]
    refine quiet_value (v := .slice (some ⟨g0, 0, none⟩) N cap0) rfl (fun W h => (by have u0 := cell_below h.out _ _ _ c1; go_simp)) ?_
    simp only [Act.put, List.setIfInBounds_toArray, List.set_cons_zero, List.set_cons_succ]
    refine quiet_value (v := .int .i64 N) rfl (fun _ _ => (by go_simp)) ?_
    simp only [Act.put, List.setIfInBounds_toArray, List.set_cons_zero, List.set_cons_succ]
    refine quiet_value (v := .pointer (some ⟨q, 0, none⟩)) rfl (fun _ _ => rfl) ?_
    simp only [Act.put, List.setIfInBounds_toArray, List.set_cons_zero, List.set_cons_succ]
    refine quiet_value (v := .pointer (some ⟨q, 0, none⟩)) rfl (fun _ _ => (by go_simp)) ?_
    simp only [Act.put, List.setIfInBounds_toArray, List.set_cons_zero, List.set_cons_succ]
    refine quiet_value (v := .pointer (some ⟨q, 0, none⟩)) rfl (fun _ _ => (by go_simp)) ?_
    simp only [Act.put, List.setIfInBounds_toArray, List.set_cons_zero, List.set_cons_succ]
    refine quiet_value (v := .int .i64 least) rfl (fun W h => (by have u0 := cell_below h.out _ _ _ c0; go_simp)) ?_
    simp only [Act.put, List.setIfInBounds_toArray, List.set_cons_zero, List.set_cons_succ]
    refine quiet_value (v := .bool false) rfl (fun _ _ => (by go_simp)) ?_
    simp only [Act.put, List.setIfInBounds_toArray, List.set_cons_zero, List.set_cons_succ]
    refine quiet_nil ?_
    intro W0 hW0
    replace c0 := cell_below hW0.out _ _ _ c0
    replace c1 := cell_below hW0.out _ _ _ c1
    replace l0 := cell_below hW0.out _ _ _ l0
    have HW0 := Hid.mk hW0
    clear hW0
    go_upto_region 3 with fail
    refine region_up (W := W0) (by kernel_rfl) (by kernel_rfl) (Up.refl _) ?_
    refine quiet_value (v := .pointer (some ⟨q, 0, none⟩)) rfl (fun _ _ => rfl) ?_
    simp only [Act.put, List.setIfInBounds_toArray, List.set_cons_zero, List.set_cons_succ]
    refine quiet_value (v := .pointer (some ⟨q, 0, none⟩)) rfl (fun _ _ => (by go_simp)) ?_
    simp only [Act.put, List.setIfInBounds_toArray, List.set_cons_zero, List.set_cons_succ]
    refine quiet_value (v := .pointer (some ⟨q, 1, none⟩)) rfl (fun _ _ => (by go_simp)) ?_
    simp only [Act.put, List.setIfInBounds_toArray, List.set_cons_zero, List.set_cons_succ]
    refine quiet_value (v := .slice (some ⟨g0, 0, none⟩) N cap0) rfl (fun W h => (by have u0 := cell_below h.out _ _ _ c1; go_simp)) ?_
    simp only [Act.put, List.setIfInBounds_toArray, List.set_cons_zero, List.set_cons_succ]
    refine quiet_value (v := .pointer (some ⟨q, 0, none⟩)) rfl (fun _ _ => rfl) ?_
    simp only [Act.put, List.setIfInBounds_toArray, List.set_cons_zero, List.set_cons_succ]
    refine quiet_value (v := .pointer (some ⟨q, 0, none⟩)) rfl (fun _ _ => (by go_simp)) ?_
    simp only [Act.put, List.setIfInBounds_toArray, List.set_cons_zero, List.set_cons_succ]
    refine quiet_value (v := .pointer (some ⟨q, 1, none⟩)) rfl (fun _ _ => (by go_simp)) ?_
    simp only [Act.put, List.setIfInBounds_toArray, List.set_cons_zero, List.set_cons_succ]
    refine quiet_value (v := .slice (some ⟨g0, 0, none⟩) N cap0) rfl (fun W h => (by have u0 := cell_below h.out _ _ _ c1; go_simp)) ?_
    simp only [Act.put, List.setIfInBounds_toArray, List.set_cons_zero, List.set_cons_succ]
    refine quiet_value (v := .int .i64 N) rfl (fun _ _ => (by go_simp)) ?_
    simp only [Act.put, List.setIfInBounds_toArray, List.set_cons_zero, List.set_cons_succ]
    refine quiet_value (v := .int .i64 M) rfl (fun _ _ => (by go_simp)) ?_
    simp only [Act.put, List.setIfInBounds_toArray, List.set_cons_zero, List.set_cons_succ]
    refine quiet_value (v := .pointer (some ⟨g0, M, none⟩)) rfl (fun _ _ => (by go_simp)) ?_
    simp only [Act.put, List.setIfInBounds_toArray, List.set_cons_zero, List.set_cons_succ]
    refine quiet_value (v := .slice la lst.length lc) rfl (fun W h => (by have u0 := cell_below h.out _ _ _ l0; go_simp)) ?_
    simp only [Act.put, List.setIfInBounds_toArray, List.set_cons_zero, List.set_cons_succ]
    refine quiet_value (v := .slice la lst.length lc) rfl (fun _ _ => rfl) ?_
    simp only [Act.put, List.setIfInBounds_toArray, List.set_cons_zero, List.set_cons_succ]
    refine quiet_nil ?_
    intro W1 hW1
    have HW1 := Hid.mk (HW0.out.call hW1.out)
    replace c1 := cell_below hW1.out _ _ _ c1
    clear hW1 c0 l0
    go_upto_region 4 with fail
    have hE0 := Ow.fresh (s := rwS) W1.drew [] (by decide)
    obtain ⟨u, w5, hr5, hi5, hg5, ho5⟩ := append_row rwS (W1.drew.alloc (.cells #[] 43)) 37 (.slice (some ⟨W1.drew.heap.size, 0, none⟩) 0 0) [] (ls.take M) hE0 (some ⟨g0, 0, none⟩) cap0 (HLS.out.1.up (HW1.out.drew.alloc.out)) (fun e => (by cases e)) (by rw [HLS.out.2]; have := HM.out; have := HLN.out; simp; omega)
    rw [HLS.out.2] at hr5
    rw [List.nil_append] at hi5
    have hb1 : Below W1.heap.size W1 (W1.drew.alloc (.cells #[] 43)) := (Up.refl W1).drew.alloc.out
    have hu5 : Up W1 w5 := hb1.grown hg5 hb1.size (fun k hk => (by cases hk; exact Nat.le_refl _))
    obtain ⟨ua, uc, eu, _, _, _, _⟩ := hi5.cells
    rw [HLS.out.2] at eu
    subst eu
    have hAM := HCUT.out w5 ua uc (HW1.out.out.trans (hu5.out.mono HW1.out.out.size)) hi5 (fun b hb => by
      have h1 := HW1.out.out.size
      rcases ho5 with e | e
      · rw [e] at hb; cases hb; exact h1
      · rw [e] at hb; cases hb; exact Nat.le_trans h1 hb1.size)
    have HAM := Hid.mk hAM
    have hr5' : (Builtin.append_ #[37, 37] 37 #[.slice (some ⟨W1.drew.heap.size, 0, none⟩) 0 0, .slice (some ⟨g0, 0, none⟩) M cap0]).run Try.prog (W1.drew.alloc (.cells #[] 43)) = .ok (.slice ua M uc) w5 := hr5
    have hr5 := hr5'
    have c5 : w5.cell? ⟨q, 1, none⟩ = some (.slice (some ⟨g0, 0, none⟩) N cap0) := cell_below hu5.out _ _ _ c1
    have f5 : w5.frozen? ⟨q, 1, none⟩ = false := by
      have hx := HW1.out.call hu5.out
      rw [(bcell hx.out).2 _ _ HQ.out.1]; exact HQ.out.2
    clear hi5 hg5 ho5 hE0 hAM hr5' hb1
    refine wp_region_last (last := 16) (S := Up W1) (by kernel_rfl) ?_
    refine last_take (i := 0) (d := 28) (v := .pointer (some ⟨q, 0, none⟩)) rfl rfl (by kernel_rfl) (by kernel_rfl) (by kernel_rfl) (by kernel_rfl) rfl (fun _ _ => rfl) (fun _ _ _ h => h) (Up.refl W1).drew ?_
    simp only [Act.put, List.setIfInBounds_toArray, List.set_cons_zero, List.set_cons_succ]
    refine last_take (i := 2) (d := 30) (v := .pointer (some ⟨q, 0, none⟩)) rfl rfl (by kernel_rfl) (by kernel_rfl) (by kernel_rfl) (by kernel_rfl) rfl (fun _ _ => rfl) (fun _ _ _ h => h) (Up.refl W1).drew ?_
    simp only [Act.put, List.setIfInBounds_toArray, List.set_cons_zero, List.set_cons_succ]
    refine last_take (i := 3) (d := 31) (v := .pointer (some ⟨q, 0, none⟩)) rfl rfl (by kernel_rfl) (by kernel_rfl) (by kernel_rfl) (by kernel_rfl) rfl (fun _ _ => (by go_simp)) (fun _ _ _ h => h) (Up.refl W1).drew ?_
    simp only [Act.put, List.setIfInBounds_toArray, List.set_cons_zero, List.set_cons_succ]
    refine last_take (i := 4) (d := 32) (v := .pointer (some ⟨q, 1, none⟩)) rfl rfl (by kernel_rfl) (by kernel_rfl) (by kernel_rfl) (by kernel_rfl) rfl (fun _ _ => (by go_simp)) (fun _ _ _ h => h) (Up.refl W1).drew ?_
    simp only [Act.put, List.setIfInBounds_toArray, List.set_cons_zero, List.set_cons_succ]
    refine last_take (i := 5) (d := 33) (v := .slice (some ⟨g0, 0, none⟩) N cap0) rfl rfl (by kernel_rfl) (by kernel_rfl) (by kernel_rfl) (by kernel_rfl) rfl (fun W h => (by have u0 := cell_below h.out _ _ _ c1; go_simp)) (fun _ _ _ h => h) (Up.refl W1).drew ?_
    simp only [Act.put, List.setIfInBounds_toArray, List.set_cons_zero, List.set_cons_succ]
    refine last_take (i := 6) (d := 34) (v := .pointer (some ⟨q, 0, none⟩)) rfl rfl (by kernel_rfl) (by kernel_rfl) (by kernel_rfl) (by kernel_rfl) rfl (fun _ _ => rfl) (fun _ _ _ h => h) (Up.refl W1).drew ?_
    simp only [Act.put, List.setIfInBounds_toArray, List.set_cons_zero, List.set_cons_succ]
    refine last_take (i := 7) (d := 35) (v := .pointer (some ⟨q, 0, none⟩)) rfl rfl (by kernel_rfl) (by kernel_rfl) (by kernel_rfl) (by kernel_rfl) rfl (fun _ _ => (by go_simp)) (fun _ _ _ h => h) (Up.refl W1).drew ?_
    simp only [Act.put, List.setIfInBounds_toArray, List.set_cons_zero, List.set_cons_succ]
    refine last_take (i := 8) (d := 36) (v := .pointer (some ⟨q, 1, none⟩)) rfl rfl (by kernel_rfl) (by kernel_rfl) (by kernel_rfl) (by kernel_rfl) rfl (fun _ _ => (by go_simp)) (fun _ _ _ h => h) (Up.refl W1).drew ?_
    simp only [Act.put, List.setIfInBounds_toArray, List.set_cons_zero, List.set_cons_succ]
    refine last_take (i := 9) (d := 37) (v := .slice (some ⟨g0, 0, none⟩) N cap0) rfl rfl (by kernel_rfl) (by kernel_rfl) (by kernel_rfl) (by kernel_rfl) rfl (fun W h => (by have u0 := cell_below h.out _ _ _ c1; go_simp)) (fun _ _ _ h => h) (Up.refl W1).drew ?_
    simp only [Act.put, List.setIfInBounds_toArray, List.set_cons_zero, List.set_cons_succ]
    refine last_take (i := 10) (d := 38) (v := .int .i64 N) rfl rfl (by kernel_rfl) (by kernel_rfl) (by kernel_rfl) (by kernel_rfl) rfl (fun _ _ => (by go_simp)) (fun _ _ _ h => h) (Up.refl W1).drew ?_
    simp only [Act.put, List.setIfInBounds_toArray, List.set_cons_zero, List.set_cons_succ]
    refine last_take (i := 11) (d := 39) (v := .int .i64 M) rfl rfl (by kernel_rfl) (by kernel_rfl) (by kernel_rfl) (by kernel_rfl) rfl (fun _ _ => (by go_simp)) (fun _ _ _ h => h) (Up.refl W1).drew ?_
    simp only [Act.put, List.setIfInBounds_toArray, List.set_cons_zero, List.set_cons_succ]
    refine last_take (i := 12) (d := 40) (v := .slice (some ⟨g0, 0, none⟩) M cap0) rfl rfl (by kernel_rfl) (by kernel_rfl) (by kernel_rfl) (by kernel_rfl) rfl (fun _ _ => (by go_simp)) (fun _ _ _ h => h) (Up.refl W1).drew ?_
    simp only [Act.put, List.setIfInBounds_toArray, List.set_cons_zero, List.set_cons_succ]
    refine last_value (i := 1) (d := 29) (v := .slice (some ⟨W1.heap.size, 0, none⟩) 0 0) (w' := W1.drew.alloc (.cells #[] 43)) (by kernel_rfl) rfl rfl rfl (by go_simp) ((Up.refl W1).drew.alloc) ?_
    simp only [Act.put, List.setIfInBounds_toArray, List.set_cons_zero, List.set_cons_succ]
    refine last_value (i := 13) (d := 41) (v := .slice ua M uc) (w' := w5) (by kernel_rfl) rfl rfl rfl (exec_append rfl rfl hr5) (hu5) ?_
    simp only [Act.put, List.setIfInBounds_toArray, List.set_cons_zero, List.set_cons_succ]
    refine last_value (i := 14) (d := 42) (v := .pointer (some ⟨q, 0, none⟩)) (w' := w5) (by kernel_rfl) rfl rfl rfl (by go_simp) (hu5) ?_
    simp only [Act.put, List.setIfInBounds_toArray, List.set_cons_zero, List.set_cons_succ]
    refine last_value (i := 15) (d := 43) (v := .pointer (some ⟨q, 1, none⟩)) (w' := w5) (by kernel_rfl) rfl rfl rfl (by go_simp) (hu5) ?_
    simp only [Act.put, List.setIfInBounds_toArray, List.set_cons_zero, List.set_cons_succ]
    refine last_store (w' := w5.setCell ⟨q, 1, none⟩ (.slice ua M uc)) (by kernel_rfl) rfl rfl rfl (by go_simp) (by kernel_rfl) ?_
    clear c5 f5 hr5 c1
    have HW5 := Hid.mk hu5
    clear hu5
    go_wp2
    go_loopw [4] (fun kk wr => ∃ k : Nat, k ≤ lst.length ∧ kk = .int .i64 k ∧ Hid (AmidJ w q least S (joinP B (lst.take k)) lst la wr)) (fun kk _ => lst.length - (intOf kk).toNat)
    case atStart => exact ⟨0, Nat.zero_le _, rfl, by simpa using HAM⟩
    case round =>
      obtain ⟨k, hk, rfl, hA⟩ := hrel
      by_cases hkl : k < lst.length
      · obtain ⟨S', ⟨v', hrb⟩, hon, hS', hcel, hla⟩ := hA.out
        obtain ⟨b, o, rfl, x0, x1⟩ := CelT.item hcel hkl
        have hX32 := HFR.out _ (List.getElem_mem hkl)
        have htk : lst.take (k + 1) = lst.take k ++ [lst[k]'hkl] := by rw [List.take_add_one, List.getElem?_eq_getElem hkl]; rfl
        obtain ⟨X, hX⟩ : ∃ X, lst[k]'hkl = X := ⟨_, rfl⟩
        rw [hX] at x0 x1 hX32 htk
        have hM := HM.out
        have hLL := HLL.out
        have hLN := HLN.out
        have hsn := joinP_snoc (B := B) (by omega) (lst.take k) X
        rw [← htk, show B.length - 1 = M by omega] at hsn
        have hpl := joinP_len B (lst.take k)
        rw [show B.length - 1 = M by omega] at hpl
        have hln := rowB_joinP B (lst.take k) (bkt X.1 M) (by
          have h3 := HSZ.out
          rw [List.length_take]; omega)
        generalize joinP B (lst.take k) = C at *
        have hJ := bkt_lt X.1 M (by omega)
        have hof : ofB C X.1 = bkt X.1 M := by unfold ofB; rw [hpl]
        have HOF := Hid.mk (ofR_any q least S' C X.1 _ ⟨_, hrb⟩ hX32 (by omega) (by omega))
        rw [hof] at HOF
        generalize bkt X.1 M = J at *
        have hJC : J < C.length := by omega
        obtain ⟨g, cap, a', c, rfl, hcap, d0, z0, hrow⟩ := hrb.at_ hJC
        obtain ⟨c0', c1, _⟩ := hrb.cells
        have HPUT := Hid.mk (fun (y : Value) (w4 : World) (hy : Its w4 y (rowB C J ++ [X])) hn hbl => rb_put (y := y) (w4 := w4) hrb hJC hbl hy hn)
        rw [hpl] at c1
        rw [← rowB_lt hJC] at d0 hrow
        have HSTEP := Hid.mk (fun (w'' : World) (h : StR _ q least S' (C.set J (rowB C J ++ [X])) w'') => AmidJ.step hon hS' hcel hla h)
        rw [← hsn] at HSTEP
        obtain ⟨Y, hY⟩ : ∃ Y, rowB C J = Y := ⟨_, rfl⟩
        rw [hY] at d0 hrow hln HPUT hsn
        rw [← hsn] at HPUT
        have HROW := Hid.mk (fun (w' : World) (hbl : Below wr.heap.size wr w') => hrow.up hbl)
        have HFRZ := Hid.mk (fun (w' : World) (hbl : Below wr.heap.size wr w') => (show w'.frozen? ⟨g, J, none⟩ = false ∧ ∃ u, w'.cell? ⟨g, J, none⟩ = some u from ⟨by rw [(bcell hbl).2 _ _ (World.block_lt_of_cell? wr _ d0)]; exact z0, _, cell_below hbl _ _ _ d0⟩))
        have HYL := Hid.mk (show Y.length ≤ 200000 by omega)
        obtain ⟨K, hK⟩ : ∃ K, Y.length = K := ⟨_, rfl⟩
        rw [hK] at d0 HROW
        obtain ⟨X0, X1⟩ := X
        simp only at x0 x1 HOF
        have HKL := Hid.mk hkl
        have hkli : (k : Int) < lst.length := by omega
        have hJi : (J : Int) < M := by omega
        have hwk : IntKind.i64.wrap ((k : Int) + 1) = ((k + 1 : Nat) : Int) := by rw [wrap_id (by omega) (by omega)]; omega
        clear hkl hX hX32 htk hM hLL hLN hsn hpl hJ hof hJC hln hrow hY hK hrb hon hS' hcel hla z0 hA hcap
        go_upto_region 9 with (go_at_call 48; refine HOF.out.mono ?_; rintro e x ⟨rfl, rfl⟩)
        refine wp_region_last (last := 21) (S := Up wr) (by kernel_rfl) ?_
        refine last_take (i := 0) (d := 57) (v := .pointer (some ⟨q, 0, none⟩)) rfl rfl (by kernel_rfl) (by kernel_rfl) (by kernel_rfl) (by kernel_rfl) rfl (fun _ _ => rfl) (fun _ _ _ h => h) (Up.refl wr).drew ?_
        simp only [Act.put, List.setIfInBounds_toArray, List.set_cons_zero, List.set_cons_succ]
        refine last_take (i := 1) (d := 58) (v := .pointer (some ⟨q, 0, none⟩)) rfl rfl (by kernel_rfl) (by kernel_rfl) (by kernel_rfl) (by kernel_rfl) rfl (fun _ _ => (by go_simp)) (fun _ _ _ h => h) (Up.refl wr).drew ?_
        simp only [Act.put, List.setIfInBounds_toArray, List.set_cons_zero, List.set_cons_succ]
        refine last_take (i := 2) (d := 59) (v := .pointer (some ⟨q, 1, none⟩)) rfl rfl (by kernel_rfl) (by kernel_rfl) (by kernel_rfl) (by kernel_rfl) rfl (fun _ _ => (by go_simp)) (fun _ _ _ h => h) (Up.refl wr).drew ?_
        simp only [Act.put, List.setIfInBounds_toArray, List.set_cons_zero, List.set_cons_succ]
        refine last_take (i := 3) (d := 60) (v := .slice (some ⟨g, 0, none⟩) M cap) rfl rfl (by kernel_rfl) (by kernel_rfl) (by kernel_rfl) (by kernel_rfl) rfl (fun W h => (by have u0 := cell_below h.out _ _ _ c1; go_simp)) (fun _ _ _ h => h) (Up.refl wr).drew ?_
        simp only [Act.put, List.setIfInBounds_toArray, List.set_cons_zero, List.set_cons_succ]
        refine last_take (i := 4) (d := 61) (v := .int .i64 J) rfl rfl (by kernel_rfl) (by kernel_rfl) (by kernel_rfl) (by kernel_rfl) rfl (fun _ _ => rfl) (fun _ _ _ h => h) (Up.refl wr).drew ?_
        simp only [Act.put, List.setIfInBounds_toArray, List.set_cons_zero, List.set_cons_succ]
        refine last_take (i := 6) (d := 63) (v := .pointer (some ⟨q, 0, none⟩)) rfl rfl (by kernel_rfl) (by kernel_rfl) (by kernel_rfl) (by kernel_rfl) rfl (fun _ _ => rfl) (fun _ _ _ h => h) (Up.refl wr).drew ?_
        simp only [Act.put, List.setIfInBounds_toArray, List.set_cons_zero, List.set_cons_succ]
        refine last_take (i := 7) (d := 64) (v := .pointer (some ⟨q, 0, none⟩)) rfl rfl (by kernel_rfl) (by kernel_rfl) (by kernel_rfl) (by kernel_rfl) rfl (fun _ _ => (by go_simp)) (fun _ _ _ h => h) (Up.refl wr).drew ?_
        simp only [Act.put, List.setIfInBounds_toArray, List.set_cons_zero, List.set_cons_succ]
        refine last_take (i := 8) (d := 65) (v := .pointer (some ⟨q, 1, none⟩)) rfl rfl (by kernel_rfl) (by kernel_rfl) (by kernel_rfl) (by kernel_rfl) rfl (fun _ _ => (by go_simp)) (fun _ _ _ h => h) (Up.refl wr).drew ?_
        simp only [Act.put, List.setIfInBounds_toArray, List.set_cons_zero, List.set_cons_succ]
        refine last_take (i := 9) (d := 66) (v := .slice (some ⟨g, 0, none⟩) M cap) rfl rfl (by kernel_rfl) (by kernel_rfl) (by kernel_rfl) (by kernel_rfl) rfl (fun W h => (by have u0 := cell_below h.out _ _ _ c1; go_simp)) (fun _ _ _ h => h) (Up.refl wr).drew ?_
        simp only [Act.put, List.setIfInBounds_toArray, List.set_cons_zero, List.set_cons_succ]
        refine last_take (i := 10) (d := 67) (v := .int .i64 J) rfl rfl (by kernel_rfl) (by kernel_rfl) (by kernel_rfl) (by kernel_rfl) rfl (fun _ _ => rfl) (fun _ _ _ h => h) (Up.refl wr).drew ?_
        simp only [Act.put, List.setIfInBounds_toArray, List.set_cons_zero, List.set_cons_succ]
        refine last_take (i := 11) (d := 68) (v := .pointer (some ⟨g, J, none⟩)) rfl rfl (by kernel_rfl) (by kernel_rfl) (by kernel_rfl) (by kernel_rfl) rfl (fun _ _ => (by go_simp)) (fun _ _ _ h => h) (Up.refl wr).drew ?_
        simp only [Act.put, List.setIfInBounds_toArray, List.set_cons_zero, List.set_cons_succ]
        refine last_take (i := 12) (d := 69) (v := .slice a' K c) rfl rfl (by kernel_rfl) (by kernel_rfl) (by kernel_rfl) (by kernel_rfl) rfl (fun W h => (by have u0 := cell_below h.out _ _ _ d0; go_simp)) (fun _ _ _ h => h) (Up.refl wr).drew ?_
        simp only [Act.put, List.setIfInBounds_toArray, List.set_cons_zero, List.set_cons_succ]
        refine last_take (i := 14) (d := 71) (v := .slice (some ⟨b, o, none⟩) lst.length lc) rfl rfl (by kernel_rfl) (by kernel_rfl) (by kernel_rfl) (by kernel_rfl) rfl (fun _ _ => rfl) (fun _ _ _ h => h) (Up.refl wr).drew ?_
        simp only [Act.put, List.setIfInBounds_toArray, List.set_cons_zero, List.set_cons_succ]
        refine last_take (i := 15) (d := 72) (v := .int .i64 k) rfl rfl (by kernel_rfl) (by kernel_rfl) (by kernel_rfl) (by kernel_rfl) rfl (fun _ _ => rfl) (fun _ _ _ h => h) (Up.refl wr).drew ?_
        simp only [Act.put, List.setIfInBounds_toArray, List.set_cons_zero, List.set_cons_succ]
        refine last_take (i := 16) (d := 73) (v := .pointer (some ⟨b, o + k * 2, none⟩)) rfl rfl (by kernel_rfl) (by kernel_rfl) (by kernel_rfl) (by kernel_rfl) rfl (fun _ _ => (by go_simp)) (fun _ _ _ h => h) (Up.refl wr).drew ?_
        simp only [Act.put, List.setIfInBounds_toArray, List.set_cons_zero, List.set_cons_succ]
        refine last_take (i := 17) (d := 74) (v := .agg #[.int .u32 X0, .int .i64 X1]) rfl rfl (by kernel_rfl) (by kernel_rfl) (by kernel_rfl) (by kernel_rfl) rfl (fun W h => (by have u0 := cell_below h.out _ _ _ x0; have u1 := cell_below h.out _ _ _ x1; go_simp)) (fun _ _ _ h => h) (Up.refl wr).drew ?_
        simp only [Act.put, List.setIfInBounds_toArray, List.set_cons_zero, List.set_cons_succ]
        obtain ⟨WD, hWD⟩ : ∃ WD, ({ wr with drawn := wr.drawn + 1 } : World) = WD := ⟨_, rfl⟩
        have HD : Up wr WD := by rw [← hWD]; exact (Up.refl wr).drew
        rw [hWD]
        clear hWD
        refine last_fork (i := 5) (j := 18) (di := 62) (dj := 75) (vi := .slice (some ⟨WD.heap.size, 0, none⟩) 0 0) (vj := .slice (some ⟨WD.heap.size, 0, none⟩) 1 1) (wi := WD.alloc (.cells #[] 54)) (wj := WD.alloc (.cells #[.int .u32 X0, .int .i64 X1] 54)) (by kernel_rfl) rfl rfl rfl (by go_simp) HD.alloc rfl rfl rfl (by go_simp) HD.alloc ?_ ?_
        · simp only [Act.put, List.setIfInBounds_toArray, List.set_cons_zero, List.set_cons_succ]
          have hE := App.empty HD
          obtain ⟨u3, w3, hr3, hi3, hg3, ho3⟩ := items_append (WD.alloc (.cells #[] 54)) _ [] _ _ _ _ hE.its (HROW.out _ (hE.below)) (by have := HYL.out; simp at *; omega)
          have hA3 := hE.more hi3 hg3 ho3
          refine last_fork (i := 13) (j := 18) (di := 70) (dj := 75) (vi := u3) (vj := .slice (some ⟨(WD.alloc (.cells #[] 54)).heap.size, 0, none⟩) 1 1) (wi := w3) (wj := (WD.alloc (.cells #[] 54)).alloc (.cells #[.int .u32 X0, .int .i64 X1] 54)) (by kernel_rfl) rfl rfl rfl (exec_append rfl rfl hr3) hA3.below rfl rfl rfl (by go_simp) (Up.alloc (Up.alloc HD)) ?_ ?_
          · simp only [Act.put, List.setIfInBounds_toArray, List.set_cons_zero, List.set_cons_succ]
            have hA4 := hA3.up (Up.alloc (Up.refl w3) (o := .cells #[.int .u32 X0, .int .i64 X1] 54)).out
            refine last_value (i := 18) (d := 75) (v := .slice (some ⟨w3.heap.size, 0, none⟩) 1 1) (w' := w3.alloc (.cells #[.int .u32 X0, .int .i64 X1] 54)) (by kernel_rfl) rfl rfl rfl (by go_simp) (hA4.below) ?_
            simp only [Act.put, List.setIfInBounds_toArray, List.set_cons_zero, List.set_cons_succ]
            obtain ⟨y, w9, hr9, hi9, hg9, ho9⟩ := item_append (w3.alloc (.cells #[.int .u32 X0, .int .i64 X1] 54)) _ _ (X0, X1) hA4.its (w3.heap.size) (new_block _ _) (by have := HYL.out; simp at *; omega)
            have hA9 := hA4.more hi9 hg9 ho9
            obtain ⟨ya, yc, e9, _⟩ := Its.slice hi9
            obtain ⟨M9, hM9⟩ : ∃ M9, ([] ++ Y ++ [(X0, X1)]).length = M9 := ⟨_, rfl⟩
            rw [hM9] at e9
            subst e9
            clear hM9
            refine last_value (i := 19) (d := 76) (v := _) (w' := w9) (by kernel_rfl) rfl rfl rfl (exec_append rfl rfl hr9) (hA9.below) ?_
            simp only [Act.put, List.setIfInBounds_toArray, List.set_cons_zero, List.set_cons_succ]
            obtain ⟨hz9, z9, hc9⟩ := HFRZ.out _ hA9.below
            refine last_take (i := 20) (d := 77) (v := .pointer (some ⟨g, J, none⟩)) rfl rfl (by kernel_rfl) (by kernel_rfl) (by kernel_rfl) (by kernel_rfl) rfl (fun _ _ => (by go_simp)) (fun _ _ _ h => h) hA9.below ?_
            simp only [Act.put, List.setIfInBounds_toArray, List.set_cons_zero, List.set_cons_succ]
            refine last_store (w' := w9.setCell ⟨g, J, none⟩ (.slice ya M9 yc)) (by kernel_rfl) rfl rfl rfl (by go_simp) (by kernel_rfl) ?_
            have HP := Hid.mk (HPUT.out _ _ hA9.its hA9.new hA9.below)
            have HE := Hid.mk (HSTEP.out _ HP.out)
            go_wp2
            go_roundw
            case rel => exact ⟨k + 1, HKL.out, by first | rfl | go_num, HE⟩
            case measure => have h1 : k < lst.length := HKL.out; simp [intOf]; omega
          · simp only [Act.put, List.setIfInBounds_toArray, List.set_cons_zero, List.set_cons_succ]
            have hE2 := hE.up (Up.alloc (Up.refl _) (o := .cells #[.int .u32 X0, .int .i64 X1] 54)).out
            obtain ⟨u5, w5, hr5, hi5, hg5, ho5⟩ := items_append ((WD.alloc (.cells #[] 54)).alloc (.cells #[.int .u32 X0, .int .i64 X1] 54)) _ [] _ _ _ _ hE2.its (HROW.out _ (hE2.below)) (by have := HYL.out; simp at *; omega)
            have hA5 := hE2.more hi5 hg5 ho5
            refine last_value (i := 13) (d := 70) (v := u5) (w' := w5) (by kernel_rfl) rfl rfl rfl (exec_append rfl rfl hr5) (hA5.below) ?_
            simp only [Act.put, List.setIfInBounds_toArray, List.set_cons_zero, List.set_cons_succ]
            obtain ⟨y, w9, hr9, hi9, hg9, ho9⟩ := item_append (w5) _ _ (X0, X1) hA5.its ((WD.alloc (.cells #[] 54)).heap.size) (grown_box' hg5 (new_block _ _) (fun e => (by simp [Value.ownBlock] at e))) (by have := HYL.out; simp at *; omega)
            have hA9 := hA5.more hi9 hg9 ho9
            obtain ⟨ya, yc, e9, _⟩ := Its.slice hi9
            obtain ⟨M9, hM9⟩ : ∃ M9, ([] ++ Y ++ [(X0, X1)]).length = M9 := ⟨_, rfl⟩
            rw [hM9] at e9
            subst e9
            clear hM9
            refine last_value (i := 19) (d := 76) (v := _) (w' := w9) (by kernel_rfl) rfl rfl rfl (exec_append rfl rfl hr9) (hA9.below) ?_
            simp only [Act.put, List.setIfInBounds_toArray, List.set_cons_zero, List.set_cons_succ]
            obtain ⟨hz9, z9, hc9⟩ := HFRZ.out _ hA9.below
            refine last_take (i := 20) (d := 77) (v := .pointer (some ⟨g, J, none⟩)) rfl rfl (by kernel_rfl) (by kernel_rfl) (by kernel_rfl) (by kernel_rfl) rfl (fun _ _ => (by go_simp)) (fun _ _ _ h => h) hA9.below ?_
            simp only [Act.put, List.setIfInBounds_toArray, List.set_cons_zero, List.set_cons_succ]
            refine last_store (w' := w9.setCell ⟨g, J, none⟩ (.slice ya M9 yc)) (by kernel_rfl) rfl rfl rfl (by go_simp) (by kernel_rfl) ?_
            have HP := Hid.mk (HPUT.out _ _ hA9.its hA9.new hA9.below)
            have HE := Hid.mk (HSTEP.out _ HP.out)
            go_wp2
            go_roundw
            case rel => exact ⟨k + 1, HKL.out, by first | rfl | go_num, HE⟩
            case measure => have h1 : k < lst.length := HKL.out; simp [intOf]; omega
        · simp only [Act.put, List.setIfInBounds_toArray, List.set_cons_zero, List.set_cons_succ]
          have hX := Up.alloc HD (o := .cells #[.int .u32 X0, .int .i64 X1] 54)
          have hE3 := App.empty hX
          refine last_value (i := 5) (d := 62) (v := .slice (some ⟨(WD.alloc (.cells #[.int .u32 X0, .int .i64 X1] 54)).heap.size, 0, none⟩) 0 0) (w' := (WD.alloc (.cells #[.int .u32 X0, .int .i64 X1] 54)).alloc (.cells #[] 54)) (by kernel_rfl) rfl rfl rfl (by go_simp) (hE3.below) ?_
          simp only [Act.put, List.setIfInBounds_toArray, List.set_cons_zero, List.set_cons_succ]
          obtain ⟨u6, w6, hr6, hi6, hg6, ho6⟩ := items_append ((WD.alloc (.cells #[.int .u32 X0, .int .i64 X1] 54)).alloc (.cells #[] 54)) _ [] _ _ _ _ hE3.its (HROW.out _ (hE3.below)) (by have := HYL.out; simp at *; omega)
          have hA6 := hE3.more hi6 hg6 ho6
          refine last_value (i := 13) (d := 70) (v := u6) (w' := w6) (by kernel_rfl) rfl rfl rfl (exec_append rfl rfl hr6) (hA6.below) ?_
          simp only [Act.put, List.setIfInBounds_toArray, List.set_cons_zero, List.set_cons_succ]
          obtain ⟨y, w9, hr9, hi9, hg9, ho9⟩ := item_append (w6) _ _ (X0, X1) hA6.its (WD.heap.size) (grown_box' hg6 (new_block1 _ _ _) (fun e => (by simp [Value.ownBlock] at e))) (by have := HYL.out; simp at *; omega)
          have hA9 := hA6.more hi9 hg9 ho9
          obtain ⟨ya, yc, e9, _⟩ := Its.slice hi9
          obtain ⟨M9, hM9⟩ : ∃ M9, ([] ++ Y ++ [(X0, X1)]).length = M9 := ⟨_, rfl⟩
          rw [hM9] at e9
          subst e9
          clear hM9
          refine last_value (i := 19) (d := 76) (v := _) (w' := w9) (by kernel_rfl) rfl rfl rfl (exec_append rfl rfl hr9) (hA9.below) ?_
          simp only [Act.put, List.setIfInBounds_toArray, List.set_cons_zero, List.set_cons_succ]
          obtain ⟨hz9, z9, hc9⟩ := HFRZ.out _ hA9.below
          refine last_take (i := 20) (d := 77) (v := .pointer (some ⟨g, J, none⟩)) rfl rfl (by kernel_rfl) (by kernel_rfl) (by kernel_rfl) (by kernel_rfl) rfl (fun _ _ => (by go_simp)) (fun _ _ _ h => h) hA9.below ?_
          simp only [Act.put, List.setIfInBounds_toArray, List.set_cons_zero, List.set_cons_succ]
          refine last_store (w' := w9.setCell ⟨g, J, none⟩ (.slice ya M9 yc)) (by kernel_rfl) rfl rfl rfl (by go_simp) (by kernel_rfl) ?_
          have HP := Hid.mk (HPUT.out _ _ hA9.its hA9.new hA9.below)
          have HE := Hid.mk (HSTEP.out _ HP.out)
          go_wp2
          go_roundw
          case rel => exact ⟨k + 1, HKL.out, by first | rfl | go_num, HE⟩
          case measure => have h1 : k < lst.length := HKL.out; simp [intOf]; omega
      · obtain rfl : k = lst.length := by omega
        clear hkl
        have hE := hA.out
        rw [List.take_length] at hE
        have HE := Hid.mk (HFIN.out _ hE)
        clear hA hE
        go_wp2
        go_ret
        exact ⟨rfl, HE.out⟩
  · rw [if_neg hle, if_neg hle]
    have HST := Hid.mk (fun (w' : World) (hw : Below w.heap.size w w') => Rb.step ⟨_, hb⟩ hw)
    obtain ⟨N, hN⟩ : ∃ N, B.length = N := ⟨_, rfl⟩
    rw [hN] at c1 hle
    have g1 : ¬ (least : Int) < N := by omega
    have g1' : (N : Int) ≤ least := by omega
    clear hb h1 h2 hu hfit hcap0 hN hle hl
    go_enter Try.func34, Try.ntmps34
    go_upto_region 1 with fail
    refine region_up (W := w) (by kernel_rfl) (by kernel_rfl) (Up.refl _) ?_
    refine quiet_value (v := .pointer (some ⟨q, 0, none⟩)) rfl (fun _ _ => rfl) ?_
    simp only [Act.put, List.setIfInBounds_toArray, List.set_cons_zero, List.set_cons_succ]
    refine quiet_value (v := .pointer (some ⟨q, 0, none⟩)) rfl (fun _ _ => (by go_simp)) ?_
    simp only [Act.put, List.setIfInBounds_toArray, List.set_cons_zero, List.set_cons_succ]
    refine quiet_value (v := .pointer (some ⟨q, 1, none⟩)) rfl (fun _ _ => (by go_simp)) ?_
    simp only [Act.put, List.setIfInBounds_toArray, List.set_cons_zero, List.set_cons_succ]
    refine quiet_value (v := .slice (some ⟨g0, 0, none⟩) N cap0) rfl (fun W h => (by have u0 := cell_below h.out _ _ _ c1; go_simp)) ?_
    simp only [Act.put, List.setIfInBounds_toArray, List.set_cons_zero, List.set_cons_succ]
    refine quiet_value (v := .int .i64 N) rfl (fun _ _ => (by go_simp)) ?_
    simp only [Act.put, List.setIfInBounds_toArray, List.set_cons_zero, List.set_cons_succ]
    refine quiet_value (v := .pointer (some ⟨q, 0, none⟩)) rfl (fun _ _ => rfl) ?_
    simp only [Act.put, List.setIfInBounds_toArray, List.set_cons_zero, List.set_cons_succ]
    refine quiet_value (v := .pointer (some ⟨q, 0, none⟩)) rfl (fun _ _ => (by go_simp)) ?_
    simp only [Act.put, List.setIfInBounds_toArray, List.set_cons_zero, List.set_cons_succ]
    refine quiet_value (v := .pointer (some ⟨q, 0, none⟩)) rfl (fun _ _ => (by go_simp)) ?_
    simp only [Act.put, List.setIfInBounds_toArray, List.set_cons_zero, List.set_cons_succ]
    refine quiet_value (v := .int .i64 least) rfl (fun W h => (by have u0 := cell_below h.out _ _ _ c0; go_simp)) ?_
    simp only [Act.put, List.setIfInBounds_toArray, List.set_cons_zero, List.set_cons_succ]
    refine quiet_value (v := .bool true) rfl (fun _ _ => (by go_simp)) ?_
    simp only [Act.put, List.setIfInBounds_toArray, List.set_cons_zero, List.set_cons_succ]
    refine quiet_nil ?_
    intro w1 hw1
    have HW1 := Hid.mk hw1
    clear hw1 c0 c1
    go_wp2
    go_ret
    exact ⟨rfl, HST.out _ HW1.out.out⟩
end Go.Proofs.Ytkijbphbibcnoaa
