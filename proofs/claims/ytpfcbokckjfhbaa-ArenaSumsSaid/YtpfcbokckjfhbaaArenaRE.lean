/-
  The document's arenas: a block taken; one is made.
-/
import Derived.Test.YtpfcbokckjfhbaaArenaRD
namespace Go.Proofs.Ytpfcbokckjfhbaa
open Go.RowKit Go.Deep Go.Maps Go.WideShapes

theorem blockInfo : (Try.prog.info? 79).map (fun i => (i.zero, i.size, i.bytes)) = some (some (.agg #[.int .i64 0, .slice none 0 0]), 2, 32) := by kernel_rfl
theorem block_append (w : World) (ty : TypeId) (v : Value) (n : Nat) (xs : List Value) (h : w.ownsRow 0 79 2 v n xs) (g : Nat) (x y : Value) (hx : x.oneCell' = true) (hy : y.oneCell' = true) (c0 : w.cell? ⟨g, 0, none⟩ = some x) (c1 : w.cell? ⟨g, 1, none⟩ = some y) (hn : n ≤ 1000) :
    ∃ v' w', (Builtin.append_ #[65, 65] ty #[v, .slice (some ⟨g, 0, none⟩) 1 1]).run Try.prog w = .ok v' w' ∧ w'.ownsRow 0 79 2 v' (n + 1) (xs ++ [x, y]) ∧ w.grownBy w' v.ownBlock ∧ (v'.ownBlock = v.ownBlock ∨ v'.ownBlock = some w.heap.size) := by
  have hi := blockInfo
  cases hq : Try.prog.info? 79 with
  | none => rw [hq] at hi; cases hi
  | some i =>
    rw [hq] at hi
    simp only [Option.map_some, Option.some.injEq, Prod.mk.injEq] at hi
    obtain ⟨hz, hs, hb⟩ := hi
    obtain ⟨v', w', hr, ho, hg, _, ha⟩ := run_append_own_at (P := Try.prog) w 0 65 ty 79 i _ 2 32 Try.underlying65 hq hz hs hb rfl (by decide) v n _ h ⟨g, 0, none⟩ 1 1 [x, y] rfl
      (fun j u hu => by
        match j, hu with
        | 0, hu => cases hu; exact c0
        | 1, hu => cases hu; exact c1
        | j + 2, hu => simp at hu)
      (fun u hu => by
        rcases List.mem_cons.1 hu with rfl | hu
        · exact hx
        · obtain rfl := List.mem_singleton.1 hu; exact hy) (by unfold maxLen; omega) (by omega) (Nat.zero_le _)
    exact ⟨v', w', hr, ho, hg, ha⟩

theorem ownsRow_only {T : Nat → Prop} {w w' : World} {base : Nat} {e : TypeId} {size : Nat} {v : Value} {n : Nat} {xs : List Value} (h : w.ownsRow base e size v n xs) (ho : Only T w w') (hT : ∀ g, v.ownBlock = some g → ¬ T g) : w'.ownsRow base e size v n xs := by
  refine ⟨h.1, ?_⟩
  rcases h.2 with e | ⟨g, cap, cur, rfl, hb, hh, hr⟩
  · exact Or.inl e
  · exact Or.inr ⟨g, cap, cur, rfl, hb, ho.box hh (hT g rfl), hr⟩
/-- A block behind all others: what is left. -/
theorem ra_snoc {w w5 : World} {q W : Nat} {v v' lv : Value} {S : Nat → Prop} {B : Blks} {l : List Int} (h : Ra w q v S W B) (o : Only (fun k => k = q ∨ v.ownBlock = some k) w w5)
    (box5 : w5.heap[q]? = some (.cells #[.int .i64 W, v'] 67))
    (xs : List Value) (g1 : w.ownsRow 0 79 2 v B.length xs) (g2 : ∀ i, i < B.length → xs[i * 2]? = some (.int .i64 (numAt B i)))
    (g3 : ∀ i, i < B.length → ∃ lv l, xs[i * 2 + 1]? = some lv ∧ Wds w lv l ∧ (∀ o, B[i]? = some (some o) → l = o) ∧ (∀ g, lv.ownBlock = some g → S g ∧ g ≠ q ∧ v.ownBlock ≠ some g))
    (g5 : w5.ownsRow 0 79 2 v' (B.length + 1) (xs ++ [.int .i64 ((B.length + 1 : Nat) : Int), lv]))
    (hat : ∀ g, v'.ownBlock = some g → v.ownBlock = some g ∨ w.heap.size ≤ g ∧ lv.ownBlock ≠ some g) (hlv : Wds w5 lv l) (hn : ∀ g, lv.ownBlock = some g → w.heap.size ≤ g) (h1 : 1 ≤ l.length) (h2 : l.length ≤ 1000) : StepR w q v S W (B ++ [some l]) w5 := by
  have hql := h.lt q h.sq
  have hxl := g1.1
  refine ⟨v', fun k => S k ∨ lv.ownBlock = some k ∨ v'.ownBlock = some k, ⟨box5, ⟨_, by rw [List.length_append]; exact g5, fun i hi => ?_, fun i hi => ?_⟩, Or.inl h.sq, fun g hg => Or.inr (Or.inr hg), fun e => ?_, fun k hk => ?_, good_snoc h.good h1 h2⟩, o, fun k hk => ?_⟩
  · simp at hi
    by_cases e : i = B.length
    · subst e
      rw [List.getElem?_append_right (by omega), show B.length * 2 - xs.length = 0 by omega]
      unfold numAt
      simp
    · rw [List.getElem?_append_left (by omega), g2 i (by omega)]
      unfold numAt
      rw [List.getElem?_append_left (by omega)]
  · simp at hi
    by_cases e : i = B.length
    · subst e
      refine ⟨lv, l, ?_, hlv, fun o ho => ?_, fun g hg => ⟨Or.inr (Or.inl hg), fun e => (by have := hn g hg; omega), fun e => ?_⟩⟩
      · rw [List.getElem?_append_right (by omega), show B.length * 2 + 1 - xs.length = 1 by omega]
        rfl
      · simp at ho; exact ho
      · rcases hat g e with e' | e'
        · have := h.lt g (h.sv g e'); have := hn g hg; omega
        · exact e'.2 hg
    · obtain ⟨lv0, l0, k1, k2, k3, k4⟩ := g3 i (by omega)
      refine ⟨lv0, l0, ?_, k2.kept o (fun g hg => ?_), fun o ho => k3 o ?_, fun g hg => ⟨Or.inl (k4 g hg).1, (k4 g hg).2.1, fun e' => ?_⟩⟩
      · rw [List.getElem?_append_left (by omega)]; exact k1
      · have := k4 g hg
        rintro (e' | e')
        · exact this.2.1 e'
        · exact this.2.2 e'
      · rwa [List.getElem?_append_left (by omega)] at ho
      · rcases hat g e' with e2 | e2
        · exact (k4 g hg).2.2 e2
        · have := h.lt g (k4 g hg).1; omega
  · rcases hat q e with e' | e'
    · exact h.nv e'
    · omega
  · rcases hk with hk | hk | hk
    · exact Nat.lt_of_lt_of_le (h.lt k hk) o.size
    · exact hlv.block_lt hk
    · exact (g5.lt k hk).2
  · rcases hk with hk | hk | hk
    · exact Or.inl hk
    · exact Or.inr (hn k hk)
    · rcases hat k hk with e' | e'
      · exact Or.inl (h.sv k e')
      · exact Or.inr e'.1

theorem usedR_up {q W U : Nat} {v : Value} {S : Nat → Prop} {B : Blks} {w : World} (h : Ra w q v S W B) (hB : B.length ≤ 1000) (hu : usedB B ≤ 16777216) (hU : usedB B = U) :
    Calls Try.prog 33 #[.pointer (some ⟨q, 0, none⟩)] w fun e w' => e = .returned (.int .i64 U) ∧ Below w.heap.size w w' := by
  refine (usedR_any q W v S B w h hB hu).mono fun e w' hh => ?_
  obtain ⟨rfl, rfl⟩ := hh
  rw [hU]
  exact ⟨rfl, Below.refl _ _⟩

set_option maxRecDepth 100000 in
set_option maxHeartbeats 4000000 in
theorem refTake_any (q W : Nat) (v : Value) (S : Nat → Prop) (B : Blks) (l : List Int) (a : Option Addr) (cap : Nat) (w : World) (h : Ra w q v S W B) (hc : Cel w l a) (hl : l.length ≤ 1000) (hB : B.length ≤ 1000) (hu : usedB B ≤ W) (hW : W ≤ 16777216) :
    Calls Try.prog 27 #[.pointer (some ⟨q, 0, none⟩), .slice a l.length cap] w fun e w' => e = .returned (.tuple #[.int .i64 (takeR W B l).1, .int .i64 (takeR W B l).2.1]) ∧ StepR w q v S W (takeR W B l).2.2 w' := by
  obtain ⟨c0, c1, f1⟩ := h.cells
  have HR := Hid.mk h
  by_cases h0 : l.length = 0
  · rw [take_none h0]
    have hrl := Hid.mk (roundR_at (n := (l.length : Int)) (r := 0) (rnd_out (by omega)))
    clear h hc hl hB h0 hu hW
    go_enter Try.func27, Try.ntmps27
    go_wp2_with (go_at_call 14; refine (hrl.out _).mono ?_; rintro e w1 ⟨rfl, hb⟩)
    go_ret2
    exact ⟨rfl, HR.out.step hb⟩
  · obtain ⟨C, hC⟩ : ∃ C, cls l.length = C := ⟨_, rfl⟩
    obtain ⟨U, hU⟩ : ∃ U, usedB B = U := ⟨_, rfl⟩
    have hcp := cls_pos l.length
    have hcm := cls_most (n := l.length) (by omega)
    have hrl := Hid.mk (roundR_at (n := (l.length : Int)) (r := C) (by rw [rnd_in (by omega) (by omega), hC]))
    have hus : Hid (∀ w1, Ra w1 q v S W B → Calls Try.prog 33 #[.pointer (some ⟨q, 0, none⟩)] w1 fun e w' => e = .returned (.int .i64 U) ∧ Below w1.heap.size w1 w') := Hid.mk (fun w1 h1 => usedR_up h1 hB (by omega) hU)
    rw [hC] at hcp hcm
    have hC0 : ((C : Int) == 0) = false := by simp; omega
    have hws : IntKind.i64.wrap ((W : Int) - U) = (W : Int) - U := wrap_id (by omega) (by omega)
    by_cases hf : W < U + C
    · rw [take_full (by omega) (by omega)]
      have hd : decide ((W : Int) - U < C) = true := by rw [decide_eq_true_eq]; omega
      clear h hc hl hB h0 hu hW hC hU hcp hcm hf
      go_enter Try.func27, Try.ntmps27
      go_upto_region 3 with (go_at_call 14; refine (hrl.out _).mono ?_; rintro e w1 ⟨rfl, hb⟩; have HB1 := Hid.mk hb; have HR1 := Hid.mk (HR.out.up hb); clear hb; obtain ⟨c0, c1, f1⟩ := HR1.out.cells)
      refine region_up (W := w1) (by kernel_rfl) (by kernel_rfl) (Up.refl _) ?_
      refine quiet_value (v := .slice a l.length cap) rfl (fun _ _ => rfl) ?_
      simp only [Act.put, List.setIfInBounds_toArray, List.set_cons_zero, List.set_cons_succ]
      refine quiet_value (v := .int .i64 l.length) rfl (fun _ _ => (by go_simp)) ?_
      simp only [Act.put, List.setIfInBounds_toArray, List.set_cons_zero, List.set_cons_succ]
      refine quiet_call (v := .int .i64 C) rfl (fun W => (by go_simp)) (fun W h => (hrl.out W).mono fun e w' ⟨he, hb⟩ => ⟨he, h.call hb⟩) ?_
      simp only [Act.put, List.setIfInBounds_toArray, List.set_cons_zero, List.set_cons_succ]
      refine quiet_value (v := .pointer (some ⟨q, 0, none⟩)) rfl (fun _ _ => rfl) ?_
      simp only [Act.put, List.setIfInBounds_toArray, List.set_cons_zero, List.set_cons_succ]
      refine quiet_value (v := .pointer (some ⟨q, 0, none⟩)) rfl (fun _ _ => (by go_simp)) ?_
      simp only [Act.put, List.setIfInBounds_toArray, List.set_cons_zero, List.set_cons_succ]
      refine quiet_value (v := .pointer (some ⟨q, 0, none⟩)) rfl (fun _ _ => (by go_simp)) ?_
      simp only [Act.put, List.setIfInBounds_toArray, List.set_cons_zero, List.set_cons_succ]
      refine quiet_value (v := .int .i64 W) rfl (fun W h => (by have u0 := cell_below h.out _ _ _ c0; go_simp)) ?_
      simp only [Act.put, List.setIfInBounds_toArray, List.set_cons_zero, List.set_cons_succ]
      refine quiet_value (v := .pointer (some ⟨q, 0, none⟩)) rfl (fun _ _ => rfl) ?_
      simp only [Act.put, List.setIfInBounds_toArray, List.set_cons_zero, List.set_cons_succ]
      refine quiet_call (v := .int .i64 U) rfl (fun W => (by go_simp)) (fun W h => (hus.out W (HR1.out.up h.out)).mono fun e w' ⟨he, hb⟩ => ⟨he, h.call hb⟩) ?_
      simp only [Act.put, List.setIfInBounds_toArray, List.set_cons_zero, List.set_cons_succ]
      refine quiet_value (v := .int .i64 (W - U)) rfl (fun _ _ => (by go_simp)) ?_
      simp only [Act.put, List.setIfInBounds_toArray, List.set_cons_zero, List.set_cons_succ]
      refine quiet_value (v := .bool true) rfl (fun _ _ => (by go_simp)) ?_
      simp only [Act.put, List.setIfInBounds_toArray, List.set_cons_zero, List.set_cons_succ]
      refine quiet_nil ?_
      intro w2 hw2
      have HW2 := Hid.mk hw2
      clear hw2
      go_wp2
      go_ret2
      exact ⟨rfl, HR.out.step (HB1.out.trans (HW2.out.out.mono HB1.out.size))⟩
    · rw [take_new (by omega) (by omega)]
      have hd : decide ((W : Int) - U < C) = false := by rw [decide_eq_false_iff_not]; omega
      obtain ⟨ra, rcap, rfl⟩ := h.slice
      obtain ⟨N, hN⟩ : ∃ N, B.length = N := ⟨_, rfl⟩
      obtain ⟨N1, hN1⟩ : ∃ N1, N + 1 = N1 := ⟨_, rfl⟩
      have hw1 : IntKind.i64.wrap ((N : Int) + 1) = (N1 : Int) := by rw [wrap_id (by omega) (by omega)]; omega
      have HH := Hid.mk (show 1 ≤ l.length ∧ l.length ≤ 1000 ∧ B.length = N ∧ N + 1 = N1 ∧ N ≤ 1000 from ⟨by omega, hl, hN, hN1, by omega⟩)
      have HC := Hid.mk hc
      rw [hN] at c1 HR hus
      rw [hN] at ⊢
      clear h hc hl hB h0 hu hW hC hU hcp hcm hf hN hN1
      go_enter Try.func27, Try.ntmps27
      go_upto_region 3 with (go_at_call 14; refine (hrl.out _).mono ?_; rintro e w1 ⟨rfl, hb⟩; have HB1 := Hid.mk hb; have HR1 := Hid.mk (HR.out.up hb); clear hb; obtain ⟨c0, c1, f1⟩ := HR1.out.cells)
      refine region_up (W := w1) (by kernel_rfl) (by kernel_rfl) (Up.refl _) ?_
      refine quiet_value (v := .slice a l.length cap) rfl (fun _ _ => rfl) ?_
      simp only [Act.put, List.setIfInBounds_toArray, List.set_cons_zero, List.set_cons_succ]
      refine quiet_value (v := .int .i64 l.length) rfl (fun _ _ => (by go_simp)) ?_
      simp only [Act.put, List.setIfInBounds_toArray, List.set_cons_zero, List.set_cons_succ]
      refine quiet_call (v := .int .i64 C) rfl (fun W => (by go_simp)) (fun W h => (hrl.out W).mono fun e w' ⟨he, hb⟩ => ⟨he, h.call hb⟩) ?_
      simp only [Act.put, List.setIfInBounds_toArray, List.set_cons_zero, List.set_cons_succ]
      refine quiet_value (v := .pointer (some ⟨q, 0, none⟩)) rfl (fun _ _ => rfl) ?_
      simp only [Act.put, List.setIfInBounds_toArray, List.set_cons_zero, List.set_cons_succ]
      refine quiet_value (v := .pointer (some ⟨q, 0, none⟩)) rfl (fun _ _ => (by go_simp)) ?_
      simp only [Act.put, List.setIfInBounds_toArray, List.set_cons_zero, List.set_cons_succ]
      refine quiet_value (v := .pointer (some ⟨q, 0, none⟩)) rfl (fun _ _ => (by go_simp)) ?_
      simp only [Act.put, List.setIfInBounds_toArray, List.set_cons_zero, List.set_cons_succ]
      refine quiet_value (v := .int .i64 W) rfl (fun W h => (by have u0 := cell_below h.out _ _ _ c0; go_simp)) ?_
      simp only [Act.put, List.setIfInBounds_toArray, List.set_cons_zero, List.set_cons_succ]
      refine quiet_value (v := .pointer (some ⟨q, 0, none⟩)) rfl (fun _ _ => rfl) ?_
      simp only [Act.put, List.setIfInBounds_toArray, List.set_cons_zero, List.set_cons_succ]
      refine quiet_call (v := .int .i64 U) rfl (fun W => (by go_simp)) (fun W h => (hus.out W (HR1.out.up h.out)).mono fun e w' ⟨he, hb⟩ => ⟨he, h.call hb⟩) ?_
      simp only [Act.put, List.setIfInBounds_toArray, List.set_cons_zero, List.set_cons_succ]
      refine quiet_value (v := .int .i64 (W - U)) rfl (fun _ _ => (by go_simp)) ?_
      simp only [Act.put, List.setIfInBounds_toArray, List.set_cons_zero, List.set_cons_succ]
      refine quiet_value (v := .bool false) rfl (fun _ _ => (by go_simp)) ?_
      simp only [Act.put, List.setIfInBounds_toArray, List.set_cons_zero, List.set_cons_succ]
      refine quiet_nil ?_
      intro w2 hw2
      have HU2 := Hid.mk (HB1.out.trans (hw2.out.mono HB1.out.size))
      have HR2 := Hid.mk (HR1.out.up hw2.out)
      have HC2 := Hid.mk (HC.out.up HU2.out)
      clear hw2 c0 c1 f1
      obtain ⟨k0, k1, kf⟩ := HR2.out.cells
      go_upto_region 6 with fail
      obtain ⟨lv, w3, hr3, h3, hn3, hb3⟩ := copy_run l a cap w2.drew (HC2.out.up (Below.drew (Below.refl w2.heap.size w2))) HH.out.1 HH.out.2.1
      obtain ⟨la, lc, rfl⟩ := owns_slice h3
      have hu3 : Up w2 w3 := (Up.refl w2).drew.call hb3
      obtain ⟨w4, hw4⟩ : ∃ w4, w3.alloc (.cells #[.int .i64 N1, .slice la l.length lc] 79) = w4 := ⟨_, rfl⟩
      have hb4 : Below w3.heap.size w3 w4 := by rw [← hw4]; exact (Up.refl w3).alloc.out
      have hx4 : w4.heap[w3.heap.size]? = some (.cells #[.int .i64 N1, .slice la l.length lc] 79) := by rw [← hw4]; exact new_block _ _
      have hz4 : w4.heap.size = w3.heap.size + 1 := by rw [← hw4]; simp
      have hu4 : Up w2 w4 := hu3.call hb4
      obtain ⟨xs, hx1, hx2, hx3⟩ := HR2.out.row
      rw [HH.out.2.2.1] at hx1 hx2 hx3
      obtain ⟨v5, w5, hr5, h5, hg5, ha5⟩ := block_append w4 65 _ N xs (ownsRow_up hx1 hu4.out) w3.heap.size (.int .i64 N1) (.slice la l.length lc) rfl rfl (by simp [World.cell?, hx4]) (by simp [World.cell?, hx4]) HH.out.2.2.2.2
      obtain ⟨ra5, rc5, rfl⟩ := owns_slice h5
      have nq : ¬ (Value.slice ra N rcap).ownBlock = some q := HR2.out.nv
      have o4 : Only (fun k => (Value.slice ra N rcap).ownBlock = some k) w2 w4 := Only.up hu4.out
      have o3 : Only (fun k => (Value.slice ra N rcap).ownBlock = some k) w2 w3 := Only.up hu3.out
      have o5 : Only (fun k => (Value.slice ra N rcap).ownBlock = some k) w2 w5 := o4.grow hg5 (fun k hk => hk)
      have hq5 := o5.box HR2.out.box nq
      have q1 : w5.cell? ⟨q, 1, none⟩ = some (.slice ra N rcap) := by simp [World.cell?, hq5]
      have qf : w5.frozen? ⟨q, 1, none⟩ = false := by simp [World.frozen?, hq5]
      have hr3a : w2.drew.heap.size = w2.heap.size := rfl
      refine wp_region_last (last := 14) (S := fun Wx => Only (fun k => (Value.slice ra N rcap).ownBlock = some k) w2 Wx) (by kernel_rfl) ?_
      refine last_take (i := 0) (d := 28) (v := .pointer (some ⟨q, 0, none⟩)) rfl rfl (by kernel_rfl) (by kernel_rfl) (by kernel_rfl) (by kernel_rfl) rfl (fun _ _ => rfl) (fun _ _ _ h => h) (Only.refl _ w2).drew ?_
      simp only [Act.put, List.setIfInBounds_toArray, List.set_cons_zero, List.set_cons_succ]
      refine last_take (i := 1) (d := 29) (v := .pointer (some ⟨q, 0, none⟩)) rfl rfl (by kernel_rfl) (by kernel_rfl) (by kernel_rfl) (by kernel_rfl) rfl (fun _ _ => rfl) (fun _ _ _ h => h) (Only.refl _ w2).drew ?_
      simp only [Act.put, List.setIfInBounds_toArray, List.set_cons_zero, List.set_cons_succ]
      refine last_take (i := 2) (d := 30) (v := .pointer (some ⟨q, 0, none⟩)) rfl rfl (by kernel_rfl) (by kernel_rfl) (by kernel_rfl) (by kernel_rfl) rfl (fun _ _ => (by go_simp)) (fun _ _ _ h => h) (Only.refl _ w2).drew ?_
      simp only [Act.put, List.setIfInBounds_toArray, List.set_cons_zero, List.set_cons_succ]
      refine last_take (i := 3) (d := 31) (v := .pointer (some ⟨q, 1, none⟩)) rfl rfl (by kernel_rfl) (by kernel_rfl) (by kernel_rfl) (by kernel_rfl) rfl (fun _ _ => (by go_simp)) (fun _ _ _ h => h) (Only.refl _ w2).drew ?_
      simp only [Act.put, List.setIfInBounds_toArray, List.set_cons_zero, List.set_cons_succ]
      refine last_take (i := 4) (d := 32) (v := .slice ra N rcap) rfl rfl (by kernel_rfl) (by kernel_rfl) (by kernel_rfl) (by kernel_rfl) rfl (fun W h => (by have u0 := Only.cellS h nq k1; go_simp)) (fun _ _ _ h => h) (Only.refl _ w2).drew ?_
      simp only [Act.put, List.setIfInBounds_toArray, List.set_cons_zero, List.set_cons_succ]
      refine last_take (i := 5) (d := 33) (v := .int .i64 N1) rfl rfl (by kernel_rfl) (by kernel_rfl) (by kernel_rfl) (by kernel_rfl) rfl (fun _ _ => rfl) (fun _ _ _ h => h) (Only.refl _ w2).drew ?_
      simp only [Act.put, List.setIfInBounds_toArray, List.set_cons_zero, List.set_cons_succ]
      refine last_take (i := 7) (d := 35) (v := .slice a l.length cap) rfl rfl (by kernel_rfl) (by kernel_rfl) (by kernel_rfl) (by kernel_rfl) rfl (fun _ _ => rfl) (fun _ _ _ h => h) (Only.refl _ w2).drew ?_
      simp only [Act.put, List.setIfInBounds_toArray, List.set_cons_zero, List.set_cons_succ]
      refine last_value (i := 6) (d := 34) (v := .slice (some ⟨w2.drew.heap.size, 0, none⟩) 0 0) (w' := w2.drew.alloc (.cells #[] 72)) (by kernel_rfl) rfl rfl rfl (by go_simp) (Only.up ((Up.refl w2).drew.alloc).out) ?_
      simp only [Act.put, List.setIfInBounds_toArray, List.set_cons_zero, List.set_cons_succ]
      refine last_value (i := 8) (d := 36) (v := .slice la l.length lc) (w' := w3) (by kernel_rfl) rfl rfl rfl (exec_append rfl rfl hr3) (o3) ?_
      simp only [Act.put, List.setIfInBounds_toArray, List.set_cons_zero, List.set_cons_succ]
      refine last_value (i := 9) (d := 37) (v := .agg #[.int .i64 N1, .slice la l.length lc]) (w' := w3) (by kernel_rfl) rfl rfl rfl (by go_simp) (o3) ?_
      simp only [Act.put, List.setIfInBounds_toArray, List.set_cons_zero, List.set_cons_succ]
      refine last_value (i := 10) (d := 38) (v := .slice (some ⟨w3.heap.size, 0, none⟩) 1 1) (w' := w4) (by kernel_rfl) rfl rfl rfl (by go_simp) (o4) ?_
      simp only [Act.put, List.setIfInBounds_toArray, List.set_cons_zero, List.set_cons_succ]
      refine last_value (i := 11) (d := 39) (v := .slice ra5 (N + 1) rc5) (w' := w5) (by kernel_rfl) rfl rfl rfl (exec_append rfl rfl hr5) (o5) ?_
      simp only [Act.put, List.setIfInBounds_toArray, List.set_cons_zero, List.set_cons_succ]
      refine last_value (i := 12) (d := 40) (v := .pointer (some ⟨q, 0, none⟩)) (w' := w5) (by kernel_rfl) rfl rfl rfl (by go_simp) (o5) ?_
      simp only [Act.put, List.setIfInBounds_toArray, List.set_cons_zero, List.set_cons_succ]
      refine last_value (i := 13) (d := 41) (v := .pointer (some ⟨q, 1, none⟩)) (w' := w5) (by kernel_rfl) rfl rfl rfl (by go_simp) (o5) ?_
      simp only [Act.put, List.setIfInBounds_toArray, List.set_cons_zero, List.set_cons_succ]
      refine last_store (w' := w5.setCell ⟨q, 1, none⟩ (.slice ra5 (N + 1) rc5)) (by kernel_rfl) rfl rfl rfl (by go_simp) (by kernel_rfl) ?_
      have o6 : Only (fun k => k = q ∨ (Value.slice ra N rcap).ownBlock = some k) w2 (w5.setCell ⟨q, 1, none⟩ (.slice ra5 (N + 1) rc5)) := (o5.mono (S' := fun k => k = q ∨ (Value.slice ra N rcap).ownBlock = some k) (fun k hk => Or.inr hk)).put (p := q) (Or.inl rfl) _ _
      have o56 : Only (fun k => k = q) w5 (w5.setCell ⟨q, 1, none⟩ (.slice ra5 (N + 1) rc5)) := Only.set _ _ rfl
      have o36 : Only (fun k => k = q ∨ (Value.slice ra N rcap).ownBlock = some k) w3 (w5.setCell ⟨q, 1, none⟩ (.slice ra5 (N + 1) rc5)) := ((Only.up (S := fun k => k = q ∨ (Value.slice ra N rcap).ownBlock = some k) hb4).grow hg5 (fun k hk => Or.inr hk)).put (p := q) (Or.inl rfl) _ _
      have hz3 := hu3.out.size
      have hlv : ∀ g, (Value.slice la l.length lc).ownBlock = some g → w2.heap.size ≤ g ∧ g < w3.heap.size := fun g hg => ⟨hn3 g hg, h3.block_lt hg⟩
      have hv5 : ∀ g, (Value.slice ra5 (N + 1) rc5).ownBlock = some g → (Value.slice ra N rcap).ownBlock = some g ∨ w2.heap.size ≤ g ∧ (Value.slice la l.length lc).ownBlock ≠ some g := fun g hg => by
        rcases ha5 with e | e
        · rw [e] at hg; exact Or.inl hg
        · rw [e] at hg; cases hg
          exact Or.inr ⟨by omega, fun e => (by have := (hlv _ e).2; omega)⟩
      have hql := HR2.out.lt q HR2.out.sq
      have hb6 : (w5.setCell ⟨q, 1, none⟩ (.slice ra5 (N + 1) rc5)).heap[q]? = some (.cells #[.int .i64 W, .slice ra5 (N + 1) rc5] 67) := by simp [World.setCell, Array.getElem?_modify, hq5]
      have HF := Hid.mk (ra_snoc (v' := .slice ra5 (N + 1) rc5) (lv := .slice la l.length lc) (l := l) HR2.out o6 hb6 xs (by rw [HH.out.2.2.1]; exact hx1) (by rw [HH.out.2.2.1]; exact hx2) (by rw [HH.out.2.2.1]; exact hx3)
        (by rw [HH.out.2.2.1, HH.out.2.2.2.1]; rw [← HH.out.2.2.2.1] at h5 ⊢; exact ownsRow_only h5 o56 (fun g hg e => by rcases hv5 g hg with e' | e'
                                                                                                                          · exact nq (e ▸ e')
                                                                                                                          · omega))
        hv5 (h3.kept o36 (fun g hg e => by rcases e with e | e
                                           · have := (hlv g hg).1; omega
                                           · have := HR2.out.lt g (HR2.out.sv g e); have := (hlv g hg).1; omega)) (fun g hg => (hlv g hg).1) HH.out.1 HH.out.2.1)
      clear o6 o56 o36 hz3 hlv hv5 hql hb6 hx1 hx2 hx3 h5 hg5 ha5 hr5 hr3 h3 hn3 hb3 hu3 hu4 hb4 hx4 hz4 hw4 o3 o4 o5 nq hq5 q1 qf hr3a k0 k1 kf
      go_wp2
      go_ret2
      exact ⟨(by show _ = Ending.returned (.tuple #[.int .i64 ((N + 1 : Nat) : Int), .int .i64 0]); rw [HH.out.2.2.2.1]; rfl), StepR.from HU2.out HF.out⟩
end Go.Proofs.Ytpfcbokckjfhbaa
