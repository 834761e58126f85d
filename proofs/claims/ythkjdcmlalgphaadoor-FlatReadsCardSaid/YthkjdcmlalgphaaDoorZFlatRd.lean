/-
  The small functions of reading flat words: plain, headOf.
-/
import Derived.Test.YthkjdcmlalgphaaDoorZFlatRow
import Derived.Test.YthkjdcmlalgphaaDoorZTermMore
import Derived.Deep.Cut
namespace Go.Proofs.YthkjdcmlalgphaaDoor
open Go.RowKit Go.Deep

/-- A result of a term in a box, and one more. -/
theorem ret2_at {fn : Func} {R : Ending → World → Prop} {a : Act} {p q : Tmp} {b : Nat} {w : World} {u v0 v1 v2 v3 : Value} (h : fn.results = #[.cell p 25, .tmp q]) (hp : a.tmps.getD p undef = .pointer (some ⟨b, 0, none⟩)) (hq : a.tmps.getD q undef = u) (hd : a.defers = [])
    (h0 : w.cell? ⟨b, 0, none⟩ = some v0) (h1 : w.cell? ⟨b, 1, none⟩ = some v1) (h2 : w.cell? ⟨b, 2, none⟩ = some v2) (h3 : w.cell? ⟨b, 3, none⟩ = some v3)
    (hR : R (.returned (.tuple #[.agg #[v0, v1, v2, v3], u])) w) : bodyPost Tryd.prog fn R .ret a w := by
  have hp' : a.tmps[p]?.getD undef = .pointer (some ⟨b, 0, none⟩) := by simpa using hp
  have hq' : a.tmps[q]?.getD undef = u := by simpa using hq
  have hl := load4 (o := 0) h0 h1 h2 h3
  exact bodyPost_ret (by simp [results, h, hp', hq', asAddr, hl]) hd hR
theorem ret2_stored {fn : Func} {R : Ending → World → Prop} {a : Act} {p q : Tmp} {b : Nat} {w : World} {u u0 u1 u2 u3 v0 v1 v2 v3 : Value} (h : fn.results = #[.cell p 25, .tmp q]) (hp : a.tmps.getD p undef = .pointer (some ⟨b, 0, none⟩)) (hq : a.tmps.getD q undef = u) (hd : a.defers = [])
    (h0 : w.cell? ⟨b, 0, none⟩ = some u0) (h1 : w.cell? ⟨b, 1, none⟩ = some u1) (h2 : w.cell? ⟨b, 2, none⟩ = some u2) (h3 : w.cell? ⟨b, 3, none⟩ = some u3)
    (hR : R (.returned (.tuple #[.agg #[v0, v1, v2, v3], u])) ((((w.setCell ⟨b, 0, none⟩ v0).setCell ⟨b, 1, none⟩ v1).setCell ⟨b, 2, none⟩ v2).setCell ⟨b, 3, none⟩ v3)) :
    bodyPost Tryd.prog fn R .ret a ((((w.setCell ⟨b, 0, none⟩ v0).setCell ⟨b, 1, none⟩ v1).setCell ⟨b, 2, none⟩ v2).setCell ⟨b, 3, none⟩ v3) := by
  obtain ⟨e0, e1, e2, e3⟩ := stored4 (v0 := v0) (v1 := v1) (v2 := v2) (v3 := v3) h0 h1 h2 h3
  exact ret2_at h hp hq hd e0 e1 e2 e3 hR

/-- What a step of reading has answered: a term and whether there is one. -/
def PlainV (w : World) (o : Option Tm) (tv : Value) (ok : Bool) : Prop := ok = o.isSome ∧ ∀ t, o = some t → Lies w (fun _ => False) t tv

set_option maxHeartbeats 4000000 in
theorem plain_any (p bm : Nat) (v : Value) (L : List ByteArray) (k n : Int) (w : World) (h : Tab w p bm v L) (hk0 : 0 ≤ k) (hk1 : k ≤ 11) (hn0 : -9223372036854775808 ≤ n) (hn1 : n ≤ 9223372036854775807) (hn : k = 2 → 0 ≤ n) :
    Calls Tryd.prog 72 #[.pointer (some ⟨p, 0, none⟩), .int .i64 k, .int .i64 n] w fun e w' => ∃ (k' n' : Int) (s' : ByteArray) (a' : Option Addr) (m' c' : Nat) (ok : Bool), e = .returned (.tuple #[.agg #[.int .i64 k', .int .i64 n', .string s', .slice a' m' c'], .bool ok]) ∧ PlainV w' (plainR L k n) (.agg #[.int .i64 k', .int .i64 n', .string s', .slice a' m' c']) ok ∧ Below w.heap.size w w' := by
  obtain ⟨W0, hW0⟩ : ∃ W0, w.alloc (.cells #[.int .i64 0, .int .i64 0, .string ⟨#[]⟩, .slice none 0 0] 25) = W0 := ⟨_, rfl⟩
  have hb0 : Below w.heap.size w W0 := by rw [← hW0]; exact (Below.refl _ _).alloc (Nat.le_refl _) _
  have hbx : W0.heap[w.heap.size]? = some (.cells #[.int .i64 0, .int .i64 0, .string ⟨#[]⟩, .slice none 0 0] 25) := by rw [← hW0]; exact new_block _ _
  have h0 := h.up hb0
  have hname := Hid.mk (name_any p bm v L n W0 h0)
  obtain ⟨⟨t0, t1, t2, t3⟩, f0, f1, f2, f3⟩ := kept4 hbx (Below.refl _ _)
  have HB := Hid.mk hb0
  have HX := Hid.mk hbx
  have hshort := Hid.mk h.good.short
  clear hbx hb0 h h0
  have hsm : ∀ s : ByteArray, s.size ≤ 64 → Small k n s ∧ Small k 0 s := fun s hs => ⟨⟨by omega, by omega, hn0, hn1, by omega⟩, ⟨by omega, by omega, by omega, by omega, by omega⟩⟩
  by_cases h2 : k = 2
  · subst h2
    have hn' := hn rfl
    have HSM := Hid.mk hsm
    have HN := Hid.mk hn'
    clear hn hsm hn' hn0 hn1 hk0 hk1
    go_enter Tryd.func72, Tryd.ntmps72
    go_upto_region 1 with fail
    try rw [hW0]
    clear hW0
    go_wp2_with (go_at_call 61; refine hname.out.mono ?_; rintro e w1 ⟨⟨i, hi, hni, rfl⟩ | ⟨hout, rfl⟩, hb⟩ <;> obtain ⟨⟨q0, q1, q2, q3⟩, r0, r1, r2, r3⟩ := kept4 HX.out hb <;> have hL := Hid.mk hb)
    · refine ret2_stored rfl rfl rfl rfl q0 q1 q2 q3 ⟨_, _, _, _, _, _, _, rfl, ⟨?_, fun t ht => ?_⟩, Below.set4 (HB.out.trans (hL.out.mono HB.out.size)) (Nat.le_refl _)⟩
      · rw [plainR, if_pos rfl, show n.toNat = i by omega, List.getElem?_eq_getElem hi]
        rfl
      · rw [plainR, if_pos rfl, show n.toNat = i by omega, List.getElem?_eq_getElem hi] at ht
        cases ht
        exact Lies.mk (l := []) (HSM.out _ (hshort.out _ (List.getElem_mem hi))).2 (lst_nil _ _)
    · have e1 : plainR L 2 n = none := by
        have := HN.out
        rw [plainR, if_pos rfl, List.getElem?_eq_none (by omega)]
      rw [e1]
      exact ret2_stored rfl rfl rfl rfl q0 q1 q2 q3 ⟨_, _, _, _, _, _, _, rfl, ⟨rfl, fun t ht => by cases ht⟩, Below.set4 (HB.out.trans (hL.out.mono HB.out.size)) (Nat.le_refl _)⟩
  · by_cases hb : k = 1 ∨ k = 3 ∨ k = 4 ∨ k = 6 ∨ k = 8
    · have e1 : plainR L k n = some (.mk k n ⟨#[]⟩ []) := by rw [plainR, if_neg h2, if_pos hb]
      rw [e1]
      have hS := Hid.mk (hsm ⟨#[]⟩ (by decide)).1
      clear e1 hsm hn0 hn1 hk0 hk1 hn
      rcases hb with rfl | rfl | rfl | rfl | rfl
      all_goals
        go_enter Tryd.func72, Tryd.ntmps72
        go_upto_region 1 with fail
        try rw [hW0]
        clear hW0
        go_wp2
        refine ret2_stored rfl rfl rfl rfl t0 t1 t2 t3 ⟨_, _, _, _, _, _, _, rfl, ⟨rfl, fun t ht => ?_⟩, Below.set4 HB.out (Nat.le_refl _)⟩
        cases ht
        exact Lies.mk (l := []) hS.out (lst_nil _ _)
    · have e1 : plainR L k n = none := by rw [plainR, if_neg h2, if_neg hb]
      rw [e1]
      have k1 : ¬ k = 1 := by omega
      have k3 : ¬ k = 3 := by omega
      have k4 : ¬ k = 4 := by omega
      have k6 : ¬ k = 6 := by omega
      have k8 : ¬ k = 8 := by omega
      clear e1 hsm hn0 hn1 hk0 hk1 hn hb
      go_enter Tryd.func72, Tryd.ntmps72
      go_upto_region 1 with fail
      try rw [hW0]
      clear hW0
      go_wp2
      exact ret2_stored rfl rfl rfl rfl t0 t1 t2 t3 ⟨_, _, _, _, _, _, _, rfl, ⟨rfl, fun t ht => by cases ht⟩, Below.set4 HB.out (Nat.le_refl _)⟩

/-- Words that came in. -/
structure Wrd (w : World) (xs : List Int) (a : Option Addr) (cap : Nat) : Prop where
  len : xs.length ≤ cap ∧ cap ≤ 9223372036854775807
  rng : ∀ x ∈ xs, 0 ≤ x ∧ x < 18446744073709551616
  cells : 0 < xs.length → ∃ b o, a = some ⟨b, o, none⟩ ∧ ∀ j (h : j < xs.length), w.cell? ⟨b, o + j, none⟩ = some (.int .u64 xs[j])

/-- What headOf has answered. -/
def HeadV (o : Option (Nat × Int × Nat)) : Nat × Int × Nat × Bool := match o with
  | some (h, n, m) => (h, n, m, true)
  | none => (0, 0, 0, false)
theorem ret2_head {fn : Func} {R : Ending → World → Prop} {a : Act} {p q : Tmp} {b : Nat} {w : World} {u u0 u1 u2 v0 v1 v2 : Value} (h : fn.results = #[.cell p 116, .tmp q]) (hp : a.tmps.getD p undef = .pointer (some ⟨b, 0, none⟩)) (hq : a.tmps.getD q undef = u) (hd : a.defers = [])
    (h0 : w.cell? ⟨b, 0, none⟩ = some u0) (h1 : w.cell? ⟨b, 1, none⟩ = some u1) (h2 : w.cell? ⟨b, 2, none⟩ = some u2)
    (hR : R (.returned (.tuple #[.agg #[v0, v1, v2], u])) (((w.setCell ⟨b, 0, none⟩ v0).setCell ⟨b, 1, none⟩ v1).setCell ⟨b, 2, none⟩ v2)) :
    bodyPost Tryd.prog fn R .ret a (((w.setCell ⟨b, 0, none⟩ v0).setCell ⟨b, 1, none⟩ v1).setCell ⟨b, 2, none⟩ v2) := by
  have hp' : a.tmps[p]?.getD undef = .pointer (some ⟨b, 0, none⟩) := by simpa using hp
  have hq' : a.tmps[q]?.getD undef = u := by simpa using hq
  have e0 := World.cell?_setCell_same w ⟨b, 0, none⟩ v0 h0
  have e1 := World.cell?_setCell_same (w.setCell ⟨b, 0, none⟩ v0) ⟨b, 1, none⟩ v1 ((World.cell?_setCell_other w _ _ _ (by simp)).trans h1)
  have e2 := World.cell?_setCell_same ((w.setCell ⟨b, 0, none⟩ v0).setCell ⟨b, 1, none⟩ v1) ⟨b, 2, none⟩ v2 ((World.cell?_setCell_other _ _ _ _ (by simp)).trans ((World.cell?_setCell_other w _ _ _ (by simp)).trans h2))
  have g0 : (((w.setCell ⟨b, 0, none⟩ v0).setCell ⟨b, 1, none⟩ v1).setCell ⟨b, 2, none⟩ v2).cell? ⟨b, 0, none⟩ = some v0 := (World.cell?_setCell_other _ _ _ _ (by simp)).trans ((World.cell?_setCell_other _ _ _ _ (by simp)).trans e0)
  have g1 : (((w.setCell ⟨b, 0, none⟩ v0).setCell ⟨b, 1, none⟩ v1).setCell ⟨b, 2, none⟩ v2).cell? ⟨b, 1, none⟩ = some v1 := (World.cell?_setCell_other _ _ _ _ (by simp)).trans e1
  have hl : (loadVar 116 ⟨b, 0, none⟩).run Tryd.prog (((w.setCell ⟨b, 0, none⟩ v0).setCell ⟨b, 1, none⟩ v1).setCell ⟨b, 2, none⟩ v2) = .ok (.agg #[v0, v1, v2]) (((w.setCell ⟨b, 0, none⟩ v0).setCell ⟨b, 1, none⟩ v1).setCell ⟨b, 2, none⟩ v2) := by
    simp [go_sem, g0, g1, e2]
  exact bodyPost_ret (by simp [results, h, hp', hq', asAddr, hl]) hd hR

theorem unN_rng (x : Int) (k : Int) (h : Wd.unK x = k) (hk : k = 10 ∨ k = 11) : 0 ≤ Wd.unN x ∧ Wd.unN x ≤ 137438953536 := by
  by_cases hu : Wd.unB x = true
  · rw [Wd.unK, if_pos hu] at h
    have ho := (Wd.okB_iff _ _).1 hu
    rw [Wd.unN, if_pos hu]
    rw [h] at ho
    rcases hk with rfl | rfl
    · rw [show Wd.lo 10 = 0 from rfl, show Wd.hi 10 = 64 from rfl] at ho
      omega
    · rw [show Wd.lo 11 = 0 from rfl, show Wd.hi 11 = 137438953536 from rfl] at ho
      omega
  · rw [Wd.unK, if_neg hu] at h
    omega

set_option maxHeartbeats 4000000 in
theorem headOf_any (k : Int) (xs : List Int) (i : Nat) (a : Option Addr) (cap : Nat) (w : World) (ht : WordTab w) (hi : i ≤ xs.length) (_ : xs.length ≤ 1000000000) (hr : ∀ x ∈ xs, 0 ≤ x ∧ x < 18446744073709551616)
    (hc : ∀ h : i < xs.length, ∃ b o, a = some ⟨b, o, none⟩ ∧ w.cell? ⟨b, o, none⟩ = some (.int .u64 xs[i])) :
    Calls Tryd.prog 73 #[.int .i64 k, .slice a (xs.length - i) cap] w fun e w' =>
      e = .returned (.tuple #[.agg #[.int .i64 (HeadV (headR k xs i)).1, .int .i64 (HeadV (headR k xs i)).2.1, .int .i64 (HeadV (headR k xs i)).2.2.1], .bool (HeadV (headR k xs i)).2.2.2]) ∧ Below w.heap.size w w' := by
  obtain ⟨W0, hW0⟩ : ∃ W0, w.alloc (.cells #[.int .i64 0, .int .i64 0, .int .i64 0] 116) = W0 := ⟨_, rfl⟩
  have hb0 : Below w.heap.size w W0 := by rw [← hW0]; exact (Below.refl _ _).alloc (Nat.le_refl _) _
  have hbx : W0.heap[w.heap.size]? = some (.cells #[.int .i64 0, .int .i64 0, .int .i64 0] 116) := by rw [← hW0]; exact new_block _ _
  have kept3 : ∀ w', Below W0.heap.size W0 w' → (w'.cell? ⟨w.heap.size, 0, none⟩ = some (.int .i64 0) ∧ w'.cell? ⟨w.heap.size, 1, none⟩ = some (.int .i64 0) ∧ w'.cell? ⟨w.heap.size, 2, none⟩ = some (.int .i64 0)) ∧
      w'.frozen? ⟨w.heap.size, 0, none⟩ = false ∧ w'.frozen? ⟨w.heap.size, 1, none⟩ = false ∧ w'.frozen? ⟨w.heap.size, 2, none⟩ = false := fun w' hb => by
    have hx := (hb.block _ (Array.getElem?_eq_some_iff.1 hbx).1).trans hbx
    simp [World.cell?, World.frozen?, hx]
  have HK3 := Hid.mk kept3
  obtain ⟨⟨t0, t1, t2⟩, f0, f1, f2⟩ := kept3 W0 (Below.refl _ _)
  have HB := Hid.mk hb0
  have HT := Hid.mk (ht.below hb0)
  clear hbx kept3 ht
  have hend : ∀ w' v0 v1 v2, Below W0.heap.size W0 w' → Below w.heap.size w (((w'.setCell ⟨w.heap.size, 0, none⟩ v0).setCell ⟨w.heap.size, 1, none⟩ v1).setCell ⟨w.heap.size, 2, none⟩ v2) := fun w' v0 v1 v2 hb =>
    (((hb0.trans (hb.mono hb0.size)).setCell (p := ⟨w.heap.size, 0, none⟩) (Nat.le_refl _) v0).setCell (p := ⟨w.heap.size, 1, none⟩) (Nat.le_refl _) v1).setCell (p := ⟨w.heap.size, 2, none⟩) (Nat.le_refl _) v2
  have HE := Hid.mk hend
  clear hend
  by_cases h9 : k = 9
  · subst h9
    have e1 : HeadV (headR 9 xs i) = (0, 0, 2, true) := by rw [headR, if_pos rfl]; rfl
    rw [e1]
    clear e1 hc hb0 hi hr
    go_enter Tryd.func73, Tryd.ntmps73
    go_upto_region 1 with fail
    try rw [hW0]
    clear hW0
    go_wp2
    exact ret2_head rfl rfl rfl rfl t0 t1 t2 ⟨rfl, HE.out _ _ _ _ (Below.refl _ _)⟩
  · by_cases hlt : i < xs.length
    · obtain ⟨b, o, rfl, hx⟩ := hc hlt
      have hrx := hr _ (List.getElem_mem hlt)
      have hh : headR k xs i = if k = 7 ∧ Wd.unK xs[i] = 10 then some (1, 0, (Wd.unN xs[i]).toNat) else if k = 5 ∧ Wd.unK xs[i] = 11 then some (1, Wd.unN xs[i] / 128, (Wd.unN xs[i] % 128).toNat) else none := by
        rw [headR, if_neg h9, List.getElem?_eq_getElem hlt]
      have hx' := cell_below hb0 _ _ _ hx
      generalize xs[i] = x at *
      have hun := Hid.mk (unpack_any x W0 HT.out hrx.1 hrx.2)
      have hge : ¬ (((xs.length - i : Nat) : Int) = 0) := by omega
      obtain ⟨N, hN⟩ : ∃ N, xs.length - i = N + 1 := ⟨xs.length - i - 1, by omega⟩
      rw [hN] at hge ⊢
      have hne : (((N + 1 : Nat) : Int) == 0) = false := by simp; omega
      have hnr := unN_rng x
      generalize hKe : Wd.unK x = K at *
      generalize hNe : Wd.unN x = M at *
      have HH := Hid.mk hh
      have HNR := Hid.mk hnr
      have H9 := Hid.mk h9
      have h9b : (k == 9) = false := by simpa using h9
      clear hh hnr hKe hNe hx hc hb0 hi hr hrx hlt hge hN h9
      by_cases c7 : k = 7 ∧ K = 10
      · obtain ⟨rfl, rfl⟩ := c7
        have e1 : HeadV (headR 7 xs i) = (1, 0, M.toNat, true) := by rw [HH.out, if_pos ⟨rfl, rfl⟩]; rfl
        have e2 : ((M.toNat : Nat) : Int) = M := Int.toNat_of_nonneg (HNR.out 10 rfl (Or.inl rfl)).1
        rw [e1]
        simp only [e2]
        clear e1 e2
        go_enter Tryd.func73, Tryd.ntmps73
        go_upto_region 1 with fail
        try rw [hW0]
        clear hW0
        go_wp2_with (go_at_call 70; refine hun.out.mono ?_; rintro e w1 ⟨rfl, hb⟩; obtain ⟨⟨q0, q1, q2⟩, r0, r1, r2⟩ := HK3.out w1 hb; have hL := Hid.mk hb; clear hb)
        exact ret2_head rfl rfl rfl rfl q0 q1 q2 ⟨rfl, HE.out _ _ _ _ hL.out⟩
      · by_cases c5 : k = 5 ∧ K = 11
        · obtain ⟨rfl, rfl⟩ := c5
          have e1 : HeadV (headR 5 xs i) = (1, M / 128, (M % 128).toNat, true) := by rw [HH.out, if_neg (by decide), if_pos ⟨rfl, rfl⟩]; rfl
          have e2 : (((M % 128).toNat : Nat) : Int) = M % 128 := Int.toNat_of_nonneg (by omega)
          have hM := HNR.out 11 rfl (Or.inr rfl)
          have e3 : M.tdiv 128 = M / 128 := Int.tdiv_eq_ediv_of_nonneg hM.1
          have e4 : M.tmod 128 = M % 128 := Int.tmod_eq_emod_of_nonneg hM.1
          have e5 : IntKind.i64.wrap (M / 128) = M / 128 := wrap_id (by omega) (by omega)
          have e6 : IntKind.i64.wrap (M % 128) = M % 128 := wrap_id (by omega) (by omega)
          rw [e1]
          simp only [e2]
          clear e1 e2 hM
          go_enter Tryd.func73, Tryd.ntmps73
          go_upto_region 1 with fail
          try rw [hW0]
          clear hW0
          go_wp2_with (go_at_call 70; refine hun.out.mono ?_; rintro e w1 ⟨rfl, hb⟩; obtain ⟨⟨q0, q1, q2⟩, r0, r1, r2⟩ := HK3.out w1 hb; have hL := Hid.mk hb; clear hb)
          exact ret2_head rfl rfl rfl rfl q0 q1 q2 ⟨rfl, HE.out _ _ _ _ hL.out⟩
        · have e1 : HeadV (headR k xs i) = (0, 0, 0, false) := by rw [HH.out, if_neg c7, if_neg c5]; rfl
          rw [e1]
          have d7 : (k == 7) = true → (K == 10) = false := fun h => by
            simp only [beq_iff_eq] at h
            simpa using fun h' => c7 ⟨h, h'⟩
          have d5 : (k == 5) = true → (K == 11) = false := fun h => by
            simp only [beq_iff_eq] at h
            simpa using fun h' => c5 ⟨h, h'⟩
          clear e1 c7 c5
          cases h7 : (k == 7)
          · cases h5 : (k == 5)
            · clear d5 d7
              go_enter Tryd.func73, Tryd.ntmps73
              go_upto_region 1 with fail
              try rw [hW0]
              clear hW0
              go_wp2_with (go_at_call 70; refine hun.out.mono ?_; rintro e w1 ⟨rfl, hb⟩; obtain ⟨⟨q0, q1, q2⟩, r0, r1, r2⟩ := HK3.out w1 hb; have hL := Hid.mk hb; clear hb)
              exact ret2_head rfl rfl rfl rfl q0 q1 q2 ⟨rfl, HE.out _ _ _ _ hL.out⟩
            · have hk5 := d5 h5
              clear d5 d7
              go_enter Tryd.func73, Tryd.ntmps73
              go_upto_region 1 with fail
              try rw [hW0]
              clear hW0
              go_wp2_with (go_at_call 70; refine hun.out.mono ?_; rintro e w1 ⟨rfl, hb⟩; obtain ⟨⟨q0, q1, q2⟩, r0, r1, r2⟩ := HK3.out w1 hb; have hL := Hid.mk hb; clear hb)
              exact ret2_head rfl rfl rfl rfl q0 q1 q2 ⟨rfl, HE.out _ _ _ _ hL.out⟩
          · have hk7 := d7 h7
            have h5 : (k == 5) = false := by
              simp only [beq_iff_eq] at h7
              subst h7
              rfl
            clear d5 d7
            go_enter Tryd.func73, Tryd.ntmps73
            go_upto_region 1 with fail
            try rw [hW0]
            clear hW0
            go_wp2_with (go_at_call 70; refine hun.out.mono ?_; rintro e w1 ⟨rfl, hb⟩; obtain ⟨⟨q0, q1, q2⟩, r0, r1, r2⟩ := HK3.out w1 hb; have hL := Hid.mk hb; clear hb)
            exact ret2_head rfl rfl rfl rfl q0 q1 q2 ⟨rfl, HE.out _ _ _ _ hL.out⟩
    · obtain rfl : i = xs.length := by omega
      have e1 : HeadV (headR k xs xs.length) = (0, 0, 0, false) := by rw [headR, if_neg h9, List.getElem?_eq_none (Nat.le_refl _)]; rfl
      have h9b : (k == 9) = false := by simpa using h9
      rw [e1, Nat.sub_self]
      clear e1 hc hb0 hi hr
      go_enter Tryd.func73, Tryd.ntmps73
      go_upto_region 1 with fail
      try rw [hW0]
      clear hW0
      go_wp2
      exact ret2_head rfl rfl rfl rfl t0 t1 t2 ⟨rfl, HE.out _ _ _ _ (Below.refl _ _)⟩
end Go.Proofs.YthkjdcmlalgphaaDoor
