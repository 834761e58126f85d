/-
  TreeScript returns true.
-/
import Derived.Test.YteklhipcojioaaaDoorZTreeKn
import Derived.Deep.CutRange
namespace Go.Proofs.YteklhipcojioaaaDoor
open Go.RowKit Go.Deep Go.Maps Go.WideShapes

/-- A call of a script. -/
structure Ac11 where
  kd : Int
  n : Int
  h : Th
theorem ac11_one : ∀ (x : Ac11) (u : Value), u ∈ [Value.int .i64 x.kd, .int .i64 x.n, .int .i64 x.h.k, .int .i64 x.h.n, .string x.h.s, .slice x.h.a x.h.m x.h.c] → u.oneCell' = true := fun x u hu => by
  simp only [List.mem_cons, List.not_mem_nil, or_false] at hu
  rcases hu with rfl | rfl | rfl | rfl | rfl | rfl <;> rfl
def ac11S : Srt Ac11 := { t := 34, st := 22, k := 6, enc := fun x => [.int .i64 x.kd, .int .i64 x.n, .int .i64 x.h.k, .int .i64 x.h.n, .string x.h.s, .slice x.h.a x.h.m x.h.c], z := .agg #[.int .i64 0, .int .i64 0, .int .i64 0, .int .i64 0, .string ByteArray.empty, .slice none 0 0], bytes := 72, und := Tryd.underlying22, info := by kernel_rfl, zc := rfl, pos := by decide, few := by decide, len := fun _ => rfl, one := ac11_one }
theorem CelAc11.item {w : World} {l : List Ac11} {a : Option Addr} (h : Cs ac11S w l a) {i : Nat} (hi : i < l.length) : ∃ b o, a = some ⟨b, o, none⟩ ∧ w.cell? ⟨b, o + i * 6, none⟩ = some (.int .i64 l[i].kd) ∧ w.cell? ⟨b, o + i * 6 + 1, none⟩ = some (.int .i64 l[i].n) ∧ w.cell? ⟨b, o + i * 6 + 2, none⟩ = some (.int .i64 l[i].h.k) ∧ w.cell? ⟨b, o + i * 6 + 3, none⟩ = some (.int .i64 l[i].h.n) ∧ w.cell? ⟨b, o + i * 6 + 4, none⟩ = some (.string l[i].h.s) ∧ w.cell? ⟨b, o + i * 6 + 5, none⟩ = some (.slice l[i].h.a l[i].h.m l[i].h.c) := by
  obtain ⟨b, o, e, hc⟩ := h.at_ hi
  exact ⟨b, o, e, hc 0 _ rfl, hc 1 _ rfl, hc 2 _ rfl, hc 3 _ rfl, hc 4 _ rfl, hc 5 _ rfl⟩
theorem sameAllN (l : List Tm) {n : Nat} (hn : l.length = n) (S S' : Nat → Prop) (a a' : Option Addr) (cap cap' : Nat) (w : World) (hl : Lst w S l a cap) (hl' : Lst w S' l a' cap') :
    Calls Tryd.prog 16 #[.slice a n cap, .slice a' n cap'] w fun e w' => e = .returned (.bool true) ∧ Below w.heap.size w w' := by
  subst hn
  exact sameAllRefl l S S' a a' cap cap' w hl hl'
theorem To.keysl {w0 w : World} {p : Nat} {L : List Nd} {c ht : Int} {F : Nat → Prop} (h : To w0 w p L c ht F) (hs : SizeT L c) : Calls Tryd.prog 15 #[.pointer (some ⟨p, 0, none⟩)] w fun e w' => ∃ a cap, e = .returned (.slice a L.length cap) ∧ Lst w' (fun b => w.heap.size ≤ b ∧ b < w'.heap.size) (L.map (·.1)) a cap ∧ Below w.heap.size w w' :=
  (h.keys hs).mono fun e w' ⟨u, he, ho, hb⟩ => by
    obtain ⟨a, cap, rfl, hl⟩ := OwnL.lst ho
    rw [List.length_map] at he
    exact ⟨a, cap, he, hl, hb⟩
theorem rkeysl {w : World} {q : Nat} {L : List Nd} {F S : Nat → Prop} (h : Rt w q L F S) (hF : ∀ b, F b → b < w.heap.size) (hL : L.length ≤ 100000) : Calls Tryd.prog 17 #[.pointer (some ⟨q, 0, none⟩)] w fun e w' => ∃ a cap, e = .returned (.slice a L.length cap) ∧ Lst w' (fun _ => True) (L.map (·.1)) a cap ∧ Below w.heap.size w w' :=
  (keysR_any q L F S w h hF hL).mono fun e w' ⟨u, hs, he, hap, htr⟩ => by
    obtain ⟨a, cap, rfl, hl⟩ := tr_lst hap.row htr
    rw [List.length_map] at he
    exact ⟨a, cap, he, hl.wider (fun _ _ => trivial), hap.below⟩
theorem sx_start {w w1 : World} {p : Nat} (h : To w w1 p [] 0 0 (fun _ => False)) : Sx w (w1.alloc (.cells #[.slice none 0 0] 28)) p w1.heap.size [] [] 0 0 (fun k => k = w1.heap.size) (fun _ => False) :=
  have hz := h.below.size
  ⟨(h.more (Up.alloc (Up.refl w1)).out (G := fun k => k = w1.heap.size) (fun k hk => ⟨by omega, by subst hk; simp⟩)).weaken (fun k hk => Or.inr (hk.elim id False.elim)),
    ⟨.slice none 0 0, [], new_block w1 _, ⟨rfl, Or.inl ⟨rfl, rfl⟩⟩, rfl, fun i hi => absurd hi (by simp), rfl, fun g e => (by cases e), fun k hk => (by subst hk; simp), fun b hb e => by subst e; omega⟩,
    fun k hk => by subst hk; exact hz, fun k hk => hk.elim⟩
set_option maxHeartbeats 8000000 in
set_option maxRecDepth 100000 in
theorem lawScript11 (L : List Ac11) (la : Option Addr) (lc : Nat) (w : World) (hL : Cs ac11S w L la) (hk : ∀ x ∈ L, ∃ T, Lies w (fun b => b < w.heap.size) T x.h.tv) (hst : ShapeTab w) :
    Calls Tryd.prog 3 #[.slice la L.length lc] w fun e w' => e = .returned (.bool true) ∧ Below w.heap.size w w' := by
  by_cases h60 : 60 < L.length
  · have d1 : decide ((60 : Int) < (L.length : Nat)) = true := by rw [decide_eq_true_eq]; omega
    have d2 : decide (60 < L.length) = true := decide_eq_true h60
    clear hL hk
    go_enter Tryd.func3, Tryd.ntmps3
    go_wp2
    go_ret
    exact ⟨rfl, Below.refl _ _⟩
  · have d1 : decide ((60 : Int) < (L.length : Nat)) = false := by rw [decide_eq_false_iff_not]; omega
    have d2 : decide (60 < L.length) = false := decide_eq_false h60
    have H60 := Hid.mk (show L.length ≤ 60 by omega)
    have HCL := Hid.mk hL
    have HK := Hid.mk hk
    have HST := Hid.mk hst
    clear h60 hL hk hst
    go_enter Tryd.func3, Tryd.ntmps3
    go_wp2_with (go_at_call 8; refine (to_new w).mono ?_; rintro e w1 ⟨p, rfl, h⟩; have H1 := Hid.mk h; clear h)
    have h2 := sx_start H1.out
    obtain ⟨W2, hW2⟩ : ∃ W2, w1.alloc (.cells #[.slice none 0 0] 28) = W2 := ⟨_, rfl⟩
    obtain ⟨q, hq⟩ : ∃ q, w1.heap.size = q := ⟨_, rfl⟩
    rw [hW2, hq] at h2
    rw [hW2, hq]
    have H2 := Hid.mk h2
    clear h2 hW2 hq
    go_loopw [5] (fun ii wr => ∃ (i : Nat) (R : List Nd) (c ht : Int) (Sr : Nat → Prop), i ≤ L.length ∧ ii = .int .i64 i ∧ Hid (Sx w wr p q R R c ht Sr (fun _ => False)) ∧ Hid (R.length ≤ i ∧ 0 ≤ c ∧ c ≤ 39 * i)) (fun ii _ => L.length - (intOf ii).toNat)
    case atStart => exact ⟨0, _, _, _, _, Nat.zero_le _, rfl, H2, Hid.mk ⟨Nat.le_refl _, Int.le_refl _, by omega⟩⟩
    case round =>
      obtain ⟨i, R, c, ht, Sr, hi, rfl, hX, hI⟩ := hrel
      have h6 := H60.out
      by_cases hlt : i < L.length
      · obtain ⟨T, hT⟩ := HK.out _ (List.getElem_mem hlt)
        obtain ⟨b, o, rfl, s0, s1, s2, s3, s4, s5⟩ := CelAc11.item HCL.out hlt
        generalize L[i]'hlt = X at *
        obtain ⟨kd, an, kk, kn, ks, ka, km, kc⟩ := X
        simp only [Th.tv] at hT s0 s1 s2 s3 s4 s5
        have HT := Hid.mk (hT.below hX.out.tree.below)
        have HIL := Hid.mk hlt
        have hil : (i : Int) < L.length := by omega
        have hwi : IntKind.i64.wrap ((i : Int) + 1) = ((i + 1 : Nat) : Int) := by rw [wrap_id (by omega) (by omega)]; omega
        have HC0 := Hid.mk (show w.cell? ⟨b, o + i * 6, none⟩ = some (.int .i64 kd) from s0)
        have t0 := cell_below hX.out.tree.below _ _ _ s0
        have t1 := cell_below hX.out.tree.below _ _ _ s1
        have t2 := cell_below hX.out.tree.below _ _ _ s2
        have t3 := cell_below hX.out.tree.below _ _ _ s3
        have t4 := cell_below hX.out.tree.below _ _ _ s4
        have t5 := cell_below hX.out.tree.below _ _ _ s5
        have HCA := Hid.mk (And.intro s0 (And.intro s1 (And.intro s2 (And.intro s3 (And.intro s4 s5)))))
        clear hT hlt h6 s0 s1 s2 s3 s4 s5
        go_upto_region 11 with (first
          | (go_at_call 9; refine (largeTerm_any T _ _ 40 _ HT.out (by omega) (by omega)).mono ?_; rintro e w3 ⟨⟨b1, rfl, hB⟩, hb⟩; have HB := Hid.mk hB; have H3 := Hid.mk (hX.out.up hb); have HT3 := Hid.mk (HT.out.below hb); clear hb hB; rcases b1 with _ | _))
        · obtain ⟨rv, rh, hR⟩ := H3.out.rb
          obtain ⟨ra, rc, rfl, _, _⟩ := hR.slice
          obtain ⟨c0, _⟩ := hR.cells
          clear hR
          refine region_up (W := w3) (by kernel_rfl) (by kernel_rfl) (Up.refl _) ?_
          refine quiet_value (v := .pointer (some ⟨p, 0, none⟩)) rfl (fun _ _ => rfl) ?_
          simp only [Act.put, List.setIfInBounds_toArray, List.set_cons_zero, List.set_cons_succ]
          refine quiet_call (v := .int .i64 c) rfl (fun W => (by go_simp)) (fun W h => ((H3.out.tree.up h.out).compared).mono fun e w' ⟨he, hb⟩ => ⟨he, h.call hb⟩) ?_
          simp only [Act.put, List.setIfInBounds_toArray, List.set_cons_zero, List.set_cons_succ]
          refine quiet_value (v := .pointer (some ⟨q, 0, none⟩)) rfl (fun _ _ => rfl) ?_
          simp only [Act.put, List.setIfInBounds_toArray, List.set_cons_zero, List.set_cons_succ]
          refine quiet_value (v := .pointer (some ⟨q, 0, none⟩)) rfl (fun _ _ => (by go_simp)) ?_
          simp only [Act.put, List.setIfInBounds_toArray, List.set_cons_zero, List.set_cons_succ]
          refine quiet_value (v := .pointer (some ⟨q, 0, none⟩)) rfl (fun _ _ => (by go_simp)) ?_
          simp only [Act.put, List.setIfInBounds_toArray, List.set_cons_zero, List.set_cons_succ]
          refine quiet_value (v := .slice ra R.length rc) rfl (fun W h => (by have u0 := cell_below h.out _ _ _ c0; go_simp)) ?_
          simp only [Act.put, List.setIfInBounds_toArray, List.set_cons_zero, List.set_cons_succ]
          refine quiet_value (v := .int .i64 R.length) rfl (fun _ _ => (by go_simp)) ?_
          simp only [Act.put, List.setIfInBounds_toArray, List.set_cons_zero, List.set_cons_succ]
          refine quiet_value (v := .int .i64 c) rfl (fun _ _ => rfl) ?_
          simp only [Act.put, List.setIfInBounds_toArray, List.set_cons_zero, List.set_cons_succ]
          refine quiet_value (v := .int .i64 R.length) rfl (fun _ _ => rfl) ?_
          simp only [Act.put, List.setIfInBounds_toArray, List.set_cons_zero, List.set_cons_succ]
          refine quiet_nil ?_
          intro w4 hw4
          have H4 := Hid.mk (H3.out.up hw4.out)
          have HT4 := Hid.mk (HT3.out.below hw4.out)
          clear t0 t1 t2 t3 t4 t5
          obtain ⟨s0, s1, s2, s3, s4, s5⟩ := HCA.out
          have t0 := cell_below H4.out.tree.below _ _ _ s0
          have t1 := cell_below H4.out.tree.below _ _ _ s1
          have t2 := cell_below H4.out.tree.below _ _ _ s2
          have t3 := cell_below H4.out.tree.below _ _ _ s3
          have t4 := cell_below H4.out.tree.below _ _ _ s4
          have t5 := cell_below H4.out.tree.below _ _ _ s5
          have HSZ := Hid.mk (show SizeT R c ∧ R.length < 600000 by have h1 := hI.out; have h2 := H60.out; have h3 := HIL.out; exact ⟨⟨by omega, by omega, by omega⟩, by omega⟩)
          have HST4 := Hid.mk (HB.out (by trivial))
          clear hw4 c0 s0 s1 s2 s3 s4 s5
          go_upto_region 14 with (first
            | (go_at_call 12; have hx := HC5.out.2.1; have hsz := HSZ.out; have hlo := low_log hx (by omega); have e : wrap64 (c' - c) = c' - c := (by unfold wrap64; omega); rw [e]; clear e hlo; refine (lowR_any (c' - c) R.length w6 hx (by omega)).mono ?_; rintro e w7 ⟨rfl, rfl⟩; clear hx hsz; have hcc := HC5.out.1)
            | (have g := H6; go_at_call 10; refine H6.out.tree.compared.mono ?_; rintro e w8 ⟨rfl, hb⟩; have H8 := Hid.mk (H6.out.up hb); clear hb)
            | (go_at_call 10; refine H5.out.tree.compared.mono ?_; rintro e w6 ⟨rfl, hb⟩; have H6 := Hid.mk (H5.out.up hb); clear hb)
            | (go_at_call 11; refine (act11_all H4.out HSZ.out.1 HSZ.out.2 T kd an kk kn ks ka km kc ((HT4.out).wider (fun _ h => h)) (by have := HST4.out.2; omega) HST4.out.1 HST.out).mono ?_; rintro e w5 ⟨rfl, R', c', ht', Sr', hx, hc1, hc2, hc3, hc4⟩; have H5 := Hid.mk hx; have HC5 := Hid.mk (And.intro hc1 (And.intro hc2 (And.intro hc3 hc4))); clear hx hc1 hc2 hc3 hc4))
          clear t0 t1 t2 t3 t4 t5
          go_cut [79] from 18 to 115 (fun s79 wx => s79 = .bool false ∧ Hid (Sx w wx p q R' R' c' ht' Sr' (fun _ => False)))
          case first =>
            have t0 := cell_below H8.out.tree.below _ _ _ HC0.out
            by_cases k3 : kd = 3
            · obtain rfl : c' = c := HC5.out.2.2.1 (Or.inl k3)
              subst k3
              go_wp2_with (go_at_call 10; refine H8.out.tree.compared.mono ?_; rintro e w9 ⟨rfl, hb⟩; have H9 := Hid.mk (H8.out.up hb); clear hb)
              go_meet
              case rel => exact ⟨by first | rfl | simp, H9⟩
            · by_cases k4 : kd = 4
              · obtain rfl : c' = c := HC5.out.2.2.1 (Or.inr k4)
                subst k4
                go_wp2_with (go_at_call 10; refine H8.out.tree.compared.mono ?_; rintro e w9 ⟨rfl, hb⟩; have H9 := Hid.mk (H8.out.up hb); clear hb)
                go_meet
                case rel => exact ⟨by first | rfl | simp, H9⟩
              · go_wp2
                go_meet
                case rel => exact ⟨rfl, H8⟩
          case rest =>
            obtain ⟨rfl, H9⟩ := hcut
            go_wp2
            obtain ⟨xv, xh, hXR⟩ := H9.out.rb
            obtain ⟨xa, xc, rfl, _, _⟩ := hXR.slice
            obtain ⟨x0, _⟩ := hXR.cells
            clear hXR
            have hlen := HC5.out.2.2.2
            have hsz := HSZ.out
            have hlow := H9.out.tree.low
            have hlo := low_log hlow.1 (by omega)
            have HLOW : Hid (∀ W, Calls Tryd.prog 12 #[.int .i64 ht', .int .i64 R'.length] W fun e w' => e = .returned (.bool true) ∧ Below W.heap.size W w') := Hid.mk (fun W => (lowR_any ht' R'.length W hlow.1 (by omega)).mono fun e w' ⟨h1, h2⟩ => ⟨h1, h2 ▸ Below.refl _ _⟩)
            have dn : decide (ht' < 0) = false := by rw [decide_eq_false_iff_not]; omega
            obtain ⟨bb, dh1⟩ : ∃ bb, (ht' == 0) = bb := ⟨_, rfl⟩
            have dh2 : ((R'.length : Int) == 0) = bb := by rw [← dh1, Bool.eq_iff_iff, beq_iff_eq, beq_iff_eq]; have := hlow.2; omega
            clear hlow hlo hsz hlen
            refine region_up (W := wc) (by kernel_rfl) (by kernel_rfl) (Up.refl _) ?_
            refine quiet_value (v := .pointer (some ⟨p, 0, none⟩)) rfl (fun _ _ => rfl) ?_
            simp only [Act.put, List.setIfInBounds_toArray, List.set_cons_zero, List.set_cons_succ]
            refine quiet_call (v := .int .i64 R'.length) rfl (fun W => (by go_simp)) (fun W h => ((H9.out.tree.up h.out).len).mono fun e w' ⟨he, hb⟩ => ⟨he, h.call hb⟩) ?_
            simp only [Act.put, List.setIfInBounds_toArray, List.set_cons_zero, List.set_cons_succ]
            refine quiet_value (v := .pointer (some ⟨q, 0, none⟩)) rfl (fun _ _ => rfl) ?_
            simp only [Act.put, List.setIfInBounds_toArray, List.set_cons_zero, List.set_cons_succ]
            refine quiet_value (v := .pointer (some ⟨q, 0, none⟩)) rfl (fun _ _ => (by go_simp)) ?_
            simp only [Act.put, List.setIfInBounds_toArray, List.set_cons_zero, List.set_cons_succ]
            refine quiet_value (v := .pointer (some ⟨q, 0, none⟩)) rfl (fun _ _ => (by go_simp)) ?_
            simp only [Act.put, List.setIfInBounds_toArray, List.set_cons_zero, List.set_cons_succ]
            refine quiet_value (v := .slice xa R'.length xc) rfl (fun W h => (by have u0 := cell_below h.out _ _ _ x0; go_simp)) ?_
            simp only [Act.put, List.setIfInBounds_toArray, List.set_cons_zero, List.set_cons_succ]
            refine quiet_value (v := .int .i64 R'.length) rfl (fun _ _ => (by go_simp)) ?_
            simp only [Act.put, List.setIfInBounds_toArray, List.set_cons_zero, List.set_cons_succ]
            refine quiet_value (v := .bool false) rfl (fun _ _ => (by go_simp)) ?_
            simp only [Act.put, List.setIfInBounds_toArray, List.set_cons_zero, List.set_cons_succ]
            refine quiet_value (v := .bool false) rfl (fun _ _ => rfl) ?_
            simp only [Act.put, List.setIfInBounds_toArray, List.set_cons_zero, List.set_cons_succ]
            refine quiet_value (v := .pointer (some ⟨p, 0, none⟩)) rfl (fun _ _ => rfl) ?_
            simp only [Act.put, List.setIfInBounds_toArray, List.set_cons_zero, List.set_cons_succ]
            refine quiet_call (v := .int .i64 ht') rfl (fun W => (by go_simp)) (fun W h => ((H9.out.tree.up h.out).height).mono fun e w' ⟨he, hb⟩ => ⟨he, h.call hb⟩) ?_
            simp only [Act.put, List.setIfInBounds_toArray, List.set_cons_zero, List.set_cons_succ]
            refine quiet_value (v := .pointer (some ⟨q, 0, none⟩)) rfl (fun _ _ => rfl) ?_
            simp only [Act.put, List.setIfInBounds_toArray, List.set_cons_zero, List.set_cons_succ]
            refine quiet_value (v := .pointer (some ⟨q, 0, none⟩)) rfl (fun _ _ => (by go_simp)) ?_
            simp only [Act.put, List.setIfInBounds_toArray, List.set_cons_zero, List.set_cons_succ]
            refine quiet_value (v := .pointer (some ⟨q, 0, none⟩)) rfl (fun _ _ => (by go_simp)) ?_
            simp only [Act.put, List.setIfInBounds_toArray, List.set_cons_zero, List.set_cons_succ]
            refine quiet_value (v := .slice xa R'.length xc) rfl (fun W h => (by have u0 := cell_below h.out _ _ _ x0; go_simp)) ?_
            simp only [Act.put, List.setIfInBounds_toArray, List.set_cons_zero, List.set_cons_succ]
            refine quiet_value (v := .int .i64 R'.length) rfl (fun _ _ => (by go_simp)) ?_
            simp only [Act.put, List.setIfInBounds_toArray, List.set_cons_zero, List.set_cons_succ]
            refine quiet_call (v := .bool true) rfl (fun W => (by go_simp)) (fun W h => (HLOW.out W).mono fun e w' ⟨he, hb⟩ => ⟨he, h.call hb⟩) ?_
            simp only [Act.put, List.setIfInBounds_toArray, List.set_cons_zero, List.set_cons_succ]
            refine quiet_value (v := .bool false) rfl (fun _ _ => (by go_simp)) ?_
            simp only [Act.put, List.setIfInBounds_toArray, List.set_cons_zero, List.set_cons_succ]
            refine quiet_value (v := .bool false) rfl (fun _ _ => (by go_simp)) ?_
            simp only [Act.put, List.setIfInBounds_toArray, List.set_cons_zero, List.set_cons_succ]
            refine quiet_value (v := .bool false) rfl (fun _ _ => rfl) ?_
            simp only [Act.put, List.setIfInBounds_toArray, List.set_cons_zero, List.set_cons_succ]
            refine quiet_value (v := .pointer (some ⟨p, 0, none⟩)) rfl (fun _ _ => rfl) ?_
            simp only [Act.put, List.setIfInBounds_toArray, List.set_cons_zero, List.set_cons_succ]
            refine quiet_call (v := .int .i64 ht') rfl (fun W => (by go_simp)) (fun W h => ((H9.out.tree.up h.out).height).mono fun e w' ⟨he, hb⟩ => ⟨he, h.call hb⟩) ?_
            simp only [Act.put, List.setIfInBounds_toArray, List.set_cons_zero, List.set_cons_succ]
            refine quiet_value (v := .bool false) rfl (fun _ _ => (by go_simp)) ?_
            simp only [Act.put, List.setIfInBounds_toArray, List.set_cons_zero, List.set_cons_succ]
            refine quiet_value (v := .bool false) rfl (fun _ _ => (by go_simp)) ?_
            simp only [Act.put, List.setIfInBounds_toArray, List.set_cons_zero, List.set_cons_succ]
            refine quiet_value (v := .bool false) rfl (fun _ _ => rfl) ?_
            simp only [Act.put, List.setIfInBounds_toArray, List.set_cons_zero, List.set_cons_succ]
            refine quiet_value (v := .pointer (some ⟨p, 0, none⟩)) rfl (fun _ _ => rfl) ?_
            simp only [Act.put, List.setIfInBounds_toArray, List.set_cons_zero, List.set_cons_succ]
            refine quiet_call (v := .int .i64 ht') rfl (fun W => (by go_simp)) (fun W h => ((H9.out.tree.up h.out).height).mono fun e w' ⟨he, hb⟩ => ⟨he, h.call hb⟩) ?_
            simp only [Act.put, List.setIfInBounds_toArray, List.set_cons_zero, List.set_cons_succ]
            refine quiet_value (v := .bool bb) rfl (fun _ _ => (by go_simp)) ?_
            simp only [Act.put, List.setIfInBounds_toArray, List.set_cons_zero, List.set_cons_succ]
            refine quiet_value (v := .pointer (some ⟨q, 0, none⟩)) rfl (fun _ _ => rfl) ?_
            simp only [Act.put, List.setIfInBounds_toArray, List.set_cons_zero, List.set_cons_succ]
            refine quiet_value (v := .pointer (some ⟨q, 0, none⟩)) rfl (fun _ _ => (by go_simp)) ?_
            simp only [Act.put, List.setIfInBounds_toArray, List.set_cons_zero, List.set_cons_succ]
            refine quiet_value (v := .pointer (some ⟨q, 0, none⟩)) rfl (fun _ _ => (by go_simp)) ?_
            simp only [Act.put, List.setIfInBounds_toArray, List.set_cons_zero, List.set_cons_succ]
            refine quiet_value (v := .slice xa R'.length xc) rfl (fun W h => (by have u0 := cell_below h.out _ _ _ x0; go_simp)) ?_
            simp only [Act.put, List.setIfInBounds_toArray, List.set_cons_zero, List.set_cons_succ]
            refine quiet_value (v := .int .i64 R'.length) rfl (fun _ _ => (by go_simp)) ?_
            simp only [Act.put, List.setIfInBounds_toArray, List.set_cons_zero, List.set_cons_succ]
            refine quiet_value (v := .bool bb) rfl (fun _ _ => (by go_simp)) ?_
            simp only [Act.put, List.setIfInBounds_toArray, List.set_cons_zero, List.set_cons_succ]
            refine quiet_value (v := .bool false) rfl (fun _ _ => (by go_simp)) ?_
            simp only [Act.put, List.setIfInBounds_toArray, List.set_cons_zero, List.set_cons_succ]
            refine quiet_value (v := .bool false) rfl (fun _ _ => (by go_simp)) ?_
            simp only [Act.put, List.setIfInBounds_toArray, List.set_cons_zero, List.set_cons_succ]
            refine quiet_nil ?_
            intro wa hwa
            have HA := Hid.mk (H9.out.up hwa.out)
            clear hwa x0 dn dh1 dh2
            go_wp2
            go_roundw
            case rel => exact ⟨i + 1, R', c', ht', Sr', HIL.out, by first | rfl | go_num, HA, Hid.mk (by have h1 := hI.out; have h2 := HC5.out; have h3 := HSZ.out; have h4 := (low_log h2.2.1 (by omega)); exact ⟨by omega, by omega, by omega⟩)⟩
            case measure => have h1 : i < L.length := HIL.out; simp [intOf]; omega
        · go_wp2
          go_ret
          exact ⟨rfl, H3.out.tree.below⟩
      · obtain rfl : i = L.length := by omega
        have HSZ := Hid.mk (show SizeT R c ∧ R.length ≤ 100 by have h1 := hI.out; have h2 := H60.out; exact ⟨⟨by omega, by omega, by omega⟩, by omega⟩)
        clear hlt h6
        go_upto_region 21 with (first
          | (go_at_call 18; refine (overAll_any (R.map (·.1)) _ _ _ _ HZ5.out HO5.out).mono ?_; rintro e w6 ⟨⟨u6, rfl⟩, ho⟩; have H6 := Hid.mk (H5.out.over ho.only (fun k hk => ⟨Or.inr hk, Nat.le_trans hX.out.tree.below.size hk.1⟩)); clear ho)
          | (go_at_call 16; refine (sameAllN (R.map (·.1)) (by simp) _ _ _ _ _ _ _ HK4.out.1 HK4.out.2).mono ?_; rintro e w5 ⟨rfl, hb⟩; have H5 := Hid.mk (H4.out.up hb); have HO5 := Hid.mk (OwnL.move (Nat.le_refl _) (Nat.le_refl _) (fun k _ h2 => hb.block k (Nat.lt_of_lt_of_le h2 HZ.out)) HO4.out); have HZ5 := Hid.mk (Nat.le_trans HZ.out hb.size); clear hb)
          | (go_at_call 17; refine (keysR_any q R _ _ w3 H3.out.rb (fun b hb => Nat.lt_of_lt_of_le hb H3.out.tree.below.size) (by have := HSZ.out.2; omega)).mono ?_; rintro e w4 ⟨u4, hs4, rfl, hap, htr⟩; obtain ⟨xa, xc, rfl, hl4⟩ := tr_lst hap.row htr; have HZ := Hid.mk hap.below.size; have H4 := Hid.mk (H3.out.up hap.below); have HO4 := Hid.mk (OwnL.move (Nat.le_refl _) (Nat.le_refl _) (fun k _ h2 => hap.below.block k h2) HO3.out); obtain ⟨ub, uc', he, hl3⟩ := OwnL.lst HO4.out; simp only [Value.slice.injEq, List.length_map, true_and] at he; obtain ⟨rfl, rfl⟩ := he; have HK4 := Hid.mk (And.intro hl3 hl4); clear hap htr hl3 hl4 hs4)
          | (go_at_call 15; refine (hX.out.tree.keys HSZ.out.1).mono ?_; rintro e w3 ⟨u3, rfl, ho, hb⟩; obtain ⟨ua, uc, rfl, _⟩ := OwnL.lst ho; rw [List.length_map] at ho; have HO3 := Hid.mk ho; have H3 := Hid.mk (hX.out.more hb (fun k => wr.heap.size ≤ k ∧ k < w3.heap.size) (fun _ h => h)); clear ho hb))
        go_wp2_with (first
          | (go_at_call 19; refine (awake11 _ (HST.out.below H9.out.tree.below)).mono ?_; rintro e wa ⟨rfl, hb⟩; have HE := Hid.mk (H9.out.up hb).tree.below; clear hb)
          | (go_at_call 16; refine (sameAllN (R.map (·.1)) (by simp) _ _ _ _ _ _ _ HL8.out.1 HL8.out.2).mono ?_; rintro e w9 ⟨rfl, hb⟩; have H9 := Hid.mk (H8.out.up hb); clear hb)
          | (go_at_call 17; refine (rkeysl H7.out.rb (fun b hb => Nat.lt_of_lt_of_le hb H7.out.tree.below.size) (by have := HSZ.out.2; omega)).mono ?_; rintro e w8 ⟨a8, c8, rfl, hl, hb⟩; have HL8 := Hid.mk (And.intro (HL7.out.below hb) hl); have H8 := Hid.mk (H7.out.up hb); clear hl hb)
          | (go_at_call 15; refine (H6.out.tree.keysl HSZ.out.1).mono ?_; rintro e w7 ⟨a7, c7, rfl, hl, hb⟩; have HL7 := Hid.mk hl; have H7 := Hid.mk (H6.out.up hb); clear hl hb))
        go_ret
        exact ⟨rfl, HE.out⟩
end Go.Proofs.YteklhipcojioaaaDoor
