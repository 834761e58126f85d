/-
  LinhashBand returns true.
-/
import Derived.Test.YtkijbphbibcnoaaLinStand
import Derived.Test.YtkijbphbibcnoaaKitPick
namespace Go.Proofs.Ytkijbphbibcnoaa
open Go.RowKit Go.Deep Go.Maps Go.WideShapes

/-- A step of the law. -/
structure Stp where
  out : Bool
  which : Int
  h : Nat
theorem stp_one : ∀ (x : Stp) (u : Value), u ∈ [Value.bool x.out, .int .i64 x.which, .int .u32 x.h] → u.oneCell' = true := fun x u hu => by
  simp only [List.mem_cons, List.not_mem_nil, or_false] at hu
  rcases hu with rfl | rfl | rfl <;> rfl
def stS : Srt Stp := { t := 59, st := 56, k := 3, enc := fun x => [.bool x.out, .int .i64 x.which, .int .u32 x.h], z := .agg #[.bool false, .int .i64 0, .int .u32 0], bytes := 24, und := Try.underlying56, info := by kernel_rfl, zc := rfl, pos := by decide, few := by decide, len := fun _ => rfl, one := stp_one }
theorem CelS.item {w : World} {l : List Stp} {a : Option Addr} (h : Cs stS w l a) {i : Nat} (hi : i < l.length) : ∃ b o, a = some ⟨b, o, none⟩ ∧ w.cell? ⟨b, o + i * 3, none⟩ = some (.bool l[i].out) ∧ w.cell? ⟨b, o + i * 3 + 1, none⟩ = some (.int .i64 l[i].which) ∧ w.cell? ⟨b, o + i * 3 + 2, none⟩ = some (.int .u32 l[i].h) := by
  obtain ⟨b, o, e, hc⟩ := h.at_ hi
  exact ⟨b, o, e, hc 0 _ rfl, hc 1 _ rfl, hc 2 _ rfl⟩
section
variable {Lb : World → Nat → Nat → (Nat → Prop) → Bks → Prop} (K : LinOk Lb)
/-- What the law has behind i steps. -/
structure Bs (Lb : World → Nat → Nat → (Nat → Prop) → Bks → Prop) (w wr : World) (p least i : Nat) (v : Value) (all : List It) (B : Bks) : Prop where
  lo : Lo Lb w wr p least B (fun k => v.ownBlock = some k)
  its : Its wr v all
  new : ∀ g, v.ownBlock = some g → w.heap.size ≤ g
  bnd : Bnd least i B all
theorem Lo.base {w w0 w' : World} {p least : Nat} {B : Bks} {F : Nat → Prop} (h : Lo Lb w0 w' p least B F) (hb : Below w.heap.size w w0) : Lo Lb w w' p least B F := by
  obtain ⟨⟨S, h1, h2, h3⟩, h4⟩ := h
  exact ⟨⟨S, h1, fun k hk => Nat.le_trans hb.size (h2 k hk), h3⟩, hb.trans (h4.mono hb.size)⟩
include K
set_option maxHeartbeats 16000000 in
set_option maxRecDepth 100000 in
theorem lawBand10 (least0 : Int) (L : List Stp) (la : Option Addr) (lc : Nat) (w : World) (hL : Cs stS w L la) (hr : ∀ x ∈ L, x.h < 4294967296) :
    Calls Try.prog 6 #[.int .i64 least0, .slice la L.length lc] w fun e w' => e = .returned (.bool true) ∧ Below w.heap.size w w' := by
  obtain ⟨y, hy, hpick⟩ := pick_fun least0 20 (by decide) (by decide)
  have HP := Hid.mk hpick
  obtain ⟨least, hleast⟩ : ∃ least, 1 + y = least := ⟨_, rfl⟩
  have hl1 : 1 ≤ least ∧ least ≤ 20 := by omega
  have hwl : IntKind.i64.wrap (1 + (y : Int)) = (least : Int) := by rw [wrap_id (by omega) (by omega)]; omega
  have HL1 := Hid.mk hl1
  have HCL := Hid.mk hL
  have HR := Hid.mk hr
  clear hpick hy hleast hl1 hL hr
  go_enter Try.func6, Try.ntmps6
  go_upto_region 4 with (first
    | (go_at_call 7; refine (lo_new K _ least HL1.out.1 (by have := HL1.out.2; omega)).mono ?_; rintro e w3 ⟨p, rfl, h⟩; have H3 := Hid.mk (h.base B1.out); clear h)
    | (go_at_call 24; refine (HP.out _).mono ?_; rintro e x ⟨rfl, rfl⟩)
    | (go_at_call 5; refine (known10 K w).mono ?_; rintro e w1 ⟨rfl, hb⟩; have B1 := Hid.mk hb; clear hb))
  by_cases h200 : 200 < L.length
  · have d1 : decide ((200 : Int) < (L.length : Nat)) = true := by rw [decide_eq_true_eq]; omega
    have d2 : decide (200 < L.length) = true := decide_eq_true h200
    go_wp2
    go_ret
    exact ⟨rfl, H3.out.below⟩
  · have d1 : decide ((200 : Int) < (L.length : Nat)) = false := by rw [decide_eq_false_iff_not]; omega
    have d2 : decide (200 < L.length) = false := decide_eq_false h200
    have H200 := Hid.mk (show L.length ≤ 200 by omega)
    have hbs := Hid.mk (show Bs Lb w w3 p least 0 (.slice none 0 0) [] (List.replicate least []) from ⟨H3.out.weaken (fun k hk => (by cases hk)), Ow.nil _, fun g hg => (by cases hg), Bnd.start HL1.out.1 HL1.out.2⟩)
    clear h200 H3 B1
    go_wp2
    go_loopw [8, 9] (fun u0 ii wr => ∃ (i : Nat) (v : Value) (all : List It) (B : Bks), i ≤ L.length ∧ v = u0 ∧ ii = .int .i64 i ∧ Hid (Bs Lb w wr p least i v all B)) (fun _ ii _ => L.length - (intOf ii).toNat)
    case atStart => exact ⟨0, _, [], _, Nat.zero_le _, rfl, rfl, hbs⟩
    case round =>
      obtain ⟨i, v, all, B, hi, rfl, rfl, hS⟩ := hrel
      have h2c := H200.out
      by_cases hlt : i < L.length
      · obtain ⟨b, o, rfl, s0', s1', s2'⟩ := CelS.item HCL.out hlt
        have hx32 := HR.out _ (List.getElem_mem hlt)
        generalize L[i]'hlt = X at *
        obtain ⟨xo, xw, h⟩ := X
        simp only at s0' s1' s2' hx32
        have SS := Hid.mk (fun (W : World) (hW : Below w.heap.size w W) => And.intro (cell_below hW _ _ _ s0') (And.intro (cell_below hW _ _ _ s1') (cell_below hW _ _ _ s2')))
        obtain ⟨s0, s1, s2⟩ := SS.out _ hS.out.lo.below
        have HX := Hid.mk hx32
        have HIL := Hid.mk hlt
        have hil : (i : Int) < L.length := by omega
        have hi200 := Hid.mk (show i < 200 by omega)
        have HBD := hS.out.bnd
        have hbsh := HBD.short
        have HCB := Hid.mk (show B.length ≤ 420 from hbsh)
        have hal : all.length ≤ 200 := by have := HBD.len; omega
        have HAL := Hid.mk hal
        clear s0' s1' s2' hx32 hlt HBD hbsh h2c
        by_cases hc : xo = true ∧ 0 < all.length
        · obtain ⟨rfl, hpos⟩ := hc
          have hposi : (0 : Int) < all.length := by omega
          obtain ⟨g, vc, rfl, hvc, hvm⟩ := hS.out.its.some_ hpos
          have hvci : (all.length : Int) ≤ vc := by omega
          have hvm' : vc ≤ 9223372036854775807 := by unfold maxLen at hvm; omega
          obtain ⟨k, hk, hpk⟩ := pick_fun xw (all.length : Int) (by omega) (by omega)
          have HPK := Hid.mk hpk
          have hkl : k < all.length := by omega
          have hcel0 : CelT wr all (some ⟨g, 0, none⟩) := by
            obtain ⟨a2, c2, e, h⟩ := Its.slice hS.out.its
            simp only [Value.slice.injEq] at e
            obtain ⟨rfl, _, _⟩ := e
            exact h
          obtain ⟨g2, o2, e, x0, x1⟩ := CelT.item hcel0 hkl
          simp only [Option.some.injEq, Addr.mk.injEq, and_true] at e
          obtain ⟨rfl, rfl⟩ := e
          rw [Nat.zero_add] at x0 x1
          have hrm := hS.out.bnd.remove hi200.out hkl
          have hhas := hS.out.bnd.has hkl
          have hy32 := (hS.out.bnd.lt _ (List.getElem_mem hkl)).2
          generalize all[k]'hkl = Y at *
          obtain ⟨Y0, Y1⟩ := Y
          simp only at x0 x1 hrm hhas hy32
          obtain ⟨T, hT⟩ : ∃ T, (fun kk => ¬ (Value.slice (some ⟨g, 0, none⟩) all.length vc).ownBlock = some kk) = T := ⟨_, rfl⟩
          have NG : ¬ T g := fun hk => by rw [← hT] at hk; exact hk rfl
          have HREM := Hid.mk (fun (W : World) (hW : Up wr W) => ((hS.out.lo.up K hW.out).remove K hS.out.bnd.fine Y0 Y1 hy32))
          rw [hhas, hT] at HREM
          have HTI := Hid.mk (fun (W : World) (ho : Only T wr W) => hS.out.its.kept ho (fun g' hg' hk => by rw [← hT] at hk; exact hk hg'))
          have HGN := Hid.mk (hS.out.new g rfl)
          have HCF := Hid.mk (show Fine (removeB B Y0 Y1) ∧ 1 ≤ least ∧ (removeB B Y0 Y1).length < 90000 from ⟨hS.out.bnd.fine.remove _ _, hS.out.bnd.least1, by rw [removeB_len]; have := HCB.out; omega⟩)
          have HB2 := Hid.mk hrm
          have HKL := Hid.mk (And.intro hkl hvc)
          have hki : (k : Int) < all.length := by omega
          have hki2 : (k : Int) ≤ vc := by omega
          have hwk : IntKind.i64.wrap ((k : Int) + 1) = ((k + 1 : Nat) : Int) := by rw [wrap_id (by omega) (by omega)]; omega
          clear hpk hrm hhas hy32 hT hcel0 hkl hvm hvc hS hpos
          go_upto_region 12 with (go_at_call 24; refine (HPK.out _).mono ?_; rintro e x ⟨rfl, rfl⟩)
          refine wp_region_held (S := Only T wr) (by kernel_rfl) ?_
          refine chain_take (i := 0) (d := 62) (v := .pointer (some ⟨p, 0, none⟩)) rfl rfl (by kernel_rfl) (by kernel_rfl) (by kernel_rfl) rfl (fun _ _ => rfl) (fun _ _ _ h => h) (Only.refl _ wr).drew ?_
          simp only [Act.put, List.setIfInBounds_toArray, List.set_cons_zero, List.set_cons_succ]
          refine chain_take (i := 1) (d := 63) (v := .slice (some ⟨g, 0, none⟩) all.length vc) rfl rfl (by kernel_rfl) (by kernel_rfl) (by kernel_rfl) rfl (fun _ _ => rfl) (fun _ _ _ h => h) (Only.refl _ wr).drew ?_
          simp only [Act.put, List.setIfInBounds_toArray, List.set_cons_zero, List.set_cons_succ]
          refine chain_take (i := 2) (d := 64) (v := .int .i64 k) rfl rfl (by kernel_rfl) (by kernel_rfl) (by kernel_rfl) rfl (fun _ _ => rfl) (fun _ _ _ h => h) (Only.refl _ wr).drew ?_
          simp only [Act.put, List.setIfInBounds_toArray, List.set_cons_zero, List.set_cons_succ]
          refine chain_take (i := 3) (d := 65) (v := .pointer (some ⟨g, k * 2, none⟩)) rfl rfl (by kernel_rfl) (by kernel_rfl) (by kernel_rfl) rfl (fun _ _ => (by go_simp)) (fun _ _ _ h => h) (Only.refl _ wr).drew ?_
          simp only [Act.put, List.setIfInBounds_toArray, List.set_cons_zero, List.set_cons_succ]
          refine chain_take (i := 4) (d := 66) (v := .pointer (some ⟨g, k * 2, none⟩)) rfl rfl (by kernel_rfl) (by kernel_rfl) (by kernel_rfl) rfl (fun _ _ => (by go_simp)) (fun _ _ _ h => h) (Only.refl _ wr).drew ?_
          simp only [Act.put, List.setIfInBounds_toArray, List.set_cons_zero, List.set_cons_succ]
          refine chain_take (i := 5) (d := 67) (v := .int .u32 Y0) rfl rfl (by kernel_rfl) (by kernel_rfl) (by kernel_rfl) rfl (fun W h => (by have u0 := Only.cellS h NG x0; go_simp)) (fun _ _ _ h => h) (Only.refl _ wr).drew ?_
          simp only [Act.put, List.setIfInBounds_toArray, List.set_cons_zero, List.set_cons_succ]
          refine chain_take (i := 6) (d := 68) (v := .slice (some ⟨g, 0, none⟩) all.length vc) rfl rfl (by kernel_rfl) (by kernel_rfl) (by kernel_rfl) rfl (fun _ _ => rfl) (fun _ _ _ h => h) (Only.refl _ wr).drew ?_
          simp only [Act.put, List.setIfInBounds_toArray, List.set_cons_zero, List.set_cons_succ]
          refine chain_take (i := 7) (d := 69) (v := .int .i64 k) rfl rfl (by kernel_rfl) (by kernel_rfl) (by kernel_rfl) rfl (fun _ _ => rfl) (fun _ _ _ h => h) (Only.refl _ wr).drew ?_
          simp only [Act.put, List.setIfInBounds_toArray, List.set_cons_zero, List.set_cons_succ]
          refine chain_take (i := 8) (d := 70) (v := .pointer (some ⟨g, k * 2, none⟩)) rfl rfl (by kernel_rfl) (by kernel_rfl) (by kernel_rfl) rfl (fun _ _ => (by go_simp)) (fun _ _ _ h => h) (Only.refl _ wr).drew ?_
          simp only [Act.put, List.setIfInBounds_toArray, List.set_cons_zero, List.set_cons_succ]
          refine chain_take (i := 9) (d := 71) (v := .pointer (some ⟨g, k * 2 + 1, none⟩)) rfl rfl (by kernel_rfl) (by kernel_rfl) (by kernel_rfl) rfl (fun _ _ => (by go_simp)) (fun _ _ _ h => h) (Only.refl _ wr).drew ?_
          simp only [Act.put, List.setIfInBounds_toArray, List.set_cons_zero, List.set_cons_succ]
          refine chain_take (i := 10) (d := 72) (v := .int .i64 Y1) rfl rfl (by kernel_rfl) (by kernel_rfl) (by kernel_rfl) rfl (fun W h => (by have u0 := Only.cellS h NG x1; go_simp)) (fun _ _ _ h => h) (Only.refl _ wr).drew ?_
          simp only [Act.put, List.setIfInBounds_toArray, List.set_cons_zero, List.set_cons_succ]
          refine chain_call (i := 11) (d := 73) (f := 14) (args := #[.pointer (some ⟨p, 0, none⟩), .int .u32 Y0, .int .i64 Y1]) (by kernel_rfl) rfl rfl rfl (by go_simp) ?_
          refine (HREM.out _ (Up.refl wr).drew).mono ?_
          rintro e w2 ⟨rfl, hlo, hon⟩
          refine ⟨.bool true, rfl, (Only.refl T wr).drew.trans hon (fun _ k => Or.inl k), ?_⟩
          simp only [Act.put, List.setIfInBounds_toArray, List.set_cons_zero, List.set_cons_succ]
          refine chain_take (i := 12) (d := 74) (v := .bool false) rfl rfl (by kernel_rfl) (by kernel_rfl) (by kernel_rfl) rfl (fun _ _ => (by go_simp)) (fun _ _ _ h => h) ((Only.refl T wr).drew.trans hon (fun _ k => Or.inl k)) ?_
          simp only [Act.put, List.setIfInBounds_toArray, List.set_cons_zero, List.set_cons_succ]
          refine wpAnyH_done (by kernel_rfl) ?_ _
          have HI1 := HTI.out w2 ((Only.refl T wr).drew.trans hon (fun _ k => Or.inl k))
          have HLO := Hid.mk hlo
          have HI1' := Hid.mk HI1
          clear hon hlo x0 x1 s0 s1 s2 HTI HREM
          go_upto_region 14 with fail
          refine wp_region_held (S := Up w2) (by kernel_rfl) ?_
          refine chain_take (i := 1) (d := 76) (v := .slice (some ⟨g, 0, none⟩) all.length vc) rfl rfl (by kernel_rfl) (by kernel_rfl) (by kernel_rfl) rfl (fun _ _ => rfl) (fun _ _ _ h => h) (Up.refl w2).drew ?_
          simp only [Act.put, List.setIfInBounds_toArray, List.set_cons_zero, List.set_cons_succ]
          refine chain_take (i := 2) (d := 77) (v := .int .i64 k) rfl rfl (by kernel_rfl) (by kernel_rfl) (by kernel_rfl) rfl (fun _ _ => rfl) (fun _ _ _ h => h) (Up.refl w2).drew ?_
          simp only [Act.put, List.setIfInBounds_toArray, List.set_cons_zero, List.set_cons_succ]
          refine chain_take (i := 3) (d := 78) (v := .slice (some ⟨g, 0, none⟩) k vc) rfl rfl (by kernel_rfl) (by kernel_rfl) (by kernel_rfl) rfl (fun _ _ => (by go_simp)) (fun _ _ _ h => h) (Up.refl w2).drew ?_
          simp only [Act.put, List.setIfInBounds_toArray, List.set_cons_zero, List.set_cons_succ]
          refine chain_take (i := 5) (d := 80) (v := .slice (some ⟨g, 0, none⟩) all.length vc) rfl rfl (by kernel_rfl) (by kernel_rfl) (by kernel_rfl) rfl (fun _ _ => rfl) (fun _ _ _ h => h) (Up.refl w2).drew ?_
          simp only [Act.put, List.setIfInBounds_toArray, List.set_cons_zero, List.set_cons_succ]
          refine chain_take (i := 6) (d := 81) (v := .int .i64 k) rfl rfl (by kernel_rfl) (by kernel_rfl) (by kernel_rfl) rfl (fun _ _ => rfl) (fun _ _ _ h => h) (Up.refl w2).drew ?_
          simp only [Act.put, List.setIfInBounds_toArray, List.set_cons_zero, List.set_cons_succ]
          refine chain_take (i := 7) (d := 82) (v := .int .i64 ((k + 1 : Nat) : Int)) rfl rfl (by kernel_rfl) (by kernel_rfl) (by kernel_rfl) rfl (fun _ _ => (by go_simp)) (fun _ _ _ h => h) (Up.refl w2).drew ?_
          simp only [Act.put, List.setIfInBounds_toArray, List.set_cons_zero, List.set_cons_succ]
          obtain ⟨dA, hdA⟩ : ∃ dA : Option Addr, (if vc = k + 1 then some ⟨g, 0, none⟩ else some ⟨g, (k + 1) * 2, none⟩) = dA := ⟨_, rfl⟩
          have HSL := Hid.mk (fun W => slice_from g all.length vc (k + 1) HKL.out.1 W)
          have hcel2 : CelT w2 all (some ⟨g, 0, none⟩) := by
            obtain ⟨a2, c2, e, h⟩ := Its.slice HI1
            simp only [Value.slice.injEq] at e
            obtain ⟨rfl, _, _⟩ := e
            exact h
          have HDC := Hid.mk (fun (W : World) (hW : Below w2.heap.size w2 W) => drop_cs (k := k + 1) (hcel2.up hW) HKL.out.2)
          have HDN := Hid.mk (show dA = none → vc - (k + 1) = 0 from fun e => (by rw [e] at hdA; split at hdA <;> cases hdA))
          rw [hdA] at HSL HDC
          clear hdA
          refine chain_take (i := 8) (d := 83) (v := .slice dA (all.length - (k + 1)) (vc - (k + 1))) rfl rfl (by kernel_rfl) (by kernel_rfl) (by kernel_rfl) rfl (fun W _ => exec_slice_low rfl rfl (HSL.out W)) (fun _ _ _ h => h) (Up.refl w2).drew ?_
          simp only [Act.put, List.setIfInBounds_toArray, List.set_cons_zero, List.set_cons_succ]
          obtain ⟨WD, hWD⟩ : ∃ WD, ({ w2 with drawn := w2.drawn + 1 } : World) = WD := ⟨_, rfl⟩
          have HD : Up w2 WD := by rw [← hWD]; exact (Up.refl w2).drew
          rw [hWD]
          clear hWD
          have hE := App.empty HD
          obtain ⟨u1, w3', hr1, hi1, hg1, ho1⟩ := cels_append (WD.alloc (.cells #[] 54)) _ [] (all.take k) (some ⟨g, 0, none⟩) k vc hE.its (Cs.take (hcel2.up hE.below) k) (fun e => (by cases e)) (by have := HKL.out.1; rw [List.length_take]; omega) (by have := HAL.out; simp; omega)
          have hA1 := hE.more hi1 hg1 ho1
          obtain ⟨u2, w4, hr2, hi2, hg2, ho2⟩ := cels_append w3' u1 _ (all.drop (k + 1)) dA (all.length - (k + 1)) (vc - (k + 1)) hA1.its (HDC.out _ hA1.below) HDN.out (by rw [List.length_drop]) (by have := HAL.out; simp; omega)
          have hA2 := hA1.more hi2 hg2 ho2
          refine chain_value (i := 0) (d := 75) (v := .slice (some ⟨WD.heap.size, 0, none⟩) 0 0) (w' := WD.alloc (.cells #[] 54)) (by kernel_rfl) rfl rfl rfl (by go_simp) (hE.below) ?_
          simp only [Act.put, List.setIfInBounds_toArray, List.set_cons_zero, List.set_cons_succ]
          refine chain_value (i := 4) (d := 79) (v := u1) (w' := w3') (by kernel_rfl) rfl rfl rfl (exec_append rfl rfl hr1) (hA1.below) ?_
          simp only [Act.put, List.setIfInBounds_toArray, List.set_cons_zero, List.set_cons_succ]
          refine chain_value (i := 9) (d := 84) (v := u2) (w' := w4) (by kernel_rfl) rfl rfl rfl (exec_append rfl rfl hr2) (hA2.below) ?_
          simp only [Act.put, List.setIfInBounds_toArray, List.set_cons_zero, List.set_cons_succ]
          refine chain_value (i := 10) (d := 8) (v := u2) (w' := w4) (by kernel_rfl) rfl rfl rfl rfl (hA2.below) ?_
          simp only [Act.put, List.setIfInBounds_toArray, List.set_cons_zero, List.set_cons_succ]
          refine wpAnyH_done (by kernel_rfl) ?_ _
          have HC := Hid.mk (HLO.out.app K (T := fun _ => False) (G := fun k => u2.ownBlock = some k) (Only.up hA2.below) (fun _ f => f.elim) (fun k hk => ⟨Or.inr (hA2.new k hk), hA2.its.lt hk⟩))
          have HI2 : Hid (Its w4 u2 (all.take k ++ all.drop (k + 1))) := Hid.mk hA2.its
          have HNW := Hid.mk (fun g' (hg' : u2.ownBlock = some g') => Nat.le_trans HLO.out.below.size (hA2.new g' hg'))
          clear hr1 hi1 hg1 ho1 hr2 hi2 hg2 ho2 hA1 hA2 hE hcel2 HD HI1 HLO
          go_upto_region 19 with fail
          have hsh := HB2.out.short
          have hbd := HB2.out.band
          have hmn := HB2.out.min_
          have hsz := HB2.out.size
          have hcm := HB2.out.calm
          have hll := HB2.out.len
          have hfw := HB2.out.few
          have hst := Hid.mk (settled_any K HC.out HCF.out.1 HCF.out.2.1 HCF.out.2.2)
          obtain ⟨B2, hB2⟩ : ∃ B2, stepB least (stepB least (removeB B Y0 Y1)) = B2 := ⟨_, rfl⟩
          rw [hB2] at HB2 hst hsh hbd hmn hsz hcm
          clear hB2
          obtain ⟨N, hN⟩ : ∃ N, B2.length = N := ⟨_, rfl⟩
          obtain ⟨U, hU⟩ : ∃ U, szB B2 = U := ⟨_, rfl⟩
          obtain ⟨A, hA⟩ : ∃ A, (all.take k ++ all.drop (k + 1)).length = A := ⟨_, rfl⟩
          have HNU := Hid.mk (And.intro hN (And.intro hU (And.intro hcm hA)))
          rw [hN] at hsh hbd hmn
          rw [hU] at hbd hsz
          rw [hA] at hsz hll
          subst hsz
          have q1 : IntKind.i64.wrap (2 * (N : Int)) = 2 * N := wrap_id (by omega) (by omega)
          have q2 : IntKind.i64.wrap (2 * (U : Int)) = 2 * U := wrap_id (by omega) (by omega)
          have q3 : decide (2 * (N : Int) < U) = false := by rw [decide_eq_false_iff_not]; omega
          have q4 : least ≤ N := hmn
          have q6 : (least < N ∧ decide (2 * (U : Int) < N) = false) ∨ ¬ least < N := by
            by_cases e : least < N
            · exact Or.inl ⟨e, by rw [decide_eq_false_iff_not]; have := hbd.2 e; omega⟩
            · exact Or.inr e
          have hwi : IntKind.i64.wrap ((i : Int) + 1) = ((i + 1 : Nat) : Int) := by rw [wrap_id (by omega) (by omega)]; omega
          clear hsh hbd hcm hll hfw hN hU hmn
          obtain ⟨a9, c9, hv9, hcel9⟩ := Its.slice HI2.out
          rw [hA] at hv9
          clear hA hcel9
          have HV9 := Hid.mk hv9
          have hv9' := hv9
          clear hv9
          rcases q6 with ⟨q5, q6⟩ | q6
          · rw [hv9']
            clear hv9'
            go_wp2_with (first
              | (go_at_call 25; refine hst.out.mono ?_; rintro e w6 ⟨rfl, h, ho⟩; have HL := Hid.mk h; have HI3 := Hid.mk (HI2.out.kept ho (fun g hg hk => hk hg)); clear h ho)
              | (go_at_call 18; refine (HL.out.wants K HB2.out.fine).mono ?_; rintro e w7 ⟨rfl, hb⟩; rw [HNU.out.2.2.1]; replace HL := Hid.mk (HL.out.up K hb); replace HI3 := Hid.mk (HI3.out.up hb); clear hb)
              | (go_at_call 16; refine (HL.out.len K HB2.out.fine).mono ?_; rintro e w7 ⟨rfl, hb⟩; rw [HNU.out.2.1]; replace HL := Hid.mk (HL.out.up K hb); replace HI3 := Hid.mk (HI3.out.up hb); clear hb)
              | (go_at_call 17; refine (HL.out.count K HB2.out.fine).mono ?_; rintro e w7 ⟨rfl, hb⟩; rw [HNU.out.1]; replace HL := Hid.mk (HL.out.up K hb); replace HI3 := Hid.mk (HI3.out.up hb); clear hb))
            go_roundw
            case rel => exact ⟨i + 1, _, _, B2, HIL.out, HV9.out, by first | rfl | go_num, Hid.mk ⟨HL.out, HI3.out, HNW.out, HB2.out⟩⟩
            case measure => have h1 : i < L.length := HIL.out; simp [intOf]; omega
          · rw [hv9']
            clear hv9'
            go_wp2_with (first
              | (go_at_call 25; refine hst.out.mono ?_; rintro e w6 ⟨rfl, h, ho⟩; have HL := Hid.mk h; have HI3 := Hid.mk (HI2.out.kept ho (fun g hg hk => hk hg)); clear h ho)
              | (go_at_call 18; refine (HL.out.wants K HB2.out.fine).mono ?_; rintro e w7 ⟨rfl, hb⟩; rw [HNU.out.2.2.1]; replace HL := Hid.mk (HL.out.up K hb); replace HI3 := Hid.mk (HI3.out.up hb); clear hb)
              | (go_at_call 16; refine (HL.out.len K HB2.out.fine).mono ?_; rintro e w7 ⟨rfl, hb⟩; rw [HNU.out.2.1]; replace HL := Hid.mk (HL.out.up K hb); replace HI3 := Hid.mk (HI3.out.up hb); clear hb)
              | (go_at_call 17; refine (HL.out.count K HB2.out.fine).mono ?_; rintro e w7 ⟨rfl, hb⟩; rw [HNU.out.1]; replace HL := Hid.mk (HL.out.up K hb); replace HI3 := Hid.mk (HI3.out.up hb); clear hb))
            go_roundw
            case rel => exact ⟨i + 1, _, _, B2, HIL.out, HV9.out, by first | rfl | go_num, Hid.mk ⟨HL.out, HI3.out, HNW.out, HB2.out⟩⟩
            case measure => have h1 : i < L.length := HIL.out; simp [intOf]; omega
        · have hcc : xo = false ∨ xo = true ∧ ¬ 0 < all.length := by
            cases xo with
            | false => exact Or.inl rfl
            | true => exact Or.inr ⟨rfl, fun h => hc ⟨rfl, h⟩⟩
          clear hc
          rcases hcc with rfl | ⟨rfl, hz⟩
          · obtain ⟨va, vc, rfl, _⟩ := Its.slice hS.out.its
            have HCF := Hid.mk (show Fine (addB B h (i : Int)) ∧ 1 ≤ least ∧ (addB B h (i : Int)).length < 90000 from ⟨hS.out.bnd.fine.add HX.out _ (by have := hS.out.bnd.size; omega), hS.out.bnd.least1, by rw [addB_len]; have := HCB.out; omega⟩)
            have HB2 := Hid.mk (hS.out.bnd.add hi200.out HX.out)
            have HADD := Hid.mk (hS.out.lo.add K hS.out.bnd.fine h (i : Int) HX.out)
            have HST := Hid.mk (And.intro hS.out.its (And.intro hS.out.new hS.out.lo.below.size))
            clear hS
            go_upto_region 19 with (first
              | (at_builtin; refine Lib.wpList_append_run _ rfl _ _ _ _ rfl _ _ rfl rfl _ _ hr2 ?_)
              | (go_at_call 12; refine HADD.out.mono ?_; rintro e w2 ⟨rfl, hlo, hon⟩; have HLO := Hid.mk hlo; have HI1 := Hid.mk (HST.out.1.kept hon (fun g hg hk => hk hg)); obtain ⟨s0, s1, s2⟩ := SS.out _ hlo.below; obtain ⟨u2, w4, hr2, hi2, hg2, ho2⟩ := item_append (w2.alloc (.cells #[.int .u32 h, .int .i64 i] 54)) (.slice va all.length vc) all (h, (i : Int)) (HI1.out.up (Up.alloc (Up.refl w2)).out) w2.heap.size (new_block _ _) (by have := HAL.out; omega); clear hlo hon))
            have hw24 : Only (fun k => (Value.slice va all.length vc).ownBlock = some k) w2 w4 := (Only.up (Up.alloc (Up.refl w2)).out).grow hg2 (fun k hk => hk)
            have hown : ∀ k, u2.ownBlock = some k → (Value.slice va all.length vc).ownBlock = some k ∨ w2.heap.size ≤ k := fun k hk => by
              rcases ho2 with e | e
              · exact Or.inl (e ▸ hk)
              · rw [e] at hk; cases hk; exact Or.inr (Up.alloc (Up.refl w2)).out.size
            have HC := Hid.mk (HLO.out.app K (T := fun k => (Value.slice va all.length vc).ownBlock = some k) (G := fun k => u2.ownBlock = some k) hw24 (fun k hk => ⟨hk, HST.out.2.1 k hk⟩) (fun k hk => ⟨hown k hk, hi2.lt hk⟩))
            have HI2 := Hid.mk hi2
            have HNW := Hid.mk (fun g' (hg' : u2.ownBlock = some g') => (by
              rcases hown g' hg' with e | e
              · exact HST.out.2.1 g' e
              · exact Nat.le_trans HLO.out.below.size e : w.heap.size ≤ g'))
            clear hr2 hi2 hg2 ho2 hw24 hown HLO HADD s0 s1 s2
            have hsh := HB2.out.short
            have hbd := HB2.out.band
            have hmn := HB2.out.min_
            have hsz := HB2.out.size
            have hcm := HB2.out.calm
            have hll := HB2.out.len
            have hfw := HB2.out.few
            have hst := Hid.mk (settled_any K HC.out HCF.out.1 HCF.out.2.1 HCF.out.2.2)
            obtain ⟨B2, hB2⟩ : ∃ B2, stepB least (stepB least (addB B h (i : Int))) = B2 := ⟨_, rfl⟩
            rw [hB2] at HB2 hst hsh hbd hmn hsz hcm
            clear hB2
            obtain ⟨N, hN⟩ : ∃ N, B2.length = N := ⟨_, rfl⟩
            obtain ⟨U, hU⟩ : ∃ U, szB B2 = U := ⟨_, rfl⟩
            obtain ⟨A, hA⟩ : ∃ A, (all ++ [(h, (i : Int))]).length = A := ⟨_, rfl⟩
            have HNU := Hid.mk (And.intro hN (And.intro hU (And.intro hcm hA)))
            rw [hN] at hsh hbd hmn
            rw [hU] at hbd hsz
            rw [hA] at hsz hll
            subst hsz
            have q1 : IntKind.i64.wrap (2 * (N : Int)) = 2 * N := wrap_id (by omega) (by omega)
            have q2 : IntKind.i64.wrap (2 * (U : Int)) = 2 * U := wrap_id (by omega) (by omega)
            have q3 : decide (2 * (N : Int) < U) = false := by rw [decide_eq_false_iff_not]; omega
            have q4 : least ≤ N := hmn
            have q6 : (least < N ∧ decide (2 * (U : Int) < N) = false) ∨ ¬ least < N := by
              by_cases e : least < N
              · exact Or.inl ⟨e, by rw [decide_eq_false_iff_not]; have := hbd.2 e; omega⟩
              · exact Or.inr e
            have hwi : IntKind.i64.wrap ((i : Int) + 1) = ((i + 1 : Nat) : Int) := by rw [wrap_id (by omega) (by omega)]; omega
            clear hsh hbd hcm hll hfw hN hU hmn
            obtain ⟨a9, c9, hv9, hcel9⟩ := Its.slice HI2.out
            rw [hA] at hv9
            clear hA hcel9
            have HV9 := Hid.mk hv9
            have hv9' := hv9
            clear hv9
            rcases q6 with ⟨q5, q6⟩ | q6
            · rw [hv9']
              clear hv9'
              go_wp2_with (first
                | (go_at_call 25; refine hst.out.mono ?_; rintro e w6 ⟨rfl, h, ho⟩; have HL := Hid.mk h; have HI3 := Hid.mk (HI2.out.kept ho (fun g hg hk => hk hg)); clear h ho)
                | (go_at_call 18; refine (HL.out.wants K HB2.out.fine).mono ?_; rintro e w7 ⟨rfl, hb⟩; rw [HNU.out.2.2.1]; replace HL := Hid.mk (HL.out.up K hb); replace HI3 := Hid.mk (HI3.out.up hb); clear hb)
                | (go_at_call 16; refine (HL.out.len K HB2.out.fine).mono ?_; rintro e w7 ⟨rfl, hb⟩; rw [HNU.out.2.1]; replace HL := Hid.mk (HL.out.up K hb); replace HI3 := Hid.mk (HI3.out.up hb); clear hb)
                | (go_at_call 17; refine (HL.out.count K HB2.out.fine).mono ?_; rintro e w7 ⟨rfl, hb⟩; rw [HNU.out.1]; replace HL := Hid.mk (HL.out.up K hb); replace HI3 := Hid.mk (HI3.out.up hb); clear hb))
              go_roundw
              case rel => exact ⟨i + 1, _, _, B2, HIL.out, HV9.out, by first | rfl | go_num, Hid.mk ⟨HL.out, HI3.out, HNW.out, HB2.out⟩⟩
              case measure => have h1 : i < L.length := HIL.out; simp [intOf]; omega
            · rw [hv9']
              clear hv9'
              go_wp2_with (first
                | (go_at_call 25; refine hst.out.mono ?_; rintro e w6 ⟨rfl, h, ho⟩; have HL := Hid.mk h; have HI3 := Hid.mk (HI2.out.kept ho (fun g hg hk => hk hg)); clear h ho)
                | (go_at_call 18; refine (HL.out.wants K HB2.out.fine).mono ?_; rintro e w7 ⟨rfl, hb⟩; rw [HNU.out.2.2.1]; replace HL := Hid.mk (HL.out.up K hb); replace HI3 := Hid.mk (HI3.out.up hb); clear hb)
                | (go_at_call 16; refine (HL.out.len K HB2.out.fine).mono ?_; rintro e w7 ⟨rfl, hb⟩; rw [HNU.out.2.1]; replace HL := Hid.mk (HL.out.up K hb); replace HI3 := Hid.mk (HI3.out.up hb); clear hb)
                | (go_at_call 17; refine (HL.out.count K HB2.out.fine).mono ?_; rintro e w7 ⟨rfl, hb⟩; rw [HNU.out.1]; replace HL := Hid.mk (HL.out.up K hb); replace HI3 := Hid.mk (HI3.out.up hb); clear hb))
              go_roundw
              case rel => exact ⟨i + 1, _, _, B2, HIL.out, HV9.out, by first | rfl | go_num, Hid.mk ⟨HL.out, HI3.out, HNW.out, HB2.out⟩⟩
              case measure => have h1 : i < L.length := HIL.out; simp [intOf]; omega
          · obtain ⟨va, vc, rfl, _⟩ := Its.slice hS.out.its
            have HCF := Hid.mk (show Fine (addB B h (i : Int)) ∧ 1 ≤ least ∧ (addB B h (i : Int)).length < 90000 from ⟨hS.out.bnd.fine.add HX.out _ (by have := hS.out.bnd.size; omega), hS.out.bnd.least1, by rw [addB_len]; have := HCB.out; omega⟩)
            have HB2 := Hid.mk (hS.out.bnd.add hi200.out HX.out)
            have HADD := Hid.mk (hS.out.lo.add K hS.out.bnd.fine h (i : Int) HX.out)
            have HST := Hid.mk (And.intro hS.out.its (And.intro hS.out.new hS.out.lo.below.size))
            clear hS
            go_upto_region 19 with (first
              | (at_builtin; refine Lib.wpList_append_run _ rfl _ _ _ _ rfl _ _ rfl rfl _ _ hr2 ?_)
              | (go_at_call 12; refine HADD.out.mono ?_; rintro e w2 ⟨rfl, hlo, hon⟩; have HLO := Hid.mk hlo; have HI1 := Hid.mk (HST.out.1.kept hon (fun g hg hk => hk hg)); obtain ⟨s0, s1, s2⟩ := SS.out _ hlo.below; obtain ⟨u2, w4, hr2, hi2, hg2, ho2⟩ := item_append (w2.alloc (.cells #[.int .u32 h, .int .i64 i] 54)) (.slice va all.length vc) all (h, (i : Int)) (HI1.out.up (Up.alloc (Up.refl w2)).out) w2.heap.size (new_block _ _) (by have := HAL.out; omega); clear hlo hon))
            have hw24 : Only (fun k => (Value.slice va all.length vc).ownBlock = some k) w2 w4 := (Only.up (Up.alloc (Up.refl w2)).out).grow hg2 (fun k hk => hk)
            have hown : ∀ k, u2.ownBlock = some k → (Value.slice va all.length vc).ownBlock = some k ∨ w2.heap.size ≤ k := fun k hk => by
              rcases ho2 with e | e
              · exact Or.inl (e ▸ hk)
              · rw [e] at hk; cases hk; exact Or.inr (Up.alloc (Up.refl w2)).out.size
            have HC := Hid.mk (HLO.out.app K (T := fun k => (Value.slice va all.length vc).ownBlock = some k) (G := fun k => u2.ownBlock = some k) hw24 (fun k hk => ⟨hk, HST.out.2.1 k hk⟩) (fun k hk => ⟨hown k hk, hi2.lt hk⟩))
            have HI2 := Hid.mk hi2
            have HNW := Hid.mk (fun g' (hg' : u2.ownBlock = some g') => (by
              rcases hown g' hg' with e | e
              · exact HST.out.2.1 g' e
              · exact Nat.le_trans HLO.out.below.size e : w.heap.size ≤ g'))
            clear hr2 hi2 hg2 ho2 hw24 hown HLO HADD s0 s1 s2
            have hsh := HB2.out.short
            have hbd := HB2.out.band
            have hmn := HB2.out.min_
            have hsz := HB2.out.size
            have hcm := HB2.out.calm
            have hll := HB2.out.len
            have hfw := HB2.out.few
            have hst := Hid.mk (settled_any K HC.out HCF.out.1 HCF.out.2.1 HCF.out.2.2)
            obtain ⟨B2, hB2⟩ : ∃ B2, stepB least (stepB least (addB B h (i : Int))) = B2 := ⟨_, rfl⟩
            rw [hB2] at HB2 hst hsh hbd hmn hsz hcm
            clear hB2
            obtain ⟨N, hN⟩ : ∃ N, B2.length = N := ⟨_, rfl⟩
            obtain ⟨U, hU⟩ : ∃ U, szB B2 = U := ⟨_, rfl⟩
            obtain ⟨A, hA⟩ : ∃ A, (all ++ [(h, (i : Int))]).length = A := ⟨_, rfl⟩
            have HNU := Hid.mk (And.intro hN (And.intro hU (And.intro hcm hA)))
            rw [hN] at hsh hbd hmn
            rw [hU] at hbd hsz
            rw [hA] at hsz hll
            subst hsz
            have q1 : IntKind.i64.wrap (2 * (N : Int)) = 2 * N := wrap_id (by omega) (by omega)
            have q2 : IntKind.i64.wrap (2 * (U : Int)) = 2 * U := wrap_id (by omega) (by omega)
            have q3 : decide (2 * (N : Int) < U) = false := by rw [decide_eq_false_iff_not]; omega
            have q4 : least ≤ N := hmn
            have q6 : (least < N ∧ decide (2 * (U : Int) < N) = false) ∨ ¬ least < N := by
              by_cases e : least < N
              · exact Or.inl ⟨e, by rw [decide_eq_false_iff_not]; have := hbd.2 e; omega⟩
              · exact Or.inr e
            have hwi : IntKind.i64.wrap ((i : Int) + 1) = ((i + 1 : Nat) : Int) := by rw [wrap_id (by omega) (by omega)]; omega
            clear hsh hbd hcm hll hfw hN hU hmn
            obtain ⟨a9, c9, hv9, hcel9⟩ := Its.slice HI2.out
            rw [hA] at hv9
            clear hA hcel9
            have HV9 := Hid.mk hv9
            have hv9' := hv9
            clear hv9
            rcases q6 with ⟨q5, q6⟩ | q6
            · rw [hv9']
              clear hv9'
              go_wp2_with (first
                | (go_at_call 25; refine hst.out.mono ?_; rintro e w6 ⟨rfl, h, ho⟩; have HL := Hid.mk h; have HI3 := Hid.mk (HI2.out.kept ho (fun g hg hk => hk hg)); clear h ho)
                | (go_at_call 18; refine (HL.out.wants K HB2.out.fine).mono ?_; rintro e w7 ⟨rfl, hb⟩; rw [HNU.out.2.2.1]; replace HL := Hid.mk (HL.out.up K hb); replace HI3 := Hid.mk (HI3.out.up hb); clear hb)
                | (go_at_call 16; refine (HL.out.len K HB2.out.fine).mono ?_; rintro e w7 ⟨rfl, hb⟩; rw [HNU.out.2.1]; replace HL := Hid.mk (HL.out.up K hb); replace HI3 := Hid.mk (HI3.out.up hb); clear hb)
                | (go_at_call 17; refine (HL.out.count K HB2.out.fine).mono ?_; rintro e w7 ⟨rfl, hb⟩; rw [HNU.out.1]; replace HL := Hid.mk (HL.out.up K hb); replace HI3 := Hid.mk (HI3.out.up hb); clear hb))
              go_roundw
              case rel => exact ⟨i + 1, _, _, B2, HIL.out, HV9.out, by first | rfl | go_num, Hid.mk ⟨HL.out, HI3.out, HNW.out, HB2.out⟩⟩
              case measure => have h1 : i < L.length := HIL.out; simp [intOf]; omega
            · rw [hv9']
              clear hv9'
              go_wp2_with (first
                | (go_at_call 25; refine hst.out.mono ?_; rintro e w6 ⟨rfl, h, ho⟩; have HL := Hid.mk h; have HI3 := Hid.mk (HI2.out.kept ho (fun g hg hk => hk hg)); clear h ho)
                | (go_at_call 18; refine (HL.out.wants K HB2.out.fine).mono ?_; rintro e w7 ⟨rfl, hb⟩; rw [HNU.out.2.2.1]; replace HL := Hid.mk (HL.out.up K hb); replace HI3 := Hid.mk (HI3.out.up hb); clear hb)
                | (go_at_call 16; refine (HL.out.len K HB2.out.fine).mono ?_; rintro e w7 ⟨rfl, hb⟩; rw [HNU.out.2.1]; replace HL := Hid.mk (HL.out.up K hb); replace HI3 := Hid.mk (HI3.out.up hb); clear hb)
                | (go_at_call 17; refine (HL.out.count K HB2.out.fine).mono ?_; rintro e w7 ⟨rfl, hb⟩; rw [HNU.out.1]; replace HL := Hid.mk (HL.out.up K hb); replace HI3 := Hid.mk (HI3.out.up hb); clear hb))
              go_roundw
              case rel => exact ⟨i + 1, _, _, B2, HIL.out, HV9.out, by first | rfl | go_num, Hid.mk ⟨HL.out, HI3.out, HNW.out, HB2.out⟩⟩
              case measure => have h1 : i < L.length := HIL.out; simp [intOf]; omega
      · obtain rfl : i = L.length := by omega
        obtain ⟨va, vc, rfl, hcel⟩ := Its.slice hS.out.its
        have HV := Hid.mk hcel
        clear hlt hcel
        go_wp2_with (go_at_call 26; refine (stand_any K all _ _ hS.out.lo hS.out.bnd HV.out).mono ?_; rintro e w5 ⟨rfl, hb⟩; have B5 := Hid.mk hb; clear hb)
        go_ret
        exact ⟨rfl, hS.out.lo.below.trans (B5.out.mono hS.out.lo.below.size)⟩
end
end Go.Proofs.Ytkijbphbibcnoaa
