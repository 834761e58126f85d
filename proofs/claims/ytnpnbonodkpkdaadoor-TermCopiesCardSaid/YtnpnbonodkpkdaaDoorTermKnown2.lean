/-
  TermKnown: the chapter's examples.
-/
import Derived.Test.YtnpnbonodkpkdaaDoorTermSameP
import Derived.Test.YtnpnbonodkpkdaaDoorTermList
import Derived.Laws.IdiomStrings
namespace Go.Proofs.YtnpnbonodkpkdaaDoor
open Go.RowKit Go.Deep

theorem refused_any (T : Tm) (hsz : T.size ≤ 1000000) (c : Bool) (hc : (T.check == 2) = c) (S : Nat → Prop) (v : Value) (w : World) (hv : Lies w S T v) (ht : ShapeTab w) :
    Calls Tryd.prog 34 #[v] w fun e w' => e = .returned (.bool c) ∧ Below w.heap.size w w' := by
  have hk := Hid.mk (fun (w1 : World) (hb : Up w w1) => checkI_any T hsz S v w1 (hv.below hb.out) (ht.below hb.out))
  generalize T.check = q at hc hk
  obtain ⟨k, n, s, a, m, cap, rfl⟩ := hv.agg
  clear hv
  go_enter Tryd.func34, Tryd.ntmps34
  go_wp2_with (go_at_call 11; refine (hk.out _ (by first | exact Up.refl _ | exact (Up.refl _).alloc)).mono ?_; rintro e w2 ⟨rfl, hb⟩; have hk2 : Up w w2 := (by first | exact (Up.refl _).call hb | exact (Up.refl _).alloc.call hb))
  go_ret
  exact ⟨rfl, hk2.out⟩

theorem lst1 {w : World} {S : Nat → Prop} {t : Tm} {nb : Nat} {h0 h1 h2 h3 : Value} {ty : TypeId} (hc : w.heap[nb]? = some (.cells #[h0, h1, h2, h3] ty (0, 0))) (hnb : S nb) (ht : Lies w S t (.agg #[h0, h1, h2, h3])) : Lst w S [t] (some ⟨nb, 0, none⟩) 1 := by
  have hcell : ∀ j, w.cell? ⟨nb, j, none⟩ = #[h0, h1, h2, h3][j]? := fun j => cell_of_row w nb j _ ty (0, 0) hc
  refine ⟨Nat.le_refl _, by simp, Or.inr ⟨_, rfl, fun _ => ⟨hnb, rfl⟩, ?_⟩⟩
  rw [Row, Row]
  exact ⟨⟨h0, h1, h2, h3, hcell 0, hcell 1, hcell 2, hcell 3, ht⟩, trivial⟩

theorem check_fit {T : Tm} (h : T.fits = false) : (T.check == 2) = true := by
  rw [Tm.check, fits_pre, h]
  rfl
theorem num_bad : (Tm.num 576460752303423488).fits = false := by simp [Tm.num, Tm.fits, fitB]
theorem cons_bad : (Tm.mk 9 0 ⟨#[]⟩ [.nil]).fits = false := by simp [Tm.fits, fitB]
theorem sym_bad (s : ByteArray) (h : s.size = 65) : (Tm.sym s).fits = false := by simp [Tm.sym, Tm.fits, fitB, h]
theorem nil_bad : (Tm.mk 8 1 ⟨#[]⟩ []).fits = false := by simp [Tm.fits, fitB]
theorem two_check : Tm.two.check = 0 := by
  rw [Tm.check, fits_pre, two_words]
  have : Tm.two.fits = true := by
    have e : (⟨#[]⟩ : ByteArray).size = 0 := rfl
    simp [Tm.two, conses, Tm.num, Tm.nil, Tm.fits, fitss, fitB, e]
  rw [if_pos this]
  rfl

theorem checkTwo_any (S : Nat → Prop) (v : Value) (w : World) (hv : Lies w S .two v) (ht : ShapeTab w) : Calls Tryd.prog 11 #[v] w fun e w' => e = .returned (.int .i64 0) ∧ Below w.heap.size w w' := by
  have h := checkI_any .two two_size S v w hv ht
  rwa [two_check] at h
theorem itemsBad_any (T : Tm) (hsz : T.size ≤ 1000000) (hsh : T.Short) (hl : (T.last == 8) = false) (S : Nat → Prop) (v : Value) (w : World) (hv : Lies w S T v) :
    Calls Tryd.prog 28 #[v] w fun e w' => (∃ a n cap, e = .returned (.tuple #[.slice a n cap, .bool false])) ∧ Below w.heap.size w w' := by
  refine (items_any T hsz hsh S v w hv).mono ?_
  rintro e w' ⟨⟨l, a, cap, rfl, _, _⟩, hb⟩
  exact ⟨⟨a, l.length, cap, by rw [hl]⟩, hb⟩
theorem sameSelf_any (T : Tm) (hsz : T.size ≤ 1000000) (S S' : Nat → Prop) (v u : Value) (w : World) (hv : Lies w S T v) (hu : Lies w S' T u) :
    Calls Tryd.prog 15 #[v, u] w fun e w' => e = .returned (.bool true) ∧ Below w.heap.size w w' := by
  have h := sameP_any T T hsz S S' v u w hv hu
  rwa [eqB_refl] at h

theorem byteInfo : (Tryd.prog.info? 5).map (fun i => (i.zero, i.size, i.bytes)) = some (some (.int .u8 0), 1, 1) := by kernel_rfl
/-- 65 bytes made, and the text of them. -/
theorem bytes65 : ∃ (MB : Array Value) (Z : ByteArray), Z.size = 65 ∧
    (∀ W : World, (Instr.makeSlice 46 (.int .i64 65) (.int .i64 65)).run Tryd.prog W = .ok (.slice (some ⟨W.heap.size, 0, none⟩) 65 65) (W.alloc (.cells MB 5))) ∧
    ∀ W : World, (convert 46 9 (.slice (some ⟨W.heap.size, 0, none⟩) 65 65)).run Tryd.prog (W.alloc (.cells MB 5)) = .ok (.string Z) (W.alloc (.cells MB 5)) := by
  obtain ⟨i0, hi0, hz0, hz1, hby⟩ := info_at byteInfo
  refine ⟨Array.replicate 65 (.int .u8 0), ⟨(List.replicate 65 (0 : UInt8)).toArray⟩, rfl, fun W => ?_, fun W => ?_⟩
  · have h := run_make (P := Tryd.prog) W 46 5 i0 _ Tryd.underlying46 hi0 hz0 .i64 .i64 65 65 (by omega) (by omega) (by rw [hby]; omega) (by omega)
    rw [hz1] at h
    have e : madeCells (Value.int .u8 0).cells ((65 : Int).toNat * 1) = Array.replicate 65 (Value.int .u8 0) := by kernel_rfl
    rw [e] at h
    exact h
  · have h := run_convert_bytes_back (P := Tryd.prog) (W.alloc (.cells (Array.replicate 65 (.int .u8 0)) 5)) 46 9 5 ⟨W.heap.size, 0, none⟩ 65 (List.replicate 65 (0 : UInt8)) Tryd.underlying46 Tryd.underlying5 Tryd.underlying9 (fun j hj => by
      have hj' : j < 65 := by simpa using hj
      have e0 : (List.replicate 65 (0 : UInt8))[j]'hj = 0 := List.getElem_replicate _
      rw [WideShapes.add_plain, Nat.zero_add, new_cell, e0, Array.getElem?_replicate, if_pos hj']
      rfl)
    exact h

set_option maxHeartbeats 4000000 in
theorem lawKnown (w : World) (ht : ShapeTab w) : Calls Tryd.prog 6 #[] w fun e w' => e = .returned (.bool true) ∧ Below w.heap.size w w' := by
  have hk := Up.refl w
  obtain ⟨MB, Z, hZ, hmk, hcv⟩ := bytes65
  go_enter Tryd.func6, Tryd.ntmps6
  go_wp2_with (first
    | (go_at_call 18; refine (awake_any _ (ht.below hk.out)).mono ?_; rintro e w1 ⟨rfl, hb⟩; have hk := hk.call hb)
    | (go_at_call 34; have g := m4; refine (refused_any (.mk 8 1 ⟨#[]⟩ []) (by simp [Tm.size_mk, sizes]) true (check_fit nil_bad) (fun _ => True) _ _ (Lies.mk (l := []) (small_of (by omega) (by omega) (by omega) (by omega) size_empty) (lst_nil _ _)) (ht.below hk.out)).mono ?_; rintro e w7 ⟨rfl, hb⟩; have hk := hk.call hb; have m5 := True.intro)
    | (go_at_call 34; have g := m3; refine (refused_any (.sym Z) (by simp [Tm.sym, Tm.size_mk, sizes]) true (check_fit (sym_bad Z hZ)) (fun _ => True) _ _ (sym_is _ _ Z (by omega)) (ht.below hk.out)).mono ?_; rintro e w7 ⟨rfl, hb⟩; have hk := hk.call hb; have m4 := True.intro)
    | (go_at_call 34; have g := m1; refine (refused_any (.mk 9 0 ⟨#[]⟩ [.nil]) (by simp [Tm.nil, Tm.size_mk, sizes]) true (check_fit cons_bad) (fun _ => True) _ _ (Lies.mk (l := [.nil]) (small_of (by omega) (by omega) (by omega) (by omega) size_empty) (lst1 (new_block w4 _) trivial (nil_is _ _))) (ht.below hk.alloc.out)).mono ?_; rintro e w5 ⟨rfl, hb⟩; have hk := hk.alloc.call hb; have m2 := True.intro)
    | (go_at_call 34; refine (refused_any (.num 576460752303423488) (by simp [Tm.num, Tm.size_mk, sizes]) true (check_fit num_bad) (fun _ => True) _ _ (num_is _ _ _ (by omega) (by omega)) (ht.below hk.out)).mono ?_; rintro e w3 ⟨rfl, hb⟩; have hk := hk.call hb; have m1 := True.intro)
    | (go_at_call 33; refine (sym_any _ _).mono ?_; rintro e w6 ⟨rfl, hb⟩; have hk := hk.alloc.call hb; have m3 := True.intro)
    | (go_at_call 22; have g := k8; refine (none_any _).mono ?_; rintro e x6 ⟨rfl, hb⟩; have hk := hk.alloc.call hb; have hd := (hb.block _ (by simp)).trans (new_block x5 _); have k9 := True.intro)
    | (go_at_call 22; refine (none_any _).mono ?_; rintro e w4 ⟨rfl, hb⟩; have hk := hk.call hb)
    | (go_at_call 20; have g := k13; refine (num_any _ _).mono ?_; rintro e x11 ⟨rfl, hb⟩; have hk := hk.call hb; have hL19 := hL19.below hb; have k14 := True.intro)
    | (go_at_call 20; have g := k11; refine (num_any _ _).mono ?_; rintro e x9 ⟨rfl, hb⟩; have hk := hk.call hb; have k12 := True.intro)
    | (go_at_call 20; have g := k7; refine (num_any _ _).mono ?_; rintro e x5 ⟨rfl, hb⟩; have hk := hk.call hb; have k8 := True.intro)
    | (go_at_call 20; have g := k6; refine (num_any _ _).mono ?_; rintro e x4 ⟨rfl, hb⟩; have hk := hk.call hb; have k7 := True.intro)
    | (go_at_call 20; have g := k4; refine (num_any _ _).mono ?_; rintro e x2 ⟨rfl, hb⟩; have hk := hk.call hb; have k5 := True.intro)
    | (go_at_call 20; have g := k1; refine (num_any _ _).mono ?_; rintro e w9 ⟨rfl, hb⟩; have hk := hk.alloc.call hb; have hc := (hb.block _ (by simp)).trans (new_block w8 _); have k2 := True.intro)
    | (go_at_call 20; have g := m5; refine (num_any _ _).mono ?_; rintro e w8 ⟨rfl, hb⟩; have hk := hk.call hb; have k1 := True.intro)
    | (go_at_call 20; refine (num_any _ _).mono ?_; rintro e w2 ⟨rfl, hb⟩; have hk := hk.call hb)
    | (go_at_call 21; refine (pairs_any [.num 1] (by simp) (.num 2) (fun _ => True) _ _ _ _ (lst1 hc trivial (num_is _ _ 1 (by omega) (by omega))) (num_is _ _ 2 (by omega) (by omega))).mono ?_; rintro e w10 ⟨⟨v10, rfl, hL10⟩, hb⟩; have hk := hk.call hb; have k3 := True.intro)
    | (go_at_call 28; have g := k10; refine (itemsTwo_any _ _ _ hL16).mono ?_; rintro e x8 ⟨⟨li, lcap, rfl, hli⟩, hb⟩; have hk := hk.call hb; have k11 := True.intro)
    | (go_at_call 28; have g := k5; refine (itemsBad_any (.num 5) (by simp [Tm.num, Tm.size_mk, sizes]) (by simp [Tm.num, Tm.short_mk, Shorts, empty_200]) rfl _ _ _ (num_is _ (fun _ => True) 5 (by omega) (by omega))).mono ?_; rintro e x3 ⟨⟨la2, ln2, lc2, rfl⟩, hb⟩; have hk := hk.call hb; have k6 := True.intro)
    | (go_at_call 28; refine (itemsBad_any (conses [.num 1] (.num 2)) (by simp [Tm.num, conses, Tm.size_mk, sizes]) (by simp [Tm.num, conses, Tm.short_mk, Shorts, empty_200]) rfl _ _ _ hL10).mono ?_; rintro e x1 ⟨⟨la1, ln1, lc1, rfl⟩, hb⟩; have hk := hk.call hb; have k4 := True.intro)
    | (go_at_call 26; have g := k12; refine (makeList_any [] (by simp) (.num 7) (fun _ => True) (fun _ => True) _ _ _ _ (lst_nil _ _) (num_is _ _ 7 (by omega) (by omega))).mono ?_; rintro e x10 ⟨⟨v19, rfl, hL19⟩, hb⟩; have hk := hk.call hb; have k13 := True.intro)
    | (go_at_call 26; refine (makeList_any [.num 1, .num 2] (by simp) .nil (fun _ => True) (fun _ => True) _ _ _ _ (lst2 hd trivial (num_is _ _ 1 (by omega) (by omega)) (num_is _ _ 2 (by omega) (by omega))) (nil_is _ _)).mono ?_; rintro e x7 ⟨⟨v16, rfl, hL16⟩, hb⟩; have hk := hk.call hb; have k10 := True.intro)
    | (go_at_call 15; refine (sameSelf_any (.num 7) (by simp [Tm.num, Tm.size_mk, sizes]) _ (fun _ => True) _ _ _ hL19 (num_is _ _ 7 (by omega) (by omega))).mono ?_; rintro e x12 ⟨rfl, hb⟩; have hk := hk.call hb)
    | (go_at_call 35; refine (two_any _).mono ?_; rintro e x13 ⟨⟨v21, rfl, hL21⟩, hb⟩; have hk := hk.call hb)
    | (go_at_call 11; refine (checkTwo_any _ _ _ hL21 (ht.below hk.out)).mono ?_; rintro e x14 ⟨rfl, hb⟩; have hk := hk.call hb))
  go_ret
  exact ⟨rfl, hk.out⟩

end Go.Proofs.YtnpnbonodkpkdaaDoor
