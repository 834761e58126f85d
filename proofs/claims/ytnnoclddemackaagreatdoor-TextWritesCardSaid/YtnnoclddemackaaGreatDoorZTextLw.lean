/-
  TextWrites returns true.
-/
import Derived.Test.YtnnoclddemackaaGreatDoorZTextRg
import Derived.Test.YtnnoclddemackaaGreatDoorZTextDec
import Derived.Test.YtnnoclddemackaaGreatDoorZTermChecks2
namespace Go.Proofs.YtnnoclddemackaaGreatDoor
open Go.RowKit Go.Deep

theorem sameTerm_self (T : Tm) (S S' : Nat → Prop) (v u : Value) (w : World) (hv : Lies w S T v) (hu : Lies w S' T u) :
    Calls Tryz.prog 13 #[v, u] w fun e w' => e = .returned (.bool true) ∧ Below w.heap.size w w' := by
  have h := sameTerm_any T T S S' v u w hv hu
  rwa [eqB_refl] at h
theorem large_bool (T : Tm) (S : Nat → Prop) (v : Value) (m : Int) (w : World) (hv : Lies w S T v) (hm0 : 0 ≤ m) (hm1 : m ≤ 4611686018427387904) :
    Calls Tryz.prog 7 #[v, .int .i64 m] w fun e w' => (∃ b, e = .returned (.bool b) ∧ (b = false → T.Short ∧ (T.size : Int) ≤ m)) ∧ Below w.heap.size w w' := largeTerm_any T S v m w hv hm0 hm1

set_option maxRecDepth 100000 in
set_option maxHeartbeats 4000000 in
theorem lawWrites5 (T : Tm) (s : ByteArray) (v : Value) (w : World) (hw : Wld w) (hv0 : Is w T v) :
    Calls Tryz.prog 3 #[v, .string s] w fun e w' => e = .returned (.bool true) ∧ Below w.heap.size w w' := by
  obtain ⟨k, m, z, a', m', cap', rfl⟩ := hv0.agg
  obtain ⟨W0, hW0⟩ : ∃ W0, w.alloc (.cells #[.int .i64 k, .int .i64 m, .string z, .slice a' m' cap'] 24) = W0 := ⟨_, rfl⟩
  have hu0 : Up w W0 := by rw [← hW0]; exact (Up.refl w).alloc
  have hbx : W0.heap[w.heap.size]? = some (.cells #[.int .i64 k, .int .i64 m, .string z, .slice a' m' cap'] 24) := by rw [← hW0]; exact new_block _ _
  have HV := Hid.mk (hv0.below hu0.out)
  have HB := Hid.mk hbx
  have HWd := Hid.mk (hw.next hu0)
  have hk := Up.refl W0
  have hret : Hid (∀ W, Up W0 W → Below w.heap.size w W) := Hid.mk (fun W h => (hu0.call h.out).out)
  obtain ⟨⟨g0, g1, g2, g3⟩, _⟩ := kept4 hbx (Below.refl _ _)
  obtain ⟨l, rfl⟩ : ∃ l, s = tx l := ⟨s.data.toList, rfl⟩
  have hsl := tx_size l
  have htl : ((tx (if T.check = 0 then T.text else [])).toList == (tx (if T.check = 0 then T.text else [])).toList) = true := by simp
  have HWr := Hid.mk (fun (h : T.size ≤ 1000000) => And.intro (fun S v w => write_any T h S v w) (fun S v w => refwrite_any T h S v w))
  generalize tx (if T.check = 0 then T.text else []) = X at htl HWr
  generalize T.check = E at HWr
  have HW0 := Hid.mk hW0
  clear hu0 hw hv0 hbx hW0
  go_enter Tryz.func3, Tryz.ntmps3
  go_upto_region 1 with fail
  rw [HW0.out]
  by_cases hl : 200 < l.length
  · have q1 : decide (200 < l.length) = true := by rw [decide_eq_true_eq]; exact hl
    have q2 : decide ((200 : Int) < l.length) = true := by rw [decide_eq_true_eq]; omega
    clear hl
    go_wp2_with (first
      | (go_at_call 7; refine (large_bool T _ _ 400 _ HV.out (by omega) (by omega)).mono ?_; rintro e w2 ⟨⟨b, rfl, hA⟩, hb⟩; have hk := hk.call hb; clear hA))
    all_goals go_ret
    all_goals exact ⟨rfl, hret.out _ hk⟩
  · have q1 : decide (200 < l.length) = false := by rw [decide_eq_false_iff_not]; exact hl
    have q2 : decide ((200 : Int) < l.length) = false := by rw [decide_eq_false_iff_not]; omega
    have Hl := Hid.mk (show l.length ≤ 200 by omega)
    clear hl
    go_wp2_with (first
      | (go_at_call 7; refine (large_bool T _ _ 400 _ HV.out (by omega) (by omega)).mono ?_; rintro e w2 ⟨⟨b, rfl, hA⟩, hb⟩
         have K2 := Hid.mk (hk.call hb)
         obtain ⟨⟨g0, g1, g2, g3⟩, _⟩ := kept4 HB.out K2.out.out
         cases b
         all_goals (first | (have hA2 := Hid.mk (hA rfl)) | skip)
         all_goals clear hA hb)
      | (go_at_call 8; refine (copyTerm_any T (by have := hA2.out.2; omega) _ _ _ (HV.out.below K2.out.out)).mono ?_; rintro e w3 ⟨⟨v3, rfl, own3⟩, hb⟩; obtain ⟨k3, n3, s3, a3, m3, c3, rfl⟩ := own3.is.agg
         have own3 := Hid.mk own3.is
         have K3 := Hid.mk (K2.out.call hb)
         obtain ⟨⟨g0, g1, g2, g3⟩, _⟩ := kept4 HB.out K3.out.out
         clear hb)
      | (go_at_call 9; refine ((HWr.out (by have := hA2.out.2; omega)).1 _ _ _ (own3.out.below ((Below.refl _ _).alloc (Nat.le_refl _) _)) (HWd.out.next (K3.out.alloc).out)).mono ?_; rintro e w4 ⟨rfl, hb⟩
         have K4 := Hid.mk (K3.out.alloc.call hb)
         have O4 := Hid.mk (own3.out.below (((Below.refl _ w3).alloc (Nat.le_refl _) (.cells #[.int .i64 k3, .int .i64 n3, .string s3, .slice a3 m3 c3] 24)).trans (hb.mono (by simp))))
         have B4 := Hid.mk ((hb.block _ (by simp)).trans (new_block w3 _))
         obtain ⟨⟨g0, g1, g2, g3⟩, _⟩ := kept4 HB.out K4.out.out
         clear hb)
      | (go_at_call 10; refine ((HWr.out (by have := hA2.out.2; omega)).2 _ _ _ (HV.out.below K4.out.out)).mono ?_; rintro e w5 ⟨rfl, hb⟩
         have K5 := Hid.mk (K4.out.call hb)
         have O5 := Hid.mk (O4.out.below hb)
         have B5 := Hid.mk ((hb.block _ (Array.getElem?_eq_some_iff.1 B4.out).1).trans B4.out)
         clear hb)
      | (go_at_call 11; refine (plainP_any l (by have := Hl.out; omega) _).mono ?_; rintro e w6 ⟨rfl, rfl⟩)
      | (go_at_call 12; refine (plain_any l (by have := Hl.out; omega) _).mono ?_; rintro e w7 ⟨rfl, hb⟩
         have K7 := Hid.mk (K5.out.call hb)
         have O7 := Hid.mk (O5.out.below hb)
         have B7 := Hid.mk ((hb.block _ (Array.getElem?_eq_some_iff.1 B5.out).1).trans B5.out)
         obtain ⟨⟨g0, g1, g2, g3⟩, _⟩ := kept4 HB.out K7.out.out
         obtain ⟨⟨d0, d1, d2, d3⟩, _⟩ := kept4 B7.out (Below.refl _ _)
         clear hb)
      | (go_at_call 13; refine (sameTerm_self T _ _ _ _ _ O7.out (HV.out.below K7.out.out)).mono ?_; rintro e w8 ⟨rfl, hb⟩; have K8 := Hid.mk (K7.out.call hb); clear hb)
      | (go_at_call 14; refine (awake5_any _ (HWd.out.next K8.out.out)).mono ?_; rintro e w9 ⟨rfl, hb⟩; have K9 := Hid.mk (K8.out.call hb); clear hb))
    all_goals go_ret
    all_goals first | exact ⟨rfl, hret.out _ K9.out⟩ | exact ⟨rfl, hret.out _ K2.out⟩
end Go.Proofs.YtnnoclddemackaaGreatDoor
