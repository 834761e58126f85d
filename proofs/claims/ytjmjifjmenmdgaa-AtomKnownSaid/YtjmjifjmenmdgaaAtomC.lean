/-
  The program's tables of atoms: what its calls answer, and leave.
-/
import Derived.Test.YtjmjifjmenmdgaaAtomB
namespace Go.Proofs.Ytjmjifjmenmdgaa
open Go.RowKit Go.Deep Go.Maps Go.WideShapes Go.WideMaps

theorem zeroInt (w : World) : (zeroValue 3).run Try.prog w = .ok (.int .i64 0) w := Try.zeroValue3 w
/-- What is looked up in a table's map. -/
theorem look_there {D : DataW Unit} {L : List ByteArray} {s : ByteArray} {i : Nat} {c : Int} (hM : MapOk D L) (hp : pos s L = some i) (hat : D.atKey (key s) (.lit (.int .i64 0)) = .lit (.int .i64 c)) : Maps.has D (.string s.data.toList) = true ∧ c = i := by
  rw [show Lit.string s.data.toList = key s from rfl, hM.has, hp]
  rw [hM.at_ s i hp] at hat
  simp at hat
  exact ⟨rfl, hat.symm⟩
theorem look_not {D : DataW Unit} {L : List ByteArray} {s : ByteArray} {c : Int} (hM : MapOk D L) (hp : pos s L = none) (hat : D.atKey (key s) (.lit (.int .i64 0)) = .lit (.int .i64 c)) : Maps.has D (.string s.data.toList) = false ∧ c = 0 := by
  have hh : Maps.has D (key s) = false := by rw [hM.has, hp]; rfl
  refine ⟨hh, ?_⟩
  rw [atKey_of_not_has hh] at hat
  simp at hat
  exact hat.symm
theorem Tab.left {w w' : World} {p bm : Nat} {v : Value} {L : List ByteArray} (h : Tab w p bm v L) (hb : Below w.heap.size w w') : Left w p bm v L w' := ⟨v, h.up hb, Only.up hb, fun _ hk => Or.inl hk⟩
theorem Left.from {w w1 w' : World} {p bm : Nat} {v : Value} {L : List ByteArray} (hb : Below w.heap.size w w1) (h : Left w1 p bm v L w') : Left w p bm v L w' := by
  obtain ⟨v', h1, h2, h3⟩ := h
  exact ⟨v', h1, (Only.up hb).trans h2 (fun _ hi => Or.inl hi), fun k hk => (h3 k hk).imp id (fun e => Nat.le_trans hb.size e)⟩

set_option maxRecDepth 100000 in
set_option maxHeartbeats 2000000 in
theorem intern_any (p bm : Nat) (v : Value) (L : List ByteArray) (s : ByteArray) (w : World) (h : Tab w p bm v L) (hs : s.size ≤ maxLen) :
    Calls Try.prog 9 #[.pointer (some ⟨p, 0, none⟩), .string s] w fun e w' => e = .returned (.tuple #[.int .i64 (put L s).1, .int .i64 (put L s).2.1]) ∧ Left w p bm v (put L s).2.2 w' := by
  obtain ⟨c1, c2, c3, f2, f3⟩ := boxT_cells h.boxT
  obtain ⟨a, cap, hv⟩ := h.row.slice
  have hkey := keyOf_string_mk (P := Try.prog) (s := s) Try.underlying9 hs
  have hT := Hid.mk h
  subst hv
  by_cases hl : 64 < s.size
  · rw [put_long hl]
    have ht : decide ((64 : Int) < s.size) = true := by rw [decide_eq_true_eq]; omega
    clear hl
    go_enter Try.func9, Try.ntmps9
    go_wp2_with (first
      | (go_at_call 20; refine (made_yes _ _ _ _ _ hT.out).mono ?_; rintro e w1 ⟨rfl, rfl⟩))
    go_ret2
    exact ⟨rfl, hT.out.left (Below.refl _ _)⟩
  · have ht : decide ((64 : Int) < s.size) = false := by rw [decide_eq_false_iff_not]; omega
    have hl' := Hid.mk (show s.size ≤ 64 by omega)
    clear hl
    obtain ⟨D, hD, hM⟩ := h.map
    cases hp : pos s L with
    | some i =>
      rw [put_there hl'.out hp]
      have hP := Hid.mk hp
      clear hp h
      go_enter Try.func9, Try.ntmps9
      go_wp2_with (first
        | (go_at_call 20; refine (made_yes _ _ _ _ _ hT.out).mono ?_; rintro e w1 ⟨rfl, rfl⟩)
        | (at_lookup; refine wpList_lookup_own_ok_int _ rfl _ _ 35 rfl 9 3 .i64 keyed Try.underlying35 Try.underlying3 (zeroInt _) bm _ D rfl hD _ _ rfl hkey ?_; intro c hat hwc; obtain ⟨hh, rfl⟩ := look_there hM hP.out hat; clear hat hwc))
      go_ret2
      exact ⟨rfl, hT.out.left (Below.refl _ _)⟩
    | none =>
      have hP := Hid.mk hp
      by_cases hf : 4096 ≤ L.length ∨ 65536 < sizes L + s.size
      · rw [put_full hl'.out hp hf]
        have hd : decide (4096 ≤ L.length ∨ 65536 < sizes L + s.size) = true := by rw [decide_eq_true_eq]; exact hf
        have hc := Hid.mk (hd ▸ fun w h => full_any p bm (.slice a L.length cap) L s w h hl'.out)
        clear hp h hf hd
        go_enter Try.func9, Try.ntmps9
        go_wp2_with (first
          | (go_at_call 20; refine (made_yes _ _ _ _ _ hT.out).mono ?_; rintro e w1 ⟨rfl, rfl⟩)
          | (at_lookup; refine wpList_lookup_own_ok_int _ rfl _ _ 35 rfl 9 3 .i64 keyed Try.underlying35 Try.underlying3 (zeroInt _) bm _ D rfl hD _ _ rfl hkey ?_; intro c hat hwc; obtain ⟨hh, rfl⟩ := look_not hM hP.out hat; clear hat hwc)
          | (go_at_call 21; refine (hc.out _ hT.out).mono ?_; rintro e w1 ⟨rfl, rfl⟩))
        go_ret2
        exact ⟨rfl, hT.out.left (Below.refl _ _)⟩
      · rw [put_new hl'.out hp (by omega) (by omega)]
        have hd : decide (4096 ≤ L.length ∨ 65536 < sizes L + s.size) = false := by rw [decide_eq_false_iff_not]; exact hf
        have hc := Hid.mk (hd ▸ fun w h => full_any p bm (.slice a L.length cap) L s w h hl'.out)
        have ha := Hid.mk (fun w h => add_any p bm (.slice a L.length cap) L s w h hl'.out hp (by omega) (by omega))
        clear hp h hf hd
        go_enter Try.func9, Try.ntmps9
        go_wp2_with (first
          | (go_at_call 20; refine (made_yes _ _ _ _ _ hT.out).mono ?_; rintro e w1 ⟨rfl, rfl⟩)
          | (at_lookup; refine wpList_lookup_own_ok_int _ rfl _ _ 35 rfl 9 3 .i64 keyed Try.underlying35 Try.underlying3 (zeroInt _) bm _ D rfl hD _ _ rfl hkey ?_; intro c hat hwc; obtain ⟨hh, rfl⟩ := look_not hM hP.out hat; clear hat hwc)
          | (go_at_call 21; refine (hc.out _ hT.out).mono ?_; rintro e w1 ⟨rfl, rfl⟩)
          | (go_at_call 22; refine (ha.out _ hT.out).mono ?_; rintro e w1 ⟨rfl, hLf⟩))
        go_ret2
        exact ⟨rfl, hLf⟩

/-- A text's number, or -1. -/
def posI (s : ByteArray) (L : List ByteArray) : Int := match pos s L with | some i => i | none => -1
set_option maxRecDepth 100000 in
theorem findT_any (p bm : Nat) (v : Value) (L : List ByteArray) (s : ByteArray) (w : World) (h : Tab w p bm v L) (hs : s.size ≤ maxLen) :
    Calls Try.prog 14 #[.pointer (some ⟨p, 0, none⟩), .string s] w fun e w' => e = .returned (.tuple #[.int .i64 ((pos s L).getD 0), .bool (pos s L).isSome]) ∧ w = w' := by
  obtain ⟨c1, c2, c3, f2, f3⟩ := boxT_cells h.boxT
  have hkey := keyOf_string_mk (P := Try.prog) (s := s) Try.underlying9 hs
  have hT := Hid.mk h
  obtain ⟨D, hD, hM⟩ := h.map
  cases hp : pos s L with
  | some i =>
    have hP := Hid.mk hp
    clear hp h
    go_enter Try.func14, Try.ntmps14
    go_wp2_with (first
      | (go_at_call 20; refine (made_yes _ _ _ _ _ hT.out).mono ?_; rintro e w1 ⟨rfl, rfl⟩)
      | (at_lookup; refine wpList_lookup_own_ok_int _ rfl _ _ 35 rfl 9 3 .i64 keyed Try.underlying35 Try.underlying3 (zeroInt _) bm _ D rfl hD _ _ rfl hkey ?_; intro c hat hwc; obtain ⟨hh, rfl⟩ := look_there hM hP.out hat; clear hat hwc))
    go_ret2
    exact ⟨rfl, rfl⟩
  | none =>
    have hP := Hid.mk hp
    clear hp h
    go_enter Try.func14, Try.ntmps14
    go_wp2_with (first
      | (go_at_call 20; refine (made_yes _ _ _ _ _ hT.out).mono ?_; rintro e w1 ⟨rfl, rfl⟩)
      | (at_lookup; refine wpList_lookup_own_ok_int _ rfl _ _ 35 rfl 9 3 .i64 keyed Try.underlying35 Try.underlying3 (zeroInt _) bm _ D rfl hD _ _ rfl hkey ?_; intro c hat hwc; obtain ⟨hh, rfl⟩ := look_not hM hP.out hat; clear hat hwc))
    go_ret2
    exact ⟨rfl, rfl⟩

set_option maxRecDepth 100000 in
theorem name_any (p bm : Nat) (v : Value) (L : List ByteArray) (n : Int) (w : World) (h : Tab w p bm v L) :
    Calls Try.prog 15 #[.pointer (some ⟨p, 0, none⟩), .int .i64 n] w fun e w' =>
      ((∃ (i : Nat) (hi : i < L.length), n = i ∧ e = .returned (.tuple #[.string L[i], .int .i64 0])) ∨ ((n < 0 ∨ L.length ≤ n) ∧ e = .returned (.tuple #[.string ⟨#[]⟩, .int .i64 5]))) ∧ Below w.heap.size w w' := by
  obtain ⟨c1, c2, c3, f2, f3⟩ := boxT_cells h.boxT
  have hT := Hid.mk h
  by_cases hn : 0 ≤ n ∧ n < L.length
  · obtain ⟨i, rfl⟩ := Int.eq_ofNat_of_zero_le hn.1
    have hi : i < L.length := by omega
    obtain ⟨g, cap, rfl, hc⟩ := h.row.at_ (by omega)
    have hci := hc i hi
    have hsz : L[i].size ≤ 64 := h.good.short _ (List.getElem_mem hi)
    have hlt := Hid.mk hi
    have hs := Hid.mk hsz
    have e1 : decide ((i : Int) < 0) = false := by rw [decide_eq_false_iff_not]; omega
    have e2 : decide (L.length ≤ i) = false := by rw [decide_eq_false_iff_not]; omega
    have e3 : decide ((L.length : Int) ≤ i) = false := by rw [decide_eq_false_iff_not]; omega
    suffices hC : Calls Try.prog 15 #[.pointer (some ⟨p, 0, none⟩), .int .i64 i] w (fun e w' => e = .returned (.tuple #[.string L[i], .int .i64 0]) ∧ Below w.heap.size w w') from hC.mono (fun e w' hh => ⟨Or.inl ⟨i, hi, rfl, hh.1⟩, hh.2⟩)
    generalize L[i] = x at hci hs ⊢
    clear hc hsz hn h
    go_enter Try.func15, Try.ntmps15
    go_wp2_with (first
      | (go_at_call 20; refine (made_yes _ _ _ _ _ hT.out).mono ?_; rintro e w1 ⟨rfl, rfl⟩)
      | (go_at_call 26; refine (clone_any _ _ (by have := hs.out; omega)).mono ?_; rintro e w1 ⟨rfl, hb1⟩))
    go_ret2
    exact ⟨rfl, hb1⟩
  · obtain ⟨a, cap, hv⟩ := h.row.slice
    subst hv
    have hN := Hid.mk (show n < 0 ∨ (L.length : Int) ≤ n by omega)
    suffices hC : Calls Try.prog 15 #[.pointer (some ⟨p, 0, none⟩), .int .i64 n] w (fun e w' => e = .returned (.tuple #[.string ⟨#[]⟩, .int .i64 5]) ∧ Below w.heap.size w w') from hC.mono (fun e w' hh => ⟨Or.inr ⟨hN.out, hh.1⟩, hh.2⟩)
    by_cases h0 : n < 0
    · clear hn h
      go_enter Try.func15, Try.ntmps15
      go_wp2_with (first
        | (go_at_call 20; refine (made_yes _ _ _ _ _ hT.out).mono ?_; rintro e w1 ⟨rfl, rfl⟩))
      go_ret2
      exact ⟨rfl, Below.refl _ _⟩
    · have h1 : (L.length : Int) ≤ n := by omega
      clear hn h
      go_enter Try.func15, Try.ntmps15
      go_wp2_with (first
        | (go_at_call 20; refine (made_yes _ _ _ _ _ hT.out).mono ?_; rintro e w1 ⟨rfl, rfl⟩))
      go_ret2
      exact ⟨rfl, Below.refl _ _⟩

theorem len_any (p bm : Nat) (v : Value) (L : List ByteArray) (w : World) (h : Tab w p bm v L) :
    Calls Try.prog 16 #[.pointer (some ⟨p, 0, none⟩)] w fun e w' => e = .returned (.int .i64 L.length) ∧ w = w' := by
  obtain ⟨c1, c2, c3, f2, f3⟩ := boxT_cells h.boxT
  have hT := Hid.mk h
  obtain ⟨a, cap, hv⟩ := h.row.slice
  subst hv
  clear h
  go_enter Try.func16, Try.ntmps16
  go_wp2_with (first
    | (go_at_call 20; refine (made_yes _ _ _ _ _ hT.out).mono ?_; rintro e w1 ⟨rfl, rfl⟩))
  go_ret
  exact ⟨rfl, rfl⟩

end Go.Proofs.Ytjmjifjmenmdgaa
