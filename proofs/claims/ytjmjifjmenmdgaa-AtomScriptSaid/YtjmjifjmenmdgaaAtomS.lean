/-
  The document's table: a text put; two rows of the same texts.
-/
import Derived.Test.YtjmjifjmenmdgaaAtomR
namespace Go.Proofs.Ytjmjifjmenmdgaa
open Go.RowKit Go.Deep Go.Maps Go.WideShapes Go.WideMaps

def LeftR (w : World) (q : Nat) (v : Value) (L : List ByteArray) (w' : World) : Prop :=
  ∃ v', RTab w' q v' L ∧ Only (MineR q v) w w' ∧ ∀ k, v'.ownBlock = some k → v.ownBlock = some k ∨ w.heap.size ≤ k
theorem RTab.left {w w' : World} {q : Nat} {v : Value} {L : List ByteArray} (h : RTab w q v L) (hb : Below w.heap.size w w') : LeftR w q v L w' := ⟨v, h.up hb, Only.up hb, fun _ hk => Or.inl hk⟩

theorem leftR_added {q : Nat} {v v' : Value} {L : List ByteArray} {s : ByteArray} {w w2 : World} {t : TypeId} (hT : RTab w q v L)
    (hg : (w.alloc (.cells #[.string s] t)).grownBy w2 v.ownBlock) (hat : v'.ownBlock = v.ownBlock ∨ v'.ownBlock = some (w.alloc (.cells #[.string s] t)).heap.size) (hown : w2.ownsRow 0 9 1 v' (L.length + 1) (L.map .string ++ [.string s]))
    (hn : L.length < 4096) (hz : sizes L + s.size ≤ 65536) :
    LeftR w q v (L ++ [s]) (w2.setCell ⟨q, 0, none⟩ v') := by
  have hql : q < w.heap.size := hT.lt (Or.inl rfl)
  have hz2 := hg.size
  simp only [World.size_alloc] at hz2 hat
  have hrow : Texts w2 v' (L ++ [s]) := by
    unfold Texts
    rw [List.length_append, List.map_append]
    exact hown
  have hnq : v'.ownBlock ≠ some q := by
    rcases hat with e | e
    · rw [e]; exact hT.nq
    · rw [e]; intro e2; cases e2; omega
  have o1 : Only (MineR q v) w (w.alloc (.cells #[.string s] t)) := Only.up ((Below.refl _ _).alloc (Nat.le_refl _) _)
  have o2 : Only (MineR q v) w w2 := o1.trans (Only.grown (S := MineR q v) hg (fun k hk => Or.inr hk)) (fun i hi => Or.inl hi)
  have o3 : Only (MineR q v) w (w2.setCell ⟨q, 0, none⟩ v') := o2.trans (Only.set (S := MineR q v) _ _ (Or.inl rfl)) (fun i hi => Or.inl hi)
  refine ⟨v', ⟨?_, hrow.kept (Only.set (S := fun k => k = q) w2 v' rfl) (fun g hg hS => hnq (by rw [hg, hS])), hnq, by rw [List.length_append]; simp; omega, by rw [sizes_snoc]; exact hz⟩, o3, fun k hk => ?_⟩
  · have hbx := grown_box hg hT.box hT.nq
    simp [World.setCell, Array.getElem?_modify, hbx]
  · rcases hat with e | e
    · exact Or.inl (e ▸ hk)
    · rw [e] at hk
      cases hk
      exact Or.inr (by omega)

set_option maxRecDepth 100000 in
set_option maxHeartbeats 2000000 in
theorem internR_any (q : Nat) (v : Value) (L : List ByteArray) (s : ByteArray) (w : World) (h : RTab w q v L) (hs : s.size ≤ 1000000000) :
    Calls Try.prog 10 #[.pointer (some ⟨q, 0, none⟩), .string s] w fun e w' => e = .returned (.tuple #[.int .i64 (put L s).1, .int .i64 (put L s).2.1]) ∧ LeftR w q v (put L s).2.2 w' := by
  obtain ⟨a, cap, hv⟩ := h.row.slice
  subst hv
  obtain ⟨c0, f0⟩ := h.cell
  have hT := Hid.mk h
  by_cases hl : 64 < s.size
  · rw [put_long hl]
    have ht : decide ((64 : Int) < s.size) = true := by rw [decide_eq_true_eq]; omega
    clear hl h hs
    go_enter Try.func10, Try.ntmps10
    go_wp2
    go_ret2
    exact ⟨rfl, hT.out.left (Below.refl _ _)⟩
  · have ht : decide ((64 : Int) < s.size) = false := by rw [decide_eq_false_iff_not]; omega
    have hl' := Hid.mk (show s.size ≤ 64 by omega)
    clear hl hs
    have hfi := Hid.mk (fun w h => findR_any q (.slice a L.length cap) L s w h)
    cases hp : pos s L with
    | some i =>
      rw [put_there hl'.out hp]
      have hpi : posI s L = i := by rw [posI, hp]
      rw [hpi] at hfi
      have e1 : decide ((0 : Int) ≤ i) = true := by simp
      clear hpi hp h
      go_enter Try.func10, Try.ntmps10
      go_wp2_with (first
        | (go_at_call 23; refine (hfi.out _ hT.out).mono ?_; rintro e w1 ⟨rfl, rfl⟩))
      go_ret2
      exact ⟨rfl, hT.out.left (Below.refl _ _)⟩
    | none =>
      have hpi : posI s L = -1 := by rw [posI, hp]
      rw [hpi] at hfi
      have hP := Hid.mk hp
      have hLs := Hid.mk h.small
      have hLf := Hid.mk h.few
      by_cases h1 : 4096 ≤ L.length
      · rw [put_full hl'.out hp (Or.inl h1)]
        have e1 : decide (4096 ≤ L.length) = true := by rw [decide_eq_true_eq]; exact h1
        have e2 : decide ((4096 : Int) ≤ L.length) = true := by rw [decide_eq_true_eq]; omega
        clear hpi hp h h1
        go_enter Try.func10, Try.ntmps10
        go_wp2_with (first
          | (go_at_call 23; refine (hfi.out _ hT.out).mono ?_; rintro e w1 ⟨rfl, rfl⟩))
        go_ret2
        exact ⟨rfl, hT.out.left (Below.refl _ _)⟩
      · have e1 : decide (4096 ≤ L.length) = false := by rw [decide_eq_false_iff_not]; exact h1
        have e2 : decide ((4096 : Int) ≤ L.length) = false := by rw [decide_eq_false_iff_not]; omega
        have hw : IntKind.i64.wrap ((sizes L : Int) + s.size) = ((sizes L + s.size : Nat) : Int) := by have := hLs.out; have := hl'.out; rw [wrap_id (by omega) (by omega)]; omega
        obtain ⟨N, hN⟩ : ∃ N, N = sizes L + s.size := ⟨_, rfl⟩
        rw [← hN] at hw
        have hNN := Hid.mk hN
        have hby := Hid.mk (fun w h => bytesR_any q (.slice a L.length cap) L w h)
        by_cases h2 : 65536 < sizes L + s.size
        · rw [put_full hl'.out hp (Or.inr h2)]
          have e3 : decide ((65536 : Int) < N) = true := by rw [decide_eq_true_eq]; omega
          have e4 : decide (65536 < N) = true := by rw [decide_eq_true_eq]; omega
          clear hpi hp h h1 h2 hN
          go_enter Try.func10, Try.ntmps10
          go_wp2_with (first
            | (go_at_call 23; refine (hfi.out _ hT.out).mono ?_; rintro e w1 ⟨rfl, rfl⟩)
            | (go_at_call 24; refine (hby.out _ hT.out).mono ?_; rintro e w1 ⟨rfl, rfl⟩))
          go_ret2
          exact ⟨rfl, hT.out.left (Below.refl _ _)⟩
        · rw [put_new hl'.out hp (by omega) (by omega)]
          have e3 : decide ((65536 : Int) < N) = false := by rw [decide_eq_false_iff_not]; omega
          have e4 : decide (65536 < N) = false := by rw [decide_eq_false_iff_not]; omega
          have H := Hid.mk (show L.length < 4096 ∧ sizes L + s.size ≤ 65536 from ⟨by omega, by omega⟩)
          have hwl : IntKind.i64.wrap (L.length : Int) = L.length := wrap_id (by omega) (by omega)
          obtain ⟨i0, hi0, hz0, hz1, hby0⟩ := info_parts textInfo
          clear hpi hp h h1 h2 hN
          go_enter Try.func10, Try.ntmps10
          go_wp2_with (first
            | (go_at_call 23; refine (hfi.out _ hT.out).mono ?_; rintro e w1 ⟨rfl, rfl⟩)
            | (go_at_call 24; refine (hby.out _ hT.out).mono ?_; rintro e w1 ⟨rfl, rfl⟩)
            | (at_builtin; refine wpList_append_own_at _ rfl _ _ 22 rfl 0 9 i0 _ 1 16 Try.underlying22 hi0 hz0 hz1 hby0 rfl (by decide) (.slice a L.length cap) L.length _ rfl (hT.out.row.alloc _) ⟨w.heap.size, 0, none⟩ 1 1 [.string s] rfl rfl (cell_one_new _ _ _) (texts_one s) (by have := H.out; unfold maxLen; omega) (by have := H.out; omega) (by omega) ?_; intro v' w2 hown hgrow hnil hat; clear hnil; obtain ⟨a', cap', rfl⟩ := owns_slice hown
               have HO := Hid.mk hown; have HG := Hid.mk hgrow; have HA := Hid.mk hat; clear hown hgrow hat
               have c0' : w2.cell? ⟨q, 0, none⟩ = some (.slice a L.length cap) := by have := grown_box HG.out hT.out.box hT.out.nq; simp [World.cell?, this]
               have f0' : w2.frozen? ⟨q, 0, none⟩ = false := by have := grown_box HG.out hT.out.box hT.out.nq; simp [World.frozen?, this]))
          go_ret2
          exact ⟨rfl, leftR_added hT.out HG.out HA.out HO.out H.out.1 H.out.2⟩

set_option maxRecDepth 100000 in
theorem sameTexts_any (v v' : Value) (L : List ByteArray) (w : World) (h : Texts w v L) (h' : Texts w v' L) (hL : L.length ≤ 4096) :
    Calls Try.prog 25 #[v, v'] w fun e w' => e = .returned (.bool true) ∧ Below w.heap.size w w' := by
  obtain ⟨a, cap, hv⟩ := h.slice
  obtain ⟨a', cap', hv'⟩ := h'.slice
  subst hv hv'
  have hr := Hid.mk h
  have hr' := Hid.mk h'
  have HL := Hid.mk hL
  clear h h' hL
  go_enter Try.func25, Try.ntmps25
  go_wp2
  go_loopw [5] (fun ii wr => ∃ i : Nat, i ≤ L.length ∧ ii = .int .i64 i ∧ Below w.heap.size w wr) (fun ii _ => L.length - (intOf ii).toNat)
  case atStart => exact ⟨0, Nat.zero_le _, rfl, Below.refl _ _⟩
  case round =>
    obtain ⟨i, hi, rfl, hb⟩ := hrel
    by_cases hlt : i < L.length
    · obtain ⟨g, c1, hv, hc⟩ := hr.out.at_ (by omega)
      obtain ⟨g', c1', hv', hc'⟩ := hr'.out.at_ (by omega)
      simp only [Value.slice.injEq, true_and] at hv hv'
      obtain ⟨rfl, rfl⟩ := hv
      obtain ⟨rfl, rfl⟩ := hv'
      have hci := cell_below hb _ _ _ (hc i hlt)
      have hci' := cell_below hb _ _ _ (hc' i hlt)
      have hwi : IntKind.i64.wrap ((i : Int) + 1) = ((i + 1 : Nat) : Int) := by have := HL.out; rw [wrap_id (by omega) (by omega)]; omega
      clear hc hc'
      obtain ⟨x, hx⟩ : ∃ x, L[i] = x := ⟨_, rfl⟩
      rw [hx] at hci hci'
      have heq := bytes_eq x
      have HB := Hid.mk hb
      have Hlt := Hid.mk hlt
      clear hx hb
      go_wp2
      refine region_up (W := wr) (by kernel_rfl) (by kernel_rfl) (Up.refl _) ?_
      refine quiet_value (v := .slice (some ⟨g, 0, none⟩) L.length cap) rfl (fun _ _ => rfl) ?_
      simp only [Act.put, List.setIfInBounds_toArray, List.set_cons_zero, List.set_cons_succ]
      refine quiet_value (v := .int .i64 i) rfl (fun _ _ => rfl) ?_
      simp only [Act.put, List.setIfInBounds_toArray, List.set_cons_zero, List.set_cons_succ]
      refine quiet_value (v := .pointer (some ⟨g, i, none⟩)) rfl (fun _ _ => (by go_simp)) ?_
      simp only [Act.put, List.setIfInBounds_toArray, List.set_cons_zero, List.set_cons_succ]
      refine quiet_value (v := .string x) rfl (fun W h => (by have u0 := cell_below h.out _ _ _ hci; go_simp)) ?_
      simp only [Act.put, List.setIfInBounds_toArray, List.set_cons_zero, List.set_cons_succ]
      refine quiet_value (v := .slice (some ⟨g', 0, none⟩) L.length cap') rfl (fun _ _ => rfl) ?_
      simp only [Act.put, List.setIfInBounds_toArray, List.set_cons_zero, List.set_cons_succ]
      refine quiet_value (v := .int .i64 i) rfl (fun _ _ => rfl) ?_
      simp only [Act.put, List.setIfInBounds_toArray, List.set_cons_zero, List.set_cons_succ]
      refine quiet_value (v := .pointer (some ⟨g', i, none⟩)) rfl (fun _ _ => (by go_simp)) ?_
      simp only [Act.put, List.setIfInBounds_toArray, List.set_cons_zero, List.set_cons_succ]
      refine quiet_value (v := .string x) rfl (fun W h => (by have u0 := cell_below h.out _ _ _ hci'; go_simp)) ?_
      simp only [Act.put, List.setIfInBounds_toArray, List.set_cons_zero, List.set_cons_succ]
      refine quiet_value (v := .bool false) rfl (fun _ _ => (by go_simp)) ?_
      simp only [Act.put, List.setIfInBounds_toArray, List.set_cons_zero, List.set_cons_succ]
      refine quiet_nil ?_
      intro w1 hw1
      have HW := Hid.mk hw1
      clear hw1
      go_wp2
      go_roundw
      case rel => exact ⟨i + 1, Hlt.out, by first | rfl | go_num, HB.out.trans (HW.out.out.mono HB.out.size)⟩
      case measure =>
        have h1 : i < L.length := Hlt.out
        simp [intOf]
        omega
    · go_wp2
      go_ret
      exact ⟨rfl, hb⟩

end Go.Proofs.Ytjmjifjmenmdgaa
