/-
  The program's counts: Add, Release, Drop.
-/
import Derived.Test.YtgfelddgiabeoaaFixA
namespace Go.Proofs.Ytgfelddgiabeoaa
open Go.RowKit Go.Deep Go.Maps Go.WideShapes

/-- A process's number. -/
def pidOk (x : Int) : Bool := decide (0 ≤ x ∧ x ≤ 1073741824)
/-- What Add answers; who has fixed then. -/
def addE (x : Int) : Nat := if pidOk x then 0 else 2
def addL (x : Int) (L : List Int) : List Int := if pidOk x then L ++ [x] else L
theorem pidOk_yes {x : Int} (h : 0 ≤ x) (h' : x ≤ 1073741824) : pidOk x = true := by simp [pidOk, h, h']
theorem pidOk_no {x : Int} (h : x < 0 ∨ 1073741824 < x) : pidOk x = false := by simp [pidOk]; omega

set_option maxRecDepth 100000 in
set_option maxHeartbeats 2000000 in
theorem addC_any (p bm : Nat) (L : List Int) (x : Int) (w : World) (h : Cn w p bm L) (hx : In64 x) (hL : L.length ≤ 1000) :
    Calls Try.prog 19 #[.pointer (some ⟨p, 0, none⟩), .int .i64 x] w fun e w' => e = .returned (.int .i64 (addE x)) ∧ StepC w p bm (addL x L) w' := by
  obtain ⟨⟨c0, c1, c2⟩, f2⟩ := boxC_cells h.box
  have hA := Hid.mk h
  unfold addE addL
  by_cases h1 : x < 0
  · rw [pidOk_no (Or.inl h1)]
    clear h
    go_enter Try.func19, Try.ntmps19
    go_wp2_with (first
      | (go_at_call 25; refine (madeC_yes _ _ _ _ hA.out).mono ?_; rintro e w1 ⟨rfl, rfl⟩))
    go_ret
    exact ⟨rfl, hA.out.step⟩
  · by_cases h2 : 1073741824 < x
    · rw [pidOk_no (Or.inr h2)]
      clear h
      go_enter Try.func19, Try.ntmps19
      go_wp2_with (first
        | (go_at_call 25; refine (madeC_yes _ _ _ _ hA.out).mono ?_; rintro e w1 ⟨rfl, rfl⟩))
      go_ret
      exact ⟨rfl, hA.out.step⟩
    · rw [pidOk_yes (by omega) (by omega)]
      have hkey := key_int hx
      have hcl := cnt_le x L
      obtain ⟨N, hN⟩ : ∃ N, L.length = N := ⟨_, rfl⟩
      obtain ⟨m, hm⟩ : ∃ m, cnt x L = m := ⟨_, rfl⟩
      have hne : ¬ (N : Int) = 1073741824 := by omega
      have hwm : IntKind.i64.wrap ((m : Int) + 1) = ((m + 1 : Nat) : Int) := by rw [wrap_id (by omega) (by omega)]; omega
      have hwn : IntKind.i64.wrap ((N : Int) + 1) = ((N + 1 : Nat) : Int) := by rw [wrap_id (by omega) (by omega)]; omega
      obtain ⟨M1, hM1⟩ : ∃ M1, m + 1 = M1 := ⟨_, rfl⟩
      obtain ⟨N1, hN1⟩ : ∃ N1, N + 1 = N1 := ⟨_, rfl⟩
      rw [hM1] at hwm
      rw [hN1] at hwn
      rw [hN] at c2
      have HH := Hid.mk (show L.length = N ∧ cnt x L = m ∧ m + 1 = M1 ∧ N + 1 = N1 ∧ N ≤ 1000 ∧ m ≤ N ∧ 0 ≤ x ∧ x ≤ 1073741824 from ⟨hN, hm, hM1, hN1, by omega, by omega, by omega, by omega⟩)
      obtain ⟨D, hD, hM⟩ := h.map
      have HM := Hid.mk hM
      have HD := Hid.mk hD
      clear h hx hL hcl hN hm hM1 hN1 hM
      go_enter Try.func19, Try.ntmps19
      go_wp2_with (first
        | (go_at_call 25; refine (madeC_yes _ _ _ _ hA.out).mono ?_; rintro e w1 ⟨rfl, rfl⟩)
        | (at_lookup; refine wpList_lookup_own_int _ rfl _ _ 39 rfl 3 3 .i64 keyedI Try.underlying39 Try.underlying3 (Try.zeroValue3 _) bm _ D rfl hD _ _ rfl hkey ?_; intro c hat hwc; obtain rfl := (lookC HM.out hat).trans (congrArg Int.ofNat HH.out.2.1); clear hat hwc; try rw [Int.ofNat_eq_natCast])
        | (at_mapUpdate; refine wpList_mapUpdate_own _ rfl _ _ _ 39 rfl 3 3 keyedI Try.underlying39 _ bm L.length D rfl hD (by have := HH.out; unfold maxLen; omega) _ _ (keyI x) rfl rfl hkey (.lit (.int .i64 M1)) [] (plainElem_int Try.underlying3 (wf_i64' (by omega) (by have := HH.out; omega))) ?_; intro w4 hown4 hg4; clear hD
           have hbx4 := Hid.mk ((hg4.block p hA.out.ltp (fun e => hA.out.ne (by simpa using e.symm))).trans hA.out.box); have HO4 := Hid.mk hown4; have HG4 := Hid.mk hg4; clear hown4 hg4; obtain ⟨⟨c0, c1, c2⟩, f2⟩ := boxC_cells hbx4.out; rw [HH.out.1] at c2))
      go_ret
      obtain ⟨u1, u2, u3, u4, u5, u6, u7, u8⟩ := HH.out
      refine ⟨rfl, ?_⟩
      show StepC w p bm (L ++ [x]) _
      have hc : cnt x (L ++ [x]) = M1 := by rw [cnt_snoc, if_pos rfl]; omega
      have hM2 := HM.out.put (L' := L ++ [x]) HD.out.isMap (show 0 < M1 by omega) hc (fun k hk => by rw [cnt_snoc, if_neg hk])
      have ho := (HO4.out).setCell (a := ⟨p, 2, none⟩) hA.out.ne (.int .i64 N1)
      have hb : w4.heap[p]? = some (boxC p bm N) := by rw [hbx4.out, u1]
      refine ⟨⟨?_, ⟨_, hM2.tight ho, hM2⟩, hA.out.ne, fun y hy => ?_⟩, (Only.grown (S := fun k => k = p ∨ k = bm) HG4.out (fun k hk => Or.inr (by simpa using hk.symm))).put (Or.inl rfl) 2 _⟩
      · rw [List.length_append, List.length_singleton, u1, u4]
        exact boxC_total hb N1
      · rcases List.mem_append.1 hy with hy | hy
        · exact hA.out.good y hy
        · rw [List.mem_singleton.1 hy]; exact ⟨u7, u8⟩

end Go.Proofs.Ytgfelddgiabeoaa
