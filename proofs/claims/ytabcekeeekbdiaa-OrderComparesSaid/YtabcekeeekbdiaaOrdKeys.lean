/-
  What package order compares two terms by, beside their parts: cmp.Compare, cmp.Or, fields, parts.
-/
import Derived.Test.YtabcekeeekbdiaaOrdRef
import Derived.Test.YtabcekeeekbdiaaFloats
namespace Go.Proofs.Ytabcekeeekbdiaa
open Go.RowKit Go.Deep

theorem nanI_any (a : Int) (w : World) : Calls Try.prog 50 #[.int .i64 a] w fun e w' => e = .returned (.bool false) ∧ w = w' := by
  go_enter Try.func50, Try.ntmps50
  go_wp2
  all_goals go_ret
  all_goals exact ⟨by simp, rfl⟩
theorem nanS_any (a : ByteArray) (w : World) : Calls Try.prog 51 #[.string a] w fun e w' => e = .returned (.bool false) ∧ w = w' := by
  go_enter Try.func51, Try.ntmps51
  go_wp2
  all_goals go_ret
  all_goals exact ⟨by simp, rfl⟩
theorem cmpI_any (a b : Int) (w : World) : Calls Try.prog 45 #[.int .i64 a, .int .i64 b] w fun e w' => e = .returned (.int .i64 (cmpI a b)) ∧ w = w' := by
  go_enter Try.func45, Try.ntmps45
  go_wp2_with (go_at_call 50; refine (nanI_any _ _).mono ?_; rintro e w' ⟨rfl, rfl⟩)
  all_goals go_ret
  all_goals exact ⟨ret_int (by unfold cmpI; (repeat' split) <;> omega), rfl⟩
theorem cmpS_any (a b : ByteArray) (w : World) : Calls Try.prog 46 #[.string a, .string b] w fun e w' => e = .returned (.int .i64 (cmpB a b)) ∧ w = w' := by
  go_enter Try.func46, Try.ntmps46
  go_wp2_with (go_at_call 51; refine (nanS_any _ _).mono ?_; rintro e w' ⟨rfl, rfl⟩)
  all_goals go_ret
  · exact ⟨ret_int (cmpB_lt (by assumption)).symm, rfl⟩
  · exact ⟨ret_int (cmpB_gt (by assumption) (by assumption)).symm, rfl⟩
  · exact ⟨ret_int (cmpB_eq (by assumption)).symm, rfl⟩

theorem or_any (x y : Int) (b : Nat) (w : World) (h : w.heap[b]? = some (.cells #[.int .i64 x, .int .i64 y] 3)) :
    Calls Try.prog 47 #[.slice (some ⟨b, 0, none⟩) 2 2] w fun e w' => e = .returned (.int .i64 (lex x y)) ∧ w = w' := by
  have c0 : w.cell? ⟨b, 0, none⟩ = some (.int .i64 x) := by simp [World.cell?, h]
  have c1 : w.cell? ⟨b, 0 + 1, none⟩ = some (.int .i64 y) := by simp [World.cell?, h]
  go_enter Try.func47, Try.ntmps47
  go_wp2
  go_loopw [8] (fun ii wr => ∃ i : Nat, i ≤ 2 ∧ ii = .int .i64 i ∧ w = wr ∧ (0 < i → x = 0) ∧ (1 < i → y = 0)) (fun ii _ => 2 - (intOf ii).toNat)
  case atStart => exact ⟨0, by omega, rfl, rfl, fun h => by omega, fun h => by omega⟩
  case round =>
    obtain ⟨i, hi, rfl, rfl, hx, hy⟩ := hrel
    rcases (by omega : i = 0 ∨ i = 1 ∨ i = 2) with rfl | rfl | rfl
    · by_cases h0 : x = 0
      · subst h0
        go_wp2
        go_roundw
        case rel => exact ⟨1, by omega, by go_num, trivial, fun _ => trivial, fun h => by omega⟩
        case measure => simp [intOf]
      · go_wp2
        go_ret
        exact ⟨ret_int (by unfold lex; rw [if_neg h0]), rfl⟩
    · obtain rfl := hx (by omega)
      by_cases h0 : y = 0
      · subst h0
        go_wp2
        go_roundw
        case rel => exact ⟨2, by omega, by go_num, trivial, fun _ => trivial, fun _ => trivial⟩
        case measure => simp [intOf]
      · go_wp2
        go_ret
        exact ⟨ret_int (by rfl), rfl⟩
    · obtain rfl := hx (by omega)
      obtain rfl := hy (by omega)
      go_wp2
      go_ret
      exact ⟨ret_int (by rfl), rfl⟩

/-- What two terms have beside their parts, compared. -/
def Tm.keys : Tm → Tm → Int
  | .mk k n s l, .mk k' n' s' l' => lex (cmpI k k') (
      if k = 1 ∨ k = 3 ∨ k = 4 ∨ k = 6 then cmpI n n'
      else if k = 2 then cmpB s s'
      else if k = 5 then lex (cmpI n n') (cmpI l.length l'.length)
      else if k = 7 ∨ k = 9 then cmpI l.length l'.length
      else 0)
/-- The parts that count. -/
def Tm.subs : Tm → List Tm
  | .mk k _ _ l => if k = 5 ∨ k = 7 ∨ k = 9 then l else []
theorem lex_lex (a b c : Int) : lex (lex a b) c = lex a (lex b c) := by unfold lex; (repeat' split) <;> omega
theorem lex_0 (a : Int) : lex a 0 = a := by unfold lex; split <;> omega
theorem subs_yes {k : Int} (h : k = 5 ∨ k = 7 ∨ k = 9) (n : Int) (s : ByteArray) (l : List Tm) : (Tm.mk k n s l).subs = l := if_pos h
theorem subs_no {k : Int} (h : ¬ (k = 5 ∨ k = 7 ∨ k = 9)) (n : Int) (s : ByteArray) (l : List Tm) : (Tm.mk k n s l).subs = [] := if_neg h
theorem keys_mk (k n : Int) (s : ByteArray) (l : List Tm) (k' n' : Int) (s' : ByteArray) (l' : List Tm) : (Tm.mk k n s l).keys (.mk k' n' s' l') = lex (cmpI k k') (
      if k = 1 ∨ k = 3 ∨ k = 4 ∨ k = 6 then cmpI n n'
      else if k = 2 then cmpB s s'
      else if k = 5 then lex (cmpI n n') (cmpI l.length l'.length)
      else if k = 7 ∨ k = 9 then cmpI l.length l'.length
      else 0) := rfl
theorem lex_l0 (b : Int) : lex 0 b = b := if_pos rfl
theorem cmp_keys (T U : Tm) : T.cmp U = lex (T.keys U) (cmpL T.subs U.subs) := by
  obtain ⟨k, n, s, l⟩ := T
  obtain ⟨k', n', s', l'⟩ := U
  rw [cmp_mk, keys_mk, lex_lex]
  by_cases hk : k = k'
  · subst hk
    have e : cmpI k k = 0 := cmpI_zero.2 rfl
    rw [e, lex_l0, lex_l0]
    by_cases h1 : k = 1 ∨ k = 3 ∨ k = 4 ∨ k = 6
    · rw [if_pos h1, if_pos h1, subs_no (by omega), cmpL_nil, lex_0]
    rw [if_neg h1, if_neg h1]
    by_cases h2 : k = 2
    · rw [if_pos h2, if_pos h2, subs_no (by omega), cmpL_nil, lex_0]
    rw [if_neg h2, if_neg h2]
    by_cases h5 : k = 5
    · rw [if_pos h5, if_pos h5, subs_yes (by omega), subs_yes (by omega), lex_lex]
    rw [if_neg h5, if_neg h5]
    by_cases h7 : k = 7 ∨ k = 9
    · rw [if_pos h7, if_pos h7, subs_yes (by omega), subs_yes (by omega)]
    · rw [if_neg h7, if_neg h7, subs_no (by omega), cmpL_nil, lex_0]
  · have e : cmpI k k' ≠ 0 := fun h => hk (cmpI_zero.1 h)
    unfold lex
    rw [if_neg e, if_neg e]
theorem keys_zero {T U : Tm} (h : T.keys U = 0) : T.subs.length = U.subs.length := by
  obtain ⟨k, n, s, l⟩ := T
  obtain ⟨k', n', s', l'⟩ := U
  rw [keys_mk, lex_zero] at h
  obtain rfl := cmpI_zero.1 h.1
  have h := h.2
  by_cases h5 : k = 5
  · rw [subs_yes (by omega), subs_yes (by omega)]
    rw [if_neg (by omega), if_neg (by omega), if_pos h5, lex_zero] at h
    have := cmpI_zero.1 h.2
    omega
  by_cases h7 : k = 7 ∨ k = 9
  · rw [subs_yes (by omega), subs_yes (by omega)]
    rw [if_neg (by omega), if_neg (by omega), if_neg h5, if_pos h7] at h
    have := cmpI_zero.1 h
    omega
  · rw [subs_no (by omega), subs_no (by omega)]
theorem keys_one (T U : Tm) : One (T.keys U) := by
  obtain ⟨k, n, s, l⟩ := T
  obtain ⟨k', n', s', l'⟩ := U
  rw [keys_mk]
  refine lex_one (cmpI_one _ _) ?_
  split
  · exact cmpI_one _ _
  split
  · exact cmpB_one _ _
  split
  · exact lex_one (cmpI_one _ _) (cmpI_one _ _)
  split
  · exact cmpI_one _ _
  · exact Or.inr (Or.inl rfl)

/-- The slice of the parts that count. -/
def subsV (k : Int) (a : Option Addr) (m cap : Nat) : Value := if k = 5 ∨ k = 7 ∨ k = 9 then .slice a m cap else .slice none 0 0
theorem parts'_any (k n : Int) (s : ByteArray) (a : Option Addr) (m cap : Nat) (w : World) :
    Calls Try.prog 31 #[.agg #[.int .i64 k, .int .i64 n, .string s, .slice a m cap]] w fun e w' => e = .returned (subsV k a m cap) ∧ Below w.heap.size w w' := by
  have hV := Hid.mk (show subsV k a m cap = if k = 5 ∨ k = 7 ∨ k = 9 then .slice a m cap else .slice none 0 0 from rfl)
  generalize subsV k a m cap = V at hV
  by_cases h5 : k = 5
  · subst h5
    go_enter Try.func31, Try.ntmps31
    go_wp2
    go_ret
    exact ⟨by simp [hV.out], (Below.refl _ _).alloc (Nat.le_refl _) _⟩
  by_cases h7 : k = 7
  · subst h7
    go_enter Try.func31, Try.ntmps31
    go_wp2
    go_ret
    exact ⟨by simp [hV.out], (Below.refl _ _).alloc (Nat.le_refl _) _⟩
  by_cases h9 : k = 9
  · subst h9
    go_enter Try.func31, Try.ntmps31
    go_wp2
    go_ret
    exact ⟨by simp [hV.out], (Below.refl _ _).alloc (Nat.le_refl _) _⟩
  · have e5 : (k == 5) = false := by simpa using h5
    have e7 : (k == 7) = false := by simpa using h7
    have e9 : (k == 9) = false := by simpa using h9
    go_enter Try.func31, Try.ntmps31
    go_wp2
    go_ret
    exact ⟨by simp [hV.out, h5, h7, h9], (Below.refl _ _).alloc (Nat.le_refl _) _⟩

end Go.Proofs.Ytabcekeeekbdiaa
