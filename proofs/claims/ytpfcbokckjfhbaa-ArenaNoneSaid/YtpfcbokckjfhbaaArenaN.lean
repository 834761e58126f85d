/-
  Arenas that nobody made; ArenaNone returns true.
-/
import Derived.Test.YtpfcbokckjfhbaaArenaW
namespace Go.Proofs.Ytpfcbokckjfhbaa
open Go.RowKit Go.Deep Go.Maps Go.WideShapes

/-- No arena is there: no pointer, or one to an arena that New did not make. -/
def NoAr (w : World) (q : Option Addr) : Prop := Calls Try.prog 36 #[.pointer q] w fun e w' => e = .returned (.bool false) ∧ w = w'
theorem NoAr.nil (w : World) : NoAr w none := madeA_nil w
theorem NoAr.zero {w : World} {p : Nat} (h : w.cell? ⟨p, 0, none⟩ = some (.pointer none)) : NoAr w (some ⟨p, 0, none⟩) := madeA_zero p w h
section
variable {w : World} {q : Option Addr}
theorem NoAr.find (h : NoAr w q) (n : Int) : Calls Try.prog 38 #[.pointer q, .int .i64 n] w fun e w' => e = .returned (.tuple #[.slice none 0 0, .int .i64 1]) ∧ w = w' := by
  have H := Hid.mk h
  clear h
  go_enter Try.func38, Try.ntmps38
  go_wp2_with (go_at_call 36; refine Calls.mono H.out ?_; rintro e w1 ⟨rfl, rfl⟩)
  go_ret2
  exact ⟨rfl, rfl⟩
theorem NoAr.take (h : NoAr w q) (l : Value) : Calls Try.prog 15 #[.pointer q, l] w fun e w' => e = .returned (.tuple #[.int .i64 0, .int .i64 1]) ∧ w = w' := by
  have H := Hid.mk h
  clear h
  go_enter Try.func15, Try.ntmps15
  go_wp2_with (go_at_call 36; refine Calls.mono H.out ?_; rintro e w1 ⟨rfl, rfl⟩)
  go_ret2
  exact ⟨rfl, rfl⟩
theorem NoAr.get (h : NoAr w q) (n : Int) : Calls Try.prog 16 #[.pointer q, .int .i64 n] w fun e w' => e = .returned (.tuple #[.slice none 0 0, .int .i64 1]) ∧ w = w' := by
  have H := Hid.mk (h.find n)
  clear h
  go_enter Try.func16, Try.ntmps16
  go_wp2_with (go_at_call 38; refine H.out.mono ?_; rintro e w1 ⟨rfl, rfl⟩)
  go_ret2
  exact ⟨rfl, rfl⟩
theorem NoAr.set (h : NoAr w q) (n : Int) (l : Value) : Calls Try.prog 17 #[.pointer q, .int .i64 n, l] w fun e w' => e = .returned (.int .i64 1) ∧ w = w' := by
  have H := Hid.mk (h.find n)
  clear h
  go_enter Try.func17, Try.ntmps17
  go_wp2_with (go_at_call 38; refine H.out.mono ?_; rintro e w1 ⟨rfl, rfl⟩)
  go_ret
  exact ⟨rfl, rfl⟩
theorem NoAr.drop (h : NoAr w q) (n : Int) : Calls Try.prog 18 #[.pointer q, .int .i64 n] w fun e w' => e = .returned (.int .i64 1) ∧ w = w' := by
  have H := Hid.mk (h.find n)
  clear h
  go_enter Try.func18, Try.ntmps18
  go_wp2_with (go_at_call 38; refine H.out.mono ?_; rintro e w1 ⟨rfl, rfl⟩)
  go_ret
  exact ⟨rfl, rfl⟩
theorem NoAr.left (h : NoAr w q) : Calls Try.prog 19 #[.pointer q] w fun e w' => e = .returned (.int .i64 0) ∧ w = w' := by
  have H := Hid.mk h
  clear h
  go_enter Try.func19, Try.ntmps19
  go_wp2_with (go_at_call 36; refine Calls.mono H.out ?_; rintro e w1 ⟨rfl, rfl⟩)
  go_ret
  exact ⟨rfl, rfl⟩
theorem NoAr.used (h : NoAr w q) : Calls Try.prog 20 #[.pointer q] w fun e w' => e = .returned (.int .i64 0) ∧ w = w' := by
  have H := Hid.mk h
  clear h
  go_enter Try.func20, Try.ntmps20
  go_wp2_with (go_at_call 36; refine Calls.mono H.out ?_; rintro e w1 ⟨rfl, rfl⟩)
  go_ret
  exact ⟨rfl, rfl⟩
theorem NoAr.blocks (h : NoAr w q) : Calls Try.prog 21 #[.pointer q] w fun e w' => e = .returned (.slice none 0 0) ∧ w = w' := by
  have H := Hid.mk h
  clear h
  go_enter Try.func21, Try.ntmps21
  go_wp2_with (go_at_call 36; refine Calls.mono H.out ?_; rintro e w1 ⟨rfl, rfl⟩)
  go_ret
  exact ⟨rfl, rfl⟩
end

/-- Both arenas that nobody made. -/
structure NoTwo (w : World) (g p : Nat) : Prop where
  none_ : w.cell? ⟨g, 0, none⟩ = some (.pointer none)
  some_ : w.cell? ⟨g, 1, none⟩ = some (.pointer (some ⟨p, 0, none⟩))
  zero : w.cell? ⟨p, 0, none⟩ = some (.pointer none)
set_option maxRecDepth 100000 in
set_option maxHeartbeats 4000000 in
theorem lawNone8 (len cap : Nat) (a : Option Addr) (n : Int) (w : World) : Calls Try.prog 5 #[.slice a len cap, .int .i64 n] w fun e w' => e = .returned (.bool true) ∧ Below w.heap.size w w' := by
  go_enter Try.func5, Try.ntmps5
  go_upto_region 2 with fail
  obtain ⟨W, hW⟩ : ∃ W, (w.alloc (.cells #[.pointer none, .map none, .int .i64 0, .int .i64 0, .int .i64 0] 40)).alloc (.cells #[.pointer none, .pointer (some ⟨w.heap.size, 0, none⟩)] 23) = W := ⟨_, rfl⟩
  have h2 : NoTwo W (w.heap.size + 1) w.heap.size := by
    rw [← hW]
    have e1 := new_block2 w (.cells #[.pointer none, .map none, .int .i64 0, .int .i64 0, .int .i64 0] 40) (.cells #[.pointer none, .pointer (some ⟨w.heap.size, 0, none⟩)] 23)
    have e0 := new_block1 w (.cells #[.pointer none, .map none, .int .i64 0, .int .i64 0, .int .i64 0] 40) (.cells #[.pointer none, .pointer (some ⟨w.heap.size, 0, none⟩)] 23)
    exact ⟨(by simp only [World.cell?, e1]; rfl), (by simp only [World.cell?, e1]; rfl), (by simp only [World.cell?, e0]; rfl)⟩
  have hb := Hid.mk (show Below w.heap.size w W from by rw [← hW]; exact ((Up.refl w).alloc.alloc).out)
  rw [hW]
  obtain ⟨g, hg⟩ : ∃ g, w.heap.size + 1 = g := ⟨_, rfl⟩
  obtain ⟨p, hp⟩ : ∃ p, w.heap.size = p := ⟨_, rfl⟩
  rw [hg, hp] at h2
  rw [hg]
  try rw [hp]
  have H2 := Hid.mk h2
  clear hg hp hW h2
  go_wp2
  go_loopw [6] (fun ii wr => ∃ i : Nat, i ≤ 2 ∧ ii = .int .i64 i ∧ wr = W) (fun ii _ => 2 - (intOf ii).toNat)
  case atStart => exact ⟨0, by omega, rfl, rfl⟩
  case round =>
    obtain ⟨i, hi, rfl, rfl⟩ := hrel
    have c0 := H2.out.none_
    have c1 := H2.out.some_
    by_cases hl : len ≤ 100
    · have d1 : (len : Int) ≤ 100 := by omega
      clear hl
      by_cases h0 : i = 0
      · subst h0
        have HQ := Hid.mk (NoAr.nil wr)
        go_wp2_with (first
          | (go_at_call 15; refine (HQ.out.take _).mono ?_; rintro e x ⟨rfl, rfl⟩)
          | (go_at_call 16; refine (HQ.out.get _).mono ?_; rintro e x ⟨rfl, rfl⟩)
          | (go_at_call 17; refine (HQ.out.set _ _).mono ?_; rintro e x ⟨rfl, rfl⟩)
          | (go_at_call 18; refine (HQ.out.drop _).mono ?_; rintro e x ⟨rfl, rfl⟩)
          | (go_at_call 19; refine HQ.out.left.mono ?_; rintro e x ⟨rfl, rfl⟩)
          | (go_at_call 20; refine HQ.out.used.mono ?_; rintro e x ⟨rfl, rfl⟩)
          | (go_at_call 21; refine HQ.out.blocks.mono ?_; rintro e x ⟨rfl, rfl⟩))
        go_roundw
        case rel => exact ⟨1, by omega, by first | rfl | go_num, by first | rfl | trivial⟩
        case measure => simp [intOf]
      · by_cases h1 : i = 1
        · subst h1
          have HQ := Hid.mk (NoAr.zero H2.out.zero)
          clear h0
          go_wp2_with (first
          | (go_at_call 15; refine (HQ.out.take _).mono ?_; rintro e x ⟨rfl, rfl⟩)
          | (go_at_call 16; refine (HQ.out.get _).mono ?_; rintro e x ⟨rfl, rfl⟩)
          | (go_at_call 17; refine (HQ.out.set _ _).mono ?_; rintro e x ⟨rfl, rfl⟩)
          | (go_at_call 18; refine (HQ.out.drop _).mono ?_; rintro e x ⟨rfl, rfl⟩)
          | (go_at_call 19; refine HQ.out.left.mono ?_; rintro e x ⟨rfl, rfl⟩)
          | (go_at_call 20; refine HQ.out.used.mono ?_; rintro e x ⟨rfl, rfl⟩)
          | (go_at_call 21; refine HQ.out.blocks.mono ?_; rintro e x ⟨rfl, rfl⟩))
          go_roundw
          case rel => exact ⟨2, by omega, by first | rfl | go_num, by first | rfl | trivial⟩
          case measure => simp [intOf]
        · obtain rfl : i = 2 := by omega
          clear h0 h1
          go_wp2_with (go_at_call 11; refine (awake8_any _).mono ?_; rintro e w3 ⟨rfl, hb3⟩; have HB3 := Hid.mk hb3; clear hb3)
          go_ret
          exact ⟨rfl, hb.out.trans (HB3.out.mono hb.out.size)⟩
    · have d1 : ¬ (len : Int) ≤ 100 := by omega
      clear hl
      by_cases h2 : i < 2
      · have d2 : (i : Int) < 2 := by omega
        clear h2
        go_wp2_with (go_at_call 11; refine (awake8_any _).mono ?_; rintro e w3 ⟨rfl, hb3⟩; have HB3 := Hid.mk hb3; clear hb3)
        go_ret
        exact ⟨rfl, hb.out.trans (HB3.out.mono hb.out.size)⟩
      · obtain rfl : i = 2 := by omega
        clear h2
        go_wp2_with (go_at_call 11; refine (awake8_any _).mono ?_; rintro e w3 ⟨rfl, hb3⟩; have HB3 := Hid.mk hb3; clear hb3)
        go_ret
        exact ⟨rfl, hb.out.trans (HB3.out.mono hb.out.size)⟩
end Go.Proofs.Ytpfcbokckjfhbaa
