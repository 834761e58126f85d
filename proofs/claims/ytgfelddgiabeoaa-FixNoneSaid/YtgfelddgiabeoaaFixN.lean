/-
  Counts that nobody made; FixNone returns true.
-/
import Derived.Test.YtgfelddgiabeoaaFixK
namespace Go.Proofs.Ytgfelddgiabeoaa
open Go.RowKit Go.Deep Go.Maps Go.WideShapes

/-- No count is there: no pointer, or one to a count that New did not make. -/
def NoC (w : World) (q : Option Addr) : Prop := Calls Try.prog 25 #[.pointer q] w fun e w' => e = .returned (.bool false) ∧ w = w'
theorem NoC.nil (w : World) : NoC w none := madeC_nil w
theorem NoC.zero {w : World} {p : Nat} (h : w.cell? ⟨p, 0, none⟩ = some (.pointer none)) : NoC w (some ⟨p, 0, none⟩) := madeC_zero p w h
section
variable {w : World} {q : Option Addr}
theorem NoC.add (h : NoC w q) (x : Int) : Calls Try.prog 19 #[.pointer q, .int .i64 x] w fun e w' => e = .returned (.int .i64 1) ∧ w = w' := by
  have H := Hid.mk h
  clear h
  go_enter Try.func19, Try.ntmps19
  go_wp2_with (go_at_call 25; refine Calls.mono H.out ?_; rintro e w1 ⟨rfl, rfl⟩)
  go_ret
  exact ⟨rfl, rfl⟩
theorem NoC.rel (h : NoC w q) (x : Int) : Calls Try.prog 17 #[.pointer q, .int .i64 x] w fun e w' => e = .returned (.tuple #[.bool false, .int .i64 1]) ∧ w = w' := by
  have H := Hid.mk h
  clear h
  go_enter Try.func17, Try.ntmps17
  go_wp2_with (go_at_call 25; refine Calls.mono H.out ?_; rintro e w1 ⟨rfl, rfl⟩)
  go_ret2
  exact ⟨rfl, rfl⟩
theorem NoC.of (h : NoC w q) (x : Int) : Calls Try.prog 9 #[.pointer q, .int .i64 x] w fun e w' => e = .returned (.int .i64 0) ∧ w = w' := by
  have H := Hid.mk h
  clear h
  go_enter Try.func9, Try.ntmps9
  go_wp2_with (go_at_call 25; refine Calls.mono H.out ?_; rintro e w1 ⟨rfl, rfl⟩)
  go_ret
  exact ⟨rfl, rfl⟩
theorem NoC.drop (h : NoC w q) (x : Int) : Calls Try.prog 18 #[.pointer q, .int .i64 x] w fun e w' => e = .returned (.tuple #[.int .i64 0, .bool false]) ∧ w = w' := by
  have H := Hid.mk (h.of x)
  clear h
  go_enter Try.func18, Try.ntmps18
  go_wp2_with (go_at_call 9; refine Calls.mono H.out ?_; rintro e w1 ⟨rfl, rfl⟩)
  go_ret2
  exact ⟨rfl, rfl⟩
theorem NoC.total (h : NoC w q) : Calls Try.prog 11 #[.pointer q] w fun e w' => e = .returned (.int .i64 0) ∧ w = w' := by
  have H := Hid.mk h
  clear h
  go_enter Try.func11, Try.ntmps11
  go_wp2_with (go_at_call 25; refine Calls.mono H.out ?_; rintro e w1 ⟨rfl, rfl⟩)
  go_ret
  exact ⟨rfl, rfl⟩
theorem NoC.hold (h : NoC w q) : Calls Try.prog 12 #[.pointer q] w fun e w' => e = .returned (.slice none 0 0) ∧ w = w' := by
  have H := Hid.mk h
  clear h
  go_enter Try.func12, Try.ntmps12
  go_wp2_with (go_at_call 25; refine Calls.mono H.out ?_; rintro e w1 ⟨rfl, rfl⟩)
  go_ret
  exact ⟨rfl, rfl⟩
end

/-- Both counts that nobody made. -/
structure NoTwoC (w : World) (g p : Nat) : Prop where
  none_ : w.cell? ⟨g, 0, none⟩ = some (.pointer none)
  some_ : w.cell? ⟨g, 1, none⟩ = some (.pointer (some ⟨p, 0, none⟩))
  zero : w.cell? ⟨p, 0, none⟩ = some (.pointer none)
set_option maxRecDepth 100000 in
set_option maxHeartbeats 4000000 in
theorem lawNone12 (x : Int) (w : World) : Calls Try.prog 4 #[.int .i64 x] w fun e w' => e = .returned (.bool true) ∧ Below w.heap.size w w' := by
  go_enter Try.func4, Try.ntmps4
  go_upto_region 2 with fail
  obtain ⟨W, hW⟩ : ∃ W, (w.alloc (.cells #[.pointer none, .map none, .int .i64 0] 41)).alloc (.cells #[.pointer none, .pointer (some ⟨w.heap.size, 0, none⟩)] 23) = W := ⟨_, rfl⟩
  have h2 : NoTwoC W (w.heap.size + 1) w.heap.size := by
    rw [← hW]
    have e1 := new_block2 w (.cells #[.pointer none, .map none, .int .i64 0] 41) (.cells #[.pointer none, .pointer (some ⟨w.heap.size, 0, none⟩)] 23)
    have e0 := new_block1 w (.cells #[.pointer none, .map none, .int .i64 0] 41) (.cells #[.pointer none, .pointer (some ⟨w.heap.size, 0, none⟩)] 23)
    exact ⟨(by simp only [World.cell?, e1]; rfl), (by simp only [World.cell?, e1]; rfl), (by simp only [World.cell?, e0]; rfl)⟩
  have hb := Hid.mk (show Below w.heap.size w W from by rw [← hW]; exact ((Up.refl w).alloc.alloc).out)
  rw [hW]
  obtain ⟨g, hg⟩ : ∃ g, w.heap.size + 1 = g := ⟨_, rfl⟩
  obtain ⟨p, hp⟩ : ∃ p, w.heap.size = p := ⟨_, rfl⟩
  rw [hg, hp] at h2
  rw [hg]
  try rw [hp]
  have H2 := Hid.mk h2
  clear hg hp hW h2
  go_wp2
  go_loopw [4] (fun ii wr => ∃ i : Nat, i ≤ 2 ∧ ii = .int .i64 i ∧ wr = W) (fun ii _ => 2 - (Go.RowKit.intOf ii).toNat)
  case atStart => exact ⟨0, by omega, rfl, rfl⟩
  case round =>
    obtain ⟨i, hi, rfl, rfl⟩ := hrel
    have c0 := H2.out.none_
    have c1 := H2.out.some_
    by_cases h0 : i = 0
    · subst h0
      have HQ := Hid.mk (NoC.nil wr)
      go_wp2_with (first
        | (go_at_call 19; refine (HQ.out.add _).mono ?_; rintro e x ⟨rfl, rfl⟩)
        | (go_at_call 17; refine (HQ.out.rel _).mono ?_; rintro e x ⟨rfl, rfl⟩)
        | (go_at_call 18; refine (HQ.out.drop _).mono ?_; rintro e x ⟨rfl, rfl⟩)
        | (go_at_call 9; refine (HQ.out.of _).mono ?_; rintro e x ⟨rfl, rfl⟩)
        | (go_at_call 11; refine HQ.out.total.mono ?_; rintro e x ⟨rfl, rfl⟩)
        | (go_at_call 12; refine HQ.out.hold.mono ?_; rintro e x ⟨rfl, rfl⟩))
      go_roundw
      case rel => exact ⟨1, by omega, by first | rfl | go_num, by first | rfl | trivial⟩
      case measure => simp [Go.RowKit.intOf]
    · by_cases h1 : i = 1
      · subst h1
        have HQ := Hid.mk (NoC.zero H2.out.zero)
        clear h0
        go_wp2_with (first
          | (go_at_call 19; refine (HQ.out.add _).mono ?_; rintro e x ⟨rfl, rfl⟩)
          | (go_at_call 17; refine (HQ.out.rel _).mono ?_; rintro e x ⟨rfl, rfl⟩)
          | (go_at_call 18; refine (HQ.out.drop _).mono ?_; rintro e x ⟨rfl, rfl⟩)
          | (go_at_call 9; refine (HQ.out.of _).mono ?_; rintro e x ⟨rfl, rfl⟩)
          | (go_at_call 11; refine HQ.out.total.mono ?_; rintro e x ⟨rfl, rfl⟩)
          | (go_at_call 12; refine HQ.out.hold.mono ?_; rintro e x ⟨rfl, rfl⟩))
        go_roundw
        case rel => exact ⟨2, by omega, by first | rfl | go_num, by first | rfl | trivial⟩
        case measure => simp [Go.RowKit.intOf]
      · obtain rfl : i = 2 := by omega
        clear h0 h1
        go_wp2_with (go_at_call 16; refine (awake12_any _).mono ?_; rintro e w3 ⟨rfl, hb3⟩; have HB3 := Hid.mk hb3; clear hb3)
        go_ret
        exact ⟨rfl, hb.out.trans (HB3.out.mono hb.out.size)⟩
end Go.Proofs.Ytgfelddgiabeoaa
