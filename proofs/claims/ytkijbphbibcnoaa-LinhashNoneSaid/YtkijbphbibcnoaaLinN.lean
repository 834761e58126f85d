/-
  Buckets that nobody made; LinhashNone returns true.
-/
import Derived.Test.YtkijbphbibcnoaaLinKn
import Derived.Test.YtkijbphbibcnoaaLinOkP
namespace Go.Proofs.Ytkijbphbibcnoaa
open Go.RowKit Go.Deep Go.Maps Go.WideShapes

/-- No buckets are there: no pointer, or one to buckets that New did not make. -/
def NoB (w : World) (q : Option Addr) : Prop := ∀ W, Up w W → Calls Try.prog 37 #[.pointer q] W fun e w' => e = .returned (.bool false) ∧ W = w'
theorem NoB.nil (w : World) : NoB w none := fun W _ => madeL_nil W
theorem NoB.zero {w : World} {p : Nat} (h : w.cell? ⟨p, 0, none⟩ = some (.pointer none)) : NoB w (some ⟨p, 0, none⟩) := fun W hW => madeL_zero p W (cell_below hW.out _ _ _ h)
theorem NoB.up {w w' : World} {q : Option Addr} (h : NoB w q) (hu : Below w.heap.size w w') : NoB w' q := fun W hW => h W ((show Up w w' from hu).call hW.out)
section
variable {w : World} {q : Option Addr}
theorem NoB.add (H : NoB w q) (h : Int) (n : Int) : Calls Try.prog 12 #[.pointer q, .int .u32 h, .int .i64 n] w fun e w' => e = .returned (.tuple #[.int .i64 0, .int .i64 1]) ∧ Below w.heap.size w w' := by
  have HM := Hid.mk (H w (Up.refl w))
  have HB := Hid.mk (Below.refl w.heap.size w)
  clear H
  go_enter Try.func12, Try.ntmps12
  go_wp2_with (go_at_call 37; refine HM.out.mono ?_; rintro e w1 ⟨rfl, rfl⟩)
  go_ret2
  exact ⟨rfl, HB.out⟩
theorem NoB.at_ (H : NoB w q) (n : Int) : Calls Try.prog 13 #[.pointer q, .int .i64 n] w fun e w' => e = .returned (.tuple #[.slice none 0 0, .int .i64 1]) ∧ Below w.heap.size w w' := by
  have HM := Hid.mk (H w (Up.refl w))
  have HB := Hid.mk (Below.refl w.heap.size w)
  clear H
  go_enter Try.func13, Try.ntmps13
  go_wp2_with (go_at_call 37; refine HM.out.mono ?_; rintro e w1 ⟨rfl, rfl⟩)
  go_ret2
  exact ⟨rfl, HB.out⟩
theorem NoB.remove (H : NoB w q) (h : Int) (n : Int) : Calls Try.prog 14 #[.pointer q, .int .u32 h, .int .i64 n] w fun e w' => e = .returned (.bool false) ∧ Below w.heap.size w w' := by
  obtain ⟨W1, hW1⟩ : ∃ W1, (((w.alloc (.cells #[.pointer q] 23)).alloc (.cells #[.int .u32 h] 32)).alloc (.cells #[.int .i64 n] 3)).alloc (.cells #[.bool false] 4) = W1 := ⟨_, rfl⟩
  have hu : Up w W1 := by rw [← hW1]; exact Up.alloc (Up.alloc (Up.alloc (Up.alloc (Up.refl w))))
  have hz : W1.heap.size = w.heap.size + 4 := by rw [← hW1]; simp
  have k0 : W1.cell? ⟨w.heap.size, 0, none⟩ = some (.pointer q) := by rw [← hW1]; exact cell_below (Up.alloc (Up.alloc (Up.alloc (Up.refl _)))).out _ _ _ (new_cell _ _ _ 0)
  have kb : W1.heap[w.heap.size + 3]? = some (.cells #[.bool false] 4) := by rw [← hW1]; have := new_block (((w.alloc (.cells #[.pointer q] 23)).alloc (.cells #[.int .u32 h] 32)).alloc (.cells #[.int .i64 n] 3)) (.cells #[.bool false] 4); simpa using this
  have k1 : W1.cell? ⟨w.heap.size + 1 + 1 + 1, 0, none⟩ = some (.bool false) := by simp [World.cell?, kb]
  have k2 : W1.frozen? ⟨w.heap.size + 1 + 1 + 1, 0, none⟩ = false := by simp [World.frozen?, kb]
  have HM := Hid.mk (H W1 hu)
  have HB := Hid.mk (show Below w.heap.size w W1 from hu.out)
  clear hu H
  have HBS := Hid.mk (HB.out.setCell (p := ⟨w.heap.size + 1 + 1 + 1, 0, none⟩) (by show w.heap.size ≤ w.heap.size + 1 + 1 + 1; omega) (.bool false))
  have HCR := Hid.mk (World.cell?_setCell_same W1 ⟨w.heap.size + 1 + 1 + 1, 0, none⟩ (.bool false) k1)
  clear hz kb
  go_enter Try.func14, Try.ntmps14
  go_wp2_with (go_at_call 37; refine HM.out.mono ?_; rintro e w1 ⟨rfl, rfl⟩)
  exact bodyPost_ret (results_bool rfl _ rfl HCR.out) rfl ⟨rfl, HBS.out⟩
theorem NoB.chain (H : NoB w q) (h : Int) : Calls Try.prog 15 #[.pointer q, .int .u32 h] w fun e w' => e = .returned (.slice none 0 0) ∧ Below w.heap.size w w' := by
  obtain ⟨W1, hW1⟩ : ∃ W1, w.alloc (.cells #[.int .u32 h] 32) = W1 := ⟨_, rfl⟩
  have hu : Up w W1 := by rw [← hW1]; exact Up.alloc (Up.refl w)
  have HM := Hid.mk (H W1 hu)
  have HB := Hid.mk (show Below w.heap.size w W1 from hu.out)
  clear hu H
  go_enter Try.func15, Try.ntmps15
  go_wp2_with (go_at_call 37; refine HM.out.mono ?_; rintro e w1 ⟨rfl, rfl⟩)
  go_ret
  exact ⟨rfl, HB.out⟩
theorem NoB.len (H : NoB w q)  : Calls Try.prog 16 #[.pointer q] w fun e w' => e = .returned (.int .i64 0) ∧ Below w.heap.size w w' := by
  have HM := Hid.mk (H w (Up.refl w))
  have HB := Hid.mk (Below.refl w.heap.size w)
  clear H
  go_enter Try.func16, Try.ntmps16
  go_wp2_with (go_at_call 37; refine HM.out.mono ?_; rintro e w1 ⟨rfl, rfl⟩)
  go_ret
  exact ⟨rfl, HB.out⟩
theorem NoB.count (H : NoB w q)  : Calls Try.prog 17 #[.pointer q] w fun e w' => e = .returned (.int .i64 0) ∧ Below w.heap.size w w' := by
  have HM := Hid.mk (H w (Up.refl w))
  have HB := Hid.mk (Below.refl w.heap.size w)
  clear H
  go_enter Try.func17, Try.ntmps17
  go_wp2_with (go_at_call 37; refine HM.out.mono ?_; rintro e w1 ⟨rfl, rfl⟩)
  go_ret
  exact ⟨rfl, HB.out⟩
theorem NoB.wants (H : NoB w q)  : Calls Try.prog 18 #[.pointer q] w fun e w' => e = .returned (.int .i64 0) ∧ Below w.heap.size w w' := by
  have HM := Hid.mk (H w (Up.refl w))
  have HB := Hid.mk (Below.refl w.heap.size w)
  clear H
  go_enter Try.func18, Try.ntmps18
  go_wp2_with (go_at_call 37; refine HM.out.mono ?_; rintro e w1 ⟨rfl, rfl⟩)
  go_ret
  exact ⟨rfl, HB.out⟩
theorem NoB.split (H : NoB w q)  : Calls Try.prog 19 #[.pointer q] w fun e w' => e = .returned (.int .i64 1) ∧ Below w.heap.size w w' := by
  obtain ⟨W1, hW1⟩ : ∃ W1, w.alloc (.cells #[.pointer q] 23) = W1 := ⟨_, rfl⟩
  have hu : Up w W1 := by rw [← hW1]; exact Up.alloc (Up.refl w)
  have k0 : W1.cell? ⟨w.heap.size, 0, none⟩ = some (.pointer q) := by rw [← hW1]; exact new_cell _ _ _ 0
  have HM := Hid.mk (H W1 hu)
  have HB := Hid.mk (show Below w.heap.size w W1 from hu.out)
  clear hu H
  go_enter Try.func19, Try.ntmps19
  go_wp2_with (go_at_call 37; refine HM.out.mono ?_; rintro e w1 ⟨rfl, rfl⟩)
  go_ret
  exact ⟨rfl, HB.out⟩
theorem NoB.join (H : NoB w q)  : Calls Try.prog 20 #[.pointer q] w fun e w' => e = .returned (.int .i64 1) ∧ Below w.heap.size w w' := by
  have HM := Hid.mk (H w (Up.refl w))
  have HB := Hid.mk (Below.refl w.heap.size w)
  clear H
  go_enter Try.func20, Try.ntmps20
  go_wp2_with (go_at_call 37; refine HM.out.mono ?_; rintro e w1 ⟨rfl, rfl⟩)
  go_ret
  exact ⟨rfl, HB.out⟩
end

/-- Both tables that nobody made. -/
structure NoTwo (w : World) (g p : Nat) : Prop where
  none_ : w.cell? ⟨g, 0, none⟩ = some (.pointer none)
  some_ : w.cell? ⟨g, 1, none⟩ = some (.pointer (some ⟨p, 0, none⟩))
  zero : w.cell? ⟨p, 0, none⟩ = some (.pointer none)
theorem NoTwo.up {w w' : World} {g p : Nat} (h : NoTwo w g p) (hb : Below w.heap.size w w') : NoTwo w' g p := ⟨cell_below hb _ _ _ h.none_, cell_below hb _ _ _ h.some_, cell_below hb _ _ _ h.zero⟩
/-- Amid a round: the tables are there still, the one at hand is none. -/
structure NS (w0 w : World) (g p : Nat) (q : Option Addr) : Prop where
  two : NoTwo w g p
  nob : NoB w q
  below : Below w0.heap.size w0 w
theorem NS.next {w0 w w' : World} {g p : Nat} {q : Option Addr} (h : NS w0 w g p q) (hb : Below w.heap.size w w') : NS w0 w' g p q := ⟨h.two.up hb, h.nob.up hb, h.below.trans (hb.mono h.below.size)⟩

set_option maxRecDepth 100000 in
set_option maxHeartbeats 8000000 in
theorem lawNone10 (h : Nat) (n : Int) (w : World) : Calls Try.prog 4 #[.int .u32 h, .int .i64 n] w fun e w' => e = .returned (.bool true) ∧ Below w.heap.size w w' := by
  obtain ⟨W, hW⟩ : ∃ W, (w.alloc (.cells #[.pointer none, .slice none 0 0, .int .i64 0, .int .i64 0] 39)).alloc (.cells #[.pointer none, .pointer (some ⟨w.heap.size, 0, none⟩)] 23) = W := ⟨_, rfl⟩
  have h2 : NoTwo W (w.heap.size + 1) w.heap.size := by
    rw [← hW]
    have e1 := new_block2 w (.cells #[.pointer none, .slice none 0 0, .int .i64 0, .int .i64 0] 39) (.cells #[.pointer none, .pointer (some ⟨w.heap.size, 0, none⟩)] 23)
    have e0 := new_block1 w (.cells #[.pointer none, .slice none 0 0, .int .i64 0, .int .i64 0] 39) (.cells #[.pointer none, .pointer (some ⟨w.heap.size, 0, none⟩)] 23)
    exact ⟨(by simp only [World.cell?, e1]; rfl), (by simp only [World.cell?, e1]; rfl), (by simp only [World.cell?, e0]; rfl)⟩
  have hb := Hid.mk (show Below w.heap.size w W from by rw [← hW]; exact ((Up.refl w).alloc.alloc).out)
  have H2 := Hid.mk h2
  clear h2
  go_enter Try.func4, Try.ntmps4
  go_wp2
  try rw [hW]
  clear hW
  obtain ⟨g, hg⟩ : ∃ g, w.heap.size + 1 = g := ⟨_, rfl⟩
  obtain ⟨p, hp⟩ : ∃ p, w.heap.size = p := ⟨_, rfl⟩
  rw [hg, hp] at H2
  rw [hg]
  try rw [hp]
  clear hg hp
  go_loopw [6] (fun ii wr => ∃ i : Nat, i ≤ 2 ∧ ii = .int .i64 i ∧ Hid (NoTwo wr g p ∧ Below W.heap.size W wr)) (fun ii _ => 2 - (intOf ii).toNat)
  case atStart => exact ⟨0, by omega, rfl, Hid.mk ⟨H2.out, Below.refl _ _⟩⟩
  case round =>
    obtain ⟨i, hi, rfl, HT⟩ := hrel
    by_cases h0 : i = 0
    · subst h0
      have HK := Hid.mk (show NS W wr g p none from ⟨HT.out.1, NoB.nil wr, HT.out.2⟩)
      have c0 := HK.out.two.none_
      have c1 := HK.out.two.some_
      clear HT H2
      go_wp2_with (first
          | (go_at_call 12; refine (HK.out.nob.add _ _).mono ?_; rintro e x ⟨rfl, hb⟩; replace HK := Hid.mk (HK.out.next hb); clear hb c0 c1; have c0 := HK.out.two.none_; have c1 := HK.out.two.some_)
          | (go_at_call 13; refine (HK.out.nob.at_ _).mono ?_; rintro e x ⟨rfl, hb⟩; replace HK := Hid.mk (HK.out.next hb); clear hb c0 c1; have c0 := HK.out.two.none_; have c1 := HK.out.two.some_)
          | (go_at_call 14; refine (HK.out.nob.remove _ _).mono ?_; rintro e x ⟨rfl, hb⟩; replace HK := Hid.mk (HK.out.next hb); clear hb c0 c1; have c0 := HK.out.two.none_; have c1 := HK.out.two.some_)
          | (go_at_call 15; refine (HK.out.nob.chain _).mono ?_; rintro e x ⟨rfl, hb⟩; replace HK := Hid.mk (HK.out.next hb); clear hb c0 c1; have c0 := HK.out.two.none_; have c1 := HK.out.two.some_)
          | (go_at_call 16; refine (HK.out.nob.len).mono ?_; rintro e x ⟨rfl, hb⟩; replace HK := Hid.mk (HK.out.next hb); clear hb c0 c1; have c0 := HK.out.two.none_; have c1 := HK.out.two.some_)
          | (go_at_call 17; refine (HK.out.nob.count).mono ?_; rintro e x ⟨rfl, hb⟩; replace HK := Hid.mk (HK.out.next hb); clear hb c0 c1; have c0 := HK.out.two.none_; have c1 := HK.out.two.some_)
          | (go_at_call 18; refine (HK.out.nob.wants).mono ?_; rintro e x ⟨rfl, hb⟩; replace HK := Hid.mk (HK.out.next hb); clear hb c0 c1; have c0 := HK.out.two.none_; have c1 := HK.out.two.some_)
          | (go_at_call 19; refine (HK.out.nob.split).mono ?_; rintro e x ⟨rfl, hb⟩; replace HK := Hid.mk (HK.out.next hb); clear hb c0 c1; have c0 := HK.out.two.none_; have c1 := HK.out.two.some_)
          | (go_at_call 20; refine (HK.out.nob.join).mono ?_; rintro e x ⟨rfl, hb⟩; replace HK := Hid.mk (HK.out.next hb); clear hb c0 c1; have c0 := HK.out.two.none_; have c1 := HK.out.two.some_))
      go_roundw
      case rel => exact ⟨1, by omega, by first | rfl | go_num, Hid.mk ⟨HK.out.two, HK.out.below⟩⟩
      case measure => simp [intOf]
    · by_cases h1 : i = 1
      · subst h1
        have HK := Hid.mk (show NS W wr g p (some ⟨p, 0, none⟩) from ⟨HT.out.1, NoB.zero HT.out.1.zero, HT.out.2⟩)
        have c0 := HK.out.two.none_
        have c1 := HK.out.two.some_
        clear HT H2 h0
        go_wp2_with (first
            | (go_at_call 12; refine (HK.out.nob.add _ _).mono ?_; rintro e x ⟨rfl, hb⟩; replace HK := Hid.mk (HK.out.next hb); clear hb c0 c1; have c0 := HK.out.two.none_; have c1 := HK.out.two.some_)
            | (go_at_call 13; refine (HK.out.nob.at_ _).mono ?_; rintro e x ⟨rfl, hb⟩; replace HK := Hid.mk (HK.out.next hb); clear hb c0 c1; have c0 := HK.out.two.none_; have c1 := HK.out.two.some_)
            | (go_at_call 14; refine (HK.out.nob.remove _ _).mono ?_; rintro e x ⟨rfl, hb⟩; replace HK := Hid.mk (HK.out.next hb); clear hb c0 c1; have c0 := HK.out.two.none_; have c1 := HK.out.two.some_)
            | (go_at_call 15; refine (HK.out.nob.chain _).mono ?_; rintro e x ⟨rfl, hb⟩; replace HK := Hid.mk (HK.out.next hb); clear hb c0 c1; have c0 := HK.out.two.none_; have c1 := HK.out.two.some_)
            | (go_at_call 16; refine (HK.out.nob.len).mono ?_; rintro e x ⟨rfl, hb⟩; replace HK := Hid.mk (HK.out.next hb); clear hb c0 c1; have c0 := HK.out.two.none_; have c1 := HK.out.two.some_)
            | (go_at_call 17; refine (HK.out.nob.count).mono ?_; rintro e x ⟨rfl, hb⟩; replace HK := Hid.mk (HK.out.next hb); clear hb c0 c1; have c0 := HK.out.two.none_; have c1 := HK.out.two.some_)
            | (go_at_call 18; refine (HK.out.nob.wants).mono ?_; rintro e x ⟨rfl, hb⟩; replace HK := Hid.mk (HK.out.next hb); clear hb c0 c1; have c0 := HK.out.two.none_; have c1 := HK.out.two.some_)
            | (go_at_call 19; refine (HK.out.nob.split).mono ?_; rintro e x ⟨rfl, hb⟩; replace HK := Hid.mk (HK.out.next hb); clear hb c0 c1; have c0 := HK.out.two.none_; have c1 := HK.out.two.some_)
            | (go_at_call 20; refine (HK.out.nob.join).mono ?_; rintro e x ⟨rfl, hb⟩; replace HK := Hid.mk (HK.out.next hb); clear hb c0 c1; have c0 := HK.out.two.none_; have c1 := HK.out.two.some_))
        go_roundw
        case rel => exact ⟨2, by omega, by first | rfl | go_num, Hid.mk ⟨HK.out.two, HK.out.below⟩⟩
        case measure => simp [intOf]
      · obtain rfl : i = 2 := by omega
        clear h0 h1
        go_wp2_with (go_at_call 9; refine (awake10 linOk _).mono ?_; rintro e w3 ⟨rfl, hb3⟩; have HB3 := Hid.mk hb3; clear hb3)
        go_ret
        exact ⟨rfl, hb.out.trans ((HT.out.2.trans (HB3.out.mono HT.out.2.size)).mono hb.out.size)⟩
end Go.Proofs.Ytkijbphbibcnoaa
