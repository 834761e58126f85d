/-
  What the functions that only look at a term come to.
-/
import Derived.Test.YtamafhcgjbkikaaDoorTermBase
namespace Go.Proofs.YtamafhcgjbkikaaDoor
open Go.RowKit Go.Deep

mutual
/-- How many parts a term has, itself too. -/
def Tm.size : Tm → Nat
  | .mk _ _ _ l => 1 + sizes l
def sizes : List Tm → Nat
  | [] => 0
  | t :: r => t.size + sizes r
end

theorem Tm.size_mk (k n : Int) (s : ByteArray) (l : List Tm) : (Tm.mk k n s l).size = 1 + sizes l := by rw [Tm.size]
theorem Tm.size_pos (T : Tm) : 1 ≤ T.size := by
  cases T
  rw [Tm.size_mk]
  omega
theorem sizes_take (l : List Tm) (i : Nat) (hi : i < l.length) : sizes (l.take (i + 1)) = sizes (l.take i) + l[i].size := by
  induction l generalizing i with
  | nil => cases hi
  | cons t r ih =>
    cases i with
    | zero => simp [sizes]
    | succ i =>
      have := ih i (by simpa using hi)
      simp only [List.take_succ_cons, sizes, List.getElem_cons_succ]
      omega
theorem sizes_le (l : List Tm) (i : Nat) : sizes (l.take i) ≤ sizes l := by
  induction l generalizing i with
  | nil => simp [sizes]
  | cons t r ih =>
    cases i with
    | zero => simp [sizes]
    | succ i =>
      have := ih i
      simp only [List.take_succ_cons, sizes]
      omega

theorem sizes_at (l : List Tm) (i : Nat) (hi : i < l.length) : l[i].size ≤ sizes l := by
  have h1 := sizes_take l i hi
  have h2 := sizes_le l (i + 1)
  omega
theorem length_sizes (l : List Tm) : l.length ≤ sizes l := by
  induction l with
  | nil => simp
  | cons t r ih =>
    have := t.size_pos
    simp only [List.length_cons, sizes]
    omega

/-- The count as it is gone on with: no further than most. -/
def cnt (N : Nat) (m : Int) : Int := min (N : Int) (max 1 (m + 1))

theorem cnt_step {N M : Nat} {m : Int} (h1 : 1 ≤ N) (h : cnt N m ≤ m) : cnt N m + cnt M (m - cnt N m) = cnt (N + M) m := by
  unfold cnt at *
  omega
theorem cnt_more {N M : Nat} {m : Int} (h1 : 1 ≤ N) (hM : N ≤ M) (h : m < cnt N m) : cnt N m = cnt M m := by
  unfold cnt at *
  omega
theorem cnt_lo {N : Nat} {m : Int} (h1 : 1 ≤ N) : 1 ≤ cnt N m := by
  unfold cnt
  omega
theorem cnt_hi {N : Nat} {m : Int} : cnt N m ≤ max 1 (m + 1) := by
  unfold cnt
  omega
/-- A bool has been returned; if it is false, P holds. -/
def Told (P : Prop) (e : Ending) : Prop := ∃ b, e = .returned (.bool b) ∧ (b = false → P)
theorem Told.of {P : Prop} (b : Bool) (h : b = false → P) : Told P (.returned (.bool b)) := ⟨b, rfl, h⟩
theorem Told.yes {P : Prop} : Told P (.returned (.bool true)) := ⟨true, rfl, fun h => by cases h⟩
theorem Told.no {P : Prop} (h : P) : Told P (.returned (.bool false)) := ⟨false, rfl, fun _ => h⟩
set_option maxHeartbeats 400000 in
theorem parts_any (T : Tm) : ∀ (S : Nat → Prop) (v : Value) (m : Int) (w : World), Lies w S T v → -4611686018427387904 ≤ m → m ≤ 4611686018427387904 →
    Calls Tryd.prog 30 #[v, .int .i64 m] w fun e w' => e = .returned (.int .i64 (cnt T.size m)) ∧ Below w.heap.size w w' := by
  induction T using Tm.induct with
  | h k n s l ih0 =>
    intro S v m w hv hm0 hm1
    obtain ⟨a, cap, rfl, hs, hl⟩ := hv.out
    have ih := Hid.mk ih0
    clear ih0 hv
    have hlen : l.length ≤ 9223372036854775807 := Nat.le_trans hl.1 hl.2.1
    rw [Tm.size_mk]
    go_enter Tryd.func30, Tryd.ntmps30
    go_wp2
    generalize hW1 : w.alloc (.cells #[.int .i64 k, .int .i64 n, .string s, .slice a l.length cap] 24) = w1
    have hz : w1.heap.size = w.heap.size + 1 := by rw [← hW1]; simp
    have hc3 : w1.cell? ⟨w.heap.size, 3, none⟩ = some (.slice a l.length cap) := by rw [← hW1]; exact new_cell w _ _ 3
    have hb1 : Below w.heap.size w w1 := by rw [← hW1]; exact (Below.refl _ _).alloc (Nat.le_refl _) _
    have hl1 : Lst w1 S l a cap := hl.below hb1
    go_loopw [5, 6] (fun nn ii wr => ∃ i : Nat, i ≤ l.length ∧ ii = .int .i64 i ∧ nn = .int .i64 (cnt (1 + sizes (l.take i)) m) ∧ Below w1.heap.size w1 wr) (fun _ ii _ => l.length - (intOf ii).toNat)
    case atStart => exact ⟨0, Nat.zero_le _, rfl, by simp [cnt, sizes]; omega, Below.refl _ _⟩
    case round =>
      obtain ⟨i, hi, rfl, rfl, hb⟩ := hrel
      have hw3 := (hb.cell (p := ⟨w.heap.size, 3, none⟩) (by show w.heap.size < w1.heap.size; omega)).trans hc3
      have hzr := hb.size
      have hbw : Below w.heap.size w wr := hb1.trans (hb.mono (by omega))
      have q0 := cnt_lo (N := 1 + sizes (l.take i)) (m := m) (by omega)
      have q1 := cnt_hi (N := 1 + sizes (l.take i)) (m := m)
      generalize hq' : cnt (1 + sizes (l.take i)) m = q at q0 q1 ⊢
      have hq := Hid.mk hq'
      clear hq'
      by_cases hlt : i < l.length
      · obtain ⟨b, o, rfl, _, hr⟩ := (hl1.below hb).some (by omega)
        obtain ⟨k', n', s', m', a', cap', hT, c0, c1, c2, c3, hli⟩ := hr.part i hlt
        have hc := ih.out l[i] (List.getElem_mem hlt) S _ (m - q) wr hli
        have r0 := cnt_lo (m := m - q) (Tm.size_pos l[i])
        have r1 := cnt_hi (N := l[i].size) (m := m - q)
        generalize hr' : cnt l[i].size (m - q) = r at hc r0 r1
        have hrr := Hid.mk hr'
        clear hr' hT hli
        go_wp2_with (go_at_call 30; refine (hc (by omega) (by omega)).mono ?_; rintro e w2 ⟨rfl, hb2⟩)
        · go_roundw
          case rel =>
            exact ⟨i + 1, by omega, by go_num, by rw [sizes_take l i hlt, ← Nat.add_assoc, ← cnt_step (by omega) (by rw [hq.out]; omega), hq.out, hrr.out], hb.trans (hb2.mono hzr)⟩
          case measure => simp [intOf]; omega
        · go_ret
          refine ⟨ret_int ?_, hbw⟩
          rw [← hq.out]
          exact cnt_more (by omega) (by have := sizes_le l i; omega) (by rw [hq.out]; omega)
      · go_wp2
        go_ret
        obtain rfl : i = l.length := by omega
        refine ⟨ret_int ?_, hbw⟩
        rw [← hq.out, List.take_length]

mutual
/-- No text of a term is of more than 200 bytes. -/
def Tm.Short : Tm → Prop
  | .mk _ _ s l => s.size ≤ 200 ∧ Shorts l
def Shorts : List Tm → Prop
  | [] => True
  | t :: r => t.Short ∧ Shorts r
end
theorem Tm.short_mk (k n : Int) (s : ByteArray) (l : List Tm) : (Tm.mk k n s l).Short ↔ s.size ≤ 200 ∧ Shorts l := by rw [Tm.Short]
theorem shorts_of {l : List Tm} (h : ∀ i (hi : i < l.length), l[i].Short) : Shorts l := by
  induction l with
  | nil => rw [Shorts]; trivial
  | cons t r ih =>
    rw [Shorts]
    exact ⟨h 0 (by simp), ih fun i hi => h (i + 1) (by simpa using hi)⟩
theorem Shorts.at {l : List Tm} (h : Shorts l) (i : Nat) (hi : i < l.length) : l[i].Short := by
  induction l generalizing i with
  | nil => cases hi
  | cons t r ih =>
    rw [Shorts] at h
    cases i with
    | zero => exact h.1
    | succ i => exact ih h.2 i (by simpa using hi)

set_option maxHeartbeats 400000 in
theorem long_any (T : Tm) : ∀ (S : Nat → Prop) (v : Value) (w : World), Lies w S T v →
    Calls Tryd.prog 31 #[v] w fun e w' => Told T.Short e ∧ Below w.heap.size w w' := by
  induction T using Tm.induct with
  | h k n s l ih0 =>
    intro S v w hv
    obtain ⟨a, cap, rfl, hs, hl⟩ := hv.out
    have ih := Hid.mk ih0
    clear ih0 hv
    have hlen : l.length ≤ 9223372036854775807 := Nat.le_trans hl.1 hl.2.1
    have hss := hs.s1
    have hsh := Hid.mk (Tm.short_mk k n s l)
    by_cases hlong : 200 < s.size
    · go_enter Tryd.func31, Tryd.ntmps31
      go_wp2
      go_ret
      exact ⟨Told.yes, (Below.refl _ _).alloc (Nat.le_refl _) _⟩
    go_enter Tryd.func31, Tryd.ntmps31
    go_wp2
    generalize hW1 : w.alloc (.cells #[.int .i64 k, .int .i64 n, .string s, .slice a l.length cap] 24) = w1
    have hz : w1.heap.size = w.heap.size + 1 := by rw [← hW1]; simp
    have hc3 : w1.cell? ⟨w.heap.size, 3, none⟩ = some (.slice a l.length cap) := by rw [← hW1]; exact new_cell w _ _ 3
    have hb1 : Below w.heap.size w w1 := by rw [← hW1]; exact (Below.refl _ _).alloc (Nat.le_refl _) _
    have hl1 : Lst w1 S l a cap := hl.below hb1
    go_loopw [3] (fun ii wr => ∃ i : Nat, i ≤ l.length ∧ ii = .int .i64 i ∧ Hid (∀ j (hj : j < l.length), j < i → l[j].Short) ∧ Below w1.heap.size w1 wr) (fun ii _ => l.length - (intOf ii).toNat)
    case atStart => exact ⟨0, Nat.zero_le _, rfl, fun j _ h => by omega, Below.refl _ _⟩
    case round =>
      obtain ⟨i, hi, rfl, hq, hb⟩ := hrel
      have hw3 := (hb.cell (p := ⟨w.heap.size, 3, none⟩) (by show w.heap.size < w1.heap.size; omega)).trans hc3
      have hzr := hb.size
      have hbw : Below w.heap.size w wr := hb1.trans (hb.mono (by omega))
      by_cases hlt : i < l.length
      · obtain ⟨b, o, rfl, _, hr⟩ := (hl1.below hb).some (by omega)
        obtain ⟨k', n', s', m', a', cap', hT, c0, c1, c2, c3, hli⟩ := hr.part i hlt
        have hc := ih.out l[i] (List.getElem_mem hlt) S _ wr hli
        clear hT hli
        go_wp2_with (go_at_call 31; refine hc.mono ?_; rintro e w2 ⟨⟨bb, rfl, hsb⟩, hb2⟩)
        · go_ret
          exact ⟨Told.yes, hbw.trans (hb2.mono (by omega))⟩
        · go_roundw
          case rel =>
            refine ⟨i + 1, by omega, by go_num, Hid.mk fun j hj hji => ?_, hb.trans (hb2.mono hzr)⟩
            rcases Nat.lt_or_ge j i with h | h
            · exact hq.out j hj h
            · obtain rfl : j = i := by omega
              exact hsb (by assumption)
          case measure => simp [intOf]; omega
      · go_wp2
        go_ret
        obtain rfl : i = l.length := by omega
        exact ⟨Told.no (hsh.out.2 ⟨by omega, shorts_of fun j hj => hq.out j hj hj⟩), hbw⟩

set_option maxHeartbeats 400000 in
theorem largeTerm_any (T : Tm) (S : Nat → Prop) (v : Value) (m : Int) (w : World) (hv : Lies w S T v) (hm0 : 0 ≤ m) (hm1 : m ≤ 4611686018427387904) :
    Calls Tryd.prog 7 #[v, .int .i64 m] w fun e w' => Told (T.Short ∧ (T.size : Int) ≤ m) e ∧ Below w.heap.size w w' := by
  have hc := Hid.mk (parts_any T S v m)
  have hd := Hid.mk (long_any T S v)
  have hli := Hid.mk hv
  have hcnt : Hid (cnt T.size m ≤ m → (T.size : Int) ≤ m) := Hid.mk (by unfold cnt; omega)
  obtain ⟨k, n, s, l⟩ := T
  obtain ⟨a, cap, rfl, hs, hl⟩ := hv.out
  generalize cnt (Tm.mk k n s l).size m = q at hc hcnt
  clear hv hs hl
  go_enter Tryd.func7, Tryd.ntmps7
  go_wp2_with (first
    | (go_at_call 30; have hb1 := (Below.refl w.heap.size w).alloc (Nat.le_refl _) (.cells #[.int .i64 k, .int .i64 n, .string s, .slice a l.length cap] 24); refine (hc.out _ (hli.out.below hb1) (by omega) hm1).mono ?_; rintro e w2 ⟨rfl, hb2⟩; have hb3 := hb1.trans (hb2.mono (by simp)); have g0 : w2.cell? ⟨w.heap.size, 0, none⟩ = some (.int .i64 k) := boxed hb2 0; have g1 : w2.cell? ⟨w.heap.size, 1, none⟩ = some (.int .i64 n) := boxed hb2 1; have g2 : w2.cell? ⟨w.heap.size, 2, none⟩ = some (.string s) := boxed hb2 2; have g3 : w2.cell? ⟨w.heap.size, 3, none⟩ = some (.slice a l.length cap) := boxed hb2 3; clear hb1 hb2)
    | (go_at_call 31; refine (hd.out _ (hli.out.below hb3)).mono ?_; rintro e w3 ⟨⟨bb, rfl, hsb⟩, hb4⟩))
  · go_ret
    exact ⟨Told.of _ (fun h => by rw [Bool.or_eq_false_iff] at h; exact ⟨hsb h.2, hcnt.out (by assumption)⟩), hb3.trans (hb4.mono hb3.size)⟩
  · go_ret
    exact ⟨Told.yes, hb3⟩

set_option maxHeartbeats 400000 in
theorem largeAll_any (l : List Tm) (S : Nat → Prop) (a : Option Addr) (cap : Nat) (m : Int) (w : World) (hl : Lst w S l a cap) (hm0 : 0 ≤ m) (hm1 : m ≤ 1152921504606846976) :
    Calls Tryd.prog 19 #[.slice a l.length cap, .int .i64 m] w fun e w' => Told (Shorts l ∧ (sizes l : Int) ≤ m) e ∧ Below w.heap.size w w' := by
  have hlen : l.length ≤ 9223372036854775807 := Nat.le_trans hl.1 hl.2.1
  go_enter Tryd.func19, Tryd.ntmps19
  go_wp2
  go_loopw [5, 6] (fun nn ii wr => ∃ (i : Nat) (q : Int), i ≤ l.length ∧ ii = .int .i64 i ∧ nn = .int .i64 q ∧ 0 ≤ q ∧ q ≤ m ∧ Hid (q = sizes (l.take i)) ∧ Hid (∀ j (hj : j < l.length), j < i → l[j].Short) ∧ Below w.heap.size w wr) (fun _ ii _ => l.length - (intOf ii).toNat)
  case atStart => exact ⟨0, 0, Nat.zero_le _, rfl, rfl, by omega, hm0, Hid.mk (by simp [sizes]), Hid.mk (fun j _ h => by omega), Below.refl _ _⟩
  case round =>
    obtain ⟨i, q, hi, rfl, rfl, q0, q1, hq, hsh, hb⟩ := hrel
    have hzr := hb.size
    by_cases hlt : i < l.length
    · obtain ⟨b, o, rfl, _, hr⟩ := (hl.below hb).some (by omega)
      obtain ⟨k', n', s', m', a', cap', hT, c0, c1, c2, c3, hli⟩ := hr.part i hlt
      have hc := Hid.mk (parts_any l[i] S _ m wr hli)
      have hd := Hid.mk (fun w2 (hb2 : Below wr.heap.size wr w2) => long_any l[i] S _ w2 (hli.below hb2))
      have r0 := cnt_lo (m := m) (Tm.size_pos l[i])
      have r1 := cnt_hi (N := l[i].size) (m := m)
      have hst := Hid.mk (sizes_take l i hlt)
      have hrr : Hid (cnt l[i].size m ≤ m → cnt l[i].size m = l[i].size) := Hid.mk (by unfold cnt; omega)
      generalize cnt l[i].size m = r at hc r0 r1 hrr
      clear hT hli
      go_wp2_with (first
        | (go_at_call 30; refine (hc.out (by omega) (by omega)).mono ?_; rintro e w2 ⟨rfl, hb2⟩; have g0 := cell_below hb2 _ _ _ c0; have g1 := cell_below hb2 _ _ _ c1; have g2 := cell_below hb2 _ _ _ c2; have g3 := cell_below hb2 _ _ _ c3)
        | (go_at_call 31; refine (hd.out _ hb2).mono ?_; rintro e w3 ⟨⟨bb, rfl, hsb⟩, hb3⟩))
      · go_ret
        exact ⟨Told.yes, (hb.trans (hb2.mono hzr)).trans (hb3.mono (by have := hb2.size; omega))⟩
      · go_roundw
        case rel =>
          have hbf : bb = false := by simp_all
          refine ⟨i + 1, q + r, by omega, by go_num, rfl, by omega, by omega, Hid.mk ?_, Hid.mk fun j hj hji => ?_, (hb.trans (hb2.mono hzr)).trans (hb3.mono (by have := hb2.size; omega))⟩
          · rw [hst.out, hrr.out (by omega), hq.out]
            exact (Int.natCast_add _ _).symm
          · rcases Nat.lt_or_ge j i with h | h
            · exact hsh.out j hj h
            · obtain rfl : j = i := by omega
              exact hsb hbf
        case measure => simp [intOf]; omega
      · go_ret
        exact ⟨Told.yes, hb.trans (hb2.mono hzr)⟩
    · go_wp2
      go_ret
      obtain rfl : i = l.length := by omega
      refine ⟨Told.no ⟨shorts_of fun j hj => hsh.out j hj hj, ?_⟩, hb⟩
      have := hq.out
      rw [List.take_length] at this
      omega

end Go.Proofs.YtamafhcgjbkikaaDoor
