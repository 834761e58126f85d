/-
  Read: the term of words.
-/
import Derived.Test.YthkjdcmlalgphaaDoorZFlatSome
import Derived.Test.YthkjdcmlalgphaaDoorZAtomLn
import Derived.Test.YthkjdcmlalgphaaDoorZFlatFlat
namespace Go.Proofs.YthkjdcmlalgphaaDoor
open Go.RowKit Go.Deep

theorem goes_size {P : Int → Nat → Option (Tm × Nat)} (hP : ∀ w i t j, P w i = some (t, j) → t.size + i ≤ j + 1) : ∀ (a : List Int) (i : Nat) (ts : List Tm) (j : Nat), goes P a i = some (ts, j) → sizes ts + i ≤ j + a.length
  | [], i, ts, j, h => by
    simp only [goes, Option.some.injEq, Prod.mk.injEq] at h
    obtain ⟨rfl, rfl⟩ := h
    simp [sizes]
  | x :: r, i, ts, j, h => by
    rw [goes] at h
    cases hp : P x i with
    | none => rw [hp] at h; cases h
    | some y =>
      obtain ⟨t, i'⟩ := y
      rw [hp] at h
      simp only at h
      cases hg : goes P r i' with
      | none => rw [hg] at h; cases h
      | some z =>
        obtain ⟨ts', j'⟩ := z
        rw [hg] at h
        simp only [Option.some.injEq, Prod.mk.injEq] at h
        obtain ⟨rfl, rfl⟩ := h
        have h1 := hP _ _ _ _ hp
        have h2 := goes_size hP r i' ts' j' hg
        simp only [sizes, List.length_cons]
        omega
theorem oneR_size (F : List ByteArray) (xs : List Int) : ∀ (f : Nat) (w : Int) (i : Nat) (t : Tm) (j : Nat), oneR F xs f w i = some (t, j) → t.size + i ≤ j + 1 := by
  intro f
  induction f with
  | zero => intro w i t j h; cases h
  | succ f ih =>
    intro w i t j h
    rw [oneR] at h
    split at h
    · cases h
    · split at h
      · rw [Option.map_eq_some_iff] at h
        obtain ⟨t', ht, h⟩ := h
        simp only [Prod.mk.injEq] at h
        obtain ⟨rfl, rfl⟩ := h
        rw [plainR] at ht
        have : t'.size = 1 := by
          split at ht
          · split at ht
            · cases ht
            · cases ht; simp [Tm.size_mk, sizes]
          · split at ht
            · cases ht; simp [Tm.size_mk, sizes]
            · cases ht
        omega
      · split at h
        · cases h
        · split at h
          · cases h
          · rename_i hh n m hhead
            split at h
            · cases h
            · rename_i ps q hs
              simp only [Option.some.injEq, Prod.mk.injEq] at h
              obtain ⟨rfl, rfl⟩ := h
              rw [someR] at hs
              split at hs
              · cases hs
              · have h1 := goes_size ih _ _ _ _ hs
                rw [List.length_take, List.length_drop] at h1
                rw [Tm.size_mk]
                omega
theorem readR_size {F : List ByteArray} {xs : List Int} {t : Tm} (h : readR F xs = some t) : t.size ≤ xs.length + 1 := by
  rw [readR] at h
  split at h
  · rename_i t' j hs
    split at h
    · cases h
      rw [someR] at hs
      split at hs
      · cases hs
      · have h1 := goes_size (oneR_size F xs _) _ _ _ _ hs
        rw [List.length_take, List.length_drop] at h1
        simp only [sizes] at h1
        omega
    · cases h
  · cases h
theorem readR_of {F : List ByteArray} {xs : List Int} {ts : List Tm} {j : Nat} (h : someR (oneR F xs (xs.length + 1)) xs 1 0 = some (ts, j)) : ∃ t, ts = [t] ∧ readR F xs = if j = xs.length then some t else none := by
  have hl : ts.length = 1 := by
    have h' := h
    rw [someR] at h'
    split at h'
    · cases h'
    · rename_i hx
      rw [goes_length h', List.length_take, List.length_drop]
      omega
  obtain ⟨t, rfl⟩ := List.length_eq_one_iff.1 hl
  exact ⟨t, rfl, by rw [readR, h]⟩

/-- What has been read. -/
def ReadV (B : Nat) (w : World) (o : Option Tm) (tv : Value) (ok : Bool) : Prop := match o with
  | none => ok = false
  | some t => ok = true ∧ Lies w (fun b => B ≤ b) t tv

set_option maxHeartbeats 4000000 in
set_option maxRecDepth 100000 in
theorem read_any (p bm : Nat) (v : Value) (L : List ByteArray) (xs : List Int) (la : Option Addr) (lcap : Nat) (w : World) (h : Tab w p bm v L) (hx : Wrd w xs la lcap) (hW : WordTab w) (hfew : xs.length ≤ 100000) :
    Calls Tryd.prog 49 #[.pointer (some ⟨p, 0, none⟩), .slice la xs.length lcap] w fun e w' => ∃ (k' n' : Int) (s' : ByteArray) (a' : Option Addr) (m' c' : Nat) (ok : Bool), e = .returned (.tuple #[.agg #[.int .i64 k', .int .i64 n', .string s', .slice a' m' c'], .bool ok]) ∧ Below w.heap.size w w' ∧
      ReadV w.heap.size w' (readR L xs) (.agg #[.int .i64 k', .int .i64 n', .string s', .slice a' m' c']) ok := by
  obtain ⟨W4, hW4⟩ : ∃ W4, (((((w.alloc (.cells #[.pointer (some ⟨p, 0, none⟩)] 28)).alloc (.cells #[.slice la xs.length lcap] 33)).alloc (.cells #[.int .i64 0, .int .i64 0, .string ⟨#[]⟩, .slice none 0 0] 25)).alloc (.cells #[.int .i64 0] 3)).alloc
      (.cells #[.func (.func 69) #[] #[.pointer (some ⟨w.heap.size, 0, none⟩), .pointer (some ⟨w.heap.size + 1 + 1 + 1, 0, none⟩), .pointer (some ⟨w.heap.size + 1, 0, none⟩), .pointer (some ⟨w.heap.size + 1 + 1 + 1 + 1 + 1, 0, none⟩)]] 109)).alloc
      (.cells #[.func (.func 68) #[] #[.pointer (some ⟨w.heap.size + 1, 0, none⟩), .pointer (some ⟨w.heap.size + 1 + 1 + 1, 0, none⟩), .pointer (some ⟨w.heap.size + 1 + 1 + 1 + 1, 0, none⟩)]] 110) = W4 := ⟨_, rfl⟩
  have hb4 : Below w.heap.size w W4 := by rw [← hW4]; exact ((((((Below.refl _ _).alloc (Nat.le_refl _) _).alloc (by simp) _).alloc (by simp; omega) _).alloc (by simp; omega) _).alloc (by simp; omega) _).alloc (by simp; omega) _
  have hz4 : W4.heap.size = w.heap.size + 6 := by rw [← hW4]; simp
  have hab : W4.heap[w.heap.size]? = some (.cells #[.pointer (some ⟨p, 0, none⟩)] 28) := by
    rw [← hW4, Below.heap_alloc _ _ _ (by simp <;> omega), Below.heap_alloc _ _ _ (by simp <;> omega), Below.heap_alloc _ _ _ (by simp <;> omega), Below.heap_alloc _ _ _ (by simp <;> omega)]
    exact new_block1 _ _ _
  have hlb : W4.heap[w.heap.size + 1]? = some (.cells #[.slice la xs.length lcap] 33) := by
    rw [← hW4, Below.heap_alloc _ _ _ (by simp <;> omega), Below.heap_alloc _ _ _ (by simp <;> omega), Below.heap_alloc _ _ _ (by simp <;> omega), Below.heap_alloc _ _ _ (by simp <;> omega)]
    exact new_block2 _ _ _
  have hrb : W4.heap[w.heap.size + 1 + 1]? = some (.cells #[.int .i64 0, .int .i64 0, .string ⟨#[]⟩, .slice none 0 0] 25) := by
    rw [← hW4, Below.heap_alloc _ _ _ (by simp <;> omega), Below.heap_alloc _ _ _ (by simp <;> omega), Below.heap_alloc _ _ _ (by simp <;> omega)]
    simpa using new_block ((w.alloc (.cells #[.pointer (some ⟨p, 0, none⟩)] 28)).alloc (.cells #[.slice la xs.length lcap] 33)) (.cells #[.int .i64 0, .int .i64 0, .string ⟨#[]⟩, .slice none 0 0] 25)
  have hatb : W4.heap[w.heap.size + 1 + 1 + 1]? = some (.cells #[.int .i64 0] 3) := by
    rw [← hW4, Below.heap_alloc _ _ _ (by simp <;> omega), Below.heap_alloc _ _ _ (by simp <;> omega)]
    simpa using new_block (((w.alloc (.cells #[.pointer (some ⟨p, 0, none⟩)] 28)).alloc (.cells #[.slice la xs.length lcap] 33)).alloc (.cells #[.int .i64 0, .int .i64 0, .string ⟨#[]⟩, .slice none 0 0] 25)) (.cells #[.int .i64 0] 3)
  have hob : W4.heap[w.heap.size + 1 + 1 + 1 + 1]? = some (.cells #[.func (.func 69) #[] #[.pointer (some ⟨w.heap.size, 0, none⟩), .pointer (some ⟨w.heap.size + 1 + 1 + 1, 0, none⟩), .pointer (some ⟨w.heap.size + 1, 0, none⟩), .pointer (some ⟨w.heap.size + 1 + 1 + 1 + 1 + 1, 0, none⟩)]] 109) := by
    rw [← hW4, Below.heap_alloc _ _ _ (by simp <;> omega)]
    simpa using new_block ((((w.alloc (.cells #[.pointer (some ⟨p, 0, none⟩)] 28)).alloc (.cells #[.slice la xs.length lcap] 33)).alloc (.cells #[.int .i64 0, .int .i64 0, .string ⟨#[]⟩, .slice none 0 0] 25)).alloc (.cells #[.int .i64 0] 3)) (.cells #[.func (.func 69) #[] #[.pointer (some ⟨w.heap.size, 0, none⟩), .pointer (some ⟨w.heap.size + 1 + 1 + 1, 0, none⟩), .pointer (some ⟨w.heap.size + 1, 0, none⟩), .pointer (some ⟨w.heap.size + 1 + 1 + 1 + 1 + 1, 0, none⟩)]] 109)
  have hsb : W4.heap[w.heap.size + 1 + 1 + 1 + 1 + 1]? = some (.cells #[.func (.func 68) #[] #[.pointer (some ⟨w.heap.size + 1, 0, none⟩), .pointer (some ⟨w.heap.size + 1 + 1 + 1, 0, none⟩), .pointer (some ⟨w.heap.size + 1 + 1 + 1 + 1, 0, none⟩)]] 110) := by
    rw [← hW4]
    simpa using new_block (((((w.alloc (.cells #[.pointer (some ⟨p, 0, none⟩)] 28)).alloc (.cells #[.slice la xs.length lcap] 33)).alloc (.cells #[.int .i64 0, .int .i64 0, .string ⟨#[]⟩, .slice none 0 0] 25)).alloc (.cells #[.int .i64 0] 3)).alloc (.cells #[.func (.func 69) #[] #[.pointer (some ⟨w.heap.size, 0, none⟩), .pointer (some ⟨w.heap.size + 1 + 1 + 1, 0, none⟩), .pointer (some ⟨w.heap.size + 1, 0, none⟩), .pointer (some ⟨w.heap.size + 1 + 1 + 1 + 1 + 1, 0, none⟩)]] 109))
      (.cells #[.func (.func 68) #[] #[.pointer (some ⟨w.heap.size + 1, 0, none⟩), .pointer (some ⟨w.heap.size + 1 + 1 + 1, 0, none⟩), .pointer (some ⟨w.heap.size + 1 + 1 + 1 + 1, 0, none⟩)]] 110)
  have hMlt : ∀ k, Mine p bm v k → k < w.heap.size := fun k hk => h.lt hk
  have hC : RdCtx W4 p bm v L xs la lcap w.heap.size (w.heap.size + 1 + 1 + 1) (w.heap.size + 1) (w.heap.size + 1 + 1 + 1 + 1) (w.heap.size + 1 + 1 + 1 + 1 + 1) := {
    tab := h.up hb4
    words := hW.below hb4
    wrd := ⟨hx.len, hx.rng, fun h0 => by
      obtain ⟨b, o, e, hc⟩ := hx.cells h0
      exact ⟨b, o, e, fun j hj => cell_below hb4 _ _ _ (hc j hj)⟩⟩
    cab := by simp [World.cell?, hab]
    clb := by simp [World.cell?, hlb]
    cob := by simp [World.cell?, hob]
    csb := by simp [World.cell?, hsb]
    ne := ⟨by omega, by omega, by omega, by omega, by have := hW.size; omega, fun hk => by have := hMlt _ hk; omega⟩
    nw := fun b o h0 e => by
      obtain ⟨b', o', e', hc⟩ := hx.cells h0
      rw [e] at e'
      cases e'
      have := World.block_lt_of_cell? w _ (hc 0 h0)
      simp only at this
      omega
    lt := by omega
    few := hfew }
  have hRW : RdW W4 W4 (w.heap.size + 1 + 1 + 1) 0 := ⟨Only.refl _ _, hatb⟩
  have hs := some_of hC (xs.length + 1) (one_any hC (xs.length + 1)) W4 0 1 hRW (Nat.zero_le _) (by decide) (Or.inr (by omega))
  have HS := Hid.mk hs
  have HB4 := Hid.mk hb4
  have HZ4 := Hid.mk hz4
  have HRB := Hid.mk hrb
  have HLB := Hid.mk hlb
  have csb := hC.csb
  have HAT := Hid.mk hatb
  have HFW := Hid.mk hfew
  clear hs hb4 hz4 hrb hlb hatb hab hob hsb hC hRW hMlt h hx hW hfew
  cases hsr : someR (oneR L xs (xs.length + 1)) xs 1 0 with
  | none =>
    have hs := HS.out
    rw [hsr] at hs
    have HS := Hid.mk hs
    have e1 : readR L xs = none := by rw [readR, hsr]
    rw [e1]
    clear hs hsr e1
    go_enter Tryd.func49, Tryd.ntmps49
    go_upto_region 5 with fail
    try rw [hW4]
    clear hW4
    go_wp2_with (go_at_call 68; refine HS.out.mono ?_; rintro e w6 ⟨a6, m6, c6, ok6, rfl, ho6, hv6⟩; obtain rfl : ok6 = false := hv6; have hr6 := ho6.box HRB.out (by omega); obtain ⟨⟨q0, q1, q2, q3⟩, r0, r1, r2, r3⟩ := kept4 hr6 (Below.refl _ _); have HO6 := Hid.mk ho6; clear ho6 hr6)
    refine ret2_stored rfl rfl rfl rfl q0 q1 q2 q3 ⟨_, _, _, _, _, _, _, rfl, Below.set4 (HB4.out.trans (HO6.out.below (fun k hk => by omega) (by have := HZ4.out; omega))) (by omega), rfl⟩
  | some tj =>
    obtain ⟨ts, j⟩ := tj
    obtain ⟨t, rfl, hrd⟩ := readR_of hsr
    have hs := HS.out
    rw [hsr] at hs
    have HS := Hid.mk hs
    by_cases hj : j = xs.length
    · rw [if_pos hj] at hrd
      rw [hrd]
      have hjl : decide ((j : Int) < xs.length) = false := by rw [decide_eq_false_iff_not]; omega
      have hjk : decide (j < xs.length) = false := by rw [decide_eq_false_iff_not]; omega
      have hjm : ¬ j < xs.length := by omega
      clear hs hsr hrd hj
      go_enter Tryd.func49, Tryd.ntmps49
      go_upto_region 5 with fail
      try rw [hW4]
      clear hW4
      go_wp2_with (
                      go_at_call 68
                      refine HS.out.mono ?_
                      rintro e w6 ⟨a6, m6, c6, ok6, rfl, ho6, hv6⟩
                      obtain ⟨rfl, hj6, hb6, rfl, hl6⟩ := hv6
                      have hr6 := ho6.box HRB.out (by omega)
                      obtain ⟨⟨q0, q1, q2, q3⟩, r0, r1, r2, r3⟩ := kept4 hr6 (Below.refl _ _)
                      have cat6 : w6.cell? ⟨w.heap.size + 1 + 1 + 1, 0, none⟩ = some (.int .i64 j) := (by simp [World.cell?, hb6])
                      have clb6 := ho6.box HLB.out (by omega)
                      have clb7 : w6.cell? ⟨w.heap.size + 1, 0, none⟩ = some (.slice la xs.length lcap) := (by simp [World.cell?, clb6])
                      obtain ⟨b, o, rfl, hSb, hrow⟩ := hl6.some (by simp)
                      obtain ⟨k', n', s', m', a', cap', hTt, c0, c1, c2, c3, hli⟩ := hrow.part 0 (by simp)
                      have c0 : w6.cell? ⟨b, o, none⟩ = some (.int .i64 k') := (by simpa using c0)
                      have c1 : w6.cell? ⟨b, o + 1, none⟩ = some (.int .i64 n') := (by simpa using c1)
                      have c2 : w6.cell? ⟨b, o + 2, none⟩ = some (.string s') := (by simpa using c2)
                      have c3 : w6.cell? ⟨b, o + 3, none⟩ = some (.slice a' m'.length cap') := (by simpa using c3)
                      have HO6 := Hid.mk ho6
                      have hl7 : Lies w6 (fun b => W4.heap.size ≤ b) t (.agg #[.int .i64 k', .int .i64 n', .string s', .slice a' m'.length cap']) := hli
                      have HL7 := Hid.mk hl7
                      clear ho6 hr6 hl6 hb6 clb6 hrow hli hl7 hTt)
      refine ret2_stored rfl rfl rfl rfl q0 q1 q2 q3 ⟨_, _, _, _, _, _, _, rfl, Below.set4 (HB4.out.trans (HO6.out.below (fun k hk => by omega) (by have := HZ4.out; omega))) (by omega), ?_⟩
      have hz := HZ4.out
      refine ⟨rfl, ?_⟩
      exact HL7.out.move (fun b hb => by omega) (fun b o u hb hc => by
        rw [World.cell?_of_block (w := w6) (a := ⟨b, o, none⟩) (set4_heap _ _ _ _ _ _ _ (by show b ≠ w.heap.size + 1 + 1; omega))]
        exact hc) _ _
    · rw [if_neg hj] at hrd
      rw [hrd]
      clear hs hsr hrd
      go_enter Tryd.func49, Tryd.ntmps49
      go_upto_region 5 with fail
      try rw [hW4]
      clear hW4
      go_wp2_with (
                      go_at_call 68
                      refine HS.out.mono ?_
                      rintro e w6 ⟨a6, m6, c6, ok6, rfl, ho6, hv6⟩
                      obtain ⟨rfl, hj6, hb6, rfl, hl6⟩ := hv6
                      have hr6 := ho6.box HRB.out (by omega)
                      obtain ⟨⟨q0, q1, q2, q3⟩, r0, r1, r2, r3⟩ := kept4 hr6 (Below.refl _ _)
                      have hjl : decide ((j : Int) < xs.length) = true := (by rw [decide_eq_true_eq]; omega)
                      have hjk : decide (j < xs.length) = true := (by rw [decide_eq_true_eq]; omega)
                      have cat6 : w6.cell? ⟨w.heap.size + 1 + 1 + 1, 0, none⟩ = some (.int .i64 j) := (by simp [World.cell?, hb6])
                      have clb6 := ho6.box HLB.out (by omega)
                      have clb7 : w6.cell? ⟨w.heap.size + 1, 0, none⟩ = some (.slice la xs.length lcap) := (by simp [World.cell?, clb6])
                      have HO6 := Hid.mk ho6
                      clear ho6 hr6 hl6 hb6 clb6)
      exact ret2_stored rfl rfl rfl rfl q0 q1 q2 q3 ⟨_, _, _, _, _, _, _, rfl, Below.set4 (HB4.out.trans (HO6.out.below (fun k hk => by omega) (by have := HZ4.out; omega))) (by omega), rfl⟩
end Go.Proofs.YthkjdcmlalgphaaDoor

/-
  Read and Part of package flat.
-/
namespace Go.Proofs.YthkjdcmlalgphaaDoor
open Go.RowKit Go.Deep

def zeroTm : Tm := .mk 0 0 ⟨#[]⟩ []
/-- The term that Read answers; how it went. -/
def readT (L : List ByteArray) (xs : List Int) : Tm := (readR L xs).getD zeroTm
def readE (L : List ByteArray) (xs : List Int) : Int := if (readR L xs).isSome = true then 0 else 4
theorem zero_lies (w : World) (S : Nat → Prop) : Lies w S zeroTm (.agg #[.int .i64 0, .int .i64 0, .string ⟨#[]⟩, .slice none 0 0]) := Lies.mk (l := []) ⟨by decide, by decide, by decide, by decide, by decide⟩ (lst_nil _ _)

set_option maxHeartbeats 4000000 in
set_option maxRecDepth 100000 in
theorem readF_any (p bm : Nat) (v : Value) (L : List ByteArray) (xs : List Int) (la : Option Addr) (lcap : Nat) (w : World) (h : Tab w p bm v L) (hx : Wrd w xs la lcap) (hW : WordTab w) (hfew : xs.length ≤ 60000) :
    Calls Tryd.prog 19 #[.pointer (some ⟨p, 0, none⟩), .slice la xs.length lcap] w fun e w' => ∃ (k' n' : Int) (s' : ByteArray) (a' : Option Addr) (m' c' : Nat), e = .returned (.tuple #[.agg #[.int .i64 k', .int .i64 n', .string s', .slice a' m' c'], .int .i64 (readE L xs)]) ∧
      Lies w' (fun b => w.heap.size ≤ b) (readT L xs) (.agg #[.int .i64 k', .int .i64 n', .string s', .slice a' m' c']) ∧ Below w.heap.size w w' := by
  obtain ⟨W0, hW0⟩ : ∃ W0, w.alloc (.cells #[.int .i64 0, .int .i64 0, .string ⟨#[]⟩, .slice none 0 0] 25) = W0 := ⟨_, rfl⟩
  have hb0 : Below w.heap.size w W0 := by rw [← hW0]; exact (Below.refl _ _).alloc (Nat.le_refl _) _
  have hz0 : W0.heap.size = w.heap.size + 1 := by rw [← hW0]; simp
  have hbx : W0.heap[w.heap.size]? = some (.cells #[.int .i64 0, .int .i64 0, .string ⟨#[]⟩, .slice none 0 0] 25) := by rw [← hW0]; exact new_block _ _
  have hmade := Hid.mk (madeF_yes p bm v L W0 (h.up hb0))
  have hread := Hid.mk (fun w1 (hb : Below W0.heap.size W0 w1) => read_any p bm v L xs la lcap w1 ((h.up hb0).up hb) ⟨hx.len, hx.rng, fun h0 => by
    obtain ⟨b, o, e, hc⟩ := hx.cells h0
    exact ⟨b, o, e, fun j hj => cell_below hb _ _ _ (cell_below hb0 _ _ _ (hc j hj))⟩⟩ ((hW.below hb0).below hb) (by omega))
  have HB0 := Hid.mk hb0
  have HBX := Hid.mk hbx
  have HZ0 := Hid.mk hz0
  have hd : decide ((65536 : Int) < xs.length) = false := by rw [decide_eq_false_iff_not]; omega
  have hd2 : decide (65536 < xs.length) = false := by rw [decide_eq_false_iff_not]; omega
  clear hb0 hbx hz0 h hx hW hfew
  cases hr : readR L xs with
  | none =>
    have e1 : readE L xs = 4 := by rw [readE, hr]; rfl
    have e2 : readT L xs = zeroTm := by rw [readT, hr]; rfl
    rw [e1, e2]
    have hrd := hread.out
    rw [hr] at hrd
    have HRD := Hid.mk hrd
    clear hrd hread hr e1 e2
    go_enter Tryd.func19, Tryd.ntmps19
    go_upto_region 1 with fail
    try rw [hW0]
    clear hW0
    go_wp2_with (first
      | (go_at_call 38; refine hmade.out.mono ?_; rintro e w1 ⟨rfl, hb1⟩; have hu1 : Up W0 w1 := hb1)
      | (go_at_call 49; refine (HRD.out _ hu1.out).mono ?_; rintro e w2 ⟨k5, n5, s5, a5, m5, c5, ok5, rfl, hb2, hv2⟩
         obtain rfl : ok5 = false := hv2
         obtain ⟨W3, hW3⟩ : ∃ W3, w2.alloc (.cells #[.int .i64 k5, .int .i64 n5, .string s5, .slice a5 m5 c5] 25) = W3 := ⟨_, rfl⟩
         have hu3 : Up W0 W3 := (by rw [← hW3]; exact (hu1.call hb2).alloc)
         obtain ⟨⟨q0, q1, q2, q3⟩, r0, r1, r2, r3⟩ := kept4 HBX.out hu3.out
         have HL := Hid.mk hu3
         clear hb2))
    exact ret2_stored rfl rfl rfl rfl q0 q1 q2 q3 ⟨_, _, _, _, _, _, rfl, zero_lies _ _, Below.set4 (HB0.out.trans (HL.out.out.mono HB0.out.size)) (Nat.le_refl _)⟩
  | some t =>
    have e1 : readE L xs = 0 := by rw [readE, hr]; rfl
    have e2 : readT L xs = t := by rw [readT, hr]; rfl
    rw [e1, e2]
    have hrd := hread.out
    rw [hr] at hrd
    have HRD := Hid.mk hrd
    clear hrd hread hr e1 e2
    go_enter Tryd.func19, Tryd.ntmps19
    go_upto_region 1 with fail
    try rw [hW0]
    clear hW0
    go_wp2_with (first
      | (go_at_call 38; refine hmade.out.mono ?_; rintro e w1 ⟨rfl, hb1⟩; have hu1 : Up W0 w1 := hb1)
      | (go_at_call 49; refine (HRD.out _ hu1.out).mono ?_; rintro e w2 ⟨k5, n5, s5, a5, m5, c5, ok5, rfl, hb2, hv2⟩
         obtain ⟨rfl, hl2⟩ := hv2
         obtain ⟨W3, hW3⟩ : ∃ W3, w2.alloc (.cells #[.int .i64 k5, .int .i64 n5, .string s5, .slice a5 m5 c5] 25) = W3 := ⟨_, rfl⟩
         have hb3 : Below w2.heap.size w2 W3 := (by rw [← hW3]; exact (Below.refl _ _).alloc (Nat.le_refl _) _)
         have hx3 : W3.heap[w2.heap.size]? = some (.cells #[.int .i64 k5, .int .i64 n5, .string s5, .slice a5 m5 c5] 25) := (by rw [← hW3]; exact new_block _ _)
         obtain ⟨⟨p0, p1, p2, p3⟩, _⟩ := kept4 hx3 (Below.refl _ _)
         have hu3 : Up W0 W3 := (hu1.call hb2).call hb3
         obtain ⟨⟨q0, q1, q2, q3⟩, r0, r1, r2, r3⟩ := kept4 HBX.out hu3.out
         have HL := Hid.mk hu3
         have HV := Hid.mk (hl2.below hb3)
         clear hb2 hb3 hl2 hx3))
    refine ret2_stored rfl rfl rfl rfl q0 q1 q2 q3 ⟨_, _, _, _, _, _, rfl, ?_, Below.set4 (HB0.out.trans (HL.out.out.mono HB0.out.size)) (Nat.le_refl _)⟩
    have hz := hu1.out.size
    have hz0 := HZ0.out
    exact HV.out.move (fun b hb => by omega) (fun b o u hb hc => by
      rw [World.cell?_of_block (w := W3) (a := ⟨b, o, none⟩) (set4_heap _ _ _ _ _ _ _ (by show b ≠ w.heap.size; omega))]
      exact hc) _ _

/-- The element that Part writes; how it goes; the words; the table. -/
def partT (L : List ByteArray) (xs : List Int) (n : Int) : Option Tm := match readR L xs with
  | none => none
  | some (.mk k _ _ l) => if k = 7 ∧ 1 ≤ n ∧ n ≤ l.length then l[(n - 1).toNat]? else none
def partE (L : List ByteArray) (xs : List Int) (n : Int) : Int := match partT L xs n with
  | none => if (readR L xs).isSome = true then 2 else 4
  | some t => flatE t L
def partW (L : List ByteArray) (xs : List Int) (n : Int) : List Int := match partT L xs n with
  | none => []
  | some t => flatW t L
def partL (L : List ByteArray) (xs : List Int) (n : Int) : List ByteArray := match partT L xs n with
  | none => L
  | some t => flatL t L
/-- What is left behind: words, and a table. -/
structure FlatG (w : World) (p bm : Nat) (v : Value) (L' : List ByteArray) (ws : List Int) (rv v' : Value) (w' : World) : Prop where
  row : Wds w' rv ws
  own : ∀ g, rv.ownBlock = some g → (Mine p bm v g ∨ w.heap.size ≤ g) ∧ ¬ Mine p bm v' g
  tab : Tab w' p bm v' L'
  only : Only (Mine p bm v) w w'
  mine : ∀ k, Mine p bm v' k → Mine p bm v k ∨ w.heap.size ≤ k
theorem FlatR.g {w w' : World} {p bm : Nat} {v : Value} {T : Tm} {L : List ByteArray} {rv v' : Value} (h : FlatR w p bm v T L rv v' w') : FlatG w p bm v (flatL T L) (flatW T L) rv v' w' := ⟨h.row, h.own, h.tab, h.only, h.mine⟩
theorem FlatG.none {w w' : World} {p bm : Nat} {v : Value} {L : List ByteArray} (hT : Tab w p bm v L) (hb : Below w.heap.size w w') : FlatG w p bm v L [] (.slice none 0 0) v w' :=
  ⟨World.ownsRow_nil _ _ _ _, fun g hg => (by cases hg), hT.up hb, Only.up hb, fun k hk => Or.inl hk⟩
theorem FlatG.from {w w1 w' : World} {p bm : Nat} {v : Value} {L' : List ByteArray} {ws : List Int} {rv v' : Value} (hb : Below w.heap.size w w1) (h : FlatG w1 p bm v L' ws rv v' w') : FlatG w p bm v L' ws rv v' w' :=
  ⟨h.row, fun g hg => ⟨(h.own g hg).1.imp id (fun e => Nat.le_trans hb.size e), (h.own g hg).2⟩, h.tab, (Only.up hb).trans h.only (fun _ hi => Or.inl hi), fun k hk => (h.mine k hk).imp id (fun e => Nat.le_trans hb.size e)⟩
theorem size_mem {l : List Tm} {t : Tm} (h : t ∈ l) : t.size ≤ sizes l := by
  obtain ⟨i, hi, rfl⟩ := List.getElem_of_mem h
  exact sizes_at l i hi

set_option maxHeartbeats 4000000 in
set_option maxRecDepth 100000 in
theorem partF_any (p bm : Nat) (v : Value) (L : List ByteArray) (xs : List Int) (la : Option Addr) (lcap : Nat) (n : Int) (w : World) (h : Tab w p bm v L) (hx : Wrd w xs la lcap) (hW : WordTab w) (hH : ShapeTab w) (nW : ¬ Mine p bm v 1) (hfew : xs.length ≤ 60000)
    (hn0 : -9223372036854775808 ≤ n) (hn1 : n ≤ 9223372036854775807) :
    Calls Tryd.prog 21 #[.pointer (some ⟨p, 0, none⟩), .slice la xs.length lcap, .int .i64 n] w fun e w' => ∃ rv v', e = .returned (.tuple #[rv, .int .i64 (partE L xs n)]) ∧ FlatG w p bm v (partL L xs n) (partW L xs n) rv v' w' := by
  have hread := readF_any p bm v L xs la lcap w h hx hW hfew
  have HT := Hid.mk h
  have hWH := Hid.mk (show WordTab w ∧ ShapeTab w ∧ ¬ Mine p bm v 1 from ⟨hW, hH, nW⟩)
  have HN := Hid.mk (show -9223372036854775808 ≤ n ∧ n ≤ 9223372036854775807 from ⟨hn0, hn1⟩)
  have HFW := Hid.mk hfew
  clear h hx hW hH nW hfew hn0 hn1
  cases hr : readR L xs with
  | none =>
    have e0 : partT L xs n = none := by rw [partT, hr]
    have e1 : partE L xs n = 4 := by rw [partE, e0, hr]; rfl
    have e2 : partL L xs n = L := by rw [partL, e0]
    have e3 : partW L xs n = [] := by rw [partW, e0]
    rw [e1, e2, e3]
    rw [show readE L xs = 4 by rw [readE, hr]; rfl, show readT L xs = zeroTm by rw [readT, hr]; rfl] at hread
    have HRD := Hid.mk hread
    clear hread hr e0 e1 e2 e3
    go_enter Tryd.func21, Tryd.ntmps21
    go_wp2_with (go_at_call 19; refine HRD.out.mono ?_; rintro e w2 ⟨k5, n5, s5, a5, m5, c5, rfl, hv2, hb2⟩; have HB2 := Hid.mk hb2; clear hb2 hv2)
    go_ret2
    exact ⟨.slice none 0 0, v, rfl, FlatG.none HT.out (HB2.out.alloc HB2.out.size _)⟩
  | some T =>
    obtain ⟨k, nn, s, l⟩ := T
    have hsize := readR_size hr
    rw [Tm.size_mk] at hsize
    have hll := length_sizes l
    rw [show readE L xs = 0 by rw [readE, hr]; rfl, show readT L xs = .mk k nn s l by rw [readT, hr]; rfl] at hread
    have HRD := Hid.mk hread
    clear hread
    by_cases hc : k = 7 ∧ 1 ≤ n ∧ n ≤ l.length
    · obtain ⟨rfl, hn1, hn2⟩ := hc
      have hlt : (n - 1).toNat < l.length := by omega
      have e0 : partT L xs n = some l[(n - 1).toNat] := by rw [partT, hr]; exact (if_pos ⟨rfl, hn1, hn2⟩).trans (List.getElem?_eq_getElem hlt)
      have e1 : partE L xs n = flatE l[(n - 1).toNat] L := by rw [partE, e0]
      have e2 : partL L xs n = flatL l[(n - 1).toNat] L := by rw [partL, e0]
      have e3 : partW L xs n = flatW l[(n - 1).toNat] L := by rw [partW, e0]
      rw [e1, e2, e3]
      have hts : l[(n - 1).toNat].size ≤ 400000 := by
        have := size_mem (List.getElem_mem hlt)
        have := HFW.out
        omega
      have d1 : decide (n < 1) = false := by rw [decide_eq_false_iff_not]; omega
      have d2 : decide ((l.length : Int) < n) = false := by rw [decide_eq_false_iff_not]; omega
      have d4 : ¬ n < 1 := by omega
      have d5 : ¬ (l.length : Int) < n := by omega
      have hwn : IntKind.i64.wrap (n - 1) = (((n - 1).toNat : Nat) : Int) := by have := HN.out; rw [wrap_id (by omega) (by omega)]; omega
      clear e0 e1 e2 e3
      generalize hj : (n - 1).toNat = j at *
      have HTS := Hid.mk hts
      have HLT := Hid.mk hlt
      have hd3 : decide ((j : Int) < l.length) = true := by rw [decide_eq_true_eq]; omega
      clear hr hsize hll hts hj
      go_enter Tryd.func21, Tryd.ntmps21
      go_wp2_with (first
        | (go_at_call 19; refine HRD.out.mono ?_; rintro e w2 ⟨k5, n5, s5, a5, m5, c5, rfl, hv2, hb2⟩
           obtain ⟨a6, c6, hv, hsm, hl2⟩ := hv2.out
           simp only [Value.agg.injEq, Array.mk.injEq, List.cons.injEq, Value.int.injEq, Value.string.injEq, Value.slice.injEq, true_and, and_true] at hv
           obtain ⟨rfl, rfl, rfl, rfl, rfl, rfl⟩ := hv
           obtain ⟨W3, hW3⟩ : ∃ W3, w2.alloc (.cells #[.int .i64 7, .int .i64 n5, .string s5, .slice a5 l.length c5] 25) = W3 := ⟨_, rfl⟩
           have hb3 : Below w2.heap.size w2 W3 := (by rw [← hW3]; exact (Below.refl _ _).alloc (Nat.le_refl _) _)
           have hx3 : W3.heap[w2.heap.size]? = some (.cells #[.int .i64 7, .int .i64 n5, .string s5, .slice a5 l.length c5] 25) := (by rw [← hW3]; exact new_block _ _)
           obtain ⟨⟨p0, p1, p2, p3⟩, _⟩ := kept4 hx3 (Below.refl _ _)
           have hbb : Below w.heap.size w W3 := hb2.trans (hb3.mono hb2.size)
           obtain ⟨b, o, rfl, hSb, hrow⟩ := (hl2.below hb3).some (by have := HLT.out; omega)
           obtain ⟨k', n', s', m', a', cap', hTt, c0, c1, c2, c3, hli⟩ := hrow.part j HLT.out
           have HLI := Hid.mk hli
           have HBB := Hid.mk hbb
           clear hb2 hb3 hx3 hv2 hl2 hrow hli hTt hbb)
        | (go_at_call 12; refine (flatten_any _ _ _ _ p bm v L (HT.out.up HBB.out) HLI.out (fun b hb hk => by have := HT.out.lt hk; omega) HTS.out (hWH.out.1.below HBB.out) (hWH.out.2.1.below HBB.out) hWH.out.2.2).mono ?_; rintro e w4 ⟨rv, v4, rfl, h4⟩; have H4 := Hid.mk h4; clear h4))
      go_ret2
      exact ⟨rv, v4, rfl, FlatG.from HBB.out H4.out.g⟩
    · have e0 : partT L xs n = none := by rw [partT, hr]; exact if_neg hc
      have e1 : partE L xs n = 2 := by rw [partE, e0, hr]; rfl
      have e2 : partL L xs n = L := by rw [partL, e0]
      have e3 : partW L xs n = [] := by rw [partW, e0]
      rw [e1, e2, e3]
      clear e0 e1 e2 e3 hr hsize hll
      have hcases : k ≠ 7 ∨ (k = 7 ∧ n < 1) ∨ (k = 7 ∧ 1 ≤ n ∧ (l.length : Int) < n) := by omega
      clear hc
      rcases hcases with h7 | ⟨rfl, h1⟩ | ⟨rfl, h1, h2⟩
      · have d7 : (k == 7) = false := by simpa using h7
        have e7 : (k != 7) = true := by simpa using h7
        have f7 : ¬ k = 7 := h7
        clear h7
        go_enter Tryd.func21, Tryd.ntmps21
        go_wp2_with (go_at_call 19; refine HRD.out.mono ?_; rintro e w2 ⟨k5, n5, s5, a5, m5, c5, rfl, hv2, hb2⟩; obtain ⟨a6, c6, hv, hsm, hl2⟩ := hv2.out; simp only [Value.agg.injEq, Array.mk.injEq, List.cons.injEq, Value.int.injEq, Value.string.injEq, Value.slice.injEq, true_and, and_true] at hv; obtain ⟨rfl, rfl, rfl, rfl, rfl, rfl⟩ := hv; have HB2 := Hid.mk hb2; clear hb2 hv2 hl2 hsm)
        go_ret2
        exact ⟨.slice none 0 0, v, rfl, FlatG.none HT.out (HB2.out.alloc HB2.out.size _)⟩
      · have d1 : decide (n < 1) = true := by rw [decide_eq_true_eq]; omega
        clear h1
        go_enter Tryd.func21, Tryd.ntmps21
        go_wp2_with (go_at_call 19; refine HRD.out.mono ?_; rintro e w2 ⟨k5, n5, s5, a5, m5, c5, rfl, hv2, hb2⟩; obtain ⟨a6, c6, hv, hsm, hl2⟩ := hv2.out; simp only [Value.agg.injEq, Array.mk.injEq, List.cons.injEq, Value.int.injEq, Value.string.injEq, Value.slice.injEq, true_and, and_true] at hv; obtain ⟨rfl, rfl, rfl, rfl, rfl, rfl⟩ := hv; have HB2 := Hid.mk hb2; clear hb2 hv2 hl2 hsm)
        go_ret2
        exact ⟨.slice none 0 0, v, rfl, FlatG.none HT.out (HB2.out.alloc HB2.out.size _)⟩
      · have d1 : decide (n < 1) = false := by rw [decide_eq_false_iff_not]; omega
        have d2 : decide ((l.length : Int) < n) = true := by rw [decide_eq_true_eq]; omega
        have d3 : ¬ n < 1 := by omega
        go_enter Tryd.func21, Tryd.ntmps21
        go_wp2_with (go_at_call 19; refine HRD.out.mono ?_; rintro e w2 ⟨k5, n5, s5, a5, m5, c5, rfl, hv2, hb2⟩; obtain ⟨a6, c6, hv, hsm, hl2⟩ := hv2.out; simp only [Value.agg.injEq, Array.mk.injEq, List.cons.injEq, Value.int.injEq, Value.string.injEq, Value.slice.injEq, true_and, and_true] at hv; obtain ⟨rfl, rfl, rfl, rfl, rfl, rfl⟩ := hv; have HB2 := Hid.mk hb2; clear hb2 hv2 hl2 hsm)
        go_ret2
        exact ⟨.slice none 0 0, v, rfl, FlatG.none HT.out (HB2.out.alloc HB2.out.size _)⟩
end Go.Proofs.YthkjdcmlalgphaaDoor
