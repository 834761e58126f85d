/-
  The program's small functions on bytes, and which atoms it takes for plain.
-/
import Derived.Test.YtnbekfpkmebmbaaGreatDoorZTextDec
import Derived.Test.YtnbekfpkmebmbaaGreatDoorZOrdPlain
import Derived.Test.YtnbekfpkmebmbaaGreatDoorZTermMore
namespace Go.Proofs.YtnbekfpkmebmbaaGreatDoor
open Go.RowKit Go.Deep

theorem lower_any (c : UInt8) (w : World) : Calls Tryz.prog 46 #[.int .u8 c.toNat] w fun e w' => e = .returned (.bool (isLow c)) ∧ w = w' := by
  go_enter Tryz.func46, Tryz.ntmps46
  go_wp2
  all_goals go_ret
  all_goals exact ⟨ret_bool (by unfold isLow; rw [Bool.eq_iff_iff]; simp only [decide_eq_true_eq, Bool.false_eq_true, false_iff]; omega), rfl⟩
theorem digit_any (c : UInt8) (w : World) : Calls Tryz.prog 95 #[.int .u8 c.toNat] w fun e w' => e = .returned (.bool (isDig c)) ∧ w = w' := by
  go_enter Tryz.func95, Tryz.ntmps95
  go_wp2
  all_goals go_ret
  all_goals exact ⟨ret_bool (by unfold isDig; rw [Bool.eq_iff_iff]; simp only [decide_eq_true_eq, Bool.false_eq_true, false_iff]; omega), rfl⟩
theorem shown_any (c : UInt8) (w : World) : Calls Tryz.prog 91 #[.int .u8 c.toNat] w fun e w' => e = .returned (.bool (!needs c.toNat)) ∧ w = w' := by
  go_enter Tryz.func91, Tryz.ntmps91
  go_wp2
  all_goals go_ret
  all_goals exact ⟨ret_bool (by unfold needs; rw [Bool.eq_iff_iff]; simp only [decide_eq_true_eq, Bool.false_eq_true, false_iff, Bool.not_eq_true', decide_eq_false_iff_not]; omega), rfl⟩
set_option maxHeartbeats 1000000 in
theorem letter_any (c : UInt8) (w : World) : Calls Tryz.prog 72 #[.int .u8 c.toNat] w fun e w' => e = .returned (.bool (isWd c)) ∧ w = w' := by
  have hw := Hid.mk (wd_is c)
  cases hl : isLow c <;> cases hd : isDig c
  all_goals
    go_enter Tryz.func72, Tryz.ntmps72
    go_wp2_with (first
      | (go_at_call 46; refine (lower_any c _).mono ?_; rintro e w1 ⟨rfl, rfl⟩)
      | (go_at_call 95; refine (digit_any c _).mono ?_; rintro e w1 ⟨rfl, rfl⟩))
  all_goals go_ret
  all_goals exact ⟨ret_bool (by rw [hw.out, hl, hd]; unfold isUp; rw [Bool.eq_iff_iff]; simp only [decide_eq_true_eq, true_iff, Bool.or_eq_true, Bool.true_or, Bool.or_true, Bool.false_or, Bool.or_false, beq_iff_eq] <;> omega), rfl⟩
set_option maxHeartbeats 2000000 in
theorem reserved_any (s : List UInt8) (w : World) : Calls Tryz.prog 93 #[.string (tx s)] w fun e w' => e = .returned (.bool (wordsT.contains s)) ∧ w = w' := by
  have he : ∀ x : List UInt8, ((tx s).toList == x) = (s == x) := fun x => by rw [tx_toList]
  have hc : Hid (wordsT.contains s = wordsT.any (fun x => s == x)) := Hid.mk (by rw [List.contains_eq_any_beq])
  go_enter Tryz.func93, Tryz.ntmps93
  go_wp2
  all_goals go_ret
  all_goals exact ⟨ret_bool (by rw [hc.out]; simp_all [wordsT]), rfl⟩

set_option maxHeartbeats 2000000 in
theorem plainP_any (s : List UInt8) (hs : s.length ≤ 1000000000) (w : World) : Calls Tryz.prog 67 #[.string (tx s)] w fun e w' => e = .returned (.bool (plainT s)) ∧ w = w' := by
  by_cases h0 : s = []
  · subst h0
    have he : tx [] = ⟨#[]⟩ := rfl
    rw [he]
    go_enter Tryz.func67, Tryz.ntmps67
    go_wp2
    go_ret
    exact ⟨rfl, rfl⟩
  · have hpos : 0 < s.length := List.length_pos_iff.2 h0
    have hsz := tx_size s
    have hpl := Hid.mk (plain_is s hpos)
    have hget := Hid.mk (tx_get s)
    have h1 : ((s.length : Int) == 0) = false := by rw [beq_eq_false_iff_ne]; omega
    by_cases h64 : 64 < s.length
    · have h64' : decide (64 < (s.length : Int)) = true := decide_eq_true (by omega)
      go_enter Tryz.func67, Tryz.ntmps67
      go_wp2
      go_ret
      refine ⟨ret_bool ?_, rfl⟩
      rw [hpl.out, decide_eq_false (by omega : ¬ s.length ≤ 64)]
      rfl
    · have h64' : decide (64 < (s.length : Int)) = false := decide_eq_false (by omega)
      have hsz0 : 0 < (tx s).size := by omega
      cases hl : isLow s[0] with
      | false =>
        have hl' : isLow ((tx s)[0]'hsz0) = false := hl
        have hres : Hid (plainT s = false) := Hid.mk (by rw [hpl.out, show isLow s[0] = false from hl]; simp)
        clear hl
        go_enter Tryz.func67, Tryz.ntmps67
        go_wp2_with (go_at_call 46; refine (lower_any _ _).mono ?_; rintro e w1 ⟨rfl, rfl⟩)
        go_ret
        exact ⟨ret_bool hres.out.symm, rfl⟩
      | true =>
        have hl' : isLow ((tx s)[0]'hsz0) = true := hl
        have hl := Hid.mk hl
        cases hr : wordsT.contains s with
        | true =>
          have hres : Hid (plainT s = false) := Hid.mk (by rw [hpl.out, hr]; simp)
          go_enter Tryz.func67, Tryz.ntmps67
          go_wp2_with (first
            | (go_at_call 46; refine (lower_any _ _).mono ?_; rintro e w1 ⟨rfl, rfl⟩)
            | (go_at_call 93; refine (reserved_any s _).mono ?_; rintro e w1 ⟨rfl, rfl⟩; rw [hr]))
          go_ret
          exact ⟨ret_bool hres.out.symm, rfl⟩
        | false =>
          go_enter Tryz.func67, Tryz.ntmps67
          go_wp2_with (first
            | (go_at_call 46; refine (lower_any _ _).mono ?_; rintro e w1 ⟨rfl, rfl⟩)
            | (go_at_call 93; refine (reserved_any s _).mono ?_; rintro e w1 ⟨rfl, rfl⟩; rw [hr]))
          go_loop [24] (fun ii => ∃ (i : Nat), i ≤ s.length ∧ ii = .int .i64 i ∧ Hid (∀ j (hj : j < s.length), j < i → isWd s[j] = true)) (fun ii => s.length - (intOf ii).toNat)
          case atStart => exact ⟨0, by omega, rfl, Hid.mk (fun j _ h => by omega)⟩
          case round =>
            obtain ⟨i, hi, rfl, hno⟩ := hrel
            by_cases hlt : i < s.length
            · have hlt' : i < (tx s).size := by omega
              cases hwd : isWd s[i] with
              | true =>
                have hwd' : isWd ((tx s)[i]'hlt') = true := hwd
                have hstep : Hid (∀ j (hj : j < s.length), j < i + 1 → isWd s[j] = true) := Hid.mk (fun j hj hji => by
                  rcases Nat.lt_or_ge j i with h' | h'
                  · exact hno.out j hj h'
                  · obtain rfl : j = i := by omega
                    exact hwd)
                clear hwd
                go_wp2_with (go_at_call 72; refine (letter_any _ _).mono ?_; rintro e w1 ⟨rfl, rfl⟩)
                exact ⟨⟨i + 1, by omega, by go_num, hstep⟩, by simp [intOf]; omega⟩
              | false =>
                have hwd' : isWd ((tx s)[i]'hlt') = false := hwd
                have hres : Hid (plainT s = false) := Hid.mk (by
                  have : s.all isWd = false := by
                    rw [List.all_eq_false]
                    exact ⟨s[i], List.getElem_mem hlt, by rw [hwd]; simp⟩
                  rw [hpl.out, this]
                  simp)
                clear hwd
                go_wp2_with (go_at_call 72; refine (letter_any _ _).mono ?_; rintro e w1 ⟨rfl, rfl⟩)
                go_ret
                exact ⟨ret_bool hres.out.symm, rfl⟩
            · obtain rfl : i = s.length := by omega
              go_wp2
              go_ret
              refine ⟨ret_bool ?_, rfl⟩
              have hl0 : isLow (s[0]'hpos) = true := hl.out
              have hp := hpl.out
              rw [hl0, decide_eq_true (by omega : s.length ≤ 64), hr] at hp
              rw [hp]
              have : s.all isWd = true := by
                rw [List.all_eq_true]
                intro c hc
                obtain ⟨j, hj, rfl⟩ := List.getElem_of_mem hc
                exact hno.out j hj hj
              rw [this]
              rfl

end Go.Proofs.YtnbekfpkmebmbaaGreatDoor

/-
  Reading a term's text, as plain mathematics: it reads just what was written.
-/
namespace Go.Proofs.YtnbekfpkmebmbaaGreatDoor
open Go.RowKit Go.Deep

abbrev Rdr := List UInt8 → Option (Tm × List UInt8)
/-- Terms with commas between, one at least; the limit of elements counts where it is asked for. -/
def itemsP (P : Rdr) (lim : Bool) : Nat → Nat → List UInt8 → Option (List Tm × List UInt8)
  | 0, _, _ => none
  | g + 1, n, q => if lim = true ∧ 64 ≤ n then none else
    match P q with
    | none => none
    | some (t, r) => match strip [44] r with
      | none => some ([t], r)
      | some x => match itemsP P lim g (n + 1) x with
        | none => none
        | some (l, y) => some (t :: l, y)
def tupP (P : Rdr) (lim : Bool) (q : List UInt8) : Option (Tm × List UInt8) :=
  match strip [125] q with
  | some r => some (.mk 7 0 ⟨#[]⟩ [], r)
  | none => match itemsP P lim (q.length + 1) 0 q with
    | none => none
    | some (l, x) => match strip [125] x with
      | none => none
      | some r => some (.mk 7 0 ⟨#[]⟩ l, r)
def funP (P : Rdr) (lim : Bool) (q : List UInt8) : Option (Tm × List UInt8) :=
  match numI 0 1073741824 q with
  | none => none
  | some (n, x) => match strip [44] x with
    | none => match strip [62] x with
      | none => none
      | some r => some (.mk 5 n ⟨#[]⟩ [], r)
    | some y => match itemsP P lim (y.length + 1) 0 y with
      | none => none
      | some (l, z) => match strip [62] z with
        | none => none
        | some r => some (.mk 5 n ⟨#[]⟩ l, r)
def Tm.kd : Tm → Int
  | .mk k _ _ _ => k
/-- What stands behind the items of a list. -/
def endP (P : Rdr) (x : List UInt8) : Option (Tm × List UInt8) :=
  match strip [124] x with
  | none => match strip [93] x with
    | none => none
    | some r => some (.mk 8 0 ⟨#[]⟩ [], r)
  | some y => match P y with
    | none => none
    | some (e, z) => if e.kd = 8 ∨ e.kd = 9 then none else match strip [93] z with
      | none => none
      | some r => some (e, r)
def lstP (P : Rdr) (q : List UInt8) : Option (Tm × List UInt8) :=
  match strip [93] q with
  | some r => some (.mk 8 0 ⟨#[]⟩ [], r)
  | none => match itemsP P false (q.length + 1) 0 q with
    | none => none
    | some (l, x) => match endP P x with
      | none => none
      | some (e, r) => some (conses l e, r)
/-- A kind that has a number alone, between two texts. -/
def namP (k : Int) (ahead behind : List UInt8) (q : List UInt8) : Option (Tm × List UInt8) :=
  match strip ahead q with
  | none => none
  | some x => match numI 0 1073741824 x with
    | none => none
    | some (n, y) => match strip behind y with
      | none => none
      | some r => some (.mk k n ⟨#[]⟩ [], r)
def atomM (o : Option (List UInt8 × List UInt8)) : Option (Tm × List UInt8) := o.map fun p => (.mk 2 0 (tx p.1) [], p.2)
def termP (P : Rdr) (lim : Bool) (q : List UInt8) : Option (Tm × List UInt8) :=
  match q with
  | [] => none
  | c :: q' =>
    if c = 45 ∨ isDig c = true then (numI (-576460752303423488) 576460752303423487 q).map fun p => (.mk 1 p.1 ⟨#[]⟩ [], p.2)
    else if c = 39 then atomM (quoP q')
    else if isLow c = true then atomM (plainP q)
    else if c = 60 then namP 6 [60, 48, 46] [46, 48, 62] q
    else if c = 35 then (match strip [35, 82, 101, 102, 60] q with
      | some _ => namP 3 [35, 82, 101, 102, 60] [62] q
      | none => match strip [35, 84, 105, 100, 60] q with
        | some _ => namP 4 [35, 84, 105, 100, 60] [62] q
        | none => match strip [35, 70, 117, 110, 60] q with
          | some x => funP P lim x
          | none => none)
    else if c = 123 then tupP P lim q'
    else if c = 91 then lstP P q'
    else none
def parse (lim : Bool) : Nat → Rdr
  | 0 => fun _ => none
  | f + 1 => termP (parse lim f) lim

/-! ### What is read was written -/

def Snd (lim : Bool) (P : Rdr) : Prop := ∀ q T r, P q = some (T, r) → q = T.text ++ r ∧ T.fitsR = true ∧ (lim = true → T.fits = true) ∧ Stop T r

theorem joinT_cons (t : List UInt8) {l : List (List UInt8)} (h : l ≠ []) : joinT (t :: l) = t ++ 44 :: joinT l := by
  cases l with
  | nil => exact absurd rfl h
  | cons u l => simp [joinT]
theorem joinT_flat {l : List (List UInt8)} (h : l ≠ []) : l.flatMap (44 :: ·) = 44 :: joinT l := by
  cases l with
  | nil => exact absurd rfl h
  | cons u l => simp [joinT]
theorem itemsP_some {P : Rdr} {lim : Bool} (hP : Snd lim P) (m : Bool) : ∀ (g n : Nat) {q : List UInt8} {l : List Tm} {r : List UInt8}, itemsP P m g n q = some (l, r) →
    l ≠ [] ∧ q = joinT (l.map Tm.text) ++ r ∧ (∀ t ∈ l, t.fitsR = true ∧ (lim = true → t.fits = true)) ∧ (m = true → n + l.length ≤ 64) ∧ strip [44] r = none := by
  intro g
  induction g with
  | zero => intro n q l r h; cases h
  | succ g ih =>
    intro n q l r h
    rw [itemsP] at h
    split at h
    · cases h
    · rename_i hn
      split at h
      · cases h
      · rename_i t x ht
        obtain ⟨h1, h2, h3, _⟩ := hP _ _ _ ht
        split at h
        · rename_i hs
          simp only [Option.some.injEq, Prod.mk.injEq] at h
          obtain ⟨rfl, rfl⟩ := h
          refine ⟨by simp, by simp [joinT, h1], fun u hu => ?_, fun hm => ?_, hs⟩
          · rw [List.mem_singleton.1 hu]
            exact ⟨h2, h3⟩
          · have : ¬ (64 ≤ n) := fun e => hn ⟨hm, e⟩
            simp
            omega
        · rename_i y hs
          split at h
          · cases h
          · rename_i l' z hi
            obtain ⟨g1, g2, g3, g4, g5⟩ := ih (n + 1) hi
            simp only [Option.some.injEq, Prod.mk.injEq] at h
            obtain ⟨rfl, rfl⟩ := h
            refine ⟨by simp, ?_, fun u hu => ?_, fun hm => ?_, g5⟩
            · rw [h1, strip_some hs, g2, List.map_cons, joinT_cons _ (by simpa using g1)]
              simp
            · rcases List.mem_cons.1 hu with rfl | hu
              · exact ⟨h2, h3⟩
              · exact g3 u hu
            · have := g4 hm
              rw [List.length_cons]
              omega
theorem fitss_of {l : List Tm} (h : ∀ t ∈ l, t.fits = true) : fitss l = true := by
  induction l with
  | nil => rw [fitss]
  | cons a r ih => rw [fitss, h a List.mem_cons_self, ih fun t ht => h t (List.mem_cons_of_mem _ ht)]; rfl
theorem stop_else {k n : Int} {s : ByteArray} {l : List Tm} (h1 : k ≠ 1) (h2 : k ≠ 2) (r : List UInt8) : Stop (.mk k n s l) r := ⟨fun e => absurd e h1, fun e => absurd e h2⟩
theorem fit7 {len : Nat} (h : len ≤ 64) : fitB 7 0 0 len = true := by
  unfold fitB
  simp
  omega
theorem fitN {k n : Int} (hk : k = 3 ∨ k = 4 ∨ k = 6) (h0 : 0 ≤ n) (h1 : n ≤ 1073741824) : fitB k n 0 0 = true :=
  decide_eq_true (Or.inr (Or.inr (Or.inl ⟨hk, h0, h1, rfl, rfl⟩)))
theorem fit1 {n : Int} (h0 : -576460752303423488 ≤ n) (h1 : n ≤ 576460752303423487) : fitB 1 n 0 0 = true :=
  decide_eq_true (Or.inl ⟨rfl, h0, h1, rfl, rfl⟩)
theorem ba_nil {s : ByteArray} (h : s.size = 0) : s = ⟨#[]⟩ := by
  obtain ⟨⟨x⟩⟩ := s
  simp only [ByteArray.size, List.size_toArray, List.length_eq_zero_iff] at h
  subst h
  rfl
theorem sizes_of_mem {l : List Tm} {t : Tm} (h : t ∈ l) : t.size ≤ sizes l := by
  obtain ⟨i, hi, rfl⟩ := List.getElem_of_mem h
  exact sizes_at l i hi
theorem tupP_some {P : Rdr} {lim : Bool} (hP : Snd lim P) {q : List UInt8} {T : Tm} {r : List UInt8} (h : tupP P lim q = some (T, r)) : 123 :: q = T.text ++ r ∧ T.fitsR = true ∧ (lim = true → T.fits = true) ∧ Stop T r := by
  unfold tupP at h
  split at h
  · rename_i x hx
    simp only [Option.some.injEq, Prod.mk.injEq] at h
    obtain ⟨rfl, rfl⟩ := h
    refine ⟨?_, by decide, fun _ => by decide, stop_else (by decide) (by decide) _⟩
    rw [text_k7, strip_some hx]
    rfl
  · split at h
    · cases h
    · rename_i l x hi
      split at h
      · cases h
      · rename_i y hy
        simp only [Option.some.injEq, Prod.mk.injEq] at h
        obtain ⟨rfl, rfl⟩ := h
        obtain ⟨_, g2, g3, g4, _⟩ := itemsP_some hP lim _ _ hi
        refine ⟨?_, ?_, fun hm => ?_, stop_else (by decide) (by decide) _⟩
        · rw [text_k7, g2, strip_some hy]
          simp
        · rw [fitsR_mk, fitssR_of fun t ht => (g3 t ht).1, Bool.and_true]
          rfl
        · rw [fits_mk, fitss_of fun t ht => (g3 t ht).2 hm, Bool.and_true]
          exact fit7 (by have := g4 hm; omega)
theorem fit5 {n : Int} (h0 : 0 ≤ n) (h1 : n ≤ 1073741824) {len : Nat} (h : len ≤ 64) : fitB 5 n 0 len = true := by
  unfold fitB
  simp
  omega
theorem funP_some {P : Rdr} {lim : Bool} (hP : Snd lim P) {q : List UInt8} {T : Tm} {r : List UInt8} (h : funP P lim q = some (T, r)) : [35, 70, 117, 110, 60] ++ q = T.text ++ r ∧ T.fitsR = true ∧ (lim = true → T.fits = true) ∧ Stop T r := by
  unfold funP at h
  split at h
  · cases h
  · rename_i n x hn
    obtain ⟨h1, _, h2, h3⟩ := numI_some hn
    split at h
    · split at h
      · cases h
      · rename_i y hy
        simp only [Option.some.injEq, Prod.mk.injEq] at h
        obtain ⟨rfl, rfl⟩ := h
        refine ⟨?_, ?_, fun _ => ?_, stop_else (by decide) (by decide) _⟩
        · rw [text_k5, h1, strip_some hy]
          simp
        · rw [fitsR_mk]
          exact by rw [show fitssR [] = true from rfl, Bool.and_true]; exact fit5 h2 h3 (by simp)
        · rw [fits_mk]
          exact by rw [show fitss [] = true from rfl, Bool.and_true]; exact fit5 h2 h3 (by simp)
    · rename_i y hy
      split at h
      · cases h
      · rename_i l z hi
        split at h
        · cases h
        · rename_i u hu
          simp only [Option.some.injEq, Prod.mk.injEq] at h
          obtain ⟨rfl, rfl⟩ := h
          obtain ⟨g1, g2, g3, g4, _⟩ := itemsP_some hP lim _ _ hi
          refine ⟨?_, ?_, fun hm => ?_, stop_else (by decide) (by decide) _⟩
          · rw [text_k5, h1, strip_some hy, g2, strip_some hu, joinT_flat (by simpa using g1)]
            simp
          · rw [fitsR_mk, fitssR_of fun t ht => (g3 t ht).1, Bool.and_true]
            exact fit5 h2 h3 (by simp)
          · rw [fits_mk, fitss_of fun t ht => (g3 t ht).2 hm, Bool.and_true]
            exact fit5 h2 h3 (by have := g4 hm; omega)
theorem conses_cons (t : Tm) (l : List Tm) (e : Tm) : conses (t :: l) e = .mk 9 0 ⟨#[]⟩ [t, conses l e] := rfl
theorem conses_fits {l : List Tm} {e : Tm} (hl : ∀ t ∈ l, t.fits = true) (he : e.fits = true) : (conses l e).fits = true := by
  induction l with
  | nil => exact he
  | cons t l ih =>
    rw [conses_cons, fits_mk, fitss, fitss, fitss, hl t List.mem_cons_self, ih fun u hu => hl u (List.mem_cons_of_mem _ hu)]
    rfl
theorem conses_fitsR {l : List Tm} {e : Tm} (hl : ∀ t ∈ l, t.fitsR = true) (he : e.fitsR = true) : (conses l e).fitsR = true := by
  induction l with
  | nil => exact he
  | cons t l ih =>
    rw [conses_cons, fitsR_mk, fitssR, fitssR, fitssR, hl t List.mem_cons_self, ih fun u hu => hl u (List.mem_cons_of_mem _ hu)]
    rfl
theorem conses_tail (l : List Tm) (e : Tm) : (conses l e).tail = (l.map Tm.text).flatMap (44 :: ·) ++ e.tail := by
  induction l with
  | nil => rfl
  | cons t l ih => rw [conses_cons, tail_k9, ih]; simp
theorem conses_text {l : List Tm} (h : l ≠ []) (e : Tm) : (conses l e).text = 91 :: (joinT (l.map Tm.text) ++ e.tail) := by
  cases l with
  | nil => exact absurd rfl h
  | cons t l => rw [conses_cons, text_k9, conses_tail, List.map_cons, joinT, List.append_assoc]
theorem conses_stop {l : List Tm} (h : l ≠ []) (e : Tm) (r : List UInt8) : Stop (conses l e) r := by
  cases l with
  | nil => exact absurd rfl h
  | cons t l => exact stop_else (by decide) (by decide) r
theorem endP_some {P : Rdr} {lim : Bool} (hP : Snd lim P) {q : List UInt8} {T : Tm} {r : List UInt8} (h : endP P q = some (T, r)) : q = T.tail ++ r ∧ T.fitsR = true ∧ (lim = true → T.fits = true) := by
  unfold endP at h
  split at h
  · split at h
    · cases h
    · rename_i x hx
      simp only [Option.some.injEq, Prod.mk.injEq] at h
      obtain ⟨rfl, rfl⟩ := h
      exact ⟨by rw [tail_k8, strip_some hx], by decide, fun _ => by decide⟩
  · rename_i y hy
    split at h
    · cases h
    · rename_i e z he
      obtain ⟨h1, h2, h3, _⟩ := hP _ _ _ he
      split at h
      · cases h
      · rename_i hk
        split at h
        · cases h
        · rename_i u hu
          simp only [Option.some.injEq, Prod.mk.injEq] at h
          obtain ⟨rfl, rfl⟩ := h
          obtain ⟨k, n, s, l⟩ := e
          refine ⟨?_, h2, h3⟩
          rw [tail_else k n s l (fun e => hk (Or.inl e)) (fun e => hk (Or.inr e)), strip_some hy, h1, strip_some hu]
          simp
theorem lstP_some {P : Rdr} {lim : Bool} (hP : Snd lim P) {q : List UInt8} {T : Tm} {r : List UInt8} (h : lstP P q = some (T, r)) : 91 :: q = T.text ++ r ∧ T.fitsR = true ∧ (lim = true → T.fits = true) ∧ Stop T r := by
  unfold lstP at h
  split at h
  · rename_i x hx
    simp only [Option.some.injEq, Prod.mk.injEq] at h
    obtain ⟨rfl, rfl⟩ := h
    refine ⟨?_, by decide, fun _ => by decide, stop_else (by decide) (by decide) _⟩
    rw [text_k8, strip_some hx]
    rfl
  · split at h
    · cases h
    · rename_i l x hi
      obtain ⟨g1, g2, g3, _, _⟩ := itemsP_some hP false _ _ hi
      split at h
      · cases h
      · rename_i e y he
        obtain ⟨h1, h2, h3⟩ := endP_some hP he
        simp only [Option.some.injEq, Prod.mk.injEq] at h
        obtain ⟨rfl, rfl⟩ := h
        refine ⟨?_, conses_fitsR (fun t ht => (g3 t ht).1) h2, fun hm => conses_fits (fun t ht => (g3 t ht).2 hm) (h3 hm), conses_stop g1 _ _⟩
        rw [conses_text g1, g2, h1]
        simp
theorem nam_fits {k n : Int} (hk : k = 3 ∨ k = 4 ∨ k = 6) (h0 : 0 ≤ n) (h1 : n ≤ 1073741824) : (Tm.mk k n ⟨#[]⟩ []).fits = true := by
  rw [fits_mk, show fitss [] = true from rfl, Bool.and_true]
  exact fitN hk h0 h1
theorem namP_some {k : Int} {a b q : List UInt8} {T : Tm} {r : List UInt8} (hk : k = 3 ∨ k = 4 ∨ k = 6) (ht : ∀ n : Int, (Tm.mk k n ⟨#[]⟩ []).text = a ++ (dec n ++ b)) (h : namP k a b q = some (T, r)) :
    q = T.text ++ r ∧ T.fitsR = true ∧ T.fits = true ∧ Stop T r := by
  unfold namP at h
  split at h
  · cases h
  · rename_i x hx
    split at h
    · cases h
    · rename_i n y hy
      split at h
      · cases h
      · rename_i z hz
        simp only [Option.some.injEq, Prod.mk.injEq] at h
        obtain ⟨rfl, rfl⟩ := h
        obtain ⟨h1, _, h2, h3⟩ := numI_some hy
        have hf := nam_fits hk h2 h3
        refine ⟨?_, fits_fitsR _ hf, hf, stop_else (by omega) (by omega) _⟩
        rw [ht, strip_some hx, h1, strip_some hz]
        simp
theorem atom_fits {s : List UInt8} (h : s.length ≤ 64) : (Tm.mk 2 0 (tx s) []).fits = true := by
  rw [fits_mk, show fitss [] = true from rfl, Bool.and_true, tx_size]
  unfold fitB
  simp
  omega
theorem int_fits {n : Int} (h0 : -576460752303423488 ≤ n) (h1 : n ≤ 576460752303423487) : (Tm.mk 1 n ⟨#[]⟩ []).fits = true := by
  rw [fits_mk, show fitss [] = true from rfl, Bool.and_true]
  exact fit1 h0 h1
theorem termP_some {P : Rdr} {lim : Bool} (hP : Snd lim P) : Snd lim (termP P lim) := by
  intro q T r h
  cases q with
  | nil => cases h
  | cons c q =>
    rw [termP] at h
    split at h
    · obtain ⟨p, hp, he⟩ := Option.map_eq_some_iff.1 h
      obtain ⟨n, x⟩ := p
      simp only [Prod.mk.injEq] at he
      obtain ⟨rfl, rfl⟩ := he
      obtain ⟨h1, h2, h3, h4⟩ := numI_some hp
      have hf := int_fits h3 h4
      exact ⟨by rw [text_k1]; exact h1, fits_fitsR _ hf, fun _ => hf, fun _ => h2, fun e => absurd e (by decide)⟩
    · split at h
      · rename_i hc
        subst hc
        obtain ⟨p, hp, he⟩ := Option.map_eq_some_iff.1 h
        obtain ⟨s, x⟩ := p
        simp only [Prod.mk.injEq] at he
        obtain ⟨rfl, rfl⟩ := he
        obtain ⟨h1, h2, h3⟩ := quoP_some hp
        have hf := atom_fits h2
        refine ⟨by rw [text_k2, tx_toList, atomT, if_neg (by rw [h3]; simp)]; exact h1, fits_fitsR _ hf, fun _ => hf, fun e => absurd e (by decide), fun _ e => ?_⟩
        rw [tx_toList, h3] at e
        cases e
      · split at h
        · obtain ⟨p, hp, he⟩ := Option.map_eq_some_iff.1 h
          obtain ⟨s, x⟩ := p
          simp only [Prod.mk.injEq] at he
          obtain ⟨rfl, rfl⟩ := he
          obtain ⟨h1, h2, h3⟩ := plainP_some hp
          obtain ⟨_, _, _, _, _, h4⟩ := plain_head h2
          have hf := atom_fits h4
          exact ⟨by rw [text_k2, tx_toList, atomT, if_pos h2]; exact h1, fits_fitsR _ hf, fun _ => hf, fun e => absurd e (by decide), fun _ _ => h3⟩
        · split at h
          · obtain ⟨h1, h2, h3, h4⟩ := namP_some (by omega) (fun n => text_k6 n _ _) h
            exact ⟨h1, h2, fun _ => h3, h4⟩
          · split at h
            · split at h
              · obtain ⟨h1, h2, h3, h4⟩ := namP_some (by omega) (fun n => text_k3 n _ _) h
                exact ⟨h1, h2, fun _ => h3, h4⟩
              · split at h
                · obtain ⟨h1, h2, h3, h4⟩ := namP_some (by omega) (fun n => text_k4 n _ _) h
                  exact ⟨h1, h2, fun _ => h3, h4⟩
                · split at h
                  · rename_i x hx
                    obtain ⟨h1, h2⟩ := funP_some hP h
                    exact ⟨by rw [strip_some hx]; exact h1, h2⟩
                  · cases h
            · split at h
              · rename_i hc
                subst hc
                exact tupP_some hP h
              · split at h
                · rename_i hc
                  subst hc
                  exact lstP_some hP h
                · cases h
theorem parse_some (lim : Bool) : ∀ f, Snd lim (parse lim f) := by
  intro f
  induction f with
  | zero => intro q T r h; cases h
  | succ f ih => exact termP_some ih

/-! ### What was written is read -/

theorem sep_none {a c : UInt8} {r : List UInt8} (h : a ≠ c) : strip [a] (c :: r) = none := by rw [strip1, if_neg h]
theorem itemsP_text {P : Rdr} (m : Bool) : ∀ (g n : Nat) (l : List Tm) (e : UInt8) (r : List UInt8), l ≠ [] → l.length ≤ g → isWd e = false → e ≠ 44 → (m = true → n + l.length ≤ 64) →
    (∀ t ∈ l, ∀ r, Stop t r → P (t.text ++ r) = some (t, r)) → itemsP P m g n (joinT (l.map Tm.text) ++ e :: r) = some (l, e :: r) := by
  intro g
  induction g with
  | zero => intro n l e r h0 h1; exact absurd (List.length_eq_zero_iff.1 (by omega)) h0
  | succ g ih =>
    intro n l e r h0 h1 he h44 hm hl
    cases l with
    | nil => exact absurd rfl h0
    | cons t l =>
      rw [itemsP, if_neg (fun e => by have := hm e.1; rw [List.length_cons] at this; omega)]
      by_cases hn : l = []
      · subst hn
        simp only [List.map_cons, List.map_nil, joinT, List.flatMap_nil, List.append_nil]
        rw [hl t (by simp) _ (stop_of he)]
        simp only
        rw [sep_none (Ne.symm h44)]
      · rw [List.map_cons, joinT_cons _ (by simpa using hn), List.append_assoc, List.cons_append, hl t (by simp) _ (stop_of (by decide))]
        simp only
        rw [strip1, if_pos rfl]
        simp only
        rw [ih (n + 1) l e r hn (by simpa using h1) he h44 (fun h => by have := hm h; rw [List.length_cons] at this; omega) fun u hu => hl u (List.mem_cons_of_mem _ hu)]
theorem joins_pos {l : List Tm} : l.length ≤ (joinT (l.map Tm.text)).length + 1 := by
  have h : ∀ m : List Tm, m.length ≤ ((m.map Tm.text).flatMap (44 :: ·)).length := fun m => by
    induction m with
    | nil => simp
    | cons t m ih => simp only [List.map_cons, List.flatMap_cons, List.length_append, List.length_cons] at *; omega
  cases l with
  | nil => simp
  | cons t l =>
    have := h l
    rw [List.map_cons, joinT, List.length_append, List.length_cons]
    omega
theorem text_head_ne (T : Tm) (r : List UInt8) (a : UInt8) (ha : chk a = 0) : strip [a] (T.text ++ r) = none := by
  obtain ⟨c, x, e, hc⟩ := text_first T
  rw [e, List.cons_append]
  exact sep_none (fun h => hc (by rw [← h]; exact ha))
theorem join_head_ne {l : List Tm} (h : l ≠ []) (r : List UInt8) (a : UInt8) (ha : chk a = 0) : strip [a] (joinT (l.map Tm.text) ++ r) = none := by
  cases l with
  | nil => exact absurd rfl h
  | cons t l =>
    rw [List.map_cons, joinT, List.append_assoc]
    exact text_head_ne t _ a ha
theorem tupP_text {P : Rdr} {lim : Bool} (n : Int) (s : ByteArray) (l : List Tm) (h0 : n = 0) (h1 : s = ⟨#[]⟩) (hm : lim = true → l.length ≤ 64) (hl : ∀ t ∈ l, ∀ r, Stop t r → P (t.text ++ r) = some (t, r)) (r : List UInt8) :
    tupP P lim (joinT (l.map Tm.text) ++ 125 :: r) = some (.mk 7 n s l, r) := by
  subst h0 h1
  unfold tupP
  by_cases hn : l = []
  · subst hn
    simp [joinT, strip]
  · rw [join_head_ne hn _ 125 (by decide)]
    simp only
    rw [itemsP_text lim _ 0 l 125 r hn (by have := @joins_pos l; rw [List.length_append, List.length_cons]; omega) (by decide) (by decide) (fun h => by have := hm h; omega) hl]
    simp only
    rw [strip1, if_pos rfl]
theorem funP_text {P : Rdr} {lim : Bool} (n : Int) (s : ByteArray) (l : List Tm) (h0 : 0 ≤ n) (h2 : n ≤ 1073741824) (h1 : s = ⟨#[]⟩) (hm : lim = true → l.length ≤ 64) (hl : ∀ t ∈ l, ∀ r, Stop t r → P (t.text ++ r) = some (t, r)) (r : List UInt8) :
    funP P lim (dec n ++ ((l.map Tm.text).flatMap (44 :: ·) ++ 62 :: r)) = some (.mk 5 n s l, r) := by
  subst h1
  unfold funP
  rw [numI_dec (by omega) h0 h2 (nodig_commas _ _)]
  simp only
  by_cases hn : l = []
  · subst hn
    simp [strip]
  · rw [joinT_flat (by simpa using hn), List.cons_append, strip1, if_pos rfl]
    simp only
    rw [itemsP_text lim _ 0 l 62 r hn (by have := @joins_pos l; rw [List.length_append, List.length_cons]; omega) (by decide) (by decide) (fun h => by have := hm h; omega) hl]
    simp only
    rw [strip1, if_pos rfl]
theorem namP_text {k : Int} {a b : List UInt8} (n : Int) (h0 : 0 ≤ n) (h1 : n ≤ 1073741824) (r : List UInt8) (hb : NoDig (b ++ r)) : namP k a b (a ++ (dec n ++ b) ++ r) = some (.mk k n ⟨#[]⟩ [], r) := by
  unfold namP
  rw [List.append_assoc, strip_app]
  simp only
  rw [List.append_assoc, numI_dec (by omega) h0 h1 hb]
  simp only
  rw [strip_app]

/-- The items of a list, and its end. -/
theorem cons_split (T : Tm) : ∀ (_ : T.fitsR = true), ∃ (l : List Tm) (e : Tm), T = conses l e ∧ e.kd ≠ 9 ∧ e.size ≤ T.size ∧ (l ≠ [] → e.size < T.size) ∧ (∀ t ∈ l, t.size < T.size) ∧ (∀ t ∈ l, t.fitsR = true) ∧ e.fitsR = true ∧ (T.fits = true → (∀ t ∈ l, t.fits = true) ∧ e.fits = true) ∧ (T.kd = 9 → l ≠ []) := by
  induction T using Tm.induct with
  | h k n s l ih =>
    intro h
    have h' := h
    rw [fitsR_mk, Bool.and_eq_true] at h
    by_cases hk : k = 9
    · subst hk
      obtain ⟨rfl, hs, a, b, rfl⟩ := fitR_cons h.1
      have hs' : s = ⟨#[]⟩ := by
        obtain ⟨⟨x⟩⟩ := s
        simp only [ByteArray.size, List.size_toArray, List.length_eq_zero_iff] at hs
        subst hs
        rfl
      subst hs'
      have hm := fitssR_at h.2
      obtain ⟨m, e, h1, h2, h3, _, h4, h5, h6, h7, _⟩ := ih b (by simp) (hm b (by simp))
      have hsz : (Tm.mk 9 0 ⟨#[]⟩ [a, b]).size = 1 + (a.size + (b.size + 0)) := by rw [Tm.size_mk, sizes, sizes, sizes]
      refine ⟨a :: m, e, by rw [conses_cons, ← h1], h2, by omega, fun _ => by omega, fun t ht => ?_, fun t ht => ?_, h6, fun hf => ?_, fun _ => by simp⟩
      · rcases List.mem_cons.1 ht with rfl | ht
        · omega
        · have := h4 t ht
          omega
      · rcases List.mem_cons.1 ht with rfl | ht
        · exact hm _ (by simp)
        · exact h5 t ht
      · rw [fits_mk, Bool.and_eq_true] at hf
        have hff := fitss_at hf.2
        have := h7 (hff b (by simp))
        refine ⟨fun t ht => ?_, this.2⟩
        rcases List.mem_cons.1 ht with rfl | ht
        · exact hff _ (by simp)
        · exact this.1 t ht
    · exact ⟨[], .mk k n s l, rfl, hk, Nat.le_refl _, fun h => absurd rfl h, fun t ht => (by cases ht), fun t ht => (by cases ht), h', fun hf => ⟨fun t ht => (by cases ht), hf⟩, fun e => absurd e hk⟩

theorem fitR_parts {k n : Int} {s len : Nat} (h : fitR k n s len = true) : (k = 1 → -576460752303423488 ≤ n ∧ n ≤ 576460752303423487 ∧ s = 0 ∧ len = 0) ∧ (k = 2 → n = 0 ∧ s ≤ 64 ∧ len = 0) ∧
    (k = 3 ∨ k = 4 ∨ k = 6 → 0 ≤ n ∧ n ≤ 1073741824 ∧ s = 0 ∧ len = 0) ∧ (k = 5 → 0 ≤ n ∧ n ≤ 1073741824 ∧ s = 0) ∧ (k = 7 → n = 0 ∧ s = 0) ∧ (k = 8 → n = 0 ∧ s = 0 ∧ len = 0) := by
  unfold fitR at h
  by_cases hk : k = 5 ∨ k = 7
  · rw [if_pos hk] at h
    unfold fitB at h
    simp only [decide_eq_true_eq] at h
    refine ⟨fun e => ?_, fun e => ?_, fun e => ?_, fun e => ?_, fun e => ?_, fun e => ?_⟩ <;> omega
  · rw [if_neg hk] at h
    unfold fitB at h
    simp only [decide_eq_true_eq] at h
    refine ⟨fun e => ?_, fun e => ?_, fun e => ?_, fun e => ?_, fun e => ?_, fun e => ?_⟩ <;> omega
theorem endP_text {P : Rdr} (e : Tm) (hk : e.kd ≠ 9) (hf : e.fitsR = true) (hP : e.kd ≠ 8 → ∀ r, Stop e r → P (e.text ++ r) = some (e, r)) (r : List UInt8) : endP P (e.tail ++ r) = some (e, r) := by
  obtain ⟨k, n, s, l⟩ := e
  have hk' : k ≠ 9 := hk
  unfold endP
  by_cases h8 : k = 8
  · subst h8
    rw [fitsR_mk, Bool.and_eq_true] at hf
    have hn := (fitR_parts hf.1).2.2.2.2.2 rfl
    obtain ⟨rfl, hs, hl⟩ := hn
    obtain rfl := List.length_eq_zero_iff.1 hl
    obtain rfl := ba_nil hs
    rw [tail_k8]
    simp [strip]
  · rw [tail_else k n s l h8 hk', List.cons_append, strip1, if_pos rfl]
    simp only
    rw [List.append_assoc, List.singleton_append, hP h8 _ (stop_of (c := 93) (by decide))]
    simp only
    rw [if_neg (by rintro (e | e); exact h8 e; exact hk' e)]
    simp [strip]
theorem lstP_text {P : Rdr} (l : List Tm) (e : Tm) (h0 : l ≠ []) (hk : e.kd ≠ 9) (hf : e.fitsR = true) (hl : ∀ t ∈ l, ∀ r, Stop t r → P (t.text ++ r) = some (t, r)) (hP : e.kd ≠ 8 → ∀ r, Stop e r → P (e.text ++ r) = some (e, r)) (r : List UInt8) :
    lstP P (joinT (l.map Tm.text) ++ e.tail ++ r) = some (conses l e, r) := by
  unfold lstP
  rw [List.append_assoc, join_head_ne h0 _ 93 (by decide)]
  simp only
  have he := endP_text e hk hf hP r
  obtain ⟨c, x, e1, hc⟩ := tail_head e
  have h44 : c ≠ 44 := by
    obtain ⟨k, n, s, m⟩ := e
    rintro rfl
    rw [tail_mk, tailOf, if_neg (show k ≠ 9 from hk)] at e1
    split at e1 <;> cases e1
  rw [e1, List.cons_append] at he ⊢
  rw [itemsP_text false _ 0 l c (x ++ r) h0 (by have := @joins_pos l; rw [List.length_append, List.length_cons]; omega) hc h44 (fun h => by cases h) hl]
  simp only
  rw [he]

theorem chk_low {c : UInt8} (h : isLow c = true) : ¬ (c = 45 ∨ isDig c = true) ∧ c ≠ 39 := ⟨low_no h, by rintro rfl; exact absurd h (by decide)⟩
theorem parse_text (lim : Bool) (T : Tm) : T.fitsR = true → (lim = true → T.fits = true) → ∀ f, T.size ≤ f → ∀ r, Stop T r → parse lim f (T.text ++ r) = some (T, r) := by
  suffices H : ∀ (z : Nat) (T : Tm), T.size ≤ z → T.fitsR = true → (lim = true → T.fits = true) → ∀ f, T.size ≤ f → ∀ r, Stop T r → parse lim f (T.text ++ r) = some (T, r) from fun a b => H T.size T (Nat.le_refl _) a b
  intro z
  induction z with
  | zero => intro T hz; have := T.size_pos; omega
  | succ z ih =>
    intro T hz hR hF f hf r hst
    cases f with
    | zero => have := T.size_pos; omega
    | succ f =>
      rw [parse]
      obtain ⟨l9, e9, c1, c2, c3, c4, c5, c6, c7, c8, c9⟩ := cons_split T hR
      obtain ⟨k, n, s, l⟩ := T
      have hR' := hR
      rw [fitsR_mk, Bool.and_eq_true] at hR
      have hk := fitR_kind hR.1
      obtain ⟨g1, g2, g3, g5, g7, g8⟩ := fitR_parts hR.1
      have hsz := Tm.size_mk k n s l
      have hin : ∀ t ∈ l, ∀ r, Stop t r → parse lim f (t.text ++ r) = some (t, r) := fun t ht r => by
        have := sizes_of_mem ht
        refine ih t (by omega) (fitssR_at hR.2 t ht) (fun hm => ?_) f (by omega) r
        have := hF hm
        rw [fits_mk, Bool.and_eq_true] at this
        exact fitss_at this.2 t ht
      have hlen : k = 5 ∨ k = 7 → lim = true → l.length ≤ 64 := fun h57 hm => by
        have := hF hm
        rw [fits_mk, Bool.and_eq_true] at this
        have h2 := this.1
        unfold fitB at h2
        simp only [decide_eq_true_eq] at h2
        omega
      obtain h1 | h1 | h1 | h1 | h1 | h1 | h1 | h1 | h1 : k = 1 ∨ k = 2 ∨ k = 3 ∨ k = 4 ∨ k = 5 ∨ k = 6 ∨ k = 7 ∨ k = 8 ∨ k = 9 := by omega
      all_goals subst h1
      · obtain ⟨c, x, e, hc⟩ := dec_head n
        have hn := g1 rfl
        obtain rfl := ba_nil hn.2.2.1
        obtain rfl := List.length_eq_zero_iff.1 hn.2.2.2
        have hd := numI_dec (lo := -576460752303423488) (hi := 576460752303423487) (n := n) (by omega) hn.1 hn.2.1 (hst.1 rfl)
        rw [text_k1]
        rw [e] at hd ⊢
        rw [List.cons_append] at hd ⊢
        rw [termP, if_pos hc, hd]
        rfl
      · have hn := g2 rfl
        obtain ⟨rfl, hs, hl0⟩ := hn
        obtain rfl := List.length_eq_zero_iff.1 hl0
        have hs2 : s.toList.length ≤ 64 := by rw [ByteArray.toList_eq, Array.length_toList]; exact hs
        have hsx : tx s.toList = s := by rw [ByteArray.toList_eq]; rfl
        rw [text_k2]
        cases hp : plainT s.toList with
        | true =>
          obtain ⟨c, x, e, hc, _, _⟩ := plain_head hp
          have hq := plainP_plain hp (hst.2 rfl hp)
          rw [atomT, if_pos hp]
          rw [e] at hq ⊢
          rw [List.cons_append] at hq ⊢
          rw [termP, if_neg (chk_low hc).1, if_neg (chk_low hc).2, if_pos hc, hq, ← e]
          simp [atomM, hsx]
        | false =>
          rw [atomT, if_neg (by rw [hp]; simp), quoteT, List.cons_append, List.append_assoc, termP, if_neg (by decide), if_pos rfl, List.singleton_append, quoP_text hs2 hp]
          simp [atomM, hsx]
      · have hn := g3 (by omega)
        obtain rfl := ba_nil hn.2.2.1
        obtain rfl := List.length_eq_zero_iff.1 hn.2.2.2
        have hd := namP_text (k := 3) (a := [35, 82, 101, 102, 60]) (b := [62]) n hn.1 hn.2.1 r (nodig_of (c := 62) (by decide))
        have h2 := strip_app [35, 82, 101, 102, 60] (dec n ++ [62] ++ r)
        rw [text_k3]
        rw [List.append_assoc] at hd ⊢
        simp only [List.cons_append, List.nil_append] at hd h2 ⊢
        rw [termP, if_neg (by decide), if_neg (by decide), if_neg (by decide), if_neg (by decide), if_pos rfl, h2]
        exact hd
      · have hn := g3 (by omega)
        obtain rfl := ba_nil hn.2.2.1
        obtain rfl := List.length_eq_zero_iff.1 hn.2.2.2
        have hd := namP_text (k := 4) (a := [35, 84, 105, 100, 60]) (b := [62]) n hn.1 hn.2.1 r (nodig_of (c := 62) (by decide))
        have h2 := strip_app [35, 84, 105, 100, 60] (dec n ++ [62] ++ r)
        rw [text_k4]
        rw [List.append_assoc] at hd ⊢
        simp only [List.cons_append, List.nil_append] at hd h2 ⊢
        rw [termP, if_neg (by decide), if_neg (by decide), if_neg (by decide), if_neg (by decide), if_pos rfl, strip_none (by simp), h2]
        exact hd
      · have hn := g5 rfl
        obtain rfl := ba_nil hn.2.2
        have hd := funP_text (P := parse lim f) (lim := lim) n ⟨#[]⟩ l hn.1 hn.2.1 rfl (hlen (Or.inl rfl)) hin r
        have h2 := strip_app [35, 70, 117, 110, 60] (dec n ++ ((l.map Tm.text).flatMap (44 :: ·) ++ 62 :: r))
        rw [text_k5]
        simp only [List.append_assoc, List.cons_append, List.nil_append] at h2 ⊢
        rw [termP, if_neg (by decide), if_neg (by decide), if_neg (by decide), if_neg (by decide), if_pos rfl, strip_none (by simp), strip_none (by simp), h2]
        exact hd
      · have hn := g3 (by omega)
        obtain rfl := ba_nil hn.2.2.1
        obtain rfl := List.length_eq_zero_iff.1 hn.2.2.2
        have hd := namP_text (k := 6) (a := [60, 48, 46]) (b := [46, 48, 62]) n hn.1 hn.2.1 r (nodig_of (c := 46) (by decide))
        rw [text_k6]
        simp only [List.append_assoc, List.cons_append, List.nil_append] at hd ⊢
        rw [termP, if_neg (by decide), if_neg (by decide), if_neg (by decide), if_pos rfl]
        exact hd
      · have hn := g7 rfl
        obtain ⟨rfl, hs⟩ := hn
        obtain rfl := ba_nil hs
        rw [text_k7]
        simp only [List.append_assoc, List.cons_append, List.nil_append]
        rw [termP, if_neg (by decide), if_neg (by decide), if_neg (by decide), if_neg (by decide), if_neg (by decide), if_pos rfl]
        exact tupP_text 0 ⟨#[]⟩ l rfl rfl (hlen (Or.inr rfl)) hin r
      · have hn := g8 rfl
        obtain ⟨rfl, hs, hl0⟩ := hn
        obtain rfl := ba_nil hs
        obtain rfl := List.length_eq_zero_iff.1 hl0
        rw [text_k8]
        simp only [List.cons_append, List.nil_append]
        rw [termP, if_neg (by decide), if_neg (by decide), if_neg (by decide), if_neg (by decide), if_neg (by decide), if_neg (by decide), if_pos rfl]
        simp [lstP, strip]
      · have hne := c9 rfl
        rw [c1]
        rw [conses_text hne, List.cons_append, termP, if_neg (by decide), if_neg (by decide), if_neg (by decide), if_neg (by decide), if_neg (by decide), if_neg (by decide), if_pos rfl]
        refine lstP_text l9 e9 hne c2 c7 (fun t ht r => ?_) (fun _ r => ?_) r
        · have := c5 t ht
          exact ih t (by omega) (c6 t ht) (fun hm => (c8 (hF hm)).1 t ht) f (by omega) r
        · have := c4 hne
          exact ih e9 (by omega) c7 (fun hm => (c8 (hF hm)).2) f (by omega) r

end Go.Proofs.YtnbekfpkmebmbaaGreatDoor
