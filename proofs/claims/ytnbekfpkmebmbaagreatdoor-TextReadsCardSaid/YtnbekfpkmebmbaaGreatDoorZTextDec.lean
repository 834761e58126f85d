/-
  Texts of numbers and of atoms, as the document's answers make them.
-/
import Derived.Test.YtnbekfpkmebmbaaGreatDoorZOrdPlain
import Derived.Test.YtnbekfpkmebmbaaGreatDoorZTermMore
import Derived.Deep.LoopGhost
import Derived.Test.YtnbekfpkmebmbaaGreatDoorZTermClone
namespace Go.Proofs.YtnbekfpkmebmbaaGreatDoor
open Go.RowKit Go.Deep

/-- A text of these bytes. -/
def tx (l : List UInt8) : ByteArray := ⟨l.toArray⟩
theorem tx_size (l : List UInt8) : (tx l).size = l.length := by simp [tx, ByteArray.size]
theorem tx_append (a b : List UInt8) : tx a ++ tx b = tx (a ++ b) := by
  apply ByteArray.ext
  simp [tx]

set_option maxHeartbeats 1000000 in
theorem within_any (c a b : Int) (w : World) : Calls Tryz.prog 24 #[.int .u8 c, .int .u8 a, .int .u8 b] w fun e w' => e = .returned (.bool (decide (a ≤ c ∧ c ≤ b))) ∧ w = w' := by
  go_enter Tryz.func24, Tryz.ntmps24
  go_wp2
  all_goals go_ret
  all_goals exact ⟨ret_bool (by simp; try omega), rfl⟩

theorem digit_at (n : Nat) (h : n < 10) : (⟨#[48, 49, 50, 51, 52, 53, 54, 55, 56, 57]⟩ : ByteArray).extract n (n + 1) = tx [dg n] := by
  obtain h | h | h | h | h | h | h | h | h | h : n = 0 ∨ n = 1 ∨ n = 2 ∨ n = 3 ∨ n = 4 ∨ n = 5 ∨ n = 6 ∨ n = 7 ∨ n = 8 ∨ n = 9 := by omega
  all_goals subst h; rfl

theorem decF_len : ∀ (f n : Nat), (decF f n).length ≤ f := by
  intro f
  induction f with
  | zero => intro n; simp [decF]
  | succ f ih =>
    intro n
    rw [decF]
    split
    · simp
    · have := ih (n / 10)
      rw [List.length_append]
      simp
      omega
theorem decN_len (n : Nat) : (decN n).length ≤ 20 := decF_len 20 n
theorem dec_len (n : Int) : (dec n).length ≤ 21 := by
  have h1 := decN_len (-n).toNat
  have h2 := decN_len n.toNat
  unfold dec
  split
  · rw [List.length_cons]; omega
  · omega

set_option maxHeartbeats 1000000 in
theorem decN_any (n : Nat) : ∀ (w : World), n ≤ 9223372036854775807 → Calls Tryz.prog 52 #[.int .i64 n] w fun e w' => e = .returned (.string (tx (decN n))) ∧ w = w' := by
  induction n using Nat.strongRecOn with
  | _ n ih0 =>
    intro w h1
    by_cases h10 : n < 10
    · have hd := Hid.mk (digit_at n h10)
      have hs := Hid.mk (decN_small h10)
      clear ih0
      go_enter Tryz.func52, Tryz.ntmps52
      go_wp2
      go_ret
      refine ⟨?_, rfl⟩
      rw [hs.out, ← hd.out]
      rfl
    · have hA := Hid.mk (fun w1 => ih0 (n / 10) (by omega) w1 (by omega))
      have hB := Hid.mk (fun w1 => ih0 (n % 10) (by omega) w1 (by omega))
      have hs := Hid.mk (decN_step (n := n) (by omega) (by omega))
      rw [decN_small (Nat.mod_lt n (by omega))] at hB
      clear ih0
      have hl : (tx (decN (n / 10))).size + (tx [dg (n % 10)]).size ≤ 21 := by
        rw [tx_size, tx_size]
        have := decN_len (n / 10)
        simp
        omega
      generalize decN (n / 10) = X at hA hs hl
      obtain ⟨Y, hY⟩ : ∃ Y, tx [dg (n % 10)] = Y := ⟨_, rfl⟩
      rw [hY] at hB hl
      have hY := Hid.mk hY
      go_enter Tryz.func52, Tryz.ntmps52
      go_wp2_with (first
        | (go_at_call 52; have g := t1; refine (hB.out _).mono ?_; rintro e w1 ⟨rfl, rfl⟩)
        | (go_at_call 52; refine (hA.out _).mono ?_; rintro e w1 ⟨rfl, rfl⟩; have t1 := True.intro))
      go_ret
      refine ⟨?_, rfl⟩
      rw [hs.out, ← tx_append, hY.out]
      rfl

set_option maxHeartbeats 1000000 in
theorem dec_any (n : Int) (h0 : -9223372036854775808 < n) (h1 : n ≤ 9223372036854775807) (w : World) : Calls Tryz.prog 52 #[.int .i64 n] w fun e w' => e = .returned (.string (tx (dec n))) ∧ w = w' := by
  by_cases hn : n < 0
  · have hs : Hid (dec n = 45 :: decN (-n).toNat) := Hid.mk (if_pos hn)
    have hA : Hid (∀ w1, Calls Tryz.prog 52 #[.int .i64 (-n)] w1 fun e w' => e = .returned (.string (tx (decN (-n).toNat))) ∧ w1 = w') := Hid.mk (fun w1 => by
      have h := decN_any (-n).toNat w1 (by omega)
      rwa [show (((-n).toNat : Nat) : Int) = -n by omega] at h)
    have hl : (tx (decN (-n).toNat)).size ≤ 20 := by rw [tx_size]; exact decN_len _
    generalize decN (-n).toNat = X at hA hs hl
    have h45 : (⟨#[45]⟩ : ByteArray).size = 1 := rfl
    go_enter Tryz.func52, Tryz.ntmps52
    go_wp2_with (go_at_call 52; refine (hA.out _).mono ?_; rintro e w1 ⟨rfl, rfl⟩)
    go_ret
    refine ⟨?_, rfl⟩
    rw [hs.out]
    show Ending.returned (.string (tx [45] ++ tx X)) = _
    rw [tx_append]
    rfl
  · obtain ⟨m, rfl⟩ := Int.eq_ofNat_of_zero_le (show 0 ≤ n by omega)
    have hs : dec (m : Int) = decN m := by
      unfold dec
      rw [if_neg hn, Int.toNat_natCast]
    rw [hs]
    exact decN_any m w (by omega)

theorem tx_eq (a b : List UInt8) : (tx a = tx b) ↔ a = b := ⟨fun h => by simpa [tx] using congrArg (fun x : ByteArray => x.data) h, fun h => by rw [h]⟩

theorem tx_toList (l : List UInt8) : (tx l).toList = l := by rw [ByteArray.toList_eq]; rfl

set_option maxHeartbeats 2000000 in
theorem word_any (s : List UInt8) (w : World) : Calls Tryz.prog 78 #[.string (tx s)] w fun e w' => e = .returned (.bool (wordsT.contains s)) ∧ Below w.heap.size w w' := by
  go_enter Tryz.func78, Tryz.ntmps78
  go_wp2
  generalize hW0 : w.alloc _ = W0
  have hrow : W0.heap[w.heap.size]? = some (.cells (wordsT.map fun x => Value.string (tx x)).toArray 9) := by rw [← hW0]; exact new_block w _
  have hb : Below w.heap.size w W0 := by rw [← hW0]; exact (Below.refl _ _).alloc (Nat.le_refl _) _
  have hlen : wordsT.length = 17 := rfl
  have hrow := Hid.mk hrow
  clear hW0
  go_loop [4] (fun ii => ∃ (i : Nat), i ≤ 17 ∧ ii = .int .i64 i ∧ Hid (∀ j (hj : j < wordsT.length), j < i → wordsT[j] ≠ s)) (fun ii => 17 - (intOf ii).toNat)
  case atStart => exact ⟨0, by omega, rfl, Hid.mk (fun j _ h => by omega)⟩
  case round =>
    obtain ⟨i, hi, rfl, hno⟩ := hrel
    by_cases hlt : i < 17
    · have hil : i < wordsT.length := by rw [hlen]; exact hlt
      have hc : W0.cell? ⟨w.heap.size, i, none⟩ = some (.string (tx wordsT[i])) := by
        rw [cell_of_row W0 _ _ _ _ _ hrow.out]
        simp [List.getElem?_eq_getElem hil]
      have hx := Hid.mk (tx_eq wordsT[i] s)
      have hmem := Hid.mk (List.getElem_mem hil)
      have hni : Hid (wordsT[i] ≠ s → ∀ j (hj : j < wordsT.length), j < i + 1 → wordsT[j] ≠ s) := Hid.mk (fun hne j hj hji => by
        rcases Nat.lt_or_ge j i with h | h
        · exact hno.out j hj h
        · obtain rfl : j = i := by omega
          exact hne)
      generalize wordsT[i] = x at hc hx hmem hni
      by_cases he : x = s
      · subst he
        clear hni
        go_wp2
        go_ret
        refine ⟨ret_bool ?_, hb⟩
        simpa using hmem.out
      · have hd : ((tx x).toList == (tx s).toList) = false := by
          rw [tx_toList, tx_toList]
          simpa using he
        have hni := Hid.mk (hni.out he)
        go_wp2
        go_round
        case rel => exact ⟨i + 1, by omega, by go_num, hni⟩
        case measure => simp [intOf]; omega
    · obtain rfl : i = 17 := by omega
      go_wp2
      go_ret
      refine ⟨ret_bool ?_, hb⟩
      symm
      rw [Bool.eq_false_iff]
      intro hc
      have hc : s ∈ wordsT := by simpa using hc
      obtain ⟨j, hj, he⟩ := List.getElem_of_mem hc
      exact hno.out j hj (by rw [hlen] at hj; exact hj) he

end Go.Proofs.YtnbekfpkmebmbaaGreatDoor

/-
  Plain atoms, and quoted ones, as the document's answers tell and make them.
-/
namespace Go.Proofs.YtnbekfpkmebmbaaGreatDoor
open Go.RowKit Go.Deep

theorem low_any (c : UInt8) (w : World) : Calls Tryz.prog 24 #[.int .u8 c.toNat, .int .u8 97, .int .u8 122] w fun e w' => e = .returned (.bool (isLow c)) ∧ w = w' :=
  (within_any c.toNat 97 122 w).mono fun e w' h => ⟨h.1.trans (ret_bool (by unfold isLow; simp only [decide_eq_decide]; omega)), h.2⟩
def isUp (c : UInt8) : Bool := decide (65 ≤ c.toNat ∧ c.toNat ≤ 90)
theorem up_any (c : UInt8) (w : World) : Calls Tryz.prog 24 #[.int .u8 c.toNat, .int .u8 65, .int .u8 90] w fun e w' => e = .returned (.bool (isUp c)) ∧ w = w' :=
  (within_any c.toNat 65 90 w).mono fun e w' h => ⟨h.1.trans (ret_bool (by unfold isUp; simp only [decide_eq_decide]; omega)), h.2⟩
theorem dig_any (c : UInt8) (w : World) : Calls Tryz.prog 24 #[.int .u8 c.toNat, .int .u8 48, .int .u8 57] w fun e w' => e = .returned (.bool (isDig c)) ∧ w = w' :=
  (within_any c.toNat 48 57 w).mono fun e w' h => ⟨h.1.trans (ret_bool (by unfold isDig; simp only [decide_eq_decide]; omega)), h.2⟩
theorem tx_get (l : List UInt8) (i : Nat) (_ : i < l.length) (h' : i < (tx l).size) : (tx l)[i]'h' = l[i] := by
  rfl

theorem u8_is (x : UInt8) (n : Nat) (hn : n < 256) : (x == UInt8.ofNat n) = decide ((x.toNat : Int) = n) := by
  rw [Bool.eq_iff_iff]
  simp only [beq_iff_eq, decide_eq_true_eq]
  constructor
  · rintro rfl
    rw [UInt8.toNat_ofNat']
    omega
  · intro h
    refine UInt8.toNat_inj.1 ?_
    rw [UInt8.toNat_ofNat']
    omega
theorem wd_is (c : UInt8) : isWd c = (isLow c || isUp c || isDig c || decide ((c.toNat : Int) = 95) || decide ((c.toNat : Int) = 64)) := by
  have h1 := u8_is c 95 (by omega)
  have h2 := u8_is c 64 (by omega)
  rw [show ((95 : Nat) : Int) = 95 from rfl] at h1
  rw [show ((64 : Nat) : Int) = 64 from rfl] at h2
  rw [← h1, ← h2]
  rfl
theorem wd_or (c : UInt8) : isWd c = (isLow c || isUp c || isDig c || c == 95 || c == 64) := rfl
theorem plain_is (s : List UInt8) (h : 0 < s.length) : plainT s = (decide (s.length ≤ 64) && isLow s[0] && s.all isWd && !wordsT.contains s) := by
  cases s with
  | nil => cases h
  | cons c r => rfl

set_option maxHeartbeats 1000000 in
theorem plain_any (s : List UInt8) (hs : s.length ≤ 1000000) (w : World) : Calls Tryz.prog 55 #[.string (tx s)] w fun e w' => e = .returned (.bool (plainT s)) ∧ Below w.heap.size w w' := by
  by_cases h0 : s = []
  · subst h0
    have he : tx [] = ⟨#[]⟩ := rfl
    have hem : (⟨#[]⟩ : ByteArray).toList.isEmpty = true := by rw [ByteArray.toList_eq]; rfl
    rw [he]
    go_enter Tryz.func55, Tryz.ntmps55
    go_wp2
    go_ret
    exact ⟨rfl, Below.refl _ _⟩
  · have hpos : 0 < s.length := List.length_pos_iff.2 h0
    have hsz := tx_size s
    have he : (tx s).toList.isEmpty = false := by
      rw [tx_toList]
      simpa using h0
    have hpl := Hid.mk (plain_is s hpos)
    have hget := Hid.mk (tx_get s)
    have hw := Hid.mk (fun w1 => word_any s w1)
    by_cases h64 : 64 < s.length
    · have h64' : decide (64 < (s.length : Int)) = true := decide_eq_true (by omega)
      go_enter Tryz.func55, Tryz.ntmps55
      go_wp2
      go_ret
      refine ⟨ret_bool ?_, Below.refl _ _⟩
      rw [hpl.out, decide_eq_false (by omega : ¬ s.length ≤ 64)]
      rfl
    · have h64' : decide (64 < (s.length : Int)) = false := decide_eq_false (by omega)
      have hsz0 : 0 < (tx s).size := by omega
      cases hl : isLow s[0] with
      | false =>
        have hl' : isLow ((tx s)[0]'hsz0) = false := hl
        have hres : Hid (plainT s = false) := Hid.mk (by rw [hpl.out, show isLow s[0] = false from hl]; simp)
        clear hl
        go_enter Tryz.func55, Tryz.ntmps55
        go_wp2_with (go_at_call 24; refine (low_any _ _).mono ?_; rintro e w1 ⟨rfl, rfl⟩)
        go_ret
        exact ⟨ret_bool hres.out.symm, Below.refl _ _⟩
      | true =>
        have hl' : isLow ((tx s)[0]'hsz0) = true := hl
        have hl := Hid.mk hl
        go_enter Tryz.func55, Tryz.ntmps55
        go_wp2_with (go_at_call 24; refine (low_any _ _).mono ?_; rintro e w1 ⟨rfl, rfl⟩)
        go_loop [3] (fun ii => ∃ (i : Nat), i ≤ s.length ∧ ii = .int .i64 i ∧ Hid (∀ j (hj : j < s.length), j < i → isWd s[j] = true)) (fun ii => s.length - (intOf ii).toNat)
        case atStart => exact ⟨0, by omega, rfl, Hid.mk (fun j _ h => by omega)⟩
        case round =>
          obtain ⟨i, hi, rfl, hno⟩ := hrel
          by_cases hlt : i < s.length
          · have hlt' : i < (tx s).size := by omega
            have hwd : Hid (isWd s[i] = (isLow ((tx s)[i]'hlt') || isUp ((tx s)[i]'hlt') || isDig ((tx s)[i]'hlt') || decide ((((tx s)[i]'hlt').toNat : Int) = 95) || decide ((((tx s)[i]'hlt').toNat : Int) = 64))) := Hid.mk (wd_is _)
            have hstep : Hid (isWd s[i] = true → ∀ j (hj : j < s.length), j < i + 1 → isWd s[j] = true) := Hid.mk (fun h j hj hji => by
              rcases Nat.lt_or_ge j i with h' | h'
              · exact hno.out j hj h'
              · obtain rfl : j = i := by omega
                exact h)
            have hbad : Hid (isWd s[i] = false → plainT s = false) := Hid.mk (fun h => by
              have : s.all isWd = false := by
                rw [List.all_eq_false]
                exact ⟨s[i], List.getElem_mem hlt, by rw [h]; simp⟩
              rw [hpl.out, this]
              simp)
            go_wp2_with (first
              | (go_at_call 24; have g := t2; refine (dig_any _ _).mono ?_; rintro e w1 ⟨rfl, rfl⟩; clear t2)
              | (go_at_call 24; have g := t1; refine (up_any _ _).mono ?_; rintro e w1 ⟨rfl, rfl⟩; clear t1; have t2 := True.intro)
              | (go_at_call 24; refine (low_any _ _).mono ?_; rintro e w1 ⟨rfl, rfl⟩; have t1 := True.intro))
            all_goals
              first
                | (refine ⟨⟨i + 1, by omega, by go_num, Hid.mk (hstep.out ?_)⟩, by simp [intOf]; omega⟩
                   rw [hwd.out]
                   first
                     | (simp [*]; done)
                     | (rename_i ho
                        rcases ho with ho | ho
                        · simp at ho; simp [ho]
                        · simp at ho; simp [ho]))
                | (go_ret
                   refine ⟨ret_bool (hbad.out ?_).symm, Below.refl _ _⟩
                   rw [hwd.out]
                   simp_all)
          · obtain rfl : i = s.length := by omega
            go_wp2_with (go_at_call 78; refine (hw.out _).mono ?_; rintro e w1 ⟨rfl, hb1⟩)
            go_ret
            refine ⟨ret_bool ?_, hb1⟩
            have hl0 : isLow (s[0]'hpos) = true := hl.out
            have hp := hpl.out
            rw [hl0, decide_eq_true (by omega : s.length ≤ 64)] at hp
            rw [hp]
            have : s.all isWd = true := by
              rw [List.all_eq_true]
              intro c hc
              obtain ⟨j, hj, rfl⟩ := List.getElem_of_mem hc
              exact hno.out j hj hj
            rw [this]
            simp

end Go.Proofs.YtnbekfpkmebmbaaGreatDoor

/-
  Quoted atoms, as the document's answers make them.
-/
namespace Go.Proofs.YtnbekfpkmebmbaaGreatDoor
open Go.RowKit Go.Deep

theorem hex_at (d : Nat) (h : d < 16) : (⟨#[48, 49, 50, 51, 52, 53, 54, 55, 56, 57, 97, 98, 99, 100, 101, 102]⟩ : ByteArray).extract d (d + 1) = tx [hxd d] := by
  obtain h | h | h | h | h | h | h | h | h | h | h | h | h | h | h | h : d = 0 ∨ d = 1 ∨ d = 2 ∨ d = 3 ∨ d = 4 ∨ d = 5 ∨ d = 6 ∨ d = 7 ∨ d = 8 ∨ d = 9 ∨ d = 10 ∨ d = 11 ∨ d = 12 ∨ d = 13 ∨ d = 14 ∨ d = 15 := by omega
  all_goals subst h; rfl
theorem tx_one (s : List UInt8) (i : Nat) (h : i < s.length) : (tx s).extract i (i + 1) = tx [s[i]] := by
  apply ByteArray.ext
  simp only [tx, ByteArray.data_extract]
  apply Array.ext
  · simp
    omega
  · intro j h1 h2
    simp at h1 h2
    obtain rfl : j = 0 := by omega
    simp
theorem qb_len (c : UInt8) : (qb c).length ≤ 4 := by
  unfold qb
  split
  · simp
  · split <;> simp
theorem qbs_len (s : List UInt8) : (s.flatMap qb).length ≤ 4 * s.length := by
  induction s with
  | nil => simp
  | cons c r ih =>
    have := qb_len c
    rw [List.flatMap_cons, List.length_append, List.length_cons]
    omega

set_option maxHeartbeats 2000000 in
theorem quoted_any (s : List UInt8) (hs : s.length ≤ 1000000) (w : World) : Calls Tryz.prog 76 #[.string (tx s)] w fun e w' => e = .returned (.string (tx (quoteT s))) ∧ Below w.heap.size w w' := by
  have hsz := tx_size s
  go_enter Tryz.func76, Tryz.ntmps76
  go_wp2
  have hts := tx_size
  have htx : (⟨#[39]⟩ : ByteArray) = tx [39] := rfl
  rw [htx]
  go_loopw [3, 4] (fun oo ii wr => ∃ (i : Nat) (O : List UInt8), i ≤ s.length ∧ ii = .int .i64 i ∧ oo = .string (tx O) ∧ O.length ≤ 4 * i + 1 ∧ Hid (O = 39 :: (s.take i).flatMap qb) ∧ Below w.heap.size w wr) (fun _ ii _ => s.length - (intOf ii).toNat)
  case atStart => exact ⟨0, [39], by omega, rfl, rfl, by simp, Hid.mk (by simp), Below.refl _ _⟩
  case round =>
    obtain ⟨i, O, hi, rfl, rfl, hO, hOe, hb⟩ := hrel
    by_cases hlt : i < s.length
    · have hlt' : i < (tx s).size := by omega
      obtain ⟨x, hx⟩ : ∃ x, s[i] = x := ⟨_, rfl⟩
      have hx' : (tx s)[i]'hlt' = x := hx
      have hext : (tx s).extract i (i + 1) = tx [x] := (tx_one s i hlt).trans (congrArg (fun y => tx [y]) hx)
      have hst : Hid (39 :: (s.take (i + 1)).flatMap qb = O ++ qb x) := Hid.mk (by
        have e : s.take (i + 1) = s.take i ++ [x] := (List.take_succ_eq_append_getElem hlt).trans (congrArg (fun y => s.take i ++ [y]) hx)
        rw [hOe.out, e, List.flatMap_append]
        simp)
      have hq := x.toNat_lt
      by_cases hc : x.toNat < 32 ∨ 126 < x.toNat
      · have hqb : Hid (qb x = [92, 120, hxd (x.toNat / 16), hxd (x.toNat % 16)]) := Hid.mk (by unfold qb; rw [if_pos hc])
        have e1 := hex_at (x.toNat / 16) (by omega)
        have e2 := hex_at (x.toNat % 16) (by omega)
        have hd : (decide ((x.toNat : Int) < 32) || decide (126 < (x.toNat : Int))) = true := by simp; omega
        obtain ⟨d2, hd2⟩ : ∃ d, x.toNat % 16 = d := ⟨_, rfl⟩
        rw [hd2] at e2 hqb
        have g3 : (x.toNat : Int) % 16 = (d2 : Int) := by omega
        have l2 : d2 < 16 := by omega
        have hst' : Hid (tx O ++ ⟨#[92, 120]⟩ ++ tx [hxd (x.toNat / 16)] ++ tx [hxd d2] = tx (39 :: (s.take (i + 1)).flatMap qb)) := Hid.mk (by
          rw [hst.out, hqb.out, show (⟨#[92, 120]⟩ : ByteArray) = tx [92, 120] from rfl, tx_append, tx_append, tx_append]
          simp)
        have hOl : Hid ((39 :: (s.take (i + 1)).flatMap qb).length ≤ 4 * (i + 1) + 1) := Hid.mk (by
          have := qb_len x
          rw [hst.out, List.length_append]
          omega)
        have e1 := Hid.mk e1
        clear hd2
        rcases hc with hc | hc
        all_goals
          go_wp2
          go_region
          go_wp2
        all_goals
          go_roundw
          case rel => exact ⟨i + 1, _, by omega, by go_num, by rw [← hst'.out, ← e1.out], hOl.out, Hid.mk rfl, hb.drew⟩
          case measure => simp [intOf]; omega
      · have c1 : 32 ≤ x.toNat := by omega
        have c2 : x.toNat ≤ 126 := by omega
        have hOl : Hid ((39 :: (s.take (i + 1)).flatMap qb).length ≤ 4 * (i + 1) + 1) := Hid.mk (by
          have := qb_len x
          rw [hst.out, List.length_append]
          omega)
        by_cases hq2 : x = 39 ∨ x = 92
        · have hqb : qb x = [92, x] := by unfold qb; rw [if_neg hc, if_pos hq2]
          have hst' : Hid (tx O ++ ⟨#[92]⟩ ++ tx [x] = tx (39 :: (s.take (i + 1)).flatMap qb)) := Hid.mk (by
            rw [hst.out, hqb, show (⟨#[92]⟩ : ByteArray) = tx [92] from rfl, tx_append, tx_append]
            simp)
          have hn : (x.toNat : Int) = 39 ∨ ((x.toNat : Int) = 92) := by
            rcases hq2 with rfl | rfl
            · exact Or.inl rfl
            · exact Or.inr rfl
          clear hc hqb hq2
          rcases hn with hn | hn
          · go_wp2
            go_roundw
            case rel => exact ⟨i + 1, _, by omega, by go_num, by rw [← hst'.out], hOl.out, Hid.mk rfl, hb⟩
            case measure => simp [intOf]; omega
          · have n1 : ¬ (x.toNat : Int) = 39 := by omega
            have n2 : ((x.toNat : Int) == 92) = true := by simp [hn]
            go_wp2
            go_roundw
            case rel => exact ⟨i + 1, _, by omega, by go_num, by rw [← hst'.out], hOl.out, Hid.mk rfl, hb⟩
            case measure => simp [intOf]; omega
        · have hqb : qb x = [x] := by unfold qb; rw [if_neg hc, if_neg hq2]
          have hst' : Hid (tx O ++ tx [x] = tx (39 :: (s.take (i + 1)).flatMap qb)) := Hid.mk (by rw [hst.out, hqb, tx_append])
          have n1 : ¬ (x.toNat : Int) = 39 := fun h => hq2 (Or.inl (UInt8.toNat_inj.1 (show x.toNat = 39 by omega)))
          have n2 : ¬ (x.toNat : Int) = 92 := fun h => hq2 (Or.inr (UInt8.toNat_inj.1 (show x.toNat = 92 by omega)))
          have n3 := beq_eq_false_iff_ne.2 n1
          have n4 := beq_eq_false_iff_ne.2 n2
          clear hc hqb hq2
          go_wp2
          go_roundw
          case rel => exact ⟨i + 1, _, by omega, by go_num, by rw [← hst'.out], hOl.out, Hid.mk rfl, hb⟩
          case measure => simp [intOf]; omega
    · obtain rfl : i = s.length := by omega
      go_wp2
      go_ret
      refine ⟨?_, hb⟩
      show Ending.returned (.string (tx O ++ tx [39])) = _
      rw [tx_append, hOe.out, List.take_length]
      rfl

end Go.Proofs.YtnbekfpkmebmbaaGreatDoor

/-
  The text of a term, as the document's answers make it.
-/
namespace Go.Proofs.YtnbekfpkmebmbaaGreatDoor
open Go.RowKit Go.Deep

theorem quote_len (s : List UInt8) : (quoteT s).length ≤ 4 * s.length + 2 := by
  have := qbs_len s
  unfold quoteT
  rw [List.length_cons, List.length_append, List.length_singleton]
  omega
theorem atom_len (s : List UInt8) : (atomT s).length ≤ 4 * s.length + 2 := by
  unfold atomT
  split
  · exact Nat.le_trans (by omega : s.length ≤ 4 * s.length + 2) (Nat.le_refl _)
  · exact quote_len s
theorem commas_len (l : List Tm) (B : Nat) (h : ∀ t ∈ l, t.text.length ≤ B * t.size) : ((l.map Tm.text).flatMap (44 :: ·)).length ≤ (B + 1) * sizes l := by
  induction l with
  | nil => simp
  | cons t r ih =>
    have h1 := h t List.mem_cons_self
    have h2 := ih fun t ht => h t (List.mem_cons_of_mem _ ht)
    have h3 := t.size_pos
    rw [List.map_cons, List.flatMap_cons, List.length_append, List.length_cons, sizes, Nat.mul_add]
    have : (B + 1) * t.size = B * t.size + t.size := by rw [Nat.add_mul, Nat.one_mul]
    omega
theorem joins_len (l : List (List UInt8)) : (joinT l).length ≤ (l.flatMap (44 :: ·)).length := by
  cases l with
  | nil => simp [joinT]
  | cons t r => simp only [joinT, List.flatMap_cons, List.length_append, List.length_cons]; omega

set_option maxHeartbeats 1000000 in
theorem write_any_k1 (n : Int) (s : ByteArray) (l : List Tm) (h0 : -9223372036854775808 < n) (h1 : n ≤ 9223372036854775807) (a : Option Addr) (len cap : Nat) (w : World) :
    Calls Tryz.prog 54 #[.agg #[.int .i64 1, .int .i64 n, .string s, .slice a len cap]] w fun e w' => e = .returned (.string (tx (Tm.mk 1 n s l).text)) ∧ Below w.heap.size w w' := by
  have hc := Hid.mk (dec_any n h0 h1)
  rw [text_k1]
  generalize dec n = X at hc
  go_enter Tryz.func54, Tryz.ntmps54
  go_wp2_with (go_at_call 52; refine (hc.out _).mono ?_; rintro e w1 ⟨rfl, rfl⟩)
  go_ret
  exact ⟨rfl, (Below.refl _ _).alloc (Nat.le_refl _) _⟩

set_option maxHeartbeats 1000000 in
theorem write_any_k2 (n : Int) (s : ByteArray) (l : List Tm) (hs : s.size ≤ 1000000) (a : Option Addr) (len cap : Nat) (w : World) :
    Calls Tryz.prog 54 #[.agg #[.int .i64 2, .int .i64 n, .string s, .slice a len cap]] w fun e w' => e = .returned (.string (tx (Tm.mk 2 n s l).text)) ∧ Below w.heap.size w w' := by
  have hst : s = tx s.toList := bytes_toList (by rw [tx_toList])
  have hl : s.toList.length ≤ 1000000 := by rw [ByteArray.toList_eq]; exact hs
  rw [text_k2]
  rw [hst]
  rw [tx_toList]
  generalize s.toList = L at hl
  have hp := Hid.mk (plain_any L hl)
  have hq := Hid.mk (quoted_any L hl)
  have ha : Hid (atomT L = if plainT L = true then L else quoteT L) := Hid.mk rfl
  generalize atomT L = X at ha
  generalize quoteT L = Y at ha hq
  generalize plainT L = b at ha hp
  go_enter Tryz.func54, Tryz.ntmps54
  go_wp2_with (first
    | (go_at_call 55; refine (hp.out _).mono ?_; rintro e w1 ⟨rfl, hb1⟩; obtain ⟨⟨q0, q1, q2, q3⟩, _⟩ := kept4 (new_block w _) hb1; have hu := (Up.refl w).alloc.call hb1)
    | (go_at_call 76; refine (hq.out _).mono ?_; rintro e w2 ⟨rfl, hb2⟩; have hu := hu.call hb2))
  · have hb : b = true := by assumption
    go_ret
    rw [ha.out, if_pos hb]
    exact ⟨rfl, hu.out⟩
  · have hb : ¬ b = true := by
      first
        | assumption
        | (rw [Bool.not_eq_true]; assumption)
        | (intro h; rename_i h2; rw [h] at h2; cases h2)
    go_ret
    rw [ha.out, if_neg hb]
    exact ⟨rfl, hu.out⟩


set_option maxHeartbeats 1000000 in
theorem write_any_k3 (n : Int) (s : ByteArray) (l : List Tm) (h0 : -9223372036854775808 < n) (h1 : n ≤ 9223372036854775807) (a : Option Addr) (len cap : Nat) (w : World) :
    Calls Tryz.prog 54 #[.agg #[.int .i64 3, .int .i64 n, .string s, .slice a len cap]] w fun e w' => e = .returned (.string (tx (Tm.mk 3 n s l).text)) ∧ Below w.heap.size w w' := by
  have hc := Hid.mk (dec_any n h0 h1)
  have hX : (tx (dec n)).size ≤ 21 := by rw [tx_size]; exact dec_len n
  rw [text_k3]
  generalize dec n = X at hc hX
  have hY : (⟨#[35, 82, 101, 102, 60]⟩ ++ tx X : ByteArray).size ≤ 30 := by
    rw [show (⟨#[35, 82, 101, 102, 60]⟩ : ByteArray) = tx [35, 82, 101, 102, 60] from rfl, tx_append, tx_size, List.length_append]
    rw [tx_size] at hX
    simp
    omega
  go_enter Tryz.func54, Tryz.ntmps54
  go_wp2_with (go_at_call 52; refine (hc.out _).mono ?_; rintro e w1 ⟨rfl, rfl⟩)
  go_ret
  refine ⟨?_, (Below.refl _ _).alloc (Nat.le_refl _) _⟩
  show Ending.returned (.string (tx [35, 82, 101, 102, 60] ++ tx X ++ tx [62])) = _
  rw [tx_append, tx_append]
  simp

set_option maxHeartbeats 1000000 in
theorem write_any_k4 (n : Int) (s : ByteArray) (l : List Tm) (h0 : -9223372036854775808 < n) (h1 : n ≤ 9223372036854775807) (a : Option Addr) (len cap : Nat) (w : World) :
    Calls Tryz.prog 54 #[.agg #[.int .i64 4, .int .i64 n, .string s, .slice a len cap]] w fun e w' => e = .returned (.string (tx (Tm.mk 4 n s l).text)) ∧ Below w.heap.size w w' := by
  have hc := Hid.mk (dec_any n h0 h1)
  have hX : (tx (dec n)).size ≤ 21 := by rw [tx_size]; exact dec_len n
  rw [text_k4]
  generalize dec n = X at hc hX
  have hY : (⟨#[35, 84, 105, 100, 60]⟩ ++ tx X : ByteArray).size ≤ 30 := by
    rw [show (⟨#[35, 84, 105, 100, 60]⟩ : ByteArray) = tx [35, 84, 105, 100, 60] from rfl, tx_append, tx_size, List.length_append]
    rw [tx_size] at hX
    simp
    omega
  go_enter Tryz.func54, Tryz.ntmps54
  go_wp2_with (go_at_call 52; refine (hc.out _).mono ?_; rintro e w1 ⟨rfl, rfl⟩)
  go_ret
  refine ⟨?_, (Below.refl _ _).alloc (Nat.le_refl _) _⟩
  show Ending.returned (.string (tx [35, 84, 105, 100, 60] ++ tx X ++ tx [62])) = _
  rw [tx_append, tx_append]
  simp

set_option maxHeartbeats 1000000 in
theorem write_any_k6 (n : Int) (s : ByteArray) (l : List Tm) (h0 : -9223372036854775808 < n) (h1 : n ≤ 9223372036854775807) (a : Option Addr) (len cap : Nat) (w : World) :
    Calls Tryz.prog 54 #[.agg #[.int .i64 6, .int .i64 n, .string s, .slice a len cap]] w fun e w' => e = .returned (.string (tx (Tm.mk 6 n s l).text)) ∧ Below w.heap.size w w' := by
  have hc := Hid.mk (dec_any n h0 h1)
  have hX : (tx (dec n)).size ≤ 21 := by rw [tx_size]; exact dec_len n
  rw [text_k6]
  generalize dec n = X at hc hX
  have hY : (⟨#[60, 48, 46]⟩ ++ tx X : ByteArray).size ≤ 30 := by
    rw [show (⟨#[60, 48, 46]⟩ : ByteArray) = tx [60, 48, 46] from rfl, tx_append, tx_size, List.length_append]
    rw [tx_size] at hX
    simp
    omega
  go_enter Tryz.func54, Tryz.ntmps54
  go_wp2_with (go_at_call 52; refine (hc.out _).mono ?_; rintro e w1 ⟨rfl, rfl⟩)
  go_ret
  refine ⟨?_, (Below.refl _ _).alloc (Nat.le_refl _) _⟩
  show Ending.returned (.string (tx [60, 48, 46] ++ tx X ++ tx [46, 48, 62])) = _
  rw [tx_append, tx_append]
  simp

set_option maxHeartbeats 1000000 in
theorem write_any_k8 (n : Int) (s : ByteArray) (l : List Tm) (a : Option Addr) (len cap : Nat) (w : World) :
    Calls Tryz.prog 54 #[.agg #[.int .i64 8, .int .i64 n, .string s, .slice a len cap]] w fun e w' => e = .returned (.string (tx (Tm.mk 8 n s l).text)) ∧ Below w.heap.size w w' := by
  rw [text_k8]
  go_enter Tryz.func54, Tryz.ntmps54
  go_wp2
  go_ret
  exact ⟨rfl, (Below.refl _ _).alloc (Nat.le_refl _) _⟩

end Go.Proofs.YtnbekfpkmebmbaaGreatDoor

/-
  The texts of terms with commas between, as the document's answers make them.
-/
namespace Go.Proofs.YtnbekfpkmebmbaaGreatDoor
open Go.RowKit Go.Deep

theorem joinT_snoc (l : List (List UInt8)) (x : List UInt8) (h : l ≠ []) : joinT (l ++ [x]) = joinT l ++ 44 :: x := by
  cases l with
  | nil => exact absurd rfl h
  | cons t r => simp [joinT]
theorem joinT_one (x : List UInt8) : joinT [x] = x := by simp [joinT]
theorem joinT_le (a b : List (List UInt8)) : (joinT a).length ≤ (joinT (a ++ b)).length := by
  cases a with
  | nil => simp [joinT]
  | cons t r => simp [joinT]
theorem texts_take (l : List Tm) (i : Nat) (hi : i < l.length) : (l.take (i + 1)).map Tm.text = (l.take i).map Tm.text ++ [l[i].text] := by
  rw [List.take_succ_eq_append_getElem hi, List.map_append]
  rfl
theorem joinT_take_le (l : List Tm) (i : Nat) : (joinT ((l.take i).map Tm.text)).length ≤ (joinT (l.map Tm.text)).length := by
  have := joinT_le ((l.take i).map Tm.text) ((l.drop i).map Tm.text)
  rwa [← List.map_append, List.take_append_drop] at this

/-- Its text is told of a term. -/
def Tells (T : Tm) : Prop := ∀ (S : Nat → Prop) (v : Value) (w : World), Lies w S T v → Calls Tryz.prog 54 #[v] w fun e w' => e = .returned (.string (tx T.text)) ∧ Below w.heap.size w w'

set_option maxHeartbeats 2000000 in
theorem all_any (l : List Tm) (ih0 : ∀ t ∈ l, Tells t) (hB : (joinT (l.map Tm.text)).length ≤ 1000000000) (S : Nat → Prop) (a : Option Addr) (cap : Nat) (w : World) (hl : Lst w S l a cap) :
    Calls Tryz.prog 77 #[.slice a l.length cap] w fun e w' => e = .returned (.string (tx (joinT (l.map Tm.text)))) ∧ Below w.heap.size w w' := by
  have ih := Hid.mk ih0
  clear ih0
  have hlen : l.length ≤ 9223372036854775807 := Nat.le_trans hl.1 hl.2.1
  have hts := tx_size
  have hbound := Hid.mk (fun i => Nat.le_trans (joinT_take_le l i) hB)
  have h0 : (⟨#[]⟩ : ByteArray) = tx [] := rfl
  go_enter Tryz.func77, Tryz.ntmps77
  go_wp2
  rw [h0]
  go_loopw [3, 4] (fun oo ii wr => ∃ (i : Nat) (O : List UInt8), i ≤ l.length ∧ ii = .int .i64 i ∧ oo = .string (tx O) ∧ Hid (O = joinT ((l.take i).map Tm.text)) ∧ Below w.heap.size w wr) (fun _ ii _ => l.length - (intOf ii).toNat)
  case atStart => exact ⟨0, [], Nat.zero_le _, rfl, rfl, Hid.mk (by simp [joinT]), Below.refl _ _⟩
  case round =>
    obtain ⟨i, O, hi, rfl, rfl, hO, hb⟩ := hrel
    by_cases hlt : i < l.length
    · obtain ⟨b, o, rfl, _, hr⟩ := (hl.below hb).some (by omega)
      obtain ⟨k', n', s', m', a', cap', hT, c0, c1, c2, c3, hli⟩ := hr.part i hlt
      have hc := Hid.mk (ih.out l[i] (List.getElem_mem hlt) S _ wr hli)
      have hst := texts_take l i hlt
      have hN : Hid (joinT ((l.take (i + 1)).map Tm.text) = if i = 0 then O ++ l[i].text else O ++ 44 :: l[i].text) := Hid.mk (by
        rw [hst, hO.out]
        by_cases hi0 : i = 0
        · rw [if_pos hi0]
          subst hi0
          simp [joinT]
        · rw [if_neg hi0, joinT_snoc]
          intro he
          have := congrArg List.length he
          rw [List.length_map, List.length_take, List.length_nil] at this
          omega)
      have hb1 := hbound.out (i + 1)
      have hb2 : O.length + l[i].text.length + 1 ≤ 1000000001 := by
        rw [hN.out] at hb1
        split at hb1
        · rw [List.length_append] at hb1; omega
        · rw [List.length_append, List.length_cons] at hb1; omega
      generalize l[i].text = X at hc hN hb2
      clear hT hli hst hb1
      by_cases hi0 : i = 0
      · have hd : decide (0 < (i : Int)) = false := decide_eq_false (by omega)
        have hN2 : Hid (tx O ++ tx X = tx (joinT ((l.take (i + 1)).map Tm.text))) := Hid.mk (by rw [hN.out, if_pos hi0, tx_append])
        subst hi0
        clear hd
        simp only [Nat.zero_mul, Nat.add_zero] at c0 c1 c2 c3
        go_wp2_with (go_at_call 54; refine hc.out.mono ?_; rintro e w2 ⟨rfl, hb3⟩)
        go_roundw
        case rel => exact ⟨1, _, by omega, by go_num, by rw [← hN2.out], Hid.mk rfl, hb.trans (hb3.mono hb.size)⟩
        case measure => simp [intOf]; omega
      · have hd : decide (0 < (i : Int)) = true := decide_eq_true (by omega)
        have h44 : (tx O ++ ⟨#[44]⟩ : ByteArray).size = O.length + 1 := by
          rw [show (⟨#[44]⟩ : ByteArray) = tx [44] from rfl, tx_append, tx_size, List.length_append]
          rfl
        have hN2 : Hid (tx O ++ ⟨#[44]⟩ ++ tx X = tx (joinT ((l.take (i + 1)).map Tm.text))) := Hid.mk (by
          rw [hN.out, if_neg hi0, show (⟨#[44]⟩ : ByteArray) = tx [44] from rfl, tx_append, tx_append]
          simp)
        go_wp2_with (go_at_call 54; refine hc.out.mono ?_; rintro e w2 ⟨rfl, hb3⟩)
        go_roundw
        case rel => exact ⟨i + 1, _, by omega, by go_num, by rw [← hN2.out], Hid.mk rfl, hb.trans (hb3.mono hb.size)⟩
        case measure => simp [intOf]; omega
    · obtain rfl : i = l.length := by omega
      go_wp2
      go_ret
      refine ⟨?_, hb⟩
      have := hO.out
      rw [List.take_length] at this
      rw [this]
      rfl

end Go.Proofs.YtnbekfpkmebmbaaGreatDoor

/-
  The text of a term, as the document's answers make it: terms with parts.
-/
namespace Go.Proofs.YtnbekfpkmebmbaaGreatDoor
open Go.RowKit Go.Deep

theorem tl_length (s : ByteArray) : s.toList.length = s.size := by
  rw [ByteArray.toList_eq]
  simp
theorem commas_le (l : List Tm) (h : ∀ t ∈ l, t.text.length + 2 ≤ 300 * t.size) : ((l.map Tm.text).flatMap (44 :: ·)).length ≤ 300 * sizes l := by
  induction l with
  | nil => simp
  | cons t r ih =>
    have h1 := h t List.mem_cons_self
    have h2 := ih fun t ht => h t (List.mem_cons_of_mem _ ht)
    rw [List.map_cons, List.flatMap_cons, List.length_append, List.length_cons, sizes]
    omega
theorem text_len (T : Tm) : T.fits = true → T.text.length + 2 ≤ 300 * T.size ∧ T.tail.length ≤ 300 * T.size := by
  induction T using Tm.induct with
  | h k n s l ih =>
    intro hT
    rw [fits_mk, Bool.and_eq_true] at hT
    have hm := fitss_at hT.2
    have hk := fitR_kind (fitR_fit hT.1)
    have g := hT.1
    unfold fitB at g
    simp only [decide_eq_true_eq] at g
    have hc := commas_le l (fun t ht => (ih t ht (hm t ht)).1)
    have hj := joins_len (l.map Tm.text)
    have hn := dec_len n
    have hsz := Tm.size_mk k n s l
    have A : (Tm.mk k n s l).text.length + 2 ≤ 300 * (Tm.mk k n s l).size := by
      rw [hsz]
      obtain h1 | h1 | h1 | h1 | h1 | h1 | h1 | h1 | h1 : k = 1 ∨ k = 2 ∨ k = 3 ∨ k = 4 ∨ k = 5 ∨ k = 6 ∨ k = 7 ∨ k = 8 ∨ k = 9 := by omega
      all_goals subst h1
      · rw [text_k1]; omega
      · rw [text_k2]
        have := atom_len s.toList
        rw [tl_length] at this
        omega
      · rw [text_k3]; simp only [List.length_append, List.length_cons, List.length_nil]; omega
      · rw [text_k4]; simp only [List.length_append, List.length_cons, List.length_nil]; omega
      · rw [text_k5]; simp only [List.length_append, List.length_cons, List.length_nil]; omega
      · rw [text_k6]; simp only [List.length_append, List.length_cons, List.length_nil]; omega
      · rw [text_k7]; simp only [List.length_append, List.length_cons, List.length_nil]; omega
      · rw [text_k8]; simp only [List.length_cons, List.length_nil]; omega
      · obtain ⟨_, _, a, b, rfl⟩ := fitR_cons (fitR_fit hT.1)
        have h1 := ih a (by simp) (hm a (by simp))
        have h2 := ih b (by simp) (hm b (by simp))
        rw [text_k9]
        simp only [List.length_append, List.length_cons, sizes]
        omega
    refine ⟨A, ?_⟩
    by_cases h9 : k = 9
    · subst h9
      obtain ⟨_, _, a, b, rfl⟩ := fitR_cons (fitR_fit hT.1)
      rw [text_k9] at A
      rw [tail_k9]
      simp only [List.length_append, List.length_cons] at A ⊢
      omega
    by_cases h8 : k = 8
    · subst h8
      rw [tail_k8, hsz]
      simp only [List.length_cons, List.length_nil]
      omega
    · rw [tail_else _ _ _ _ h8 h9]
      simp only [List.length_append, List.length_cons, List.length_nil]
      omega

set_option maxHeartbeats 1000000 in
theorem tells_k7 (n : Int) (s : ByteArray) (l : List Tm) (ih : ∀ t ∈ l, Tells t) (hB : (joinT (l.map Tm.text)).length ≤ 1000000000) : Tells (.mk 7 n s l) := by
  intro S v w hv
  obtain ⟨a, cap, rfl, hs, hl⟩ := hv.out
  have hb0 := (Below.refl w.heap.size w).alloc (Nat.le_refl _) (.cells #[.int .i64 7, .int .i64 n, .string s, .slice a l.length cap] 24)
  have hc := Hid.mk (all_any l ih hB S a cap _ (hl.below hb0))
  rw [text_k7]
  have hts := tx_size
  generalize joinT (l.map Tm.text) = X at hc hB
  have h1 : (⟨#[123]⟩ ++ tx X : ByteArray).size = X.length + 1 := by
    rw [show (⟨#[123]⟩ : ByteArray) = tx [123] from rfl, tx_append, tx_size]
    simp
  go_enter Tryz.func54, Tryz.ntmps54
  go_wp2_with (go_at_call 77; refine hc.out.mono ?_; rintro e w1 ⟨rfl, hb1⟩)
  go_ret
  refine ⟨?_, (Up.refl w).alloc.call hb1⟩
  show Ending.returned (.string (tx [123] ++ tx X ++ tx [125])) = _
  rw [tx_append, tx_append]
  simp

set_option maxHeartbeats 2000000 in
theorem tells_k5 (n : Int) (s : ByteArray) (l : List Tm) (ih0 : ∀ t ∈ l, Tells t) (h0 : 0 ≤ n) (h1 : n ≤ 1073741824) (hB : ((l.map Tm.text).flatMap (44 :: ·)).length ≤ 1000000000) : Tells (.mk 5 n s l) := by
  intro S v w hv
  obtain ⟨a, cap, rfl, hs, hl⟩ := hv.out
  have ih := Hid.mk ih0
  clear ih0
  have hlen : l.length ≤ 9223372036854775807 := Nat.le_trans hl.1 hl.2.1
  have hd := Hid.mk (dec_any n (by omega) (by omega))
  have hX : (dec n).length ≤ 21 := dec_len n
  have hts := tx_size
  rw [text_k5]
  generalize dec n = X at hd hX
  obtain ⟨P, hP⟩ : ∃ P, [35, 70, 117, 110, 60] ++ X = P := ⟨_, rfl⟩
  have hp1 : (⟨#[35, 70, 117, 110, 60]⟩ ++ tx X : ByteArray) = tx P := by rw [show (⟨#[35, 70, 117, 110, 60]⟩ : ByteArray) = tx [35, 70, 117, 110, 60] from rfl, tx_append, hP]
  have hPl : P.length ≤ 26 := by rw [← hP, List.length_append]; simp; omega
  have hP := Hid.mk hP
  go_enter Tryz.func54, Tryz.ntmps54
  go_wp2_with (go_at_call 52; refine (hd.out _).mono ?_; rintro e w1 ⟨rfl, rfl⟩)
  clear hp1
  obtain ⟨W0, hW0⟩ : ∃ W0, w.alloc (.cells #[.int .i64 5, .int .i64 n, .string s, .slice a l.length cap] 24) = W0 := ⟨_, rfl⟩
  rw [hW0]
  have hbox : W0.heap[w.heap.size]? = some (.cells #[.int .i64 5, .int .i64 n, .string s, .slice a l.length cap] 24) := by rw [← hW0]; exact new_block w _
  have hu0 : Up w W0 := by rw [← hW0]; exact (Up.refl w).alloc
  have hl0 := hl.below hu0.out
  clear hW0 hl
  go_loopw [3, 4] (fun oo ii wr => ∃ (i : Nat) (O : List UInt8), i ≤ l.length ∧ ii = .int .i64 i ∧ oo = .string (tx O) ∧ Hid (O = P ++ ((l.take i).map Tm.text).flatMap (44 :: ·)) ∧ Up W0 wr) (fun _ ii _ => l.length - (intOf ii).toNat)
  case atStart => exact ⟨0, P, Nat.zero_le _, rfl, rfl, Hid.mk (by simp), Up.refl _⟩
  case round =>
    obtain ⟨i, O, hi, rfl, rfl, hO, hb⟩ := hrel
    obtain ⟨⟨g0, g1, g2, g3⟩, f0, f1, f2, f3⟩ := kept4 hbox hb.out
    by_cases hlt : i < l.length
    · obtain ⟨b, o, rfl, _, hr⟩ := (hl0.below hb.out).some (by omega)
      obtain ⟨k', n', s', m', a', cap', hT, c0, c1, c2, c3, hli⟩ := hr.part i hlt
      have hc := Hid.mk (ih.out l[i] (List.getElem_mem hlt) S _ wr hli)
      have hst := texts_take l i hlt
      have hN : Hid (P ++ ((l.take (i + 1)).map Tm.text).flatMap (44 :: ·) = O ++ 44 :: l[i].text) := Hid.mk (by
        rw [hst, hO.out, List.flatMap_append]
        simp)
      have hb2 : O.length + l[i].text.length + 1 ≤ 1000000026 := by
        have h2 : (P ++ ((l.take (i + 1)).map Tm.text).flatMap (44 :: ·)).length ≤ 1000000026 := by
          have h3 : ((l.take (i + 1)).map Tm.text).flatMap (44 :: ·) ++ ((l.drop (i + 1)).map Tm.text).flatMap (44 :: ·) = (l.map Tm.text).flatMap (44 :: ·) := by rw [← List.flatMap_append, ← List.map_append, List.take_append_drop]
          have h4 := congrArg List.length h3
          rw [List.length_append] at h4 ⊢
          omega
        rw [hN.out, List.length_append, List.length_cons] at h2
        omega
      generalize l[i].text = Y at hc hN hb2
      clear hT hli hst
      have h44 : (tx O ++ ⟨#[44]⟩ : ByteArray).size = O.length + 1 := by
        rw [show (⟨#[44]⟩ : ByteArray) = tx [44] from rfl, tx_append, tx_size, List.length_append]
        rfl
      have hN2 : Hid (tx O ++ ⟨#[44]⟩ ++ tx Y = tx (P ++ ((l.take (i + 1)).map Tm.text).flatMap (44 :: ·))) := Hid.mk (by
        rw [hN.out, show (⟨#[44]⟩ : ByteArray) = tx [44] from rfl, tx_append, tx_append]
        simp)
      go_wp2_with (go_at_call 54; refine hc.out.mono ?_; rintro e w2 ⟨rfl, hb3⟩)
      go_roundw
      case rel => exact ⟨i + 1, _, by omega, by go_num, by rw [← hN2.out], Hid.mk rfl, hb.call hb3⟩
      case measure => simp [intOf]; omega
    · obtain rfl : i = l.length := by omega
      have hOl : O.length ≤ 1000000026 := by
        rw [hO.out, List.take_length, List.length_append]
        omega
      go_wp2
      go_ret
      refine ⟨?_, (hu0.call hb.out).out⟩
      show Ending.returned (.string (tx O ++ tx [62])) = _
      rw [tx_append, hO.out, List.take_length, ← hP.out]
      simp

end Go.Proofs.YtnbekfpkmebmbaaGreatDoor

/-
  The text of a Cons, as the document's answers make it.
-/
namespace Go.Proofs.YtnbekfpkmebmbaaGreatDoor
open Go.RowKit Go.Deep

set_option maxHeartbeats 4000000 in
theorem tells_k9 (n : Int) (s : ByteArray) (ta tb : Tm) (hf : (Tm.mk 9 n s [ta, tb]).fits = true) (ih0 : ∀ R : Tm, R.size < (Tm.mk 9 n s [ta, tb]).size → R.fits = true → Tells R) (hB : (Tm.mk 9 n s [ta, tb]).text.length ≤ 1000000000) : Tells (.mk 9 n s [ta, tb]) := by
  intro S0 v w hv0
  have hv := hv0.inside
  generalize hS' : (fun b => S0 b ∧ b < w.heap.size) = S at hv
  have hS : ∀ b, S b → b < w.heap.size := fun b hb => by rw [← hS'] at hb; exact hb.2
  clear hS' hv0
  obtain ⟨a, cap, rfl, hs, hl⟩ := hv.out
  have ih := Hid.mk ih0
  clear ih0
  have hts := tx_size
  have hfa := fitss_at (by rw [fits_mk, Bool.and_eq_true] at hf; exact hf.2) ta (by simp)
  have hfb := fitss_at (by rw [fits_mk, Bool.and_eq_true] at hf; exact hf.2) tb (by simp)
  obtain ⟨W0, hW0⟩ : ∃ W0, w.alloc (.cells #[.int .i64 9, .int .i64 n, .string s, .slice a 2 cap] 24) = W0 := ⟨_, rfl⟩
  have hbox : W0.heap[w.heap.size]? = some (.cells #[.int .i64 9, .int .i64 n, .string s, .slice a 2 cap] 24) := by rw [← hW0]; exact new_block w _
  have hu0 : Up w W0 := by rw [← hW0]; exact (Up.refl w).alloc
  have hl0 := hl.below hu0.out
  have hcap1 := hl.1
  obtain ⟨b, o, rfl, hSb, hr⟩ := hl.some (by simp)
  obtain ⟨ka, na, sa, ma, aa, capa, hTa, c0, c1, c2, c3, hlia⟩ := hr.part 0 (by simp)
  have hta := Hid.mk ((ih.out ta (by simp [Tm.size_mk, sizes]; omega) hfa) S _ W0 ((show Lies w S ta _ from hlia).below hu0.out))
  simp only [Nat.zero_mul, Nat.add_zero] at c0 c1 c2 c3
  obtain ⟨kb, nb, sb, mb, ab, capb, hTb, e0, e1, e2, e3, hlib⟩ := hr.part 1 (by simp)
  have hTb' : tb = .mk kb nb sb mb := hTb
  subst hTb'
  have hlib' : Lies w S (.mk kb nb sb mb) (.agg #[.int .i64 kb, .int .i64 nb, .string sb, .slice ab mb.length capb]) := hlib
  obtain ⟨ab', capb', hvb, hsb', hlb⟩ := hlib'.out
  simp only [Value.agg.injEq, Array.mk.injEq, List.cons.injEq, Value.slice.injEq, true_and, and_true] at hvb
  obtain ⟨rfl, rfl⟩ := hvb
  have d0 := cell_below hu0.out _ _ _ c0
  have d1 := cell_below hu0.out _ _ _ c1
  have d2 := cell_below hu0.out _ _ _ c2
  have d3 := cell_below hu0.out _ _ _ c3
  have hee := Hid.mk (⟨e0, e1, e2, e3⟩ : _ ∧ _ ∧ _ ∧ _)
  obtain ⟨⟨q0, q1, q2, q3⟩, _⟩ := kept4 hbox (Below.refl _ _)
  have hsz : (Tm.mk kb nb sb mb).size < (Tm.mk 9 n s [ta, .mk kb nb sb mb]).size := by
    rw [Tm.size_mk 9]
    simp only [sizes]
    omega
  generalize (Tm.mk 9 n s [ta, .mk kb nb sb mb]).size = Z at ih hsz
  have hsz := Hid.mk hsz
  have hcapp : 2 ≤ cap := by simpa using hcap1
  have hfb := Hid.mk hfb
  rw [text_k9] at hB ⊢
  rw [List.length_cons, List.length_append] at hB
  have hXl : ta.text.length ≤ 1000000000 := by omega
  obtain ⟨X, hX⟩ : ∃ X, ta.text = X := ⟨_, rfl⟩
  rw [hX] at hta hXl hB ⊢
  obtain ⟨F, hF⟩ : ∃ F, 91 :: (X ++ (Tm.mk kb nb sb mb).tail) = F := ⟨_, rfl⟩
  have hFl : F.length ≤ 1000000000 := by rw [← hF, List.length_cons, List.length_append]; exact hB
  rw [hF]
  have hF := Hid.mk hF
  have hW0 := Hid.mk hW0
  clear hX hr hlib hlib' hTb hl hl0 hv hB hfa hf hlia hTa hcap1 e0 e1 e2 e3 c0 c1 c2 c3
  have t0 := True.intro
  go_enter Tryz.func54, Tryz.ntmps54
  go_wp2_with (go_at_call 54; have g := t0; clear t0; refine hta.out.mono ?_; rintro e w1 ⟨rfl, hb1⟩; have hu1 := hu0.call hb1; have hbox1 := (hb1.block _ (Array.getElem?_eq_some_iff.1 hbox).1).trans hbox; obtain ⟨⟨g0, g1, g2, g3⟩, f0, f1, f2, f3⟩ := kept4 hbox1 (Below.refl _ _); have e0 := cell_below hu1.out _ _ _ hee.out.1; have e1 := cell_below hu1.out _ _ _ hee.out.2.1; have e2 := cell_below hu1.out _ _ _ hee.out.2.2.1; have e3 := cell_below hu1.out _ _ _ hee.out.2.2.2)
  go_loopg [5] Z (fun q oo wr => ∃ (k' n' : Int) (s' : ByteArray) (l' : List Tm) (a' : Option Addr) (cap' : Nat) (O : List UInt8), oo = .string (tx O) ∧ Hid ((Tm.mk k' n' s' l').size ≤ q) ∧ Hid ((Tm.mk k' n' s' l').size < Z) ∧ Hid ((Tm.mk k' n' s' l').fits = true) ∧
    wr.heap[w.heap.size]? = some (.cells #[.int .i64 k', .int .i64 n', .string s', .slice a' l'.length cap'] 24) ∧
    Small k' n' s' ∧ Lst w S l' a' cap' ∧ Hid (O ++ (Tm.mk k' n' s' l').tail = F) ∧ Up w wr)
  case atStart =>
    exact ⟨kb, nb, sb, mb, ab, capb, 91 :: X, by rw [show (⟨#[91]⟩ : ByteArray) = tx [91] from rfl, tx_append]; rfl, Hid.mk (by have := hsz.out; omega), hsz, hfb, set4_block hbox1, hsb', hlb, Hid.mk hF.out, Below.set4 hu1.out (Nat.le_refl _)⟩
  case round =>
    clear g0 g1 g2 g3 f0 f1 f2 f3 e0 e1 e2 e3 hbox1 hu1 hb1 hbox hta hlb hsb' hfb
    obtain ⟨k', n', s', l', a', cap', O, rfl, hzq, hzZ, hff, hbox, hs', hl', hOF, hu⟩ := hrel
    obtain ⟨⟨g0, g1, g2, g3⟩, f0, f1, f2, f3⟩ := kept4 hbox (Below.refl _ _)
    have hfit := hff.out
    rw [fits_mk, Bool.and_eq_true] at hfit
    have hOl : O.length ≤ 1000000000 := by
      have := congrArg List.length hOF.out
      rw [List.length_append] at this
      omega
    by_cases hk : k' = 9
    · subst hk
      obtain ⟨rfl, _, x, y, rfl⟩ := fitR_cons (fitR_fit hfit.1)
      obtain ⟨b2, o2, rfl, hSb2, hr2⟩ := hl'.some (by simp)
      have hcap2 : 2 ≤ cap' := by simpa using hl'.1
      obtain ⟨k1, n1, s1, m1, a1, cap1, hT1, c0, c1, c2, c3, hli1⟩ := hr2.part 0 (by simp)
      obtain ⟨k2, n2, s2, m2, a2, cap3, hT2, e0, e1, e2, e3, hli2⟩ := hr2.part 1 (by simp)
      have hT2' : y = .mk k2 n2 s2 m2 := hT2
      subst hT2'
      have hli2' : Lies w S (.mk k2 n2 s2 m2) (.agg #[.int .i64 k2, .int .i64 n2, .string s2, .slice a2 m2.length cap3]) := hli2
      obtain ⟨a2', cap3', hv2, hs2, hl2⟩ := hli2'.out
      simp only [Value.agg.injEq, Array.mk.injEq, List.cons.injEq, Value.slice.injEq, true_and, and_true] at hv2
      obtain ⟨rfl, rfl⟩ := hv2
      simp only [Nat.zero_mul, Nat.add_zero] at c0 c1 c2 c3
      have d0 := cell_below hu.out _ _ _ c0
      have d1 := cell_below hu.out _ _ _ c1
      have d2 := cell_below hu.out _ _ _ c2
      have d3 := cell_below hu.out _ _ _ c3
      have hee := Hid.mk (⟨e0, e1, e2, e3⟩ : _ ∧ _ ∧ _ ∧ _)
      have hm := fitss_at hfit.2
      have hzq' := hzq.out
      have hzZ' := hzZ.out
      rw [Tm.size_mk] at hzq' hzZ'
      simp only [sizes] at hzq' hzZ'
      have hxp := x.size_pos
      have hc := Hid.mk (ih.out x (by omega) (hm x (by simp)) S _ wr ((show Lies w S x _ from hli1).below hu.out))
      have hfy := Hid.mk (hm (.mk k2 n2 s2 m2) (by simp))
      have hz1 := Hid.mk (show (Tm.mk k2 n2 s2 m2).size + 1 ≤ gk by omega)
      have hz2 := Hid.mk (show (Tm.mk k2 n2 s2 m2).size < Z by omega)
      have hgk : 1 ≤ gk := by omega
      have hOF2 := hOF.out
      rw [tail_k9] at hOF2
      generalize x.text = Y at hc hOF2
      have hYl : O.length + Y.length + 1 ≤ 1000000000 := by
        have := congrArg List.length hOF2
        rw [List.length_append, List.length_cons, List.length_append] at this
        omega
      have h44 : (tx O ++ ⟨#[44]⟩ : ByteArray).size = O.length + 1 := by
        rw [show (⟨#[44]⟩ : ByteArray) = tx [44] from rfl, tx_append, tx_size, List.length_append]
        rfl
      have hN : Hid (tx O ++ ⟨#[44]⟩ ++ tx Y = tx (O ++ 44 :: Y)) := Hid.mk (by
        rw [show (⟨#[44]⟩ : ByteArray) = tx [44] from rfl, tx_append, tx_append]
        simp)
      have hO2 := Hid.mk hOF2
      have hbox' := Hid.mk hbox
      clear hr2 hT1 hT2 hli1 hli2 hli2' c0 c1 c2 c3 e0 e1 e2 e3 hm hzq' hzZ' hfit hOF hzq hzZ hOF2 hff
      have t1 := True.intro
      go_wp2_with (go_at_call 54; have g := t1; clear t1; refine hc.out.mono ?_; rintro e w2 ⟨rfl, hb3⟩; have hu2 := hu.call hb3; have hbox2 := (hb3.block _ (Array.getElem?_eq_some_iff.1 hbox'.out).1).trans hbox'.out; obtain ⟨⟨p0, p1, p2, p3⟩, r0, r1, r2, r3⟩ := kept4 hbox2 (Below.refl _ _); have u0 := cell_below hu2.out _ _ _ hee.out.1; have u1 := cell_below hu2.out _ _ _ hee.out.2.1; have u2 := cell_below hu2.out _ _ _ hee.out.2.2.1; have u3 := cell_below hu2.out _ _ _ hee.out.2.2.2)
      go_roundg (gk - 1)
      case rel =>
        have := hz1.out
        exact ⟨k2, n2, s2, m2, a2, cap3, O ++ 44 :: Y, by rw [← hN.out], Hid.mk (by omega), hz2, hfy, set4_block hbox2, hs2, hl2, Hid.mk (by rw [← hO2.out]; simp), Below.set4 hu2.out (Nat.le_refl _)⟩
      case measure => omega
    · have hk' := fitR_kind (fitR_fit hfit.1)
      clear hfit
      by_cases hk8 : k' = 8
      · subst hk8
        have hOF2 := hOF.out
        rw [tail_k8] at hOF2
        go_wp2
        go_ret
        refine ⟨?_, hu.out⟩
        show Ending.returned (.string (tx O ++ tx [93])) = _
        rw [tx_append, hOF2]
      · have hOF2 := hOF.out
        rw [tail_else _ _ _ _ hk8 hk] at hOF2
        have hc := Hid.mk (ih.out (.mk k' n' s' l') hzZ.out hff.out S _ wr (Lies.mk hs' (hl'.below hu.out)))
        clear hOF hff hzZ hzq
        generalize (Tm.mk k' n' s' l').text = Y at hc hOF2
        have hYl : O.length + Y.length + 2 ≤ 1000000000 := by
          have := congrArg List.length hOF2
          rw [List.length_append, List.length_cons, List.length_append] at this
          simp only [List.length_cons, List.length_nil] at this
          omega
        have h124 : (tx O ++ ⟨#[124]⟩ : ByteArray).size = O.length + 1 := by
          rw [show (⟨#[124]⟩ : ByteArray) = tx [124] from rfl, tx_append, tx_size, List.length_append]
          rfl
        have h125 : (tx O ++ ⟨#[124]⟩ ++ tx Y : ByteArray).size = O.length + 1 + Y.length := by
          rw [ByteArray.size_append, h124, tx_size]
        have hO2 := Hid.mk hOF2
        clear hOF2
        go_wp2_with (go_at_call 54; refine hc.out.mono ?_; rintro e w2 ⟨rfl, hb3⟩)
        go_ret
        refine ⟨?_, (hu.call hb3).out⟩
        show Ending.returned (.string (tx O ++ tx [124] ++ tx Y ++ tx [93])) = _
        rw [tx_append, tx_append, tx_append, ← hO2.out]
        simp

end Go.Proofs.YtnbekfpkmebmbaaGreatDoor

/-
  The text of every term that fits, as the document's answers make it.
-/
namespace Go.Proofs.YtnbekfpkmebmbaaGreatDoor
open Go.RowKit Go.Deep

theorem sizes_in {l : List Tm} {t : Tm} (h : t ∈ l) : t.size ≤ sizes l := by
  obtain ⟨i, hi, rfl⟩ := List.getElem_of_mem h
  exact sizes_at l i hi
theorem fits_of_check {T : Tm} (h : T.check = 0) : T.fits = true := by
  rw [Tm.check, fits_pre] at h
  cases hf : T.fits with
  | true => rfl
  | false => rw [hf] at h; simp at h

theorem tells_to : ∀ (z : Nat) (T : Tm), T.size ≤ z → z ≤ 1000000 → T.fits = true → Tells T := by
  intro z
  induction z with
  | zero =>
    intro T hz _ _
    have := T.size_pos
    omega
  | succ z ih =>
    intro T hz hz1 hf
    have ih2 : ∀ R : Tm, R.size < T.size → R.fits = true → Tells R := fun R h1 h2 => ih R (by omega) (by omega) h2
    have htl := (text_len T hf).1
    obtain ⟨k, n, s, l⟩ := T
    have hfit := hf
    rw [fits_mk, Bool.and_eq_true] at hfit
    have hm := fitss_at hfit.2
    have hk := fitR_kind (fitR_fit hfit.1)
    have g := hfit.1
    unfold fitB at g
    simp only [decide_eq_true_eq] at g
    have hsz := Tm.size_mk k n s l
    have hin : ∀ t ∈ l, Tells t := fun t ht => ih2 t (by have := sizes_in ht; omega) (hm t ht)
    have hle : (Tm.mk k n s l).text.length ≤ 300000000 := by omega
    obtain h1 | h1 | h1 | h1 | h1 | h1 | h1 | h1 | h1 : k = 1 ∨ k = 2 ∨ k = 3 ∨ k = 4 ∨ k = 5 ∨ k = 6 ∨ k = 7 ∨ k = 8 ∨ k = 9 := by omega
    all_goals subst h1
    · intro S v w hv
      obtain ⟨a, cap, rfl, _, _⟩ := hv.out
      exact write_any_k1 n s l (by omega) (by omega) a _ cap w
    · intro S v w hv
      obtain ⟨a, cap, rfl, _, _⟩ := hv.out
      exact write_any_k2 n s l (by omega) a _ cap w
    · intro S v w hv
      obtain ⟨a, cap, rfl, _, _⟩ := hv.out
      exact write_any_k3 n s l (by omega) (by omega) a _ cap w
    · intro S v w hv
      obtain ⟨a, cap, rfl, _, _⟩ := hv.out
      exact write_any_k4 n s l (by omega) (by omega) a _ cap w
    · refine tells_k5 n s l hin (by omega) (by omega) ?_
      rw [text_k5] at hle
      simp only [List.length_append, List.length_cons, List.length_nil] at hle
      omega
    · intro S v w hv
      obtain ⟨a, cap, rfl, _, _⟩ := hv.out
      exact write_any_k6 n s l (by omega) (by omega) a _ cap w
    · refine tells_k7 n s l hin ?_
      rw [text_k7] at hle
      simp only [List.length_append, List.length_cons, List.length_nil] at hle
      omega
    · intro S v w hv
      obtain ⟨a, cap, rfl, _, _⟩ := hv.out
      exact write_any_k8 n s l a _ cap w
    · obtain ⟨_, _, x, y, rfl⟩ := fitR_cons (fitR_fit hfit.1)
      exact tells_k9 n s x y hf ih2 (by omega)

/-- The text of a term that fits. -/
theorem text_any (T : Tm) (hsz : T.size ≤ 1000000) (hf : T.fits = true) : Tells T := tells_to 1000000 T hsz (Nat.le_refl _) hf

end Go.Proofs.YtnbekfpkmebmbaaGreatDoor

/-
  A term's text has at least as many bytes as the term has parts.
-/
namespace Go.Proofs.YtnbekfpkmebmbaaGreatDoor
open Go.RowKit Go.Deep

theorem commas_ge (l : List Tm) (h : ∀ t ∈ l, t.size ≤ t.text.length) : sizes l + l.length ≤ ((l.map Tm.text).flatMap (44 :: ·)).length := by
  induction l with
  | nil => simp [sizes]
  | cons t r ih =>
    have h1 := h t List.mem_cons_self
    have h2 := ih fun t ht => h t (List.mem_cons_of_mem _ ht)
    rw [List.map_cons, List.flatMap_cons, List.length_append, List.length_cons, List.length_cons, sizes]
    omega
theorem join_ge (l : List Tm) (h : ∀ t ∈ l, t.size ≤ t.text.length) : sizes l ≤ (joinT (l.map Tm.text)).length := by
  cases l with
  | nil => simp [sizes]
  | cons t r =>
    have h1 := h t List.mem_cons_self
    have h2 := commas_ge r fun t ht => h t (List.mem_cons_of_mem _ ht)
    rw [List.map_cons, joinT, List.length_append, sizes]
    omega
theorem dec_pos (n : Int) : 1 ≤ (dec n).length := by
  obtain ⟨c, x, e, _⟩ := dec_head n
  rw [e]
  simp
theorem text_pos (k n : Int) (s : List UInt8) (ps : List (List UInt8 × List UInt8)) : 1 ≤ (textOf k n s ps).length := by
  obtain ⟨c, x, e, _⟩ := text_head k n s ps
  rw [e]
  simp
theorem text_ge (T : Tm) : T.fitsR = true → T.size ≤ T.text.length ∧ T.size ≤ T.tail.length := by
  induction T using Tm.induct with
  | h k n s l ih =>
    intro hT
    rw [fitsR_mk, Bool.and_eq_true] at hT
    have hm := fitssR_at hT.2
    have hk := fitR_kind hT.1
    have g := hT.1
    unfold fitR fitB at g
    simp only [decide_eq_true_eq] at g
    have hc := commas_ge l (fun t ht => (ih t ht (hm t ht)).1)
    have hj := join_ge l (fun t ht => (ih t ht (hm t ht)).1)
    have hsz := Tm.size_mk k n s l
    have hp := text_pos k n s.toList (l.map Tm.txs)
    rw [← text_mk] at hp
    have A : (Tm.mk k n s l).size ≤ (Tm.mk k n s l).text.length := by
      rw [hsz]
      by_cases h5 : k = 5
      · subst h5
        rw [text_k5]
        simp only [List.length_append, List.length_cons, List.length_nil]
        omega
      by_cases h7 : k = 7
      · subst h7
        rw [text_k7]
        simp only [List.length_append, List.length_cons, List.length_nil]
        omega
      by_cases h9 : k = 9
      · subst h9
        obtain ⟨_, _, a, b, rfl⟩ := fitR_cons hT.1
        have h1 := ih a (by simp) (hm a (by simp))
        have h2 := ih b (by simp) (hm b (by simp))
        rw [text_k9]
        simp only [List.length_append, List.length_cons, sizes]
        omega
      · have hl : l = [] := by
          cases l with
          | nil => rfl
          | cons a r =>
            exfalso
            simp at g
            omega
        subst hl
        simp only [sizes]
        omega
    refine ⟨A, ?_⟩
    by_cases h9 : k = 9
    · subst h9
      obtain ⟨_, _, a, b, rfl⟩ := fitR_cons hT.1
      rw [text_k9] at A
      rw [tail_k9]
      simp only [List.length_append, List.length_cons] at A ⊢
      exact A
    by_cases h8 : k = 8
    · subst h8
      have hl : l = [] := by
        cases l with
        | nil => rfl
        | cons a r =>
          exfalso
          simp at g
      subst hl
      rw [hsz, tail_mk, tailOf, if_neg h9, if_pos rfl]
      simp [sizes]
    · rw [tail_mk, tailOf, if_neg h9, if_neg h8, ← text_mk]
      simp only [List.length_append, List.length_cons, List.length_nil]
      omega
end Go.Proofs.YtnbekfpkmebmbaaGreatDoor
