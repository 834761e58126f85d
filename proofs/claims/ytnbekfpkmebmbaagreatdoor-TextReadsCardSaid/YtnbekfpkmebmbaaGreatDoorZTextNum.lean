/-
  Numbers: the library writes a number's digits, and reads them.
-/
import Derived.Test.YtnbekfpkmebmbaaGreatDoorZOrdPlain
import Derived.Test.YtnbekfpkmebmbaaGreatDoorZTextSh
import Derived.Test.YtnbekfpkmebmbaaGreatDoorZTextDec
import Derived.Test.YtnbekfpkmebmbaaGreatDoorZKitBase
import Derived.Lib.AppendIntMem
import Derived.Lib.AtoiErrMem
import Derived.WalkSmall
namespace Go.Proofs.YtnbekfpkmebmbaaGreatDoor
open Go.RowKit Go.Deep

/-- The variables of packages hold what they are laid as. -/
structure Wld (w : World) : Prop where
  shapes : ShapeTab w
  pow : Lib.TabIs Tryz.prog w "internal/strconv.uint64pow10" .u64 Lib.pow10Tab
  syn : ∃ tp p, w.var? Tryz.prog "strconv.ErrSyntax" = some #[.iface tp p]
  ran : ∃ tp p, w.var? Tryz.prog "strconv.ErrRange" = some #[.iface tp p]
  size : 6 ≤ w.heap.size
theorem gPow : Tryz.prog.globalNamed "internal/strconv.uint64pow10" = some 3 := by kernel_rfl
theorem gSyn : Tryz.prog.globalNamed "strconv.ErrSyntax" = some 1 := by kernel_rfl
theorem gRan : Tryz.prog.globalNamed "strconv.ErrRange" = some 2 := by kernel_rfl
theorem Wld.from {w w' : World} {B : Nat} (h : Wld w) (hb : Below B w w') (hB : 6 ≤ B) : Wld w' := by
  obtain ⟨h1, h2, ⟨t1, p1, h3⟩, ⟨t2, p2, h4⟩, h5⟩ := h
  exact ⟨h1.from hb (by omega), var?_below hb gPow (by omega) h2, ⟨t1, p1, var?_below hb gSyn (by omega) h3⟩, ⟨t2, p2, var?_below hb gRan (by omega) h4⟩, Nat.le_trans h5 hb.size⟩
theorem Wld.next {w w' : World} (h : Wld w) (hb : Below w.heap.size w w') : Wld w' := h.from hb h.size

theorem decDigits_is (u : Nat) : u < 10000000000000000000 → Lib.decDigits u = decN u := by
  induction u using Nat.strongRecOn with
  | _ u ih =>
    intro h
    rw [Lib.decDigits]
    split
    · rename_i h10
      rw [decN_small h10]
      rfl
    · rename_i h10
      rw [ih (u / 10) (by omega) (by omega), decN_step (by omega) h]
      rfl
theorem itoa_is (n : Int) (h0 : -9223372036854775808 ≤ n) (h1 : n ≤ 9223372036854775807) : Lib.itoa n = dec n := by
  unfold Lib.itoa dec
  split
  · rw [decDigits_is _ (by omega), show n.natAbs = (-n).toNat by omega]
  · rw [decDigits_is _ (by omega)]
theorem itoa_any (n : Int) (h0 : -9223372036854775808 ≤ n) (h1 : n ≤ 9223372036854775807) (w : World) (hw : Wld w) :
    Calls Tryz.prog 97 #[.int .i64 n] w fun e w' => e = .returned (.string (tx (dec n))) ∧ Below w.heap.size w w' := by
  refine (show Calls Tryz.prog 97 _ _ _ from Any.strconv_Itoa shlaysM171 n h0 h1 w hw.pow).mono ?_
  rintro e w' ⟨rfl, k, os, rfl⟩
  rw [itoa_is n h0 h1]
  exact ⟨rfl, Lib.below_grow _ w (Nat.le_refl _) k os⟩

/-! ### Digits as numbers -/

theorem fold_le (ds : List UInt8) : ∀ a : Nat, a ≤ ds.foldl (fun a c => 10 * a + (c.toNat - 48)) a := by
  induction ds with
  | nil => intro a; exact Nat.le_refl _
  | cons c r ih =>
    intro a
    have := ih (10 * a + (c.toNat - 48))
    rw [List.foldl_cons]
    omega
theorem parse_is (ds : List UInt8) (hd : ∀ c ∈ ds, isDig c = true) : ∀ a u : Nat, Lib.parseUint10 a ds = .ok u → u = ds.foldl (fun a c => 10 * a + (c.toNat - 48)) a := by
  induction ds with
  | nil => intro a u h; simp only [Lib.parseUint10] at h; injection h with h; exact h.symm
  | cons c r ih =>
    intro a u h
    simp only [Lib.parseUint10] at h
    split at h
    · split at h
      · cases h
      · split at h
        · cases h
        · rw [ih (fun x hx => hd x (List.mem_cons_of_mem _ hx)) _ u h, List.foldl_cons, Nat.mul_comm]
    · cases h
theorem parse_ok (ds : List UInt8) (hd : ∀ c ∈ ds, isDig c = true) : ∀ a : Nat, ds.foldl (fun a c => 10 * a + (c.toNat - 48)) a < 18446744073709551616 → Lib.parseUint10 a ds = .ok (ds.foldl (fun a c => 10 * a + (c.toNat - 48)) a) := by
  induction ds with
  | nil => intro a _; rfl
  | cons c r ih =>
    intro a h
    have hc := hd c List.mem_cons_self
    unfold isDig at hc
    simp only [decide_eq_true_eq] at hc
    rw [List.foldl_cons] at h ⊢
    have hle := fold_le r (10 * a + (c.toNat - 48))
    simp only [Lib.parseUint10]
    rw [if_pos hc, if_neg (by omega), if_neg (by omega), Nat.mul_comm a 10]
    exact ih (fun x hx => hd x (List.mem_cons_of_mem _ hx)) _ h
theorem span_dig (q : List UInt8) : ∀ c ∈ q.takeWhile isDig, isDig c = true := fun c hc => by
  exact List.all_eq_true.1 List.all_takeWhile c hc
theorem span_two (q : List UInt8) : (∃ ds, numSpan q = 45 :: ds ∧ ∀ c ∈ ds, isDig c = true) ∨ ((∀ c ∈ numSpan q, isDig c = true)) := by
  unfold numSpan
  split
  · exact Or.inl ⟨_, rfl, span_dig _⟩
  · exact Or.inr (span_dig _)
/-- What Atoi makes of a number's signs. -/
theorem atoi_ok {q : List UInt8} {v : Int} (h : Lib.atoiAll (numSpan q) = .ok v) : v = numVal (numSpan q) ∧ -9223372036854775808 ≤ v ∧ v ≤ 9223372036854775807 := by
  rcases span_two q with ⟨ds, e, hd⟩ | hd
  · rw [e] at h ⊢
    unfold Lib.atoiAll at h
    simp only [show (45 : UInt8).toNat = 45 from rfl, or_true, if_true, not_true, false_and, if_false, true_and] at h
    unfold Lib.parseMag at h
    split at h
    · cases h
    · cases h
    · rename_i u hu
      split at hu
      · cases hu
      · have hv := parse_is ds hd 0 u hu
        split at h
        · cases h
        · rename_i hr
          injection h with h
          subst h
          refine ⟨?_, by omega, by omega⟩
          unfold numVal valD
          simp only [List.head?_cons, if_true, List.tail_cons]
          rw [hv]
  · cases hl : numSpan q with
    | nil => rw [hl] at h; cases h
    | cons c r =>
      rw [hl] at h hd
      have hc := hd c List.mem_cons_self
      have h45 := dig_not45 hc
      unfold isDig at hc
      simp only [decide_eq_true_eq] at hc
      unfold Lib.atoiAll at h
      simp only [show ¬ c.toNat = 43 by omega, show ¬ c.toNat = 45 by omega, or_self, if_false, not_false_eq_true, true_and, false_and] at h
      unfold Lib.parseMag at h
      rw [if_neg (by simp)] at h
      split at h
      · cases h
      · cases h
      · rename_i u hu
        have hv := parse_is (c :: r) hd 0 u hu
        split at h
        · cases h
        · rename_i hr
          injection h with h
          subst h
          refine ⟨?_, by omega, by omega⟩
          unfold numVal valD
          rw [if_neg (by simp only [List.head?_cons, Option.some.injEq]; exact h45), hv]
theorem ok_atoi {q : List UInt8} (h0 : dec (numVal (numSpan q)) = numSpan q) (h1 : -9223372036854775808 ≤ numVal (numSpan q)) (h2 : numVal (numSpan q) ≤ 9223372036854775807) : Lib.atoiAll (numSpan q) = .ok (numVal (numSpan q)) := by
  rcases span_two q with ⟨ds, e, hd⟩ | hd
  · rw [e] at h0 h1 h2 ⊢
    have hn : numVal (45 :: ds) = -(valD ds : Int) := by unfold numVal; simp
    have hne : ds ≠ [] := by
      rintro rfl
      rw [hn] at h0
      exact absurd h0 (by decide)
    rw [hn] at h1 h2 ⊢
    unfold Lib.atoiAll
    simp only [show (45 : UInt8).toNat = 45 from rfl, or_true, if_true, not_true, false_and, if_false, true_and]
    unfold Lib.parseMag
    rw [if_neg hne, parse_ok ds hd 0 (by unfold valD at h1; omega)]
    simp only
    rw [if_neg (by unfold valD at h1; omega)]
    rfl
  · cases hl : numSpan q with
    | nil =>
      rw [hl] at h0
      exact absurd h0 (by decide)
    | cons c r =>
      rw [hl] at h0 h1 h2 hd
      have hc := hd c List.mem_cons_self
      have h45 := dig_not45 hc
      unfold isDig at hc
      simp only [decide_eq_true_eq] at hc
      have hn : numVal (c :: r) = (valD (c :: r) : Int) := by unfold numVal; rw [if_neg (by simp only [List.head?_cons, Option.some.injEq]; exact h45)]
      rw [hn] at h1 h2 ⊢
      unfold Lib.atoiAll
      simp only [show ¬ c.toNat = 43 by omega, show ¬ c.toNat = 45 by omega, or_self, if_false, not_false_eq_true, true_and, false_and]
      unfold Lib.parseMag
      rw [if_neg (by simp), parse_ok (c :: r) hd 0 (by unfold valD at h2; omega)]
      simp only
      rw [if_neg (by unfold valD at h2; omega)]
      rfl

/-- Atoi of a number's signs: the number, and no error; or some error. -/
theorem atoi_any (q : List UInt8) (hq : (numSpan q).length ≤ 1000000000) (w : World) (hw : Wld w) :
    Calls Tryz.prog 96 #[.string (tx (numSpan q))] w fun e w' => ((∃ v, Lib.atoiAll (numSpan q) = .ok v ∧ e = .returned (.tuple #[.int .i64 v, .nilIface])) ∨ ((∀ v, Lib.atoiAll (numSpan q) ≠ .ok v) ∧ ∃ v N, e = .returned (.tuple #[.int .i64 v, .iface 111 (.pointer (some ⟨N, 0, none⟩))]))) ∧ Below w.heap.size w w' := by
  have hs := tx_size (numSpan q)
  have hd : (tx (numSpan q)).data.toList = numSpan q := rfl
  rcases h : Lib.atoiAll (numSpan q) with v | _ | _
  · refine (show Calls Tryz.prog 96 _ _ _ from Any.strconv_Atoi_ok shlaysC172 (tx (numSpan q)) (by omega) v (by rw [hd]; exact h) w).mono ?_
    rintro e w' ⟨rfl, rfl | ⟨t, rfl⟩⟩
    · exact ⟨Or.inl ⟨v, rfl, rfl⟩, Below.refl _ _⟩
    · exact ⟨Or.inl ⟨v, rfl, rfl⟩, Lib.bytesWorld_below w _ t⟩
  · obtain ⟨tp, p, hv⟩ := hw.syn
    refine (show Calls Tryz.prog 96 _ _ _ from Any.strconv_Atoi_syntax_var shlaysC172 (tx (numSpan q)) (by omega) (by rw [hd]; exact h) tp p w hv).mono ?_
    rintro e w' ⟨N, rfl, _, _, hb⟩
    exact ⟨Or.inr ⟨fun v h => (by cases h), 0, N, rfl⟩, hb⟩
  · obtain ⟨tp, p, hv⟩ := hw.ran
    refine (show Calls Tryz.prog 96 _ _ _ from Any.strconv_Atoi_range_var shlaysC172 (tx (numSpan q)) (by omega) (by rw [hd]; exact h) tp p w hv).mono ?_
    rintro e w' ⟨N, rfl, _, _, hb⟩
    exact ⟨Or.inr ⟨fun v h => (by cases h), _, N, rfl⟩, hb⟩

end Go.Proofs.YtnbekfpkmebmbaaGreatDoor
