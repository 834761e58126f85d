/-
  The reader of the document's answers: an atom in quotes, byte by byte. Nothing of the program stands here.
-/
import Derived.Test.YtnbekfpkmebmbaaGreatDoorZOrdPlain
import Derived.Test.YtnbekfpkmebmbaaGreatDoorZTextDec
namespace Go.Proofs.YtnbekfpkmebmbaaGreatDoor

/-- Of the text Z, where it is an atom's bytes and a quote, the bytes in O have been read, and Q is left. -/
def Half (Z O Q : List UInt8) : Prop := ∀ X r, Z = X.flatMap qb ++ 39 :: r → ∃ Y, X = O ++ Y ∧ Q = Y.flatMap qb ++ 39 :: r
theorem half_start (Z : List UInt8) : Half Z [] Z := fun X _ h => ⟨X, rfl, h⟩
/-- What hex says of a digit. -/
def hexE (c : UInt8) : Int := if isDig c = true then (c.toNat : Int) - 48 else if 97 ≤ c.toNat ∧ c.toNat ≤ 102 then (c.toNat : Int) - 87 else -1
theorem hexE_hxd {d : Nat} (h : d < 16) : hexE (hxd d) = d := by
  have ht := hxd_toNat h
  unfold hexE isDig
  rw [ht]
  by_cases h9 : d < 10
  · simp only [if_pos h9]
    rw [if_pos (by simp; omega)]
    omega
  · simp only [if_neg h9]
    rw [if_neg (by simp; omega), if_pos (by omega)]
    omega
theorem qb_kinds (y : UInt8) : (qb y = [92, 120, hxd (y.toNat / 16), hxd (y.toNat % 16)]) ∨ ((y = 39 ∨ y = 92) ∧ qb y = [92, y]) ∨ (y ≠ 92 ∧ y ≠ 39 ∧ qb y = [y]) := by
  unfold qb
  split
  · exact Or.inl rfl
  · split
    · rename_i h
      exact Or.inr (Or.inl ⟨h, rfl⟩)
    · rename_i h
      exact Or.inr (Or.inr ⟨fun e => h (Or.inr e), fun e => h (Or.inl e), rfl⟩)
/-- A byte that stands for itself. -/
theorem half_one {Z O Q : List UInt8} {c : UInt8} (h : Half Z O (c :: Q)) (h1 : c ≠ 39) (h2 : c ≠ 92) : Half Z (O ++ [c]) Q := by
  intro X r hZ
  obtain ⟨Y, hX, hQ⟩ := h X r hZ
  cases Y with
  | nil => exact absurd (List.cons.inj hQ).1 h1
  | cons y Y =>
    rw [List.flatMap_cons] at hQ
    rcases qb_kinds y with e | ⟨_, e⟩ | ⟨_, _, e⟩
    · rw [e] at hQ; exact absurd (List.cons.inj hQ).1 h2
    · rw [e] at hQ; exact absurd (List.cons.inj hQ).1 h2
    · rw [e] at hQ
      obtain ⟨e1, e2⟩ := List.cons.inj hQ
      subst e1
      exact ⟨Y, by rw [hX]; simp, e2⟩
/-- A byte behind a stroke. -/
theorem half_two {Z O Q : List UInt8} {c : UInt8} (h : Half Z O (92 :: c :: Q)) (h1 : c = 120 → Q.length < 2) : Half Z (O ++ [c]) Q := by
  intro X r hZ
  obtain ⟨Y, hX, hQ⟩ := h X r hZ
  cases Y with
  | nil => exact absurd (List.cons.inj hQ).1 (by decide)
  | cons y Y =>
    rw [List.flatMap_cons] at hQ
    rcases qb_kinds y with e | ⟨_, e⟩ | ⟨h3, _, e⟩
    · rw [e] at hQ
      obtain ⟨_, e2⟩ := List.cons.inj hQ
      obtain ⟨e3, e4⟩ := List.cons.inj e2
      have := h1 e3
      rw [e4] at this
      simp at this
      omega
    · rw [e] at hQ
      obtain ⟨_, e2⟩ := List.cons.inj hQ
      obtain ⟨e3, e4⟩ := List.cons.inj e2
      subst e3
      exact ⟨Y, by rw [hX]; simp, e4⟩
    · rw [e] at hQ
      exact absurd (List.cons.inj hQ).1.symm h3
/-- A stroke that nothing stands behind. -/
theorem half_none {Z O : List UInt8} (c : UInt8) (h : Half Z O [92]) (Q : List UInt8) : Half Z (O ++ [c]) Q := by
  intro X r hZ
  obtain ⟨Y, hX, hQ⟩ := h X r hZ
  have hl := congrArg List.length hQ
  cases Y with
  | nil => exact absurd (List.cons.inj hQ).1 (by decide)
  | cons y Y =>
    rw [List.flatMap_cons] at hl
    have := qb_pos y
    simp at hl
    omega
/-- A byte told by two digits. -/
theorem half_four {Z O Q : List UInt8} {a b : UInt8} (h : Half Z O (92 :: 120 :: a :: b :: Q)) (c : UInt8) (hc : ∀ y : UInt8, a = hxd (y.toNat / 16) → b = hxd (y.toNat % 16) → c = y) : Half Z (O ++ [c]) Q := by
  intro X r hZ
  obtain ⟨Y, hX, hQ⟩ := h X r hZ
  cases Y with
  | nil => exact absurd (List.cons.inj hQ).1 (by decide)
  | cons y Y =>
    rw [List.flatMap_cons] at hQ
    rcases qb_kinds y with e | ⟨h3, e⟩ | ⟨h3, _, e⟩
    · rw [e] at hQ
      obtain ⟨_, e2⟩ := List.cons.inj hQ
      obtain ⟨_, e4⟩ := List.cons.inj e2
      obtain ⟨e5, e6⟩ := List.cons.inj e4
      obtain ⟨e7, e8⟩ := List.cons.inj e6
      have := hc y e5 e7
      subst this
      exact ⟨Y, by rw [hX]; simp, e8⟩
    · rw [e] at hQ
      obtain ⟨_, e2⟩ := List.cons.inj hQ
      have e3 := (List.cons.inj e2).1
      subst e3
      rcases h3 with h3 | h3 <;> exact absurd h3 (by decide)
    · rw [e] at hQ
      exact absurd (List.cons.inj hQ).1.symm h3
/-- The byte that the two digits tell. -/
theorem hexE_byte {a b y : UInt8} (h1 : a = hxd (y.toNat / 16)) (h2 : b = hxd (y.toNat % 16)) : (16 * hexE a + hexE b) = y.toNat := by
  have hy : y.toNat < 256 := y.toNat_lt
  rw [h1, h2, hexE_hxd (by omega), hexE_hxd (by omega)]
  omega

end Go.Proofs.YtnbekfpkmebmbaaGreatDoor

/-
  The reader of the document's answers: a digit told by hex.
-/
namespace Go.Proofs.YtnbekfpkmebmbaaGreatDoor
open Go.RowKit Go.Deep

theorem hexE_any (c : UInt8) (w : World) : Calls Tryz.prog 53 #[.int .u8 c.toNat] w fun e w' => e = .returned (.int .i64 (hexE c)) ∧ w = w' := by
  have hd := Hid.mk (dig_any c)
  have hl := Hid.mk (within_any (c.toNat : Int) 97 102)
  have hc : c.toNat < 256 := c.toNat_lt
  go_enter Tryz.func53, Tryz.ntmps53
  cases hdc : isDig c
  · by_cases h97 : 97 ≤ c.toNat ∧ c.toNat ≤ 102
    · have hle : decide ((97 : Int) ≤ c.toNat ∧ (c.toNat : Int) ≤ 102) = true := decide_eq_true (by omega)
      go_wp2_with (first
        | (go_at_call 24; (with_reducible refine (hd.out _).mono ?_); rintro e w1 ⟨rfl, rfl⟩; rw [hdc])
        | (go_at_call 24; (with_reducible refine (hl.out _).mono ?_); rintro e w1 ⟨rfl, rfl⟩; rw [hle]))
      go_ret
      refine ⟨?_, rfl⟩
      unfold hexE
      rw [hdc, if_neg (by decide), if_pos h97]
      simp
      omega
    · have hle : decide ((97 : Int) ≤ c.toNat ∧ (c.toNat : Int) ≤ 102) = false := decide_eq_false (by omega)
      go_wp2_with (first
        | (go_at_call 24; (with_reducible refine (hd.out _).mono ?_); rintro e w1 ⟨rfl, rfl⟩; rw [hdc])
        | (go_at_call 24; (with_reducible refine (hl.out _).mono ?_); rintro e w1 ⟨rfl, rfl⟩; rw [hle]))
      go_ret
      refine ⟨?_, rfl⟩
      unfold hexE
      rw [hdc, if_neg (by decide), if_neg h97]
      rfl
  · have hdr : 48 ≤ c.toNat ∧ c.toNat ≤ 57 := of_decide_eq_true hdc
    go_wp2_with (first
      | (go_at_call 24; (with_reducible refine (hd.out _).mono ?_); rintro e w1 ⟨rfl, rfl⟩; rw [hdc]))
    go_ret
    refine ⟨?_, rfl⟩
    unfold hexE
    rw [hdc, if_pos rfl]
    simp

end Go.Proofs.YtnbekfpkmebmbaaGreatDoor
