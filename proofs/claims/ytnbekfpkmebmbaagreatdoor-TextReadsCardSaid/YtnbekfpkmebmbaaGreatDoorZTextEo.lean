/-
  The reader of the document's answers: bytes gathered in a row; what an atom in quotes comes to.
-/
import Derived.Test.YtnbekfpkmebmbaaGreatDoorZTextEc
import Derived.Test.YtnbekfpkmebmbaaGreatDoorZTextEq
import Derived.Test.YtnbekfpkmebmbaaGreatDoorZTextDec
import Derived.Test.YtnbekfpkmebmbaaGreatDoorZTextMay
import Derived.Maps.AppendAt
namespace Go.Proofs.YtnbekfpkmebmbaaGreatDoor
open Go.RowKit Go.Deep

theorem byteInfoE : (Tryz.prog.info? 5).map (fun i => (i.zero, i.size, i.bytes)) = some (some (.int .u8 0), 1, 1) := by kernel_rfl

/-- The bytes O, in a row of the call's own. -/
def Obs (base : Nat) (O : List UInt8) (v : Value) (w : World) : Prop := w.ownsRow base 5 1 v O.length (O.map fun c => .int .u8 c.toNat)
theorem Obs.below {base : Nat} {O : List UInt8} {v : Value} {w w' : World} (h : Obs base O v w) (hb : Below w.heap.size w w') : Obs base O v w' :=
  ownsRow_same h (fun g hg => hb.block g (World.ownsRow.lt h g hg).2)
theorem Obs.mv {base p : Nat} {O : List UInt8} {v : Value} {w w' : World} (h : Obs base O v w) (hb : Mv p w w') (hp : p < base) : Obs base O v w' :=
  ownsRow_same h (fun g hg => hb.block g (World.ownsRow.lt h g hg).2 (by have := (World.ownsRow.lt h g hg).1; omega))
theorem Obs.own {base : Nat} {O : List UInt8} {v : Value} {w : World} (h : Obs base O v w) : ∀ g, v.ownBlock = some g → base ≤ g := fun g hg => (World.ownsRow.lt h g hg).1
theorem Obs.append {base : Nat} {O : List UInt8} {v : Value} {w : World} (h : Obs base O v w) (hb : base ≤ w.heap.size) (c : UInt8) (H : Nat) (hc : w.cell? ⟨H, 0, none⟩ = some (.int .u8 c.toNat)) (hl : O.length ≤ 2000000) (ty : TypeId) :
    ∃ v' w', (Builtin.append_ #[64, 64] ty #[v, .slice (some ⟨H, 0, none⟩) 1 1]).run Tryz.prog w = .ok v' w' ∧ Obs base (O ++ [c]) v' w' ∧ w.grownBy w' v.ownBlock := by
  have hi := byteInfoE
  cases hq : Tryz.prog.info? 5 with
  | none => rw [hq] at hi; cases hi
  | some i =>
    rw [hq] at hi
    simp only [Option.map_some, Option.some.injEq, Prod.mk.injEq] at hi
    obtain ⟨hz, hs, hby⟩ := hi
    obtain ⟨v', w', hr, ho, hg, _, _⟩ := run_append_own_at (P := Tryz.prog) w base 64 ty 5 i _ 1 1 Tryz.underlying64 hq hz hs hby rfl (by decide) v O.length _ h ⟨H, 0, none⟩ 1 1 [.int .u8 c.toNat] rfl
      (fun j u hu => by
        cases j with
        | zero =>
          simp only [List.getElem?_cons_zero, Option.some.injEq] at hu
          subst hu
          rw [Addr.add_lit]
          exact hc
        | succ j => simp at hu)
      (fun u hu => by obtain rfl := List.mem_singleton.1 hu; rfl) (by unfold maxLen; omega) (by omega) hb
    refine ⟨v', w', hr, ?_, hg⟩
    unfold Obs
    rw [List.length_append, List.map_append]
    exact ho
theorem Obs.string {base : Nat} {O : List UInt8} {v : Value} {w : World} (h : Obs base O v w) : (convert 64 9 v).run Tryz.prog w = .ok (.string (tx O)) w := by
  rcases h.2 with ⟨rfl, h0⟩ | ⟨g, cap, cur, rfl, _, hg, _⟩
  · obtain rfl : O = [] := List.eq_nil_of_length_eq_zero h0
    exact run_convert_bytes_nil w _ _ Tryz.underlying64 Tryz.underlying5 _ _ _ Tryz.underlying9
  · refine run_convert_bytes_back w _ _ _ _ _ O Tryz.underlying64 Tryz.underlying5 Tryz.underlying9 fun j hj => ?_
    have hc := World.ownsRow.cellAt h j (by omega)
    rw [Addr.add_lit, Nat.zero_add, hc]
    simp [hj]
theorem Obs.slice {base : Nat} {O : List UInt8} {v : Value} {w : World} (h : Obs base O v w) : ∃ a cap, v = .slice a O.length cap := by
  rcases h.2 with ⟨rfl, h0⟩ | ⟨g, cap, cur, rfl, _⟩
  · exact ⟨none, 0, by rw [h0]⟩
  · exact ⟨_, cap, rfl⟩
theorem hexE_up (c : UInt8) (w : World) : Calls Tryz.prog 53 #[.int .u8 c.toNat] w fun e w' => e = .returned (.int .i64 (hexE c)) ∧ Below w.heap.size w w' :=
  (hexE_any c w).mono (by rintro e w' ⟨rfl, rfl⟩; exact ⟨rfl, Below.refl _ _⟩)
theorem hexE_rng (c : UInt8) : -1 ≤ hexE c ∧ hexE c ≤ 15 := by
  unfold hexE
  split
  · rename_i h
    have := dig_toNat h
    omega
  · split
    · omega
    · omega
theorem byte_of (Y : Int) : ∃ U : UInt8, IntKind.u8.wrap Y = (U.toNat : Int) ∧ ∀ y : UInt8, Y = y.toNat → U = y := by
  have h0 : 0 ≤ IntKind.u8.wrap Y ∧ IntKind.u8.wrap Y < 256 := by
    rw [IntKind.wrap_u8]; omega
  refine ⟨UInt8.ofNat (IntKind.u8.wrap Y).toNat, ?_, fun y hy => ?_⟩
  · rw [UInt8.toNat_ofNat']
    omega
  · have hy2 : y.toNat < 256 := y.toNat_lt
    have hw : IntKind.u8.wrap Y = Y := by
      rw [IntKind.wrap_u8]; omega
    apply UInt8.toNat.inj
    rw [UInt8.toNat_ofNat', hw]
    omega
theorem bytesT_eq {a b : List UInt8} (h : a = b) : ((tx a).toList == (tx b).toList) = true := by rw [h]; exact beq_self_eq_true _
theorem bytesT_ne {a b : List UInt8} (h : ¬ a = b) : ((tx a).toList == (tx b).toList) = false ∧ ¬ (tx a).toList = (tx b).toList ∧ ¬ tx a = tx b := by
  have h2 : ¬ (tx a).toList = (tx b).toList := by rw [tx_toList, tx_toList]; exact h
  exact ⟨beq_eq_false_iff_ne.2 h2, h2, fun e => h ((tx_eq _ _).1 e)⟩
theorem half_quote {Z O Q X r : List UInt8} (hH : Half Z O (39 :: Q)) (hX : Z = X.flatMap qb ++ 39 :: r) : X = O ∧ r = Q := by
  obtain ⟨Y, hXY, hQ⟩ := hH X r hX
  cases Y with
  | nil =>
    rw [List.flatMap_nil, List.nil_append] at hQ
    exact ⟨by rw [hXY, List.append_nil], (List.cons.inj hQ).2.symm⟩
  | cons y Y =>
    exfalso
    rw [List.flatMap_cons] at hQ
    rcases qb_kinds y with e | ⟨_, e⟩ | ⟨_, h39, e⟩
    · rw [e] at hQ; exact absurd (List.cons.inj hQ).1 (by decide)
    · rw [e] at hQ; exact absurd (List.cons.inj hQ).1 (by decide)
    · rw [e] at hQ; exact h39 (List.cons.inj hQ).1.symm
theorem quo_no {Z O : List UInt8} (hH : Half Z O []) : quoP Z = none := by
  cases h : quoP Z with
  | none => rfl
  | some x =>
    obtain ⟨X, r⟩ := x
    obtain ⟨h1, _, _⟩ := quoP_some h
    rw [quoteT, List.cons_append, List.append_assoc] at h1
    obtain ⟨Y, _, hQ⟩ := hH X r (by simpa using (List.cons.inj h1).2)
    have := congrArg List.length hQ
    simp at this
theorem plain_not39 {s : List UInt8} : plainT (39 :: s) = false := by
  have : isLow 39 = false := by decide
  simp [plainT, this]
theorem quo_end {Z O Q : List UInt8} (hH : Half Z O (39 :: Q)) : quoP Z = if O.length ≤ 64 ∧ atomT O ++ Q = 39 :: Z then some (O, Q) else none := by
  split
  · rename_i h
    have hp : plainT O = false := by
      cases hb : plainT O with
      | false => rfl
      | true =>
        exfalso
        have h2 := h.2
        rw [atomT, if_pos hb] at h2
        cases O with
        | nil => simp [plainT] at hb
        | cons c O =>
          obtain rfl := (List.cons.inj h2).1
          rw [plain_not39] at hb
          cases hb
    have h2 := h.2
    rw [atomT, hp, if_neg (by decide), quoteT, List.cons_append, List.append_assoc] at h2
    rw [← (List.cons.inj h2).2]
    exact quoP_text h.1 hp
  · rename_i h
    cases hq : quoP Z with
    | none => rfl
    | some x =>
      exfalso
      obtain ⟨X, r⟩ := x
      obtain ⟨h1, h2, h3⟩ := quoP_some hq
      have h1' := h1
      rw [quoteT, List.cons_append, List.append_assoc] at h1
      obtain ⟨rfl, rfl⟩ := half_quote hH (by simpa using (List.cons.inj h1).2)
      exact h ⟨h2, by rw [atomT, h3, if_neg (by decide)]; exact h1'.symm⟩
end Go.Proofs.YtnbekfpkmebmbaaGreatDoor
