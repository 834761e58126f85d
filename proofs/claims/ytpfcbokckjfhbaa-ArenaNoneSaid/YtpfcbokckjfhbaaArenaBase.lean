/-
  Blocks as a plain list; an arena in memory.
-/
import Derived.Test.YtpfcbokckjfhbaaArenaRound
import Derived.Test.YtpfcbokckjfhbaaKitSame
import Derived.Maps.OwnOps
import Derived.LaidEqlPtr
import Derived.Lib.SlKeysI
namespace Go.Proofs.Ytpfcbokckjfhbaa
open Go.RowKit Go.Deep Go.Maps Go.WideShapes

/-- All blocks that there ever were; none: it is gone. -/
abbrev Blks := List (Option (List Int))
/-- The words of a block. -/
def blk (B : Blks) (k : Int) : Option (List Int) := if 1 ≤ k then (B[(k - 1).toNat]?).join else none
/-- The words in use. -/
def usedB : Blks → Nat
  | [] => 0
  | none :: r => usedB r
  | some l :: r => cls l.length + usedB r
/-- The numbers of the blocks that there are. -/
def numsB (i : Nat) : Blks → List Int
  | [] => []
  | none :: r => numsB (i + 1) r
  | some _ :: r => ((i + 1 : Nat) : Int) :: numsB (i + 1) r
theorem usedB_snoc (l : List Int) : ∀ B : Blks, usedB (B ++ [some l]) = usedB B + cls l.length
  | [] => by simp [usedB]
  | none :: r => by simp [usedB, usedB_snoc l r]
  | some o :: r => by simp [usedB, usedB_snoc l r]; omega
theorem usedB_set {o : List Int} (l : List Int) : ∀ {B : Blks} {i : Nat}, B[i]? = some (some o) → usedB (B.set i (some l)) + cls o.length = usedB B + cls l.length
  | [], i, h => by simp at h
  | x :: r, 0, h => by
    simp at h
    subst h
    simp [usedB]
    omega
  | x :: r, i + 1, h => by
    have := usedB_set (o := o) l (B := r) (i := i) (by simpa using h)
    cases x <;> simp [usedB] <;> omega
theorem usedB_drop {o : List Int} : ∀ {B : Blks} {i : Nat}, B[i]? = some (some o) → usedB (B.set i none) + cls o.length = usedB B
  | [], i, h => by simp at h
  | x :: r, 0, h => by
    simp at h
    subst h
    simp [usedB]
    omega
  | x :: r, i + 1, h => by
    have := usedB_drop (o := o) (B := r) (i := i) (by simpa using h)
    cases x <;> simp [usedB] <;> omega
theorem blk_some {B : Blks} {k : Int} {l : List Int} : blk B k = some l ↔ 1 ≤ k ∧ B[(k - 1).toNat]? = some (some l) := by
  unfold blk
  by_cases h : 1 ≤ k
  · rw [if_pos h]
    cases hb : B[(k - 1).toNat]? with
    | none => simp [h]
    | some x => cases x <;> simp [h]
  · rw [if_neg h]
    simp [h]
theorem blk_lt {B : Blks} {k : Int} {l : List Int} (h : blk B k = some l) : 1 ≤ k ∧ k ≤ B.length := by
  obtain ⟨h1, h2⟩ := blk_some.1 h
  have := (List.getElem?_eq_some_iff.1 h2).1
  omega
theorem blk_snoc (B : Blks) (l : List Int) (k : Int) : blk (B ++ [some l]) k = if k = B.length + 1 then some l else blk B k := by
  unfold blk
  by_cases h : 1 ≤ k
  · rw [if_pos h, if_pos h]
    by_cases e : k = B.length + 1
    · rw [if_pos e, show (k - 1).toNat = B.length by omega]
      simp
    · rw [if_neg e]
      by_cases hl : (k - 1).toNat < B.length
      · rw [List.getElem?_append_left hl]
      · rw [List.getElem?_eq_none (by simp; omega), List.getElem?_eq_none (by omega)]
  · rw [if_neg h, if_neg h, if_neg (by omega)]
theorem blk_set {B : Blks} {n : Int} {o : List Int} (h : blk B n = some o) (x : Option (List Int)) (k : Int) : blk (B.set (n - 1).toNat x) k = if k = n then x else blk B k := by
  have h1 := blk_lt h
  unfold blk
  by_cases hk : 1 ≤ k
  · rw [if_pos hk, if_pos hk]
    by_cases e : k = n
    · subst e
      rw [if_pos rfl, List.getElem?_set_self (by omega)]
      rfl
    · rw [if_neg e, List.getElem?_set_ne (by omega)]
  · rw [if_neg hk, if_neg hk, if_neg (by omega)]
theorem numsB_mem {x : Int} : ∀ {B : Blks} {i : Nat}, x ∈ numsB i B ↔ ∃ j l, B[j]? = some (some l) ∧ x = ((i + j + 1 : Nat) : Int)
  | [], i => by simp [numsB]
  | none :: r, i => by
    rw [numsB, numsB_mem]
    constructor
    · rintro ⟨j, l, h, e⟩
      exact ⟨j + 1, l, by simpa using h, by omega⟩
    · rintro ⟨j, l, h, e⟩
      cases j with
      | zero => simp at h
      | succ j => exact ⟨j, l, by simpa using h, by omega⟩
  | some o :: r, i => by
    rw [numsB, List.mem_cons, numsB_mem]
    constructor
    · rintro (e | ⟨j, l, h, e⟩)
      · exact ⟨0, o, by simp, by omega⟩
      · exact ⟨j + 1, l, by simpa using h, by omega⟩
    · rintro ⟨j, l, h, e⟩
      cases j with
      | zero => exact Or.inl (by omega)
      | succ j => exact Or.inr ⟨j, l, by simpa using h, by omega⟩
theorem numsB_blk (B : Blks) (x : Int) : x ∈ numsB 0 B ↔ (blk B x).isSome = true := by
  rw [numsB_mem, Option.isSome_iff_exists]
  constructor
  · rintro ⟨j, l, h, e⟩
    exact ⟨l, blk_some.2 ⟨by omega, by rw [show (x - 1).toNat = j by omega]; exact h⟩⟩
  · rintro ⟨l, h⟩
    obtain ⟨h1, h2⟩ := blk_some.1 h
    exact ⟨(x - 1).toNat, l, h2, by omega⟩
theorem numsB_rise : ∀ (B : Blks) (i : Nat), (numsB i B).Pairwise (· < ·)
  | [], i => List.Pairwise.nil
  | none :: r, i => numsB_rise r (i + 1)
  | some o :: r, i => by
    rw [numsB, List.pairwise_cons]
    refine ⟨fun x hx => ?_, numsB_rise r (i + 1)⟩
    obtain ⟨j, l, _, e⟩ := numsB_mem.1 hx
    omega
theorem numsB_len : ∀ (B : Blks) (i : Nat), (numsB i B).length ≤ B.length
  | [], i => Nat.le_refl _
  | none :: r, i => by have := numsB_len r (i + 1); simp [numsB]; omega
  | some o :: r, i => by have := numsB_len r (i + 1); simp [numsB]; omega
theorem numsB_nodup (B : Blks) (i : Nat) : (numsB i B).Nodup := (numsB_rise B i).imp (fun h => by omega)

/-- How a map's value is kept: as it stands. -/
def heldR (v : Value) : Option (DataW Value × List MemPlace) := some (.held v, [])
/-- A number as a map's key. -/
def keyI (k : Int) : Lit := .int .i64 k
theorem keyI_inj {a b : Int} (h : keyI a = keyI b) : a = b := by simpa [keyI] using h
theorem keyI_lit (k : Int) : Go.WideAt.IsKeyLit (keyI k) := by simp [keyI, Go.WideAt.IsKeyLit]

/-- The map of an arena's blocks. -/
structure MapOk (w : World) (S : Nat → Prop) (p bm : Nat) (D : DataW Value) (B : Blks) : Prop where
  has : ∀ k, Maps.has D (keyI k) = (blk B k).isSome
  at_ : ∀ k l, blk B k = some l → ∃ v, D.atKey (keyI k) (.held (.slice none 0 0)) = .held v ∧ Wds w v l ∧ ∀ g, v.ownBlock = some g → S g ∧ g ≠ p ∧ g ≠ bm
theorem MapOk.nil (w : World) (S : Nat → Prop) (p bm : Nat) : MapOk w S p bm (.map []) [] := ⟨fun k => by simp [blk, Maps.has], fun k l h => by simp [blk] at h⟩
theorem MapOk.kept {T : Nat → Prop} {w w' : World} {S S' : Nat → Prop} {p bm : Nat} {D : DataW Value} {B : Blks} (h : MapOk w S p bm D B) (ho : Only T w w') (hT : ∀ g, S g → g ≠ p → g ≠ bm → ¬ T g) (hS : ∀ g, S g → S' g) : MapOk w' S' p bm D B := by
  refine ⟨h.has, fun k l hk => ?_⟩
  obtain ⟨v, h1, h2, h3⟩ := h.at_ k l hk
  exact ⟨v, h1, h2.kept ho (fun g hg => hT g (h3 g hg).1 (h3 g hg).2.1 (h3 g hg).2.2), fun g hg => ⟨hS g (h3 g hg).1, (h3 g hg).2⟩⟩
/-- A block put under a number. -/
theorem MapOk.put {w : World} {S : Nat → Prop} {p bm : Nat} {D : DataW Value} {B B' : Blks} {n : Int} {l : List Int} {v : Value} (h : MapOk w S p bm D B) (hD : IsMap D) (hB : ∀ k, blk B' k = if k = n then some l else blk B k)
    (hv : Wds w v l) (hS : ∀ g, v.ownBlock = some g → S g ∧ g ≠ p ∧ g ≠ bm) : MapOk w S p bm (D.put (keyI n) (.held v)) B' := by
  refine ⟨fun k => ?_, fun k l' hk => ?_⟩
  · by_cases e : k = n
    · subst e
      rw [has_put_same hD (keyI_lit _), hB, if_pos rfl]
      rfl
    · rw [has_put_other (fun e' => e (keyI_inj e')), h.has, hB, if_neg e]
  · by_cases e : k = n
    · subst e
      rw [hB, if_pos rfl] at hk
      cases hk
      exact ⟨v, by rw [atKey_put_same hD (keyI_lit _)], hv, hS⟩
    · rw [hB, if_neg e] at hk
      rw [atKey_put_other (fun e' => e (keyI_inj e'))]
      exact h.at_ k l' hk
/-- A block taken away. -/
theorem MapOk.del {w : World} {S : Nat → Prop} {p bm : Nat} {D : DataW Value} {B B' : Blks} {n : Int} (h : MapOk w S p bm D B) (hB : ∀ k, blk B' k = if k = n then none else blk B k) : MapOk w S p bm (D.del (keyI n)) B' := by
  refine ⟨fun k => ?_, fun k l' hk => ?_⟩
  · by_cases e : k = n
    · subst e
      rw [has_del_same, hB, if_pos rfl]
      rfl
    · rw [has_del_other (fun e' => e (keyI_inj e')), h.has, hB, if_neg e]
  · by_cases e : k = n
    · subst e
      rw [hB, if_pos rfl] at hk
      cases hk
    · rw [hB, if_neg e] at hk
      rw [atKey_del_other (fun e' => e (keyI_inj e'))]
      exact h.at_ k l' hk

/-- An arena's box. -/
def boxA (p bm W u n : Nat) : Obj := .cells #[.pointer (some ⟨p, 0, none⟩), .map (some bm), .int .i64 W, .int .i64 u, .int .i64 n] 40
theorem boxA_cells {w : World} {p bm W u n : Nat} (h : w.heap[p]? = some (boxA p bm W u n)) :
    (w.cell? ⟨p, 0, none⟩ = some (.pointer (some ⟨p, 0, none⟩)) ∧ w.cell? ⟨p, 1, none⟩ = some (.map (some bm)) ∧ w.cell? ⟨p, 2, none⟩ = some (.int .i64 W) ∧ w.cell? ⟨p, 3, none⟩ = some (.int .i64 u) ∧ w.cell? ⟨p, 4, none⟩ = some (.int .i64 n)) ∧
      w.frozen? ⟨p, 3, none⟩ = false ∧ w.frozen? ⟨p, 4, none⟩ = false := by
  unfold boxA at h
  simp [World.cell?, World.frozen?, h]
theorem boxA_used {w : World} {p bm W u n : Nat} (h : w.heap[p]? = some (boxA p bm W u n)) (u' : Nat) : (w.setCell ⟨p, 3, none⟩ (.int .i64 u')).heap[p]? = some (boxA p bm W u' n) := by
  unfold boxA at *
  simp [World.setCell, Array.getElem?_modify, h]
theorem boxA_last {w : World} {p bm W u n : Nat} (h : w.heap[p]? = some (boxA p bm W u n)) (n' : Nat) : (w.setCell ⟨p, 4, none⟩ (.int .i64 n')).heap[p]? = some (boxA p bm W u n') := by
  unfold boxA at *
  simp [World.setCell, Array.getElem?_modify, h]

/-- An arena: its box at p, its map at bm; S: all its memory. -/
structure Ar (w : World) (p bm : Nat) (S : Nat → Prop) (W : Nat) (B : Blks) : Prop where
  box : w.heap[p]? = some (boxA p bm W (usedB B) B.length)
  map : ∃ D : DataW Value, w.ownsMap Try.prog 3 heldR bm B.length D ∧ MapOk w S p bm D B
  ne : bm ≠ p
  sp : S p
  sb : S bm
  lt : ∀ k, S k → k < w.heap.size
  good : ∀ l, some l ∈ B → 1 ≤ l.length ∧ l.length ≤ 1000
  room : usedB B ≤ W
  most : W ≤ 16777216
theorem Ar.kept {T : Nat → Prop} {w w' : World} {p bm W : Nat} {S : Nat → Prop} {B : Blks} (h : Ar w p bm S W B) (ho : Only T w w') (hT : ∀ k, S k → ¬ T k) : Ar w' p bm S W B := by
  refine ⟨ho.box h.box (hT p h.sp), ?_, h.ne, h.sp, h.sb, fun k hk => Nat.lt_of_lt_of_le (h.lt k hk) ho.size, h.good, h.room, h.most⟩
  obtain ⟨D, hD, hM⟩ := h.map
  exact ⟨D, ownsMap_same hD (ho.block bm hD.lt (hT bm h.sb)), hM.kept ho (fun g hg _ _ => hT g hg) (fun _ h => h)⟩
theorem Ar.up {w w' : World} {p bm W : Nat} {S : Nat → Prop} {B : Blks} (h : Ar w p bm S W B) (hb : Below w.heap.size w w') : Ar w' p bm S W B := h.kept (T := fun _ => False) (Only.up hb) (fun _ _ f => f)
theorem Ar.blk_good {w : World} {p bm W : Nat} {S : Nat → Prop} {B : Blks} (h : Ar w p bm S W B) {n : Int} {l : List Int} (hk : blk B n = some l) : 1 ≤ l.length ∧ l.length ≤ 1000 := h.good l (List.mem_of_getElem? (blk_some.1 hk).2)
/-- What a call on an arena leaves. -/
def Step (w : World) (p bm : Nat) (S : Nat → Prop) (W : Nat) (B : Blks) (w' : World) : Prop :=
  ∃ S', Ar w' p bm S' W B ∧ Only (fun k => k = p ∨ k = bm) w w' ∧ ∀ k, S' k → S k ∨ w.heap.size ≤ k
theorem Ar.step {w w' : World} {p bm W : Nat} {S : Nat → Prop} {B : Blks} (h : Ar w p bm S W B) (hb : Below w.heap.size w w') : Step w p bm S W B w' := ⟨S, h.up hb, Only.up hb, fun _ h => Or.inl h⟩
/-- A map of as many entries as it has. -/
theorem ownsMap_tight {w : World} {k : TypeId} {R : Value → Option (DataW Value × List MemPlace)} {b n : Nat} {D : DataW Value} (h : w.ownsMap Try.prog k R b n D) : w.ownsMap Try.prog k R b (Maps.size D) D := by
  obtain ⟨es, clock, hb, F, _, rfl⟩ := h
  exact ⟨es, clock, hb, F, by simp [Maps.size, Go.length_sorted], rfl⟩

/-- The keys of an arena's map are the numbers of its blocks. -/
theorem MapOk.keys {w w0 : World} {S : Nat → Prop} {p bm n : Nat} {D : DataW Value} {B : Blks} (h : MapOk w0 S p bm D B) (hD : w.ownsMap Try.prog 3 heldR bm n D) : (numsB 0 B).Perm (intKeys D) := by
  refine CollectedI.perm (D0 := D) (left := fun _ => false) ⟨numsB_nodup B 0, fun x => ?_⟩ hD (int_keyed Try.underlying3) Try.underlying3 (fun _ => rfl)
  rw [numsB_blk]
  have := h.has x
  unfold keyI at this
  rw [this]
  simp
theorem MapOk.size {w w0 : World} {S : Nat → Prop} {p bm n : Nat} {D : DataW Value} {B : Blks} (h : MapOk w0 S p bm D B) (hD : w.ownsMap Try.prog 3 heldR bm n D) : Maps.size D ≤ B.length := by
  have h1 := (h.keys hD).length_eq
  have h2 := numsB_len B 0
  obtain ⟨es, rfl⟩ := hD.isMap
  simp [intKeys, Maps.size] at h1 ⊢
  omega
theorem MapOk.tight {w w0 : World} {S : Nat → Prop} {p bm n : Nat} {D : DataW Value} {B : Blks} (h : MapOk w0 S p bm D B) (hD : w.ownsMap Try.prog 3 heldR bm n D) : w.ownsMap Try.prog 3 heldR bm B.length D := (ownsMap_tight hD).mono (h.size hD)

end Go.Proofs.Ytpfcbokckjfhbaa
