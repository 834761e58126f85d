/-
  The program's tree in a law: what each call answers, and what it leaves, by the list of its keys.
-/
import Derived.Test.YteklhipcojioaaaDoorZTreePo
import Derived.Test.YteklhipcojioaaaDoorZTreeRF
namespace Go.Proofs.YteklhipcojioaaaDoor
open Go.RowKit Go.Deep Go.Maps Go.WideShapes

/-- The law's own tree, made since w0, of the keys L; c comparisons, ht high; F: other blocks, which it has not. -/
structure To (w0 w : World) (p : Nat) (L : List Nd) (c ht : Int) (F : Nat → Prop) : Prop where
  ex : ∃ t K, TpB w p t c K ∧ ndsB t.list = L ∧ t.ht = ht ∧ (∀ k, (k = p ∨ k ∈ t.blocks ∨ K k) → w0.heap.size ≤ k) ∧ (∀ k, F k → k < w.heap.size ∧ ¬ (k = p ∨ k ∈ t.blocks ∨ K k))
  below : Below w0.heap.size w0 w
theorem low_zero (n : Nat) : LowI 0 n := ⟨Int.le_refl _, by
  have := Nat.mul_le_mul (show 1 ≤ n + 1 by omega) (show 1 ≤ n + 1 by omega)
  rw [Nat.pow_two]
  show 1 ≤ _
  omega⟩
/-- Sizes that a law comes to. -/
def SizeT (L : List Nd) (c : Int) : Prop := L.length ≤ 700000 ∧ 0 ≤ c ∧ c ≤ 1000000000000
section
variable {w0 w w' : World} {p : Nat} {L L' : List Nd} {c ht : Int} {F : Nat → Prop}
theorem To.rise (h : To w0 w p L c ht F) : RisingN L := by
  obtain ⟨⟨t, K, h1, rfl, h3, h4, h5⟩, h6⟩ := h
  exact h1.rise
theorem To.keysOk (h : To w0 w p L c ht F) : ∀ x ∈ L, KeyOk x.1 := by
  obtain ⟨⟨t, K, h1, rfl, h3, h4, h5⟩, h6⟩ := h
  intro x hx
  obtain ⟨e, he, rfl⟩ := List.mem_map.1 hx
  exact (h1.keys e he).2
theorem To.low (h : To w0 w p L c ht F) : LowI ht L.length ∧ (ht = 0 ↔ L.length = 0) := by
  obtain ⟨⟨t, K, h1, rfl, rfl, h4, h5⟩, h6⟩ := h
  rw [nds_len]
  refine ⟨⟨h1.bal.pos, h1.bal.low.1⟩, fun e => ?_, fun e => ?_⟩
  · rw [h1.bal.nil e]; rfl
  · have := h1.bal.low.2; have := h1.bal.pos; omega
theorem To.pge (h : To w0 w p L c ht F) : w0.heap.size ≤ p ∧ p < w.heap.size := by
  obtain ⟨⟨t, K, h1, h2, h3, h4, h5⟩, h6⟩ := h
  exact ⟨h4 p (Or.inl rfl), h1.lt p (Or.inl rfl)⟩
theorem To.up (h : To w0 w p L c ht F) (hb : Below w.heap.size w w') : To w0 w' p L c ht F := by
  obtain ⟨⟨t, K, h1, h2, h3, h4, h5⟩, h6⟩ := h
  exact ⟨⟨t, K, h1.up hb, h2, h3, h4, fun k hk => ⟨Nat.lt_of_lt_of_le (h5 k hk).1 hb.size, (h5 k hk).2⟩⟩, h6.trans (hb.mono h6.size)⟩
/-- Blocks that it has not are written, of the law's own. -/
theorem To.over (h : To w0 w p L c ht F) {T : Nat → Prop} (ho : Only T w w') (hT : ∀ k, T k → (F k ∨ w.heap.size ≤ k) ∧ w0.heap.size ≤ k) : To w0 w' p L c ht F := by
  obtain ⟨⟨t, K, h1, h2, h3, h4, h5⟩, h6⟩ := h
  refine ⟨⟨t, K, h1.kept ho (fun k hk ht' => ?_), h2, h3, h4, fun k hk => ⟨Nat.lt_of_lt_of_le (h5 k hk).1 ho.size, (h5 k hk).2⟩⟩, h6.trans (ho.below (fun k hk => (hT k hk).2) h6.size)⟩
  rcases (hT k ht').1 with e | e
  · exact (h5 k e).2 hk
  · have := h1.lt k hk; omega
theorem To.weaken {F' : Nat → Prop} (h : To w0 w p L c ht F) (hF : ∀ k, F' k → F k) : To w0 w p L c ht F' := by
  obtain ⟨⟨t, K, h1, h2, h3, h4, h5⟩, h6⟩ := h
  exact ⟨⟨t, K, h1, h2, h3, h4, fun k hk => h5 k (hF k hk)⟩, h6⟩
/-- New blocks are none of its. -/
theorem To.more (h : To w0 w p L c ht F) (hb : Below w.heap.size w w') {G : Nat → Prop} (hG : ∀ k, G k → w.heap.size ≤ k ∧ k < w'.heap.size) : To w0 w' p L c ht (fun k => F k ∨ G k) := by
  obtain ⟨⟨t, K, h1, h2, h3, h4, h5⟩, h6⟩ := h
  refine ⟨⟨t, K, h1.up hb, h2, h3, h4, fun k hk => ?_⟩, h6.trans (hb.mono h6.size)⟩
  rcases hk with hk | hk
  · exact ⟨Nat.lt_of_lt_of_le (h5 k hk).1 hb.size, (h5 k hk).2⟩
  · exact ⟨(hG k hk).2, fun hS => by have := h1.lt k hS; have := (hG k hk).1; omega⟩
/-- .. and blocks made by another, which writes its own. -/
theorem To.app {G T : Nat → Prop} (h : To w0 w p L c ht F) (ho : Only T w w') (hT : ∀ k, T k → F k ∧ w0.heap.size ≤ k) (hG : ∀ k, G k → (F k ∨ w.heap.size ≤ k) ∧ k < w'.heap.size) : To w0 w' p L c ht G := by
  obtain ⟨⟨t, K, h1, h2, h3, h4, h5⟩, h6⟩ := h
  refine ⟨⟨t, K, h1.kept ho (fun k hk ht' => (h5 k (hT k ht').1).2 hk), h2, h3, h4, fun k hk => ⟨(hG k hk).2, fun hS => ?_⟩⟩, h6.trans (ho.below (fun k hk => (hT k hk).2) h6.size)⟩
  rcases (hG k hk).1 with e | e
  · exact (h5 k e).2 hS
  · have := h1.lt k hS; omega
theorem not_own {t : Bt} {K F' : Nat → Prop} (h4 : ∀ k, (k = p ∨ k ∈ t.blocks ∨ K k) → w0.heap.size ≤ k) (h5 : ∀ k, F k → k < w.heap.size ∧ ¬ (k = p ∨ k ∈ t.blocks ∨ K k)) (hF : ∀ b, F' b → b < w0.heap.size ∨ F b) : ¬ F' p := fun hp => by
  rcases hF p hp with e | e
  · have := h4 p (Or.inl rfl); omega
  · exact (h5 p e).2 (Or.inl rfl)
theorem To.look {t : Bt} {K : Nat → Prop} {b : Bool} (h : To w0 w p (ndsB t.list) c ht F) (h1 : TpB w p t c K) (h3 : t.ht = ht) (h4 : ∀ k, (k = p ∨ k ∈ t.blocks ∨ K k) → w0.heap.size ≤ k) (h5 : ∀ k, F k → k < w.heap.size ∧ ¬ (k = p ∨ k ∈ t.blocks ∨ K k)) (hl : LookT w p t c K w' b) :
    ∃ c', To w0 w' p (ndsB t.list) c' ht (fun k => F k ∨ (w.heap.size ≤ k ∧ k < w'.heap.size)) ∧ (c ≤ c' ∧ LowI (c' - c) (ndsB t.list).length ∧ (b = true → c < c')) ∧ Only (fun k => ¬ F k) w w' := by
  obtain ⟨c', a1, a2, a3, a4, a5⟩ := hl
  refine ⟨c', ⟨⟨t, K, a1, rfl, h3, h4, fun k hk => ?_⟩, h.below.trans (a2.below (fun k hk => by rw [hk]; exact h4 p (Or.inl rfl)) h.below.size)⟩, ⟨a3, by rw [nds_len]; exact a4, a5⟩, a2.mono fun k hk hF => ?_⟩
  · rcases hk with hk | hk
    · exact ⟨Nat.lt_of_lt_of_le (h5 k hk).1 a2.size, (h5 k hk).2⟩
    · exact ⟨hk.2, fun hS => by have := h1.lt k hS; omega⟩
  · exact (h5 k hF).2 (Or.inl hk)
theorem To.turn {t : Bt} {K : Nat → Prop} (h : To w0 w p (ndsB t.list) c ht F) (h4 : ∀ k, (k = p ∨ k ∈ t.blocks ∨ K k) → w0.heap.size ≤ k) (h5 : ∀ k, F k → k < w.heap.size ∧ ¬ (k = p ∨ k ∈ t.blocks ∨ K k)) (hl : TurnT w p t c K L' w') :
    ∃ c' ht', To w0 w' p L' c' ht' F ∧ (c ≤ c' ∧ LowI (c' - c) (ndsB t.list).length) ∧ Only (fun k => ¬ F k) w w' := by
  obtain ⟨t', c', K', a1, rfl, a2, a3, a4, a5⟩ := hl
  refine ⟨c', _, ⟨⟨t', K', a1, rfl, rfl, fun k hk => ?_, fun k hk => ⟨Nat.lt_of_lt_of_le (h5 k hk).1 a2.size, fun hS => ?_⟩⟩, h.below.trans (a2.below (fun k hk => h4 k (by rcases hk with e | e; exact Or.inl e; exact Or.inr (Or.inl e))) h.below.size)⟩, ⟨a4, by rw [nds_len]; exact a5⟩, a2.mono fun k hk hF => ?_⟩
  · rcases a3 k hk with e | e
    · exact h4 k e
    · exact Nat.le_trans h.below.size e
  · rcases a3 k hS with e | e
    · exact (h5 k hk).2 e
    · have := (h5 k hk).1; omega
  · exact (h5 k hF).2 (by rcases hk with e | e; exact Or.inl e; exact Or.inr (Or.inl e))
theorem to_new (w : World) : Calls Tryd.prog 8 #[] w fun e w' => ∃ p, e = .returned (.pointer (some ⟨p, 0, none⟩)) ∧ To w w' p [] 0 0 (fun _ => False) :=
  (newT_any w).mono fun e w' ⟨p, h1, h2, h3, h4⟩ => ⟨p, h1, ⟨.nil, fun _ => False, h2, rfl, rfl, fun k hk => by rcases hk with rfl | hk | hk; exact h3; cases hk; exact hk.elim, fun k hk => hk.elim⟩, h4⟩
theorem To.put (h : To w0 w p L c ht F) (hs : SizeT L c) {F' : Nat → Prop} {T : Tm} {n : Int} {kv : Value} (hk : Lies w F' T kv) (hF : ∀ b, F' b → b < w0.heap.size ∨ F b) (hsz : T.size ≤ 1000000) (hsh : T.Short) (ht0 : ShapeTab w0) :
    Calls Tryd.prog 20 #[.pointer (some ⟨p, 0, none⟩), kv, .int .i64 n] w fun e w' => e = .returned (.tuple #[.int .i64 (if T.check = 0 then getN L T else 0), .bool (if T.check = 0 then isN L T else false), .int .i64 T.check]) ∧ ∃ c' ht', To w0 w' p (if T.check = 0 then putN L T n else L) c' ht' F ∧ (c ≤ c' ∧ LowI (c' - c) L.length) ∧ Only (fun k => ¬ F k) w w' := by
  have h' := h
  obtain ⟨⟨t, K, h1, rfl, h3, h4, h5⟩, h6⟩ := h
  by_cases hc : T.check = 0
  · rw [if_pos hc, if_pos hc, if_pos hc, hc]
    exact (putT_any p t c K F' T n kv w h1 hk (not_own h4 h5 hF) ⟨hc, hsz, hsh⟩ (by have := hs.1; rw [nds_len] at this; exact this) hs.2 (ht0.below h6)).mono fun e w' ⟨a1, a2⟩ => ⟨a1, To.turn h' h4 h5 a2⟩
  · rw [if_neg hc, if_neg hc, if_neg hc]
    refine (putT_bad p t c K F' T n kv w h1 hk hsz hc (ht0.below h6)).mono fun e w' ⟨a1, a2⟩ => ⟨a1, c, ht, h'.up a2, ⟨Int.le_refl _, ?_⟩, Only.up a2⟩
    rw [Int.sub_self]
    exact low_zero _
theorem To.remove (h : To w0 w p L c ht F) (hs : SizeT L c) {F' : Nat → Prop} {T : Tm} {kv : Value} (hk : Lies w F' T kv) (hF : ∀ b, F' b → b < w0.heap.size ∨ F b) :
    Calls Tryd.prog 22 #[.pointer (some ⟨p, 0, none⟩), kv] w fun e w' => e = .returned (.tuple #[.int .i64 (getN L T), .bool (isN L T)]) ∧ ∃ c' ht', To w0 w' p (removeN L T) c' ht' F ∧ (c ≤ c' ∧ LowI (c' - c) L.length) ∧ Only (fun k => ¬ F k) w w' := by
  have h' := h
  obtain ⟨⟨t, K, h1, rfl, h3, h4, h5⟩, h6⟩ := h
  exact (removeT_any p t c K F' T kv w h1 hk (not_own h4 h5 hF) (by have := hs.1; rw [nds_len] at this; exact this) hs.2).mono fun e w' ⟨a1, a2⟩ => ⟨a1, To.turn h' h4 h5 a2⟩
theorem To.get (h : To w0 w p L c ht F) (hs : SizeT L c) {F' : Nat → Prop} {T : Tm} {kv : Value} (hk : Lies w F' T kv) (hF : ∀ b, F' b → b < w0.heap.size ∨ F b) :
    Calls Tryd.prog 21 #[.pointer (some ⟨p, 0, none⟩), kv] w fun e w' => e = .returned (.tuple #[.int .i64 (getN L T), .bool (isN L T)]) ∧ ∃ c', To w0 w' p L c' ht (fun k => F k ∨ (w.heap.size ≤ k ∧ k < w'.heap.size)) ∧ (c ≤ c' ∧ LowI (c' - c) L.length ∧ (isN L T = true → c < c')) ∧ Only (fun k => ¬ F k) w w' := by
  have h' := h
  obtain ⟨⟨t, K, h1, rfl, h3, h4, h5⟩, h6⟩ := h
  exact (getT_any p t c K F' T kv w h1 hk (not_own h4 h5 hF) (by have := hs.1; rw [nds_len] at this; omega) hs.2).mono fun e w' ⟨a1, a2⟩ => ⟨a1, To.look h' h1 h3 h4 h5 a2⟩
theorem To.first (h : To w0 w p L c ht F) :
    Calls Tryd.prog 23 #[.pointer (some ⟨p, 0, none⟩)] w fun e w' => ∃ tv, e = .returned (.tuple #[tv, .int .i64 (tellN L (0)).2.1, .bool (tellN L (0)).2.2]) ∧ Own w' (tellN L (0)).1 w.heap.size w'.heap.size tv ∧ Below w.heap.size w w' := by
  obtain ⟨⟨t, K, h1, rfl, h3, h4, h5⟩, h6⟩ := h
  exact firstT_any p t c K w h1
theorem To.last (h : To w0 w p L c ht F) :
    Calls Tryd.prog 24 #[.pointer (some ⟨p, 0, none⟩)] w fun e w' => ∃ tv, e = .returned (.tuple #[tv, .int .i64 (tellN L ((L.length : Int) - 1)).2.1, .bool (tellN L ((L.length : Int) - 1)).2.2]) ∧ Own w' (tellN L ((L.length : Int) - 1)).1 w.heap.size w'.heap.size tv ∧ Below w.heap.size w w' := by
  obtain ⟨⟨t, K, h1, rfl, h3, h4, h5⟩, h6⟩ := h
  exact lastT_any p t c K w h1
theorem To.next (h : To w0 w p L c ht F) (hs : SizeT L c) {F' : Nat → Prop} {T : Tm} {kv : Value} (hk : Lies w F' T kv) (hF : ∀ b, F' b → b < w0.heap.size ∨ F b) :
    Calls Tryd.prog 25 #[.pointer (some ⟨p, 0, none⟩), kv] w fun e w' => ∃ tv, e = .returned (.tuple #[tv, .int .i64 (tellN L ((nextN L T : Nat))).2.1, .bool (tellN L ((nextN L T : Nat))).2.2]) ∧ Own w' (tellN L ((nextN L T : Nat))).1 w.heap.size w'.heap.size tv ∧ ∃ c', To w0 w' p L c' ht (fun k => F k ∨ (w.heap.size ≤ k ∧ k < w'.heap.size)) ∧ c ≤ c' ∧ LowI (c' - c) L.length ∧ Only (fun k => ¬ F k) w w' := by
  obtain ⟨⟨t, K, h1, h2, h3, h4, h5⟩, h6⟩ := h
  subst h2
  have hl := nds_len t.list
  refine (nextT_any p t c K F' T kv w h1 hk (not_own h4 h5 hF) (by have := hs.1; omega) hs.2).mono fun e w' ⟨tv, a1, a2, a3⟩ => ⟨tv, a1, a2, ?_⟩
  obtain ⟨c', b1, b2, b3⟩ := To.look ⟨⟨t, K, h1, rfl, h3, h4, h5⟩, h6⟩ h1 h3 h4 h5 a3
  exact ⟨c', b1, b2.1, b2.2.1, b3⟩
theorem To.prev (h : To w0 w p L c ht F) (hs : SizeT L c) {F' : Nat → Prop} {T : Tm} {kv : Value} (hk : Lies w F' T kv) (hF : ∀ b, F' b → b < w0.heap.size ∨ F b) :
    Calls Tryd.prog 26 #[.pointer (some ⟨p, 0, none⟩), kv] w fun e w' => ∃ tv, e = .returned (.tuple #[tv, .int .i64 (tellN L ((atN L T : Int) - 1)).2.1, .bool (tellN L ((atN L T : Int) - 1)).2.2]) ∧ Own w' (tellN L ((atN L T : Int) - 1)).1 w.heap.size w'.heap.size tv ∧ ∃ c', To w0 w' p L c' ht (fun k => F k ∨ (w.heap.size ≤ k ∧ k < w'.heap.size)) ∧ c ≤ c' ∧ LowI (c' - c) L.length ∧ Only (fun k => ¬ F k) w w' := by
  obtain ⟨⟨t, K, h1, h2, h3, h4, h5⟩, h6⟩ := h
  subst h2
  have hl := nds_len t.list
  refine (prevT_any p t c K F' T kv w h1 hk (not_own h4 h5 hF) (by have := hs.1; omega) hs.2).mono fun e w' ⟨tv, a1, a2, a3⟩ => ⟨tv, a1, a2, ?_⟩
  obtain ⟨c', b1, b2, b3⟩ := To.look ⟨⟨t, K, h1, rfl, h3, h4, h5⟩, h6⟩ h1 h3 h4 h5 a3
  exact ⟨c', b1, b2.1, b2.2.1, b3⟩
theorem To.len (h : To w0 w p L c ht F) : Calls Tryd.prog 13 #[.pointer (some ⟨p, 0, none⟩)] w fun e w' => e = .returned (.int .i64 L.length) ∧ Below w.heap.size w w' := by
  obtain ⟨⟨t, K, h1, rfl, h3, h4, h5⟩, h6⟩ := h
  rw [nds_len]
  exact (lenT_any h1).mono fun e w' ⟨a1, a2⟩ => ⟨a1, by rw [← a2]; exact Below.refl _ _⟩
theorem To.compared (h : To w0 w p L c ht F) : Calls Tryd.prog 10 #[.pointer (some ⟨p, 0, none⟩)] w fun e w' => e = .returned (.int .i64 c) ∧ Below w.heap.size w w' := by
  obtain ⟨⟨t, K, h1, rfl, h3, h4, h5⟩, h6⟩ := h
  exact (comparedT_any h1).mono fun e w' ⟨a1, a2⟩ => ⟨a1, by rw [← a2]; exact Below.refl _ _⟩
theorem To.height (h : To w0 w p L c ht F) : Calls Tryd.prog 14 #[.pointer (some ⟨p, 0, none⟩)] w fun e w' => e = .returned (.int .i64 ht) ∧ Below w.heap.size w w' := by
  obtain ⟨⟨t, K, h1, rfl, rfl, h4, h5⟩, h6⟩ := h
  exact heightT_any h1
theorem To.keys (h : To w0 w p L c ht F) (hs : SizeT L c) : Calls Tryd.prog 15 #[.pointer (some ⟨p, 0, none⟩)] w fun e w' => ∃ u, e = .returned u ∧ OwnL w' (L.map (·.1)) w.heap.size w'.heap.size u ∧ Below w.heap.size w w' := by
  obtain ⟨⟨t, K, h1, rfl, h3, h4, h5⟩, h6⟩ := h
  exact (keysT_any p t c K w h1 (by have := hs.1; rw [nds_len] at this; exact this)).mono fun e w' ⟨u, hs', a1, a2, a3⟩ => ⟨u, a1, a2.ownL, a3⟩
end
end Go.Proofs.YteklhipcojioaaaDoor

/-
  Low: what the statements ask of heights and comparisons.
-/
namespace Go.Proofs.YteklhipcojioaaaDoor
open Go.RowKit Go.Deep Go.Maps Go.WideShapes

theorem low_log {x : Int} {n : Nat} (h : LowI x n) (hn : n ≤ 700000) : 0 ≤ x ∧ x ≤ 39 := by
  refine ⟨h.1, ?_⟩
  by_cases e : 40 ≤ x.toNat
  · have h1 : 2 ^ 40 ≤ 2 ^ x.toNat := Nat.pow_le_pow_right (by decide) e
    have h2 : (n + 1) ^ 2 ≤ 700001 * 700001 := by rw [Nat.pow_two]; exact Nat.mul_le_mul (by omega) (by omega)
    have h3 := h.2
    have h4 : (2 : Nat) ^ 40 = 1099511627776 := rfl
    omega
  · have := h.1; omega
set_option maxHeartbeats 2000000 in
theorem lowR_any (x : Int) (n : Nat) (w : World) (h : LowI x n) (hn : n ≤ 700000) : Calls Tryd.prog 12 #[.int .i64 x, .int .i64 n] w fun e w' => e = .returned (.bool true) ∧ w = w' := by
  obtain ⟨h0, h39⟩ := low_log h hn
  by_cases h2 : x ≤ 2
  · clear h h0 h39 hn
    go_enter Tryd.func12, Tryd.ntmps12
    go_wp2
    go_ret
    exact ⟨rfl, rfl⟩
  · obtain ⟨k, rfl⟩ : ∃ k : Nat, x = (k : Int) + 2 := ⟨(x - 2).toNat, by omega⟩
    have hpow : 2 ^ k ≤ (n + 1) * (n + 1) := by
      have h3 := h.2
      rw [Nat.pow_two] at h3
      have h4 : ((k : Int) + 2).toNat = k + 2 := by omega
      rw [h4] at h3
      exact Nat.le_trans (Nat.pow_le_pow_right (by decide) (by omega)) h3
    have hmul : (n + 1) * (n + 1) ≤ 700001 * 700001 := Nat.mul_le_mul (by omega) (by omega)
    obtain ⟨P, hP⟩ : ∃ P, 2 ^ k = P := ⟨_, rfl⟩
    obtain ⟨M, hM⟩ : ∃ M, n + 1 = M := ⟨_, rfl⟩
    obtain ⟨MM, hMM⟩ : ∃ MM, M * M = MM := ⟨_, rfl⟩
    rw [hP, hM, hMM] at hpow
    rw [hM, hMM] at hmul
    obtain ⟨X, hX⟩ : ∃ X : Int, (k : Int) + 2 = X := ⟨_, rfl⟩
    rw [hX] at h2 h39 h ⊢
    have hw1 : IntKind.i64.wrap ((n : Int) + 1) = (M : Int) := by rw [wrap_id (by omega) (by omega)]; omega
    have hw2 : IntKind.i64.wrap ((M : Int) * M) = (MM : Int) := by rw [← hMM, wrap_id (by rw [← Int.natCast_mul, hMM]; omega) (by rw [← Int.natCast_mul, hMM]; omega)]; simp
    have hw3 : IntKind.i64.wrap (X - 2) = (k : Int) := by rw [wrap_id (by omega) (by omega)]; omega
    have h64 : X ≤ 64 := by omega
    have hpm : (P : Int) ≤ MM := by omega
    have hk37 : min k 64 = k := by omega
    have hsh : wrap64 (2 ^ min k 64) ≤ (MM : Int) := by
      have h5 : ((2 : Int) ^ k) = (P : Int) := by rw [← hP]; simp
      rw [hk37, h5]
      have h6 : wrap64 (P : Int) = P := by
        have h7 := wrap_id (x := (P : Int)) (by omega) (by omega)
        rw [IntKind.wrap_i64] at h7
        unfold wrap64
        exact h7
      rw [h6]
      exact hpm
    have HSH := Hid.mk hsh
    clear h h0 h39 hn hmul hpow hMM hM hX hk37 hsh hP
    go_enter Tryd.func12, Tryd.ntmps12
    go_wp2
    refine bodyPost_ret (v := .bool (decide (wrap64 (2 ^ min k 64) ≤ (MM : Int)))) (by simp [results]) rfl ⟨by rw [decide_eq_true HSH.out], rfl⟩
end Go.Proofs.YteklhipcojioaaaDoor
