/-
  The document's reader of flat words: take, head; terms gathered in a row.
-/
import Derived.Test.YthkjdcmlalgphaaDoorZFlatReadP
import Derived.Test.YthkjdcmlalgphaaDoorZFlatNum
import Derived.Test.YthkjdcmlalgphaaDoorZTermLong
namespace Go.Proofs.YthkjdcmlalgphaaDoor
open Go.RowKit Go.Deep

/-- What a call has gathered from block base on: these terms, in a row of its own that no part of them lies in. -/
def Itm (base : Nat) (L : List Tm) (sv : Value) (w : World) : Prop :=
  ∃ xs, w.ownsRow base 25 4 sv L.length xs ∧ Side w (fun b => base ≤ b ∧ b < w.heap.size ∧ sv.ownBlock ≠ some b) L L.length xs
theorem Itm.start (base : Nat) (w : World) : Itm base [] (.slice none 0 0) w := ⟨[], World.ownsRow_nil _ _ _ _, fun q hq => by cases hq⟩
theorem Side.to {w w' : World} {S S' : Nat → Prop} {l : List Tm} {i : Nat} {xs : List Value} (h : Side w S l i xs) (hS : ∀ b, S b → S' b) (hc : ∀ b o v, S b → w.cell? ⟨b, o, none⟩ = some v → w'.cell? ⟨b, o, none⟩ = some v) : Side w' S' l i xs := by
  intro q hq hl
  obtain ⟨v0, v1, v2, v3, e0, e1, e2, e3, h4⟩ := h q hq hl
  exact ⟨v0, v1, v2, v3, e0, e1, e2, e3, h4.move hS hc _ _⟩
theorem Itm.mv {base p : Nat} {L : List Tm} {sv : Value} {w w' : World} (h : Itm base L sv w) (hM : Only (fun k => k = p) w w') (hp : p < base) : Itm base L sv w' := by
  obtain ⟨xs, h1, h2⟩ := h
  refine ⟨xs, ownsRow_same h1 (fun g hg => hM.block g (h1.lt g hg).2 (by have := (h1.lt g hg).1; omega)), h2.to (fun b hb => ⟨hb.1, Nat.lt_of_lt_of_le hb.2.1 hM.size, hb.2.2⟩) (fun b o v hb hc => hM.cell (by have := hb.1; omega) hc)⟩
theorem Itm.out {base : Nat} {L : List Tm} {sv : Value} {w : World} (h : Itm base L sv w) : ∃ a cap, sv = .slice a L.length cap ∧ Lst w (fun b => base ≤ b) L a cap := by
  obtain ⟨xs, h1, h2⟩ := h
  obtain ⟨a, cap, e, hl⟩ := owns_lst (w := w) (l := L) h1 (fun i hi => h2 i hi hi) (fun _ _ _ _ h => h)
  exact ⟨a, cap, e, hl.wider (fun b hb => hb.elim (fun h => h.1) id)⟩
/-- One more. -/
theorem Itm.add {base : Nat} {L : List Tm} {T : Tm} {sv v' : Value} {w2 w3 : World} {xs : List Value} {v0 v1 v2 v3 : Value} {o : Obj} {lo : Nat} (h1 : w2.ownsRow base 25 4 sv L.length xs)
    (h2 : Side w2 (fun b => base ≤ b ∧ b < w2.heap.size ∧ sv.ownBlock ≠ some b) L L.length xs) (hT : Lies w2 (fun b => lo ≤ b) T (.agg #[v0, v1, v2, v3])) (hlo : base ≤ lo) (hg : ∀ g, sv.ownBlock = some g → g < lo)
    (hown : w3.ownsRow base 25 4 v' (L.length + 1) (xs ++ [v0, v1, v2, v3])) (hgrow : (w2.alloc o).grownBy w3 sv.ownBlock) (hat : v'.ownBlock = sv.ownBlock ∨ v'.ownBlock = some (w2.alloc o).heap.size) : Itm base (L ++ [T]) v' w3 := by
  have hsz : (w2.alloc o).heap.size = w2.heap.size + 1 := World.size_alloc _ _
  have hsz3 := hgrow.size
  have key : ∀ b o' v, b < w2.heap.size → sv.ownBlock ≠ some b → w2.cell? ⟨b, o', none⟩ = some v → w3.cell? ⟨b, o', none⟩ = some v := fun b o' v hb hne hc => by
    unfold World.cell? at hc ⊢
    simp only at hc ⊢
    rw [hgrow.block b (by omega) (fun e => hne e.symm), Below.heap_alloc _ _ _ hb]
    exact hc
  have hne : ∀ b, b < w2.heap.size → sv.ownBlock ≠ some b → v'.ownBlock ≠ some b := fun b hb hn e => by
    rcases hat with h | h
    · rw [h] at e; exact hn e
    · rw [h] at e
      have := Option.some.inj e
      omega
  refine ⟨xs ++ [v0, v1, v2, v3], by rw [List.length_append]; exact hown, ?_⟩
  have hx := h1.1
  intro q hq hlen
  rw [List.length_append, List.length_singleton] at hq
  by_cases he : q = L.length
  · subst he
    refine ⟨v0, v1, v2, v3, ?_, ?_, ?_, ?_, ?_⟩
    iterate 4 (rw [List.getElem?_append_right (by omega), hx]; simp)
    rw [List.getElem_append_right (Nat.le_refl _)]
    simp only [Nat.sub_self, List.getElem_cons_zero]
    refine hT.inside.move (fun b hb => ⟨by have := hb.1; omega, by have := hb.2; omega, hne b hb.2 (fun e => by have := hg b e; have := hb.1; omega)⟩) (fun b o' v hb hc => key b o' v hb.2 (fun e => by have := hg b e; have := hb.1; omega) hc) _ _
  · obtain ⟨u0, u1, u2, u3, e0, e1, e2, e3, hL⟩ := h2 q (by omega) (by omega)
    refine ⟨u0, u1, u2, u3, ?_, ?_, ?_, ?_, ?_⟩
    iterate 4 (rw [List.getElem?_append_left (by omega)]; assumption)
    rw [List.getElem_append_left (by omega)]
    exact hL.move (fun b hb => ⟨hb.1, by have := hb.2.1; omega, hne b hb.2.1 hb.2.2⟩) (fun b o' v hb hc => key b o' v hb.2.1 hb.2.2 hc) _ _

/-- The document's reader: its box, where it is, whether all was well. -/
structure RfW (w0 w : World) (xb q : Nat) (la : Option Addr) (len lcap i : Nat) (bad : Bool) : Prop where
  only : Only (fun k => k = xb) w0 w
  box : w.heap[xb]? = some (.cells #[.pointer (some ⟨q, 0, none⟩), .slice la len lcap, .int .i64 i, .bool bad] 89)
section
variable {w0 w w' : World} {xb q len lcap i : Nat} {la : Option Addr} {bad : Bool}
theorem RfW.up (h : RfW w0 w xb q la len lcap i bad) (hb : Below w.heap.size w w') : RfW w0 w' xb q la len lcap i bad := ⟨h.only.call hb, (hb.block _ (Array.getElem?_eq_some_iff.1 h.box).1).trans h.box⟩
theorem RfW.cells (h : RfW w0 w xb q la len lcap i bad) : (w.cell? ⟨xb, 0, none⟩ = some (.pointer (some ⟨q, 0, none⟩)) ∧ w.cell? ⟨xb, 1, none⟩ = some (.slice la len lcap) ∧ w.cell? ⟨xb, 2, none⟩ = some (.int .i64 i) ∧ w.cell? ⟨xb, 3, none⟩ = some (.bool bad)) ∧
    w.frozen? ⟨xb, 2, none⟩ = false ∧ w.frozen? ⟨xb, 3, none⟩ = false := by
  have hb := h.box
  simp [World.cell?, World.frozen?, hb]
theorem RfW.worse (h : RfW w0 w xb q la len lcap i bad) : RfW w0 (w.setCell ⟨xb, 3, none⟩ (.bool true)) xb q la len lcap i true := ⟨Only.put (S := fun k => k = xb) (p := xb) h.only rfl _ _, by
  have hb := h.box
  simp [World.setCell, Array.getElem?_modify, hb]⟩
theorem RfW.at (h : RfW w0 w xb q la len lcap i bad) (j : Nat) : RfW w0 (w.setCell ⟨xb, 2, none⟩ (.int .i64 j)) xb q la len lcap j bad := ⟨Only.put (S := fun k => k = xb) (p := xb) h.only rfl _ _, by
  have hb := h.box
  simp [World.setCell, Array.getElem?_modify, hb]⟩
end

set_option maxHeartbeats 1000000 in
theorem take_yes {w0 w : World} {xb q len lcap i : Nat} {la : Option Addr} (h : RfW w0 w xb q la len lcap i false) (m : Nat) (hm : i + m ≤ len) (hl : len ≤ 100000) :
    Calls Tryd.prog 77 #[.pointer (some ⟨xb, 0, none⟩), .int .i64 m] w fun e w' => e = .returned (.int .i64 i) ∧ RfW w0 w' xb q la len lcap (i + m) false ∧ Only (fun k => k = xb) w w' := by
  obtain ⟨⟨c0, c1, c2, c3⟩, f2, f3⟩ := h.cells
  have e1 : IntKind.i64.wrap ((len : Int) - i) = (len : Int) - i := wrap_id (by omega) (by omega)
  have e2 : decide ((len : Int) - i < m) = false := by rw [decide_eq_false_iff_not]; omega
  have e3 : IntKind.i64.wrap ((i : Int) + m) = (i : Int) + m := wrap_id (by omega) (by omega)
  have e4 : ¬ (len : Int) - i < m := by omega
  have h1 : RfW w0 (w.setCell ⟨xb, 2, none⟩ (.int .i64 ((i : Int) + m))) xb q la len lcap (i + m) false := by
    have := h.at (i + m)
    rwa [Int.natCast_add] at this
  have H1 := Hid.mk h1
  clear h hm h1
  go_enter Tryd.func77, Tryd.ntmps77
  go_wp2
  go_ret
  exact ⟨rfl, H1.out, Only.set (S := fun k => k = xb) _ _ rfl⟩
set_option maxHeartbeats 1000000 in
theorem take_no {w0 w : World} {xb q len lcap i : Nat} {la : Option Addr} (h : RfW w0 w xb q la len lcap i false) (m : Nat) (hm : len < i + m) (hi : i ≤ len) (_ : m ≤ 100000) (hl : len ≤ 100000) :
    Calls Tryd.prog 77 #[.pointer (some ⟨xb, 0, none⟩), .int .i64 m] w fun e w' => e = .returned (.int .i64 0) ∧ RfW w0 w' xb q la len lcap i true ∧ Only (fun k => k = xb) w w' := by
  obtain ⟨⟨c0, c1, c2, c3⟩, f2, f3⟩ := h.cells
  have e1 : IntKind.i64.wrap ((len : Int) - i) = (len : Int) - i := wrap_id (by omega) (by omega)
  have e2 : decide ((len : Int) - i < m) = true := by rw [decide_eq_true_eq]; omega
  have e4 : (len : Int) - i < m := by omega
  have H1 := Hid.mk h.worse
  clear h hm hl hi
  go_enter Tryd.func77, Tryd.ntmps77
  go_wp2
  go_ret
  exact ⟨rfl, H1.out, Only.set (S := fun k => k = xb) _ _ rfl⟩
set_option maxHeartbeats 1000000 in
theorem take_bad {w0 w : World} {xb q len lcap i : Nat} {la : Option Addr} (h : RfW w0 w xb q la len lcap i true) (m : Int) :
    Calls Tryd.prog 77 #[.pointer (some ⟨xb, 0, none⟩), .int .i64 m] w fun e w' => e = .returned (.int .i64 0) ∧ RfW w0 w' xb q la len lcap i true ∧ Only (fun k => k = xb) w w' := by
  obtain ⟨⟨c0, c1, c2, c3⟩, f2, f3⟩ := h.cells
  have H1 := Hid.mk h.worse
  clear h
  go_enter Tryd.func77, Tryd.ntmps77
  go_wp2
  go_ret
  exact ⟨rfl, H1.out, Only.set (S := fun k => k = xb) _ _ rfl⟩

/-- The head word at i, if it is one of this kind. -/
def hdN (xs : List Int) (i : Nat) (k : Int) : Option Int := match xs[i]? with
  | none => none
  | some h => if Wd.unK h = k then some (Wd.unN h) else none
set_option maxHeartbeats 2000000 in
theorem head_any {w0 w : World} {xb q lcap i : Nat} {la : Option Addr} {xs : List Int} (h : RfW w0 w xb q la xs.length lcap i false) (hx : Wrd w0 xs la lcap) (hne : ∀ b o, 0 < xs.length → la = some ⟨b, o, none⟩ → b ≠ xb) (hi : i ≤ xs.length) (hl : xs.length ≤ 100000) (k : Int) (hk : k = 10 ∨ k = 11) :
    Calls Tryd.prog 76 #[.pointer (some ⟨xb, 0, none⟩), .int .i64 k] w fun e w' => Only (fun k => k = xb) w w' ∧
      ((∃ n, hdN xs i k = some n ∧ e = .returned (.int .i64 n) ∧ RfW w0 w' xb q la xs.length lcap (i + 1) false) ∨ (hdN xs i k = none ∧ e = .returned (.int .i64 0) ∧ ∃ j, RfW w0 w' xb q la xs.length lcap j true)) := by
  by_cases hlt : i < xs.length
  · obtain ⟨b, o, rfl, hc⟩ := hx.cells (by omega)
    have hcw := h.only.cell (hne b o (by omega) rfl) (hc i hlt)
    have hrx := hx.rng _ (List.getElem_mem hlt)
    have hd : hdN xs i k = if Wd.unK xs[i] = k then some (Wd.unN xs[i]) else none := by rw [hdN, List.getElem?_eq_getElem hlt]
    rw [hd]
    have htk := Hid.mk (take_yes h 1 (by omega) hl)
    have hwd := hne b o (by omega) rfl
    have hil : decide ((i : Int) < xs.length) = true := by rw [decide_eq_true_eq]; omega
    have hcon := fun w' (ho : Only (fun k => k = xb) w w') => ho.cell hwd hcw
    have HC := Hid.mk hcon
    have hun := Hid.mk (fun w' => refunpack_any xs[i] w' hrx.1 hrx.2)
    generalize xs[i] = x at *
    have hE : Wd.unE x = 0 ∨ (Wd.unE x = 4 ∧ Wd.unK x = 0) := by
      by_cases hu : Wd.unB x = true
      · exact Or.inl (by rw [Wd.unE, if_pos hu])
      · exact Or.inr ⟨by rw [Wd.unE, if_neg hu], by rw [Wd.unK, if_neg hu]⟩
    generalize Wd.unE x = E at *
    generalize Wd.unK x = K at *
    generalize Wd.unN x = N at *
    have HLT := Hid.mk hlt
    clear hc hcw hrx hd hne hx hi hl hcon h
    rcases hE with rfl | ⟨rfl, rfl⟩
    · by_cases hKk : K = k
      · subst hKk
        clear hwd
        rw [if_pos rfl]
        go_enter Tryd.func76, Tryd.ntmps76
        go_wp2_with (first
          | (go_at_call 77; refine htk.out.mono ?_; rintro e w1 ⟨rfl, h1, ho1⟩; obtain ⟨⟨c0, c1, c2, c3⟩, f2, f3⟩ := h1.cells; have cw := HC.out w1 ho1; have H1 := Hid.mk h1; have HO1 := Hid.mk ho1; clear h1 ho1)
          | (go_at_call 74; refine (hun.out _).mono ?_; rintro e w2 ⟨rfl, rfl⟩))
        go_ret
        exact ⟨HO1.out, Or.inl ⟨N, rfl, rfl, H1.out⟩⟩
      · have hKb : (K == k) = false := by simpa using hKk
        have hKc : ¬ K = k := hKk
        rw [if_neg hKk]
        clear hwd hKk
        go_enter Tryd.func76, Tryd.ntmps76
        go_wp2_with (first
          | (go_at_call 77; refine htk.out.mono ?_; rintro e w1 ⟨rfl, h1, ho1⟩; obtain ⟨⟨c0, c1, c2, c3⟩, f2, f3⟩ := h1.cells; have cw := HC.out w1 ho1; have H1 := Hid.mk h1.worse; have HO1 := Hid.mk ho1; clear h1 ho1)
          | (go_at_call 74; refine (hun.out _).mono ?_; rintro e w2 ⟨rfl, rfl⟩))
        go_ret
        exact ⟨Only.put (S := fun k => k = xb) (p := xb) HO1.out rfl _ _, Or.inr ⟨by first | rfl | trivial, by first | rfl | trivial, _, H1.out⟩⟩
    · rw [if_neg (by omega)]
      clear hwd
      go_enter Tryd.func76, Tryd.ntmps76
      go_wp2_with (first
        | (go_at_call 77; refine htk.out.mono ?_; rintro e w1 ⟨rfl, h1, ho1⟩; obtain ⟨⟨c0, c1, c2, c3⟩, f2, f3⟩ := h1.cells; have cw := HC.out w1 ho1; have H1 := Hid.mk h1.worse; have HO1 := Hid.mk ho1; clear h1 ho1)
        | (go_at_call 74; refine (hun.out _).mono ?_; rintro e w2 ⟨rfl, rfl⟩))
      go_ret
      exact ⟨Only.put (S := fun k => k = xb) (p := xb) HO1.out rfl _ _, Or.inr ⟨by first | rfl | trivial, by first | rfl | trivial, _, H1.out⟩⟩
  · have hd : hdN xs i k = none := by rw [hdN, List.getElem?_eq_none (by omega)]
    rw [hd]
    have htk := Hid.mk (take_no h 1 (by omega) hi (by decide) hl)
    clear hd hne hx hi hl h
    go_enter Tryd.func76, Tryd.ntmps76
    go_wp2_with (first
      | (go_at_call 77; refine htk.out.mono ?_; rintro e w1 ⟨rfl, h1, ho1⟩; obtain ⟨⟨c0, c1, c2, c3⟩, f2, f3⟩ := h1.cells; have H1 := Hid.mk h1; have HO1 := Hid.mk ho1; clear h1 ho1))
    go_ret
    exact ⟨HO1.out, Or.inr ⟨by first | rfl | trivial, by first | rfl | trivial, _, H1.out⟩⟩
end Go.Proofs.YthkjdcmlalgphaaDoor

/-
  The document's reader of flat words: parts.
-/
namespace Go.Proofs.YthkjdcmlalgphaaDoor
open Go.RowKit Go.Deep

/-- What the document's reader stands on. -/
structure RfCtx (w0 : World) (q : Nat) (vq : Value) (L : List ByteArray) (xs : List Int) (la : Option Addr) (lcap xb : Nat) : Prop where
  tab : RTab w0 q vq L
  wrd : Wrd w0 xs la lcap
  ne : ¬ MineR q vq xb
  nw : ∀ b o, 0 < xs.length → la = some ⟨b, o, none⟩ → b ≠ xb
  lt : xb < w0.heap.size
  few : xs.length ≤ 100000
  short : ∀ s ∈ L, s.size ≤ 64
/-- What term comes to, of a given depth. -/
def TermC (w0 : World) (q : Nat) (L : List ByteArray) (xs : List Int) (la : Option Addr) (lcap xb f : Nat) : Prop :=
  ∀ (w : World) (i : Nat) (x : Int), RfW w0 w xb q la xs.length lcap i false → i ≤ xs.length → 0 ≤ x → x < 18446744073709551616 → xs.length < f + i →
    Calls Tryd.prog 50 #[.pointer (some ⟨xb, 0, none⟩), .int .u64 x] w fun e w' => ∃ (k' n' : Int) (s' : ByteArray) (a' : Option Addr) (m' c' : Nat), e = .returned (.agg #[.int .i64 k', .int .i64 n', .string s', .slice a' m' c']) ∧ Only (fun k => k = xb) w w' ∧
      ((oneR L xs f x i = none ∧ ∃ j, RfW w0 w' xb q la xs.length lcap j true) ∨ ∃ t j, oneR L xs f x i = some (t, j) ∧ j ≤ xs.length ∧ RfW w0 w' xb q la xs.length lcap j false ∧ Lies w' (fun b => w.heap.size ≤ b) t (.agg #[.int .i64 k', .int .i64 n', .string s', .slice a' m' c']))

theorem Only.row {w w1 : World} {base : Nat} {e : TypeId} {z n : Nat} {sv : Value} {ys : List Value} {o : Obj} (h : w.ownsRow base e z sv n ys) (hg : (w.alloc o).grownBy w1 sv.ownBlock) : Only (fun k => base ≤ k) w w1 :=
  (Only.up ((Below.refl _ _).alloc (Nat.le_refl _) _)).trans (S' := fun k => base ≤ k) (Only.grown hg (fun k hk => (h.lt k hk).1)) (fun _ hk => Or.inl hk)
set_option maxHeartbeats 1000000 in
theorem parts_bad {w0 w : World} {xb q len lcap i : Nat} {la : Option Addr} (h : RfW w0 w xb q la len lcap i true) (at_ m : Int) :
    Calls Tryd.prog 78 #[.pointer (some ⟨xb, 0, none⟩), .int .i64 at_, .int .i64 m] w fun e w' => e = .returned (.slice none 0 0) ∧ w = w' := by
  obtain ⟨⟨c0, c1, c2, c3⟩, f2, f3⟩ := h.cells
  clear h
  go_enter Tryd.func78, Tryd.ntmps78
  go_wp2
  go_loopw [7, 8] (fun sv ii wr => sv = .slice none 0 0 ∧ ii = .int .i64 0 ∧ wr = w) (fun _ _ _ => 0)
  case atStart => exact ⟨rfl, rfl, rfl⟩
  case round =>
    obtain ⟨rfl, rfl, rfl⟩ := hrel
    by_cases hlt : 0 < m
    · have d1 : decide (0 < m) = true := by rw [decide_eq_true_eq]; omega
      go_wp2
      go_ret
      exact ⟨rfl, rfl⟩
    · have d1 : decide (0 < m) = false := by rw [decide_eq_false_iff_not]; omega
      go_wp2
      go_ret
      exact ⟨rfl, rfl⟩

set_option maxHeartbeats 4000000 in
set_option maxRecDepth 100000 in
theorem parts_good {w0 : World} {q : Nat} {vq : Value} {L : List ByteArray} {xs : List Int} {la : Option Addr} {lcap xb : Nat} (hC : RfCtx w0 q vq L xs la lcap xb) (f : Nat) (hterm : TermC w0 q L xs la lcap xb f) :
    ∀ (w : World) (i at_ m : Nat), RfW w0 w xb q la xs.length lcap i false → i ≤ xs.length → at_ + m ≤ xs.length → (m = 0 ∨ xs.length < f + i) →
      Calls Tryd.prog 78 #[.pointer (some ⟨xb, 0, none⟩), .int .i64 at_, .int .i64 m] w fun e w' => ∃ a n c, e = .returned (.slice a n c) ∧ Only (fun k => k = xb) w w' ∧
        ((goes (oneR L xs f) ((xs.drop at_).take m) i = none ∧ ∃ j, RfW w0 w' xb q la xs.length lcap j true) ∨ ∃ ts j, goes (oneR L xs f) ((xs.drop at_).take m) i = some (ts, j) ∧ j ≤ xs.length ∧ RfW w0 w' xb q la xs.length lcap j false ∧ n = ts.length ∧ Lst w' (fun b => w.heap.size ≤ b) ts a c) := by
  intro w i at_ m hw hi ham hfu
  have HTm := Hid.mk hterm
  have HC := Hid.mk hC
  obtain ⟨i0, hi0, hz0, hz1, hby⟩ := info_at termInfo
  have hxw : xb < w.heap.size := Nat.lt_of_lt_of_le hC.lt hw.only.size
  have HW := Hid.mk hw
  have HB := Hid.mk (show i ≤ xs.length ∧ at_ + m ≤ xs.length ∧ xs.length ≤ 100000 ∧ xb < w.heap.size ∧ (m = 0 ∨ xs.length < f + i) from ⟨hi, ham, hC.few, hxw, hfu⟩)
  clear hterm hC hi ham hfu hxw hw
  go_enter Tryd.func78, Tryd.ntmps78
  go_wp2
  go_loopw [7, 8] (fun sv ii wr => ∃ (j : Nat), ii = .int .i64 j ∧ Hid (Only (fun k => k = xb) w wr) ∧ ((∃ (p : Nat) (ts : List Tm), Hid (j ≤ m ∧ ts.length = j ∧ p ≤ xs.length ∧ i ≤ p) ∧ Hid (goes (oneR L xs f) (((xs.drop at_).take m).take j) i = some (ts, p)) ∧ Hid (RfW w0 wr xb q la xs.length lcap p false) ∧ Hid (Itm w.heap.size ts sv wr)) ∨
      ∃ (p : Nat) (a : Option Addr) (n c : Nat), sv = .slice a n c ∧ Hid (j ≤ m) ∧ Hid (goes (oneR L xs f) ((xs.drop at_).take m) i = none) ∧ Hid (RfW w0 wr xb q la xs.length lcap p true))) (fun _ ii _ => m - (intOf ii).toNat)
  case atStart => exact ⟨0, rfl, Hid.mk (Only.refl _ _), Or.inl ⟨i, [], Hid.mk ⟨Nat.zero_le _, rfl, HB.out.1, Nat.le_refl _⟩, Hid.mk rfl, HW, Hid.mk (Itm.start _ _)⟩⟩
  case round =>
    obtain ⟨j, rfl, hO, hcase⟩ := hrel
    rcases hcase with ⟨p, ts, hJ, hG, hR, hI⟩ | ⟨p, a, n, c, rfl, hJ, hG, hR⟩
    · obtain ⟨⟨c0, c1, c2, c3⟩, f2, f3⟩ := hR.out.cells
      by_cases hlt : j < m
      · have hB := HB.out
        have hjx : at_ + j < xs.length := by omega
        obtain ⟨b, o, hla, hcx⟩ := HC.out.wrd.cells (by omega)
        have cw := hR.out.only.cell (HC.out.nw b o (by omega) hla) (hcx _ hjx)
        have hxr := HC.out.wrd.rng _ (List.getElem_mem hjx)
        have hws : ((xs.drop at_).take m).take (j + 1) = ((xs.drop at_).take m).take j ++ [xs[at_ + j]] := by
          have e : ((xs.drop at_).take m)[j]? = some xs[at_ + j] := by
            rw [List.getElem?_take, if_pos hlt, List.getElem?_drop, List.getElem?_eq_getElem hjx]
          exact List.take_succ_eq_append_getElem (l := (xs.drop at_).take m) (i := j) (by rw [List.length_take, List.length_drop]; omega) |>.trans (by rw [show ((xs.drop at_).take m)[j]'(by rw [List.length_take, List.length_drop]; omega) = xs[at_ + j] from Option.some.inj ((List.getElem?_eq_getElem _).symm.trans e)])
        have hgs := goes_snoc (P := oneR L xs f) _ xs[at_ + j] i ts p hG.out
        rw [← hws] at hgs
        have hgn : goes (oneR L xs f) (((xs.drop at_).take m).take (j + 1)) i = none → goes (oneR L xs f) ((xs.drop at_).take m) i = none := fun h => by
          have := goes_append_none (((xs.drop at_).take m).take (j + 1)) (((xs.drop at_).take m).drop (j + 1)) i h
          rwa [List.take_append_drop] at this
        have hJ' := hJ.out
        have hcall := HTm.out wr p xs[at_ + j] hR.out hJ'.2.2.1 hxr.1 hxr.2 (by omega)
        obtain ⟨x, hx⟩ : ∃ x, xs[at_ + j] = x := ⟨_, rfl⟩
        rw [hx] at cw hcall hgs
        subst hla
        have HCall := Hid.mk hcall
        have HGS := Hid.mk hgs
        have HGN := Hid.mk hgn
        have HLT := Hid.mk hlt
        have hwj : IntKind.i64.wrap ((j : Int) + 1) = ((j + 1 : Nat) : Int) := by rw [wrap_id (by omega) (by omega)]; omega
        have hwa : IntKind.i64.wrap ((at_ : Int) + j) = ((at_ + j : Nat) : Int) := by rw [wrap_id (by omega) (by omega)]; omega
        have hle : decide ((j : Int) < m) = true := by rw [decide_eq_true_eq]; omega
        have hxl : at_ + j < xs.length := hjx
        clear hcall hgs hgn hws hxr hx hlt hB hJ' hcx hjx
        obtain ⟨ys0, hy0⟩ := hI.out
        have HY0 := Hid.mk hy0
        clear hy0
        go_wp2_with (first
          | (go_at_call 50; refine HCall.out.mono ?_; rintro e w5 ⟨k5, n5, s5, a5, m5, c5, rfl, ho5, hv5⟩
             obtain ⟨ys, hy1, hy2⟩ := hI.out.mv ho5 HB.out.2.2.2.1
             have HO5 := Hid.mk ho5
             have HV5 := Hid.mk hv5
             have HY1 := Hid.mk hy1
             have HY2 := Hid.mk hy2
             clear ho5 hv5 hy1 hy2)
          | (at_builtin; refine wpList_append_own_at _ rfl _ _ 23 rfl w.heap.size 25 i0 _ 4 56 Tryd.underlying23 hi0 hz0 hz1 hby rfl (by decide) _ _ _ rfl (HY1.out.alloc _) ⟨w5.heap.size, 0, none⟩ 1 1 [.int .i64 k5, .int .i64 n5, .string s5, .slice a5 m5 c5] rfl rfl (cells_new _ _ _) (fun x hx => by simp at hx; rcases hx with rfl | rfl | rfl | rfl <;> rfl) (by unfold maxLen; have := hJ.out; have := HB.out; omega) (by have := hJ.out; have := HB.out; omega) (by simp; have := hO.out.size; have := HO5.out.size; omega) ?_; intro v' w6 hown' hgrow hnil hat; have HOw := Hid.mk hown'; have HGr := Hid.mk hgrow; have HAt := Hid.mk hat; clear hown' hgrow hat hnil))
        go_roundw
        case rel =>
          have hlt := HLT.out
          have hJ' := hJ.out
          have hB := HB.out
          have hO5 := hO.out.size
          have ho6 := Only.row HY1.out HGr.out
          have hO6 : Only (fun k => k = xb) w w6 := (hO.out.trans HO5.out (fun k hk => Or.inl hk)).trans ho6 (fun k hk => Or.inr hk)
          refine ⟨j + 1, by first | rfl | go_num, Hid.mk hO6, ?_⟩
          have hgs := HGS.out
          have hR6 : ∀ jj bb, RfW w0 w5 xb q (some ⟨b, o, none⟩) xs.length lcap jj bb → RfW w0 w6 xb q (some ⟨b, o, none⟩) xs.length lcap jj bb := fun jj bb h => ⟨HW.out.only.trans hO6 (fun k hk => Or.inl hk), ho6.box h.box (fun hk => by have : w.heap.size ≤ xb := hk; omega)⟩
          rcases HV5.out with ⟨hn, jj, hbad⟩ | ⟨t, jj, hs, hjj, hgood, hli⟩
          · rw [hn] at hgs
            obtain ⟨a', c', hv'⟩ : ∃ a' c', v' = .slice a' (ts.length + 1) c' := by
              obtain ⟨a', c', e⟩ := owns_slice HOw.out
              exact ⟨a', c', e⟩
            exact Or.inr ⟨jj, a', _, c', hv', Hid.mk (by omega), Hid.mk (HGN.out hgs), Hid.mk (hR6 _ _ hbad)⟩
          · rw [hs] at hgs
            have hle := oneR_le L xs f _ _ _ _ hs
            exact Or.inl ⟨jj, ts ++ [t], Hid.mk ⟨by omega, by rw [List.length_append, hJ'.2.1]; rfl, hjj, by omega⟩, Hid.mk hgs, Hid.mk (hR6 _ _ hgood), Hid.mk (Itm.add HY1.out HY2.out hli (by omega) (fun g hg => (HY0.out.1.lt g hg).2) HOw.out HGr.out HAt.out)⟩
        case measure =>
          have hlt := HLT.out
          simp [intOf]
          omega
      · have hJ' := hJ.out
        obtain rfl : j = m := by omega
        have hle : decide ((j : Int) < j) = false := by simp
        obtain ⟨a', c', rfl, hl'⟩ := hI.out.out
        have HL := Hid.mk hl'
        clear hl' hJ' hlt
        go_wp2
        go_ret
        have hg := hG.out
        rw [List.take_of_length_le (by rw [List.length_take]; omega)] at hg
        exact ⟨_, _, _, rfl, hO.out, Or.inr ⟨ts, p, hg, hJ.out.2.2.1, hR.out, rfl, HL.out⟩⟩
    · obtain ⟨⟨c0, c1, c2, c3⟩, f2, f3⟩ := hR.out.cells
      by_cases hlt : j < m
      · have d1 : decide ((j : Int) < m) = true := by rw [decide_eq_true_eq]; omega
        have d2 : decide (j < m) = true := by rw [decide_eq_true_eq]; omega
        go_wp2
        go_ret
        exact ⟨_, _, _, rfl, hO.out, Or.inl ⟨hG.out, p, hR.out⟩⟩
      · have d1 : decide ((j : Int) < m) = false := by rw [decide_eq_false_iff_not]; omega
        have d2 : decide (j < m) = false := by rw [decide_eq_false_iff_not]; omega
        go_wp2
        go_ret
        exact ⟨_, _, _, rfl, hO.out, Or.inl ⟨hG.out, p, hR.out⟩⟩
end Go.Proofs.YthkjdcmlalgphaaDoor
