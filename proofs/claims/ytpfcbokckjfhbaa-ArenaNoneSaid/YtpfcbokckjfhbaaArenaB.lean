/-
  The program's arenas: a block found; its words told.
-/
import Derived.Test.YtpfcbokckjfhbaaArenaA
namespace Go.Proofs.Ytpfcbokckjfhbaa
open Go.RowKit Go.Deep Go.Maps Go.WideShapes

section
variable {P : Program} (w : World) {ops : Array Oper} {rest : List Oper} {o : Oper} {a : Act} {Q : Exit → Act → World → Prop}
/-- 'v, ok := m[k]' of a map whose values are kept as they stand. -/
theorem wpList_lookup_held (hg : o.guard = none) (m x : Operand) (t : TypeId) (hop : o.op = Op.lookup t m x true)
    (k e : TypeId) (K : Keyed P k) (ht : P.underlying t = some (.map k e)) {z : Value} (hz : (zeroValue e).run P w = .ok z w) (b n : Nat) (D : DataW Value)
    (hm : a.eval m = .map (some b)) (hown : w.ownsMap P k heldR b n D) (key : Value) (kl : Lit) (hx : a.eval x = key) (hkey : keyOf P k key = some kl)
    (v0 : Value) (y : Bool) (hat : D.atKey kl (.held z) = .held v0) (hh : Maps.has D kl = y)
    (hK : wpList P ops Q rest (a.put o.dst (.tuple #[v0, .bool y])) w) :
    wpList P ops Q (o :: rest) a w :=
  wpList_lookup_own_ok w hg m x t hop k e K ht heldR hz (.held z) [] rfl b n D hm hown key kl hx hkey (fun v ps hv => by
    rw [hat] at hv
    simp only [heldR, Option.some.injEq, Prod.mk.injEq, DataW.held.injEq] at hv
    rw [hv.1, hh]
    exact hK)
end

/-- A number of the range of int. -/
def In64 (n : Int) : Prop := -9223372036854775808 ≤ n ∧ n ≤ 9223372036854775807
theorem key_int {n : Int} (h : In64 n) : keyOf Try.prog 3 (.int .i64 n) = some (keyI n) := keyOf_int_mk Try.underlying3 (WalkArith.wf_i64 h)
theorem zeroW (w : World) : (zeroValue 31).run Try.prog w = .ok (.slice none 0 0) w := Try.zeroValue31 w
theorem keyedI : Keyed Try.prog 3 := int_keyed Try.underlying3

set_option maxHeartbeats 1000000 in
theorem find_yes (p bm W : Nat) (S : Nat → Prop) (B : Blks) (n : Int) (l : List Int) (w : World) (h : Ar w p bm S W B) (hn : In64 n) (hb : blk B n = some l) :
    Calls Try.prog 38 #[.pointer (some ⟨p, 0, none⟩), .int .i64 n] w fun e w' => ∃ a cap, e = .returned (.tuple #[.slice a l.length cap, .int .i64 0]) ∧ Wds w (.slice a l.length cap) l ∧ w = w' := by
  obtain ⟨⟨c0, c1, c2, c3, c4⟩, f3, f4⟩ := boxA_cells h.box
  have hA := Hid.mk h
  obtain ⟨D, hD, hM⟩ := h.map
  obtain ⟨v, hat, hv, _⟩ := hM.at_ n l hb
  have hh : Maps.has D (keyI n) = true := by rw [hM.has, hb]; rfl
  have hkey := key_int hn
  obtain ⟨a, cap, rfl⟩ := owns_slice hv
  have HV := Hid.mk hv
  clear h hM hb hv
  go_enter Try.func38, Try.ntmps38
  go_wp2_with (first
    | (go_at_call 36; refine (madeA_yes _ _ _ _ _ _ hA.out).mono ?_; rintro e w1 ⟨rfl, rfl⟩)
    | (at_lookup; refine wpList_lookup_held _ rfl _ _ 38 rfl 3 31 keyedI Try.underlying38 (zeroW _) bm _ D rfl hD _ _ rfl hkey _ _ hat hh ?_))
  go_ret2
  exact ⟨a, cap, rfl, HV.out, rfl⟩
set_option maxHeartbeats 1000000 in
theorem find_no (p bm W : Nat) (S : Nat → Prop) (B : Blks) (n : Int) (w : World) (h : Ar w p bm S W B) (hn : In64 n) (hb : blk B n = none) :
    Calls Try.prog 38 #[.pointer (some ⟨p, 0, none⟩), .int .i64 n] w fun e w' => e = .returned (.tuple #[.slice none 0 0, .int .i64 6]) ∧ w = w' := by
  obtain ⟨⟨c0, c1, c2, c3, c4⟩, f3, f4⟩ := boxA_cells h.box
  have hA := Hid.mk h
  obtain ⟨D, hD, hM⟩ := h.map
  have hh : Maps.has D (keyI n) = false := by rw [hM.has, hb]; rfl
  have hat : D.atKey (keyI n) (.held (.slice none 0 0)) = .held (.slice none 0 0) := atKey_of_not_has hh _
  have hkey := key_int hn
  clear h hM hb
  go_enter Try.func38, Try.ntmps38
  go_wp2_with (first
    | (go_at_call 36; refine (madeA_yes _ _ _ _ _ _ hA.out).mono ?_; rintro e w1 ⟨rfl, rfl⟩)
    | (at_lookup; refine wpList_lookup_held _ rfl _ _ 38 rfl 3 31 keyedI Try.underlying38 (zeroW _) bm _ D rfl hD _ _ rfl hkey _ _ hat hh ?_))
  go_ret2
  exact ⟨rfl, rfl⟩

/-- What Get tells. -/
def GetV (B : Blks) (n : Int) : List Int := (blk B n).getD []
def GetE (B : Blks) (n : Int) : Int := if (blk B n).isSome then 0 else 6
set_option maxHeartbeats 1000000 in
theorem get_any (p bm W : Nat) (S : Nat → Prop) (B : Blks) (n : Int) (w : World) (h : Ar w p bm S W B) (hn : In64 n) :
    Calls Try.prog 16 #[.pointer (some ⟨p, 0, none⟩), .int .i64 n] w fun e w' => ∃ v, e = .returned (.tuple #[v, .int .i64 (GetE B n)]) ∧ Wds w' v (GetV B n) ∧ (∀ g, v.ownBlock = some g → w.heap.size ≤ g) ∧ Below w.heap.size w w' := by
  unfold GetV GetE
  cases hb : blk B n with
  | none =>
    have hc := Hid.mk (find_no p bm W S B n w h hn hb)
    clear h hn hb
    go_enter Try.func16, Try.ntmps16
    go_wp2_with (first
      | (go_at_call 38; refine hc.out.mono ?_; rintro e w1 ⟨rfl, rfl⟩))
    go_ret2
    exact ⟨.slice none 0 0, rfl, ⟨rfl, Or.inl ⟨rfl, rfl⟩⟩, (fun g hg => by cases hg), Below.refl _ _⟩
  | some l =>
    have hc := Hid.mk (find_yes p bm W S B n l w h hn hb)
    have hl := Hid.mk (h.blk_good hb)
    clear h hn hb
    go_enter Try.func16, Try.ntmps16
    go_wp2_with (first
      | (go_at_call 38; refine hc.out.mono ?_; rintro e w1 ⟨a, cap, rfl, hw, rfl⟩; have HW := Hid.mk hw; clear hw)
      | (go_at_call 37; refine (cloneW_any l a cap _ HW.out.celA hl.out.1 hl.out.2).mono ?_; rintro e w2 ⟨v, rfl, h1, h2, h3⟩; have H := Hid.mk (And.intro h1 (And.intro h2 h3)); clear h1 h2 h3))
    go_ret2
    exact ⟨v, rfl, H.out.1, H.out.2.1, H.out.2.2⟩

end Go.Proofs.Ytpfcbokckjfhbaa
