/-
  Package order's sorted, detach, Sort and Unique.
-/
import Derived.Test.YtabcekeeekbdiaaDoorOrdCpt
import Derived.Test.YtabcekeeekbdiaaDoorTermMore
import Derived.Test.YtabcekeeekbdiaaDoorOrdMath2
import Derived.Test.YtabcekeeekbdiaaDoorOrdCmp
import Derived.Test.YtabcekeeekbdiaaDoorOrdSym
import Derived.Test.YtabcekeeekbdiaaDoorOrdFind
import Derived.Test.YtabcekeeekbdiaaDoorTermPairs
import Derived.Test.YtabcekeeekbdiaaDoorOrdBase
namespace Go.Proofs.YtabcekeeekbdiaaDoor
open Go.RowKit Go.Deep

theorem sortnone_any (w : World) : Calls Tryd.prog 45 #[.slice none 0 0, cmpV] w fun e w' => e = .returned (.tuple #[]) ∧ w = w' := by
  have h1 : Calls Tryd.prog 55 #[.slice none 0 0, .int .i64 0, .int .i64 0, cmpV] w fun e w' => e = .returned (.tuple #[]) ∧ w = w' := by
    go_enter Tryd.func55, Tryd.ntmps55
    go_wp2
    go_loopw [8] (fun ii wr => ii = .int .i64 1 ∧ w = wr) (fun _ _ => 0)
    case atStart => exact ⟨rfl, rfl⟩
    case round =>
      obtain ⟨rfl, rfl⟩ := hrel
      go_wp2
      exact bodyPost_end (results_none rfl _ _ _) rfl ⟨rfl, rfl⟩
  have h2 : Calls Tryd.prog 53 #[.slice none 0 0, .int .i64 0, cmpV] w fun e w' => e = .returned (.tuple #[]) ∧ w = w' := by
    have h1 := Hid.mk h1
    go_enter Tryd.func53, Tryd.ntmps53
    go_wp2
    go_loopw [7, 8] (fun aa bb wr => aa = .int .i64 0 ∧ bb = .int .i64 20 ∧ w = wr) (fun _ _ _ => 0)
    case atStart => exact ⟨rfl, rfl, rfl⟩
    case round =>
      obtain ⟨rfl, rfl, rfl⟩ := hrel
      go_wp2_with (go_at_call 55; refine h1.out.mono ?_; rintro e w2 ⟨rfl, rfl⟩)
      go_loopw [6] (fun ss wr => ss = .int .i64 20 ∧ w = wr) (fun _ _ => 0)
      case atStart => exact ⟨rfl, rfl⟩
      case round =>
        obtain ⟨rfl, rfl⟩ := hrel
        go_wp2
        exact bodyPost_end (results_none rfl _ _ _) rfl ⟨rfl, rfl⟩
  have h2 := Hid.mk h2
  clear h1
  go_enter Tryd.func45, Tryd.ntmps45
  go_wp2_with (go_at_call 53; refine h2.out.mono ?_; rintro e w2 ⟨rfl, rfl⟩)
  exact bodyPost_end (results_none rfl _ _ _) rfl ⟨rfl, rfl⟩

theorem rw_new {w w3 : World} {S : Nat → Prop} {l : List Tm} {g : Nat} {cur : Array Value} {xs : List Value} (hbg : w.heap.size ≤ g) (hb3 : Up w w3) (hgg : w3.heap[g]? = some (.cells cur 24 (0, 0))) (hcs : l.length * 4 ≤ cur.size) (hcu : ∀ (j : Nat) (u : Value), xs[j]? = some u → cur[j]? = some u)
    (hxl : ∀ i (hi : i < l.length), ∃ v0 v1 v2 v3, xs[i * 4]? = some v0 ∧ xs[i * 4 + 1]? = some v1 ∧ xs[i * 4 + 2]? = some v2 ∧ xs[i * 4 + 3]? = some v3 ∧ Lies w S l[i] (.agg #[v0, v1, v2, v3])) : Rw w S g l w3 :=
  ⟨hbg, hb3, cur, hgg, hcs, fun i hi => by
    obtain ⟨v0, v1, v2, v3, e0, e1, e2, e3, hLi⟩ := hxl i hi
    obtain ⟨k, n, s, a, m, c, hv⟩ := hLi.agg
    simp only [Value.agg.injEq, Array.mk.injEq, List.cons.injEq, and_true] at hv
    obtain ⟨rfl, rfl, rfl, rfl⟩ := hv
    exact ⟨k, n, s, a, m, c, hLi, hcu _ _ e0, hcu _ _ e1, hcu _ _ e2, hcu _ _ e3⟩⟩

/-- A new list of a call: its row and its terms lie in memory that wasn't there before. -/
structure NewL (w : World) (l : List Tm) (a : Option Addr) (cap : Nat) (w' : World) : Prop where
  lst : Lst w' (fun b => w.heap.size ≤ b) l a cap
  row : 0 < l.length → ∃ g cur, a = some ⟨g, 0, none⟩ ∧ w.heap.size ≤ g ∧ w'.heap[g]? = some (.cells cur 24 (0, 0)) ∧ l.length * 4 ≤ cur.size

/-- What is sorted stands in a row of its own. -/
def SortedRow (w : World) (S : Nat → Prop) (l : List Tm) (a' : Option Addr) (cap' : Nat) (w' : World) : Prop :=
  (l.length = 0 ∧ a' = none ∧ cap' = 0) ∨ ∃ g, a' = some ⟨g, 0, none⟩ ∧ 0 < l.length ∧ l.length ≤ cap' ∧ cap' ≤ 9223372036854775807 ∧ Rw w (fun b => S b ∧ b < w.heap.size) g (sortT l) w'

set_option maxHeartbeats 1000000 in
theorem sorted_any (l : List Tm) (hlen : l.length ≤ 1000000) (S : Nat → Prop) (a : Option Addr) (cap : Nat) (w : World) (hl0 : Lst w S l a cap) :
    Calls Tryd.prog 31 #[.slice a l.length cap] w fun e w' => (∃ a' cap', e = .returned (.slice a' l.length cap') ∧ SortedRow w S l a' cap' w') ∧ Up w w' := by
  have hl := Hid.mk hl0.inside
  obtain ⟨i0, hi0, hz0, hz1, hby⟩ := info_at termInfo
  have hcap := hl0.2.1
  have hnil : w.ownsRow w.heap.size 24 4 (.slice none 0 0) 0 [] := World.ownsRow_nil _ _ _ _
  by_cases h0 : l.length = 0
  · have hln : l = [] := List.eq_nil_of_length_eq_zero h0
    subst hln
    rcases hl0.2.2 with ⟨rfl, _, hc⟩ | ⟨p, rfl, _, _⟩
    · subst hc
      clear hl0 hl
      go_enter Tryd.func31, Tryd.ntmps31
      go_wp2_with (first
        | (at_builtin; refine wpList_append_own_none rfl _ _ 22 rfl w.heap.size 24 i0 4 Tryd.underlying22 hi0 _ 0 [] rfl hnil rfl ?_)
        | (go_at_call 45; refine (sortnone_any _).mono ?_; rintro e w2 ⟨rfl, rfl⟩))
      go_ret
      exact ⟨⟨none, 0, rfl, Or.inl ⟨rfl, rfl, rfl⟩⟩, Up.refl _⟩
    · clear hl0 hl
      go_enter Tryd.func31, Tryd.ntmps31
      go_wp2_with (first
        | (at_builtin; refine wpList_append_own_at _ rfl _ _ 22 rfl w.heap.size 24 i0 _ 4 56 Tryd.underlying22 hi0 hz0 hz1 hby rfl (by decide) _ 0 [] rfl hnil p 0 cap [] rfl rfl (fun j u hu => by simp at hu) (fun u hu => by cases hu) (by unfold maxLen; omega) (by omega) (Nat.le_refl _) ?_; intro v' w3 hown' hgrow hiff hat; obtain rfl := hiff.2 ⟨rfl, rfl⟩; have hb3 : Up w w3 := (Up.refl w).out.grown hgrow (Nat.le_refl _) (fun k hk => by cases hk))
        | (go_at_call 45; refine (sortnone_any _).mono ?_; rintro e w2 ⟨rfl, rfl⟩))
      go_ret
      exact ⟨⟨none, 0, rfl, Or.inl ⟨rfl, rfl, rfl⟩⟩, hb3⟩
  · obtain ⟨b, o, rfl, hSb, hrow⟩ := hl.out.some (by omega)
    obtain ⟨xs, hx, hxc, hx1, hxl⟩ := hrow.list
    obtain ⟨L, hL⟩ : ∃ L, l.length = L := ⟨_, rfl⟩
    rw [hL] at hx hlen h0 ⊢
    have hxc' : ∀ j u, xs[j]? = some u → w.cell? ((⟨b, o, none⟩ : Addr).add j) = some u := fun j u hu => by
      rw [WideShapes.add_plain]
      exact hxc j u hu
    have hxc' := Hid.mk hxc'
    have hxl := Hid.mk hxl
    have hLh := Hid.mk hL
    have hx1 := Hid.mk hx1
    clear hl0 hl hrow hxc hL
    go_enter Tryd.func31, Tryd.ntmps31
    go_wp2_with (first
      | (at_builtin; refine wpList_append_own_at _ rfl _ _ 22 rfl w.heap.size 24 i0 _ 4 56 Tryd.underlying22 hi0 hz0 hz1 hby rfl (by decide) _ 0 [] rfl hnil ⟨b, o, none⟩ L cap xs rfl hx hxc'.out hx1.out (by unfold maxLen; omega) (by omega) (Nat.le_refl _) ?_; intro v' w3 hown' hgrow hiff hat; have hb3 : Up w w3 := (Up.refl w).out.grown hgrow (Nat.le_refl _) (fun k hk => by cases hk); obtain ⟨g, cap', cur, rfl, hbg, hgg, hcc, hcm, hcs, hcu⟩ := owns_some hown' (by omega); simp only [Nat.zero_add, List.nil_append] at hcc hcs hcu; have hrw := Hid.mk (rw_new (w := w) (S := fun b => S b ∧ b < w.heap.size) hbg hb3 hgg (by rw [hLh.out]; exact hcs) hcu hxl.out); clear hown' hgrow hiff hat hcu hcs hgg)
      | (go_at_call 45; refine (sortstable_any w (fun b => S b ∧ b < w.heap.size) g cap' L l hLh.out (by omega) hlen _ hrw.out).mono ?_; rintro e w2 ⟨rfl, h2⟩))
    go_ret
    exact ⟨⟨some ⟨g, 0, none⟩, cap', by simp, Or.inr ⟨g, rfl, by rw [hLh.out]; omega, by rw [hLh.out]; exact hcc, hcm, h2⟩⟩, h2.up⟩

/-- The row's first i terms have memory of their own. -/
structure Dt (w0 : World) (S : Nat → Prop) (g N : Nat) (l : List Tm) (i : Nat) (w : World) : Prop where
  new : w0.heap.size ≤ g
  gN : g < N
  Nw : N ≤ w.heap.size
  N0 : w0.heap.size ≤ N
  up : Up w0 w
  row : ∃ cur : Array Value, w.heap[g]? = some (.cells cur 24 (0, 0)) ∧ l.length * 4 ≤ cur.size ∧
    ∀ q (hq : q < l.length), ∃ k n s a m cap, (if q < i then Lies w (fun b => N ≤ b) l[q] (.agg #[.int .i64 k, .int .i64 n, .string s, .slice a m cap]) else Lies w0 S l[q] (.agg #[.int .i64 k, .int .i64 n, .string s, .slice a m cap])) ∧
      cur[q * 4]? = some (.int .i64 k) ∧ cur[q * 4 + 1]? = some (.int .i64 n) ∧ cur[q * 4 + 2]? = some (.string s) ∧ cur[q * 4 + 3]? = some (.slice a m cap)
section
variable {w0 w w2 : World} {S : Nat → Prop} {g N i : Nat} {l : List Tm}
theorem Dt.start (h : Rw w0 S g l w) : Dt w0 S g w.heap.size l 0 w := by
  obtain ⟨cur, hc, hs, hx⟩ := h.row
  refine ⟨h.new, h.lt, Nat.le_refl _, h.up.out.size, h.up, cur, hc, hs, fun q hq => ?_⟩
  obtain ⟨k, n, s, a, m, cap, hL, hcs⟩ := hx q hq
  exact ⟨k, n, s, a, m, cap, by rw [if_neg (by omega)]; exact hL, hcs⟩
theorem Dt.step (h : Dt w0 S g N l i w) (hi : i < l.length) (hu : Up w w2) {k n : Int} {s : ByteArray} {a : Option Addr} {m cap : Nat} (ht : Lies w2 (fun b => w.heap.size ≤ b) l[i] (.agg #[.int .i64 k, .int .i64 n, .string s, .slice a m cap])) :
    Dt w0 S g N l (i + 1) (put4 w2 g (i * 4) (.int .i64 k) (.int .i64 n) (.string s) (.slice a m cap)) := by
  obtain ⟨cur, hc, hs, hx⟩ := h.row
  have hc2 := (hu.out.block _ (Array.getElem?_eq_some_iff.1 hc).1).trans hc
  have hsz := hu.out.size
  have hN := h.Nw
  have hg := h.gN
  have mv : ∀ {S' : Nat → Prop} {t : Tm} {v : Value}, (∀ b, S' b → b ≠ g) → Lies w2 S' t v → Lies (put4 w2 g (i * 4) (.int .i64 k) (.int .i64 n) (.string s) (.slice a m cap)) S' t v := fun hS hL =>
    hL.move (fun _ h => h) (fun b o v hb hcl => (World.cell?_of_block (w := w2) (a := ⟨b, o, none⟩) (put4_heap _ _ _ _ _ _ _ _ (hS b hb))).trans hcl) _ _
  refine ⟨h.new, h.gN, by rw [put4_size]; omega, h.N0, Below.put4 (h.up.call hu.out).out h.new, _, put4_block hc2, ?_, fun q hq => ?_⟩
  · simp only [Array.size_setIfInBounds]; exact hs
  · by_cases hqi : q = i
    · subst hqi
      refine ⟨k, n, s, a, m, cap, ?_, ?_, ?_, ?_, ?_⟩
      · rw [if_pos (by omega)]
        exact (mv (fun b hb => by omega) ht).wider (fun b hb => by omega)
      all_goals (simp only [Array.getElem?_setIfInBounds, Array.size_setIfInBounds]; simp; omega)
    · obtain ⟨k', n', s', a', m', cap', hL, c0, c1, c2, c3⟩ := hx q hq
      refine ⟨k', n', s', a', m', cap', ?_, ?_, ?_, ?_, ?_⟩
      · by_cases hlt : q < i
        · rw [if_pos hlt] at hL
          rw [if_pos (by omega)]
          exact mv (fun b hb => by omega) (hL.below hu.out)
        · rw [if_neg hlt] at hL
          rw [if_neg (by omega)]
          exact hL
      all_goals
        simp only [Array.getElem?_setIfInBounds, Array.size_setIfInBounds]
        rw [if_neg (by omega), if_neg (by omega), if_neg (by omega), if_neg (by omega)]
        assumption
theorem Dt.at (h : Dt w0 S g N l i w) (hi : i < l.length) : ∃ cur k n s a m cap, Lies w S l[i] (.agg #[.int .i64 k, .int .i64 n, .string s, .slice a m cap]) ∧ w.heap[g]? = some (.cells cur 24 (0, 0)) ∧ i * 4 + 3 < cur.size ∧
    cur[i * 4]? = some (.int .i64 k) ∧ cur[i * 4 + 1]? = some (.int .i64 n) ∧ cur[i * 4 + 2]? = some (.string s) ∧ cur[i * 4 + 3]? = some (.slice a m cap) := by
  obtain ⟨cur, hc, hs, hx⟩ := h.row
  obtain ⟨k, n, s, a, m, cap, hL, c0, c1, c2, c3⟩ := hx i hi
  rw [if_neg (by omega)] at hL
  exact ⟨cur, k, n, s, a, m, cap, hL.below h.up.out, hc, by omega, c0, c1, c2, c3⟩
theorem Dt.done (h : Dt w0 S g N l l.length w) (cap : Nat) (h1 : l.length ≤ cap) (h2 : cap ≤ 9223372036854775807) : NewL w0 l (some ⟨g, 0, none⟩) cap w := by
  obtain ⟨cur, hc, hs, hx⟩ := h.row
  have hcell : ∀ j, w.cell? ⟨g, 0 + j, none⟩ = _ := fun j => cell_of_row w g (0 + j) cur 24 (0, 0) hc
  simp only [Nat.zero_add] at hcell
  refine ⟨⟨h1, h2, Or.inr ⟨_, rfl, fun _ => ⟨h.new, rfl⟩, Row.of fun q hq => ?_⟩⟩, fun _ => ⟨g, cur, rfl, h.new, hc, hs⟩⟩
  obtain ⟨k, n, s, a, m, c, hL, c0, c1, c2, c3⟩ := hx q hq
  rw [if_pos hq] at hL
  rw [Nat.zero_add]
  have := h.N0
  exact ⟨_, _, _, _, (hcell _).trans c0, (hcell _).trans c1, (hcell _).trans c2, (hcell _).trans c3, hL.wider (fun b hb => by omega)⟩
end

set_option maxHeartbeats 1000000 in
theorem detachR_any (w0 : World) (S : Nat → Prop) (g cap L : Nat) (l : List Tm) (hl : l.length = L) (hlen : L ≤ 1000000) (hcap : L ≤ cap) (hcap2 : cap ≤ 9223372036854775807) (hsz : ∀ t ∈ l, t.size ≤ 1000000 ∧ t.Short) (w : World) (h : Rw w0 S g l w) :
    Calls Tryd.prog 30 #[.slice (some ⟨g, 0, none⟩) L cap] w fun e w' => e = .returned (.slice (some ⟨g, 0, none⟩) L cap) ∧ NewL w0 l (some ⟨g, 0, none⟩) cap w' ∧ Up w0 w' := by
  have h0 := Hid.mk (Dt.start h)
  have hll := Hid.mk hl
  have hsz := Hid.mk hsz
  obtain ⟨N, hN⟩ : ∃ N, w.heap.size = N := ⟨_, rfl⟩
  rw [hN] at h0
  clear h hl hN
  go_enter Tryd.func30, Tryd.ntmps30
  go_wp2
  go_loopw [6] (fun ii wr => ∃ i : Nat, i ≤ L ∧ ii = .int .i64 i ∧ Hid (Dt w0 S g N l i wr)) (fun ii _ => L - (intOf ii).toNat)
  case atStart => exact ⟨0, Nat.zero_le _, rfl, h0⟩
  case round =>
    clear h0
    obtain ⟨i, hi, rfl, hD⟩ := hrel
    by_cases hlt : i < L
    · have hil : i < l.length := by have := hll.out; omega
      obtain ⟨cur, k, n, s, a, m, c, hL, hc, hcs, c0, c1, c2, c3⟩ := hD.out.at hil
      have hcl : ∀ j, wr.cell? ⟨g, j, none⟩ = cur[j]? := fun j => cell_of_row wr g j cur _ (0, 0) hc
      have e0 := (hcl _).trans c0
      have e1 := (hcl _).trans c1
      have e2 := (hcl _).trans c2
      have e3 := (hcl _).trans c3
      have hss := hsz.out l[i] (List.getElem_mem hil)
      have hcopy := Hid.mk (copyC_any l[i] hss.1 hss.2 S _ wr hL)
      have hstep := Hid.mk (fun (w2 : World) (hu : Up wr w2) (k n : Int) (s : ByteArray) (a : Option Addr) (m cap : Nat) ht => hD.out.step (w2 := w2) hil hu (k := k) (n := n) (s := s) (a := a) (m := m) (cap := cap) ht)
      have hfc := Hid.mk (fun (w2 : World) (hu : Up wr w2) => (⟨cell_below hu.out _ _ _ e0, cell_below hu.out _ _ _ e1, cell_below hu.out _ _ _ e2, cell_below hu.out _ _ _ e3, (by
        have hc2 := (hu.out.block _ (Array.getElem?_eq_some_iff.1 hc).1).trans hc
        exact fun o => by simp [World.frozen?, hc2] : ∀ o, w2.frozen? ⟨g, o, none⟩ = false)⟩ : _ ∧ _ ∧ _ ∧ _ ∧ _))
      clear hss hcl c0 c1 c2 c3 hL hc
      go_wp2_with (go_at_call 44; refine hcopy.out.mono ?_; rintro e w2 ⟨⟨v, rfl, hLv⟩, hb2⟩; obtain ⟨k7, n7, s7, a7, m7, c7, hv7⟩ := hLv.agg; subst hv7; have hst := Hid.mk (hstep.out w2 hb2 _ _ _ _ _ _ hLv); obtain ⟨e0, e1, e2, e3, hf⟩ := hfc.out w2 hb2; have f0 := hf (i * 4); have f1 := hf (i * 4 + 1); have f2 := hf (i * 4 + 2); have f3 := hf (i * 4 + 3); clear hf hLv)
      go_roundw
      case rel => exact ⟨i + 1, hlt, by go_num, hst⟩
      case measure => simp [intOf]; omega
    · obtain rfl : i = L := by omega
      go_wp2
      go_ret
      have hD := hD.out
      have hll := hll.out
      rw [← hll] at hD hcap ⊢
      exact ⟨rfl, hD.done cap hcap hcap2, hD.up⟩
theorem detachN_any (w : World) : Calls Tryd.prog 30 #[.slice none 0 0] w fun e w' => e = .returned (.slice none 0 0) ∧ w = w' := by
  go_enter Tryd.func30, Tryd.ntmps30
  go_wp2
  go_loopw [6] (fun ii wr => ii = .int .i64 0 ∧ w = wr) (fun _ _ => 0)
  case atStart => exact ⟨rfl, rfl⟩
  case round =>
    obtain ⟨rfl, rfl⟩ := hrel
    go_wp2
    go_ret
    exact ⟨rfl, rfl⟩
theorem compactN_any (w : World) : Calls Tryd.prog 32 #[.slice none 0 0, alikeV] w fun e w' => e = .returned (.slice none 0 0) ∧ w = w' := by
  go_enter Tryd.func32, Tryd.ntmps32
  go_wp2
  go_ret
  exact ⟨rfl, rfl⟩

theorem newL_nil (w w' : World) : NewL w [] none 0 w' := ⟨lst_nil _ _, fun h => by cases h⟩
theorem sort_any (l : List Tm) (hlen : l.length ≤ 1000000) (hsz : ∀ t ∈ l, t.size ≤ 1000000 ∧ t.Short) (S : Nat → Prop) (a : Option Addr) (cap : Nat) (w : World) (hl0 : Lst w S l a cap) :
    Calls Tryd.prog 14 #[.slice a l.length cap] w fun e w' => (∃ a' cap', e = .returned (.slice a' (sortT l).length cap') ∧ NewL w (sortT l) a' cap' w') ∧ Up w w' := by
  have hl := Hid.mk (sorted_any l hlen S a cap w hl0)
  have hsz := Hid.mk hsz
  obtain ⟨L, hL⟩ : ∃ L, l.length = L := ⟨_, rfl⟩
  rw [hL] at hl hlen ⊢
  have hLh := Hid.mk hL
  have hSl := Hid.mk (sortT_length l)
  clear hl0 hL
  go_enter Tryd.func14, Tryd.ntmps14
  go_wp2_with (go_at_call 31; refine hl.out.mono ?_; rintro e w2 ⟨⟨a', cap', rfl, hr⟩, hu⟩; have hr := Hid.mk hr)
  rcases hr.out with ⟨h0, rfl, rfl⟩ | ⟨g, rfl, h0, hc1, hc2, hrw⟩
  · obtain rfl : L = 0 := by have := hLh.out; omega
    have hln : l = [] := List.eq_nil_of_length_eq_zero h0
    subst hln
    refine (detachN_any _).mono ?_
    rintro e w3 ⟨rfl, rfl⟩
    go_wp2
    go_ret
    exact ⟨⟨none, 0, rfl, newL_nil _ _⟩, hu⟩
  · have hd := detachR_any w (fun b => S b ∧ b < w.heap.size) g cap' L (sortT l) (by rw [hSl.out, hLh.out]) hlen (by have := hLh.out; omega) hc2 (fun t ht => hsz.out t (sortT_mem.1 ht)) _ hrw
    refine hd.mono ?_
    rintro e w3 ⟨rfl, hn, hu3⟩
    have hn := Hid.mk hn
    go_wp2
    go_ret
    exact ⟨⟨some ⟨g, 0, none⟩, cap', by rw [hSl.out, hLh.out]; rfl, hn.out⟩, hu3⟩
theorem uniqT_mem {l : List Tm} (h : Sorted l) {x : Tm} (hx : x ∈ uniqT l) : x ∈ l := (uniqG_rising l none h (fun q hq => by cases hq)).2.2.1 x hx
theorem unique_any (l : List Tm) (hlen : l.length ≤ 1000000) (hsz : ∀ t ∈ l, t.size ≤ 1000000 ∧ t.Short) (S : Nat → Prop) (a : Option Addr) (cap : Nat) (w : World) (hl0 : Lst w S l a cap) :
    Calls Tryd.prog 15 #[.slice a l.length cap] w fun e w' => (∃ a' cap', e = .returned (.slice a' (uniqT (sortT l)).length cap') ∧ NewL w (uniqT (sortT l)) a' cap' w') ∧ Up w w' := by
  have hl := Hid.mk (sorted_any l hlen S a cap w hl0)
  have hsz := Hid.mk hsz
  obtain ⟨L, hL⟩ : ∃ L, l.length = L := ⟨_, rfl⟩
  rw [hL] at hl hlen ⊢
  have hLh := Hid.mk hL
  have hSl := Hid.mk (sortT_length l)
  have hUl := Hid.mk (uniqT_length (sortT l))
  clear hl0 hL
  go_enter Tryd.func15, Tryd.ntmps15
  go_wp2_with (go_at_call 31; refine hl.out.mono ?_; rintro e w2 ⟨⟨a', cap', rfl, hr⟩, hu⟩; have hr := Hid.mk hr)
  rcases hr.out with ⟨h0, rfl, rfl⟩ | ⟨g, rfl, h0, hc1, hc2, hrw⟩
  · obtain rfl : L = 0 := by have := hLh.out; omega
    have hln : l = [] := List.eq_nil_of_length_eq_zero h0
    subst hln
    refine (compactN_any _).mono ?_
    rintro e w3 ⟨rfl, rfl⟩
    go_wp2_with (go_at_call 30; refine (detachN_any _).mono ?_; rintro e w4 ⟨rfl, rfl⟩)
    go_ret
    exact ⟨⟨none, 0, rfl, newL_nil _ _⟩, hu⟩
  · have hcm := compact_any w (fun b => S b ∧ b < w.heap.size) g cap' L (sortT l) (by rw [hSl.out, hLh.out]) (by have := hLh.out; omega) hc2 hlen _ hrw
    refine hcm.mono ?_
    rintro e w3 ⟨rfl, hrw3⟩
    have hd := Hid.mk (detachR_any w (fun b => S b ∧ b < w.heap.size) g cap' _ (uniqT (sortT l)) rfl (by have := hSl.out; have := hUl.out; have := hLh.out; omega) (by have := hSl.out; have := hUl.out; omega) hc2 (fun t ht => hsz.out t (sortT_mem.1 (uniqT_mem (sortT_sorted l) ht))) _ hrw3)
    go_wp2_with (go_at_call 30; refine hd.out.mono ?_; rintro e w4 ⟨rfl, hn, hu3⟩; have hn := Hid.mk hn)
    go_ret
    exact ⟨⟨some ⟨g, 0, none⟩, cap', rfl, hn.out⟩, hu3⟩

end Go.Proofs.YtabcekeeekbdiaaDoor

/-
  slices' BinarySearchFunc at terms, package order's Find.
-/
namespace Go.Proofs.YtabcekeeekbdiaaDoor
open Go.RowKit Go.Deep

theorem find_at {l : List Tm} (hs : Sorted l) (T : Tm) {i : Nat} (h1 : ∀ (_ : 0 < i) (h : i - 1 < l.length), l[i - 1].cmp T < 0) (h2 : ∀ h : i < l.length, ¬ l[i].cmp T < 0) (hi : i ≤ l.length) : findN l T = i :=
  findN_is l T i hi (fun j hj hl => cmp_le_lt (sorted_at hs (show j ≤ i - 1 by omega) (by omega)) (h1 (by omega) (by omega))) h2

set_option maxHeartbeats 2000000 in
theorem bsearch_any (l : List Tm) (hs : Sorted l) (hlen : l.length ≤ 1000000) (T : Tm) (S S' : Nat → Prop) (a : Option Addr) (cap : Nat) (v : Value) (w : World) (hl0 : Lst w S l a cap) (hv0 : Lies w S' T v) :
    Calls Tryd.prog 34 #[.slice a l.length cap, v, .func (.func 6) #[] #[]] w fun e w' => e = .returned (.tuple #[.int .i64 (findN l T), .bool (findB l T)]) ∧ Below w.heap.size w w' := by
  obtain ⟨k, n, s, a', m', cap', rfl⟩ := hv0.agg
  obtain ⟨W0, hW0⟩ : ∃ W0, w.alloc (.cells #[.int .i64 k, .int .i64 n, .string s, .slice a' m' cap'] 24) = W0 := ⟨_, rfl⟩
  have hu0 : Up w W0 := by rw [← hW0]; exact (Up.refl w).alloc
  have hbx : W0.heap[w.heap.size]? = some (.cells #[.int .i64 k, .int .i64 n, .string s, .slice a' m' cap'] 24) := by rw [← hW0]; exact new_block _ _
  have hl := Hid.mk (hl0.below hu0.out)
  have hv := Hid.mk (hv0.below hu0.out)
  obtain ⟨L, hLe⟩ : ∃ L, l.length = L := ⟨_, rfl⟩
  rw [hLe] at hlen ⊢
  have hLh := Hid.mk hLe
  have hsh := Hid.mk hs
  clear hl0 hv0 hLe
  go_enter Tryd.func34, Tryd.ntmps34
  go_wp2
  clear hW0
  go_loopw [9, 10] (fun ii jj wr => ∃ i j : Nat, ii = .int .i64 i ∧ jj = .int .i64 j ∧ i ≤ j ∧ j ≤ L ∧ Hid (∀ (h0 : 0 < i) (h : i - 1 < l.length), l[i - 1].cmp T < 0) ∧ Hid (∀ h : j < l.length, ¬ l[j].cmp T < 0) ∧ Up W0 wr) (fun ii jj _ => (intOf jj - intOf ii).toNat)
  case atStart => exact ⟨0, L, rfl, rfl, by omega, Nat.le_refl _, Hid.mk (fun h => by omega), Hid.mk (fun h => by have := hLh.out; omega), Up.refl _⟩
  case round =>
    obtain ⟨i, j, rfl, rfl, hij, hj, hlo, hhi, hur⟩ := hrel
    have hbr := (hur.out.block _ (Array.getElem?_eq_some_iff.1 hbx).1).trans hbx
    by_cases hlt : i < j
    · have hd : decide ((i : Int) < (j : Int)) = true := by simp; omega
      obtain ⟨c, hc⟩ : ∃ c, (i + j) / 2 = c := ⟨_, rfl⟩
      have hcl : c < l.length := by have := hLh.out; omega
      obtain ⟨b, o, rfl, _, hr⟩ := (hl.out.below hur.out).some (by omega)
      obtain ⟨k1, n1, s1, m1, a1, cap1, hT1, c0, c1, c2, c3, hli⟩ := hr.part c hcl
      have hcall := Hid.mk (fun (W : World) (hW : Up wr W) => compare_any l[c] T S S' _ _ W (hli.below hW.out) (hv.out.below (hur.call hW.out).out))
      obtain ⟨x, hxe⟩ : ∃ x, l[c].cmp T = x := ⟨_, rfl⟩
      rw [hxe] at hcall
      have hxe := Hid.mk hxe
      have hic : i ≤ c ∧ c < j := by omega
      have hdiv : ((i : Int) + (j : Int)) / 2 = (c : Int) := by omega
      have dc : (0 : Int) ≤ (c : Int) := by omega
      have dc' : (c : Int) < (L : Int) := by omega
      have hch := Hid.mk hc
      clear hT1 hli hc hr
      by_cases hx : x < 0
      · have hdx : decide (x < 0) = true := decide_eq_true hx
        go_upto_region 5 with fail
        refine region_up (W := wr) (by kernel_rfl) (by kernel_rfl) (Up.refl _) ?_
        refine quiet_value (v := .func (.func 6) #[] #[]) rfl (fun _ _ => rfl) ?_
        simp only [Act.put, List.setIfInBounds_toArray, List.set_cons_zero, List.set_cons_succ]
        refine quiet_value (v := .slice (some ⟨b, o, none⟩) L cap) rfl (fun _ _ => rfl) ?_
        simp only [Act.put, List.setIfInBounds_toArray, List.set_cons_zero, List.set_cons_succ]
        refine quiet_value (v := .int .i64 c) rfl (fun _ _ => rfl) ?_
        simp only [Act.put, List.setIfInBounds_toArray, List.set_cons_zero, List.set_cons_succ]
        refine quiet_value (v := .pointer (some ⟨b, o + c * 4, none⟩)) rfl (fun _ _ => (by go_simp)) ?_
        simp only [Act.put, List.setIfInBounds_toArray, List.set_cons_zero, List.set_cons_succ]
        refine quiet_value (v := .agg #[.int .i64 k1, .int .i64 n1, .string s1, .slice a1 m1.length cap1]) rfl (fun W h => (by have u0 := cell_below h.out _ _ _ c0; have u1 := cell_below h.out _ _ _ c1; have u2 := cell_below h.out _ _ _ c2; have u3 := cell_below h.out _ _ _ c3; go_simp)) ?_
        simp only [Act.put, List.setIfInBounds_toArray, List.set_cons_zero, List.set_cons_succ]
        refine quiet_value (v := .agg #[.int .i64 k, .int .i64 n, .string s, .slice a' m' cap']) rfl (fun W h => (by obtain ⟨q0, q1, q2, q3⟩ := h.four hbr; go_simp)) ?_
        simp only [Act.put, List.setIfInBounds_toArray, List.set_cons_zero, List.set_cons_succ]
        refine quiet_call (v := .int .i64 x) rfl (fun W => (by go_simp)) (fun W h => (hcall.out W h).mono fun e w' ⟨he, hb⟩ => ⟨he, h.call hb⟩) ?_
        simp only [Act.put, List.setIfInBounds_toArray, List.set_cons_zero, List.set_cons_succ]
        refine quiet_value (v := .bool true) rfl (fun _ _ => (by go_simp)) ?_
        simp only [Act.put, List.setIfInBounds_toArray, List.set_cons_zero, List.set_cons_succ]
        refine quiet_nil ?_
        intro w6 hw6
        go_wp2
        go_roundw
        case rel => exact ⟨c + 1, j, by go_num, rfl, by omega, hj, Hid.mk (fun h0 h => by simp only [Nat.add_sub_cancel]; rw [hxe.out]; exact hx), hhi, hur.call hw6.out⟩
        case measure => simp [intOf]; omega
      · have hdx : decide (x < 0) = false := decide_eq_false hx
        go_upto_region 5 with fail
        refine region_up (W := wr) (by kernel_rfl) (by kernel_rfl) (Up.refl _) ?_
        refine quiet_value (v := .func (.func 6) #[] #[]) rfl (fun _ _ => rfl) ?_
        simp only [Act.put, List.setIfInBounds_toArray, List.set_cons_zero, List.set_cons_succ]
        refine quiet_value (v := .slice (some ⟨b, o, none⟩) L cap) rfl (fun _ _ => rfl) ?_
        simp only [Act.put, List.setIfInBounds_toArray, List.set_cons_zero, List.set_cons_succ]
        refine quiet_value (v := .int .i64 c) rfl (fun _ _ => rfl) ?_
        simp only [Act.put, List.setIfInBounds_toArray, List.set_cons_zero, List.set_cons_succ]
        refine quiet_value (v := .pointer (some ⟨b, o + c * 4, none⟩)) rfl (fun _ _ => (by go_simp)) ?_
        simp only [Act.put, List.setIfInBounds_toArray, List.set_cons_zero, List.set_cons_succ]
        refine quiet_value (v := .agg #[.int .i64 k1, .int .i64 n1, .string s1, .slice a1 m1.length cap1]) rfl (fun W h => (by have u0 := cell_below h.out _ _ _ c0; have u1 := cell_below h.out _ _ _ c1; have u2 := cell_below h.out _ _ _ c2; have u3 := cell_below h.out _ _ _ c3; go_simp)) ?_
        simp only [Act.put, List.setIfInBounds_toArray, List.set_cons_zero, List.set_cons_succ]
        refine quiet_value (v := .agg #[.int .i64 k, .int .i64 n, .string s, .slice a' m' cap']) rfl (fun W h => (by obtain ⟨q0, q1, q2, q3⟩ := h.four hbr; go_simp)) ?_
        simp only [Act.put, List.setIfInBounds_toArray, List.set_cons_zero, List.set_cons_succ]
        refine quiet_call (v := .int .i64 x) rfl (fun W => (by go_simp)) (fun W h => (hcall.out W h).mono fun e w' ⟨he, hb⟩ => ⟨he, h.call hb⟩) ?_
        simp only [Act.put, List.setIfInBounds_toArray, List.set_cons_zero, List.set_cons_succ]
        refine quiet_value (v := .bool false) rfl (fun _ _ => (by go_simp)) ?_
        simp only [Act.put, List.setIfInBounds_toArray, List.set_cons_zero, List.set_cons_succ]
        refine quiet_nil ?_
        intro w6 hw6
        go_wp2
        go_roundw
        case rel => exact ⟨i, c, rfl, rfl, by omega, by omega, hlo, Hid.mk (fun h => by rw [hxe.out]; exact hx), hur.call hw6.out⟩
        case measure => simp [intOf]; omega
    · obtain rfl : i = j := by omega
      have hd : decide ((i : Int) < (i : Int)) = false := by simp
      have hfn := Hid.mk (find_at hsh.out T (i := i) (fun h0 h => hlo.out h0 h) (fun h => hhi.out h) (by have := hLh.out; omega))
      by_cases hiL : i < L
      · have hd1 : decide ((i : Int) < (L : Int)) = true := by simp; omega
        have hcl : i < l.length := by have := hLh.out; omega
        obtain ⟨b, o, rfl, _, hr⟩ := (hl.out.below hur.out).some (by omega)
        obtain ⟨k1, n1, s1, m1, a1, cap1, hT1, c0, c1, c2, c3, hli⟩ := hr.part i hcl
        have hcall := Hid.mk (fun (W : World) (hW : Up wr W) => compare_any l[i] T S S' _ _ W (hli.below hW.out) (hv.out.below (hur.call hW.out).out))
        have hfb := Hid.mk (findB_some hcl hfn.out)
        obtain ⟨x, hxe⟩ : ∃ x, l[i].cmp T = x := ⟨_, rfl⟩
        rw [hxe] at hcall hfb
        have dc : (0 : Int) ≤ (i : Int) := by omega
        have dc' : (i : Int) < (L : Int) := by omega
        clear hT1 hli hr hxe
        obtain ⟨y, hy⟩ : ∃ y, (x == 0) = y := ⟨_, rfl⟩
        rw [hy] at hfb
        go_upto_region 8 with fail
        refine region_up (W := wr) (by kernel_rfl) (by kernel_rfl) (Up.refl _) ?_
        refine quiet_value (v := .int .i64 i) rfl (fun _ _ => rfl) ?_
        simp only [Act.put, List.setIfInBounds_toArray, List.set_cons_zero, List.set_cons_succ]
        refine quiet_value (v := .int .i64 i) rfl (fun _ _ => rfl) ?_
        simp only [Act.put, List.setIfInBounds_toArray, List.set_cons_zero, List.set_cons_succ]
        refine quiet_value (v := .int .i64 L) rfl (fun _ _ => rfl) ?_
        simp only [Act.put, List.setIfInBounds_toArray, List.set_cons_zero, List.set_cons_succ]
        refine quiet_value (v := .bool true) rfl (fun _ _ => (by go_simp)) ?_
        simp only [Act.put, List.setIfInBounds_toArray, List.set_cons_zero, List.set_cons_succ]
        refine quiet_value (v := .bool true) rfl (fun _ _ => rfl) ?_
        simp only [Act.put, List.setIfInBounds_toArray, List.set_cons_zero, List.set_cons_succ]
        refine quiet_value (v := .func (.func 6) #[] #[]) rfl (fun _ _ => rfl) ?_
        simp only [Act.put, List.setIfInBounds_toArray, List.set_cons_zero, List.set_cons_succ]
        refine quiet_value (v := .slice (some ⟨b, o, none⟩) L cap) rfl (fun _ _ => rfl) ?_
        simp only [Act.put, List.setIfInBounds_toArray, List.set_cons_zero, List.set_cons_succ]
        refine quiet_value (v := .int .i64 i) rfl (fun _ _ => rfl) ?_
        simp only [Act.put, List.setIfInBounds_toArray, List.set_cons_zero, List.set_cons_succ]
        refine quiet_value (v := .pointer (some ⟨b, o + i * 4, none⟩)) rfl (fun _ _ => (by go_simp)) ?_
        simp only [Act.put, List.setIfInBounds_toArray, List.set_cons_zero, List.set_cons_succ]
        refine quiet_value (v := .agg #[.int .i64 k1, .int .i64 n1, .string s1, .slice a1 m1.length cap1]) rfl (fun W h => (by have u0 := cell_below h.out _ _ _ c0; have u1 := cell_below h.out _ _ _ c1; have u2 := cell_below h.out _ _ _ c2; have u3 := cell_below h.out _ _ _ c3; go_simp)) ?_
        simp only [Act.put, List.setIfInBounds_toArray, List.set_cons_zero, List.set_cons_succ]
        refine quiet_value (v := .agg #[.int .i64 k, .int .i64 n, .string s, .slice a' m' cap']) rfl (fun W h => (by obtain ⟨q0, q1, q2, q3⟩ := h.four hbr; go_simp)) ?_
        simp only [Act.put, List.setIfInBounds_toArray, List.set_cons_zero, List.set_cons_succ]
        refine quiet_call (v := .int .i64 x) rfl (fun W => (by go_simp)) (fun W h => (hcall.out W h).mono fun e w' ⟨he, hb⟩ => ⟨he, h.call hb⟩) ?_
        simp only [Act.put, List.setIfInBounds_toArray, List.set_cons_zero, List.set_cons_succ]
        refine quiet_value (v := .bool y) rfl (fun _ _ => (by go_simp)) ?_
        simp only [Act.put, List.setIfInBounds_toArray, List.set_cons_zero, List.set_cons_succ]
        refine quiet_value (v := .bool y) rfl (fun _ _ => rfl) ?_
        simp only [Act.put, List.setIfInBounds_toArray, List.set_cons_zero, List.set_cons_succ]
        refine quiet_value (v := .int .i64 i) rfl (fun _ _ => rfl) ?_
        simp only [Act.put, List.setIfInBounds_toArray, List.set_cons_zero, List.set_cons_succ]
        refine quiet_value (v := .bool y) rfl (fun _ _ => rfl) ?_
        simp only [Act.put, List.setIfInBounds_toArray, List.set_cons_zero, List.set_cons_succ]
        refine quiet_nil ?_
        intro w6 hw6
        go_wp2
        go_ret2
        exact ⟨by rw [hfn.out, hfb.out]; rfl, (hu0.call (hur.call hw6.out).out).out⟩
      · have hd1 : decide ((i : Int) < (L : Int)) = false := by simp; omega
        have hfb := Hid.mk (findB_none (l := l) (T := T) (by rw [hfn.out]; have := hLh.out; omega))
        go_upto_region 8 with fail
        refine region_up (W := wr) (by kernel_rfl) (by kernel_rfl) (Up.refl _) ?_
        refine quiet_value (v := .int .i64 i) rfl (fun _ _ => rfl) ?_
        simp only [Act.put, List.setIfInBounds_toArray, List.set_cons_zero, List.set_cons_succ]
        refine quiet_value (v := .int .i64 i) rfl (fun _ _ => rfl) ?_
        simp only [Act.put, List.setIfInBounds_toArray, List.set_cons_zero, List.set_cons_succ]
        refine quiet_value (v := .int .i64 L) rfl (fun _ _ => rfl) ?_
        simp only [Act.put, List.setIfInBounds_toArray, List.set_cons_zero, List.set_cons_succ]
        refine quiet_value (v := .bool false) rfl (fun _ _ => (by go_simp)) ?_
        simp only [Act.put, List.setIfInBounds_toArray, List.set_cons_zero, List.set_cons_succ]
        refine quiet_value (v := .bool false) rfl (fun _ _ => rfl) ?_
        simp only [Act.put, List.setIfInBounds_toArray, List.set_cons_zero, List.set_cons_succ]
        refine quiet_not rfl ?_
        simp only [Act.put, List.setIfInBounds_toArray, List.set_cons_zero, List.set_cons_succ]
        refine quiet_not rfl ?_
        simp only [Act.put, List.setIfInBounds_toArray, List.set_cons_zero, List.set_cons_succ]
        refine quiet_not rfl ?_
        simp only [Act.put, List.setIfInBounds_toArray, List.set_cons_zero, List.set_cons_succ]
        refine quiet_not rfl ?_
        simp only [Act.put, List.setIfInBounds_toArray, List.set_cons_zero, List.set_cons_succ]
        refine quiet_not rfl ?_
        simp only [Act.put, List.setIfInBounds_toArray, List.set_cons_zero, List.set_cons_succ]
        refine quiet_not rfl ?_
        simp only [Act.put, List.setIfInBounds_toArray, List.set_cons_zero, List.set_cons_succ]
        refine quiet_not rfl ?_
        simp only [Act.put, List.setIfInBounds_toArray, List.set_cons_zero, List.set_cons_succ]
        refine quiet_not rfl ?_
        simp only [Act.put, List.setIfInBounds_toArray, List.set_cons_zero, List.set_cons_succ]
        refine quiet_value (v := .bool false) rfl (fun _ _ => rfl) ?_
        simp only [Act.put, List.setIfInBounds_toArray, List.set_cons_zero, List.set_cons_succ]
        refine quiet_value (v := .int .i64 i) rfl (fun _ _ => rfl) ?_
        simp only [Act.put, List.setIfInBounds_toArray, List.set_cons_zero, List.set_cons_succ]
        refine quiet_value (v := .bool false) rfl (fun _ _ => rfl) ?_
        simp only [Act.put, List.setIfInBounds_toArray, List.set_cons_zero, List.set_cons_succ]
        refine quiet_nil ?_
        intro w6 hw6
        go_wp2
        go_ret2
        exact ⟨by rw [hfn.out, hfb.out]; rfl, (hu0.call (hur.call hw6.out).out).out⟩

theorem find_any (l : List Tm) (hs : Sorted l) (hlen : l.length ≤ 1000000) (T : Tm) (S S' : Nat → Prop) (a : Option Addr) (cap : Nat) (v : Value) (w : World) (hl0 : Lst w S l a cap) (hv0 : Lies w S' T v) :
    Calls Tryd.prog 16 #[.slice a l.length cap, v] w fun e w' => e = .returned (.tuple #[.int .i64 (findN l T), .bool (findB l T)]) ∧ Below w.heap.size w w' := by
  obtain ⟨k, n, s, a', m', cap', rfl⟩ := hv0.agg
  have hu0 : Up w (w.alloc (.cells #[.int .i64 k, .int .i64 n, .string s, .slice a' m' cap'] 24)) := (Up.refl w).alloc
  have hcall := Hid.mk (bsearch_any l hs hlen T S S' a cap _ _ (hl0.below hu0.out) (hv0.below hu0.out))
  clear hl0 hv0
  go_enter Tryd.func16, Tryd.ntmps16
  go_wp2_with (go_at_call 34; refine hcall.out.mono ?_; rintro e w2 ⟨rfl, hb2⟩)
  go_ret2
  exact ⟨rfl, (hu0.call hb2).out⟩

end Go.Proofs.YtabcekeeekbdiaaDoor

/-
  The statements' own small functions: terms of the examples, how many terms are the same as one.
-/
namespace Go.Proofs.YtabcekeeekbdiaaDoor
open Go.RowKit Go.Deep

set_option maxHeartbeats 400000 in
theorem on_any (n : Int) (w : World) : Calls Tryd.prog 11 #[.int .i64 n] w fun e w' => e = .returned (.agg #[.int .i64 1, .int .i64 n, .string ⟨#[]⟩, .slice none 0 0]) ∧ Below w.heap.size w w' := by
  have hk := (Up.refl w).alloc (o := zeroTerm)
  go_enter Tryd.func11, Tryd.ntmps11
  go_wp2_with (go_at_call 26; refine (num_any n _).mono ?_; rintro e w1 ⟨rfl, hb⟩; obtain ⟨⟨q0, q1, q2, q3⟩, f0, f1, f2, f3⟩ := kept4 (new_block w _) hb; have hk := hk.call hb)
  exact ret_stored rfl rfl rfl q0 q1 q2 q3 ⟨rfl, Below.set4 hk.out (Nat.le_refl _)⟩
set_option maxHeartbeats 400000 in
theorem os_any (s : ByteArray) (w : World) : Calls Tryd.prog 13 #[.string s] w fun e w' => e = .returned (.agg #[.int .i64 2, .int .i64 0, .string s, .slice none 0 0]) ∧ Below w.heap.size w w' := by
  have hk := (Up.refl w).alloc (o := zeroTerm)
  go_enter Tryd.func13, Tryd.ntmps13
  go_wp2_with (go_at_call 29; refine (sym_any s _).mono ?_; rintro e w1 ⟨rfl, hb⟩; obtain ⟨⟨q0, q1, q2, q3⟩, f0, f1, f2, f3⟩ := kept4 (new_block w _) hb; have hk := hk.call hb)
  exact ret_stored rfl rfl rfl q0 q1 q2 q3 ⟨rfl, Below.set4 hk.out (Nat.le_refl _)⟩
set_option maxHeartbeats 1000000 in
theorem ol_any (l : List Tm) (hlen : l.length ≤ 1000000) (S : Nat → Prop) (a : Option Addr) (cap : Nat) (w : World) (hl : Lst w S l a cap) :
    Calls Tryd.prog 12 #[.slice a l.length cap] w fun e w' => (∃ v, e = .returned v ∧ Is w' (conses l .nil) v) ∧ Below w.heap.size w w' := by
  have hl := Hid.mk hl.inside
  have hk := (Up.refl w).alloc (o := zeroTerm)
  go_enter Tryd.func12, Tryd.ntmps12
  go_wp2_with (first
    | (go_at_call 28; refine (none_any _).mono ?_; rintro e w1 ⟨rfl, hb⟩; have hb1 := (hb.block _ (by simp)).trans (new_block w _); have hk := hk.call hb)
    | (go_at_call 27; refine (pairs_any l hlen .nil (fun b => S b ∧ b < w.heap.size) _ _ _ _ (hl.out.below hk.out) (nil_is _ _)).mono ?_; rintro e w2 ⟨⟨v2, rfl, hL2⟩, hb⟩; obtain ⟨k2, n2, s2, a2, m2, c2, rfl⟩ := hL2.agg; have hb2 := (hb.block _ (Array.getElem?_eq_some_iff.1 hb1).1).trans hb1; obtain ⟨⟨q0, q1, q2, q3⟩, f0, f1, f2, f3⟩ := kept4 hb2 (Below.refl _ _); have hk2 := hk.call hb))
  refine ret_stored rfl rfl rfl q0 q1 q2 q3 ⟨⟨_, rfl, is_after hL2 (fun k g1 g2 => set4_heap _ _ _ _ _ _ _ ?_)⟩, Below.set4 hk2.out (Nat.le_refl _)⟩
  have h1 := (Array.getElem?_eq_some_iff.1 hb1).1
  rcases g1 with g1 | g1
  · omega
  · have g1' : w1.heap.size ≤ k := g1
    omega

theorem shorts_at {l : List Tm} (h : Shorts l) : ∀ t ∈ l, t.Short := by
  induction l with
  | nil => intro t ht; cases ht
  | cons a r ih =>
    intro t ht
    rw [Shorts] at h
    rcases List.mem_cons.1 ht with rfl | ht
    · exact h.1
    · exact ih h.2 t ht
theorem sizes_mem {l : List Tm} {t : Tm} (h : t ∈ l) : t.size ≤ sizes l := by
  obtain ⟨i, hi, rfl⟩ := List.getElem_of_mem h
  exact sizes_at l i hi

end Go.Proofs.YtabcekeeekbdiaaDoor

/-
  OrderKnown: the chapter's examples.
-/
namespace Go.Proofs.YtabcekeeekbdiaaDoor
open Go.RowKit Go.Deep

/-- A term without parts, as its four cells. -/
def litV : Tm → List Value
  | .mk k n s _ => [.int .i64 k, .int .i64 n, .string s, .slice none 0 0]
def Tm.bare : Tm → Prop
  | .mk k n s l => l = [] ∧ Small k n s
theorem lit_is {w : World} (S : Nat → Prop) (t : Tm) (h : t.bare) : Lies w S t (.agg (litV t).toArray) := by
  obtain ⟨k, n, s, l⟩ := t
  obtain ⟨rfl, h⟩ := h
  exact Lies.mk h (lst_nil _ _)
theorem lits_at : ∀ (ts : List Tm) (i : Nat) (hi : i < ts.length) (q : Nat), q < 4 → (ts.flatMap litV)[i * 4 + q]? = (litV ts[i])[q]? := by
  intro ts
  induction ts with
  | nil => intro i hi; cases hi
  | cons t r ih =>
    intro i hi q hq
    have hl : (litV t).length = 4 := by cases t; rfl
    rw [List.flatMap_cons]
    cases i with
    | zero => rw [Nat.zero_mul, Nat.zero_add, List.getElem?_append_left (by omega)]; rfl
    | succ i =>
      rw [List.getElem?_append_right (by omega), hl, show (i + 1) * 4 + q - 4 = i * 4 + q by omega, ih i (by simpa using hi) q hq]
      rfl
theorem lst_lit {w : World} {S : Nat → Prop} (ts : List Tm) (h : ∀ t ∈ ts, t.bare) {nb : Nat} {cells : Array Value} {ty : TypeId} (hc : w.heap[nb]? = some (.cells cells ty (0, 0))) (hcs : cells = (ts.flatMap litV).toArray) (hnb : S nb) (hlen : ts.length ≤ 1000000 := by decide) : Lst w S ts (some ⟨nb, 0, none⟩) ts.length := by
  subst hcs
  have hcell : ∀ j, w.cell? ⟨nb, j, none⟩ = (ts.flatMap litV)[j]? := fun j => by rw [cell_of_row w nb j _ ty (0, 0) hc]; simp
  refine ⟨Nat.le_refl _, by omega, Or.inr ⟨_, rfl, fun _ => ⟨hnb, rfl⟩, Row.of fun i hi => ?_⟩⟩
  have hb := lit_is (w := w) S ts[i] (h _ (List.getElem_mem hi))
  have e := fun q (hq : q < 4) => (hcell (i * 4 + q)).trans (lits_at ts i hi q hq)
  generalize ts[i] = t at hb e
  obtain ⟨k, n, s, l⟩ := t
  exact ⟨.int .i64 k, .int .i64 n, .string s, .slice none 0 0, by rw [Nat.zero_add]; exact e 0 (by omega), by rw [Nat.zero_add]; exact e 1 (by omega), by rw [Nat.zero_add]; exact e 2 (by omega), by rw [Nat.zero_add]; exact e 3 (by omega), hb⟩
theorem num_bare (n : Int) (h2 : -9223372036854775808 ≤ n) (h3 : n ≤ 9223372036854775807) : (Tm.num n).bare := ⟨rfl, small_of (by omega) (by omega) h2 h3 size_empty⟩
theorem sym_bare (s : ByteArray) (h : s.size ≤ 281474976710656) : (Tm.sym s).bare := ⟨rfl, small_of (by omega) (by omega) (by omega) (by omega) h⟩
theorem tup_bare : (Tm.tup []).bare := ⟨rfl, small_of (by omega) (by omega) (by omega) (by omega) size_empty⟩

theorem cmpLit_any (T U : Tm) (c : Int) (hc : T.cmp U = c) (S S' : Nat → Prop) (v u : Value) (w : World) (hv : Lies w S T v) (hu : Lies w S' U u) :
    Calls Tryd.prog 6 #[v, u] w fun e w' => e = .returned (.int .i64 c) ∧ Below w.heap.size w w' := by
  subst hc
  exact compare_any T U S S' v u w hv hu

theorem bare_nil : ∀ t ∈ ([] : List Tm), t.bare := fun t h => by cases h
theorem bare_cons {t : Tm} {r : List Tm} (h : t.bare) (hr : ∀ x ∈ r, x.bare) : ∀ x ∈ t :: r, x.bare := fun x hx => by
  rcases List.mem_cons.1 hx with rfl | hx
  · exact h
  · exact hr x hx
theorem sortLit_any (l r : List Tm) (hr : sortT l = r) (hlen : l.length ≤ 1000000) (hsz : ∀ t ∈ l, t.size ≤ 1000000 ∧ t.Short) (S : Nat → Prop) (a : Option Addr) (cap : Nat) (w : World) (hl0 : Lst w S l a cap) :
    Calls Tryd.prog 14 #[.slice a l.length cap] w fun e w' => (∃ a' cap', e = .returned (.slice a' r.length cap') ∧ IsL w' r a' cap') ∧ Below w.heap.size w w' := by
  subst hr
  refine (sort_any l hlen hsz S a cap w hl0).mono ?_
  rintro e w' ⟨⟨a', cap', rfl, hn⟩, hu⟩
  exact ⟨⟨a', cap', rfl, hn.lst.is⟩, hu.out⟩
theorem uniqLit_any (l r : List Tm) (hr : uniqT (sortT l) = r) (hlen : l.length ≤ 1000000) (hsz : ∀ t ∈ l, t.size ≤ 1000000 ∧ t.Short) (S : Nat → Prop) (a : Option Addr) (cap : Nat) (w : World) (hl0 : Lst w S l a cap) :
    Calls Tryd.prog 15 #[.slice a l.length cap] w fun e w' => (∃ a' cap', e = .returned (.slice a' r.length cap') ∧ IsL w' r a' cap') ∧ Below w.heap.size w w' := by
  subst hr
  refine (unique_any l hlen hsz S a cap w hl0).mono ?_
  rintro e w' ⟨⟨a', cap', rfl, hn⟩, hu⟩
  exact ⟨⟨a', cap', rfl, hn.lst.is⟩, hu.out⟩
theorem findLit_any (l : List Tm) (hs : sortT l = l) (hlen : l.length ≤ 1000000) (T : Tm) (n : Int) (b : Bool) (hn : (findN l T : Int) = n) (hb : findB l T = b) (S S' : Nat → Prop) (a : Option Addr) (cap : Nat) (v : Value) (w : World) (hl0 : Lst w S l a cap) (hv0 : Lies w S' T v) :
    Calls Tryd.prog 16 #[.slice a l.length cap, v] w fun e w' => e = .returned (.tuple #[.int .i64 n, .bool b]) ∧ Below w.heap.size w w' := by
  subst hn
  subst hb
  exact find_any l (hs ▸ sortT_sorted l) hlen T S S' a cap v w hl0 hv0
theorem sameEq_any (l l' : List Tm) (h : l = l') (S S' : Nat → Prop) (a a' : Option Addr) (cap cap' : Nat) (w : World) (hl : Lst w S l a cap) (hl' : Lst w S' l' a' cap') :
    Calls Tryd.prog 17 #[.slice a l.length cap, .slice a' l'.length cap'] w fun e w' => e = .returned (.bool true) ∧ Below w.heap.size w w' := by
  subst h
  have := sameAll_any l l S S' a a' cap cap' w hl hl'
  rwa [eqL_refl] at this

set_option maxHeartbeats 4000000 in
theorem awake_any (x0 : World) : Calls Tryd.prog 9 #[] x0 fun e w' => e = .returned (.bool true) ∧ Below x0.heap.size x0 w' := by
  have tk0 := True.intro
  go_enter Tryd.func9, Tryd.ntmps9
  go_wp2_with (first
    | (go_at_call 6; have g := tk13; refine (cmpLit_any (conses [.num 1, .num 2] .nil) (conses [.num 1] .nil) (1) (by kernel_rfl) (fun _ => True) (fun _ => True) _ _ _ (h10.below (u11_13).out) (h12.below ((Up.refl x13)).out)).mono ?_; rintro e x14 ⟨rfl, hb⟩; have u0_14 := (u0_13).call hb; clear u0_13; have u1_14 := (u1_13).call hb; clear u1_13; have u2_14 := (u2_13).call hb; clear u2_13; have u3_14 := (u3_13).call hb; clear u3_13; have u4_14 := (u4_13).call hb; clear u4_13; have u5_14 := (u5_13).call hb; clear u5_13; have u6_14 := (u6_13).call hb; clear u6_13; have u7_14 := (u7_13).call hb; clear u7_13; have u8_14 := (u8_13).call hb; clear u8_13; have u9_14 := (u9_13).call hb; clear u9_13; have u10_14 := (u10_13).call hb; clear u10_13; have u11_14 := (u11_13).call hb; clear u11_13; have u12_14 := (u12_13).call hb; clear u12_13; have u13_14 := ((Up.refl x13)).call hb; clear tk13; have tk14 := True.intro)
    | (go_at_call 12; have g := tk12; refine (ol_any [.num 1] (by simp) (fun _ => True) _ _ _ (lst_lit [.num 1] (bare_cons (num_bare _ (by omega) (by omega)) bare_nil) (new_block x12 _) rfl trivial)).mono ?_; rintro e x13 ⟨⟨v12, rfl, h12⟩, hb⟩; have u0_13 := (u0_12.alloc).call hb; clear u0_12; have u1_13 := (u1_12.alloc).call hb; clear u1_12; have u2_13 := (u2_12.alloc).call hb; clear u2_12; have u3_13 := (u3_12.alloc).call hb; clear u3_12; have u4_13 := (u4_12.alloc).call hb; clear u4_12; have u5_13 := (u5_12.alloc).call hb; clear u5_12; have u6_13 := (u6_12.alloc).call hb; clear u6_12; have u7_13 := (u7_12.alloc).call hb; clear u7_12; have u8_13 := (u8_12.alloc).call hb; clear u8_12; have u9_13 := (u9_12.alloc).call hb; clear u9_12; have u10_13 := (u10_12.alloc).call hb; clear u10_12; have u11_13 := (u11_12.alloc).call hb; clear u11_12; have u12_13 := ((Up.refl x12).alloc).call hb; clear tk12; have tk13 := True.intro)
    | (go_at_call 11; have g := tk11; refine (on_any 1 _).mono ?_; rintro e x12 ⟨rfl, hb⟩; have u0_12 := (u0_11).call hb; clear u0_11; have u1_12 := (u1_11).call hb; clear u1_11; have u2_12 := (u2_11).call hb; clear u2_11; have u3_12 := (u3_11).call hb; clear u3_11; have u4_12 := (u4_11).call hb; clear u4_11; have u5_12 := (u5_11).call hb; clear u5_11; have u6_12 := (u6_11).call hb; clear u6_11; have u7_12 := (u7_11).call hb; clear u7_11; have u8_12 := (u8_11).call hb; clear u8_11; have u9_12 := (u9_11).call hb; clear u9_11; have u10_12 := (u10_11).call hb; clear u10_11; have u11_12 := ((Up.refl x11)).call hb; clear tk11; have tk12 := True.intro)
    | (go_at_call 12; have g := tk10; refine (ol_any [.num 1, .num 2] (by simp) (fun _ => True) _ _ _ (lst_lit [.num 1, .num 2] (bare_cons (num_bare _ (by omega) (by omega)) (bare_cons (num_bare _ (by omega) (by omega)) bare_nil)) (new_block x10 _) rfl trivial)).mono ?_; rintro e x11 ⟨⟨v10, rfl, h10⟩, hb⟩; have u0_11 := (u0_10.alloc).call hb; clear u0_10; have u1_11 := (u1_10.alloc).call hb; clear u1_10; have u2_11 := (u2_10.alloc).call hb; clear u2_10; have u3_11 := (u3_10.alloc).call hb; clear u3_10; have u4_11 := (u4_10.alloc).call hb; clear u4_10; have u5_11 := (u5_10.alloc).call hb; clear u5_10; have u6_11 := (u6_10.alloc).call hb; clear u6_10; have u7_11 := (u7_10.alloc).call hb; clear u7_10; have u8_11 := (u8_10.alloc).call hb; clear u8_10; have u9_11 := (u9_10.alloc).call hb; clear u9_10; have u10_11 := ((Up.refl x10).alloc).call hb; clear tk10; have tk11 := True.intro)
    | (go_at_call 11; have g := tk9; refine (on_any 2 _).mono ?_; rintro e x10 ⟨rfl, hb⟩; have u0_10 := (u0_9).call hb; clear u0_9; have u1_10 := (u1_9).call hb; clear u1_9; have u2_10 := (u2_9).call hb; clear u2_9; have u3_10 := (u3_9).call hb; clear u3_9; have u4_10 := (u4_9).call hb; clear u4_9; have u5_10 := (u5_9).call hb; clear u5_9; have u6_10 := (u6_9).call hb; clear u6_9; have u7_10 := (u7_9).call hb; clear u7_9; have u8_10 := (u8_9).call hb; clear u8_9; have u9_10 := ((Up.refl x9)).call hb; clear tk9; have tk10 := True.intro)
    | (go_at_call 11; have g := tk8; refine (on_any 1 _).mono ?_; rintro e x9 ⟨rfl, hb⟩; have u0_9 := (u0_8).call hb; clear u0_8; have u1_9 := (u1_8).call hb; clear u1_8; have u2_9 := (u2_8).call hb; clear u2_8; have u3_9 := (u3_8).call hb; clear u3_8; have u4_9 := (u4_8).call hb; clear u4_8; have u5_9 := (u5_8).call hb; clear u5_8; have u6_9 := (u6_8).call hb; clear u6_8; have u7_9 := (u7_8).call hb; clear u7_8; have u8_9 := ((Up.refl x8)).call hb; clear tk8; have tk9 := True.intro)
    | (go_at_call 6; have g := tk7; refine (cmpLit_any (.tup [.num 9]) (conses [.num 1] .nil) (-1) (by kernel_rfl) (fun _ => True) (fun _ => True) _ _ _ (h4.below (u5_7).out) (h6.below ((Up.refl x7)).out)).mono ?_; rintro e x8 ⟨rfl, hb⟩; have u0_8 := (u0_7).call hb; clear u0_7; have u1_8 := (u1_7).call hb; clear u1_7; have u2_8 := (u2_7).call hb; clear u2_7; have u3_8 := (u3_7).call hb; clear u3_7; have u4_8 := (u4_7).call hb; clear u4_7; have u5_8 := (u5_7).call hb; clear u5_7; have u6_8 := (u6_7).call hb; clear u6_7; have u7_8 := ((Up.refl x7)).call hb; clear tk7; have tk8 := True.intro)
    | (go_at_call 12; have g := tk6; refine (ol_any [.num 1] (by simp) (fun _ => True) _ _ _ (lst_lit [.num 1] (bare_cons (num_bare _ (by omega) (by omega)) bare_nil) (new_block x6 _) rfl trivial)).mono ?_; rintro e x7 ⟨⟨v6, rfl, h6⟩, hb⟩; have u0_7 := (u0_6.alloc).call hb; clear u0_6; have u1_7 := (u1_6.alloc).call hb; clear u1_6; have u2_7 := (u2_6.alloc).call hb; clear u2_6; have u3_7 := (u3_6.alloc).call hb; clear u3_6; have u4_7 := (u4_6.alloc).call hb; clear u4_6; have u5_7 := (u5_6.alloc).call hb; clear u5_6; have u6_7 := ((Up.refl x6).alloc).call hb; clear tk6; have tk7 := True.intro)
    | (go_at_call 11; have g := tk5; refine (on_any 1 _).mono ?_; rintro e x6 ⟨rfl, hb⟩; have u0_6 := (u0_5).call hb; clear u0_5; have u1_6 := (u1_5).call hb; clear u1_5; have u2_6 := (u2_5).call hb; clear u2_5; have u3_6 := (u3_5).call hb; clear u3_5; have u4_6 := (u4_5).call hb; clear u4_5; have u5_6 := ((Up.refl x5)).call hb; clear tk5; have tk6 := True.intro)
    | (go_at_call 10; have g := tk4; refine (tup_any _ _ _ _).mono ?_; rintro e x5 ⟨rfl, hb⟩; have u0_5 := (u0_4.alloc).call hb; clear u0_4; have u1_5 := (u1_4.alloc).call hb; clear u1_4; have u2_5 := (u2_4.alloc).call hb; clear u2_4; have u3_5 := (u3_4.alloc).call hb; clear u3_4; have u4_5 := ((Up.refl x4).alloc).call hb; have h4 : Is x5 (.tup [.num 9]) (.agg #[.int .i64 7, .int .i64 0, .string ⟨#[]⟩, .slice (some ⟨x4.heap.size, 0, none⟩) 1 1]) := Lies.mk (l := [.num 9]) (small_of (by omega) (by omega) (by omega) (by omega) size_empty) (lst_lit [.num 9] (bare_cons (num_bare _ (by omega) (by omega)) bare_nil) ((hb.block _ (by simp)).trans (new_block x4 _)) rfl trivial); clear tk4; have tk5 := True.intro)
    | (go_at_call 11; have g := tk3; refine (on_any 9 _).mono ?_; rintro e x4 ⟨rfl, hb⟩; have u0_4 := (u0_3).call hb; clear u0_3; have u1_4 := (u1_3).call hb; clear u1_3; have u2_4 := (u2_3).call hb; clear u2_3; have u3_4 := ((Up.refl x3)).call hb; clear tk3; have tk4 := True.intro)
    | (go_at_call 6; have g := tk2; refine (cmpLit_any (.num 1) (.sym ⟨#[97]⟩) (-1) (by kernel_rfl) (fun _ => True) (fun _ => True) _ _ _ (lit_is (fun _ => True) (.num 1) (num_bare _ (by omega) (by omega))) (lit_is (fun _ => True) (.sym ⟨#[97]⟩) (sym_bare _ (by decide)))).mono ?_; rintro e x3 ⟨rfl, hb⟩; have u0_3 := (u0_2).call hb; clear u0_2; have u1_3 := (u1_2).call hb; clear u1_2; have u2_3 := ((Up.refl x2)).call hb; clear tk2; have tk3 := True.intro)
    | (go_at_call 13; have g := tk1; refine (os_any _ _).mono ?_; rintro e x2 ⟨rfl, hb⟩; have u0_2 := (u0_1).call hb; clear u0_1; have u1_2 := ((Up.refl x1)).call hb; clear tk1; have tk2 := True.intro)
    | (go_at_call 11; have g := tk0; refine (on_any 1 _).mono ?_; rintro e x1 ⟨rfl, hb⟩; have u0_1 := ((Up.refl x0)).call hb; clear tk0; have tk1 := True.intro))
  go_ret
  exact ⟨rfl, u0_14.out⟩

set_option maxRecDepth 100000 in
set_option maxHeartbeats 16000000 in
theorem lawKnown3 (x0 : World) : Calls Tryd.prog 4 #[] x0 fun e w' => e = .returned (.bool true) ∧ Below x0.heap.size x0 w' := by
  have tk0 := True.intro
  go_enter Tryd.func4, Tryd.ntmps4
  go_wp2_with (first
    | (go_at_call 17; have g := tk51; refine (sameEq_any [.num 1, .num 2] [.num 1, .num 2] rfl (fun _ => True) (fun _ => True) _ _ _ _ _ (h33.below (u34_51.alloc).out) (lst_lit [.num 1, .num 2] (bare_cons (num_bare _ (by omega) (by omega)) (bare_cons (num_bare _ (by omega) (by omega)) bare_nil)) (new_block x51 _) rfl trivial)).mono ?_; rintro e x52 ⟨rfl, hb⟩; have u0_52 := (u0_51.alloc).call hb; clear u0_51; have u1_52 := (u1_51.alloc).call hb; clear u1_51; have u2_52 := (u2_51.alloc).call hb; clear u2_51; have u3_52 := (u3_51.alloc).call hb; clear u3_51; have u4_52 := (u4_51.alloc).call hb; clear u4_51; have u5_52 := (u5_51.alloc).call hb; clear u5_51; have u6_52 := (u6_51.alloc).call hb; clear u6_51; have u7_52 := (u7_51.alloc).call hb; clear u7_51; have u8_52 := (u8_51.alloc).call hb; clear u8_51; have u9_52 := (u9_51.alloc).call hb; clear u9_51; have u10_52 := (u10_51.alloc).call hb; clear u10_51; have u11_52 := (u11_51.alloc).call hb; clear u11_51; have u12_52 := (u12_51.alloc).call hb; clear u12_51; have u13_52 := (u13_51.alloc).call hb; clear u13_51; have u14_52 := (u14_51.alloc).call hb; clear u14_51; have u15_52 := (u15_51.alloc).call hb; clear u15_51; have u16_52 := (u16_51.alloc).call hb; clear u16_51; have u17_52 := (u17_51.alloc).call hb; clear u17_51; have u18_52 := (u18_51.alloc).call hb; clear u18_51; have u19_52 := (u19_51.alloc).call hb; clear u19_51; have u20_52 := (u20_51.alloc).call hb; clear u20_51; have u21_52 := (u21_51.alloc).call hb; clear u21_51; have u22_52 := (u22_51.alloc).call hb; clear u22_51; have u23_52 := (u23_51.alloc).call hb; clear u23_51; have u24_52 := (u24_51.alloc).call hb; clear u24_51; have u25_52 := (u25_51.alloc).call hb; clear u25_51; have u26_52 := (u26_51.alloc).call hb; clear u26_51; have u27_52 := (u27_51.alloc).call hb; clear u27_51; have u28_52 := (u28_51.alloc).call hb; clear u28_51; have u29_52 := (u29_51.alloc).call hb; clear u29_51; have u30_52 := (u30_51.alloc).call hb; clear u30_51; have u31_52 := (u31_51.alloc).call hb; clear u31_51; have u32_52 := (u32_51.alloc).call hb; clear u32_51; have u33_52 := (u33_51.alloc).call hb; clear u33_51; have u34_52 := (u34_51.alloc).call hb; clear u34_51; have u35_52 := (u35_51.alloc).call hb; clear u35_51; have u36_52 := (u36_51.alloc).call hb; clear u36_51; have u37_52 := (u37_51.alloc).call hb; clear u37_51; have u38_52 := (u38_51.alloc).call hb; clear u38_51; have u39_52 := (u39_51.alloc).call hb; clear u39_51; have u40_52 := (u40_51.alloc).call hb; clear u40_51; have u41_52 := (u41_51.alloc).call hb; clear u41_51; have u42_52 := (u42_51.alloc).call hb; clear u42_51; have u43_52 := (u43_51.alloc).call hb; clear u43_51; have u44_52 := (u44_51.alloc).call hb; clear u44_51; have u45_52 := (u45_51.alloc).call hb; clear u45_51; have u46_52 := (u46_51.alloc).call hb; clear u46_51; have u47_52 := (u47_51.alloc).call hb; clear u47_51; have u48_52 := (u48_51.alloc).call hb; clear u48_51; have u49_52 := (u49_51.alloc).call hb; clear u49_51; have u50_52 := (u50_51.alloc).call hb; clear u50_51; have u51_52 := ((Up.refl x51).alloc).call hb; clear tk51; have tk52 := True.intro)
    | (go_at_call 11; have g := tk50; refine (on_any 2 _).mono ?_; rintro e x51 ⟨rfl, hb⟩; have u0_51 := (u0_50).call hb; clear u0_50; have u1_51 := (u1_50).call hb; clear u1_50; have u2_51 := (u2_50).call hb; clear u2_50; have u3_51 := (u3_50).call hb; clear u3_50; have u4_51 := (u4_50).call hb; clear u4_50; have u5_51 := (u5_50).call hb; clear u5_50; have u6_51 := (u6_50).call hb; clear u6_50; have u7_51 := (u7_50).call hb; clear u7_50; have u8_51 := (u8_50).call hb; clear u8_50; have u9_51 := (u9_50).call hb; clear u9_50; have u10_51 := (u10_50).call hb; clear u10_50; have u11_51 := (u11_50).call hb; clear u11_50; have u12_51 := (u12_50).call hb; clear u12_50; have u13_51 := (u13_50).call hb; clear u13_50; have u14_51 := (u14_50).call hb; clear u14_50; have u15_51 := (u15_50).call hb; clear u15_50; have u16_51 := (u16_50).call hb; clear u16_50; have u17_51 := (u17_50).call hb; clear u17_50; have u18_51 := (u18_50).call hb; clear u18_50; have u19_51 := (u19_50).call hb; clear u19_50; have u20_51 := (u20_50).call hb; clear u20_50; have u21_51 := (u21_50).call hb; clear u21_50; have u22_51 := (u22_50).call hb; clear u22_50; have u23_51 := (u23_50).call hb; clear u23_50; have u24_51 := (u24_50).call hb; clear u24_50; have u25_51 := (u25_50).call hb; clear u25_50; have u26_51 := (u26_50).call hb; clear u26_50; have u27_51 := (u27_50).call hb; clear u27_50; have u28_51 := (u28_50).call hb; clear u28_50; have u29_51 := (u29_50).call hb; clear u29_50; have u30_51 := (u30_50).call hb; clear u30_50; have u31_51 := (u31_50).call hb; clear u31_50; have u32_51 := (u32_50).call hb; clear u32_50; have u33_51 := (u33_50).call hb; clear u33_50; have u34_51 := (u34_50).call hb; clear u34_50; have u35_51 := (u35_50).call hb; clear u35_50; have u36_51 := (u36_50).call hb; clear u36_50; have u37_51 := (u37_50).call hb; clear u37_50; have u38_51 := (u38_50).call hb; clear u38_50; have u39_51 := (u39_50).call hb; clear u39_50; have u40_51 := (u40_50).call hb; clear u40_50; have u41_51 := (u41_50).call hb; clear u41_50; have u42_51 := (u42_50).call hb; clear u42_50; have u43_51 := (u43_50).call hb; clear u43_50; have u44_51 := (u44_50).call hb; clear u44_50; have u45_51 := (u45_50).call hb; clear u45_50; have u46_51 := (u46_50).call hb; clear u46_50; have u47_51 := (u47_50).call hb; clear u47_50; have u48_51 := (u48_50).call hb; clear u48_50; have u49_51 := (u49_50).call hb; clear u49_50; have u50_51 := ((Up.refl x50)).call hb; clear tk50; have tk51 := True.intro)
    | (go_at_call 11; have g := tk49; refine (on_any 1 _).mono ?_; rintro e x50 ⟨rfl, hb⟩; have u0_50 := (u0_49).call hb; clear u0_49; have u1_50 := (u1_49).call hb; clear u1_49; have u2_50 := (u2_49).call hb; clear u2_49; have u3_50 := (u3_49).call hb; clear u3_49; have u4_50 := (u4_49).call hb; clear u4_49; have u5_50 := (u5_49).call hb; clear u5_49; have u6_50 := (u6_49).call hb; clear u6_49; have u7_50 := (u7_49).call hb; clear u7_49; have u8_50 := (u8_49).call hb; clear u8_49; have u9_50 := (u9_49).call hb; clear u9_49; have u10_50 := (u10_49).call hb; clear u10_49; have u11_50 := (u11_49).call hb; clear u11_49; have u12_50 := (u12_49).call hb; clear u12_49; have u13_50 := (u13_49).call hb; clear u13_49; have u14_50 := (u14_49).call hb; clear u14_49; have u15_50 := (u15_49).call hb; clear u15_49; have u16_50 := (u16_49).call hb; clear u16_49; have u17_50 := (u17_49).call hb; clear u17_49; have u18_50 := (u18_49).call hb; clear u18_49; have u19_50 := (u19_49).call hb; clear u19_49; have u20_50 := (u20_49).call hb; clear u20_49; have u21_50 := (u21_49).call hb; clear u21_49; have u22_50 := (u22_49).call hb; clear u22_49; have u23_50 := (u23_49).call hb; clear u23_49; have u24_50 := (u24_49).call hb; clear u24_49; have u25_50 := (u25_49).call hb; clear u25_49; have u26_50 := (u26_49).call hb; clear u26_49; have u27_50 := (u27_49).call hb; clear u27_49; have u28_50 := (u28_49).call hb; clear u28_49; have u29_50 := (u29_49).call hb; clear u29_49; have u30_50 := (u30_49).call hb; clear u30_49; have u31_50 := (u31_49).call hb; clear u31_49; have u32_50 := (u32_49).call hb; clear u32_49; have u33_50 := (u33_49).call hb; clear u33_49; have u34_50 := (u34_49).call hb; clear u34_49; have u35_50 := (u35_49).call hb; clear u35_49; have u36_50 := (u36_49).call hb; clear u36_49; have u37_50 := (u37_49).call hb; clear u37_49; have u38_50 := (u38_49).call hb; clear u38_49; have u39_50 := (u39_49).call hb; clear u39_49; have u40_50 := (u40_49).call hb; clear u40_49; have u41_50 := (u41_49).call hb; clear u41_49; have u42_50 := (u42_49).call hb; clear u42_49; have u43_50 := (u43_49).call hb; clear u43_49; have u44_50 := (u44_49).call hb; clear u44_49; have u45_50 := (u45_49).call hb; clear u45_49; have u46_50 := (u46_49).call hb; clear u46_49; have u47_50 := (u47_49).call hb; clear u47_49; have u48_50 := (u48_49).call hb; clear u48_49; have u49_50 := ((Up.refl x49)).call hb; clear tk49; have tk50 := True.intro)
    | (go_at_call 17; have g := tk48; refine (sameEq_any [.num 1, .sym ⟨#[97]⟩, .sym ⟨#[98]⟩, .tup []] [.num 1, .sym ⟨#[97]⟩, .sym ⟨#[98]⟩, .tup []] rfl (fun _ => True) (fun _ => True) _ _ _ _ _ (h28.below (u29_48.alloc).out) (lst_lit [.num 1, .sym ⟨#[97]⟩, .sym ⟨#[98]⟩, .tup []] (bare_cons (num_bare _ (by omega) (by omega)) (bare_cons (sym_bare _ (by decide)) (bare_cons (sym_bare _ (by decide)) (bare_cons tup_bare bare_nil)))) (new_block x48 _) rfl trivial)).mono ?_; rintro e x49 ⟨rfl, hb⟩; have u0_49 := (u0_48.alloc).call hb; clear u0_48; have u1_49 := (u1_48.alloc).call hb; clear u1_48; have u2_49 := (u2_48.alloc).call hb; clear u2_48; have u3_49 := (u3_48.alloc).call hb; clear u3_48; have u4_49 := (u4_48.alloc).call hb; clear u4_48; have u5_49 := (u5_48.alloc).call hb; clear u5_48; have u6_49 := (u6_48.alloc).call hb; clear u6_48; have u7_49 := (u7_48.alloc).call hb; clear u7_48; have u8_49 := (u8_48.alloc).call hb; clear u8_48; have u9_49 := (u9_48.alloc).call hb; clear u9_48; have u10_49 := (u10_48.alloc).call hb; clear u10_48; have u11_49 := (u11_48.alloc).call hb; clear u11_48; have u12_49 := (u12_48.alloc).call hb; clear u12_48; have u13_49 := (u13_48.alloc).call hb; clear u13_48; have u14_49 := (u14_48.alloc).call hb; clear u14_48; have u15_49 := (u15_48.alloc).call hb; clear u15_48; have u16_49 := (u16_48.alloc).call hb; clear u16_48; have u17_49 := (u17_48.alloc).call hb; clear u17_48; have u18_49 := (u18_48.alloc).call hb; clear u18_48; have u19_49 := (u19_48.alloc).call hb; clear u19_48; have u20_49 := (u20_48.alloc).call hb; clear u20_48; have u21_49 := (u21_48.alloc).call hb; clear u21_48; have u22_49 := (u22_48.alloc).call hb; clear u22_48; have u23_49 := (u23_48.alloc).call hb; clear u23_48; have u24_49 := (u24_48.alloc).call hb; clear u24_48; have u25_49 := (u25_48.alloc).call hb; clear u25_48; have u26_49 := (u26_48.alloc).call hb; clear u26_48; have u27_49 := (u27_48.alloc).call hb; clear u27_48; have u28_49 := (u28_48.alloc).call hb; clear u28_48; have u29_49 := (u29_48.alloc).call hb; clear u29_48; have u30_49 := (u30_48.alloc).call hb; clear u30_48; have u31_49 := (u31_48.alloc).call hb; clear u31_48; have u32_49 := (u32_48.alloc).call hb; clear u32_48; have u33_49 := (u33_48.alloc).call hb; clear u33_48; have u34_49 := (u34_48.alloc).call hb; clear u34_48; have u35_49 := (u35_48.alloc).call hb; clear u35_48; have u36_49 := (u36_48.alloc).call hb; clear u36_48; have u37_49 := (u37_48.alloc).call hb; clear u37_48; have u38_49 := (u38_48.alloc).call hb; clear u38_48; have u39_49 := (u39_48.alloc).call hb; clear u39_48; have u40_49 := (u40_48.alloc).call hb; clear u40_48; have u41_49 := (u41_48.alloc).call hb; clear u41_48; have u42_49 := (u42_48.alloc).call hb; clear u42_48; have u43_49 := (u43_48.alloc).call hb; clear u43_48; have u44_49 := (u44_48.alloc).call hb; clear u44_48; have u45_49 := (u45_48.alloc).call hb; clear u45_48; have u46_49 := (u46_48.alloc).call hb; clear u46_48; have u47_49 := (u47_48.alloc).call hb; clear u47_48; have u48_49 := ((Up.refl x48).alloc).call hb; clear tk48; have tk49 := True.intro)
    | (go_at_call 10; have g := tk47; refine (tup_any _ _ _ _).mono ?_; rintro e x48 ⟨rfl, hb⟩; have u0_48 := (u0_47).call hb; clear u0_47; have u1_48 := (u1_47).call hb; clear u1_47; have u2_48 := (u2_47).call hb; clear u2_47; have u3_48 := (u3_47).call hb; clear u3_47; have u4_48 := (u4_47).call hb; clear u4_47; have u5_48 := (u5_47).call hb; clear u5_47; have u6_48 := (u6_47).call hb; clear u6_47; have u7_48 := (u7_47).call hb; clear u7_47; have u8_48 := (u8_47).call hb; clear u8_47; have u9_48 := (u9_47).call hb; clear u9_47; have u10_48 := (u10_47).call hb; clear u10_47; have u11_48 := (u11_47).call hb; clear u11_47; have u12_48 := (u12_47).call hb; clear u12_47; have u13_48 := (u13_47).call hb; clear u13_47; have u14_48 := (u14_47).call hb; clear u14_47; have u15_48 := (u15_47).call hb; clear u15_47; have u16_48 := (u16_47).call hb; clear u16_47; have u17_48 := (u17_47).call hb; clear u17_47; have u18_48 := (u18_47).call hb; clear u18_47; have u19_48 := (u19_47).call hb; clear u19_47; have u20_48 := (u20_47).call hb; clear u20_47; have u21_48 := (u21_47).call hb; clear u21_47; have u22_48 := (u22_47).call hb; clear u22_47; have u23_48 := (u23_47).call hb; clear u23_47; have u24_48 := (u24_47).call hb; clear u24_47; have u25_48 := (u25_47).call hb; clear u25_47; have u26_48 := (u26_47).call hb; clear u26_47; have u27_48 := (u27_47).call hb; clear u27_47; have u28_48 := (u28_47).call hb; clear u28_47; have u29_48 := (u29_47).call hb; clear u29_47; have u30_48 := (u30_47).call hb; clear u30_47; have u31_48 := (u31_47).call hb; clear u31_47; have u32_48 := (u32_47).call hb; clear u32_47; have u33_48 := (u33_47).call hb; clear u33_47; have u34_48 := (u34_47).call hb; clear u34_47; have u35_48 := (u35_47).call hb; clear u35_47; have u36_48 := (u36_47).call hb; clear u36_47; have u37_48 := (u37_47).call hb; clear u37_47; have u38_48 := (u38_47).call hb; clear u38_47; have u39_48 := (u39_47).call hb; clear u39_47; have u40_48 := (u40_47).call hb; clear u40_47; have u41_48 := (u41_47).call hb; clear u41_47; have u42_48 := (u42_47).call hb; clear u42_47; have u43_48 := (u43_47).call hb; clear u43_47; have u44_48 := (u44_47).call hb; clear u44_47; have u45_48 := (u45_47).call hb; clear u45_47; have u46_48 := (u46_47).call hb; clear u46_47; have u47_48 := ((Up.refl x47)).call hb; clear tk47; have tk48 := True.intro)
    | (go_at_call 13; have g := tk46; refine (os_any _ _).mono ?_; rintro e x47 ⟨rfl, hb⟩; have u0_47 := (u0_46).call hb; clear u0_46; have u1_47 := (u1_46).call hb; clear u1_46; have u2_47 := (u2_46).call hb; clear u2_46; have u3_47 := (u3_46).call hb; clear u3_46; have u4_47 := (u4_46).call hb; clear u4_46; have u5_47 := (u5_46).call hb; clear u5_46; have u6_47 := (u6_46).call hb; clear u6_46; have u7_47 := (u7_46).call hb; clear u7_46; have u8_47 := (u8_46).call hb; clear u8_46; have u9_47 := (u9_46).call hb; clear u9_46; have u10_47 := (u10_46).call hb; clear u10_46; have u11_47 := (u11_46).call hb; clear u11_46; have u12_47 := (u12_46).call hb; clear u12_46; have u13_47 := (u13_46).call hb; clear u13_46; have u14_47 := (u14_46).call hb; clear u14_46; have u15_47 := (u15_46).call hb; clear u15_46; have u16_47 := (u16_46).call hb; clear u16_46; have u17_47 := (u17_46).call hb; clear u17_46; have u18_47 := (u18_46).call hb; clear u18_46; have u19_47 := (u19_46).call hb; clear u19_46; have u20_47 := (u20_46).call hb; clear u20_46; have u21_47 := (u21_46).call hb; clear u21_46; have u22_47 := (u22_46).call hb; clear u22_46; have u23_47 := (u23_46).call hb; clear u23_46; have u24_47 := (u24_46).call hb; clear u24_46; have u25_47 := (u25_46).call hb; clear u25_46; have u26_47 := (u26_46).call hb; clear u26_46; have u27_47 := (u27_46).call hb; clear u27_46; have u28_47 := (u28_46).call hb; clear u28_46; have u29_47 := (u29_46).call hb; clear u29_46; have u30_47 := (u30_46).call hb; clear u30_46; have u31_47 := (u31_46).call hb; clear u31_46; have u32_47 := (u32_46).call hb; clear u32_46; have u33_47 := (u33_46).call hb; clear u33_46; have u34_47 := (u34_46).call hb; clear u34_46; have u35_47 := (u35_46).call hb; clear u35_46; have u36_47 := (u36_46).call hb; clear u36_46; have u37_47 := (u37_46).call hb; clear u37_46; have u38_47 := (u38_46).call hb; clear u38_46; have u39_47 := (u39_46).call hb; clear u39_46; have u40_47 := (u40_46).call hb; clear u40_46; have u41_47 := (u41_46).call hb; clear u41_46; have u42_47 := (u42_46).call hb; clear u42_46; have u43_47 := (u43_46).call hb; clear u43_46; have u44_47 := (u44_46).call hb; clear u44_46; have u45_47 := (u45_46).call hb; clear u45_46; have u46_47 := ((Up.refl x46)).call hb; clear tk46; have tk47 := True.intro)
    | (go_at_call 13; have g := tk45; refine (os_any _ _).mono ?_; rintro e x46 ⟨rfl, hb⟩; have u0_46 := (u0_45).call hb; clear u0_45; have u1_46 := (u1_45).call hb; clear u1_45; have u2_46 := (u2_45).call hb; clear u2_45; have u3_46 := (u3_45).call hb; clear u3_45; have u4_46 := (u4_45).call hb; clear u4_45; have u5_46 := (u5_45).call hb; clear u5_45; have u6_46 := (u6_45).call hb; clear u6_45; have u7_46 := (u7_45).call hb; clear u7_45; have u8_46 := (u8_45).call hb; clear u8_45; have u9_46 := (u9_45).call hb; clear u9_45; have u10_46 := (u10_45).call hb; clear u10_45; have u11_46 := (u11_45).call hb; clear u11_45; have u12_46 := (u12_45).call hb; clear u12_45; have u13_46 := (u13_45).call hb; clear u13_45; have u14_46 := (u14_45).call hb; clear u14_45; have u15_46 := (u15_45).call hb; clear u15_45; have u16_46 := (u16_45).call hb; clear u16_45; have u17_46 := (u17_45).call hb; clear u17_45; have u18_46 := (u18_45).call hb; clear u18_45; have u19_46 := (u19_45).call hb; clear u19_45; have u20_46 := (u20_45).call hb; clear u20_45; have u21_46 := (u21_45).call hb; clear u21_45; have u22_46 := (u22_45).call hb; clear u22_45; have u23_46 := (u23_45).call hb; clear u23_45; have u24_46 := (u24_45).call hb; clear u24_45; have u25_46 := (u25_45).call hb; clear u25_45; have u26_46 := (u26_45).call hb; clear u26_45; have u27_46 := (u27_45).call hb; clear u27_45; have u28_46 := (u28_45).call hb; clear u28_45; have u29_46 := (u29_45).call hb; clear u29_45; have u30_46 := (u30_45).call hb; clear u30_45; have u31_46 := (u31_45).call hb; clear u31_45; have u32_46 := (u32_45).call hb; clear u32_45; have u33_46 := (u33_45).call hb; clear u33_45; have u34_46 := (u34_45).call hb; clear u34_45; have u35_46 := (u35_45).call hb; clear u35_45; have u36_46 := (u36_45).call hb; clear u36_45; have u37_46 := (u37_45).call hb; clear u37_45; have u38_46 := (u38_45).call hb; clear u38_45; have u39_46 := (u39_45).call hb; clear u39_45; have u40_46 := (u40_45).call hb; clear u40_45; have u41_46 := (u41_45).call hb; clear u41_45; have u42_46 := (u42_45).call hb; clear u42_45; have u43_46 := (u43_45).call hb; clear u43_45; have u44_46 := (u44_45).call hb; clear u44_45; have u45_46 := ((Up.refl x45)).call hb; clear tk45; have tk46 := True.intro)
    | (go_at_call 11; have g := tk44; refine (on_any 1 _).mono ?_; rintro e x45 ⟨rfl, hb⟩; have u0_45 := (u0_44).call hb; clear u0_44; have u1_45 := (u1_44).call hb; clear u1_44; have u2_45 := (u2_44).call hb; clear u2_44; have u3_45 := (u3_44).call hb; clear u3_44; have u4_45 := (u4_44).call hb; clear u4_44; have u5_45 := (u5_44).call hb; clear u5_44; have u6_45 := (u6_44).call hb; clear u6_44; have u7_45 := (u7_44).call hb; clear u7_44; have u8_45 := (u8_44).call hb; clear u8_44; have u9_45 := (u9_44).call hb; clear u9_44; have u10_45 := (u10_44).call hb; clear u10_44; have u11_45 := (u11_44).call hb; clear u11_44; have u12_45 := (u12_44).call hb; clear u12_44; have u13_45 := (u13_44).call hb; clear u13_44; have u14_45 := (u14_44).call hb; clear u14_44; have u15_45 := (u15_44).call hb; clear u15_44; have u16_45 := (u16_44).call hb; clear u16_44; have u17_45 := (u17_44).call hb; clear u17_44; have u18_45 := (u18_44).call hb; clear u18_44; have u19_45 := (u19_44).call hb; clear u19_44; have u20_45 := (u20_44).call hb; clear u20_44; have u21_45 := (u21_44).call hb; clear u21_44; have u22_45 := (u22_44).call hb; clear u22_44; have u23_45 := (u23_44).call hb; clear u23_44; have u24_45 := (u24_44).call hb; clear u24_44; have u25_45 := (u25_44).call hb; clear u25_44; have u26_45 := (u26_44).call hb; clear u26_44; have u27_45 := (u27_44).call hb; clear u27_44; have u28_45 := (u28_44).call hb; clear u28_44; have u29_45 := (u29_44).call hb; clear u29_44; have u30_45 := (u30_44).call hb; clear u30_44; have u31_45 := (u31_44).call hb; clear u31_44; have u32_45 := (u32_44).call hb; clear u32_44; have u33_45 := (u33_44).call hb; clear u33_44; have u34_45 := (u34_44).call hb; clear u34_44; have u35_45 := (u35_44).call hb; clear u35_44; have u36_45 := (u36_44).call hb; clear u36_44; have u37_45 := (u37_44).call hb; clear u37_44; have u38_45 := (u38_44).call hb; clear u38_44; have u39_45 := (u39_44).call hb; clear u39_44; have u40_45 := (u40_44).call hb; clear u40_44; have u41_45 := (u41_44).call hb; clear u41_44; have u42_45 := (u42_44).call hb; clear u42_44; have u43_45 := (u43_44).call hb; clear u43_44; have u44_45 := ((Up.refl x44)).call hb; clear tk44; have tk45 := True.intro)
    | (go_at_call 16; have g := tk43; refine (findLit_any [.num 1, .num 3, .num 5] (by kernel_rfl) (by simp) (.num 4) 2 false (by kernel_rfl) (by kernel_rfl) (fun _ => True) (fun _ => True) _ _ _ _ (lst_lit [.num 1, .num 3, .num 5] (bare_cons (num_bare _ (by omega) (by omega)) (bare_cons (num_bare _ (by omega) (by omega)) (bare_cons (num_bare _ (by omega) (by omega)) bare_nil))) bk42 rfl trivial) (lit_is (fun _ => True) (.num 4) (num_bare _ (by omega) (by omega)))).mono ?_; rintro e x44 ⟨rfl, hb⟩; have u0_44 := (u0_43).call hb; clear u0_43; have u1_44 := (u1_43).call hb; clear u1_43; have u2_44 := (u2_43).call hb; clear u2_43; have u3_44 := (u3_43).call hb; clear u3_43; have u4_44 := (u4_43).call hb; clear u4_43; have u5_44 := (u5_43).call hb; clear u5_43; have u6_44 := (u6_43).call hb; clear u6_43; have u7_44 := (u7_43).call hb; clear u7_43; have u8_44 := (u8_43).call hb; clear u8_43; have u9_44 := (u9_43).call hb; clear u9_43; have u10_44 := (u10_43).call hb; clear u10_43; have u11_44 := (u11_43).call hb; clear u11_43; have u12_44 := (u12_43).call hb; clear u12_43; have u13_44 := (u13_43).call hb; clear u13_43; have u14_44 := (u14_43).call hb; clear u14_43; have u15_44 := (u15_43).call hb; clear u15_43; have u16_44 := (u16_43).call hb; clear u16_43; have u17_44 := (u17_43).call hb; clear u17_43; have u18_44 := (u18_43).call hb; clear u18_43; have u19_44 := (u19_43).call hb; clear u19_43; have u20_44 := (u20_43).call hb; clear u20_43; have u21_44 := (u21_43).call hb; clear u21_43; have u22_44 := (u22_43).call hb; clear u22_43; have u23_44 := (u23_43).call hb; clear u23_43; have u24_44 := (u24_43).call hb; clear u24_43; have u25_44 := (u25_43).call hb; clear u25_43; have u26_44 := (u26_43).call hb; clear u26_43; have u27_44 := (u27_43).call hb; clear u27_43; have u28_44 := (u28_43).call hb; clear u28_43; have u29_44 := (u29_43).call hb; clear u29_43; have u30_44 := (u30_43).call hb; clear u30_43; have u31_44 := (u31_43).call hb; clear u31_43; have u32_44 := (u32_43).call hb; clear u32_43; have u33_44 := (u33_43).call hb; clear u33_43; have u34_44 := (u34_43).call hb; clear u34_43; have u35_44 := (u35_43).call hb; clear u35_43; have u36_44 := (u36_43).call hb; clear u36_43; have u37_44 := (u37_43).call hb; clear u37_43; have u38_44 := (u38_43).call hb; clear u38_43; have u39_44 := (u39_43).call hb; clear u39_43; have u40_44 := (u40_43).call hb; clear u40_43; have u41_44 := (u41_43).call hb; clear u41_43; have u42_44 := (u42_43).call hb; clear u42_43; have u43_44 := ((Up.refl x43)).call hb; clear tk43; have tk44 := True.intro)
    | (go_at_call 11; have g := tk42; refine (on_any 4 _).mono ?_; rintro e x43 ⟨rfl, hb⟩; have u0_43 := (u0_42.alloc).call hb; clear u0_42; have u1_43 := (u1_42.alloc).call hb; clear u1_42; have u2_43 := (u2_42.alloc).call hb; clear u2_42; have u3_43 := (u3_42.alloc).call hb; clear u3_42; have u4_43 := (u4_42.alloc).call hb; clear u4_42; have u5_43 := (u5_42.alloc).call hb; clear u5_42; have u6_43 := (u6_42.alloc).call hb; clear u6_42; have u7_43 := (u7_42.alloc).call hb; clear u7_42; have u8_43 := (u8_42.alloc).call hb; clear u8_42; have u9_43 := (u9_42.alloc).call hb; clear u9_42; have u10_43 := (u10_42.alloc).call hb; clear u10_42; have u11_43 := (u11_42.alloc).call hb; clear u11_42; have u12_43 := (u12_42.alloc).call hb; clear u12_42; have u13_43 := (u13_42.alloc).call hb; clear u13_42; have u14_43 := (u14_42.alloc).call hb; clear u14_42; have u15_43 := (u15_42.alloc).call hb; clear u15_42; have u16_43 := (u16_42.alloc).call hb; clear u16_42; have u17_43 := (u17_42.alloc).call hb; clear u17_42; have u18_43 := (u18_42.alloc).call hb; clear u18_42; have u19_43 := (u19_42.alloc).call hb; clear u19_42; have u20_43 := (u20_42.alloc).call hb; clear u20_42; have u21_43 := (u21_42.alloc).call hb; clear u21_42; have u22_43 := (u22_42.alloc).call hb; clear u22_42; have u23_43 := (u23_42.alloc).call hb; clear u23_42; have u24_43 := (u24_42.alloc).call hb; clear u24_42; have u25_43 := (u25_42.alloc).call hb; clear u25_42; have u26_43 := (u26_42.alloc).call hb; clear u26_42; have u27_43 := (u27_42.alloc).call hb; clear u27_42; have u28_43 := (u28_42.alloc).call hb; clear u28_42; have u29_43 := (u29_42.alloc).call hb; clear u29_42; have u30_43 := (u30_42.alloc).call hb; clear u30_42; have u31_43 := (u31_42.alloc).call hb; clear u31_42; have u32_43 := (u32_42.alloc).call hb; clear u32_42; have u33_43 := (u33_42.alloc).call hb; clear u33_42; have u34_43 := (u34_42.alloc).call hb; clear u34_42; have u35_43 := (u35_42.alloc).call hb; clear u35_42; have u36_43 := (u36_42.alloc).call hb; clear u36_42; have u37_43 := (u37_42.alloc).call hb; clear u37_42; have u38_43 := (u38_42.alloc).call hb; clear u38_42; have u39_43 := (u39_42.alloc).call hb; clear u39_42; have u40_43 := (u40_42.alloc).call hb; clear u40_42; have u41_43 := (u41_42.alloc).call hb; clear u41_42; have u42_43 := ((Up.refl x42).alloc).call hb; have bk42 := (hb.block _ (by simp)).trans (new_block x42 _); clear tk42; have tk43 := True.intro)
    | (go_at_call 11; have g := tk41; refine (on_any 5 _).mono ?_; rintro e x42 ⟨rfl, hb⟩; have u0_42 := (u0_41).call hb; clear u0_41; have u1_42 := (u1_41).call hb; clear u1_41; have u2_42 := (u2_41).call hb; clear u2_41; have u3_42 := (u3_41).call hb; clear u3_41; have u4_42 := (u4_41).call hb; clear u4_41; have u5_42 := (u5_41).call hb; clear u5_41; have u6_42 := (u6_41).call hb; clear u6_41; have u7_42 := (u7_41).call hb; clear u7_41; have u8_42 := (u8_41).call hb; clear u8_41; have u9_42 := (u9_41).call hb; clear u9_41; have u10_42 := (u10_41).call hb; clear u10_41; have u11_42 := (u11_41).call hb; clear u11_41; have u12_42 := (u12_41).call hb; clear u12_41; have u13_42 := (u13_41).call hb; clear u13_41; have u14_42 := (u14_41).call hb; clear u14_41; have u15_42 := (u15_41).call hb; clear u15_41; have u16_42 := (u16_41).call hb; clear u16_41; have u17_42 := (u17_41).call hb; clear u17_41; have u18_42 := (u18_41).call hb; clear u18_41; have u19_42 := (u19_41).call hb; clear u19_41; have u20_42 := (u20_41).call hb; clear u20_41; have u21_42 := (u21_41).call hb; clear u21_41; have u22_42 := (u22_41).call hb; clear u22_41; have u23_42 := (u23_41).call hb; clear u23_41; have u24_42 := (u24_41).call hb; clear u24_41; have u25_42 := (u25_41).call hb; clear u25_41; have u26_42 := (u26_41).call hb; clear u26_41; have u27_42 := (u27_41).call hb; clear u27_41; have u28_42 := (u28_41).call hb; clear u28_41; have u29_42 := (u29_41).call hb; clear u29_41; have u30_42 := (u30_41).call hb; clear u30_41; have u31_42 := (u31_41).call hb; clear u31_41; have u32_42 := (u32_41).call hb; clear u32_41; have u33_42 := (u33_41).call hb; clear u33_41; have u34_42 := (u34_41).call hb; clear u34_41; have u35_42 := (u35_41).call hb; clear u35_41; have u36_42 := (u36_41).call hb; clear u36_41; have u37_42 := (u37_41).call hb; clear u37_41; have u38_42 := (u38_41).call hb; clear u38_41; have u39_42 := (u39_41).call hb; clear u39_41; have u40_42 := (u40_41).call hb; clear u40_41; have u41_42 := ((Up.refl x41)).call hb; clear tk41; have tk42 := True.intro)
    | (go_at_call 11; have g := tk40; refine (on_any 3 _).mono ?_; rintro e x41 ⟨rfl, hb⟩; have u0_41 := (u0_40).call hb; clear u0_40; have u1_41 := (u1_40).call hb; clear u1_40; have u2_41 := (u2_40).call hb; clear u2_40; have u3_41 := (u3_40).call hb; clear u3_40; have u4_41 := (u4_40).call hb; clear u4_40; have u5_41 := (u5_40).call hb; clear u5_40; have u6_41 := (u6_40).call hb; clear u6_40; have u7_41 := (u7_40).call hb; clear u7_40; have u8_41 := (u8_40).call hb; clear u8_40; have u9_41 := (u9_40).call hb; clear u9_40; have u10_41 := (u10_40).call hb; clear u10_40; have u11_41 := (u11_40).call hb; clear u11_40; have u12_41 := (u12_40).call hb; clear u12_40; have u13_41 := (u13_40).call hb; clear u13_40; have u14_41 := (u14_40).call hb; clear u14_40; have u15_41 := (u15_40).call hb; clear u15_40; have u16_41 := (u16_40).call hb; clear u16_40; have u17_41 := (u17_40).call hb; clear u17_40; have u18_41 := (u18_40).call hb; clear u18_40; have u19_41 := (u19_40).call hb; clear u19_40; have u20_41 := (u20_40).call hb; clear u20_40; have u21_41 := (u21_40).call hb; clear u21_40; have u22_41 := (u22_40).call hb; clear u22_40; have u23_41 := (u23_40).call hb; clear u23_40; have u24_41 := (u24_40).call hb; clear u24_40; have u25_41 := (u25_40).call hb; clear u25_40; have u26_41 := (u26_40).call hb; clear u26_40; have u27_41 := (u27_40).call hb; clear u27_40; have u28_41 := (u28_40).call hb; clear u28_40; have u29_41 := (u29_40).call hb; clear u29_40; have u30_41 := (u30_40).call hb; clear u30_40; have u31_41 := (u31_40).call hb; clear u31_40; have u32_41 := (u32_40).call hb; clear u32_40; have u33_41 := (u33_40).call hb; clear u33_40; have u34_41 := (u34_40).call hb; clear u34_40; have u35_41 := (u35_40).call hb; clear u35_40; have u36_41 := (u36_40).call hb; clear u36_40; have u37_41 := (u37_40).call hb; clear u37_40; have u38_41 := (u38_40).call hb; clear u38_40; have u39_41 := (u39_40).call hb; clear u39_40; have u40_41 := ((Up.refl x40)).call hb; clear tk40; have tk41 := True.intro)
    | (go_at_call 11; have g := tk39; refine (on_any 1 _).mono ?_; rintro e x40 ⟨rfl, hb⟩; have u0_40 := (u0_39).call hb; clear u0_39; have u1_40 := (u1_39).call hb; clear u1_39; have u2_40 := (u2_39).call hb; clear u2_39; have u3_40 := (u3_39).call hb; clear u3_39; have u4_40 := (u4_39).call hb; clear u4_39; have u5_40 := (u5_39).call hb; clear u5_39; have u6_40 := (u6_39).call hb; clear u6_39; have u7_40 := (u7_39).call hb; clear u7_39; have u8_40 := (u8_39).call hb; clear u8_39; have u9_40 := (u9_39).call hb; clear u9_39; have u10_40 := (u10_39).call hb; clear u10_39; have u11_40 := (u11_39).call hb; clear u11_39; have u12_40 := (u12_39).call hb; clear u12_39; have u13_40 := (u13_39).call hb; clear u13_39; have u14_40 := (u14_39).call hb; clear u14_39; have u15_40 := (u15_39).call hb; clear u15_39; have u16_40 := (u16_39).call hb; clear u16_39; have u17_40 := (u17_39).call hb; clear u17_39; have u18_40 := (u18_39).call hb; clear u18_39; have u19_40 := (u19_39).call hb; clear u19_39; have u20_40 := (u20_39).call hb; clear u20_39; have u21_40 := (u21_39).call hb; clear u21_39; have u22_40 := (u22_39).call hb; clear u22_39; have u23_40 := (u23_39).call hb; clear u23_39; have u24_40 := (u24_39).call hb; clear u24_39; have u25_40 := (u25_39).call hb; clear u25_39; have u26_40 := (u26_39).call hb; clear u26_39; have u27_40 := (u27_39).call hb; clear u27_39; have u28_40 := (u28_39).call hb; clear u28_39; have u29_40 := (u29_39).call hb; clear u29_39; have u30_40 := (u30_39).call hb; clear u30_39; have u31_40 := (u31_39).call hb; clear u31_39; have u32_40 := (u32_39).call hb; clear u32_39; have u33_40 := (u33_39).call hb; clear u33_39; have u34_40 := (u34_39).call hb; clear u34_39; have u35_40 := (u35_39).call hb; clear u35_39; have u36_40 := (u36_39).call hb; clear u36_39; have u37_40 := (u37_39).call hb; clear u37_39; have u38_40 := (u38_39).call hb; clear u38_39; have u39_40 := ((Up.refl x39)).call hb; clear tk39; have tk40 := True.intro)
    | (go_at_call 16; have g := tk38; refine (findLit_any [.num 1, .num 3, .num 5] (by kernel_rfl) (by simp) (.num 3) 1 true (by kernel_rfl) (by kernel_rfl) (fun _ => True) (fun _ => True) _ _ _ _ (lst_lit [.num 1, .num 3, .num 5] (bare_cons (num_bare _ (by omega) (by omega)) (bare_cons (num_bare _ (by omega) (by omega)) (bare_cons (num_bare _ (by omega) (by omega)) bare_nil))) bk37 rfl trivial) (lit_is (fun _ => True) (.num 3) (num_bare _ (by omega) (by omega)))).mono ?_; rintro e x39 ⟨rfl, hb⟩; have u0_39 := (u0_38).call hb; clear u0_38; have u1_39 := (u1_38).call hb; clear u1_38; have u2_39 := (u2_38).call hb; clear u2_38; have u3_39 := (u3_38).call hb; clear u3_38; have u4_39 := (u4_38).call hb; clear u4_38; have u5_39 := (u5_38).call hb; clear u5_38; have u6_39 := (u6_38).call hb; clear u6_38; have u7_39 := (u7_38).call hb; clear u7_38; have u8_39 := (u8_38).call hb; clear u8_38; have u9_39 := (u9_38).call hb; clear u9_38; have u10_39 := (u10_38).call hb; clear u10_38; have u11_39 := (u11_38).call hb; clear u11_38; have u12_39 := (u12_38).call hb; clear u12_38; have u13_39 := (u13_38).call hb; clear u13_38; have u14_39 := (u14_38).call hb; clear u14_38; have u15_39 := (u15_38).call hb; clear u15_38; have u16_39 := (u16_38).call hb; clear u16_38; have u17_39 := (u17_38).call hb; clear u17_38; have u18_39 := (u18_38).call hb; clear u18_38; have u19_39 := (u19_38).call hb; clear u19_38; have u20_39 := (u20_38).call hb; clear u20_38; have u21_39 := (u21_38).call hb; clear u21_38; have u22_39 := (u22_38).call hb; clear u22_38; have u23_39 := (u23_38).call hb; clear u23_38; have u24_39 := (u24_38).call hb; clear u24_38; have u25_39 := (u25_38).call hb; clear u25_38; have u26_39 := (u26_38).call hb; clear u26_38; have u27_39 := (u27_38).call hb; clear u27_38; have u28_39 := (u28_38).call hb; clear u28_38; have u29_39 := (u29_38).call hb; clear u29_38; have u30_39 := (u30_38).call hb; clear u30_38; have u31_39 := (u31_38).call hb; clear u31_38; have u32_39 := (u32_38).call hb; clear u32_38; have u33_39 := (u33_38).call hb; clear u33_38; have u34_39 := (u34_38).call hb; clear u34_38; have u35_39 := (u35_38).call hb; clear u35_38; have u36_39 := (u36_38).call hb; clear u36_38; have u37_39 := (u37_38).call hb; clear u37_38; have u38_39 := ((Up.refl x38)).call hb; clear tk38; have tk39 := True.intro)
    | (go_at_call 11; have g := tk37; refine (on_any 3 _).mono ?_; rintro e x38 ⟨rfl, hb⟩; have u0_38 := (u0_37.alloc).call hb; clear u0_37; have u1_38 := (u1_37.alloc).call hb; clear u1_37; have u2_38 := (u2_37.alloc).call hb; clear u2_37; have u3_38 := (u3_37.alloc).call hb; clear u3_37; have u4_38 := (u4_37.alloc).call hb; clear u4_37; have u5_38 := (u5_37.alloc).call hb; clear u5_37; have u6_38 := (u6_37.alloc).call hb; clear u6_37; have u7_38 := (u7_37.alloc).call hb; clear u7_37; have u8_38 := (u8_37.alloc).call hb; clear u8_37; have u9_38 := (u9_37.alloc).call hb; clear u9_37; have u10_38 := (u10_37.alloc).call hb; clear u10_37; have u11_38 := (u11_37.alloc).call hb; clear u11_37; have u12_38 := (u12_37.alloc).call hb; clear u12_37; have u13_38 := (u13_37.alloc).call hb; clear u13_37; have u14_38 := (u14_37.alloc).call hb; clear u14_37; have u15_38 := (u15_37.alloc).call hb; clear u15_37; have u16_38 := (u16_37.alloc).call hb; clear u16_37; have u17_38 := (u17_37.alloc).call hb; clear u17_37; have u18_38 := (u18_37.alloc).call hb; clear u18_37; have u19_38 := (u19_37.alloc).call hb; clear u19_37; have u20_38 := (u20_37.alloc).call hb; clear u20_37; have u21_38 := (u21_37.alloc).call hb; clear u21_37; have u22_38 := (u22_37.alloc).call hb; clear u22_37; have u23_38 := (u23_37.alloc).call hb; clear u23_37; have u24_38 := (u24_37.alloc).call hb; clear u24_37; have u25_38 := (u25_37.alloc).call hb; clear u25_37; have u26_38 := (u26_37.alloc).call hb; clear u26_37; have u27_38 := (u27_37.alloc).call hb; clear u27_37; have u28_38 := (u28_37.alloc).call hb; clear u28_37; have u29_38 := (u29_37.alloc).call hb; clear u29_37; have u30_38 := (u30_37.alloc).call hb; clear u30_37; have u31_38 := (u31_37.alloc).call hb; clear u31_37; have u32_38 := (u32_37.alloc).call hb; clear u32_37; have u33_38 := (u33_37.alloc).call hb; clear u33_37; have u34_38 := (u34_37.alloc).call hb; clear u34_37; have u35_38 := (u35_37.alloc).call hb; clear u35_37; have u36_38 := (u36_37.alloc).call hb; clear u36_37; have u37_38 := ((Up.refl x37).alloc).call hb; have bk37 := (hb.block _ (by simp)).trans (new_block x37 _); clear tk37; have tk38 := True.intro)
    | (go_at_call 11; have g := tk36; refine (on_any 5 _).mono ?_; rintro e x37 ⟨rfl, hb⟩; have u0_37 := (u0_36).call hb; clear u0_36; have u1_37 := (u1_36).call hb; clear u1_36; have u2_37 := (u2_36).call hb; clear u2_36; have u3_37 := (u3_36).call hb; clear u3_36; have u4_37 := (u4_36).call hb; clear u4_36; have u5_37 := (u5_36).call hb; clear u5_36; have u6_37 := (u6_36).call hb; clear u6_36; have u7_37 := (u7_36).call hb; clear u7_36; have u8_37 := (u8_36).call hb; clear u8_36; have u9_37 := (u9_36).call hb; clear u9_36; have u10_37 := (u10_36).call hb; clear u10_36; have u11_37 := (u11_36).call hb; clear u11_36; have u12_37 := (u12_36).call hb; clear u12_36; have u13_37 := (u13_36).call hb; clear u13_36; have u14_37 := (u14_36).call hb; clear u14_36; have u15_37 := (u15_36).call hb; clear u15_36; have u16_37 := (u16_36).call hb; clear u16_36; have u17_37 := (u17_36).call hb; clear u17_36; have u18_37 := (u18_36).call hb; clear u18_36; have u19_37 := (u19_36).call hb; clear u19_36; have u20_37 := (u20_36).call hb; clear u20_36; have u21_37 := (u21_36).call hb; clear u21_36; have u22_37 := (u22_36).call hb; clear u22_36; have u23_37 := (u23_36).call hb; clear u23_36; have u24_37 := (u24_36).call hb; clear u24_36; have u25_37 := (u25_36).call hb; clear u25_36; have u26_37 := (u26_36).call hb; clear u26_36; have u27_37 := (u27_36).call hb; clear u27_36; have u28_37 := (u28_36).call hb; clear u28_36; have u29_37 := (u29_36).call hb; clear u29_36; have u30_37 := (u30_36).call hb; clear u30_36; have u31_37 := (u31_36).call hb; clear u31_36; have u32_37 := (u32_36).call hb; clear u32_36; have u33_37 := (u33_36).call hb; clear u33_36; have u34_37 := (u34_36).call hb; clear u34_36; have u35_37 := (u35_36).call hb; clear u35_36; have u36_37 := ((Up.refl x36)).call hb; clear tk36; have tk37 := True.intro)
    | (go_at_call 11; have g := tk35; refine (on_any 3 _).mono ?_; rintro e x36 ⟨rfl, hb⟩; have u0_36 := (u0_35).call hb; clear u0_35; have u1_36 := (u1_35).call hb; clear u1_35; have u2_36 := (u2_35).call hb; clear u2_35; have u3_36 := (u3_35).call hb; clear u3_35; have u4_36 := (u4_35).call hb; clear u4_35; have u5_36 := (u5_35).call hb; clear u5_35; have u6_36 := (u6_35).call hb; clear u6_35; have u7_36 := (u7_35).call hb; clear u7_35; have u8_36 := (u8_35).call hb; clear u8_35; have u9_36 := (u9_35).call hb; clear u9_35; have u10_36 := (u10_35).call hb; clear u10_35; have u11_36 := (u11_35).call hb; clear u11_35; have u12_36 := (u12_35).call hb; clear u12_35; have u13_36 := (u13_35).call hb; clear u13_35; have u14_36 := (u14_35).call hb; clear u14_35; have u15_36 := (u15_35).call hb; clear u15_35; have u16_36 := (u16_35).call hb; clear u16_35; have u17_36 := (u17_35).call hb; clear u17_35; have u18_36 := (u18_35).call hb; clear u18_35; have u19_36 := (u19_35).call hb; clear u19_35; have u20_36 := (u20_35).call hb; clear u20_35; have u21_36 := (u21_35).call hb; clear u21_35; have u22_36 := (u22_35).call hb; clear u22_35; have u23_36 := (u23_35).call hb; clear u23_35; have u24_36 := (u24_35).call hb; clear u24_35; have u25_36 := (u25_35).call hb; clear u25_35; have u26_36 := (u26_35).call hb; clear u26_35; have u27_36 := (u27_35).call hb; clear u27_35; have u28_36 := (u28_35).call hb; clear u28_35; have u29_36 := (u29_35).call hb; clear u29_35; have u30_36 := (u30_35).call hb; clear u30_35; have u31_36 := (u31_35).call hb; clear u31_35; have u32_36 := (u32_35).call hb; clear u32_35; have u33_36 := (u33_35).call hb; clear u33_35; have u34_36 := (u34_35).call hb; clear u34_35; have u35_36 := ((Up.refl x35)).call hb; clear tk35; have tk36 := True.intro)
    | (go_at_call 11; have g := tk34; refine (on_any 1 _).mono ?_; rintro e x35 ⟨rfl, hb⟩; have u0_35 := (u0_34).call hb; clear u0_34; have u1_35 := (u1_34).call hb; clear u1_34; have u2_35 := (u2_34).call hb; clear u2_34; have u3_35 := (u3_34).call hb; clear u3_34; have u4_35 := (u4_34).call hb; clear u4_34; have u5_35 := (u5_34).call hb; clear u5_34; have u6_35 := (u6_34).call hb; clear u6_34; have u7_35 := (u7_34).call hb; clear u7_34; have u8_35 := (u8_34).call hb; clear u8_34; have u9_35 := (u9_34).call hb; clear u9_34; have u10_35 := (u10_34).call hb; clear u10_34; have u11_35 := (u11_34).call hb; clear u11_34; have u12_35 := (u12_34).call hb; clear u12_34; have u13_35 := (u13_34).call hb; clear u13_34; have u14_35 := (u14_34).call hb; clear u14_34; have u15_35 := (u15_34).call hb; clear u15_34; have u16_35 := (u16_34).call hb; clear u16_34; have u17_35 := (u17_34).call hb; clear u17_34; have u18_35 := (u18_34).call hb; clear u18_34; have u19_35 := (u19_34).call hb; clear u19_34; have u20_35 := (u20_34).call hb; clear u20_34; have u21_35 := (u21_34).call hb; clear u21_34; have u22_35 := (u22_34).call hb; clear u22_34; have u23_35 := (u23_34).call hb; clear u23_34; have u24_35 := (u24_34).call hb; clear u24_34; have u25_35 := (u25_34).call hb; clear u25_34; have u26_35 := (u26_34).call hb; clear u26_34; have u27_35 := (u27_34).call hb; clear u27_34; have u28_35 := (u28_34).call hb; clear u28_34; have u29_35 := (u29_34).call hb; clear u29_34; have u30_35 := (u30_34).call hb; clear u30_34; have u31_35 := (u31_34).call hb; clear u31_34; have u32_35 := (u32_34).call hb; clear u32_34; have u33_35 := (u33_34).call hb; clear u33_34; have u34_35 := ((Up.refl x34)).call hb; clear tk34; have tk35 := True.intro)
    | (go_at_call 15; have g := tk33; refine (uniqLit_any [.num 2, .num 1, .num 2, .num 1] [.num 1, .num 2] (by kernel_rfl) (by simp) (by simp [Tm.num, Tm.size_mk, sizes, Tm.short_mk, Shorts, ByteArray.size]) (fun _ => True) _ _ _ (lst_lit [.num 2, .num 1, .num 2, .num 1] (bare_cons (num_bare _ (by omega) (by omega)) (bare_cons (num_bare _ (by omega) (by omega)) (bare_cons (num_bare _ (by omega) (by omega)) (bare_cons (num_bare _ (by omega) (by omega)) bare_nil)))) (new_block x33 _) rfl trivial)).mono ?_; rintro e x34 ⟨⟨a33, c33, rfl, h33⟩, hb⟩; have u0_34 := (u0_33.alloc).call hb; clear u0_33; have u1_34 := (u1_33.alloc).call hb; clear u1_33; have u2_34 := (u2_33.alloc).call hb; clear u2_33; have u3_34 := (u3_33.alloc).call hb; clear u3_33; have u4_34 := (u4_33.alloc).call hb; clear u4_33; have u5_34 := (u5_33.alloc).call hb; clear u5_33; have u6_34 := (u6_33.alloc).call hb; clear u6_33; have u7_34 := (u7_33.alloc).call hb; clear u7_33; have u8_34 := (u8_33.alloc).call hb; clear u8_33; have u9_34 := (u9_33.alloc).call hb; clear u9_33; have u10_34 := (u10_33.alloc).call hb; clear u10_33; have u11_34 := (u11_33.alloc).call hb; clear u11_33; have u12_34 := (u12_33.alloc).call hb; clear u12_33; have u13_34 := (u13_33.alloc).call hb; clear u13_33; have u14_34 := (u14_33.alloc).call hb; clear u14_33; have u15_34 := (u15_33.alloc).call hb; clear u15_33; have u16_34 := (u16_33.alloc).call hb; clear u16_33; have u17_34 := (u17_33.alloc).call hb; clear u17_33; have u18_34 := (u18_33.alloc).call hb; clear u18_33; have u19_34 := (u19_33.alloc).call hb; clear u19_33; have u20_34 := (u20_33.alloc).call hb; clear u20_33; have u21_34 := (u21_33.alloc).call hb; clear u21_33; have u22_34 := (u22_33.alloc).call hb; clear u22_33; have u23_34 := (u23_33.alloc).call hb; clear u23_33; have u24_34 := (u24_33.alloc).call hb; clear u24_33; have u25_34 := (u25_33.alloc).call hb; clear u25_33; have u26_34 := (u26_33.alloc).call hb; clear u26_33; have u27_34 := (u27_33.alloc).call hb; clear u27_33; have u28_34 := (u28_33.alloc).call hb; clear u28_33; have u29_34 := (u29_33.alloc).call hb; clear u29_33; have u30_34 := (u30_33.alloc).call hb; clear u30_33; have u31_34 := (u31_33.alloc).call hb; clear u31_33; have u32_34 := (u32_33.alloc).call hb; clear u32_33; have u33_34 := ((Up.refl x33).alloc).call hb; clear tk33; have tk34 := True.intro)
    | (go_at_call 11; have g := tk32; refine (on_any 1 _).mono ?_; rintro e x33 ⟨rfl, hb⟩; have u0_33 := (u0_32).call hb; clear u0_32; have u1_33 := (u1_32).call hb; clear u1_32; have u2_33 := (u2_32).call hb; clear u2_32; have u3_33 := (u3_32).call hb; clear u3_32; have u4_33 := (u4_32).call hb; clear u4_32; have u5_33 := (u5_32).call hb; clear u5_32; have u6_33 := (u6_32).call hb; clear u6_32; have u7_33 := (u7_32).call hb; clear u7_32; have u8_33 := (u8_32).call hb; clear u8_32; have u9_33 := (u9_32).call hb; clear u9_32; have u10_33 := (u10_32).call hb; clear u10_32; have u11_33 := (u11_32).call hb; clear u11_32; have u12_33 := (u12_32).call hb; clear u12_32; have u13_33 := (u13_32).call hb; clear u13_32; have u14_33 := (u14_32).call hb; clear u14_32; have u15_33 := (u15_32).call hb; clear u15_32; have u16_33 := (u16_32).call hb; clear u16_32; have u17_33 := (u17_32).call hb; clear u17_32; have u18_33 := (u18_32).call hb; clear u18_32; have u19_33 := (u19_32).call hb; clear u19_32; have u20_33 := (u20_32).call hb; clear u20_32; have u21_33 := (u21_32).call hb; clear u21_32; have u22_33 := (u22_32).call hb; clear u22_32; have u23_33 := (u23_32).call hb; clear u23_32; have u24_33 := (u24_32).call hb; clear u24_32; have u25_33 := (u25_32).call hb; clear u25_32; have u26_33 := (u26_32).call hb; clear u26_32; have u27_33 := (u27_32).call hb; clear u27_32; have u28_33 := (u28_32).call hb; clear u28_32; have u29_33 := (u29_32).call hb; clear u29_32; have u30_33 := (u30_32).call hb; clear u30_32; have u31_33 := (u31_32).call hb; clear u31_32; have u32_33 := ((Up.refl x32)).call hb; clear tk32; have tk33 := True.intro)
    | (go_at_call 11; have g := tk31; refine (on_any 2 _).mono ?_; rintro e x32 ⟨rfl, hb⟩; have u0_32 := (u0_31).call hb; clear u0_31; have u1_32 := (u1_31).call hb; clear u1_31; have u2_32 := (u2_31).call hb; clear u2_31; have u3_32 := (u3_31).call hb; clear u3_31; have u4_32 := (u4_31).call hb; clear u4_31; have u5_32 := (u5_31).call hb; clear u5_31; have u6_32 := (u6_31).call hb; clear u6_31; have u7_32 := (u7_31).call hb; clear u7_31; have u8_32 := (u8_31).call hb; clear u8_31; have u9_32 := (u9_31).call hb; clear u9_31; have u10_32 := (u10_31).call hb; clear u10_31; have u11_32 := (u11_31).call hb; clear u11_31; have u12_32 := (u12_31).call hb; clear u12_31; have u13_32 := (u13_31).call hb; clear u13_31; have u14_32 := (u14_31).call hb; clear u14_31; have u15_32 := (u15_31).call hb; clear u15_31; have u16_32 := (u16_31).call hb; clear u16_31; have u17_32 := (u17_31).call hb; clear u17_31; have u18_32 := (u18_31).call hb; clear u18_31; have u19_32 := (u19_31).call hb; clear u19_31; have u20_32 := (u20_31).call hb; clear u20_31; have u21_32 := (u21_31).call hb; clear u21_31; have u22_32 := (u22_31).call hb; clear u22_31; have u23_32 := (u23_31).call hb; clear u23_31; have u24_32 := (u24_31).call hb; clear u24_31; have u25_32 := (u25_31).call hb; clear u25_31; have u26_32 := (u26_31).call hb; clear u26_31; have u27_32 := (u27_31).call hb; clear u27_31; have u28_32 := (u28_31).call hb; clear u28_31; have u29_32 := (u29_31).call hb; clear u29_31; have u30_32 := (u30_31).call hb; clear u30_31; have u31_32 := ((Up.refl x31)).call hb; clear tk31; have tk32 := True.intro)
    | (go_at_call 11; have g := tk30; refine (on_any 1 _).mono ?_; rintro e x31 ⟨rfl, hb⟩; have u0_31 := (u0_30).call hb; clear u0_30; have u1_31 := (u1_30).call hb; clear u1_30; have u2_31 := (u2_30).call hb; clear u2_30; have u3_31 := (u3_30).call hb; clear u3_30; have u4_31 := (u4_30).call hb; clear u4_30; have u5_31 := (u5_30).call hb; clear u5_30; have u6_31 := (u6_30).call hb; clear u6_30; have u7_31 := (u7_30).call hb; clear u7_30; have u8_31 := (u8_30).call hb; clear u8_30; have u9_31 := (u9_30).call hb; clear u9_30; have u10_31 := (u10_30).call hb; clear u10_30; have u11_31 := (u11_30).call hb; clear u11_30; have u12_31 := (u12_30).call hb; clear u12_30; have u13_31 := (u13_30).call hb; clear u13_30; have u14_31 := (u14_30).call hb; clear u14_30; have u15_31 := (u15_30).call hb; clear u15_30; have u16_31 := (u16_30).call hb; clear u16_30; have u17_31 := (u17_30).call hb; clear u17_30; have u18_31 := (u18_30).call hb; clear u18_30; have u19_31 := (u19_30).call hb; clear u19_30; have u20_31 := (u20_30).call hb; clear u20_30; have u21_31 := (u21_30).call hb; clear u21_30; have u22_31 := (u22_30).call hb; clear u22_30; have u23_31 := (u23_30).call hb; clear u23_30; have u24_31 := (u24_30).call hb; clear u24_30; have u25_31 := (u25_30).call hb; clear u25_30; have u26_31 := (u26_30).call hb; clear u26_30; have u27_31 := (u27_30).call hb; clear u27_30; have u28_31 := (u28_30).call hb; clear u28_30; have u29_31 := (u29_30).call hb; clear u29_30; have u30_31 := ((Up.refl x30)).call hb; clear tk30; have tk31 := True.intro)
    | (go_at_call 11; have g := tk29; refine (on_any 2 _).mono ?_; rintro e x30 ⟨rfl, hb⟩; have u0_30 := (u0_29).call hb; clear u0_29; have u1_30 := (u1_29).call hb; clear u1_29; have u2_30 := (u2_29).call hb; clear u2_29; have u3_30 := (u3_29).call hb; clear u3_29; have u4_30 := (u4_29).call hb; clear u4_29; have u5_30 := (u5_29).call hb; clear u5_29; have u6_30 := (u6_29).call hb; clear u6_29; have u7_30 := (u7_29).call hb; clear u7_29; have u8_30 := (u8_29).call hb; clear u8_29; have u9_30 := (u9_29).call hb; clear u9_29; have u10_30 := (u10_29).call hb; clear u10_29; have u11_30 := (u11_29).call hb; clear u11_29; have u12_30 := (u12_29).call hb; clear u12_29; have u13_30 := (u13_29).call hb; clear u13_29; have u14_30 := (u14_29).call hb; clear u14_29; have u15_30 := (u15_29).call hb; clear u15_29; have u16_30 := (u16_29).call hb; clear u16_29; have u17_30 := (u17_29).call hb; clear u17_29; have u18_30 := (u18_29).call hb; clear u18_29; have u19_30 := (u19_29).call hb; clear u19_29; have u20_30 := (u20_29).call hb; clear u20_29; have u21_30 := (u21_29).call hb; clear u21_29; have u22_30 := (u22_29).call hb; clear u22_29; have u23_30 := (u23_29).call hb; clear u23_29; have u24_30 := (u24_29).call hb; clear u24_29; have u25_30 := (u25_29).call hb; clear u25_29; have u26_30 := (u26_29).call hb; clear u26_29; have u27_30 := (u27_29).call hb; clear u27_29; have u28_30 := (u28_29).call hb; clear u28_29; have u29_30 := ((Up.refl x29)).call hb; clear tk29; have tk30 := True.intro)
    | (go_at_call 14; have g := tk28; refine (sortLit_any [.sym ⟨#[98]⟩, .num 1, .tup [], .sym ⟨#[97]⟩] [.num 1, .sym ⟨#[97]⟩, .sym ⟨#[98]⟩, .tup []] (by kernel_rfl) (by simp) (by simp [Tm.num, Tm.sym, Tm.tup, Tm.size_mk, sizes, Tm.short_mk, Shorts, ByteArray.size]) (fun _ => True) _ _ _ (lst_lit [.sym ⟨#[98]⟩, .num 1, .tup [], .sym ⟨#[97]⟩] (bare_cons (sym_bare _ (by decide)) (bare_cons (num_bare _ (by omega) (by omega)) (bare_cons tup_bare (bare_cons (sym_bare _ (by decide)) bare_nil)))) (new_block x28 _) rfl trivial)).mono ?_; rintro e x29 ⟨⟨a28, c28, rfl, h28⟩, hb⟩; have u0_29 := (u0_28.alloc).call hb; clear u0_28; have u1_29 := (u1_28.alloc).call hb; clear u1_28; have u2_29 := (u2_28.alloc).call hb; clear u2_28; have u3_29 := (u3_28.alloc).call hb; clear u3_28; have u4_29 := (u4_28.alloc).call hb; clear u4_28; have u5_29 := (u5_28.alloc).call hb; clear u5_28; have u6_29 := (u6_28.alloc).call hb; clear u6_28; have u7_29 := (u7_28.alloc).call hb; clear u7_28; have u8_29 := (u8_28.alloc).call hb; clear u8_28; have u9_29 := (u9_28.alloc).call hb; clear u9_28; have u10_29 := (u10_28.alloc).call hb; clear u10_28; have u11_29 := (u11_28.alloc).call hb; clear u11_28; have u12_29 := (u12_28.alloc).call hb; clear u12_28; have u13_29 := (u13_28.alloc).call hb; clear u13_28; have u14_29 := (u14_28.alloc).call hb; clear u14_28; have u15_29 := (u15_28.alloc).call hb; clear u15_28; have u16_29 := (u16_28.alloc).call hb; clear u16_28; have u17_29 := (u17_28.alloc).call hb; clear u17_28; have u18_29 := (u18_28.alloc).call hb; clear u18_28; have u19_29 := (u19_28.alloc).call hb; clear u19_28; have u20_29 := (u20_28.alloc).call hb; clear u20_28; have u21_29 := (u21_28.alloc).call hb; clear u21_28; have u22_29 := (u22_28.alloc).call hb; clear u22_28; have u23_29 := (u23_28.alloc).call hb; clear u23_28; have u24_29 := (u24_28.alloc).call hb; clear u24_28; have u25_29 := (u25_28.alloc).call hb; clear u25_28; have u26_29 := (u26_28.alloc).call hb; clear u26_28; have u27_29 := (u27_28.alloc).call hb; clear u27_28; have u28_29 := ((Up.refl x28).alloc).call hb; clear tk28; have tk29 := True.intro)
    | (go_at_call 13; have g := tk27; refine (os_any _ _).mono ?_; rintro e x28 ⟨rfl, hb⟩; have u0_28 := (u0_27).call hb; clear u0_27; have u1_28 := (u1_27).call hb; clear u1_27; have u2_28 := (u2_27).call hb; clear u2_27; have u3_28 := (u3_27).call hb; clear u3_27; have u4_28 := (u4_27).call hb; clear u4_27; have u5_28 := (u5_27).call hb; clear u5_27; have u6_28 := (u6_27).call hb; clear u6_27; have u7_28 := (u7_27).call hb; clear u7_27; have u8_28 := (u8_27).call hb; clear u8_27; have u9_28 := (u9_27).call hb; clear u9_27; have u10_28 := (u10_27).call hb; clear u10_27; have u11_28 := (u11_27).call hb; clear u11_27; have u12_28 := (u12_27).call hb; clear u12_27; have u13_28 := (u13_27).call hb; clear u13_27; have u14_28 := (u14_27).call hb; clear u14_27; have u15_28 := (u15_27).call hb; clear u15_27; have u16_28 := (u16_27).call hb; clear u16_27; have u17_28 := (u17_27).call hb; clear u17_27; have u18_28 := (u18_27).call hb; clear u18_27; have u19_28 := (u19_27).call hb; clear u19_27; have u20_28 := (u20_27).call hb; clear u20_27; have u21_28 := (u21_27).call hb; clear u21_27; have u22_28 := (u22_27).call hb; clear u22_27; have u23_28 := (u23_27).call hb; clear u23_27; have u24_28 := (u24_27).call hb; clear u24_27; have u25_28 := (u25_27).call hb; clear u25_27; have u26_28 := (u26_27).call hb; clear u26_27; have u27_28 := ((Up.refl x27)).call hb; clear tk27; have tk28 := True.intro)
    | (go_at_call 10; have g := tk26; refine (tup_any _ _ _ _).mono ?_; rintro e x27 ⟨rfl, hb⟩; have u0_27 := (u0_26).call hb; clear u0_26; have u1_27 := (u1_26).call hb; clear u1_26; have u2_27 := (u2_26).call hb; clear u2_26; have u3_27 := (u3_26).call hb; clear u3_26; have u4_27 := (u4_26).call hb; clear u4_26; have u5_27 := (u5_26).call hb; clear u5_26; have u6_27 := (u6_26).call hb; clear u6_26; have u7_27 := (u7_26).call hb; clear u7_26; have u8_27 := (u8_26).call hb; clear u8_26; have u9_27 := (u9_26).call hb; clear u9_26; have u10_27 := (u10_26).call hb; clear u10_26; have u11_27 := (u11_26).call hb; clear u11_26; have u12_27 := (u12_26).call hb; clear u12_26; have u13_27 := (u13_26).call hb; clear u13_26; have u14_27 := (u14_26).call hb; clear u14_26; have u15_27 := (u15_26).call hb; clear u15_26; have u16_27 := (u16_26).call hb; clear u16_26; have u17_27 := (u17_26).call hb; clear u17_26; have u18_27 := (u18_26).call hb; clear u18_26; have u19_27 := (u19_26).call hb; clear u19_26; have u20_27 := (u20_26).call hb; clear u20_26; have u21_27 := (u21_26).call hb; clear u21_26; have u22_27 := (u22_26).call hb; clear u22_26; have u23_27 := (u23_26).call hb; clear u23_26; have u24_27 := (u24_26).call hb; clear u24_26; have u25_27 := (u25_26).call hb; clear u25_26; have u26_27 := ((Up.refl x26)).call hb; clear tk26; have tk27 := True.intro)
    | (go_at_call 11; have g := tk25; refine (on_any 1 _).mono ?_; rintro e x26 ⟨rfl, hb⟩; have u0_26 := (u0_25).call hb; clear u0_25; have u1_26 := (u1_25).call hb; clear u1_25; have u2_26 := (u2_25).call hb; clear u2_25; have u3_26 := (u3_25).call hb; clear u3_25; have u4_26 := (u4_25).call hb; clear u4_25; have u5_26 := (u5_25).call hb; clear u5_25; have u6_26 := (u6_25).call hb; clear u6_25; have u7_26 := (u7_25).call hb; clear u7_25; have u8_26 := (u8_25).call hb; clear u8_25; have u9_26 := (u9_25).call hb; clear u9_25; have u10_26 := (u10_25).call hb; clear u10_25; have u11_26 := (u11_25).call hb; clear u11_25; have u12_26 := (u12_25).call hb; clear u12_25; have u13_26 := (u13_25).call hb; clear u13_25; have u14_26 := (u14_25).call hb; clear u14_25; have u15_26 := (u15_25).call hb; clear u15_25; have u16_26 := (u16_25).call hb; clear u16_25; have u17_26 := (u17_25).call hb; clear u17_25; have u18_26 := (u18_25).call hb; clear u18_25; have u19_26 := (u19_25).call hb; clear u19_25; have u20_26 := (u20_25).call hb; clear u20_25; have u21_26 := (u21_25).call hb; clear u21_25; have u22_26 := (u22_25).call hb; clear u22_25; have u23_26 := (u23_25).call hb; clear u23_25; have u24_26 := (u24_25).call hb; clear u24_25; have u25_26 := ((Up.refl x25)).call hb; clear tk25; have tk26 := True.intro)
    | (go_at_call 13; have g := tk24; refine (os_any _ _).mono ?_; rintro e x25 ⟨rfl, hb⟩; have u0_25 := (u0_24).call hb; clear u0_24; have u1_25 := (u1_24).call hb; clear u1_24; have u2_25 := (u2_24).call hb; clear u2_24; have u3_25 := (u3_24).call hb; clear u3_24; have u4_25 := (u4_24).call hb; clear u4_24; have u5_25 := (u5_24).call hb; clear u5_24; have u6_25 := (u6_24).call hb; clear u6_24; have u7_25 := (u7_24).call hb; clear u7_24; have u8_25 := (u8_24).call hb; clear u8_24; have u9_25 := (u9_24).call hb; clear u9_24; have u10_25 := (u10_24).call hb; clear u10_24; have u11_25 := (u11_24).call hb; clear u11_24; have u12_25 := (u12_24).call hb; clear u12_24; have u13_25 := (u13_24).call hb; clear u13_24; have u14_25 := (u14_24).call hb; clear u14_24; have u15_25 := (u15_24).call hb; clear u15_24; have u16_25 := (u16_24).call hb; clear u16_24; have u17_25 := (u17_24).call hb; clear u17_24; have u18_25 := (u18_24).call hb; clear u18_24; have u19_25 := (u19_24).call hb; clear u19_24; have u20_25 := (u20_24).call hb; clear u20_24; have u21_25 := (u21_24).call hb; clear u21_24; have u22_25 := (u22_24).call hb; clear u22_24; have u23_25 := (u23_24).call hb; clear u23_24; have u24_25 := ((Up.refl x24)).call hb; clear tk24; have tk25 := True.intro)
    | (go_at_call 6; have g := tk23; refine (cmpLit_any (.tup []) (.tup []) (0) (by kernel_rfl) (fun _ => True) (fun _ => True) _ _ _ (lit_is (fun _ => True) (.tup []) tup_bare) (lit_is (fun _ => True) (.tup []) tup_bare)).mono ?_; rintro e x24 ⟨rfl, hb⟩; have u0_24 := (u0_23).call hb; clear u0_23; have u1_24 := (u1_23).call hb; clear u1_23; have u2_24 := (u2_23).call hb; clear u2_23; have u3_24 := (u3_23).call hb; clear u3_23; have u4_24 := (u4_23).call hb; clear u4_23; have u5_24 := (u5_23).call hb; clear u5_23; have u6_24 := (u6_23).call hb; clear u6_23; have u7_24 := (u7_23).call hb; clear u7_23; have u8_24 := (u8_23).call hb; clear u8_23; have u9_24 := (u9_23).call hb; clear u9_23; have u10_24 := (u10_23).call hb; clear u10_23; have u11_24 := (u11_23).call hb; clear u11_23; have u12_24 := (u12_23).call hb; clear u12_23; have u13_24 := (u13_23).call hb; clear u13_23; have u14_24 := (u14_23).call hb; clear u14_23; have u15_24 := (u15_23).call hb; clear u15_23; have u16_24 := (u16_23).call hb; clear u16_23; have u17_24 := (u17_23).call hb; clear u17_23; have u18_24 := (u18_23).call hb; clear u18_23; have u19_24 := (u19_23).call hb; clear u19_23; have u20_24 := (u20_23).call hb; clear u20_23; have u21_24 := (u21_23).call hb; clear u21_23; have u22_24 := (u22_23).call hb; clear u22_23; have u23_24 := ((Up.refl x23)).call hb; clear tk23; have tk24 := True.intro)
    | (go_at_call 10; have g := tk22; refine (tup_any _ _ _ _).mono ?_; rintro e x23 ⟨rfl, hb⟩; have u0_23 := (u0_22).call hb; clear u0_22; have u1_23 := (u1_22).call hb; clear u1_22; have u2_23 := (u2_22).call hb; clear u2_22; have u3_23 := (u3_22).call hb; clear u3_22; have u4_23 := (u4_22).call hb; clear u4_22; have u5_23 := (u5_22).call hb; clear u5_22; have u6_23 := (u6_22).call hb; clear u6_22; have u7_23 := (u7_22).call hb; clear u7_22; have u8_23 := (u8_22).call hb; clear u8_22; have u9_23 := (u9_22).call hb; clear u9_22; have u10_23 := (u10_22).call hb; clear u10_22; have u11_23 := (u11_22).call hb; clear u11_22; have u12_23 := (u12_22).call hb; clear u12_22; have u13_23 := (u13_22).call hb; clear u13_22; have u14_23 := (u14_22).call hb; clear u14_22; have u15_23 := (u15_22).call hb; clear u15_22; have u16_23 := (u16_22).call hb; clear u16_22; have u17_23 := (u17_22).call hb; clear u17_22; have u18_23 := (u18_22).call hb; clear u18_22; have u19_23 := (u19_22).call hb; clear u19_22; have u20_23 := (u20_22).call hb; clear u20_22; have u21_23 := (u21_22).call hb; clear u21_22; have u22_23 := ((Up.refl x22)).call hb; clear tk22; have tk23 := True.intro)
    | (go_at_call 10; have g := tk21; refine (tup_any _ _ _ _).mono ?_; rintro e x22 ⟨rfl, hb⟩; have u0_22 := (u0_21).call hb; clear u0_21; have u1_22 := (u1_21).call hb; clear u1_21; have u2_22 := (u2_21).call hb; clear u2_21; have u3_22 := (u3_21).call hb; clear u3_21; have u4_22 := (u4_21).call hb; clear u4_21; have u5_22 := (u5_21).call hb; clear u5_21; have u6_22 := (u6_21).call hb; clear u6_21; have u7_22 := (u7_21).call hb; clear u7_21; have u8_22 := (u8_21).call hb; clear u8_21; have u9_22 := (u9_21).call hb; clear u9_21; have u10_22 := (u10_21).call hb; clear u10_21; have u11_22 := (u11_21).call hb; clear u11_21; have u12_22 := (u12_21).call hb; clear u12_21; have u13_22 := (u13_21).call hb; clear u13_21; have u14_22 := (u14_21).call hb; clear u14_21; have u15_22 := (u15_21).call hb; clear u15_21; have u16_22 := (u16_21).call hb; clear u16_21; have u17_22 := (u17_21).call hb; clear u17_21; have u18_22 := (u18_21).call hb; clear u18_21; have u19_22 := (u19_21).call hb; clear u19_21; have u20_22 := (u20_21).call hb; clear u20_21; have u21_22 := ((Up.refl x21)).call hb; clear tk21; have tk22 := True.intro)
    | (go_at_call 6; have g := tk20; refine (cmpLit_any (.sym ⟨#[97]⟩) (.sym ⟨#[97, 98]⟩) (-1) (by kernel_rfl) (fun _ => True) (fun _ => True) _ _ _ (lit_is (fun _ => True) (.sym ⟨#[97]⟩) (sym_bare _ (by decide))) (lit_is (fun _ => True) (.sym ⟨#[97, 98]⟩) (sym_bare _ (by decide)))).mono ?_; rintro e x21 ⟨rfl, hb⟩; have u0_21 := (u0_20).call hb; clear u0_20; have u1_21 := (u1_20).call hb; clear u1_20; have u2_21 := (u2_20).call hb; clear u2_20; have u3_21 := (u3_20).call hb; clear u3_20; have u4_21 := (u4_20).call hb; clear u4_20; have u5_21 := (u5_20).call hb; clear u5_20; have u6_21 := (u6_20).call hb; clear u6_20; have u7_21 := (u7_20).call hb; clear u7_20; have u8_21 := (u8_20).call hb; clear u8_20; have u9_21 := (u9_20).call hb; clear u9_20; have u10_21 := (u10_20).call hb; clear u10_20; have u11_21 := (u11_20).call hb; clear u11_20; have u12_21 := (u12_20).call hb; clear u12_20; have u13_21 := (u13_20).call hb; clear u13_20; have u14_21 := (u14_20).call hb; clear u14_20; have u15_21 := (u15_20).call hb; clear u15_20; have u16_21 := (u16_20).call hb; clear u16_20; have u17_21 := (u17_20).call hb; clear u17_20; have u18_21 := (u18_20).call hb; clear u18_20; have u19_21 := (u19_20).call hb; clear u19_20; have u20_21 := ((Up.refl x20)).call hb; clear tk20; have tk21 := True.intro)
    | (go_at_call 13; have g := tk19; refine (os_any _ _).mono ?_; rintro e x20 ⟨rfl, hb⟩; have u0_20 := (u0_19).call hb; clear u0_19; have u1_20 := (u1_19).call hb; clear u1_19; have u2_20 := (u2_19).call hb; clear u2_19; have u3_20 := (u3_19).call hb; clear u3_19; have u4_20 := (u4_19).call hb; clear u4_19; have u5_20 := (u5_19).call hb; clear u5_19; have u6_20 := (u6_19).call hb; clear u6_19; have u7_20 := (u7_19).call hb; clear u7_19; have u8_20 := (u8_19).call hb; clear u8_19; have u9_20 := (u9_19).call hb; clear u9_19; have u10_20 := (u10_19).call hb; clear u10_19; have u11_20 := (u11_19).call hb; clear u11_19; have u12_20 := (u12_19).call hb; clear u12_19; have u13_20 := (u13_19).call hb; clear u13_19; have u14_20 := (u14_19).call hb; clear u14_19; have u15_20 := (u15_19).call hb; clear u15_19; have u16_20 := (u16_19).call hb; clear u16_19; have u17_20 := (u17_19).call hb; clear u17_19; have u18_20 := (u18_19).call hb; clear u18_19; have u19_20 := ((Up.refl x19)).call hb; clear tk19; have tk20 := True.intro)
    | (go_at_call 13; have g := tk18; refine (os_any _ _).mono ?_; rintro e x19 ⟨rfl, hb⟩; have u0_19 := (u0_18).call hb; clear u0_18; have u1_19 := (u1_18).call hb; clear u1_18; have u2_19 := (u2_18).call hb; clear u2_18; have u3_19 := (u3_18).call hb; clear u3_18; have u4_19 := (u4_18).call hb; clear u4_18; have u5_19 := (u5_18).call hb; clear u5_18; have u6_19 := (u6_18).call hb; clear u6_18; have u7_19 := (u7_18).call hb; clear u7_18; have u8_19 := (u8_18).call hb; clear u8_18; have u9_19 := (u9_18).call hb; clear u9_18; have u10_19 := (u10_18).call hb; clear u10_18; have u11_19 := (u11_18).call hb; clear u11_18; have u12_19 := (u12_18).call hb; clear u12_18; have u13_19 := (u13_18).call hb; clear u13_18; have u14_19 := (u14_18).call hb; clear u14_18; have u15_19 := (u15_18).call hb; clear u15_18; have u16_19 := (u16_18).call hb; clear u16_18; have u17_19 := (u17_18).call hb; clear u17_18; have u18_19 := ((Up.refl x18)).call hb; clear tk18; have tk19 := True.intro)
    | (go_at_call 6; have g := tk17; refine (cmpLit_any (conses [] .nil) (conses [.num 1] .nil) (-1) (by kernel_rfl) (fun _ => True) (fun _ => True) _ _ _ (h14.below (u15_17).out) (h16.below ((Up.refl x17)).out)).mono ?_; rintro e x18 ⟨rfl, hb⟩; have u0_18 := (u0_17).call hb; clear u0_17; have u1_18 := (u1_17).call hb; clear u1_17; have u2_18 := (u2_17).call hb; clear u2_17; have u3_18 := (u3_17).call hb; clear u3_17; have u4_18 := (u4_17).call hb; clear u4_17; have u5_18 := (u5_17).call hb; clear u5_17; have u6_18 := (u6_17).call hb; clear u6_17; have u7_18 := (u7_17).call hb; clear u7_17; have u8_18 := (u8_17).call hb; clear u8_17; have u9_18 := (u9_17).call hb; clear u9_17; have u10_18 := (u10_17).call hb; clear u10_17; have u11_18 := (u11_17).call hb; clear u11_17; have u12_18 := (u12_17).call hb; clear u12_17; have u13_18 := (u13_17).call hb; clear u13_17; have u14_18 := (u14_17).call hb; clear u14_17; have u15_18 := (u15_17).call hb; clear u15_17; have u16_18 := (u16_17).call hb; clear u16_17; have u17_18 := ((Up.refl x17)).call hb; clear tk17; have tk18 := True.intro)
    | (go_at_call 12; have g := tk16; refine (ol_any [.num 1] (by simp) (fun _ => True) _ _ _ (lst_lit [.num 1] (bare_cons (num_bare _ (by omega) (by omega)) bare_nil) (new_block x16 _) rfl trivial)).mono ?_; rintro e x17 ⟨⟨v16, rfl, h16⟩, hb⟩; have u0_17 := (u0_16.alloc).call hb; clear u0_16; have u1_17 := (u1_16.alloc).call hb; clear u1_16; have u2_17 := (u2_16.alloc).call hb; clear u2_16; have u3_17 := (u3_16.alloc).call hb; clear u3_16; have u4_17 := (u4_16.alloc).call hb; clear u4_16; have u5_17 := (u5_16.alloc).call hb; clear u5_16; have u6_17 := (u6_16.alloc).call hb; clear u6_16; have u7_17 := (u7_16.alloc).call hb; clear u7_16; have u8_17 := (u8_16.alloc).call hb; clear u8_16; have u9_17 := (u9_16.alloc).call hb; clear u9_16; have u10_17 := (u10_16.alloc).call hb; clear u10_16; have u11_17 := (u11_16.alloc).call hb; clear u11_16; have u12_17 := (u12_16.alloc).call hb; clear u12_16; have u13_17 := (u13_16.alloc).call hb; clear u13_16; have u14_17 := (u14_16.alloc).call hb; clear u14_16; have u15_17 := (u15_16.alloc).call hb; clear u15_16; have u16_17 := ((Up.refl x16).alloc).call hb; clear tk16; have tk17 := True.intro)
    | (go_at_call 11; have g := tk15; refine (on_any 1 _).mono ?_; rintro e x16 ⟨rfl, hb⟩; have u0_16 := (u0_15).call hb; clear u0_15; have u1_16 := (u1_15).call hb; clear u1_15; have u2_16 := (u2_15).call hb; clear u2_15; have u3_16 := (u3_15).call hb; clear u3_15; have u4_16 := (u4_15).call hb; clear u4_15; have u5_16 := (u5_15).call hb; clear u5_15; have u6_16 := (u6_15).call hb; clear u6_15; have u7_16 := (u7_15).call hb; clear u7_15; have u8_16 := (u8_15).call hb; clear u8_15; have u9_16 := (u9_15).call hb; clear u9_15; have u10_16 := (u10_15).call hb; clear u10_15; have u11_16 := (u11_15).call hb; clear u11_15; have u12_16 := (u12_15).call hb; clear u12_15; have u13_16 := (u13_15).call hb; clear u13_15; have u14_16 := (u14_15).call hb; clear u14_15; have u15_16 := ((Up.refl x15)).call hb; clear tk15; have tk16 := True.intro)
    | (go_at_call 12; have g := tk14; refine (ol_any [] (by simp) (fun _ => True) _ _ _ (lst_nil _ _)).mono ?_; rintro e x15 ⟨⟨v14, rfl, h14⟩, hb⟩; have u0_15 := (u0_14).call hb; clear u0_14; have u1_15 := (u1_14).call hb; clear u1_14; have u2_15 := (u2_14).call hb; clear u2_14; have u3_15 := (u3_14).call hb; clear u3_14; have u4_15 := (u4_14).call hb; clear u4_14; have u5_15 := (u5_14).call hb; clear u5_14; have u6_15 := (u6_14).call hb; clear u6_14; have u7_15 := (u7_14).call hb; clear u7_14; have u8_15 := (u8_14).call hb; clear u8_14; have u9_15 := (u9_14).call hb; clear u9_14; have u10_15 := (u10_14).call hb; clear u10_14; have u11_15 := (u11_14).call hb; clear u11_14; have u12_15 := (u12_14).call hb; clear u12_14; have u13_15 := (u13_14).call hb; clear u13_14; have u14_15 := ((Up.refl x14)).call hb; clear tk14; have tk15 := True.intro)
    | (go_at_call 6; have g := tk13; refine (cmpLit_any (conses [.num 1, .num 2] .nil) (conses [.num 1, .num 3] .nil) (-1) (by kernel_rfl) (fun _ => True) (fun _ => True) _ _ _ (h9.below (u10_13).out) (h12.below ((Up.refl x13)).out)).mono ?_; rintro e x14 ⟨rfl, hb⟩; have u0_14 := (u0_13).call hb; clear u0_13; have u1_14 := (u1_13).call hb; clear u1_13; have u2_14 := (u2_13).call hb; clear u2_13; have u3_14 := (u3_13).call hb; clear u3_13; have u4_14 := (u4_13).call hb; clear u4_13; have u5_14 := (u5_13).call hb; clear u5_13; have u6_14 := (u6_13).call hb; clear u6_13; have u7_14 := (u7_13).call hb; clear u7_13; have u8_14 := (u8_13).call hb; clear u8_13; have u9_14 := (u9_13).call hb; clear u9_13; have u10_14 := (u10_13).call hb; clear u10_13; have u11_14 := (u11_13).call hb; clear u11_13; have u12_14 := (u12_13).call hb; clear u12_13; have u13_14 := ((Up.refl x13)).call hb; clear tk13; have tk14 := True.intro)
    | (go_at_call 12; have g := tk12; refine (ol_any [.num 1, .num 3] (by simp) (fun _ => True) _ _ _ (lst_lit [.num 1, .num 3] (bare_cons (num_bare _ (by omega) (by omega)) (bare_cons (num_bare _ (by omega) (by omega)) bare_nil)) (new_block x12 _) rfl trivial)).mono ?_; rintro e x13 ⟨⟨v12, rfl, h12⟩, hb⟩; have u0_13 := (u0_12.alloc).call hb; clear u0_12; have u1_13 := (u1_12.alloc).call hb; clear u1_12; have u2_13 := (u2_12.alloc).call hb; clear u2_12; have u3_13 := (u3_12.alloc).call hb; clear u3_12; have u4_13 := (u4_12.alloc).call hb; clear u4_12; have u5_13 := (u5_12.alloc).call hb; clear u5_12; have u6_13 := (u6_12.alloc).call hb; clear u6_12; have u7_13 := (u7_12.alloc).call hb; clear u7_12; have u8_13 := (u8_12.alloc).call hb; clear u8_12; have u9_13 := (u9_12.alloc).call hb; clear u9_12; have u10_13 := (u10_12.alloc).call hb; clear u10_12; have u11_13 := (u11_12.alloc).call hb; clear u11_12; have u12_13 := ((Up.refl x12).alloc).call hb; clear tk12; have tk13 := True.intro)
    | (go_at_call 11; have g := tk11; refine (on_any 3 _).mono ?_; rintro e x12 ⟨rfl, hb⟩; have u0_12 := (u0_11).call hb; clear u0_11; have u1_12 := (u1_11).call hb; clear u1_11; have u2_12 := (u2_11).call hb; clear u2_11; have u3_12 := (u3_11).call hb; clear u3_11; have u4_12 := (u4_11).call hb; clear u4_11; have u5_12 := (u5_11).call hb; clear u5_11; have u6_12 := (u6_11).call hb; clear u6_11; have u7_12 := (u7_11).call hb; clear u7_11; have u8_12 := (u8_11).call hb; clear u8_11; have u9_12 := (u9_11).call hb; clear u9_11; have u10_12 := (u10_11).call hb; clear u10_11; have u11_12 := ((Up.refl x11)).call hb; clear tk11; have tk12 := True.intro)
    | (go_at_call 11; have g := tk10; refine (on_any 1 _).mono ?_; rintro e x11 ⟨rfl, hb⟩; have u0_11 := (u0_10).call hb; clear u0_10; have u1_11 := (u1_10).call hb; clear u1_10; have u2_11 := (u2_10).call hb; clear u2_10; have u3_11 := (u3_10).call hb; clear u3_10; have u4_11 := (u4_10).call hb; clear u4_10; have u5_11 := (u5_10).call hb; clear u5_10; have u6_11 := (u6_10).call hb; clear u6_10; have u7_11 := (u7_10).call hb; clear u7_10; have u8_11 := (u8_10).call hb; clear u8_10; have u9_11 := (u9_10).call hb; clear u9_10; have u10_11 := ((Up.refl x10)).call hb; clear tk10; have tk11 := True.intro)
    | (go_at_call 12; have g := tk9; refine (ol_any [.num 1, .num 2] (by simp) (fun _ => True) _ _ _ (lst_lit [.num 1, .num 2] (bare_cons (num_bare _ (by omega) (by omega)) (bare_cons (num_bare _ (by omega) (by omega)) bare_nil)) (new_block x9 _) rfl trivial)).mono ?_; rintro e x10 ⟨⟨v9, rfl, h9⟩, hb⟩; have u0_10 := (u0_9.alloc).call hb; clear u0_9; have u1_10 := (u1_9.alloc).call hb; clear u1_9; have u2_10 := (u2_9.alloc).call hb; clear u2_9; have u3_10 := (u3_9.alloc).call hb; clear u3_9; have u4_10 := (u4_9.alloc).call hb; clear u4_9; have u5_10 := (u5_9.alloc).call hb; clear u5_9; have u6_10 := (u6_9.alloc).call hb; clear u6_9; have u7_10 := (u7_9.alloc).call hb; clear u7_9; have u8_10 := (u8_9.alloc).call hb; clear u8_9; have u9_10 := ((Up.refl x9).alloc).call hb; clear tk9; have tk10 := True.intro)
    | (go_at_call 11; have g := tk8; refine (on_any 2 _).mono ?_; rintro e x9 ⟨rfl, hb⟩; have u0_9 := (u0_8).call hb; clear u0_8; have u1_9 := (u1_8).call hb; clear u1_8; have u2_9 := (u2_8).call hb; clear u2_8; have u3_9 := (u3_8).call hb; clear u3_8; have u4_9 := (u4_8).call hb; clear u4_8; have u5_9 := (u5_8).call hb; clear u5_8; have u6_9 := (u6_8).call hb; clear u6_8; have u7_9 := (u7_8).call hb; clear u7_8; have u8_9 := ((Up.refl x8)).call hb; clear tk8; have tk9 := True.intro)
    | (go_at_call 11; have g := tk7; refine (on_any 1 _).mono ?_; rintro e x8 ⟨rfl, hb⟩; have u0_8 := (u0_7).call hb; clear u0_7; have u1_8 := (u1_7).call hb; clear u1_7; have u2_8 := (u2_7).call hb; clear u2_7; have u3_8 := (u3_7).call hb; clear u3_7; have u4_8 := (u4_7).call hb; clear u4_7; have u5_8 := (u5_7).call hb; clear u5_7; have u6_8 := (u6_7).call hb; clear u6_7; have u7_8 := ((Up.refl x7)).call hb; clear tk7; have tk8 := True.intro)
    | (go_at_call 6; have g := tk6; refine (cmpLit_any (.tup [.num 9]) (.tup [.num 1, .num 1]) (-1) (by kernel_rfl) (fun _ => True) (fun _ => True) _ _ _ (h2.below (u3_6).out) (h5.below ((Up.refl x6)).out)).mono ?_; rintro e x7 ⟨rfl, hb⟩; have u0_7 := (u0_6).call hb; clear u0_6; have u1_7 := (u1_6).call hb; clear u1_6; have u2_7 := (u2_6).call hb; clear u2_6; have u3_7 := (u3_6).call hb; clear u3_6; have u4_7 := (u4_6).call hb; clear u4_6; have u5_7 := (u5_6).call hb; clear u5_6; have u6_7 := ((Up.refl x6)).call hb; clear tk6; have tk7 := True.intro)
    | (go_at_call 10; have g := tk5; refine (tup_any _ _ _ _).mono ?_; rintro e x6 ⟨rfl, hb⟩; have u0_6 := (u0_5.alloc).call hb; clear u0_5; have u1_6 := (u1_5.alloc).call hb; clear u1_5; have u2_6 := (u2_5.alloc).call hb; clear u2_5; have u3_6 := (u3_5.alloc).call hb; clear u3_5; have u4_6 := (u4_5.alloc).call hb; clear u4_5; have u5_6 := ((Up.refl x5).alloc).call hb; have h5 : Is x6 (.tup [.num 1, .num 1]) (.agg #[.int .i64 7, .int .i64 0, .string ⟨#[]⟩, .slice (some ⟨x5.heap.size, 0, none⟩) 2 2]) := Lies.mk (l := [.num 1, .num 1]) (small_of (by omega) (by omega) (by omega) (by omega) size_empty) (lst_lit [.num 1, .num 1] (bare_cons (num_bare _ (by omega) (by omega)) (bare_cons (num_bare _ (by omega) (by omega)) bare_nil)) ((hb.block _ (by simp)).trans (new_block x5 _)) rfl trivial); clear tk5; have tk6 := True.intro)
    | (go_at_call 11; have g := tk4; refine (on_any 1 _).mono ?_; rintro e x5 ⟨rfl, hb⟩; have u0_5 := (u0_4).call hb; clear u0_4; have u1_5 := (u1_4).call hb; clear u1_4; have u2_5 := (u2_4).call hb; clear u2_4; have u3_5 := (u3_4).call hb; clear u3_4; have u4_5 := ((Up.refl x4)).call hb; clear tk4; have tk5 := True.intro)
    | (go_at_call 11; have g := tk3; refine (on_any 1 _).mono ?_; rintro e x4 ⟨rfl, hb⟩; have u0_4 := (u0_3).call hb; clear u0_3; have u1_4 := (u1_3).call hb; clear u1_3; have u2_4 := (u2_3).call hb; clear u2_3; have u3_4 := ((Up.refl x3)).call hb; clear tk3; have tk4 := True.intro)
    | (go_at_call 10; have g := tk2; refine (tup_any _ _ _ _).mono ?_; rintro e x3 ⟨rfl, hb⟩; have u0_3 := (u0_2.alloc).call hb; clear u0_2; have u1_3 := (u1_2.alloc).call hb; clear u1_2; have u2_3 := ((Up.refl x2).alloc).call hb; have h2 : Is x3 (.tup [.num 9]) (.agg #[.int .i64 7, .int .i64 0, .string ⟨#[]⟩, .slice (some ⟨x2.heap.size, 0, none⟩) 1 1]) := Lies.mk (l := [.num 9]) (small_of (by omega) (by omega) (by omega) (by omega) size_empty) (lst_lit [.num 9] (bare_cons (num_bare _ (by omega) (by omega)) bare_nil) ((hb.block _ (by simp)).trans (new_block x2 _)) rfl trivial); clear tk2; have tk3 := True.intro)
    | (go_at_call 11; have g := tk1; refine (on_any 9 _).mono ?_; rintro e x2 ⟨rfl, hb⟩; have u0_2 := (u0_1).call hb; clear u0_1; have u1_2 := ((Up.refl x1)).call hb; clear tk1; have tk2 := True.intro)
    | (go_at_call 9; have g := tk0; refine (awake_any _).mono ?_; rintro e x1 ⟨rfl, hb⟩; have u0_1 := ((Up.refl x0)).call hb; clear tk0; have tk1 := True.intro))
  go_ret
  exact ⟨rfl, u0_52.out⟩

end Go.Proofs.YtabcekeeekbdiaaDoor
