/-
  Package order's sorted, detach, Sort and Unique.
-/
import Derived.Test.YtabcekeeekbdiaaOrdCpt
import Derived.Test.YtabcekeeekbdiaaTermMore
import Derived.Test.YtabcekeeekbdiaaOrdMath2
namespace Go.Proofs.Ytabcekeeekbdiaa
open Go.RowKit Go.Deep

theorem sortnone_any (w : World) : Calls Try.prog 49 #[.slice none 0 0, cmpV] w fun e w' => e = .returned (.tuple #[]) ∧ w = w' := by
  have h1 : Calls Try.prog 57 #[.slice none 0 0, .int .i64 0, .int .i64 0, cmpV] w fun e w' => e = .returned (.tuple #[]) ∧ w = w' := by
    go_enter Try.func57, Try.ntmps57
    go_wp2
    go_loopw [8] (fun ii wr => ii = .int .i64 1 ∧ w = wr) (fun _ _ => 0)
    case atStart => exact ⟨rfl, rfl⟩
    case round =>
      obtain ⟨rfl, rfl⟩ := hrel
      go_wp2
      exact bodyPost_end (results_none rfl _ _ _) rfl ⟨rfl, rfl⟩
  have h2 : Calls Try.prog 55 #[.slice none 0 0, .int .i64 0, cmpV] w fun e w' => e = .returned (.tuple #[]) ∧ w = w' := by
    have h1 := Hid.mk h1
    go_enter Try.func55, Try.ntmps55
    go_wp2
    go_loopw [7, 8] (fun aa bb wr => aa = .int .i64 0 ∧ bb = .int .i64 20 ∧ w = wr) (fun _ _ _ => 0)
    case atStart => exact ⟨rfl, rfl, rfl⟩
    case round =>
      obtain ⟨rfl, rfl, rfl⟩ := hrel
      go_wp2_with (go_at_call 57; refine h1.out.mono ?_; rintro e w2 ⟨rfl, rfl⟩)
      go_loopw [6] (fun ss wr => ss = .int .i64 20 ∧ w = wr) (fun _ _ => 0)
      case atStart => exact ⟨rfl, rfl⟩
      case round =>
        obtain ⟨rfl, rfl⟩ := hrel
        go_wp2
        exact bodyPost_end (results_none rfl _ _ _) rfl ⟨rfl, rfl⟩
  have h2 := Hid.mk h2
  clear h1
  go_enter Try.func49, Try.ntmps49
  go_wp2_with (go_at_call 55; refine h2.out.mono ?_; rintro e w2 ⟨rfl, rfl⟩)
  exact bodyPost_end (results_none rfl _ _ _) rfl ⟨rfl, rfl⟩

theorem rw_new {w w3 : World} {S : Nat → Prop} {l : List Tm} {g : Nat} {cur : Array Value} {xs : List Value} (hbg : w.heap.size ≤ g) (hb3 : Up w w3) (hgg : w3.heap[g]? = some (.cells cur 24 (0, 0))) (hcs : l.length * 4 ≤ cur.size) (hcu : ∀ (j : Nat) (u : Value), xs[j]? = some u → cur[j]? = some u)
    (hxl : ∀ i (hi : i < l.length), ∃ v0 v1 v2 v3, xs[i * 4]? = some v0 ∧ xs[i * 4 + 1]? = some v1 ∧ xs[i * 4 + 2]? = some v2 ∧ xs[i * 4 + 3]? = some v3 ∧ Lies w S l[i] (.agg #[v0, v1, v2, v3])) : Rw w S g l w3 :=
  ⟨hbg, hb3, cur, hgg, hcs, fun i hi => by
    obtain ⟨v0, v1, v2, v3, e0, e1, e2, e3, hLi⟩ := hxl i hi
    obtain ⟨k, n, s, a, m, c, hv⟩ := hLi.agg
    simp only [Value.agg.injEq, Array.mk.injEq, List.cons.injEq, and_true] at hv
    obtain ⟨rfl, rfl, rfl, rfl⟩ := hv
    exact ⟨k, n, s, a, m, c, hLi, hcu _ _ e0, hcu _ _ e1, hcu _ _ e2, hcu _ _ e3⟩⟩

/-- A new list of a call: its row and its terms lie in memory that wasn't there before. -/
structure NewL (w : World) (l : List Tm) (a : Option Addr) (cap : Nat) (w' : World) : Prop where
  lst : Lst w' (fun b => w.heap.size ≤ b) l a cap
  row : 0 < l.length → ∃ g cur, a = some ⟨g, 0, none⟩ ∧ w.heap.size ≤ g ∧ w'.heap[g]? = some (.cells cur 24 (0, 0)) ∧ l.length * 4 ≤ cur.size

/-- What is sorted stands in a row of its own. -/
def SortedRow (w : World) (S : Nat → Prop) (l : List Tm) (a' : Option Addr) (cap' : Nat) (w' : World) : Prop :=
  (l.length = 0 ∧ a' = none ∧ cap' = 0) ∨ ∃ g, a' = some ⟨g, 0, none⟩ ∧ 0 < l.length ∧ l.length ≤ cap' ∧ cap' ≤ 9223372036854775807 ∧ Rw w (fun b => S b ∧ b < w.heap.size) g (sortT l) w'

set_option maxHeartbeats 1000000 in
theorem sorted_any (l : List Tm) (hlen : l.length ≤ 1000000) (S : Nat → Prop) (a : Option Addr) (cap : Nat) (w : World) (hl0 : Lst w S l a cap) :
    Calls Try.prog 37 #[.slice a l.length cap] w fun e w' => (∃ a' cap', e = .returned (.slice a' l.length cap') ∧ SortedRow w S l a' cap' w') ∧ Up w w' := by
  have hl := Hid.mk hl0.inside
  obtain ⟨i0, hi0, hz0, hz1, hby⟩ := info_at termInfo
  have hcap := hl0.2.1
  have hnil : w.ownsRow w.heap.size 24 4 (.slice none 0 0) 0 [] := World.ownsRow_nil _ _ _ _
  by_cases h0 : l.length = 0
  · have hln : l = [] := List.eq_nil_of_length_eq_zero h0
    subst hln
    rcases hl0.2.2 with ⟨rfl, _, hc⟩ | ⟨p, rfl, _, _⟩
    · subst hc
      clear hl0 hl
      go_enter Try.func37, Try.ntmps37
      go_wp2_with (first
        | (at_builtin; refine wpList_append_own_none rfl _ _ 22 rfl w.heap.size 24 i0 4 Try.underlying22 hi0 _ 0 [] rfl hnil rfl ?_)
        | (go_at_call 49; refine (sortnone_any _).mono ?_; rintro e w2 ⟨rfl, rfl⟩))
      go_ret
      exact ⟨⟨none, 0, rfl, Or.inl ⟨rfl, rfl, rfl⟩⟩, Up.refl _⟩
    · clear hl0 hl
      go_enter Try.func37, Try.ntmps37
      go_wp2_with (first
        | (at_builtin; refine wpList_append_own_at _ rfl _ _ 22 rfl w.heap.size 24 i0 _ 4 56 Try.underlying22 hi0 hz0 hz1 hby rfl (by decide) _ 0 [] rfl hnil p 0 cap [] rfl rfl (fun j u hu => by simp at hu) (fun u hu => by cases hu) (by unfold maxLen; omega) (by omega) (Nat.le_refl _) ?_; intro v' w3 hown' hgrow hiff hat; obtain rfl := hiff.2 ⟨rfl, rfl⟩; have hb3 : Up w w3 := (Up.refl w).out.grown hgrow (Nat.le_refl _) (fun k hk => by cases hk))
        | (go_at_call 49; refine (sortnone_any _).mono ?_; rintro e w2 ⟨rfl, rfl⟩))
      go_ret
      exact ⟨⟨none, 0, rfl, Or.inl ⟨rfl, rfl, rfl⟩⟩, hb3⟩
  · obtain ⟨b, o, rfl, hSb, hrow⟩ := hl.out.some (by omega)
    obtain ⟨xs, hx, hxc, hx1, hxl⟩ := hrow.list
    obtain ⟨L, hL⟩ : ∃ L, l.length = L := ⟨_, rfl⟩
    rw [hL] at hx hlen h0 ⊢
    have hxc' : ∀ j u, xs[j]? = some u → w.cell? ((⟨b, o, none⟩ : Addr).add j) = some u := fun j u hu => by
      rw [WideShapes.add_plain]
      exact hxc j u hu
    have hxc' := Hid.mk hxc'
    have hxl := Hid.mk hxl
    have hLh := Hid.mk hL
    have hx1 := Hid.mk hx1
    clear hl0 hl hrow hxc hL
    go_enter Try.func37, Try.ntmps37
    go_wp2_with (first
      | (at_builtin; refine wpList_append_own_at _ rfl _ _ 22 rfl w.heap.size 24 i0 _ 4 56 Try.underlying22 hi0 hz0 hz1 hby rfl (by decide) _ 0 [] rfl hnil ⟨b, o, none⟩ L cap xs rfl hx hxc'.out hx1.out (by unfold maxLen; omega) (by omega) (Nat.le_refl _) ?_; intro v' w3 hown' hgrow hiff hat; have hb3 : Up w w3 := (Up.refl w).out.grown hgrow (Nat.le_refl _) (fun k hk => by cases hk); obtain ⟨g, cap', cur, rfl, hbg, hgg, hcc, hcm, hcs, hcu⟩ := owns_some hown' (by omega); simp only [Nat.zero_add, List.nil_append] at hcc hcs hcu; have hrw := Hid.mk (rw_new (w := w) (S := fun b => S b ∧ b < w.heap.size) hbg hb3 hgg (by rw [hLh.out]; exact hcs) hcu hxl.out); clear hown' hgrow hiff hat hcu hcs hgg)
      | (go_at_call 49; refine (sortstable_any w (fun b => S b ∧ b < w.heap.size) g cap' L l hLh.out (by omega) hlen _ hrw.out).mono ?_; rintro e w2 ⟨rfl, h2⟩))
    go_ret
    exact ⟨⟨some ⟨g, 0, none⟩, cap', by simp, Or.inr ⟨g, rfl, by rw [hLh.out]; omega, by rw [hLh.out]; exact hcc, hcm, h2⟩⟩, h2.up⟩

/-- The row's first i terms have memory of their own. -/
structure Dt (w0 : World) (S : Nat → Prop) (g N : Nat) (l : List Tm) (i : Nat) (w : World) : Prop where
  new : w0.heap.size ≤ g
  gN : g < N
  Nw : N ≤ w.heap.size
  N0 : w0.heap.size ≤ N
  up : Up w0 w
  row : ∃ cur : Array Value, w.heap[g]? = some (.cells cur 24 (0, 0)) ∧ l.length * 4 ≤ cur.size ∧
    ∀ q (hq : q < l.length), ∃ k n s a m cap, (if q < i then Lies w (fun b => N ≤ b) l[q] (.agg #[.int .i64 k, .int .i64 n, .string s, .slice a m cap]) else Lies w0 S l[q] (.agg #[.int .i64 k, .int .i64 n, .string s, .slice a m cap])) ∧
      cur[q * 4]? = some (.int .i64 k) ∧ cur[q * 4 + 1]? = some (.int .i64 n) ∧ cur[q * 4 + 2]? = some (.string s) ∧ cur[q * 4 + 3]? = some (.slice a m cap)
section
variable {w0 w w2 : World} {S : Nat → Prop} {g N i : Nat} {l : List Tm}
theorem Dt.start (h : Rw w0 S g l w) : Dt w0 S g w.heap.size l 0 w := by
  obtain ⟨cur, hc, hs, hx⟩ := h.row
  refine ⟨h.new, h.lt, Nat.le_refl _, h.up.out.size, h.up, cur, hc, hs, fun q hq => ?_⟩
  obtain ⟨k, n, s, a, m, cap, hL, hcs⟩ := hx q hq
  exact ⟨k, n, s, a, m, cap, by rw [if_neg (by omega)]; exact hL, hcs⟩
theorem Dt.step (h : Dt w0 S g N l i w) (hi : i < l.length) (hu : Up w w2) {k n : Int} {s : ByteArray} {a : Option Addr} {m cap : Nat} (ht : Lies w2 (fun b => w.heap.size ≤ b) l[i] (.agg #[.int .i64 k, .int .i64 n, .string s, .slice a m cap])) :
    Dt w0 S g N l (i + 1) (put4 w2 g (i * 4) (.int .i64 k) (.int .i64 n) (.string s) (.slice a m cap)) := by
  obtain ⟨cur, hc, hs, hx⟩ := h.row
  have hc2 := (hu.out.block _ (Array.getElem?_eq_some_iff.1 hc).1).trans hc
  have hsz := hu.out.size
  have hN := h.Nw
  have hg := h.gN
  have mv : ∀ {S' : Nat → Prop} {t : Tm} {v : Value}, (∀ b, S' b → b ≠ g) → Lies w2 S' t v → Lies (put4 w2 g (i * 4) (.int .i64 k) (.int .i64 n) (.string s) (.slice a m cap)) S' t v := fun hS hL =>
    hL.move (fun _ h => h) (fun b o v hb hcl => (World.cell?_of_block (w := w2) (a := ⟨b, o, none⟩) (put4_heap _ _ _ _ _ _ _ _ (hS b hb))).trans hcl) _ _
  refine ⟨h.new, h.gN, by rw [put4_size]; omega, h.N0, Below.put4 (h.up.call hu.out).out h.new, _, put4_block hc2, ?_, fun q hq => ?_⟩
  · simp only [Array.size_setIfInBounds]; exact hs
  · by_cases hqi : q = i
    · subst hqi
      refine ⟨k, n, s, a, m, cap, ?_, ?_, ?_, ?_, ?_⟩
      · rw [if_pos (by omega)]
        exact (mv (fun b hb => by omega) ht).wider (fun b hb => by omega)
      all_goals (simp only [Array.getElem?_setIfInBounds, Array.size_setIfInBounds]; simp; omega)
    · obtain ⟨k', n', s', a', m', cap', hL, c0, c1, c2, c3⟩ := hx q hq
      refine ⟨k', n', s', a', m', cap', ?_, ?_, ?_, ?_, ?_⟩
      · by_cases hlt : q < i
        · rw [if_pos hlt] at hL
          rw [if_pos (by omega)]
          exact mv (fun b hb => by omega) (hL.below hu.out)
        · rw [if_neg hlt] at hL
          rw [if_neg (by omega)]
          exact hL
      all_goals
        simp only [Array.getElem?_setIfInBounds, Array.size_setIfInBounds]
        rw [if_neg (by omega), if_neg (by omega), if_neg (by omega), if_neg (by omega)]
        assumption
theorem Dt.at (h : Dt w0 S g N l i w) (hi : i < l.length) : ∃ cur k n s a m cap, Lies w S l[i] (.agg #[.int .i64 k, .int .i64 n, .string s, .slice a m cap]) ∧ w.heap[g]? = some (.cells cur 24 (0, 0)) ∧ i * 4 + 3 < cur.size ∧
    cur[i * 4]? = some (.int .i64 k) ∧ cur[i * 4 + 1]? = some (.int .i64 n) ∧ cur[i * 4 + 2]? = some (.string s) ∧ cur[i * 4 + 3]? = some (.slice a m cap) := by
  obtain ⟨cur, hc, hs, hx⟩ := h.row
  obtain ⟨k, n, s, a, m, cap, hL, c0, c1, c2, c3⟩ := hx i hi
  rw [if_neg (by omega)] at hL
  exact ⟨cur, k, n, s, a, m, cap, hL.below h.up.out, hc, by omega, c0, c1, c2, c3⟩
theorem Dt.done (h : Dt w0 S g N l l.length w) (cap : Nat) (h1 : l.length ≤ cap) (h2 : cap ≤ 9223372036854775807) : NewL w0 l (some ⟨g, 0, none⟩) cap w := by
  obtain ⟨cur, hc, hs, hx⟩ := h.row
  have hcell : ∀ j, w.cell? ⟨g, 0 + j, none⟩ = _ := fun j => cell_of_row w g (0 + j) cur 24 (0, 0) hc
  simp only [Nat.zero_add] at hcell
  refine ⟨⟨h1, h2, Or.inr ⟨_, rfl, fun _ => ⟨h.new, rfl⟩, Row.of fun q hq => ?_⟩⟩, fun _ => ⟨g, cur, rfl, h.new, hc, hs⟩⟩
  obtain ⟨k, n, s, a, m, c, hL, c0, c1, c2, c3⟩ := hx q hq
  rw [if_pos hq] at hL
  rw [Nat.zero_add]
  have := h.N0
  exact ⟨_, _, _, _, (hcell _).trans c0, (hcell _).trans c1, (hcell _).trans c2, (hcell _).trans c3, hL.wider (fun b hb => by omega)⟩
end

set_option maxHeartbeats 1000000 in
theorem detachR_any (w0 : World) (S : Nat → Prop) (g cap L : Nat) (l : List Tm) (hl : l.length = L) (hlen : L ≤ 1000000) (hcap : L ≤ cap) (hcap2 : cap ≤ 9223372036854775807) (hsz : ∀ t ∈ l, t.size ≤ 1000000 ∧ t.Short) (w : World) (h : Rw w0 S g l w) :
    Calls Try.prog 36 #[.slice (some ⟨g, 0, none⟩) L cap] w fun e w' => e = .returned (.slice (some ⟨g, 0, none⟩) L cap) ∧ NewL w0 l (some ⟨g, 0, none⟩) cap w' ∧ Up w0 w' := by
  have h0 := Hid.mk (Dt.start h)
  have hll := Hid.mk hl
  have hsz := Hid.mk hsz
  obtain ⟨N, hN⟩ : ∃ N, w.heap.size = N := ⟨_, rfl⟩
  rw [hN] at h0
  clear h hl hN
  go_enter Try.func36, Try.ntmps36
  go_wp2
  go_loopw [6] (fun ii wr => ∃ i : Nat, i ≤ L ∧ ii = .int .i64 i ∧ Hid (Dt w0 S g N l i wr)) (fun ii _ => L - (intOf ii).toNat)
  case atStart => exact ⟨0, Nat.zero_le _, rfl, h0⟩
  case round =>
    clear h0
    obtain ⟨i, hi, rfl, hD⟩ := hrel
    by_cases hlt : i < L
    · have hil : i < l.length := by have := hll.out; omega
      obtain ⟨cur, k, n, s, a, m, c, hL, hc, hcs, c0, c1, c2, c3⟩ := hD.out.at hil
      have hcl : ∀ j, wr.cell? ⟨g, j, none⟩ = cur[j]? := fun j => cell_of_row wr g j cur _ (0, 0) hc
      have e0 := (hcl _).trans c0
      have e1 := (hcl _).trans c1
      have e2 := (hcl _).trans c2
      have e3 := (hcl _).trans c3
      have hss := hsz.out l[i] (List.getElem_mem hil)
      have hcopy := Hid.mk (copyC_any l[i] hss.1 hss.2 S _ wr hL)
      have hstep := Hid.mk (fun (w2 : World) (hu : Up wr w2) (k n : Int) (s : ByteArray) (a : Option Addr) (m cap : Nat) ht => hD.out.step (w2 := w2) hil hu (k := k) (n := n) (s := s) (a := a) (m := m) (cap := cap) ht)
      have hfc := Hid.mk (fun (w2 : World) (hu : Up wr w2) => (⟨cell_below hu.out _ _ _ e0, cell_below hu.out _ _ _ e1, cell_below hu.out _ _ _ e2, cell_below hu.out _ _ _ e3, (by
        have hc2 := (hu.out.block _ (Array.getElem?_eq_some_iff.1 hc).1).trans hc
        exact fun o => by simp [World.frozen?, hc2] : ∀ o, w2.frozen? ⟨g, o, none⟩ = false)⟩ : _ ∧ _ ∧ _ ∧ _ ∧ _))
      clear hss hcl c0 c1 c2 c3 hL hc
      go_wp2_with (go_at_call 48; refine hcopy.out.mono ?_; rintro e w2 ⟨⟨v, rfl, hLv⟩, hb2⟩; obtain ⟨k7, n7, s7, a7, m7, c7, hv7⟩ := hLv.agg; subst hv7; have hst := Hid.mk (hstep.out w2 hb2 _ _ _ _ _ _ hLv); obtain ⟨e0, e1, e2, e3, hf⟩ := hfc.out w2 hb2; have f0 := hf (i * 4); have f1 := hf (i * 4 + 1); have f2 := hf (i * 4 + 2); have f3 := hf (i * 4 + 3); clear hf hLv)
      go_roundw
      case rel => exact ⟨i + 1, hlt, by go_num, hst⟩
      case measure => simp [intOf]; omega
    · obtain rfl : i = L := by omega
      go_wp2
      go_ret
      have hD := hD.out
      have hll := hll.out
      rw [← hll] at hD hcap ⊢
      exact ⟨rfl, hD.done cap hcap hcap2, hD.up⟩
theorem detachN_any (w : World) : Calls Try.prog 36 #[.slice none 0 0] w fun e w' => e = .returned (.slice none 0 0) ∧ w = w' := by
  go_enter Try.func36, Try.ntmps36
  go_wp2
  go_loopw [6] (fun ii wr => ii = .int .i64 0 ∧ w = wr) (fun _ _ => 0)
  case atStart => exact ⟨rfl, rfl⟩
  case round =>
    obtain ⟨rfl, rfl⟩ := hrel
    go_wp2
    go_ret
    exact ⟨rfl, rfl⟩
theorem compactN_any (w : World) : Calls Try.prog 38 #[.slice none 0 0, alikeV] w fun e w' => e = .returned (.slice none 0 0) ∧ w = w' := by
  go_enter Try.func38, Try.ntmps38
  go_wp2
  go_ret
  exact ⟨rfl, rfl⟩

theorem newL_nil (w w' : World) : NewL w [] none 0 w' := ⟨lst_nil _ _, fun h => by cases h⟩
theorem sort_any (l : List Tm) (hlen : l.length ≤ 1000000) (hsz : ∀ t ∈ l, t.size ≤ 1000000 ∧ t.Short) (S : Nat → Prop) (a : Option Addr) (cap : Nat) (w : World) (hl0 : Lst w S l a cap) :
    Calls Try.prog 15 #[.slice a l.length cap] w fun e w' => (∃ a' cap', e = .returned (.slice a' (sortT l).length cap') ∧ NewL w (sortT l) a' cap' w') ∧ Up w w' := by
  have hl := Hid.mk (sorted_any l hlen S a cap w hl0)
  have hsz := Hid.mk hsz
  obtain ⟨L, hL⟩ : ∃ L, l.length = L := ⟨_, rfl⟩
  rw [hL] at hl hlen ⊢
  have hLh := Hid.mk hL
  have hSl := Hid.mk (sortT_length l)
  clear hl0 hL
  go_enter Try.func15, Try.ntmps15
  go_wp2_with (go_at_call 37; refine hl.out.mono ?_; rintro e w2 ⟨⟨a', cap', rfl, hr⟩, hu⟩; have hr := Hid.mk hr)
  rcases hr.out with ⟨h0, rfl, rfl⟩ | ⟨g, rfl, h0, hc1, hc2, hrw⟩
  · obtain rfl : L = 0 := by have := hLh.out; omega
    have hln : l = [] := List.eq_nil_of_length_eq_zero h0
    subst hln
    refine (detachN_any _).mono ?_
    rintro e w3 ⟨rfl, rfl⟩
    go_wp2
    go_ret
    exact ⟨⟨none, 0, rfl, newL_nil _ _⟩, hu⟩
  · have hd := detachR_any w (fun b => S b ∧ b < w.heap.size) g cap' L (sortT l) (by rw [hSl.out, hLh.out]) hlen (by have := hLh.out; omega) hc2 (fun t ht => hsz.out t (sortT_mem.1 ht)) _ hrw
    refine hd.mono ?_
    rintro e w3 ⟨rfl, hn, hu3⟩
    have hn := Hid.mk hn
    go_wp2
    go_ret
    exact ⟨⟨some ⟨g, 0, none⟩, cap', by rw [hSl.out, hLh.out]; rfl, hn.out⟩, hu3⟩
theorem uniqT_mem {l : List Tm} (h : Sorted l) {x : Tm} (hx : x ∈ uniqT l) : x ∈ l := (uniqG_rising l none h (fun q hq => by cases hq)).2.2.1 x hx
theorem unique_any (l : List Tm) (hlen : l.length ≤ 1000000) (hsz : ∀ t ∈ l, t.size ≤ 1000000 ∧ t.Short) (S : Nat → Prop) (a : Option Addr) (cap : Nat) (w : World) (hl0 : Lst w S l a cap) :
    Calls Try.prog 16 #[.slice a l.length cap] w fun e w' => (∃ a' cap', e = .returned (.slice a' (uniqT (sortT l)).length cap') ∧ NewL w (uniqT (sortT l)) a' cap' w') ∧ Up w w' := by
  have hl := Hid.mk (sorted_any l hlen S a cap w hl0)
  have hsz := Hid.mk hsz
  obtain ⟨L, hL⟩ : ∃ L, l.length = L := ⟨_, rfl⟩
  rw [hL] at hl hlen ⊢
  have hLh := Hid.mk hL
  have hSl := Hid.mk (sortT_length l)
  have hUl := Hid.mk (uniqT_length (sortT l))
  clear hl0 hL
  go_enter Try.func16, Try.ntmps16
  go_wp2_with (go_at_call 37; refine hl.out.mono ?_; rintro e w2 ⟨⟨a', cap', rfl, hr⟩, hu⟩; have hr := Hid.mk hr)
  rcases hr.out with ⟨h0, rfl, rfl⟩ | ⟨g, rfl, h0, hc1, hc2, hrw⟩
  · obtain rfl : L = 0 := by have := hLh.out; omega
    have hln : l = [] := List.eq_nil_of_length_eq_zero h0
    subst hln
    refine (compactN_any _).mono ?_
    rintro e w3 ⟨rfl, rfl⟩
    go_wp2_with (go_at_call 36; refine (detachN_any _).mono ?_; rintro e w4 ⟨rfl, rfl⟩)
    go_ret
    exact ⟨⟨none, 0, rfl, newL_nil _ _⟩, hu⟩
  · have hcm := compact_any w (fun b => S b ∧ b < w.heap.size) g cap' L (sortT l) (by rw [hSl.out, hLh.out]) (by have := hLh.out; omega) hc2 hlen _ hrw
    refine hcm.mono ?_
    rintro e w3 ⟨rfl, hrw3⟩
    have hd := Hid.mk (detachR_any w (fun b => S b ∧ b < w.heap.size) g cap' _ (uniqT (sortT l)) rfl (by have := hSl.out; have := hUl.out; have := hLh.out; omega) (by have := hSl.out; have := hUl.out; omega) hc2 (fun t ht => hsz.out t (sortT_mem.1 (uniqT_mem (sortT_sorted l) ht))) _ hrw3)
    go_wp2_with (go_at_call 36; refine hd.out.mono ?_; rintro e w4 ⟨rfl, hn, hu3⟩; have hn := Hid.mk hn)
    go_ret
    exact ⟨⟨some ⟨g, 0, none⟩, cap', rfl, hn.out⟩, hu3⟩

end Go.Proofs.Ytabcekeeekbdiaa
