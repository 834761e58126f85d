/-
  The program's reader: Read.
-/
import Derived.Test.YtnbekfpkmebmbaaGreatDoorZTextRf
import Derived.Defers
import Derived.Recover
import Derived.Laws.Pointers
import Derived.Test.YtnbekfpkmebmbaaGreatDoorZTextW5
import Derived.Test.YtnbekfpkmebmbaaGreatDoorZTermMore
import Derived.KernelRfl
namespace Go.Proofs.YtnbekfpkmebmbaaGreatDoor
open Go.RowKit Go.Deep

set_option maxRecDepth 100000 in
set_option maxHeartbeats 1000000 in
theorem catch_panicking (t e : Nat) (n : Int) (w : World) (ht : w.heap[t]? = some zeroTerm) (he : w.heap[e]? = some (.cells #[.int .i64 0] 25)) (hne : e ≠ t) :
    CallsD Tryz.prog 8 #[.pointer (some ⟨t, 0, none⟩), .pointer (some ⟨e, 0, none⟩)] (.panicking [{ v := .iface 31 (.int .i64 n), recovered := false }]) w fun x u' w' =>
      x = .returned (.tuple #[]) ∧ u' = .panicking [{ v := .iface 31 (.int .i64 n), recovered := true }] ∧ w'.heap[t]? = some zeroTerm ∧ w'.heap[e]? = some (.cells #[.int .i64 n] 25) ∧ ∀ B, B ≤ t → B ≤ e → Below B w w' := by
  refine callsD_of_wpS Tryz.func8 rfl fun c₀ cs hu => ?_
  have t0 : w.cell? ⟨t, 0, none⟩ = some (.int .i64 0) ∧ w.cell? ⟨t, 1, none⟩ = some (.int .i64 0) ∧ w.cell? ⟨t, 2, none⟩ = some (.string ⟨#[]⟩) ∧ w.cell? ⟨t, 3, none⟩ = some (.slice none 0 0) := by
    unfold zeroTerm at ht
    simp [World.cell?, ht]
  have tf : w.frozen? ⟨t, 0, none⟩ = false ∧ w.frozen? ⟨t, 1, none⟩ = false ∧ w.frozen? ⟨t, 2, none⟩ = false ∧ w.frozen? ⟨t, 3, none⟩ = false := by
    unfold zeroTerm at ht
    simp [World.frozen?, ht]
  have e0 : w.cell? ⟨e, 0, none⟩ = some (.int .i64 0) := by simp [World.cell?, he]
  have ef : w.frozen? ⟨e, 0, none⟩ = false := by simp [World.frozen?, he]
  obtain ⟨t0, t1, t2, t3⟩ := t0
  obtain ⟨tf0, tf1, tf2, tf3⟩ := tf
  have Ht := Hid.mk ht
  have He := Hid.mk he
  clear ht he
  have hta : ∀ w : World, (Instr.typeAssert (.iface 31 (.int .i64 n)) 20 31 true).run Tryz.prog w = .ok (.tuple #[.int .i64 n, .bool true]) w := fun w => by kernel_rfl
  rw [show ((#[Value.pointer (some ⟨t, 0, none⟩), Value.pointer (some ⟨e, 0, none⟩)] : Array Value) ++ Array.replicate (Tryz.f8.ntmps - (#[Value.pointer (some ⟨t, 0, none⟩), Value.pointer (some ⟨e, 0, none⟩)] : Array Value).size) undef) = #[Value.pointer (some ⟨t, 0, none⟩), Value.pointer (some ⟨e, 0, none⟩), undef, undef, undef, undef, undef, undef, undef, undef, undef, undef, undef] from by kernel_rfl]
  apply wpS_seq
  apply wpS_region
  simp [wpOpsS, go_sem, recoverD, hu, Exit.thenS]
  refine wpS_of_wp ?_
  have hne' : ¬ e = t := hne
  have hne'' : ¬ t = e := fun h => hne h.symm
  go_wp2
  simp [bodyPostS, results, Tryz.results8]
  refine ⟨(Below.heap_setCell _ _ _ _ hne'').trans (set4_block Ht.out), set1_block ((set4_heap w t _ _ _ _ e hne').trans He.out), fun B h1 h2 => ?_⟩
  exact (((((Below.refl B w).setCell h1 _).setCell h1 _).setCell h1 _).setCell h1 _).setCell h2 _

theorem catch_idle (t e : Nat) (w : World) :
    CallsD Tryz.prog 8 #[.pointer (some ⟨t, 0, none⟩), .pointer (some ⟨e, 0, none⟩)] .returning w fun x u' w' => x = .returned (.tuple #[]) ∧ u' = .returning ∧ w' = w := by
  refine callsD_of_wpS Tryz.func8 rfl fun c₀ cs hu => ?_
  rw [show ((#[Value.pointer (some ⟨t, 0, none⟩), Value.pointer (some ⟨e, 0, none⟩)] : Array Value) ++ Array.replicate (Tryz.f8.ntmps - (#[Value.pointer (some ⟨t, 0, none⟩), Value.pointer (some ⟨e, 0, none⟩)] : Array Value).size) undef) = #[Value.pointer (some ⟨t, 0, none⟩), Value.pointer (some ⟨e, 0, none⟩), undef, undef, undef, undef, undef, undef, undef, undef, undef, undef, undef] from by kernel_rfl]
  apply wpS_seq
  apply wpS_region
  simp [wpOpsS, go_sem, recoverD, hu, Exit.thenS]
  refine wpS_of_wp ?_
  go_wp2
  simp [bodyPostS, results, Tryz.results8]
  cases c₀
  simp_all

theorem box1 {w : World} {b : Nat} {v : Value} {t : TypeId} (h : w.heap[b]? = some (.cells #[v] t)) : w.cell? ⟨b, 0, none⟩ = some v ∧ w.frozen? ⟨b, 0, none⟩ = false := by simp [World.cell?, World.frozen?, h]

theorem read_boxes {w : World} {t : Nat} {tT tE : TypeId} {u0 u1 u2 u3 uE : Value} (v0 v1 v2 v3 : Value) (ht : w.heap[t]? = some (.cells #[u0, u1, u2, u3] tT)) (he : w.heap[t + 1]? = some (.cells #[uE] tE)) :
    ∃ W5, (((((w.setCell ⟨t, 0, none⟩ v0).setCell ⟨t, 1, none⟩ v1).setCell ⟨t, 2, none⟩ v2).setCell ⟨t, 3, none⟩ v3).setCell ⟨t + 1, 0, none⟩ (.int .i64 0)) = W5 ∧ W5.heap[t]? = some (.cells #[v0, v1, v2, v3] tT) ∧ W5.heap[t + 1]? = some (.cells #[.int .i64 0] tE) ∧ Below t w W5 ∧
      ∀ b o v, b ≠ t → b ≠ t + 1 → w.cell? ⟨b, o, none⟩ = some v → W5.cell? ⟨b, o, none⟩ = some v := by
  refine ⟨_, rfl, (Below.heap_setCell _ _ _ _ (show t ≠ t + 1 by omega)).trans (set4_block ht), set1_block ((set4_heap w t v0 v1 v2 v3 (t + 1) (by omega)).trans he), ?_, fun b o v h1 h2 hc => ?_⟩
  · have h1 : Below t w (w.setCell ⟨t, 0, none⟩ v0) := (Below.refl t w).setCell (p := ⟨t, 0, none⟩) (Nat.le_refl t) _
    have h2 := h1.setCell (p := ⟨t, 1, none⟩) (Nat.le_refl t) v1
    have h3 := h2.setCell (p := ⟨t, 2, none⟩) (Nat.le_refl t) v2
    have h4 := h3.setCell (p := ⟨t, 3, none⟩) (Nat.le_refl t) v3
    exact h4.setCell (p := ⟨t + 1, 0, none⟩) (Nat.le_succ t) _
  · rw [World.cell?_of_block (w := w) (a := ⟨b, o, none⟩) ((Below.heap_setCell _ _ _ _ h2).trans (set4_heap w t _ _ _ _ b h1))]
    exact hc

/-- What is read of a text. -/
def ReadSays (s : List UInt8) (w : World) (e : Ending) (w' : World) : Prop :=
  (∃ T v, parse true (s.length + 1) s = some (T, []) ∧ T.check ≠ 3 ∧ e = .returned (.tuple #[v, .int .i64 0]) ∧ Lies w' (fun b => w.heap.size ≤ b) T v) ∨
    (∃ T, parse true (s.length + 1) s = some (T, []) ∧ T.check = 3 ∧ e = .returned (.tuple #[.agg #[.int .i64 0, .int .i64 0, .string ⟨#[]⟩, .slice none 0 0], .int .i64 3])) ∨
    (e = .returned (.tuple #[.agg #[.int .i64 0, .int .i64 0, .string ⟨#[]⟩, .slice none 0 0], .int .i64 4]) ∧ ∀ T, parse true (s.length + 1) s ≠ some (T, []))

set_option maxRecDepth 100000 in
set_option maxHeartbeats 2000000 in
theorem read_any (s : List UInt8) (φ : Nat → Nat) (hs : s.length ≤ 200000) (hφ : Pot s φ) (h0 : φ 0 ≤ 65535) (w : World) (hw : Wld w) :
    Calls Tryz.prog 4 #[.string (tx s)] w fun e w' => Below w.heap.size w w' ∧ ReadSays s w e w' := by
  have hmf : ∀ (fn : Fn) (first cap : Array Value) (w : World), (Instr.makeFunc fn first cap).run Tryz.prog w = .ok (.func fn first cap) w := fun _ _ _ _ => rfl
  obtain ⟨W0, hW0⟩ : ∃ W0, ((w.alloc zeroTerm).alloc (.cells #[.int .i64 0] 25)).alloc (.cells #[.string (tx s), .int .i64 0, .int .i64 0, .int .i64 0] 33) = W0 := ⟨_, rfl⟩
  have hu0 : Up w W0 := by rw [← hW0]; exact (Up.refl w).alloc.alloc.alloc
  have hR : RdP W0 (w.heap.size + 2) s 0 0 0 := by
    rw [← hW0]
    have := new_block ((w.alloc zeroTerm).alloc (.cells #[.int .i64 0] 25)) (.cells #[.string (tx s), .int .i64 0, .int .i64 0, .int .i64 0] 33)
    simpa [RdP] using this
  have hbt : W0.heap[w.heap.size]? = some zeroTerm := by
    rw [← hW0, Below.heap_alloc _ _ _ (by simp only [World.size_alloc]; omega)]
    exact new_block1 w _ _
  have hbe : W0.heap[w.heap.size + 1]? = some (.cells #[.int .i64 0] 25) := by
    rw [← hW0, Below.heap_alloc _ _ _ (by simp only [World.size_alloc]; omega)]
    exact new_block2 w _ _
  have hwh := Hid.mk (whole_any s φ hs hφ h0 (w.heap.size + 2) W0 hR (hw.next hu0) (by have := hw.size; omega))
  have HU := Hid.mk hu0
  have HBT := Hid.mk hbt
  have HBE := Hid.mk hbe
  have HW := Hid.mk hW0
  rw [← hW0] at hwh
  clear hs hφ h0 hR hbt hbe hu0 hw hW0
  go_enter_defers Tryz.func4, Tryz.ntmps4
  go_wp2_with (first
    | (go_at_call 9; refine hwh.out.mono ?_; rintro e w1 ⟨k1, ⟨T, v, eT, hck, rfl, hL⟩ | ⟨T, eT, hck, rfl⟩ | ⟨rfl, eT⟩⟩
       all_goals (try unfold fault3); all_goals (try unfold fault4)
       all_goals rw [HW.out] at k1
       all_goals (have hbt1 := Hid.mk (k1.box HBT.out (by omega)); have hbe1 := Hid.mk (k1.box HBE.out (by omega)); have K1 := Hid.mk k1; clear k1)
       all_goals (first | (rw [HW.out] at hL; have hL' := hL; obtain ⟨kk, nn, ss, aa, mm, cc, rfl⟩ := hL'.agg; have HL := Hid.mk hL; obtain ⟨⟨c0, c1, c2, c3⟩, f0, f1, f2, f3⟩ := kept4 hbt1.out (Below.refl _ _); obtain ⟨ce, fe⟩ := box1 hbe1.out; clear hL hL') | skip)
       all_goals (have ET := Hid.mk eT; clear eT)))
  · obtain ⟨W5, hW5, ht5, he5, hbl, hmv⟩ := read_boxes (.int .i64 kk) (.int .i64 nn) (.string ss) (.slice aa mm cc) hbt1.out hbe1.out
    have hlt := (Array.getElem?_eq_some_iff.1 HBE.out).1
    have HT5 := Hid.mk ht5
    have HE5 := Hid.mk he5
    have HLL := Hid.mk (HL.out.move (S' := fun b => w.heap.size ≤ b) (w' := W5) (fun b hb => by omega) (fun b o v hb hc => hmv b o v (by omega) (by omega) hc))
    rw [hW5]
    obtain ⟨⟨d0, d1, d2, d3⟩, _⟩ := kept4 HT5.out (Below.refl _ _)
    obtain ⟨de, _⟩ := box1 HE5.out
    have HC := Hid.mk hck
    have HBl := Hid.mk ((HU.out.out.trans (K1.out.below (B := w.heap.size) (by omega) HU.out.out.size)).trans hbl)
    clear c0 c1 c2 c3 f0 f1 f2 f3 ce fe hbl ht5 he5 hck hW5 hmv hlt
    refine leaves_cons (f := 8) (args := #[.pointer (some ⟨w.heap.size, 0, none⟩), .pointer (some ⟨w.heap.size + 1, 0, none⟩)]) (by simp) (by simp [go_sem]) ?_
    refine (catch_idle _ _ _).mono ?_
    rintro e u' w'' ⟨rfl, rfl, rfl⟩
    simp [Leaves, settle, results, Tryz.results4, go_sem, d0, d1, d2, d3, de]
    exact ⟨HBl.out, Or.inl ⟨T, _, ET.out, HC.out, rfl, HLL.out⟩⟩
  · refine leaves_cons (f := 8) (args := #[.pointer (some ⟨w.heap.size, 0, none⟩), .pointer (some ⟨w.heap.size + 1, 0, none⟩)]) (by simp) (by simp [go_sem]) ?_
    refine (catch_panicking _ _ 3 _ hbt1.out hbe1.out (by omega)).mono ?_
    rintro e u' w5 ⟨rfl, rfl, ht5, he5, hb5⟩
    obtain ⟨⟨d0, d1, d2, d3⟩, _⟩ := kept4 ht5 (Below.refl _ _)
    obtain ⟨de, _⟩ := box1 he5
    simp [Leaves, settle, results, Tryz.results4, go_sem, d0, d1, d2, d3, de]
    exact ⟨(K1.out.below (B := w.heap.size) (by omega) HU.out.out.size |> HU.out.out.trans).trans (hb5 _ (Nat.le_refl _) (Nat.le_succ _)), Or.inr (Or.inl ⟨T, ET.out, hck, rfl⟩)⟩
  · refine leaves_cons (f := 8) (args := #[.pointer (some ⟨w.heap.size, 0, none⟩), .pointer (some ⟨w.heap.size + 1, 0, none⟩)]) (by simp) (by simp [go_sem]) ?_
    refine (catch_panicking _ _ 4 _ hbt1.out hbe1.out (by omega)).mono ?_
    rintro e u' w5 ⟨rfl, rfl, ht5, he5, hb5⟩
    obtain ⟨⟨d0, d1, d2, d3⟩, _⟩ := kept4 ht5 (Below.refl _ _)
    obtain ⟨de, _⟩ := box1 he5
    simp [Leaves, settle, results, Tryz.results4, go_sem, d0, d1, d2, d3, de]
    exact ⟨(K1.out.below (B := w.heap.size) (by omega) HU.out.out.size |> HU.out.out.trans).trans (hb5 _ (Nat.le_refl _) (Nat.le_succ _)), Or.inr (Or.inr ⟨rfl, ET.out⟩)⟩

end Go.Proofs.YtnbekfpkmebmbaaGreatDoor

/-
  The laws' own helpers: a term has just that text; a text is none of a term; the chapter's examples that every law calls.
-/
namespace Go.Proofs.YtnbekfpkmebmbaaGreatDoor
open Go.RowKit Go.Deep

theorem lst1 {w : World} {S : Nat → Prop} {t : Tm} {nb : Nat} {h0 h1 h2 h3 : Value} {ty : TypeId} (hc : w.heap[nb]? = some (.cells #[h0, h1, h2, h3] ty (0, 0))) (hnb : S nb) (ht : Lies w S t (.agg #[h0, h1, h2, h3])) : Lst w S [t] (some ⟨nb, 0, none⟩) 1 := by
  have hcell : ∀ j, w.cell? ⟨nb, j, none⟩ = #[h0, h1, h2, h3][j]? := fun j => cell_of_row w nb j _ ty (0, 0) hc
  refine ⟨Nat.le_refl _, by simp, Or.inr ⟨_, rfl, fun _ => ⟨hnb, rfl⟩, ?_⟩⟩
  rw [Row, Row]
  exact ⟨⟨h0, h1, h2, h3, hcell 0, hcell 1, hcell 2, hcell 3, ht⟩, trivial⟩
theorem lst3 {w : World} {S : Nat → Prop} {t u r : Tm} {nb : Nat} {h0 h1 h2 h3 u0 u1 u2 u3 t0 t1 t2 t3 : Value} {ty : TypeId} (hc : w.heap[nb]? = some (.cells #[h0, h1, h2, h3, u0, u1, u2, u3, t0, t1, t2, t3] ty (0, 0))) (hnb : S nb)
    (ht : Lies w S t (.agg #[h0, h1, h2, h3])) (hu : Lies w S u (.agg #[u0, u1, u2, u3])) (hr : Lies w S r (.agg #[t0, t1, t2, t3])) : Lst w S [t, u, r] (some ⟨nb, 0, none⟩) 3 := by
  have hcell : ∀ j, w.cell? ⟨nb, j, none⟩ = #[h0, h1, h2, h3, u0, u1, u2, u3, t0, t1, t2, t3][j]? := fun j => cell_of_row w nb j _ ty (0, 0) hc
  refine ⟨Nat.le_refl _, by simp, Or.inr ⟨_, rfl, fun _ => ⟨hnb, rfl⟩, ?_⟩⟩
  rw [Row, Row, Row, Row]
  exact ⟨⟨h0, h1, h2, h3, hcell 0, hcell 1, hcell 2, hcell 3, ht⟩, ⟨u0, u1, u2, u3, hcell 4, hcell 5, hcell 6, hcell 7, hu⟩, ⟨t0, t1, t2, t3, hcell 8, hcell 9, hcell 10, hcell 11, hr⟩, trivial⟩

/-- A short text: its length is room enough. -/
theorem pot_len (s : List UInt8) : Pot s (fun i => s.length - i) := by
  refine ⟨fun i j h => by omega, fun i c r h _ => ?_⟩
  have := congrArg List.length h
  simp at this
  omega

theorem says_any (T : Tm) (hsz : T.size ≤ 1000000) (x : List UInt8) (h0 : T.check = 0) (hx : T.text = x) (S : Nat → Prop) (v : Value) (w : World) (hv : Lies w S T v) (hw : Wld w) :
    Calls Tryz.prog 13 #[v, .string (tx x)] w fun e w' => e = .returned (.bool true) ∧ Below w.heap.size w w' := by
  have hk := Hid.mk (fun (w1 : World) (hb : Up w w1) => write_any T hsz S v w1 (hv.below hb.out) (hw.next hb.out))
  rw [h0, hx] at hk
  simp only [if_pos] at hk
  obtain ⟨k, n, s, a, m, cap, rfl⟩ := hv.agg
  have heq : ((tx x).toList == (tx x).toList) = true := by simp
  generalize tx x = X at hk heq ⊢
  clear hv h0 hx hw
  go_enter Tryz.func13, Tryz.ntmps13
  go_wp2_with (go_at_call 36; refine (hk.out _ (by first | exact Up.refl _ | exact (Up.refl _).alloc)).mono ?_; rintro e w2 ⟨rfl, hb⟩; have hk2 : Up w w2 := (by first | exact (Up.refl _).call hb | exact (Up.refl _).alloc.call hb))
  go_ret
  exact ⟨rfl, hk2.out⟩
/-- The zero term. -/
abbrev noTerm : Value := .agg #[.int .i64 0, .int .i64 0, .string ⟨#[]⟩, .slice none 0 0]
theorem read_no (x : List UInt8) (φ : Nat → Nat) (hs : x.length ≤ 200000) (hφ : Pot x φ) (h0 : φ 0 ≤ 65535) (hx : ∀ T, parse true (x.length + 1) x ≠ some (T, [])) (w : World) (hw : Wld w) :
    Calls Tryz.prog 4 #[.string (tx x)] w fun e w' => e = .returned (.tuple #[noTerm, .int .i64 4]) ∧ Below w.heap.size w w' := by
  refine (read_any x φ hs hφ h0 w hw).mono fun e w' hh => ?_
  obtain ⟨hb, ⟨T, v, eT, hck, rfl, hL⟩ | ⟨T, eT, hck, rfl⟩ | ⟨rfl, eT⟩⟩ := hh
  · exact absurd eT (hx T)
  · exact absurd eT (hx T)
  · exact ⟨rfl, hb⟩
theorem read_yes (x : List UInt8) (φ : Nat → Nat) (hs : x.length ≤ 200000) (hφ : Pot x φ) (h0 : φ 0 ≤ 65535) (T : Tm) (hx : parse true (x.length + 1) x = some (T, [])) (hc : T.check ≠ 3) (w : World) (hw : Wld w) :
    Calls Tryz.prog 4 #[.string (tx x)] w fun e w' => (∃ v, e = .returned (.tuple #[v, .int .i64 0]) ∧ Lies w' (fun b => w.heap.size ≤ b) T v) ∧ Below w.heap.size w w' := by
  refine (read_any x φ hs hφ h0 w hw).mono fun e w' hh => ?_
  obtain ⟨hb, ⟨T', v, eT, hck, rfl, hL⟩ | ⟨T', eT, hck, rfl⟩ | ⟨rfl, eT⟩⟩ := hh
  · rw [hx] at eT
    cases eT
    exact ⟨⟨v, rfl, hL⟩, hb⟩
  · rw [hx] at eT
    cases eT
    exact absurd hck hc
  · exact absurd hx (eT T)
theorem refused5_any (x : List UInt8) (hl : x.length ≤ 1000) (hx : ∀ T, parse true (x.length + 1) x ≠ some (T, [])) (w : World) (hw : Wld w) :
    Calls Tryz.prog 18 #[.string (tx x)] w fun e w' => e = .returned (.bool true) ∧ Below w.heap.size w w' := by
  have hk := Hid.mk (read_no x _ (by omega) (pot_len x) (by omega) hx w hw)
  clear hx hl hw
  go_enter Tryz.func18, Tryz.ntmps18
  go_wp2_with (go_at_call 4; refine hk.out.mono ?_; rintro e w2 ⟨rfl, hb⟩)
  go_ret
  exact ⟨rfl, hb.alloc hb.size _⟩

theorem n5_any (n : Int) (w : World) : Calls Tryz.prog 16 #[.int .i64 n] w fun e w' => e = .returned (.agg #[.int .i64 1, .int .i64 n, .string ⟨#[]⟩, .slice none 0 0]) ∧ Below w.heap.size w w' := by
  go_enter Tryz.func16, Tryz.ntmps16
  go_wp2_with (go_at_call 38; refine (num_any _ _).mono ?_; rintro e w1 ⟨rfl, hb⟩; obtain ⟨⟨c0, c1, c2, c3⟩, f0, f1, f2, f3⟩ := kept4 (new_block w _) hb)
  exact ret_stored rfl rfl rfl c0 c1 c2 c3 ⟨rfl, Below.set4 ((Up.refl w).alloc.call hb) (Nat.le_refl _)⟩
theorem s5_any (s : ByteArray) (w : World) : Calls Tryz.prog 15 #[.string s] w fun e w' => e = .returned (.agg #[.int .i64 2, .int .i64 0, .string s, .slice none 0 0]) ∧ Below w.heap.size w w' := by
  go_enter Tryz.func15, Tryz.ntmps15
  go_wp2_with (go_at_call 37; refine (sym_any _ _).mono ?_; rintro e w1 ⟨rfl, hb⟩; obtain ⟨⟨c0, c1, c2, c3⟩, f0, f1, f2, f3⟩ := kept4 (new_block w _) hb)
  exact ret_stored rfl rfl rfl c0 c1 c2 c3 ⟨rfl, Below.set4 ((Up.refl w).alloc.call hb) (Nat.le_refl _)⟩
theorem c5_any (l : List Tm) (hlen : l.length ≤ 1000) (T : Tm) (a : Option Addr) (cap : Nat) (v : Value) (w : World) (hl : IsL w l a cap) (hv : Is w T v) :
    Calls Tryz.prog 17 #[.slice a l.length cap, v] w fun e w' => (∃ u, e = .returned u ∧ Is w' (conses l T) u) ∧ Below w.heap.size w w' := by
  obtain ⟨k, n, s, b, m, cp, rfl⟩ := hv.agg
  have hk := Hid.mk (fun w1 (h : Up w w1) => pairs_any l (by omega) T (fun b => True ∧ b < w.heap.size) a cap _ w1 (hl.inside.below h.out) (hv.inside.below h.out))
  clear hl hv hlen
  go_enter Tryz.func17, Tryz.ntmps17
  go_wp2_with (go_at_call 39; refine (hk.out _ (Up.refl w).alloc.alloc).mono ?_; rintro e w1 ⟨⟨u, rfl, hL⟩, hb⟩; obtain ⟨kk, nn, ss, aa, mm, cc, rfl⟩ := hL.agg; obtain ⟨⟨c0, c1, c2, c3⟩, f0, f1, f2, f3⟩ := kept4 (new_block2 w _ _) hb)
  refine ret_stored rfl rfl rfl c0 c1 c2 c3 ⟨⟨_, rfl, ?_⟩, Below.set4 ((Up.refl w).alloc.alloc.call hb) (Nat.le_succ _)⟩
  exact hL.move (fun _ _ => trivial) (fun b o v hb' hc => by
    rw [World.cell?_of_block (w := w1) (a := ⟨b, o, none⟩) (set4_heap w1 (w.heap.size + 1) _ _ _ _ b (by simp only [World.size_alloc] at hb'; rcases hb' with ⟨_, h⟩ | h <;> omega))]
    exact hc)
end Go.Proofs.YtnbekfpkmebmbaaGreatDoor

/-
  The chapter's examples that every law of the layer calls.
-/
namespace Go.Proofs.YtnbekfpkmebmbaaGreatDoor
open Go.RowKit Go.Deep

def exT : Tm := .tup [.sym ⟨#[97]⟩, .num 1, conses [.sym ⟨#[98]⟩] (.sym ⟨#[99]⟩)]
def exO : Tm := .sym ⟨#[111, 100, 100, 32, 97, 116, 111, 109]⟩
theorem exT_check : exT.check = 0 := by kernel_rfl
theorem exT_text : exT.text = [123, 97, 44, 49, 44, 91, 98, 124, 99, 93, 125] := by kernel_rfl
theorem exO_check : exO.check = 0 := by kernel_rfl
theorem exO_text : exO.text = [39, 111, 100, 100, 32, 97, 116, 111, 109, 39] := by kernel_rfl
theorem no_of {x : List UInt8} {f : Nat} (h : ((parse true f x).map fun p => p.2.isEmpty) ≠ some true) : ∀ T, parse true f x ≠ some (T, []) := fun T e => h (by rw [e]; rfl)
theorem exN : ∀ T, parse true 7 [123, 97, 44, 32, 49, 125] ≠ some (T, []) := no_of (by rw [show ((parse true 7 [123, 97, 44, 32, 49, 125]).map fun p => p.2.isEmpty) = none by kernel_rfl]; simp)

theorem tx_lit (x : Array UInt8) : tx x.toList = ⟨x⟩ := rfl
theorem says_lit (T : Tm) (x : Array UInt8) (hsz : T.size ≤ 1000000) (h0 : T.check = 0) (hx : T.text = x.toList) (v : Value) (w : World) (hv : Is w T v) (hw : Wld w) :
    Calls Tryz.prog 13 #[v, .string ⟨x⟩] w fun e w' => e = .returned (.bool true) ∧ Below w.heap.size w w' := by
  have := says_any T hsz x.toList h0 hx _ v w hv hw
  rwa [tx_lit] at this
theorem refused_lit (x : Array UInt8) (hl : x.size ≤ 1000) (hx : ∀ T, parse true (x.size + 1) x.toList ≠ some (T, [])) (w : World) (hw : Wld w) :
    Calls Tryz.prog 18 #[.string ⟨x⟩] w fun e w' => e = .returned (.bool true) ∧ Below w.heap.size w w' := by
  have := refused5_any x.toList hl hx w hw
  rwa [tx_lit] at this
theorem tup_is {w : World} {l : List Tm} {a : Option Addr} {cap : Nat} (h : IsL w l a cap) : Is w (.tup l) (.agg #[.int .i64 7, .int .i64 0, .string ⟨#[]⟩, .slice a l.length cap]) := Lies.mk (small_of (by omega) (by omega) (by omega) (by omega) size_empty) h
theorem refused_N (w : World) (hw : Wld w) : Calls Tryz.prog 18 #[.string ⟨#[123, 97, 44, 32, 49, 125]⟩] w fun e w' => e = .returned (.bool true) ∧ Below w.heap.size w w' := refused_lit #[123, 97, 44, 32, 49, 125] (by simp) exN w hw
theorem c5_one (t T : Tm) (a : Option Addr) (cap : Nat) (v : Value) (w : World) (hl : IsL w [t] a cap) (hv : Is w T v) :
    Calls Tryz.prog 17 #[.slice a 1 cap, v] w fun e w' => (∃ u, e = .returned u ∧ Is w' (conses [t] T) u) ∧ Below w.heap.size w w' := c5_any [t] (by simp) T a cap v w hl hv
theorem c5_two (t u T : Tm) (a : Option Addr) (cap : Nat) (v : Value) (w : World) (hl : IsL w [t, u] a cap) (hv : Is w T v) :
    Calls Tryz.prog 17 #[.slice a 2 cap, v] w fun e w' => (∃ u', e = .returned u' ∧ Is w' (conses [t, u] T) u') ∧ Below w.heap.size w w' := c5_any [t, u] (by simp) T a cap v w hl hv
theorem tup_is3 {w : World} {t u r : Tm} {a : Option Addr} {cap : Nat} (h : IsL w [t, u, r] a cap) : Is w (.tup [t, u, r]) (.agg #[.int .i64 7, .int .i64 0, .string ⟨#[]⟩, .slice a 3 cap]) := tup_is h
theorem tup_is2 {w : World} {t u : Tm} {a : Option Addr} {cap : Nat} (h : IsL w [t, u] a cap) : Is w (.tup [t, u]) (.agg #[.int .i64 7, .int .i64 0, .string ⟨#[]⟩, .slice a 2 cap]) := tup_is h
theorem exT_size : exT.size ≤ 1000000 := by simp [exT, conses, Tm.tup, Tm.sym, Tm.num, Tm.size_mk, sizes]
theorem exO_size : exO.size ≤ 1000000 := by simp [exO, Tm.sym, Tm.size_mk, sizes]

set_option maxRecDepth 100000 in
set_option maxHeartbeats 2000000 in
theorem awake5_any (w : World) (hw : Wld w) : Calls Tryz.prog 7 #[] w fun e w' => e = .returned (.bool true) ∧ Below w.heap.size w w' := by
  have HW := Hid.mk hw
  clear hw
  go_enter Tryz.func7, Tryz.ntmps7
  go_wp2_with (first
    | (go_at_call 15; ((with_reducible refine (s5_any ⟨#[97]⟩ _).mono ?_); rintro e w1 ⟨rfl, hb⟩; have u1 : Up w w1 := (Up.refl w).call hb; have U1 := Hid.mk u1; clear hb u1))
    | (go_at_call 16; ((with_reducible refine (n5_any 1 _).mono ?_); rintro e w2 ⟨rfl, hb⟩; have U2 := Hid.mk (U1.out.call hb); clear hb))
    | (go_at_call 15; ((with_reducible refine (s5_any ⟨#[98]⟩ _).mono ?_); rintro e w3 ⟨rfl, hb⟩; have U3 := Hid.mk (U2.out.call hb); clear hb))
    | (go_at_call 15; ((with_reducible refine (s5_any ⟨#[99]⟩ _).mono ?_); rintro e w4 ⟨rfl, hb⟩; have U4 := Hid.mk (U3.out.alloc.call hb); have C4 := Hid.mk ((hb.block _ (by simp)).trans (new_block w3 _)); clear hb))
    | (go_at_call 17; ((with_reducible refine (c5_one (.sym ⟨#[98]⟩) (.sym ⟨#[99]⟩) _ _ _ _ (lst1 (S := fun _ => True) C4.out trivial (sym_is _ _ _ (by decide))) (sym_is _ _ _ (by decide))).mono ?_); rintro e w5 ⟨⟨u, rfl, hL⟩, hb⟩; have hL' := hL; obtain ⟨kk, nn, ss, aa, mm, cc, rfl⟩ := hL'.agg; have L5 := Hid.mk hL; have U5 := Hid.mk (U4.out.call hb); clear hb hL hL'))
    | (go_at_call 14; ((with_reducible refine (tup_any _ _ _ _).mono ?_); rintro e w6 ⟨rfl, hb⟩; have U6 := Hid.mk (U5.out.alloc.call hb); have C6 := Hid.mk ((hb.block _ (by simp)).trans (new_block w5 _)); have L6 := Hid.mk (L5.out.below (((Below.refl _ w5).alloc (Nat.le_refl _) _).trans (hb.mono (by simp)))); clear hb))
    | (go_at_call 13; ((with_reducible refine (says_lit exT _ exT_size exT_check exT_text _ _ (tup_is3 (lst3 (S := fun _ => True) C6.out trivial (sym_is _ _ _ (by decide)) (num_is _ _ 1 (by omega) (by omega)) L6.out)) (HW.out.next U6.out.out)).mono ?_); rintro e w7 ⟨rfl, hb⟩; have U7 := Hid.mk (U6.out.call hb); clear hb))
    | (go_at_call 15; ((with_reducible refine (s5_any ⟨#[111, 100, 100, 32, 97, 116, 111, 109]⟩ _).mono ?_); rintro e w8 ⟨rfl, hb⟩; have U8 := Hid.mk (U7.out.call hb); clear hb))
    | (go_at_call 13; ((with_reducible refine (says_lit exO _ exO_size exO_check exO_text _ _ (sym_is _ (fun _ => True) _ (by decide)) (HW.out.next U8.out.out)).mono ?_); rintro e w9 ⟨rfl, hb⟩; have U9 := Hid.mk (U8.out.call hb); clear hb))
    | (go_at_call 18; ((with_reducible refine (refused_N _ (HW.out.next U9.out.out)).mono ?_); rintro e w10 ⟨rfl, hb⟩; have U10 := Hid.mk (U9.out.call hb); clear hb)))
  go_ret
  exact ⟨rfl, U10.out.out⟩
end Go.Proofs.YtnbekfpkmebmbaaGreatDoor
