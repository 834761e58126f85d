/-
  The program's reader: terms that may be.
-/
import Derived.Test.YtnbekfpkmebmbaaGreatDoorZTextR4
import Derived.Deep.LoopGhost
import Derived.Test.YtnbekfpkmebmbaaGreatDoorZTermLong
import Derived.Maps.AppendAt
namespace Go.Proofs.YtnbekfpkmebmbaaGreatDoor
open Go.RowKit Go.Deep

theorem check_zero (T : Tm) : T.check = 0 ↔ T.fits = true ∧ T.wordsR ≤ 65536 := by
  rw [Tm.check, fits_pre, words_pre, longE]
  by_cases h : T.fits = true
  · rw [if_pos h]
    split
    · constructor
      · intro h; cases h
      · intro h; omega
    · constructor
      · intro _; exact ⟨h, by omega⟩
      · intro _; rfl
  · rw [if_neg h]
    constructor
    · intro h; cases h
    · intro h2; exact absurd h2.1 h
theorem leaf_check (k n : Int) (s : ByteArray) (_ : k = 1 ∨ k = 2 ∨ k = 3 ∨ k = 4 ∨ k = 5 ∨ k = 6) : (Tm.mk k n s []).check = 0 ↔ fitB k n s.size 0 = true := by
  rw [check_zero, fits_mk, wordsR_mk, show fitss [] = true from rfl, Bool.and_true]
  constructor
  · intro h; exact h.1
  · intro h
    refine ⟨h, ?_⟩
    unfold ownW
    rw [wordsRs]
    split <;> split <;> omega
theorem atom_check (s : List UInt8) : (Tm.mk 2 0 (tx s) []).check = 0 ↔ s.length ≤ 64 := by
  rw [leaf_check 2 0 _ (by omega), tx_size]
  unfold fitB
  simp
theorem int_check (n : Int) : (Tm.mk 1 n ⟨#[]⟩ []).check = 0 ↔ -576460752303423488 ≤ n ∧ n ≤ 576460752303423487 := by
  rw [leaf_check 1 n _ (by omega)]
  unfold fitB
  simp
  intro _ _
  rfl
theorem nam_check (k n : Int) (hk : k = 3 ∨ k = 4 ∨ k = 6 ∨ k = 5) : (Tm.mk k n ⟨#[]⟩ []).check = 0 ↔ 0 ≤ n ∧ n ≤ 1073741824 := by
  rw [leaf_check k n _ (by omega)]
  unfold fitB
  rcases hk with rfl | rfl | rfl | rfl <;> (simp; intro _ _; rfl)

theorem may_any (T : Tm) (hsz : T.size ≤ 1000000) (S : Nat → Prop) (v : Value) (w : World) (hv : Lies w S T v) (hw : Wld w) :
    Calls Tryz.prog 68 #[v] w fun e w' => ((T.check = 0 ∧ e = .returned v) ∨ (T.check ≠ 0 ∧ e = fault4)) ∧ Below w.heap.size w w' := by
  have hc := Hid.mk (fun w1 (h : Below w.heap.size w w1) => checkI_any T hsz S v w1 (hv.below h) (hw.next h).shapes)
  generalize T.check = c at *
  obtain ⟨k, n, s, l⟩ := T
  obtain ⟨a, cap, rfl, hs, hl⟩ := hv.out
  clear hv hl
  obtain ⟨W0, hW0⟩ : ∃ W0, (w.alloc (.cells #[.int .i64 k, .int .i64 n, .string s, .slice a l.length cap] 24)).alloc zeroTerm = W0 := ⟨_, rfl⟩
  have hbox : W0.heap[w.heap.size]? = some (.cells #[.int .i64 k, .int .i64 n, .string s, .slice a l.length cap] 24) := by rw [← hW0]; exact new_block1 w _ _
  have hbox2 : W0.heap[w.heap.size + 1]? = some zeroTerm := by rw [← hW0]; exact new_block2 w _ _
  have hu0 : Up w W0 := by rw [← hW0]; exact (Up.refl w).alloc.alloc
  obtain ⟨⟨q0, q1, q2, q3⟩, _⟩ := kept4 hbox (Below.refl _ _)
  by_cases h0 : c = 0
  · subst h0
    go_enter Tryz.func68, Tryz.ntmps68
    go_wp2_with (first
      | (go_at_call 22; refine (hc.out _ hu0).mono ?_; rintro e w2 ⟨rfl, hb2⟩; have hu2 := hu0.call hb2; obtain ⟨⟨q0, q1, q2, q3⟩, _⟩ := kept4 hbox hb2; obtain ⟨⟨r0, r1, r2, r3⟩, f0, f1, f2, f3⟩ := kept4 hbox2 hb2)
      | (go_at_call 20; refine (must_yes _).mono ?_; rintro e w3 ⟨rfl, rfl⟩))
    exact ret_stored rfl rfl rfl r0 r1 r2 r3 ⟨Or.inl ⟨trivial, rfl⟩, Below.set4 hu2 (Nat.le_succ _)⟩
  · have hd : (c == 0) = false := by simpa using h0
    go_enter Tryz.func68, Tryz.ntmps68
    go_wp2_with (first
      | (go_at_call 22; refine (hc.out _ hu0).mono ?_; rintro e w2 ⟨rfl, hb2⟩; have hu2 := hu0.call hb2)
      | (go_at_call 20; refine (must_no _).mono ?_; rintro e w3 ⟨rfl, rfl⟩; unfold fault4))
    exact ⟨rfl, Or.inr ⟨h0, rfl⟩, hu2⟩

end Go.Proofs.YtnbekfpkmebmbaaGreatDoor

/-
  The program's reader: terms that may be, and those that have a number alone.
-/
namespace Go.Proofs.YtnbekfpkmebmbaaGreatDoor
open Go.RowKit Go.Deep

/-- A number of a kind, and what stands behind it. -/
def namQ (k lo hi : Int) (behind q : List UInt8) : Option (Tm × List UInt8) :=
  match numI lo hi q with
  | none => none
  | some (n, y) => match strip behind y with
    | none => none
    | some r => some (.mk k n ⟨#[]⟩ [], r)

theorem numI_in {lo hi n : Int} {q r : List UInt8} (_ : -9223372036854775808 ≤ lo) (_ : hi ≤ 9223372036854775807) (h : numI (-9223372036854775808) 9223372036854775807 q = some (n, r)) : numI lo hi q = if lo ≤ n ∧ n ≤ hi then some (n, r) else none := by
  unfold numI at h ⊢
  split at h
  · rename_i h2
    simp only [Option.some.injEq, Prod.mk.injEq] at h
    obtain ⟨rfl, rfl⟩ := h
    by_cases h3 : lo ≤ numVal (numSpan q) ∧ numVal (numSpan q) ≤ hi
    · rw [if_pos ⟨h2.1, h3⟩, if_pos h3]
    · rw [if_neg (fun e => h3 e.2), if_neg h3]
  · cases h
theorem numI_out {lo hi : Int} {q : List UInt8} (h0 : -9223372036854775808 ≤ lo) (h1 : hi ≤ 9223372036854775807) (h : numI (-9223372036854775808) 9223372036854775807 q = none) : numI lo hi q = none := by
  unfold numI at h ⊢
  split at h
  · cases h
  · rename_i h2
    rw [if_neg (fun e => h2 ⟨e.1, by omega, by omega⟩)]
theorem num_lies {w : World} (k n : Int) (h0 : -9223372036854775808 ≤ k) (h1 : k ≤ 9223372036854775807) (h2 : -9223372036854775808 ≤ n) (h3 : n ≤ 9223372036854775807) (S : Nat → Prop) : Lies w S (.mk k n ⟨#[]⟩ []) (.agg #[.int .i64 k, .int .i64 n, .string ⟨#[]⟩, .slice none 0 0]) :=
  Lies.mk (l := []) ⟨h0, h1, h2, h3, (Nat.zero_le _ : 0 ≤ 9223372036854775807)⟩ ⟨Nat.le_refl _, by simp, Or.inl ⟨rfl, rfl, rfl⟩⟩

theorem want_any (p : Nat) (s q : List UInt8) (i g d : Nat) (w : World) (h : RdP w p s i g d) (hi : i ≤ s.length) (hs : s.length ≤ 1000000000) (hq : q.length ≤ 1000) :
    Calls Tryz.prog 63 #[.pointer (some ⟨p, 0, none⟩), .string (tx q)] w fun e w' => Mv p w w' ∧
      ((∃ u r, e = .returned u ∧ strip q (s.drop i) = some r ∧ RdP w' p s (i + q.length) g d ∧ s.drop (i + q.length) = r ∧ i + q.length ≤ s.length) ∨ (e = fault4 ∧ strip q (s.drop i) = none)) := by
  cases hn : strip q (s.drop i) with
  | none => exact (want_no p s q i g d w h hi hs hq hn).mono fun e w' ⟨h1, h2⟩ => ⟨h2, Or.inr ⟨h1, rfl⟩⟩
  | some r =>
    have hl := strip_len hn
    rw [List.length_drop] at hl
    exact (want_yes p s q i g d r w h hi hs hn).mono fun e w' ⟨⟨u, h1⟩, h2, h3⟩ => ⟨h3, Or.inl ⟨u, r, h1, rfl, h2, by rw [← List.drop_drop, strip_some hn, List.drop_left], by omega⟩⟩
set_option maxHeartbeats 1000000 in
theorem named_any (p : Nat) (s b : List UInt8) (i g d : Nat) (k lo hi : Int) (w : World) (h : RdP w p s i g d) (hw : Wld w) (hp : 6 ≤ p) (hle : i ≤ s.length) (hs : s.length ≤ 1000000000) (hb : b.length ≤ 1000) (hk0 : 0 ≤ k) (hk1 : k ≤ 100) (h0 : -9223372036854775808 ≤ lo) (h1 : hi ≤ 9223372036854775807)
    (hck : ∀ n, (Tm.mk k n ⟨#[]⟩ []).check = 0 ↔ lo ≤ n ∧ n ≤ hi) :
    Calls Tryz.prog 44 #[.pointer (some ⟨p, 0, none⟩), .int .i64 k, .string (tx b)] w fun e w' => Mv p w w' ∧
      ((∃ n r j, namQ k lo hi b (s.drop i) = some (.mk k n ⟨#[]⟩ [], r) ∧ e = .returned (.agg #[.int .i64 k, .int .i64 n, .string ⟨#[]⟩, .slice none 0 0]) ∧ RdP w' p s j g d ∧ s.drop j = r ∧ j ≤ s.length ∧ -9223372036854775808 ≤ n ∧ n ≤ 9223372036854775807) ∨ (e = fault4 ∧ namQ k lo hi b (s.drop i) = none)) := by
  have hlt := h.lt
  obtain ⟨W0, hW0⟩ : ∃ W0, w.alloc zeroTerm = W0 := ⟨_, rfl⟩
  have hbox : W0.heap[w.heap.size]? = some zeroTerm := by rw [← hW0]; exact new_block w _
  have hu0 : Up w W0 := by rw [← hW0]; exact (Up.refl w).alloc
  have hR0 := h.up hu0
  have hw0 := hw.next hu0
  have hnum := Hid.mk (fun w1 (h1 : RdP w1 p s i g d) hw1 => number_any p s i g d w1 h1 hw1 hp hle hs)
  have hin := Hid.mk (fun n r => @numI_in lo hi n (s.drop i) r h0 h1)
  have hout := Hid.mk (@numI_out lo hi (s.drop i) h0 h1)
  have hnq : Hid (namQ k lo hi b (s.drop i) = match numI lo hi (s.drop i) with
    | none => none
    | some (n, y) => match strip b y with
      | none => none
      | some r => some (.mk k n ⟨#[]⟩ [], r)) := Hid.mk rfl
  have hmay := Hid.mk (fun (n : Int) w1 (hn : -9223372036854775808 ≤ n ∧ n ≤ 9223372036854775807) (hw1 : Wld w1) => may_any (.mk k n ⟨#[]⟩ []) (by rw [Tm.size_mk]; simp [sizes]) (fun _ => True) _ w1 (num_lies k n (by omega) (by omega) hn.1 hn.2 _) hw1)
  have hwy := Hid.mk (fun j w1 (h1 : RdP w1 p s j g d) hj => want_any p s b j g d w1 h1 hj hs hb)
  have hckh := Hid.mk hck
  clear hck h0 h1
  generalize namQ k lo hi b (s.drop i) = NQ at *
  go_enter Tryz.func44, Tryz.ntmps44
  go_wp2_with (first
    | (go_at_call 70; refine (hnum.out _ hR0 hw0).mono ?_; rintro e w1 ⟨k1, ⟨n, r, j, e1, rfl, h1, e2, hj⟩ | ⟨rfl, e1⟩⟩; all_goals (try unfold fault4); all_goals (have hM1 := (Mv.up hu0).trans k1; have hbox1 := k1.box hbox (by omega)))
    | (go_at_call 68; have hbn := (numI_some e1).2.2; refine (hmay.out n _ hbn (hM1.wld hw hp)).mono ?_; rintro e w2 ⟨⟨hc, rfl⟩ | ⟨hc, rfl⟩, hb2⟩; all_goals (try unfold fault4))
    | (go_at_call 63; have hal : Up w2 (w2.alloc (.cells #[.int .i64 k, .int .i64 n, .string ⟨#[]⟩, .slice none 0 0] 24)) := (Up.refl w2).alloc; have h2 := (h1.up hb2).up hal; have hbox2 := (hb2.block _ (Array.getElem?_eq_some_iff.1 hbox1).1).trans hbox1; have hbox3 := (hal.block _ (Array.getElem?_eq_some_iff.1 hbox2).1).trans hbox2; have htb := new_block w2 (.cells #[.int .i64 k, .int .i64 n, .string ⟨#[]⟩, .slice none 0 0] 24); have hpz := (h1.up hb2).lt; refine (hwy.out j _ h2 hj).mono ?_; rintro e w3 ⟨k3, ⟨u, r2, rfl, hs2, h3, e5, hj3⟩ | ⟨rfl, hs2⟩⟩; all_goals (rw [e2] at hs2; try unfold fault4); all_goals (obtain ⟨⟨q0, q1, q2, q3⟩, f0, f1, f2, f3⟩ := kept4 (k3.box hbox3 (by omega)) (Below.refl _ _); obtain ⟨⟨r0, r1, r2', r3⟩, _⟩ := kept4 (k3.box htb (by omega)) (Below.refl _ _))))
  · have hM3 := ((hM1.trans (Mv.up hb2)).trans (Mv.up hal)).trans k3
    have hin2 := hin.out n r e1
    rw [if_pos ((hckh.out n).1 hc)] at hin2
    have hq := hnq.out
    rw [hin2] at hq
    simp only [hs2] at hq
    refine ret_stored rfl rfl rfl q0 q1 q2 q3 ⟨hM3.beside (Nat.le_refl _), Or.inl ⟨n, r2, j + b.length, hq, rfl, (set4_heap _ _ _ _ _ _ _ (by omega)).trans h3, e5, hj3, hbn.1, hbn.2⟩⟩
  · have hM3 := ((hM1.trans (Mv.up hb2)).trans (Mv.up hal)).trans k3
    have hin2 := hin.out n r e1
    rw [if_pos ((hckh.out n).1 hc)] at hin2
    have hq := hnq.out
    rw [hin2] at hq
    simp only [hs2] at hq
    exact ⟨rfl, hM3, Or.inr ⟨rfl, hq⟩⟩
  · have hM3 := hM1.trans (Mv.up hb2)
    have hin2 := hin.out n r e1
    rw [if_neg (fun h => hc ((hckh.out n).2 h))] at hin2
    have hq := hnq.out
    rw [hin2] at hq
    exact ⟨rfl, hM3, Or.inr ⟨rfl, hq⟩⟩
  · have hq := hnq.out
    rw [hout.out e1] at hq
    exact ⟨rfl, hM1, Or.inr ⟨rfl, hq⟩⟩

end Go.Proofs.YtnbekfpkmebmbaaGreatDoor

/-
  The program's reader: atoms in quotes.
-/
namespace Go.Proofs.YtnbekfpkmebmbaaGreatDoor
open Go.RowKit Go.Deep

theorem Bld.mv {T b p : Nat} {l s : List UInt8} {i g d : Nat} {w w' : World} (h : Bld T b l w) (hR : RdP w p s i g d) (hM : Mv p w w') (hne : b ≠ p) : Bld T b l w' := by
  obtain ⟨hT, hB, hn⟩ := h
  have key : ∀ q, Lib.BuilderAtF T 5 b b q (Lib.byteCells l) w → Lib.BuilderAtF T 5 b b q (Lib.byteCells l) w' := fun q h => by
    obtain ⟨h1, v, h2, ⟨h3, h4⟩, h5⟩ := h
    refine ⟨h1, v, (hM.block _ (Array.getElem?_eq_some_iff.1 h2).1 hne).trans h2, ⟨h3, ?_⟩, h5⟩
    rcases h4 with h4 | ⟨g', cap, cur, fz, e1, e2, e3, r⟩
    · exact Or.inl h4
    · refine Or.inr ⟨g', cap, cur, fz, e1, e2, (hM.block _ (Array.getElem?_eq_some_iff.1 e3).1 ?_).trans e3, r⟩
      rintro rfl
      have hR' : w.heap[g']? = _ := hR
      rw [hR'] at e3
      simp only [Option.some.injEq, Obj.cells.injEq] at e3
      exact absurd e3.2.1 (by decide)
  exact ⟨hT, hB.imp (key _) (key _), fun e => hM.cell hne (hn e)⟩
theorem bld_newB (w : World) : Bld 69 w.heap.size [] (w.alloc (.cells #[.pointer none, .slice none 0 0] 69)) := by
  refine ⟨Or.inr rfl, Or.inl ⟨Nat.le_refl _, .slice none 0 0, new_block w _, ⟨rfl, Or.inl ⟨rfl, rfl⟩⟩, by simp [Value.ownBlock]⟩, fun _ => ?_⟩
  simp
/-- Behind a builder's write: the reader, and what was there before the builder. -/
theorem Wrote.rd {b p : Nat} {s : List UInt8} {i g d : Nat} {w w' : World} (h : Wrote b w w') (hR : RdP w p s i g d) (hp : p < b) : RdP w' p s i g d := (h.below.block p hp).trans hR
theorem Mv.wrote {p b : Nat} {a w w' : World} (h : Mv p a w) (k : Wrote b w w') (hb : a.heap.size ≤ b) : Mv p a w' :=
  ⟨k.below.os.trans h.os, k.below.tape.trans h.tape, k.below.output.trans h.output, Nat.le_trans h.size k.below.size, fun j hj hn => (k.below.block j (by omega)).trans (h.block j hj hn)⟩

theorem unqF_hit {f : Nat} {q r : List UInt8} (hf : q.length < f) (h : strip [39] q = some r) : unqF f q = some ([], r) := by
  cases f with
  | zero => omega
  | succ f => rw [unqF, h]
theorem unqF_bad {f : Nat} {q : List UInt8} (hf : q.length < f) (h : strip [39] q = none) (hp : piece q = none) : unqF f q = none := by
  cases f with
  | zero => omega
  | succ f => rw [unqF, h, hp]
theorem unqF_more {f : Nat} {q r : List UInt8} {c : UInt8} (hf : q.length < f) (h : strip [39] q = none) (hp : piece q = some (c, r)) : ∃ f', r.length < f' ∧ unqF f q = match unqF f' r with
    | none => none
    | some (s, x) => some (c :: s, x) := by
  cases f with
  | zero => omega
  | succ f =>
    have := piece_len hp
    exact ⟨f, by omega, by rw [unqF, h, hp]; rfl⟩
set_option maxHeartbeats 2000000 in
theorem quotedR_any (p : Nat) (s : List UInt8) (i g d : Nat) (w : World) (h : RdP w p s i g d) (hw : Wld w) (hp : 6 ≤ p) (hi : i ≤ s.length) (hs : s.length ≤ 200000000) :
    Calls Tryz.prog 43 #[.pointer (some ⟨p, 0, none⟩)] w fun e w' => Mv p w w' ∧
      ((∃ t r j, quoP (s.drop i) = some (t, r) ∧ e = .returned (.agg #[.int .i64 2, .int .i64 0, .string (tx t), .slice none 0 0]) ∧ RdP w' p s j g d ∧ s.drop j = r ∧ j ≤ s.length) ∨ (e = fault4 ∧ quoP (s.drop i) = none)) := by
  have hlt := h.lt
  obtain ⟨W0, hW0⟩ : ∃ W0, w.alloc zeroTerm = W0 := ⟨_, rfl⟩
  have hbox : W0.heap[w.heap.size]? = some zeroTerm := by rw [← hW0]; exact new_block w _
  have hu0 : Up w W0 := by rw [← hW0]; exact (Up.refl w).alloc
  have hz0 : W0.heap.size = w.heap.size + 1 := by rw [← hW0, World.size_alloc]
  obtain ⟨W1, hW1⟩ : ∃ W1, W0.alloc (.cells #[.pointer none, .slice none 0 0] 69) = W1 := ⟨_, rfl⟩
  have hB1 : Bld 69 (w.heap.size + 1) [] W1 := by rw [← hW1, ← hz0]; exact bld_newB W0
  have hu1 : Up w W1 := by rw [← hW1]; exact hu0.alloc
  have hbox1 : W1.heap[w.heap.size]? = some zeroTerm := by rw [← hW1]; exact (Below.heap_alloc _ _ _ (by omega)).trans hbox
  have h1 := h.up hu1
  go_enter Tryz.func43, Tryz.ntmps43
  go_wp2
  clear hW0 hW1 hbox hu0 hz0
  go_loopg [7] (s.length - i) (fun q _ wr => ∃ (j f : Nat) (acc : List UInt8), Hid (j + q = s.length) ∧ RdP wr p s j g d ∧ Hid ((s.drop j).length < f) ∧ Hid (unqF ((s.drop i).length + 1) (s.drop i) = match unqF f (s.drop j) with
      | none => none
      | some (t, r) => some (acc ++ t, r)) ∧ Bld 69 (w.heap.size + 1) acc wr ∧ Mv p w wr ∧ wr.heap[w.heap.size]? = some zeroTerm ∧ Hid (acc.length ≤ j))
  case atStart => exact ⟨i, _, [], Hid.mk (by omega), h1, Hid.mk (Nat.lt_succ_self _), Hid.mk (by cases unqF ((s.drop i).length + 1) (s.drop i) <;> rfl), hB1, Mv.up hu1, hbox1, Hid.mk (by simp)⟩
  case round =>
    clear hB1 h1 hu1 hbox1
    obtain ⟨j, f, acc, hjq, hR, hf, hF, hB, hM, hbox, hal⟩ := hrel
    have hj : j ≤ s.length := by have := hjq.out; omega
    have hs9 : s.length ≤ 1000000000 := by omega
    have hsk := Hid.mk (skip_any p s [39] j g d wr hR hj hs9 (by simp))
    have hpc := Hid.mk (fun w1 (h1 : RdP w1 p s j g d) => piece_any p s j g d w1 h1 hj hs9)
    have t0 := True.intro
    go_wp2_with (first
      | (go_at_call 40; refine hsk.out.mono ?_; rintro e w1 ⟨k1, ⟨r, e1, rfl, h1, e2, hi1⟩ | ⟨e1, rfl, h1⟩⟩; all_goals (have hB1 := hB.mv hR k1 (by omega); have hM1 := hM.trans k1; have hbox1 := k1.box hbox (by omega)))
      | (go_at_call 66; refine (hpc.out _ h1).mono ?_; rintro e w2 ⟨k2, ⟨c, r, j2, e3, rfl, h2, e4, hj2⟩ | ⟨rfl, e3⟩⟩; all_goals (try unfold fault4))
      | (go_at_call 65; have hB2 := hB1.mv h1 k2 (by omega); refine (bldByte_any _ _ acc c _ hB2 (by have := hal.out; omega)).mono ?_; rintro e w3 ⟨rfl, hB3, k3⟩)
      | (go_at_call 59; have g2 := t1; refine (bldOut_any _ _ acc _ hB4).mono ?_; rintro e w5 ⟨rfl, hB5, k5⟩)
      | (go_at_call 59; refine (bldOut_any _ _ acc _ hB1).mono ?_; rintro e w3 ⟨rfl, hB4, k4⟩)
      | (go_at_call 67; refine (plainP_any acc (by have := hal.out; omega) _).mono ?_; rintro e w4 ⟨rfl, rfl⟩)
      | (go_at_call 20; refine (must_any _ _).mono ?_; rintro e w4 ⟨⟨hb, rfl⟩ | ⟨hb, rfl⟩, rfl⟩; all_goals (try unfold fault4); all_goals (have t1 := True.intro))
      | (go_at_call 69; refine (makeAtom_any (tx acc) _ (by have := hal.out; rw [tx_size]; omega)).mono ?_; rintro e w6 ⟨rfl, hb6⟩)
      | (go_at_call 68; have hM6 := ((hM1.wrote k4 (by omega)).wrote k5 (by omega)).trans (Mv.up hb6); refine (may_any (.mk 2 0 (tx acc) []) (by rw [Tm.size_mk]; simp [sizes]) (fun _ => True) _ _ (makeAtom_lies (by have := hal.out; omega) _) (hM6.wld hw hp)).mono ?_; have hbox5 := ((k5.below.block _ (Nat.lt_succ_self _)).trans ((k4.below.block _ (Nat.lt_succ_self _)).trans hbox1)); have hbox6 := (hb6.block _ (Array.getElem?_eq_some_iff.1 hbox5).1).trans hbox5; rintro e w7 ⟨⟨hc, rfl⟩ | ⟨hc, rfl⟩, hb7⟩; all_goals (try unfold fault4); all_goals (obtain ⟨⟨q0, q1, q2, q3⟩, f0, f1, f2, f3⟩ := kept4 hbox6 hb7)))
    · have hF2 := hF.out
      rw [unqF_hit hf.out e1] at hF2
      simp only [List.append_nil] at hF2
      have hq : quoP (s.drop i) = some (acc, r) := by
        unfold quoP
        rw [hF2]
        simp only
        rw [if_pos ⟨(atom_check acc).1 hc, by simpa using hb⟩]
      have hR6 := ((k5.rd (k4.rd h1 (by omega)) (by omega)).up hb6).up hb7
      exact ret_stored rfl rfl rfl q0 q1 q2 q3 ⟨(hM6.trans (Mv.up hb7)).beside (Nat.le_refl _), Or.inl ⟨acc, r, _, hq, rfl, (set4_heap _ _ _ _ _ _ _ (by omega)).trans hR6, e2, hi1⟩⟩
    · have hF2 := hF.out
      rw [unqF_hit hf.out e1] at hF2
      simp only [List.append_nil] at hF2
      have hq : quoP (s.drop i) = none := by
        unfold quoP
        rw [hF2]
        simp only
        rw [if_neg (fun h => hc ((atom_check acc).2 h.1))]
      exact ⟨rfl, hM6.trans (Mv.up hb7), Or.inr ⟨rfl, hq⟩⟩
    · have hF2 := hF.out
      rw [unqF_hit hf.out e1] at hF2
      simp only [List.append_nil] at hF2
      have hq : quoP (s.drop i) = none := by
        unfold quoP
        rw [hF2]
        simp only
        rw [if_neg (fun h => by rw [h.2] at hb; simp at hb)]
      exact ⟨rfl, hM1.wrote k4 (by omega), Or.inr ⟨rfl, hq⟩⟩
    · have hjj : j < j2 := by
        have h1 := piece_len e3
        rw [← e4, List.length_drop, List.length_drop] at h1
        omega
      obtain ⟨f', hf', hu⟩ := unqF_more hf.out e1 e3
      go_roundg (s.length - j2)
      case measure => have := hjq.out; omega
      case rel => exact ⟨j2, f', acc ++ [c], Hid.mk (by omega), k3.rd h2 (by omega), Hid.mk (by rw [e4]; exact hf'), Hid.mk (by
        rw [hF.out, hu, e4]
        cases unqF f' r with
        | none => rfl
        | some x => simp), hB3, (hM1.trans k2).wrote k3 (by omega), (k3.below.block _ (Nat.lt_succ_self _)).trans (k2.box hbox1 (by omega)), Hid.mk (by have := hal.out; rw [List.length_append, List.length_singleton]; omega)⟩
    · have hq : quoP (s.drop i) = none := by
        unfold quoP
        rw [hF.out, unqF_bad hf.out e1 e3]
      exact ⟨rfl, hM1.trans k2, Or.inr ⟨rfl, hq⟩⟩

end Go.Proofs.YtnbekfpkmebmbaaGreatDoor

/-
  The program's reader: terms gathered in a row.
-/
namespace Go.Proofs.YtnbekfpkmebmbaaGreatDoor
open Go.RowKit Go.Deep

/-- What a call has gathered from block base on: these terms, in a row of its own that no part of them lies in. -/
def Itm (base : Nat) (L : List Tm) (sv : Value) (w : World) : Prop :=
  ∃ xs, w.ownsRow base 24 4 sv L.length xs ∧ Side w (fun b => base ≤ b ∧ b < w.heap.size ∧ sv.ownBlock ≠ some b) L L.length xs
theorem Itm.start (base : Nat) (w : World) : Itm base [] (.slice none 0 0) w := ⟨[], World.ownsRow_nil _ _ _ _, fun q hq => by cases hq⟩
theorem Side.to {w w' : World} {S S' : Nat → Prop} {l : List Tm} {i : Nat} {xs : List Value} (h : Side w S l i xs) (hS : ∀ b, S b → S' b) (hc : ∀ b o v, S b → w.cell? ⟨b, o, none⟩ = some v → w'.cell? ⟨b, o, none⟩ = some v) : Side w' S' l i xs := by
  intro q hq hl
  obtain ⟨v0, v1, v2, v3, e0, e1, e2, e3, h4⟩ := h q hq hl
  exact ⟨v0, v1, v2, v3, e0, e1, e2, e3, h4.move hS hc _ _⟩
theorem Itm.mv {base p : Nat} {L : List Tm} {sv : Value} {w w' : World} (h : Itm base L sv w) (hM : Mv p w w') (hp : p < base) : Itm base L sv w' := by
  obtain ⟨xs, h1, h2⟩ := h
  refine ⟨xs, ownsRow_same h1 (fun g hg => hM.block g (h1.lt g hg).2 (by have := (h1.lt g hg).1; omega)), h2.to (fun b hb => ⟨hb.1, Nat.lt_of_lt_of_le hb.2.1 hM.size, hb.2.2⟩) (fun b o v hb hc => hM.cell (by have := hb.1; omega) hc)⟩
theorem Itm.out {base : Nat} {L : List Tm} {sv : Value} {w : World} (h : Itm base L sv w) : ∃ a cap, sv = .slice a L.length cap ∧ Lst w (fun b => base ≤ b) L a cap := by
  obtain ⟨xs, h1, h2⟩ := h
  obtain ⟨a, cap, e, hl⟩ := owns_lst (w := w) (l := L) h1 (fun i hi => h2 i hi hi) (fun _ _ _ _ h => h)
  exact ⟨a, cap, e, hl.wider (fun b hb => hb.elim (fun h => h.1) id)⟩
/-- One more. -/
theorem Itm.add {base : Nat} {L : List Tm} {T : Tm} {sv v' : Value} {w2 w3 : World} {xs : List Value} {v0 v1 v2 v3 : Value} {o : Obj} {lo : Nat} (h1 : w2.ownsRow base 24 4 sv L.length xs)
    (h2 : Side w2 (fun b => base ≤ b ∧ b < w2.heap.size ∧ sv.ownBlock ≠ some b) L L.length xs) (hT : Lies w2 (fun b => lo ≤ b) T (.agg #[v0, v1, v2, v3])) (hlo : base ≤ lo) (hg : ∀ g, sv.ownBlock = some g → g < lo)
    (hown : w3.ownsRow base 24 4 v' (L.length + 1) (xs ++ [v0, v1, v2, v3])) (hgrow : (w2.alloc o).grownBy w3 sv.ownBlock) (hat : v'.ownBlock = sv.ownBlock ∨ v'.ownBlock = some (w2.alloc o).heap.size) : Itm base (L ++ [T]) v' w3 := by
  have hsz : (w2.alloc o).heap.size = w2.heap.size + 1 := World.size_alloc _ _
  have hsz3 := hgrow.size
  have key : ∀ b o' v, b < w2.heap.size → sv.ownBlock ≠ some b → w2.cell? ⟨b, o', none⟩ = some v → w3.cell? ⟨b, o', none⟩ = some v := fun b o' v hb hne hc => by
    unfold World.cell? at hc ⊢
    simp only at hc ⊢
    rw [hgrow.block b (by omega) (fun e => hne e.symm), Below.heap_alloc _ _ _ hb]
    exact hc
  have hne : ∀ b, b < w2.heap.size → sv.ownBlock ≠ some b → v'.ownBlock ≠ some b := fun b hb hn e => by
    rcases hat with h | h
    · rw [h] at e; exact hn e
    · rw [h] at e
      have := Option.some.inj e
      omega
  refine ⟨xs ++ [v0, v1, v2, v3], by rw [List.length_append]; exact hown, ?_⟩
  have hx := h1.1
  intro q hq hlen
  rw [List.length_append, List.length_singleton] at hq
  by_cases he : q = L.length
  · subst he
    refine ⟨v0, v1, v2, v3, ?_, ?_, ?_, ?_, ?_⟩
    iterate 4 (rw [List.getElem?_append_right (by omega), hx]; simp)
    rw [List.getElem_append_right (Nat.le_refl _)]
    simp only [Nat.sub_self, List.getElem_cons_zero]
    refine hT.inside.move (fun b hb => ⟨by have := hb.1; omega, by have := hb.2; omega, hne b hb.2 (fun e => by have := hg b e; have := hb.1; omega)⟩) (fun b o' v hb hc => key b o' v hb.2 (fun e => by have := hg b e; have := hb.1; omega) hc) _ _
  · obtain ⟨u0, u1, u2, u3, e0, e1, e2, e3, hL⟩ := h2 q (by omega) (by omega)
    refine ⟨u0, u1, u2, u3, ?_, ?_, ?_, ?_, ?_⟩
    iterate 4 (rw [List.getElem?_append_left (by omega)]; assumption)
    rw [List.getElem_append_left (by omega)]
    exact hL.move (fun b hb => ⟨hb.1, by have := hb.2.1; omega, hne b hb.2.1 hb.2.2⟩) (fun b o' v hb hc => key b o' v hb.2.1 hb.2.2 hc) _ _

end Go.Proofs.YtnbekfpkmebmbaaGreatDoor

/-
  The program's reader: terms with commas between.
-/
namespace Go.Proofs.YtnbekfpkmebmbaaGreatDoor
open Go.RowKit Go.Deep

/-- How many terms may still begin, from each place on: fewer behind each sign that one can begin behind. -/
structure Pot (s : List UInt8) (φ : Nat → Nat) : Prop where
  falls : ∀ i j, i ≤ j → φ j ≤ φ i
  sep : ∀ i c r, s.drop i = c :: r → (c = 123 ∨ c = 91 ∨ c = 44 ∨ c = 124) → φ (i + 1) + 1 ≤ φ i
/-- A place at which a term may be read. -/
structure May (s : List UInt8) (φ : Nat → Nat) (i g d : Nat) : Prop where
  hi : i ≤ s.length
  hg : g + φ i ≤ 65535
  hd : d + (s.length - i) ≤ 262143
/-- The reader reads a term, as 'P' does. -/
def RT (s : List UInt8) (φ : Nat → Nat) (P : Rdr) (N : Nat) : Prop := ∀ (p i g d : Nat) (w : World), RdP w p s i g d → Wld w → 6 ≤ p → May s φ i g d → s.length - i < N →
  Calls Tryz.prog 19 #[.pointer (some ⟨p, 0, none⟩)] w fun e w' => Mv p w w' ∧
    ((∃ T r j g' v, P (s.drop i) = some (T, r) ∧ e = .returned v ∧ Lies w' (fun b => w.heap.size ≤ b) T v ∧ RdP w' p s j g' d ∧ s.drop j = r ∧ i < j ∧ j ≤ s.length ∧ g' + φ j ≤ g + 1 + φ i) ∨ (e = fault4 ∧ P (s.drop i) = none))

/-- What is still to be gathered. -/
def itemsG (P : Rdr) (lim : Bool) (f n : Nat) (q : List UInt8) (L : List Tm) : Option (List Tm × List UInt8) := (itemsP P lim f n q).map fun x => (L ++ x.1, x.2)

/-- What is to come of it, where n terms have been gathered, L, and the reader is at q. -/
def Todo (P : Rdr) (lim : Bool) (f n : Nat) (q : List UInt8) (L : List Tm) : Option (List Tm × List UInt8) :=
  if n = 0 then itemsG P lim f n q L else match strip [44] q with
    | none => some (L, q)
    | some x => itemsG P lim f n x L
theorem itemsG_full {P : Rdr} {lim : Bool} {f n : Nat} {q : List UInt8} {L : List Tm} (hf : q.length < f) (hl : lim = true ∧ 64 ≤ n) : itemsG P lim f n q L = none := by
  cases f with
  | zero => omega
  | succ f => rw [itemsG, itemsP, if_pos hl]; rfl
theorem itemsG_bad {P : Rdr} {lim : Bool} {f n : Nat} {q : List UInt8} {L : List Tm} (hf : q.length < f) (hl : ¬ (lim = true ∧ 64 ≤ n)) (hP : P q = none) : itemsG P lim f n q L = none := by
  cases f with
  | zero => omega
  | succ f => rw [itemsG, itemsP, if_neg hl, hP]; rfl
theorem itemsG_more {P : Rdr} {lim : Bool} {f n : Nat} {q r : List UInt8} {L : List Tm} {T : Tm} (hf : q.length < f) (hl : ¬ (lim = true ∧ 64 ≤ n)) (hP : P q = some (T, r)) (hr : r.length < q.length) :
    ∃ f', (r.length < f') ∧ itemsG P lim f n q L = Todo P lim f' (n + 1) r (L ++ [T]) := by
  cases f with
  | zero => omega
  | succ f =>
    refine ⟨f, by omega, ?_⟩
    rw [itemsG, itemsP, if_neg hl, hP, Todo, if_neg (by omega)]
    simp only
    cases strip [44] r with
    | none => rfl
    | some x =>
      simp only [itemsG]
      cases itemsP P lim f (n + 1) x with
      | none => rfl
      | some y => simp

/-- A row grown: what lies outside of it is as it was. -/
theorem Mv.grown {p : Nat} {w w2 w3 : World} {o : Obj} {own : Option Nat} (h : Mv p w w2) (hb : ∀ g, own = some g → w.heap.size ≤ g) (hg : (w2.alloc o).grownBy w3 own) : Mv p w w3 := by
  have h' : Mv p w (w2.alloc o) := h.trans (Mv.up (Up.refl w2).alloc)
  exact ⟨hg.os.trans h'.os, hg.tape.trans h'.tape, hg.output.trans h'.output, Nat.le_trans h'.size hg.size, fun k hk hn => (hg.block k (Nat.lt_of_lt_of_le hk h'.size) (fun e => by have := hb k e.symm; omega)).trans (h'.block k hk hn)⟩
theorem RdP.grown {p : Nat} {s : List UInt8} {i g d : Nat} {w2 w3 : World} {o : Obj} {own : Option Nat} (h : RdP w2 p s i g d) (hb : ∀ k, own = some k → p < k) (hg : (w2.alloc o).grownBy w3 own) : RdP w3 p s i g d := by
  have h' : RdP (w2.alloc o) p s i g d := h.up (Up.refl w2).alloc
  exact (hg.block p h'.lt (fun e => by have := hb p e.symm; omega)).trans h'
theorem Itm.own {base : Nat} {L : List Tm} {sv : Value} {w : World} (h : Itm base L sv w) : ∀ g, sv.ownBlock = some g → base ≤ g ∧ g < w.heap.size := by
  obtain ⟨xs, h1, _⟩ := h
  exact h1.lt
theorem todo_first {P : Rdr} {lim : Bool} {f : Nat} {q r : List UInt8} {L : List Tm} {T : Tm} {Tot : Option (List Tm × List UInt8)} (h : Todo P lim f 0 q L = Tot) (hf : q.length < f) (hP : P q = some (T, r)) (hr : r.length < q.length) :
    ∃ f', r.length < f' ∧ Todo P lim f' 1 r (L ++ [T]) = Tot := by
  rw [Todo, if_pos rfl] at h
  obtain ⟨f', h1, h2⟩ := itemsG_more (lim := lim) (n := 0) (L := L) hf (fun h => absurd h.2 (by decide)) hP hr
  exact ⟨f', h1, h2.symm.trans h⟩
theorem todo_more {P : Rdr} {lim : Bool} {f n : Nat} {q x r : List UInt8} {L : List Tm} {T : Tm} {Tot : Option (List Tm × List UInt8)} (h : Todo P lim f n q L = Tot) (hn : n ≠ 0) (e : strip [44] q = some x) (hf : q.length < f)
    (hl : ¬ (lim = true ∧ 64 ≤ n)) (hP : P x = some (T, r)) (hr : r.length < x.length) : ∃ f', r.length < f' ∧ Todo P lim f' (n + 1) r (L ++ [T]) = Tot := by
  rw [Todo, if_neg hn, e] at h
  have hx := strip_some e
  have hl2 : q.length = x.length + 1 := by rw [hx]; simp
  obtain ⟨f', h1, h2⟩ := itemsG_more (L := L) (f := f) (by omega) hl hP hr
  exact ⟨f', h1, h2.symm.trans h⟩
theorem todo_bad0 {P : Rdr} {lim : Bool} {f : Nat} {q : List UInt8} {L : List Tm} {Tot : Option (List Tm × List UInt8)} (h : Todo P lim f 0 q L = Tot) (hf : q.length < f) (hP : P q = none) : Tot = none := by
  rw [Todo, if_pos rfl, itemsG_bad hf (fun h => absurd h.2 (by decide)) hP] at h
  exact h.symm
theorem todo_bad {P : Rdr} {lim : Bool} {f n : Nat} {q x : List UInt8} {L : List Tm} {Tot : Option (List Tm × List UInt8)} (h : Todo P lim f n q L = Tot) (hn : n ≠ 0) (e : strip [44] q = some x) (hf : q.length < f)
    (hP : ¬ (lim = true ∧ 64 ≤ n) → P x = none) : Tot = none := by
  rw [Todo, if_neg hn, e] at h
  have hx := strip_some e
  have hl2 : q.length = x.length + 1 := by rw [hx]; simp
  by_cases hl : lim = true ∧ 64 ≤ n
  · exact h.symm.trans (itemsG_full (by omega) hl)
  · exact h.symm.trans (itemsG_bad (by omega) hl (hP hl))
theorem todo_end {P : Rdr} {lim : Bool} {f n : Nat} {q : List UInt8} {L : List Tm} {Tot : Option (List Tm × List UInt8)} (h : Todo P lim f n q L = Tot) (hn : n ≠ 0) (e : strip [44] q = none) : Tot = some (L, q) := by
  rw [Todo, if_neg hn, e] at h
  exact h.symm

set_option maxRecDepth 100000 in
set_option maxHeartbeats 1000000 in
theorem some_any (s : List UInt8) (φ : Nat → Nat) (hs : s.length ≤ 200000) (hφ : Pot s φ) (P : Rdr) (N : Nat) (hP : RT s φ P N) (lim : Bool) (M : Nat) (hM : (lim = true ∧ M = 64) ∨ (lim = false ∧ M = s.length))
    (p i g d : Nat) (w : World) (h : RdP w p s i g d) (hw : Wld w) (hp : 6 ≤ p) (hm : May s φ i g d) (hi1 : 1 ≤ i) (hN : s.length - i < N) (hd : d + (s.length - i) ≤ 262142) :
    Calls Tryz.prog 62 #[.pointer (some ⟨p, 0, none⟩), .int .i64 M] w fun e w' => Mv p w w' ∧
      ((∃ L r j g' a cap, itemsP P lim ((s.drop i).length + 1) 0 (s.drop i) = some (L, r) ∧ e = .returned (.slice a L.length cap) ∧ Lst w' (fun b => w.heap.size ≤ b) L a cap ∧ RdP w' p s j g' d ∧ s.drop j = r ∧ i < j ∧ j ≤ s.length ∧ g' + φ j ≤ g + 1 + φ i ∧ L.length ≤ s.length) ∨ (e = fault4 ∧ itemsP P lim ((s.drop i).length + 1) 0 (s.drop i) = none)) := by
  obtain ⟨⟨c0, c1, c2, c3⟩, f0, f1, f2, f3⟩ := h.cells
  have hlt := h.lt
  obtain ⟨d1, hd1⟩ : ∃ d1, d1 = d + 1 := ⟨_, rfl⟩
  have hwd : IntKind.i64.wrap ((d : Int) + 1) = (d1 : Int) := by rw [hd1, wrap_id] <;> omega
  have hwd2 : IntKind.i64.wrap ((d1 : Int) - 1) = (d : Int) := by rw [hd1, wrap_id] <;> omega
  have hdd : decide ((d1 : Int) ≤ 262144) = true := decide_eq_true (by omega)
  have hdd2 : ((d1 : Int) ≤ 262144) = True := eq_true (by omega)
  have hsH := Hid.mk hs
  have hmH := Hid.mk hm
  have hdH := Hid.mk hd
  have hNH := Hid.mk hN
  have hiH := Hid.mk hi1
  have hd1H := Hid.mk hd1
  clear hs hm hd hN hi1 hd1
  obtain ⟨Tot, hTot⟩ : ∃ Tot, itemsP P lim ((s.drop i).length + 1) 0 (s.drop i) = Tot := ⟨_, rfl⟩
  have hT0 : Hid (Todo P lim ((s.drop i).length + 1) 0 (s.drop i) [] = Tot) := Hid.mk (by rw [Todo, if_pos rfl, itemsG, hTot]; cases Tot <;> simp)
  rw [hTot]
  clear hTot
  go_enter Tryz.func62, Tryz.ntmps62
  go_wp2_with (go_at_call 20; refine (must_yes _).mono ?_; rintro e w1 ⟨rfl, rfl⟩)
  obtain ⟨W1, hW1⟩ : ∃ W1, (w.setCell ⟨p, 3, none⟩ (.int .i64 d1)) = W1 := ⟨_, rfl⟩
  have hR1 : RdP W1 p s i g d1 := by rw [← hW1]; exact h.deep d1
  have hM1 : Mv p w W1 := by rw [← hW1]; exact (Mv.refl p w).set
  rw [hW1]
  clear c0 c1 c2 c3 f0 f1 f2 f3 hW1
  obtain ⟨i0, hi0, hz0, hz1, hby⟩ := info_at termInfo
  go_loopg [5, 6] (s.length - i) (fun q lv nv wr => ∃ (n j g' f : Nat) (L : List Tm), nv = .int .i64 n ∧ Hid (L.length = n) ∧ Hid (j + q = s.length ∧ i + n ≤ j ∧ g' + φ j ≤ g + φ i + (if n = 0 then 0 else 1) ∧ (n = 0 → i = j)) ∧ Itm w.heap.size L lv wr ∧ RdP wr p s j g' d1 ∧ Mv p w wr ∧ Hid ((s.drop j).length < f) ∧ Hid (Todo P lim f n (s.drop j) L = Tot))
  case atStart => exact ⟨0, i, g, _, [], rfl, Hid.mk rfl, Hid.mk ⟨by have := hmH.out.hi; omega, by omega, by simp, fun _ => rfl⟩, Itm.start _ _, hR1, hM1, Hid.mk (Nat.lt_succ_self _), hT0⟩
  case round =>
    clear hR1 hM1 hT0 hdd hdd2 hwd
    obtain ⟨n, j, g', f, L, rfl, hLn, hnum, hI, hR, hMv, hf, hTd⟩ := hrel
    have hjs : j ≤ s.length := by have := hnum.out.1; omega
    have hs9 : s.length ≤ 1000000000 := by have := hsH.out; omega
    have hsk := Hid.mk (skip_any p s [44] j g' d1 wr hR hjs hs9 (by simp))
    have hLs : Hid (L.length ≤ 200000) := Hid.mk (by have h1 := hnum.out; have h2 := hLn.out; have h3 := hsH.out; omega)
    have hstep := Hid.mk (fun (j0 : Nat) (h1 : j ≤ j0) (h2 : j0 ≤ s.length) (h3 : g' + φ j0 ≤ g + φ i) w1 (hr : RdP w1 p s j0 g' d1) (hm1 : Mv p w w1) => hP p j0 g' d1 w1 hr (hm1.wld hw hp) hp ⟨h2, by have := hmH.out.hg; omega, by have h4 := hdH.out; have h5 := hd1H.out; have h6 := hnum.out; omega⟩ (by have h4 := hNH.out; have h6 := hnum.out; omega))
    have hgle0 := hmH.out.hg
    by_cases hn0 : n = 0
    · subst hn0
      obtain rfl : L = [] := List.length_eq_zero_iff.1 hLn.out
      have hnu := hnum.out
      obtain rfl := hnu.2.2.2 rfl
      have hterm := Hid.mk (fun w1 h1 h2 => hstep.out i (Nat.le_refl _) hjs (by have := hnu.2.2.1; simpa using this) w1 h1 h2)
      have hgle : Hid (∀ g3 j3, g3 + φ j3 ≤ g' + 1 + φ i → g3 ≤ 65536) := Hid.mk (fun g3 j3 h => by have := hnu.2.2.1; simp at this; omega)
      have h1 := hR
      have hM1 := hMv
      have hI1 := hI
      clear hnu hs9 hjs hgle0
      go_wp2_with (first
        | (go_at_call 20; refine (must_any _ _).mono ?_; rintro e w2 ⟨⟨hb, rfl⟩ | ⟨hb, rfl⟩, rfl⟩; all_goals (try unfold fault4))
        | (go_at_call 19; refine (hterm.out _ h1 hM1).mono ?_; rintro e w3 ⟨k3, ⟨T, r3, j3, g3, v, eT, rfl, hT, h3, e3, hj3, hjs3, hg3⟩ | ⟨rfl, eT⟩⟩; all_goals (try unfold fault4); all_goals (first | (have hT' := hT; obtain ⟨kk, nn, ss, aa, mm, cc, rfl⟩ := hT'.agg; have hg3H := Hid.mk hg3; have hj3H := Hid.mk hj3; have hjs3H := Hid.mk hjs3; have hgl := hgle.out g3 j3 hg3; have hgl := Hid.mk hgl; clear hg3 hj3 hjs3; have hal := (Up.refl w3).alloc (o := .cells #[.int .i64 kk, .int .i64 nn, .string ss, .slice aa mm cc] 24); have h4 := h3.up hal; have hM4 := (hM1.trans k3).trans (Mv.up hal); have hI4 := (hI1.mv k3 hlt).mv (Mv.up hal) hlt; have hT4 := hT.below hal; have htb := new_block w3 (.cells #[.int .i64 kk, .int .i64 nn, .string ss, .slice aa mm cc] 24); obtain ⟨⟨q0, q1, q2, q3⟩, _⟩ := kept4 htb (Below.refl _ _); obtain ⟨W4, hW4⟩ : ∃ W4, w3.alloc (.cells #[.int .i64 kk, .int .i64 nn, .string ss, .slice aa mm cc] 24) = W4 := ⟨_, rfl⟩; rw [hW4] at h4 hM4 hI4 hT4 q0 q1 q2 q3; have hz3 : wr.heap.size ≤ w3.heap.size := k3.size; have hzW : Hid (W4.heap.size = w3.heap.size + 1) := Hid.mk (by rw [← hW4, World.size_alloc]); obtain ⟨xs, hx1, hx2⟩ := hI4; have hbW := (hM4.size : w.heap.size ≤ W4.heap.size)) | skip))
        | (go_at_call 21; refine (tooLong_any p s j3 g3 d1 _ h4 hgl.out).mono ?_; rintro e w5 ⟨rfl, rfl⟩)
        | (at_builtin; refine wpList_append_own_at _ rfl _ _ 22 rfl w.heap.size 24 i0 _ 4 56 Tryz.underlying22 hi0 hz0 hz1 hby rfl (by decide) _ _ _ rfl (hx1.alloc _) ⟨W4.heap.size, 0, none⟩ 1 1 [.int .i64 kk, .int .i64 nn, .string ss, .slice aa mm cc] rfl rfl (cells_new _ _ _) (fun x hx => by simp at hx; rcases hx with rfl | rfl | rfl | rfl <;> rfl) (by unfold maxLen; have := hLs.out; omega) (by have := hLs.out; omega) (by simp; omega) ?_; intro v' w6 hown' hgrow hnil hat))
      · obtain ⟨f', hf', hT'⟩ := todo_first hTd.out hf.out eT (by rw [← e3, List.length_drop, List.length_drop]; have h5 := hj3H.out; have h6 := hjs3H.out; omega)
        go_roundg (s.length - j3)
        case measure => have h5 := hj3H.out; have h6 := hjs3H.out; have h7 := hnum.out; omega
        case rel =>
          have h5 := hj3H.out
          have h6 := hjs3H.out
          have h7 := hnum.out
          have h8 := hg3H.out
          exact ⟨1, j3, g3, f', [T], rfl, Hid.mk rfl, Hid.mk ⟨by omega, by omega, by have := h7.2.2.1; simp at this ⊢; omega, by simp⟩, Itm.add (L := []) hx1 hx2 hT4 (Nat.le_trans (Nat.le_refl _) hM1.size) (fun g hg => (hI1.own g hg).2) hown' hgrow hat, h4.grown (fun k hk => by have := (hI1.own k hk).1; omega) hgrow, hM4.grown (fun k hk => (hI1.own k hk).1) hgrow, Hid.mk (by rw [e3]; exact hf'), Hid.mk (by rw [e3]; exact hT')⟩
      · exact ⟨rfl, hM1.trans k3, Or.inr ⟨rfl, todo_bad0 hTd.out hf.out eT⟩⟩
      · exact absurd (of_decide_eq_false hb) (by have h5 := hmH.out.hi; have h6 := hiH.out; rcases hM with ⟨_, hM⟩ | ⟨_, hM⟩ <;> omega)
    · have hn1 : ((n : Int) == 0) = false := by rw [beq_eq_false_iff_ne]; omega
      have hn0H := Hid.mk hn0
      have hjsH := Hid.mk hjs
      have hterm2 := Hid.mk (fun (h1 : j + [44].length ≤ s.length) (h2 : g' + φ (j + 1) ≤ g + φ i) w1 hr hm => hstep.out (j + [44].length) (by simp) h1 h2 w1 hr hm)
      have hgle2 := Hid.mk (fun (h2 : g' + φ (j + 1) ≤ g + φ i) g3 j3 (h : g3 + φ j3 ≤ g' + 1 + φ (j + [44].length)) => show g3 ≤ 65536 by simp only [List.length_cons, List.length_nil, Nat.zero_add] at h; omega)
      have hpot := Hid.mk (fun (r : List UInt8) (e : strip [44] (s.drop j) = some r) => show g' + φ (j + 1) ≤ g + φ i by
        have h1 := hφ.sep j 44 r (strip_some e) (by simp)
        have h2 := hnum.out.2.2.1
        rw [if_neg hn0] at h2
        omega)
      clear hs9 hn0 hjs hgle0
      go_wp2_with (first
        | (go_at_call 40; refine hsk.out.mono ?_; rintro e w1 ⟨k1, ⟨r, e1, rfl, h1, e2, hi1⟩ | ⟨e1, rfl, h1⟩⟩; all_goals (have hI1 := hI.mv k1 hlt; have hM1 := hMv.trans k1; obtain ⟨⟨c0, c1, c2, c3⟩, f0, f1, f2, f3⟩ := h1.cells); all_goals (first | (have hterm := Hid.mk (hterm2.out hi1 (hpot.out r e1)); have hgle := Hid.mk (hgle2.out (hpot.out r e1)); have hi1 := Hid.mk hi1) | skip))
        | (go_at_call 20; refine (must_any _ _).mono ?_; rintro e w2 ⟨⟨hb, rfl⟩ | ⟨hb, rfl⟩, rfl⟩; all_goals (try unfold fault4))
        | (go_at_call 19; refine (hterm.out _ h1 hM1).mono ?_; rintro e w3 ⟨k3, ⟨T, r3, j3, g3, v, eT, rfl, hT, h3, e3, hj3, hjs3, hg3⟩ | ⟨rfl, eT⟩⟩; all_goals (try unfold fault4); all_goals (first | (have hT' := hT; obtain ⟨kk, nn, ss, aa, mm, cc, rfl⟩ := hT'.agg; have hg3H := Hid.mk hg3; have hj3H := Hid.mk hj3; have hjs3H := Hid.mk hjs3; have hgl := hgle.out g3 j3 hg3; have hgl := Hid.mk hgl; clear hg3 hj3 hjs3; have hal := (Up.refl w3).alloc (o := .cells #[.int .i64 kk, .int .i64 nn, .string ss, .slice aa mm cc] 24); have h4 := h3.up hal; have hM4 := (hM1.trans k3).trans (Mv.up hal); have hI4 := (hI1.mv k3 hlt).mv (Mv.up hal) hlt; have hT4 := hT.below hal; have htb := new_block w3 (.cells #[.int .i64 kk, .int .i64 nn, .string ss, .slice aa mm cc] 24); obtain ⟨⟨q0, q1, q2, q3⟩, _⟩ := kept4 htb (Below.refl _ _); obtain ⟨W4, hW4⟩ : ∃ W4, w3.alloc (.cells #[.int .i64 kk, .int .i64 nn, .string ss, .slice aa mm cc] 24) = W4 := ⟨_, rfl⟩; rw [hW4] at h4 hM4 hI4 hT4 q0 q1 q2 q3; have hz3 : w1.heap.size ≤ w3.heap.size := k3.size; have hzW : Hid (W4.heap.size = w3.heap.size + 1) := Hid.mk (by rw [← hW4, World.size_alloc]); obtain ⟨xs, hx1, hx2⟩ := hI4; have hbW := (hM4.size : w.heap.size ≤ W4.heap.size)) | skip))
        | (go_at_call 21; refine (tooLong_any p s j3 g3 d1 _ h4 hgl.out).mono ?_; rintro e w5 ⟨rfl, rfl⟩)
        | (at_builtin; refine wpList_append_own_at _ rfl _ _ 22 rfl w.heap.size 24 i0 _ 4 56 Tryz.underlying22 hi0 hz0 hz1 hby rfl (by decide) _ _ _ rfl (hx1.alloc _) ⟨W4.heap.size, 0, none⟩ 1 1 [.int .i64 kk, .int .i64 nn, .string ss, .slice aa mm cc] rfl rfl (cells_new _ _ _) (fun x hx => by simp at hx; rcases hx with rfl | rfl | rfl | rfl <;> rfl) (by unfold maxLen; have := hLs.out; omega) (by have := hLs.out; omega) (by simp; omega) ?_; intro v' w6 hown' hgrow hnil hat))
      · have hl : ¬ (lim = true ∧ 64 ≤ n) := fun h => by
          have h5 := of_decide_eq_true hb
          rcases hM with ⟨_, hM⟩ | ⟨hM, _⟩
          · omega
          · rw [hM] at h; exact absurd h.1 (by simp)
        have h5 := hj3H.out
        have h6 := hjs3H.out
        simp only [List.length_cons, List.length_nil, Nat.zero_add] at h5 e2 eT
        rw [e2] at eT
        obtain ⟨f', hf', hT'⟩ := todo_more hTd.out hn0H.out e1 hf.out hl eT (by rw [← e3, ← e2, List.length_drop, List.length_drop]; omega)
        have hn5 : n ≤ 200000 := by have h7 := hLn.out; have h8 := hLs.out; omega
        go_roundg (s.length - j3)
        case measure => have h7 := hnum.out; omega
        case rel =>
          have h7 := hnum.out
          have h8 := hg3H.out
          have h9 := hpot.out r e1
          simp only [List.length_cons, List.length_nil, Nat.zero_add] at h8
          have hLn' := hLn.out
          exact ⟨n + 1, j3, g3, f', L ++ [T], by rw [show wrap64 ((n : Int) + 1) = ((n + 1 : Nat) : Int) from by unfold wrap64; omega], Hid.mk (by simp; omega), Hid.mk ⟨by omega, by omega, by rw [if_neg (by omega)]; omega, by simp⟩, Itm.add hx1 hx2 hT4 hM1.size (fun g hg => (hI1.own g hg).2) hown' hgrow hat, h4.grown (fun k hk => by have := (hI1.own k hk).1; omega) hgrow, hM4.grown (fun k hk => (hI1.own k hk).1) hgrow, Hid.mk (by rw [e3]; exact hf'), Hid.mk (by rw [e3]; exact hT')⟩
      · exact ⟨rfl, hM1.trans k3, Or.inr ⟨rfl, todo_bad hTd.out hn0H.out e1 hf.out (fun _ => by rw [← e2]; exact eT)⟩⟩
      · refine ⟨rfl, hM1, Or.inr ⟨rfl, todo_bad hTd.out hn0H.out e1 hf.out (fun hl => absurd (of_decide_eq_false hb) ?_)⟩⟩
        rcases hM with ⟨h5, hM⟩ | ⟨_, hM⟩
        · exact absurd h5 (fun h5 => hl ⟨h5, by have := of_decide_eq_false hb; omega⟩)
        · have h5 := hnum.out
          have h6 := hiH.out
          have h7 := hjsH.out
          omega
      · have hI2 := hI1.mv (Mv.refl p w1).set hlt (w' := w1.setCell ⟨p, 3, none⟩ (.int .i64 d))
        obtain ⟨a, cap, rfl, hl⟩ := hI2.out
        go_ret
        have h5 := hnum.out
        have h6 := hn0H.out
        rw [if_neg h6] at h5
        exact ⟨hM1.set, Or.inl ⟨L, s.drop j, j, g', a, cap, todo_end hTd.out h6 e1, rfl, hl, h1.deep d, rfl, by omega, hjsH.out, by omega, by have h7 := hLn.out; have h8 := hjsH.out; omega⟩⟩

end Go.Proofs.YtnbekfpkmebmbaaGreatDoor
