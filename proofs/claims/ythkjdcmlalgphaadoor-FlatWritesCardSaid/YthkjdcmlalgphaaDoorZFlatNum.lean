/-
  The document's writer of flat words: the atoms' numbers.
-/
import Derived.Test.YthkjdcmlalgphaaDoorZFlatRow
import Derived.Test.YthkjdcmlalgphaaDoorZAtomR
import Derived.Test.YthkjdcmlalgphaaDoorZKitLast
import Derived.Deep.RegionWith
import Derived.Deep.Cut
namespace Go.Proofs.YthkjdcmlalgphaaDoor
open Go.RowKit Go.Deep

/-- Since w0 nothing has been written but blocks of B; there is the document's table. -/
structure RSt (B : Nat → Prop) (w0 w : World) (q : Nat) (L : List ByteArray) (v : Value) : Prop where
  tab : RTab w q v L
  only : Only B w0 w
  mine : ∀ k, MineR q v k → B k ∨ w0.heap.size ≤ k
theorem RSt.up {B : Nat → Prop} {w0 w w' : World} {q : Nat} {L : List ByteArray} {v : Value} (h : RSt B w0 w q L v) (hb : Below w.heap.size w w') : RSt B w0 w' q L v := ⟨h.tab.up hb, h.only.call hb, h.mine⟩
theorem mineR_left {w : World} {q : Nat} {v v' : Value} (h : ∀ k, v'.ownBlock = some k → v.ownBlock = some k ∨ w.heap.size ≤ k) : ∀ k, MineR q v' k → MineR q v k ∨ w.heap.size ≤ k := fun k hk => by
  rcases hk with hk | hk
  · exact Or.inl (Or.inl hk)
  · exact (h k hk).elim (fun h => Or.inl (Or.inr h)) Or.inr
theorem RSt.left {B : Nat → Prop} {w0 w w' : World} {q : Nat} {L L' : List ByteArray} {v : Value} (h : RSt B w0 w q L v) (hl : LeftR w q v L' w') : ∃ v', RSt B w0 w' q L' v' := by
  obtain ⟨v', hT, ho, hM⟩ := hl
  refine ⟨v', hT, h.only.trans ho (fun i hi => h.mine i hi), fun k hk => ?_⟩
  rcases mineR_left hM k hk with hk | hk
  · exact h.mine k hk
  · exact Or.inr (Nat.le_trans h.only.size hk)
theorem RSt.keep {B : Nat → Prop} {w0 w : World} {q : Nat} {L : List ByteArray} {v : Value} (h : RSt B w0 w q L v) {b o : Nat} {u : Value} (hb : ¬ B b) (hc : w0.cell? ⟨b, o, none⟩ = some u) : w.cell? ⟨b, o, none⟩ = some u := by
  rw [World.cell?_of_block (w := w0) (a := ⟨b, o, none⟩) (h.only.block b (World.block_lt_of_cell? w0 ⟨b, o, none⟩ hc) hb)]
  exact hc
theorem Only.lies {B : Nat → Prop} {w0 w : World} (h : Only B w0 w) {S : Nat → Prop} (hS : ∀ b, S b → b < w0.heap.size ∧ ¬ B b) {T : Tm} {tv : Value} (hT : Lies w0 S T tv) : Lies w S T tv :=
  hT.move (fun _ h => h) (fun b o u hb hc => by
    rw [World.cell?_of_block (w := w0) (a := ⟨b, o, none⟩) (h.block b (hS b hb).1 (hS b hb).2)]
    exact hc) _ _
theorem Only.lst {B : Nat → Prop} {w0 w : World} (h : Only B w0 w) {S : Nat → Prop} (hS : ∀ b, S b → b < w0.heap.size ∧ ¬ B b) {l : List Tm} {a : Option Addr} {cap : Nat} (hT : Lst w0 S l a cap) : Lst w S l a cap :=
  hT.move (fun _ h => h) (fun b o u hb hc => by
    rw [World.cell?_of_block (w := w0) (a := ⟨b, o, none⟩) (h.block b (hS b hb).1 (hS b hb).2)]
    exact hc)
theorem RSt.base {B : Nat → Prop} {w0 w : World} {q : Nat} {L : List ByteArray} {v : Value} (h : RSt B w0 w q L v) : RSt (MineR q v) w w q L v := ⟨h.tab, Only.refl _ _, fun _ hk => Or.inl hk⟩
theorem RSt.back {B : Nat → Prop} {w0 w w' : World} {q : Nat} {L L' : List ByteArray} {v v' : Value} (h : RSt B w0 w q L v) (h' : RSt (MineR q v) w w' q L' v') : RSt B w0 w' q L' v' :=
  ⟨h'.tab, h.only.trans h'.only (fun i hi => h.mine i hi), fun k hk => by
    rcases h'.mine k hk with hk | hk
    · exact h.mine k hk
    · exact Or.inr (Nat.le_trans h.only.size hk)⟩
theorem RSt.not_mine {B : Nat → Prop} {w0 w : World} {q : Nat} {L : List ByteArray} {v : Value} (h : RSt B w0 w q L v) {b : Nat} (hb : ¬ B b) (hl : b < w0.heap.size) : ¬ MineR q v b := fun hk => (h.mine b hk).elim hb (fun hh => by omega)

set_option maxHeartbeats 4000000 in
set_option maxRecDepth 100000 in
theorem numbersR_any (T : Tm) : T.fits = true → ∀ (S B : Nat → Prop) (w0 : World) (q xb : Nat) (tv : Value), w0.cell? ⟨xb, 0, none⟩ = some (.pointer (some ⟨q, 0, none⟩)) → ¬ B xb → (∀ b, S b → b < w0.heap.size ∧ ¬ B b) → Lies w0 S T tv →
    ∀ (w : World) (L : List ByteArray) (v : Value), RSt B w0 w q L v →
    Calls Tryd.prog 45 #[.pointer (some ⟨xb, 0, none⟩), tv] w fun e w' => ∃ v', e = .returned (.bool (T.nums L).1) ∧ RSt B w0 w' q (T.nums L).2 v' := by
  induction T using Tm.induct with
  | h k n s l ih0 =>
    intro hf S B w0 q xb tv hx nx hS hT w L v h
    have ih := Hid.mk ih0
    clear ih0
    obtain ⟨a, cap, rfl, hsm, hl⟩ := hT.out
    rw [fits_mk, Bool.and_eq_true] at hf
    obtain ⟨W0, hW0⟩ : ∃ W0, w.alloc (.cells #[.int .i64 k, .int .i64 n, .string s, .slice a l.length cap] 25) = W0 := ⟨_, rfl⟩
    have hb0 : Below w.heap.size w W0 := by rw [← hW0]; exact (Below.refl _ _).alloc (Nat.le_refl _) _
    have hbx : W0.heap[w.heap.size]? = some (.cells #[.int .i64 k, .int .i64 n, .string s, .slice a l.length cap] 25) := by rw [← hW0]; exact new_block _ _
    have hU := h.up hb0
    have ntb : ¬ MineR q v w.heap.size := fun hk => by have := h.tab.lt hk; omega
    have cx := hU.keep nx hx
    have nx0 := hU.not_mine nx (World.block_lt_of_cell? w0 ⟨xb, 0, none⟩ hx)
    have hS0 : ∀ b, S b → b < W0.heap.size ∧ ¬ MineR q v b := fun b hb => ⟨Nat.lt_of_lt_of_le (hS b hb).1 hU.only.size, hU.not_mine (hS b hb).2 (hS b hb).1⟩
    have hl0 : Lst W0 S l a cap := hU.only.lst hS hl
    have hback := Hid.mk (fun (w' : World) (L' : List ByteArray) (v' : Value) (h' : RSt (MineR q v) W0 w' q L' v') => hU.back h')
    have h0 := Hid.mk hU.base
    obtain ⟨⟨t0, t1, t2, t3⟩, _⟩ := kept4 hbx (Below.refl _ _)
    have HF := Hid.mk hf.1
    have HFs := Hid.mk hf.2
    have HS0 := Hid.mk hS0
    have HL := Hid.mk hl0
    have NTB := Hid.mk ntb
    have NX := Hid.mk nx0
    have HTB := Hid.mk hbx
    by_cases h2 : k = 2
    · subst h2
      rw [nums_atom]
      have hint := Hid.mk (fun w1 h1 => internR_any q v L s w1 h1 (by have := hf.1; simp only [fitB, decide_eq_true_eq] at this; omega))
      have he : decide ((put L s).2.1 = 0) = ((((put L s).2.1 : Nat) : Int) == 0) := by
        rw [Bool.eq_iff_iff]
        simp
      rw [he]
      clear he hS hT hl hU h hf hS0 hl0 ntb nx0 hb0 hbx hsm hx nx
      go_enter Tryd.func45, Tryd.ntmps45
      go_upto_region 1 with fail
      try rw [hW0]
      clear hW0
      go_wp2
      have hd0 := h0.out.up (Below.drew (Below.refl W0.heap.size W0))
      refine wp_region_held (S := fun _ => True) (by kernel_rfl) ?_
      refine chain_take (i := 0) (d := 12) (v := .pointer (some ⟨xb, 0, none⟩)) rfl rfl (by kernel_rfl) (by kernel_rfl) (by kernel_rfl) rfl (fun _ _ => rfl) (fun _ _ _ h => h) trivial ?_
      simp only [Act.put, List.setIfInBounds_toArray, List.set_cons_zero, List.set_cons_succ]
      refine chain_take (i := 1) (d := 13) (v := .pointer (some ⟨xb, 0, none⟩)) rfl rfl (by kernel_rfl) (by kernel_rfl) (by kernel_rfl) rfl (fun _ _ => (by go_simp)) (fun _ _ _ h => h) trivial ?_
      simp only [Act.put, List.setIfInBounds_toArray, List.set_cons_zero, List.set_cons_succ]
      refine chain_take (i := 2) (d := 14) (v := .pointer (some ⟨xb, 0, none⟩)) rfl rfl (by kernel_rfl) (by kernel_rfl) (by kernel_rfl) rfl (fun _ _ => (by go_simp)) (fun _ _ _ h => h) trivial ?_
      simp only [Act.put, List.setIfInBounds_toArray, List.set_cons_zero, List.set_cons_succ]
      refine chain_take (i := 4) (d := 16) (v := .pointer (some ⟨w.heap.size, 2, none⟩)) rfl rfl (by kernel_rfl) (by kernel_rfl) (by kernel_rfl) rfl (fun _ _ => (by go_simp)) (fun _ _ _ h => h) trivial ?_
      simp only [Act.put, List.setIfInBounds_toArray, List.set_cons_zero, List.set_cons_succ]
      refine chain_pair (i := 3) (j := 5) (d := 15) (e := 17) (u := .pointer (some ⟨q, 0, none⟩)) (v := .string s) (by kernel_rfl) rfl rfl rfl rfl (by decide) (by decide) (by kernel_rfl) (by kernel_rfl) rfl rfl rfl rfl (by go_simp) (by go_simp) (by go_simp) (by go_simp) trivial ?_
      simp only [Act.put, List.setIfInBounds_toArray, List.set_cons_zero, List.set_cons_succ]
      refine chain_call (i := 6) (d := 18) (f := 36) (args := #[.pointer (some ⟨q, 0, none⟩), .string s]) (by kernel_rfl) rfl rfl rfl (by go_simp) ?_
      refine (hint.out _ hd0.tab).mono ?_
      rintro e w1 ⟨rfl, hl1⟩
      refine ⟨.tuple #[.int .i64 (put L s).1, .int .i64 (put L s).2.1], rfl, trivial, ?_⟩
      simp only [Act.put, List.setIfInBounds_toArray, List.set_cons_zero, List.set_cons_succ]
      refine chain_take (i := 7) (d := 11) (v := .tuple #[.int .i64 (put L s).1, .int .i64 (put L s).2.1]) rfl rfl (by kernel_rfl) (by kernel_rfl) (by kernel_rfl) rfl (fun _ _ => rfl) (fun _ _ _ h => h) trivial ?_
      simp only [Act.put, List.setIfInBounds_toArray, List.set_cons_zero, List.set_cons_succ]
      refine chain_take (i := 8) (d := 19) (v := .int .i64 (put L s).1) rfl rfl (by kernel_rfl) (by kernel_rfl) (by kernel_rfl) rfl (fun _ _ => (by go_simp)) (fun _ _ _ h => h) trivial ?_
      simp only [Act.put, List.setIfInBounds_toArray, List.set_cons_zero, List.set_cons_succ]
      refine chain_take (i := 9) (d := 20) (v := .int .i64 (put L s).2.1) rfl rfl (by kernel_rfl) (by kernel_rfl) (by kernel_rfl) rfl (fun _ _ => (by go_simp)) (fun _ _ _ h => h) trivial ?_
      simp only [Act.put, List.setIfInBounds_toArray, List.set_cons_zero, List.set_cons_succ]
      refine chain_take (i := 10) (d := 5) (v := .int .i64 (put L s).1) rfl rfl (by kernel_rfl) (by kernel_rfl) (by kernel_rfl) rfl (fun _ _ => rfl) (fun _ _ _ h => h) trivial ?_
      simp only [Act.put, List.setIfInBounds_toArray, List.set_cons_zero, List.set_cons_succ]
      refine chain_take (i := 11) (d := 6) (v := .int .i64 (put L s).2.1) rfl rfl (by kernel_rfl) (by kernel_rfl) (by kernel_rfl) rfl (fun _ _ => rfl) (fun _ _ _ h => h) trivial ?_
      simp only [Act.put, List.setIfInBounds_toArray, List.set_cons_zero, List.set_cons_succ]
      refine wpAnyH_done (by kernel_rfl) ?_ _
      go_wp2
      go_ret
      obtain ⟨v1, h1⟩ := hd0.left hl1
      exact ⟨v1, rfl, hback.out _ _ _ h1⟩
    · rw [nums_other h2]
      have hk2 : (k == 2) = false := by simpa using h2
      clear hS hT hl hU h hf hS0 hl0 ntb nx0 hb0 hbx hsm hx nx
      go_enter Tryd.func45, Tryd.ntmps45
      go_upto_region 1 with fail
      try rw [hW0]
      clear hW0
      have hll : l.length ≤ 64 := by
        have := HF.out
        simp only [fitB, decide_eq_true_eq] at this
        omega
      go_wp2
      go_loopw [7] (fun ii wr => ∃ (i : Nat) (Li : List ByteArray) (vi : Value), i ≤ l.length ∧ ii = .int .i64 i ∧ Hid (RSt (MineR q v) W0 wr q Li vi) ∧ Hid ((numss (l.take i) L).1 = true ∧ Li = (numss (l.take i) L).2)) (fun ii _ => l.length - (intOf ii).toNat)
      case atStart => exact ⟨0, L, v, Nat.zero_le _, rfl, h0, Hid.mk ⟨by rw [List.take_zero, numss_nil], by rw [List.take_zero, numss_nil]⟩⟩
      case round =>
        obtain ⟨i, Li, vi, hi, rfl, hLi, hNi⟩ := hrel
        have t3' := hLi.out.keep NTB.out t3
        by_cases hlt : i < l.length
        · obtain ⟨b, o, ha, hSb, hr⟩ := HL.out.some (by omega)
          subst ha
          obtain ⟨k', n', s', m', a', cap', hTt, c0, c1, c2, c3, hli⟩ := hr.part i hlt
          have nb := (HS0.out b hSb).2
          have c0 := hLi.out.keep nb c0
          have c1 := hLi.out.keep nb c1
          have c2 := hLi.out.keep nb c2
          have c3 := hLi.out.keep nb c3
          have hwi : IntKind.i64.wrap ((i : Int) + 1) = ((i + 1 : Nat) : Int) := by rw [wrap_id (by omega) (by omega)]; omega
          have hih := ih.out l[i] (List.getElem_mem hlt) (fitss_all HFs.out _ (List.getElem_mem hlt)) S _ W0 q xb _ cx NX.out HS0.out hli wr Li vi hLi.out
          have hnt := numss_take l L i hlt hNi.out.1
          rw [← hNi.out.2] at hnt
          have hcn : (numss (l.take (i + 1)) L).1 = false → (numss l L).1 = false ∧ (numss l L).2 = (numss (l.take (i + 1)) L).2 := fun h => by
            rw [numss_take_no l L (i + 1) h]
            exact ⟨h, rfl⟩
          obtain ⟨tt, htt⟩ : ∃ tt, l[i] = tt := ⟨_, rfl⟩
          simp only [htt] at hih hnt
          have HNT := Hid.mk hnt
          have HCN := Hid.mk hcn
          have HLT := Hid.mk hlt
          clear hnt hcn hTt htt hli
          have hle : decide ((i : Int) < l.length) = true := by rw [decide_eq_true_eq]; omega
          cases hbt : (tt.nums Li).1 with
          | true =>
            have HB := Hid.mk hbt
            rw [hbt] at hih
            have HIH := Hid.mk hih
            clear hih hbt hlt
            go_wp2_with (first
              | (go_at_call 45; refine HIH.out.mono ?_; rintro e w7 ⟨v7, rfl, h7⟩; have H7 := Hid.mk h7; clear h7))
            go_roundw
            case rel =>
              have hlt := HLT.out
              exact ⟨i + 1, _, v7, by omega, by first | rfl | go_num, H7, Hid.mk ⟨by rw [HNT.out, HB.out], by rw [HNT.out]⟩⟩
            case measure =>
              have hlt := HLT.out
              simp [intOf]
              omega
          | false =>
            have HB := Hid.mk hbt
            rw [hbt] at hih
            have HIH := Hid.mk hih
            clear hih hbt hlt
            go_wp2_with (first
              | (go_at_call 45; refine HIH.out.mono ?_; rintro e w7 ⟨v7, rfl, h7⟩; have H7 := Hid.mk h7; clear h7))
            go_ret
            have hcn := HCN.out (by rw [HNT.out]; exact HB.out)
            rw [HNT.out] at hcn
            rw [hcn.1, hcn.2]
            exact ⟨v7, rfl, hback.out _ _ _ H7.out⟩
        · obtain rfl : i = l.length := by omega
          have hN := hNi.out
          rw [List.take_length] at hN
          go_wp2
          go_ret
          obtain ⟨hN1, hN2⟩ := hN
          subst hN2
          rw [hN1]
          exact ⟨vi, rfl, hback.out _ _ _ hLi.out⟩
end Go.Proofs.YthkjdcmlalgphaaDoor
