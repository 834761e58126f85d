/-
  One bucket more, the program's.
-/
import Derived.Test.YtkijbphbibcnoaaLinPf
namespace Go.Proofs.Ytkijbphbibcnoaa
open Go.RowKit Go.Deep Go.Maps Go.WideShapes

section
variable {w w' : World} {p least : Nat} {v : Value} {S : Nat → Prop} {B B' : Bks}
/-- One row more, empty. -/
theorem Bx.snoc {t : TypeId} {cs : Array Value} (h : Bx t cs w p v S B) : ∃ ls, Ow rwS w v ls ∧ ls.length = B.length ∧ ∀ (w9 : World) (v9 : Value), Only (fun k => v.ownBlock = some k) w w9 → Ow rwS w9 v9 (ls ++ [⟨none, 0, 0⟩]) → (∀ b, v9.ownBlock = some b → v.ownBlock = some b ∨ w.heap.size ≤ b) →
    ∃ S', Bx t (cs.setIfInBounds 1 v9) (w9.setCell ⟨p, 1, none⟩ v9) p v9 S' (B ++ [[]]) ∧ Only S w (w9.setCell ⟨p, 1, none⟩ v9) ∧ ∀ k, S' k → S k ∨ w.heap.size ≤ k := by
  obtain ⟨ls, hg⟩ := h.gd
  refine ⟨ls, hg.outer, hg.len, fun w9 v9 ho hv hn => ?_⟩
  have hvS : ∀ k, v.ownBlock = some k → S k ∧ k ≠ p := fun k hk => hg.sv k hk
  have hg9 := hg.snoc (l := []) (fun k hk => h.lt k hk.1) ho hv hn (show Ow itS w9 (Sl.v ⟨none, 0, 0⟩) [] from Ow.nil _) (fun b hb => by cases hb)
  have hoS : Only S w w9 := ho.mono fun k hk => (hvS k hk).1
  have hset : Only (fun k => k = p) w9 (w9.setCell ⟨p, 1, none⟩ v9) := Only.set w9 _ rfl
  have hp9 : ∀ k, v9.ownBlock = some k → k ≠ p := fun k hk e => by
    rcases hn k hk with e2 | e2
    · exact (hvS k e2).2 e
    · have := h.lt p h.sp; omega
  refine ⟨fun k => S k ∨ v9.ownBlock = some k, ⟨put_box (ho.box h.box (fun hk => (hvS p hk).2 rfl)) 1 _, ?_, Or.inl h.sp, fun k hk => ?_⟩, hoS.put h.sp _ _, fun k hk => ?_⟩
  · refine Gd.kept (T := fun k => k = p) (Gd.wider ⟨_, hg9⟩ fun k hk => ?_) hset (fun k hk => hk.2)
    rcases hk with hk | hk | hk
    · exact ⟨Or.inl hk.1, hk.2⟩
    · cases hk
    · exact ⟨Or.inr hk, hp9 k hk⟩
  · rw [size_setCell']
    rcases hk with hk | hk
    · exact Nat.lt_of_lt_of_le (h.lt k hk) ho.size
    · exact hv.lt hk
  · rcases hk with hk | hk
    · exact Or.inl hk
    · rcases hn k hk with e2 | e2
      · exact Or.inl (hvS k e2).1
      · exact Or.inr e2

theorem only_old (ho : Only (fun k => ¬ k < w.heap.size) w w') {b o : Nat} {u : Value} (hc : w.cell? ⟨b, o, none⟩ = some u) : w'.cell? ⟨b, o, none⟩ = some u := ho.cellS (fun h => h (World.block_lt_of_cell? w ⟨b, o, none⟩ hc)) hc
end

set_option maxHeartbeats 16000000 in
set_option maxRecDepth 100000 in
theorem splitP_any (w : World) (p least : Nat) (S : Nat → Prop) (B : Bks) (hb : LbP w p least S B) (hF : Fine B) :
    Calls Try.prog 19 #[.pointer (some ⟨p, 0, none⟩)] w fun e w' => e = .returned (.int .i64 0) ∧ StL LbP w p least S (splitB B) w' := by
  obtain ⟨v, hb⟩ := hb
  have hfl := hF.len
  have hfs := hF.size
  have h1 := hF.placed.some_
  have hPL := Hid.mk hF.placed
  obtain ⟨F, hFe⟩ : ∃ F, bkt B.length B.length = F := ⟨_, rfl⟩
  have hFl : F < B.length := by rw [← hFe]; exact bkt_lt _ _ h1
  have hsp := splitB_eq hF.placed
  rw [← bkt_src B.length h1, hFe, rowB_lt hFl] at hsp
  -- the boxes of what the closures read
  obtain ⟨W1, hW1⟩ : ∃ W1, w.alloc (.cells #[.pointer (some ⟨p, 0, none⟩)] 23) = W1 := ⟨_, rfl⟩
  obtain ⟨W2, hW2⟩ : ∃ W2, W1.alloc (.cells #[.int .i64 B.length] 3) = W2 := ⟨_, rfl⟩
  obtain ⟨W3, hW3⟩ : ∃ W3, W2.alloc (.cells #[.int .i64 F] 3) = W3 := ⟨_, rfl⟩
  have hz1 : W1.heap.size = w.heap.size + 1 := by rw [← hW1]; simp
  have hz2 : W2.heap.size = w.heap.size + 1 + 1 := by rw [← hW2]; simp [hz1]
  have hz3 : W3.heap.size = w.heap.size + 1 + 1 + 1 := by rw [← hW3]; simp [hz2]
  have hu1 : Below w.heap.size w W1 := by rw [← hW1]; exact (Up.alloc (Up.refl w)).out
  have hu2 : Below W1.heap.size W1 W2 := by rw [← hW2]; exact (Up.alloc (Up.refl W1)).out
  have hu3 : Below W2.heap.size W2 W3 := by rw [← hW3]; exact (Up.alloc (Up.refl W2)).out
  have b1 : W1.cell? ⟨w.heap.size, 0, none⟩ = some (.pointer (some ⟨p, 0, none⟩)) := by rw [← hW1]; exact new_cell _ _ _ 0
  have b2 := cell_below hu2 _ _ _ b1
  have b0 := cell_below hu3 _ _ _ b2
  have l2 : W2.cell? ⟨w.heap.size + 1, 0, none⟩ = some (.int .i64 B.length) := by rw [← hW2, ← hz1]; exact new_cell _ _ _ 0
  have l0 := cell_below hu3 _ _ _ l2
  have f0 : W3.cell? ⟨w.heap.size + 1 + 1, 0, none⟩ = some (.int .i64 F) := by rw [← hW3, ← hz2]; exact new_cell _ _ _ 0
  have hu13 : Below w.heap.size w W3 := hu1.trans ((hu2.trans (hu3.mono (by omega))).mono (by omega))
  have hbA := hb.up hu1
  obtain ⟨⟨a0, a1, _, _⟩, _, _⟩ := bxP_cells hbA
  have aa1 := cell_below hu2 _ _ _ a1
  have hbx := hb.up hu13
  obtain ⟨⟨c0, c1, _, _⟩, fz1, _⟩ := bxP_cells hbx
  obtain ⟨g, cap, ax, cx, rfl, hcap, hy1, hy2, hy3, hy4, hy5, hgp, hy6, hSg, hy7⟩ := hbx.hand (i := 0) (by omega)
  clear hy1 hy2 hy3 hy4 hy5 hy6 hy7 cx ax
  have HC := Hid.mk (bucketL_same aa1 (by omega) h1 (by omega) hFe)
  have NS : ∀ k, w.heap.size ≤ k → ¬ S k := fun k hk hS => by have := hb.lt k hS; omega
  have NBB := NS w.heap.size (Nat.le_refl _)
  have NBL := NS (w.heap.size + 1) (by omega)
  have NBF := NS (w.heap.size + 1 + 1) (by omega)
  -- one row more
  obtain ⟨ls, hls, hll, hsn⟩ := hbx.snoc
  have hSp := hb.sp
  have hpl := hb.lt p hSp
  have hgl := hb.lt g hSg
  obtain ⟨R, hR⟩ : ∃ R, B[F] = R := ⟨_, rfl⟩
  have hrn := rowB_len_le B F
  rw [rowB_lt hFl] at hrn
  have HRN := Hid.mk (show R.length ≤ 100000 by rw [← hR]; omega)
  rw [hR] at hsp
  have hRB : ∀ (hk : F < (B ++ [[]]).length), (B ++ [[]])[F] = R := fun hk => by rw [List.getElem_append_left hFl]; exact hR
  obtain ⟨N1, hN1⟩ : ∃ N1, B.length + 1 = N1 := ⟨_, rfl⟩
  rw [hN1] at hsp
  have hlen5 : (B ++ [[]]).length = N1 := by rw [List.length_append]; simpa using hN1
  have hX32 : Hid (∀ x ∈ R, x.1 < 4294967296) := Hid.mk fun x hx => (hPL.out.at_ F x (by rw [rowB_lt hFl, hR]; exact hx)).1
  have hw32 : IntKind.u32.wrap (B.length : Int) = (B.length : Int) := by simp [IntKind.wrap, IntKind.bits, IntKind.signed]; omega
  have k0 : ((B.length : Int) == 1048576) = false := by simp; omega
  have hmf : ∀ (fn : Fn) (first cap : Array Value) (w : World), (Instr.makeFunc fn first cap).run Try.prog w = .ok (.func fn first cap) w := fun _ _ _ _ => rfl
  have HSN := Hid.mk hsn
  have HLS := Hid.mk (fun (W : World) (hW : Below W3.heap.size W3 W) => hls.up hW)
  have HLL := Hid.mk (show ls.length = B.length from hll)
  have HSP := Hid.mk hsp
  have HRB := Hid.mk hRB
  have HL5 := Hid.mk hlen5
  have HSZ := Hid.mk (szB_split B)
  have HB := Hid.mk hb
  have HNN := Hid.mk (And.intro hN1 (And.intro hfl (And.intro hFl h1)))
  have HU := Hid.mk hu13
  have HZ3 := Hid.mk hz3
  have HG := Hid.mk (And.intro hgp (And.intro hSg (And.intro hSp (And.intro hpl hgl))))
  have hne : ∀ k, k ≠ g → ¬ (fun k => k = g) k := fun k h => h
  have NP : ¬ (p = g) := fun e => hgp e.symm
  have NB1 : ¬ (w.heap.size = g) := by omega
  clear hbx hbA hb hls hsn hsp hRB hlen5 hR hrn hfs hfl hF h1 hFl hFe hll hu1 hu2 hu3 hu13 hSp hpl hgl hSg hN1 hcap hne
  go_enter Try.func19, Try.ntmps19
  go_upto_region 7 with (first
    | (go_at_call 37; refine (madeL_cell _ _ a0).mono ?_; rintro e w2 ⟨rfl, rfl⟩)
    | (go_at_call 38; refine HC.out.mono ?_; rintro e w2 ⟨rfl, rfl⟩))
  refine wp_region_last (last := 9) (S := Only (fun k => k = g) W3) (by kernel_rfl) ?_
  refine last_take (i := 0) (d := 20) (v := .pointer (some ⟨p, 0, none⟩)) rfl rfl (by kernel_rfl) (by kernel_rfl) (by kernel_rfl) (by kernel_rfl) rfl (fun W h => (by have u0 := h.cellS NB1 b0; go_simp)) (fun _ _ _ h => h) (Only.refl _ _).drew ?_
  simp only [Act.put, List.setIfInBounds_toArray, List.set_cons_zero, List.set_cons_succ]
  refine last_take (i := 1) (d := 21) (v := .pointer (some ⟨p, 0, none⟩)) rfl rfl (by kernel_rfl) (by kernel_rfl) (by kernel_rfl) (by kernel_rfl) rfl (fun W h => (by have u0 := h.cellS NB1 b0; go_simp)) (fun _ _ _ h => h) (Only.refl _ _).drew ?_
  simp only [Act.put, List.setIfInBounds_toArray, List.set_cons_zero, List.set_cons_succ]
  refine last_take (i := 2) (d := 22) (v := .pointer (some ⟨p, 0, none⟩)) rfl rfl (by kernel_rfl) (by kernel_rfl) (by kernel_rfl) (by kernel_rfl) rfl (fun _ _ => (by go_simp)) (fun _ _ _ h => h) (Only.refl _ _).drew ?_
  simp only [Act.put, List.setIfInBounds_toArray, List.set_cons_zero, List.set_cons_succ]
  refine last_take (i := 3) (d := 23) (v := .pointer (some ⟨p, 1, none⟩)) rfl rfl (by kernel_rfl) (by kernel_rfl) (by kernel_rfl) (by kernel_rfl) rfl (fun _ _ => (by go_simp)) (fun _ _ _ h => h) (Only.refl _ _).drew ?_
  simp only [Act.put, List.setIfInBounds_toArray, List.set_cons_zero, List.set_cons_succ]
  refine last_take (i := 4) (d := 24) (v := .slice (some ⟨g, 0, none⟩) B.length cap) rfl rfl (by kernel_rfl) (by kernel_rfl) (by kernel_rfl) (by kernel_rfl) rfl (fun W h => (by have u0 := h.cellS NP c1; go_simp)) (fun _ _ _ h => h) (Only.refl _ _).drew ?_
  simp only [Act.put, List.setIfInBounds_toArray, List.set_cons_zero, List.set_cons_succ]
  obtain ⟨WD, hWD⟩ : ∃ WD, ({ W3 with drawn := W3.drawn + 1 } : World) = WD := ⟨_, rfl⟩
  have HD : Up W3 WD := by rw [← hWD]; exact (Up.refl W3).drew
  rw [hWD]
  clear hWD
  have hU2 := Up.alloc HD (o := .cells #[.slice none 0 0] 43)
  obtain ⟨v9, w9, hr9, hi9, hg9, ho9⟩ := append_elem rwS (WD.alloc (.cells #[.slice none 0 0] 43)) 37 _ ls ⟨none, 0, 0⟩ (HLS.out _ hU2.out) WD.heap.size (new_block _ _) rfl (by have := HLL.out; have := HNN.out; omega)
  have hown : ∀ k, (Value.slice (some ⟨g, 0, none⟩) B.length cap).ownBlock = some k → k = g := fun k hk => by cases hk; rfl
  have hO2 : Only (fun k => k = g) W3 (WD.alloc (.cells #[.slice none 0 0] 43)) := Only.up hU2.out
  have hO9 : Only (fun k => k = g) W3 w9 := hO2.grow hg9 hown
  obtain ⟨S5, hb5, ho5, hn5⟩ := HSN.out w9 v9 (hO9.mono fun k hk => by rw [hk]; rfl) hi9 (fun b hb => by
    rcases ho9 with e | e
    · exact Or.inl (e ▸ hb)
    · rw [e] at hb
      cases hb
      exact Or.inr hU2.out.size)
  obtain ⟨g5, cap5, e9, _, _⟩ := hi9.some_ (by simp)
  rw [show (ls ++ [(⟨none, 0, 0⟩ : Sl)]).length = N1 by rw [List.length_append]; have := HLL.out; have := HNN.out; simp; omega] at e9
  subst e9
  have q1 := hO9.cellS NP c1
  have qz : w9.frozen? ⟨p, 1, none⟩ = false := by rw [hO9.froz NP (Nat.lt_of_lt_of_le HG.out.2.2.2.1 HU.out.size)]; exact fz1
  refine last_value (i := 5) (d := 25) (v := .slice (some ⟨WD.heap.size, 0, none⟩) 1 1) (w' := WD.alloc (.cells #[.slice none 0 0] 43)) (by kernel_rfl) rfl rfl rfl (by go_simp) hO2 ?_
  simp only [Act.put, List.setIfInBounds_toArray, List.set_cons_zero, List.set_cons_succ]
  refine last_value (i := 6) (d := 26) (v := _) (w' := w9) (by kernel_rfl) rfl rfl rfl (exec_append rfl rfl hr9) hO9 ?_
  simp only [Act.put, List.setIfInBounds_toArray, List.set_cons_zero, List.set_cons_succ]
  refine last_value (i := 7) (d := 27) (v := .pointer (some ⟨p, 0, none⟩)) (w' := w9) (by kernel_rfl) rfl rfl rfl (by go_simp) hO9 ?_
  simp only [Act.put, List.setIfInBounds_toArray, List.set_cons_zero, List.set_cons_succ]
  refine last_take (i := 8) (d := 28) (v := .pointer (some ⟨p, 1, none⟩)) rfl rfl (by kernel_rfl) (by kernel_rfl) (by kernel_rfl) (by kernel_rfl) rfl (fun _ _ => (by go_simp)) (fun _ _ _ h => h) hO9 ?_
  simp only [Act.put, List.setIfInBounds_toArray, List.set_cons_zero, List.set_cons_succ]
  refine last_store (w' := w9.setCell ⟨p, 1, none⟩ (.slice (some ⟨g5, 0, none⟩) N1 cap5)) (by kernel_rfl) rfl rfl rfl (by go_simp) (by kernel_rfl) ?_
  obtain ⟨W5, hW5⟩ : ∃ W5, w9.setCell ⟨p, 1, none⟩ (.slice (some ⟨g5, 0, none⟩) N1 cap5) = W5 := ⟨_, rfl⟩
  rw [hW5] at hb5 ho5 ⊢
  have b5 := ho5.cellS NBB b0
  have l5 := ho5.cellS NBL l0
  have f5 := ho5.cellS NBF f0
  have r5 : W5.cell? ⟨p, 1, none⟩ = some (.slice (some ⟨g5, 0, none⟩) N1 cap5) := hb5.cell 1
  obtain ⟨g5', cap5', a', c, eg, _, d5, hz5, hrow, NP5, NG5, hgp5, hTS5, hSg5, hput⟩ := hb5.hand (i := F) (by rw [HL5.out]; have := HNN.out; omega)
  simp only [Value.slice.injEq, Option.some.injEq, Addr.mk.injEq, and_true, true_and] at eg
  obtain ⟨rfl, hxn, rfl⟩ := eg
  clear hxn
  rw [HRB.out] at d5 hrow
  have hn5' : ∀ k, S5 k → S k ∨ w.heap.size + 1 + 1 + 1 ≤ k := fun k hk => (hn5 k hk).imp (fun h => h) (fun h => by rw [HZ3.out] at h; exact h)
  have NS5 : ∀ k, w.heap.size ≤ k → k < w.heap.size + 1 + 1 + 1 → ¬ S5 k := fun k h1 h2 hk => (hn5' k hk).elim (NS k h1) (fun h => by omega)
  have HN5 := Hid.mk (And.intro ho5 (And.intro hn5' NS5))
  have HB5 := Hid.mk hb5
  obtain ⟨M, hM⟩ : ∃ M, R.length = M := ⟨_, rfl⟩
  rw [hM] at d5 hrow
  have HM := Hid.mk hM
  have hFN : (F : Int) < N1 := by have := HNN.out; omega
  clear hput hrow hb5 ho5 hn5 hn5' NS5 hr9 hi9 hg9 ho9 hown hO2 hO9 hU2 q1 qz hM hW5 b0 l0 f0 c1 c0 b1 b2 l2 a0 a1 aa1 NP5 NG5 hgp5 hTS5 hSg5 hz5
  go_upto_region 8 with fail
  refine region_up (W := W5) (by kernel_rfl) (by kernel_rfl) (Up.refl _) ?_
  refine quiet_value (v := .pointer (some ⟨p, 0, none⟩)) rfl (fun W h => (by have u0 := cell_below h.out _ _ _ b5; go_simp)) ?_
  simp only [Act.put, List.setIfInBounds_toArray, List.set_cons_zero, List.set_cons_succ]
  refine quiet_value (v := .pointer (some ⟨p, 0, none⟩)) rfl (fun _ _ => (by go_simp)) ?_
  simp only [Act.put, List.setIfInBounds_toArray, List.set_cons_zero, List.set_cons_succ]
  refine quiet_value (v := .pointer (some ⟨p, 1, none⟩)) rfl (fun _ _ => (by go_simp)) ?_
  simp only [Act.put, List.setIfInBounds_toArray, List.set_cons_zero, List.set_cons_succ]
  refine quiet_value (v := (.slice (some ⟨g5, 0, none⟩) N1 cap5)) rfl (fun W h => (by have u0 := cell_below h.out _ _ _ r5; go_simp)) ?_
  simp only [Act.put, List.setIfInBounds_toArray, List.set_cons_zero, List.set_cons_succ]
  refine quiet_value (v := .int .i64 F) rfl (fun W h => (by have u0 := cell_below h.out _ _ _ f5; go_simp)) ?_
  simp only [Act.put, List.setIfInBounds_toArray, List.set_cons_zero, List.set_cons_succ]
  refine quiet_value (v := .pointer (some ⟨g5, F, none⟩)) rfl (fun _ _ => (by go_simp)) ?_
  simp only [Act.put, List.setIfInBounds_toArray, List.set_cons_zero, List.set_cons_succ]
  refine quiet_value (v := .slice a' M c) rfl (fun W h => (by have u0 := cell_below h.out _ _ _ d5; go_simp)) ?_
  simp only [Act.put, List.setIfInBounds_toArray, List.set_cons_zero, List.set_cons_succ]
  refine quiet_value (v := .slice a' M c) rfl (fun _ _ => rfl) ?_
  simp only [Act.put, List.setIfInBounds_toArray, List.set_cons_zero, List.set_cons_succ]
  refine quiet_nil ?_
  intro w6 hw6
  have b6 := cell_below hw6.out _ _ _ b5
  have l6 := cell_below hw6.out _ _ _ l5
  have f6 := cell_below hw6.out _ _ _ f5
  have r6 := cell_below hw6.out _ _ _ r5
  have hb6 := HB5.out.up hw6.out
  obtain ⟨g6', cap6', a6, c6, eg, _, d6, hz6, hrow6, NP6, NG6, hgp6, hTS6, hSg6, hput6⟩ := hb6.hand (i := F) (by rw [HL5.out]; have := HNN.out; omega)
  simp only [Value.slice.injEq, Option.some.injEq, Addr.mk.injEq, and_true, true_and] at eg
  obtain ⟨rfl, hxn, rfl⟩ := eg
  clear hxn
  rw [HRB.out, HM.out] at d6 hrow6
  have d6' := cell_below hw6.out _ _ _ d5
  rw [d6'] at d6
  simp only [Option.some.injEq, Value.slice.injEq, true_and] at d6
  obtain ⟨rfl, rfl⟩ := d6
  have hcel6 : CelT w6 R a' := its_cel hrow6
  have HP9 := Hid.mk (fun (W : World) (hW : Up w6 W) => show Calls Try.prog 43 #[.slice a' M c, .func (.func 45) #[] #[.pointer (some ⟨w.heap.size, 0, none⟩), .pointer (some ⟨w.heap.size + 1 + 1, 0, none⟩)]] W (fun e w' => ∃ v, e = .returned v ∧ Told W w' v (R.filter (goesTo N1 F))) from by
    have := pick_any 45 #[.pointer (some ⟨w.heap.size, 0, none⟩), .pointer (some ⟨w.heap.size + 1 + 1, 0, none⟩)] (goesTo N1 F) R a' c W (hcel6.up hW.out) (fun ad e => Nat.lt_of_lt_of_le (hb6.lt _ (hTS6 _ ⟨ad, e, rfl⟩)) hW.out.size) (by have := HRN.out; omega)
      (enters_of Try.func45 (by kernel_rfl) rfl) (fun W2 x hx ho => split1_any w.heap.size (w.heap.size + 1 + 1) p N1 F (some ⟨g5, 0, none⟩) cap5 x W2 (only_old ho (cell_below hW.out _ _ _ b6)) (only_old ho (cell_below hW.out _ _ _ r6)) (only_old ho (cell_below hW.out _ _ _ f6)) (hX32.out x hx) (by have := HNN.out; omega) (by have := HNN.out; omega))
    rwa [HM.out] at this)
  have HB6 := Hid.mk hb6
  have HPUT6 := Hid.mk hput6
  have HC6 := Hid.mk hcel6
  have HLA := Hid.mk (fun ad (e : a' = some ad) => hb6.lt _ (hTS6 _ ⟨ad, e, rfl⟩))
  have HUP6 := Hid.mk hw6.out
  have HNG6 := Hid.mk (And.intro NG6 (And.intro (hb6.lt _ hSg6) hz6))
  clear hw6 hb6 hrow6 NP6 NG6 hgp6 hTS6 hSg6 hput6 hcel6 hz6 b5 l5 f5 r5 d5
  go_upto_region 9 with fail
  refine wp_region_last (last := 9) (S := Up w6) (by kernel_rfl) ?_
  refine last_take (i := 0) (d := 36) (v := .pointer (some ⟨p, 0, none⟩)) rfl rfl (by kernel_rfl) (by kernel_rfl) (by kernel_rfl) (by kernel_rfl) rfl (fun W h => (by have u0 := cell_below h.out _ _ _ b6; go_simp)) (fun _ _ _ h => h) (Up.refl w6).drew ?_
  simp only [Act.put, List.setIfInBounds_toArray, List.set_cons_zero, List.set_cons_succ]
  refine last_take (i := 1) (d := 37) (v := .pointer (some ⟨p, 0, none⟩)) rfl rfl (by kernel_rfl) (by kernel_rfl) (by kernel_rfl) (by kernel_rfl) rfl (fun _ _ => (by go_simp)) (fun _ _ _ h => h) (Up.refl w6).drew ?_
  simp only [Act.put, List.setIfInBounds_toArray, List.set_cons_zero, List.set_cons_succ]
  refine last_take (i := 2) (d := 38) (v := .pointer (some ⟨p, 1, none⟩)) rfl rfl (by kernel_rfl) (by kernel_rfl) (by kernel_rfl) (by kernel_rfl) rfl (fun _ _ => (by go_simp)) (fun _ _ _ h => h) (Up.refl w6).drew ?_
  simp only [Act.put, List.setIfInBounds_toArray, List.set_cons_zero, List.set_cons_succ]
  refine last_take (i := 3) (d := 39) (v := (.slice (some ⟨g5, 0, none⟩) N1 cap5)) rfl rfl (by kernel_rfl) (by kernel_rfl) (by kernel_rfl) (by kernel_rfl) rfl (fun W h => (by have u0 := cell_below h.out _ _ _ r6; go_simp)) (fun _ _ _ h => h) (Up.refl w6).drew ?_
  simp only [Act.put, List.setIfInBounds_toArray, List.set_cons_zero, List.set_cons_succ]
  refine last_take (i := 4) (d := 40) (v := .int .i64 F) rfl rfl (by kernel_rfl) (by kernel_rfl) (by kernel_rfl) (by kernel_rfl) rfl (fun W h => (by have u0 := cell_below h.out _ _ _ f6; go_simp)) (fun _ _ _ h => h) (Up.refl w6).drew ?_
  simp only [Act.put, List.setIfInBounds_toArray, List.set_cons_zero, List.set_cons_succ]
  refine last_take (i := 5) (d := 41) (v := .slice a' M c) rfl rfl (by kernel_rfl) (by kernel_rfl) (by kernel_rfl) (by kernel_rfl) rfl (fun _ _ => rfl) (fun _ _ _ h => h) (Up.refl w6).drew ?_
  simp only [Act.put, List.setIfInBounds_toArray, List.set_cons_zero, List.set_cons_succ]
  refine last_take (i := 6) (d := 42) (v := .func (.func 45) #[] #[.pointer (some ⟨w.heap.size, 0, none⟩), .pointer (some ⟨w.heap.size + 1 + 1, 0, none⟩)]) rfl rfl (by kernel_rfl) (by kernel_rfl) (by kernel_rfl) (by kernel_rfl) rfl (fun _ _ => (by go_simp)) (fun _ _ _ h => h) (Up.refl w6).drew ?_
  simp only [Act.put, List.setIfInBounds_toArray, List.set_cons_zero, List.set_cons_succ]
  refine last_call (i := 7) (d := 43) (f := 43) (args := #[.slice a' M c, .func (.func 45) #[] #[.pointer (some ⟨w.heap.size, 0, none⟩), .pointer (some ⟨w.heap.size + 1 + 1, 0, none⟩)]]) (by kernel_rfl) rfl rfl rfl (by go_simp) ?_
  refine (HP9.out _ (Up.refl w6).drew).mono ?_
  rintro e w7 ⟨v7, rfl, ht7⟩
  refine ⟨v7, rfl, ((Up.refl w6).drew.call ht7.below), ?_⟩
  simp only [Act.put, List.setIfInBounds_toArray, List.set_cons_zero, List.set_cons_succ]
  have hU7 : Up w6 w7 := (Up.refl w6).drew.call ht7.below
  obtain ⟨S8, hb8, ho8, hn8⟩ := HPUT6.out w7 v7 _ (Only.up hU7.out) ht7.its (fun b hb => Or.inr (ht7.new b hb))
  have q6 := cell_below hU7.out _ _ _ d6'
  have qz6 : w7.frozen? ⟨g5, F, none⟩ = false := by rw [(bcell hU7.out).2 _ _ HNG6.out.2.1]; exact HNG6.out.2.2
  have hcel8 : CelT (w7.setCell ⟨g5, F, none⟩ v7) R a' := (HC6.out.up hU7.out).kept (T := fun k => k = g5) (Only.set w7 _ rfl) (fun ad e e2 => HNG6.out.1 ⟨ad, e, e2⟩)
  obtain ⟨v7a, v7c, e7, _⟩ := Its.slice ht7.its
  obtain ⟨M7, hM7⟩ : ∃ M7, (R.filter (goesTo N1 F)).length = M7 := ⟨_, rfl⟩
  rw [hM7] at e7
  subst e7
  refine last_take (i := 8) (d := 44) (v := .pointer (some ⟨g5, F, none⟩)) rfl rfl (by kernel_rfl) (by kernel_rfl) (by kernel_rfl) (by kernel_rfl) rfl (fun _ _ => (by go_simp)) (fun _ _ _ h => h) hU7 ?_
  simp only [Act.put, List.setIfInBounds_toArray, List.set_cons_zero, List.set_cons_succ]
  refine last_store (w' := w7.setCell ⟨g5, F, none⟩ (.slice v7a M7 v7c)) (by kernel_rfl) rfl rfl rfl (by go_simp) (by kernel_rfl) ?_
  obtain ⟨w8, hw8⟩ : ∃ w8, w7.setCell ⟨g5, F, none⟩ (.slice v7a M7 v7c) = w8 := ⟨_, rfl⟩
  rw [hw8] at hb8 ho8 hcel8 ⊢
  have NSb : ¬ S5 w.heap.size := HN5.out.2.2 _ (by omega) (by omega)
  have NSl : ¬ S5 (w.heap.size + 1) := HN5.out.2.2 _ (by omega) (by omega)
  have b8 := ho8.cellS NSb b6
  have l8 := ho8.cellS NSl l6
  have r8 : w8.cell? ⟨p, 1, none⟩ = some (.slice (some ⟨g5, 0, none⟩) N1 cap5) := hb8.cell 1
  have hlen8 : ((B ++ [[]]).set F (R.filter (goesTo N1 F))).length = N1 := by rw [List.length_set]; exact HL5.out
  have hrow8 : ∀ (hk : B.length < ((B ++ [[]]).set F (R.filter (goesTo N1 F))).length), ((B ++ [[]]).set F (R.filter (goesTo N1 F)))[B.length] = [] := fun hk => by
    have := HNN.out
    rw [List.getElem_set, if_neg (by omega), List.getElem_append_right (by omega)]
    simp
  obtain ⟨g8', cap8', a8, c8, eg, _, d8, hz8, hrow8', NP8, NG8, hgp8, hTS8, hSg8, hput8⟩ := hb8.hand (i := B.length) (by rw [hlen8]; have := HNN.out; omega)
  simp only [Value.slice.injEq, Option.some.injEq, Addr.mk.injEq, and_true, true_and] at eg
  obtain ⟨rfl, hxn, rfl⟩ := eg
  clear hxn
  have HP10 := Hid.mk (fun (W : World) (hW : Up w8 W) => show Calls Try.prog 43 #[.slice a' M c, .func (.func 46) #[] #[.pointer (some ⟨w.heap.size, 0, none⟩), .pointer (some ⟨w.heap.size + 1, 0, none⟩)]] W (fun e w' => ∃ v, e = .returned v ∧ Told W w' v (R.filter (goesTo N1 B.length))) from by
    have := pick_any 46 #[.pointer (some ⟨w.heap.size, 0, none⟩), .pointer (some ⟨w.heap.size + 1, 0, none⟩)] (goesTo N1 B.length) R a' c W (hcel8.up hW.out) (fun ad e => Nat.lt_of_lt_of_le (HLA.out ad e) (Nat.le_trans ho8.size hW.out.size)) (by have := HRN.out; omega)
      (enters_of Try.func46 (by kernel_rfl) rfl) (fun W2 x hx ho => split2_any w.heap.size (w.heap.size + 1) p N1 B.length (some ⟨g5, 0, none⟩) cap5 x W2 (only_old ho (cell_below hW.out _ _ _ b8)) (only_old ho (cell_below hW.out _ _ _ r8)) (only_old ho (cell_below hW.out _ _ _ l8)) (hX32.out x hx) (by have := HNN.out; omega) (by have := HNN.out; omega))
    rwa [HM.out] at this)
  rw [hrow8] at d8
  have HPUT8 := Hid.mk hput8
  have HGL8 := Hid.mk (And.intro (hb8.lt _ hSg8) hz8)
  have HON8 := Hid.mk (And.intro ho8 hn8)
  have hNN8 : (B.length : Int) < N1 := by have := HNN.out; omega
  clear hb8 ho8 hn8 hrow8 hrow8' hlen8 NP8 NG8 hgp8 hTS8 hSg8 hput8 hz8 q6 qz6 hM7 hw8 hcel8 hU7 ht7 d6' b6 l6 f6 r6 NSb NSl
  go_upto_region 10 with fail
  refine wp_region_last (last := 9) (S := Up w8) (by kernel_rfl) ?_
  refine last_take (i := 0) (d := 45) (v := .pointer (some ⟨p, 0, none⟩)) rfl rfl (by kernel_rfl) (by kernel_rfl) (by kernel_rfl) (by kernel_rfl) rfl (fun W h => (by have u0 := cell_below h.out _ _ _ b8; go_simp)) (fun _ _ _ h => h) (Up.refl w8).drew ?_
  simp only [Act.put, List.setIfInBounds_toArray, List.set_cons_zero, List.set_cons_succ]
  refine last_take (i := 1) (d := 46) (v := .pointer (some ⟨p, 0, none⟩)) rfl rfl (by kernel_rfl) (by kernel_rfl) (by kernel_rfl) (by kernel_rfl) rfl (fun _ _ => (by go_simp)) (fun _ _ _ h => h) (Up.refl w8).drew ?_
  simp only [Act.put, List.setIfInBounds_toArray, List.set_cons_zero, List.set_cons_succ]
  refine last_take (i := 2) (d := 47) (v := .pointer (some ⟨p, 1, none⟩)) rfl rfl (by kernel_rfl) (by kernel_rfl) (by kernel_rfl) (by kernel_rfl) rfl (fun _ _ => (by go_simp)) (fun _ _ _ h => h) (Up.refl w8).drew ?_
  simp only [Act.put, List.setIfInBounds_toArray, List.set_cons_zero, List.set_cons_succ]
  refine last_take (i := 3) (d := 48) (v := (.slice (some ⟨g5, 0, none⟩) N1 cap5)) rfl rfl (by kernel_rfl) (by kernel_rfl) (by kernel_rfl) (by kernel_rfl) rfl (fun W h => (by have u0 := cell_below h.out _ _ _ r8; go_simp)) (fun _ _ _ h => h) (Up.refl w8).drew ?_
  simp only [Act.put, List.setIfInBounds_toArray, List.set_cons_zero, List.set_cons_succ]
  refine last_take (i := 4) (d := 49) (v := .int .i64 B.length) rfl rfl (by kernel_rfl) (by kernel_rfl) (by kernel_rfl) (by kernel_rfl) rfl (fun W h => (by have u0 := cell_below h.out _ _ _ l8; go_simp)) (fun _ _ _ h => h) (Up.refl w8).drew ?_
  simp only [Act.put, List.setIfInBounds_toArray, List.set_cons_zero, List.set_cons_succ]
  refine last_take (i := 5) (d := 50) (v := .slice a' M c) rfl rfl (by kernel_rfl) (by kernel_rfl) (by kernel_rfl) (by kernel_rfl) rfl (fun _ _ => rfl) (fun _ _ _ h => h) (Up.refl w8).drew ?_
  simp only [Act.put, List.setIfInBounds_toArray, List.set_cons_zero, List.set_cons_succ]
  refine last_take (i := 6) (d := 51) (v := .func (.func 46) #[] #[.pointer (some ⟨w.heap.size, 0, none⟩), .pointer (some ⟨w.heap.size + 1, 0, none⟩)]) rfl rfl (by kernel_rfl) (by kernel_rfl) (by kernel_rfl) (by kernel_rfl) rfl (fun _ _ => (by go_simp)) (fun _ _ _ h => h) (Up.refl w8).drew ?_
  simp only [Act.put, List.setIfInBounds_toArray, List.set_cons_zero, List.set_cons_succ]
  refine last_call (i := 7) (d := 52) (f := 43) (args := #[.slice a' M c, .func (.func 46) #[] #[.pointer (some ⟨w.heap.size, 0, none⟩), .pointer (some ⟨w.heap.size + 1, 0, none⟩)]]) (by kernel_rfl) rfl rfl rfl (by go_simp) ?_
  refine (HP10.out _ (Up.refl w8).drew).mono ?_
  rintro e w9 ⟨v9, rfl, ht9⟩
  refine ⟨v9, rfl, ((Up.refl w8).drew.call ht9.below), ?_⟩
  simp only [Act.put, List.setIfInBounds_toArray, List.set_cons_zero, List.set_cons_succ]
  have hU9 : Up w8 w9 := (Up.refl w8).drew.call ht9.below
  obtain ⟨S10, hb10, ho10, hn10⟩ := HPUT8.out w9 v9 _ (Only.up hU9.out) ht9.its (fun b hb => Or.inr (ht9.new b hb))
  have q8 := cell_below hU9.out _ _ _ d8
  have qz8 : w9.frozen? ⟨g5, B.length, none⟩ = false := by rw [(bcell hU9.out).2 _ _ HGL8.out.1]; exact HGL8.out.2
  obtain ⟨v9a, v9c, e9, _⟩ := Its.slice ht9.its
  obtain ⟨M9, hM9⟩ : ∃ M9, (R.filter (goesTo N1 B.length)).length = M9 := ⟨_, rfl⟩
  rw [hM9] at e9
  subst e9
  refine last_take (i := 8) (d := 53) (v := .pointer (some ⟨g5, B.length, none⟩)) rfl rfl (by kernel_rfl) (by kernel_rfl) (by kernel_rfl) (by kernel_rfl) rfl (fun _ _ => (by go_simp)) (fun _ _ _ h => h) hU9 ?_
  simp only [Act.put, List.setIfInBounds_toArray, List.set_cons_zero, List.set_cons_succ]
  refine last_store (w' := w9.setCell ⟨g5, B.length, none⟩ (.slice v9a M9 v9c)) (by kernel_rfl) rfl rfl rfl (by go_simp) (by kernel_rfl) ?_
  have HE := Hid.mk (show StL LbP w p least S (splitB B) (w9.setCell ⟨g5, B.length, none⟩ (.slice v9a M9 v9c)) from by
    obtain ⟨ho5, hn5, _⟩ := HN5.out
    obtain ⟨ho8, hn8⟩ := HON8.out
    have hz3' := HZ3.out
    have hs5 := ho5.size
    have hs6 := HUP6.out.size
    have hs8 := ho8.size
    have e5 : ∀ k, S5 k → S k ∨ w.heap.size ≤ k := fun k hk => (hn5 k hk).imp (fun h => h) (fun h => by omega)
    have e8 : ∀ k, S8 k → S k ∨ w.heap.size ≤ k := fun k hk => (hn8 k hk).elim (e5 k) (fun h => Or.inr (by omega))
    have hW6 : Only S w W5 := (Only.up HU.out).trans ho5 (fun _ h => Or.inl h)
    have hW8 : Only S w w8 := (hW6.call HUP6.out).trans ho8 e5
    refine ⟨S10, ⟨(.slice (some ⟨g5, 0, none⟩) N1 cap5), ?_⟩, hW8.trans ho10 e8, fun k hk => ?_⟩
    · unfold csP
      rw [HSZ.out]
      have hlst : ((B ++ [[]]).set F (R.filter (goesTo N1 F))).set B.length (R.filter (goesTo N1 B.length)) = splitB B := by
        have := HNN.out
        rw [HSP.out, List.set_append_left _ _ (by omega), List.set_append_right _ _ (by rw [List.length_set]; omega), List.length_set, Nat.sub_self]
        rfl
      rw [← hlst]
      exact hb10
    · rcases hn10 k hk with e | e
      · exact e8 k e
      · exact Or.inr (by omega))
  clear hb10 ho10 hn10 q8 qz8 hM9 hU9 ht9 b8 l8 r8 d8
  go_wp2
  go_ret
  exact ⟨rfl, HE.out⟩
end Go.Proofs.Ytkijbphbibcnoaa
