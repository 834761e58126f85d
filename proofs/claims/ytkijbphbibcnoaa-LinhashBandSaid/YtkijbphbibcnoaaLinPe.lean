/-
  An item put into the program's buckets.
-/
import Derived.Test.YtkijbphbibcnoaaLinPd
namespace Go.Proofs.Ytkijbphbibcnoaa
open Go.RowKit Go.Deep Go.Maps Go.WideShapes

theorem bucketL_same {p n : Nat} {a : Option Addr} {cap h : Nat} {w : World} (c1 : w.cell? ⟨p, 1, none⟩ = some (.slice a n cap)) (hh : h < 4294967296) (h1 : 1 ≤ n) (h2 : n ≤ 1048576) {m : Nat} (hm : bkt h n = m) :
    Calls Try.prog 38 #[.pointer (some ⟨p, 0, none⟩), .int .u32 h] w fun e w' => e = .returned (.int .i64 m) ∧ w = w' :=
  (bucketL_cell p n a cap h w c1 hh h1 h2).mono fun e w' ⟨h1, h2⟩ => ⟨by rw [h1, hm], h2⟩
section
variable {w w' : World} {p least : Nat} {v : Value} {S : Nat → Prop} {B B' : Bks}
/-- How many there are, written behind the rows. -/
theorem lbP_count (h : Bx 39 (csP p least v B) w p v S B') {n : Int} (hn : (szB B' : Int) = n) : LbP (w.setCell ⟨p, 3, none⟩ (.int .i64 n)) p least S B' := by
  have := h.turn 3 (.int .i64 n)
  subst hn
  exact ⟨v, this⟩
theorem lbP_same (h : Bx 39 (csP p least v B) w p v S B') (hn : szB B' = szB B) : LbP w p least S B' := by
  refine ⟨v, ?_⟩
  unfold csP at h ⊢
  rwa [hn]
/-- A row's own block. -/
def OwnB (a : Option Addr) (k : Nat) : Prop := ∃ ad, a = some ad ∧ ad.block = k
theorem ownB_iff (a : Option Addr) (n c k : Nat) : (Value.slice a n c).ownBlock = some k ↔ OwnB a k := by
  cases a with
  | none => constructor
            · intro h; cases h
            · rintro ⟨ad, h, _⟩; cases h
  | some ad => constructor
               · intro h; exact ⟨ad, rfl, Option.some.inj h⟩
               · rintro ⟨ad', h, h2⟩; cases h; subst h2; rfl
/-- One row at hand, to be turned in its own block or into a new one. -/
theorem Bx.hand {t : TypeId} {cs : Array Value} (h : Bx t cs w p v S B) {i : Nat} (hi : i < B.length) : ∃ g cap a c, v = .slice (some ⟨g, 0, none⟩) B.length cap ∧ B.length ≤ cap ∧ w.cell? ⟨g, i, none⟩ = some (.slice a B[i].length c) ∧ w.frozen? ⟨g, i, none⟩ = false ∧ Its w (.slice a B[i].length c) B[i] ∧
    ¬ OwnB a p ∧ ¬ OwnB a g ∧ g ≠ p ∧ (∀ k, OwnB a k → S k) ∧ S g ∧
    ∀ (w4 : World) (y : Value) (l : List It), Only (OwnB a) w w4 → Its w4 y l → (∀ b, y.ownBlock = some b → OwnB a b ∨ w.heap.size ≤ b) →
      ∃ S', Bx t cs (w4.setCell ⟨g, i, none⟩ y) p v S' (B.set i l) ∧ Only S w (w4.setCell ⟨g, i, none⟩ y) ∧ ∀ k, S' k → S k ∨ w.heap.size ≤ k := by
  obtain ⟨g, cap, a, c, rfl, h1, h2, h3, h4, h5, h6, h7⟩ := h.focus hi
  have hcap : B.length ≤ cap := by
    obtain ⟨a', cap', e, hc, _⟩ := h.slice
    simp only [Value.slice.injEq] at e
    obtain ⟨_, _, rfl⟩ := e
    exact hc
  refine ⟨g, cap, a, c, rfl, hcap, h1, h2, h3, ?_, ?_, h5.2, ?_, h5.1, fun w4 y l ho hy hn => h7 w4 y l (ho.mono fun k hk => (ownB_iff _ _ _ _).2 hk) hy fun b hb => (hn b hb).imp (ownB_iff _ _ _ _).2 id⟩
  · rintro ⟨ad, e, e2⟩; exact (h4 ad e).2 e2
  · rintro ⟨ad, e, e2⟩; exact h6 ad e e2
  · rintro k ⟨ad, e, e2⟩; subst e2; exact (h4 ad e).1
end

set_option maxHeartbeats 8000000 in
set_option maxRecDepth 100000 in
theorem addP_any (w : World) (p least : Nat) (S : Nat → Prop) (B : Bks) (x : Nat) (id : Int) (hb : LbP w p least S B) (hF : Fine B) (hx : x < 4294967296) :
    Calls Try.prog 12 #[.pointer (some ⟨p, 0, none⟩), .int .u32 x, .int .i64 id] w fun e w' => e = .returned (.tuple #[.int .i64 (ofB B x), .int .i64 0]) ∧ StL LbP w p least S (addB B x id) w' := by
  obtain ⟨v, hb⟩ := hb
  have hfl := hF.len
  have hfs := hF.size
  have h1 := hF.placed.some_
  have hlt := ofB_lt h1 x
  obtain ⟨⟨c0, c1, c2, c3⟩, f1, f3⟩ := bxP_cells hb
  obtain ⟨g, cap, a', c, rfl, _, d0, hz0, hrow, NP, NG, hgp, hTS, hSg, hput⟩ := hb.hand hlt
  have hln := rowB_len_le B (ofB B x)
  have hsz := szB_add h1 x id
  have hSp := hb.sp
  have hgl := hb.lt g hSg
  unfold addB at hsz ⊢
  rw [rowB_lt hlt] at hln hsz ⊢
  have HC := Hid.mk (bucketL_same c1 hx h1 (by omega) (m := ofB B x) rfl)
  generalize ofB B x = I at *
  obtain ⟨R, hR⟩ : ∃ R, B[I] = R := ⟨_, rfl⟩
  rw [hR] at d0 hrow hln hsz ⊢
  obtain ⟨M, hM⟩ : ∃ M, R.length = M := ⟨_, rfl⟩
  rw [hM] at d0 hrow hln
  obtain ⟨Z, hZ⟩ : ∃ Z, szB B = Z := ⟨_, rfl⟩
  rw [hZ] at c3 hfs hsz
  have HZ := Hid.mk hZ
  have HPUT := Hid.mk hput
  have HROW := Hid.mk (fun (W : World) (hW : Below w.heap.size w W) => hrow.up hW)
  have HLN := Hid.mk (show R.length ≤ 1000000 by omega)
  have HSZ := Hid.mk hsz
  have HSP := Hid.mk hSp
  have HGP := Hid.mk hgp
  have HGL := Hid.mk hgl
  have hli : (I : Int) < B.length := by omega
  have k3 : ((Z : Int) == 16777216) = false := by simp; omega
  have hwz : IntKind.i64.wrap ((Z : Int) + 1) = ((Z + 1 : Nat) : Int) := by rw [wrap_id (by omega) (by omega)]; omega
  obtain ⟨T, hT⟩ : ∃ T, OwnB a' = T := ⟨_, rfl⟩
  have HTO := Hid.mk (fun k (hk : (Value.slice a' M c).ownBlock = some k) => (show T k by rw [← hT]; exact (ownB_iff _ _ _ _).1 hk))
  rw [hT] at NP NG HPUT
  clear hrow hput hln hsz hM hZ hSp hgl hgp hTS hSg hT hb hF hfl hfs h1 hlt hR hx
  go_enter Try.func12, Try.ntmps12
  go_upto_region 6 with (first
    | (go_at_call 37; refine (madeL_cell _ _ c0).mono ?_; rintro e w2 ⟨rfl, rfl⟩)
    | (go_at_call 38; refine HC.out.mono ?_; rintro e w2 ⟨rfl, rfl⟩))
  refine wp_region_last (last := 18) (S := Only T w) (by kernel_rfl) ?_
  refine last_take (i := 0) (d := 20) (v := .pointer (some ⟨p, 0, none⟩)) rfl rfl (by kernel_rfl) (by kernel_rfl) (by kernel_rfl) (by kernel_rfl) rfl (fun _ _ => rfl) (fun _ _ _ h => h) (Only.refl _ _).drew ?_
  simp only [Act.put, List.setIfInBounds_toArray, List.set_cons_zero, List.set_cons_succ]
  refine last_take (i := 1) (d := 21) (v := .pointer (some ⟨p, 0, none⟩)) rfl rfl (by kernel_rfl) (by kernel_rfl) (by kernel_rfl) (by kernel_rfl) rfl (fun _ _ => (by go_simp)) (fun _ _ _ h => h) (Only.refl _ _).drew ?_
  simp only [Act.put, List.setIfInBounds_toArray, List.set_cons_zero, List.set_cons_succ]
  refine last_take (i := 2) (d := 22) (v := .pointer (some ⟨p, 1, none⟩)) rfl rfl (by kernel_rfl) (by kernel_rfl) (by kernel_rfl) (by kernel_rfl) rfl (fun _ _ => (by go_simp)) (fun _ _ _ h => h) (Only.refl _ _).drew ?_
  simp only [Act.put, List.setIfInBounds_toArray, List.set_cons_zero, List.set_cons_succ]
  refine last_take (i := 3) (d := 23) (v := .slice (some ⟨g, 0, none⟩) B.length cap) rfl rfl (by kernel_rfl) (by kernel_rfl) (by kernel_rfl) (by kernel_rfl) rfl (fun W h => (by have u0 := h.cellS NP c1; go_simp)) (fun _ _ _ h => h) (Only.refl _ _).drew ?_
  simp only [Act.put, List.setIfInBounds_toArray, List.set_cons_zero, List.set_cons_succ]
  refine last_take (i := 4) (d := 24) (v := .int .i64 I) rfl rfl (by kernel_rfl) (by kernel_rfl) (by kernel_rfl) (by kernel_rfl) rfl (fun _ _ => rfl) (fun _ _ _ h => h) (Only.refl _ _).drew ?_
  simp only [Act.put, List.setIfInBounds_toArray, List.set_cons_zero, List.set_cons_succ]
  refine last_take (i := 5) (d := 25) (v := .pointer (some ⟨p, 0, none⟩)) rfl rfl (by kernel_rfl) (by kernel_rfl) (by kernel_rfl) (by kernel_rfl) rfl (fun _ _ => rfl) (fun _ _ _ h => h) (Only.refl _ _).drew ?_
  simp only [Act.put, List.setIfInBounds_toArray, List.set_cons_zero, List.set_cons_succ]
  refine last_take (i := 6) (d := 26) (v := .pointer (some ⟨p, 0, none⟩)) rfl rfl (by kernel_rfl) (by kernel_rfl) (by kernel_rfl) (by kernel_rfl) rfl (fun _ _ => (by go_simp)) (fun _ _ _ h => h) (Only.refl _ _).drew ?_
  simp only [Act.put, List.setIfInBounds_toArray, List.set_cons_zero, List.set_cons_succ]
  refine last_take (i := 7) (d := 27) (v := .pointer (some ⟨p, 1, none⟩)) rfl rfl (by kernel_rfl) (by kernel_rfl) (by kernel_rfl) (by kernel_rfl) rfl (fun _ _ => (by go_simp)) (fun _ _ _ h => h) (Only.refl _ _).drew ?_
  simp only [Act.put, List.setIfInBounds_toArray, List.set_cons_zero, List.set_cons_succ]
  refine last_take (i := 8) (d := 28) (v := .slice (some ⟨g, 0, none⟩) B.length cap) rfl rfl (by kernel_rfl) (by kernel_rfl) (by kernel_rfl) (by kernel_rfl) rfl (fun W h => (by have u0 := h.cellS NP c1; go_simp)) (fun _ _ _ h => h) (Only.refl _ _).drew ?_
  simp only [Act.put, List.setIfInBounds_toArray, List.set_cons_zero, List.set_cons_succ]
  refine last_take (i := 9) (d := 29) (v := .int .i64 I) rfl rfl (by kernel_rfl) (by kernel_rfl) (by kernel_rfl) (by kernel_rfl) rfl (fun _ _ => rfl) (fun _ _ _ h => h) (Only.refl _ _).drew ?_
  simp only [Act.put, List.setIfInBounds_toArray, List.set_cons_zero, List.set_cons_succ]
  refine last_take (i := 10) (d := 30) (v := .pointer (some ⟨g, I, none⟩)) rfl rfl (by kernel_rfl) (by kernel_rfl) (by kernel_rfl) (by kernel_rfl) rfl (fun _ _ => (by go_simp)) (fun _ _ _ h => h) (Only.refl _ _).drew ?_
  simp only [Act.put, List.setIfInBounds_toArray, List.set_cons_zero, List.set_cons_succ]
  refine last_take (i := 11) (d := 31) (v := .slice a' M c) rfl rfl (by kernel_rfl) (by kernel_rfl) (by kernel_rfl) (by kernel_rfl) rfl (fun W h => (by have u0 := h.cellS NG d0; go_simp)) (fun _ _ _ h => h) (Only.refl _ _).drew ?_
  simp only [Act.put, List.setIfInBounds_toArray, List.set_cons_zero, List.set_cons_succ]
  refine last_take (i := 12) (d := 32) (v := .int .u32 x) rfl rfl (by kernel_rfl) (by kernel_rfl) (by kernel_rfl) (by kernel_rfl) rfl (fun _ _ => rfl) (fun _ _ _ h => h) (Only.refl _ _).drew ?_
  simp only [Act.put, List.setIfInBounds_toArray, List.set_cons_zero, List.set_cons_succ]
  refine last_take (i := 13) (d := 33) (v := .int .i64 id) rfl rfl (by kernel_rfl) (by kernel_rfl) (by kernel_rfl) (by kernel_rfl) rfl (fun _ _ => rfl) (fun _ _ _ h => h) (Only.refl _ _).drew ?_
  simp only [Act.put, List.setIfInBounds_toArray, List.set_cons_zero, List.set_cons_succ]
  refine last_take (i := 14) (d := 34) (v := .agg #[.int .u32 x, .int .i64 id]) rfl rfl (by kernel_rfl) (by kernel_rfl) (by kernel_rfl) (by kernel_rfl) rfl (fun _ _ => (by go_simp)) (fun _ _ _ h => h) (Only.refl _ _).drew ?_
  simp only [Act.put, List.setIfInBounds_toArray, List.set_cons_zero, List.set_cons_succ]
  obtain ⟨WD, hWD⟩ : ∃ WD, ({ w with drawn := w.drawn + 1 } : World) = WD := ⟨_, rfl⟩
  have HD : Up w WD := by rw [← hWD]; exact (Up.refl w).drew
  rw [hWD]
  clear hWD
  have hU2 := Up.alloc HD (o := .cells #[.int .u32 x, .int .i64 id] 54)
  obtain ⟨y, w9, hr9, hi9, hg9, ho9⟩ := item_append (WD.alloc (.cells #[.int .u32 x, .int .i64 id] 54)) _ R (x, id) (HROW.out _ hU2.out) WD.heap.size (new_block _ _) HLN.out
  have hO2 : Only T w (WD.alloc (.cells #[.int .u32 x, .int .i64 id] 54)) := Only.up hU2.out
  have hO9 : Only T w w9 := hO2.grow hg9 HTO.out
  have hst := HPUT.out w9 y _ hO9 hi9 (fun b hb => by
    rcases ho9 with e | e
    · exact Or.inl (HTO.out b (e ▸ hb))
    · rw [e] at hb
      cases hb
      exact Or.inr hU2.out.size)
  have hd9 := hO9.cellS NG d0
  have hz9 : w9.frozen? ⟨g, I, none⟩ = false := by rw [hO9.froz NG HGL.out]; exact hz0
  obtain ⟨ya, yc, e2, _⟩ := Its.slice hi9
  obtain ⟨M2, hM2⟩ : ∃ M2, (R ++ [(x, id)]).length = M2 := ⟨_, rfl⟩
  rw [hM2] at e2
  subst e2
  obtain ⟨S', hbx, honly, hnew⟩ := hst
  refine last_value (i := 15) (d := 35) (v := .slice (some ⟨WD.heap.size, 0, none⟩) 1 1) (w' := WD.alloc (.cells #[.int .u32 x, .int .i64 id] 54)) (by kernel_rfl) rfl rfl rfl (by go_simp) hO2 ?_
  simp only [Act.put, List.setIfInBounds_toArray, List.set_cons_zero, List.set_cons_succ]
  refine last_value (i := 16) (d := 36) (v := _) (w' := w9) (by kernel_rfl) rfl rfl rfl (exec_append rfl rfl hr9) hO9 ?_
  simp only [Act.put, List.setIfInBounds_toArray, List.set_cons_zero, List.set_cons_succ]
  refine last_take (i := 17) (d := 37) (v := .pointer (some ⟨g, I, none⟩)) rfl rfl (by kernel_rfl) (by kernel_rfl) (by kernel_rfl) (by kernel_rfl) rfl (fun _ _ => (by go_simp)) (fun _ _ _ h => h) hO9 ?_
  simp only [Act.put, List.setIfInBounds_toArray, List.set_cons_zero, List.set_cons_succ]
  refine last_store (w' := w9.setCell ⟨g, I, none⟩ (.slice ya M2 yc)) (by kernel_rfl) rfl rfl rfl (by go_simp) (by kernel_rfl) ?_
  obtain ⟨W9, hW9⟩ : ∃ W9, w9.setCell ⟨g, I, none⟩ (.slice ya M2 yc) = W9 := ⟨_, rfl⟩
  rw [hW9] at hbx honly ⊢
  have k3' : W9.cell? ⟨p, 3, none⟩ = some (.int .i64 (szB B)) := hbx.cell 3
  have kf3 := hbx.froz 3
  have k3'' : W9.cell? ⟨p, 3, none⟩ = some (.int .i64 Z) := by rw [k3', HZ.out]
  have HE := Hid.mk (lbP_count hbx (n := ((Z + 1 : Nat) : Int)) (by rw [HSZ.out]))
  have HO := Hid.mk (honly.put (p := p) HSP.out 3 (.int .i64 ((Z + 1 : Nat) : Int)))
  have HNW := Hid.mk hnew
  clear k3' hbx honly hnew hW9 hM2 hi9 hr9 hg9 ho9 hd9 hz9 hO2 hO9 hU2 c0 c1 c2 c3 d0
  go_wp2
  go_ret2
  exact ⟨rfl, S', HE.out, HO.out, HNW.out⟩
end Go.Proofs.Ytkijbphbibcnoaa
