/-
  The document's buckets: one more.
-/
import Derived.Test.YtkijbphbibcnoaaLinRD
namespace Go.Proofs.Ytkijbphbibcnoaa
open Go.RowKit Go.Deep Go.Maps Go.WideShapes

/-- Items parted among n buckets. -/
def partB (n : Nat) (P : List It) : Bks := (List.range n).map fun j => P.filter (goesTo n j)
theorem partB_len (n : Nat) (P : List It) : (partB n P).length = n := by simp [partB]
theorem partB_nil (n : Nat) : partB n [] = List.replicate n [] := by
  apply List.ext_getElem
  · simp [partB]
  · intro i h1 h2
    simp [partB]
theorem partB_snoc {n : Nat} (hn : 1 ≤ n) (P : List It) (x : It) : partB n (P ++ [x]) = (partB n P).set (bkt x.1 n) (rowB (partB n P) (bkt x.1 n) ++ [x]) := by
  have hb := bkt_lt x.1 n hn
  apply List.ext_getElem
  · simp [partB]
  · intro i h1 h2
    have hi : i < n := by simpa [partB] using h1
    have e1 : rowB (partB n P) (bkt x.1 n) = P.filter (goesTo n (bkt x.1 n)) := rowB_map hb
    have e2 : (partB n (P ++ [x]))[i] = (P ++ [x]).filter (goesTo n i) := by simp [partB]
    have e3 : (partB n P)[i]'(by rw [partB_len]; exact hi) = P.filter (goesTo n i) := by simp [partB]
    simp only [e1]
    rw [List.getElem_set, e2, List.filter_append]
    by_cases e : bkt x.1 n = i
    · subst e
      rw [if_pos rfl]
      simp [goesTo]
    · rw [if_neg e, e3]
      simp [goesTo, e]
theorem splitB_part (B : Bks) : splitB B = partB (B.length + 1) B.flatten := rfl
theorem szB_part {n : Nat} (hn : 1 ≤ n) (P : List It) : szB (partB n P) = P.length := by
  have := parts_sum P (fun x => bkt x.1 n) n (fun x _ => bkt_lt x.1 _ hn)
  unfold szB partB
  rw [List.map_map]
  exact this
theorem flatten_take {B : Bks} {i : Nat} (h : i < B.length) : (B.take (i + 1)).flatten = (B.take i).flatten ++ B[i] := by
  have e : B.take (i + 1) = B.take i ++ [B[i]] := by rw [List.take_add_one, List.getElem?_eq_getElem h]; rfl
  rw [e, List.flatten_append]
  simp
theorem flatten_take_le (B : Bks) (i : Nat) : (B.take i).flatten.length ≤ szB B := by
  rw [szB_flat]
  exact szB_take_le B i

theorem Only.froz {T : Nat → Prop} {w w' : World} (h : Only T w w') {b o : Nat} (hb : ¬ T b) (hl : b < w.heap.size) : w'.frozen? ⟨b, o, none⟩ = w.frozen? ⟨b, o, none⟩ := by
  have := h.block b hl hb
  simp only [World.frozen?, this]
section
variable {w w4 : World} {q least : Nat} {v : Value} {S : Nat → Prop} {B : Bks} {i : Nat}
/-- One row at hand: where it lies, and what is left when it has turned. -/
theorem RbS.focus (h : RbS w q least v S B) (hi : i < B.length) : ∃ g cap a c, v = .slice (some ⟨g, 0, none⟩) B.length cap ∧ w.cell? ⟨g, i, none⟩ = some (.slice a B[i].length c) ∧ w.frozen? ⟨g, i, none⟩ = false ∧ Its w (.slice a B[i].length c) B[i] ∧ (∀ ad, a = some ad → S ad.block ∧ ad.block ≠ q) ∧ (S g ∧ g ≠ q) ∧ (∀ ad, a = some ad → ad.block ≠ g) ∧
    ∀ (w4 : World) (y : Value) (l : List It), Only (fun k => (Value.slice a B[i].length c).ownBlock = some k) w w4 → Its w4 y l → (∀ b, y.ownBlock = some b → (Value.slice a B[i].length c).ownBlock = some b ∨ w.heap.size ≤ b) → StR w q least S (B.set i l) (w4.setCell ⟨g, i, none⟩ y) := by
  obtain ⟨ls, hg⟩ := h.gd
  obtain ⟨g, cap, x, rfl, _, hgS, hx, hc, hz, hn, hxi, hxg⟩ := hg.at_ outR hi
  have e : x.v = .slice x.a B[i].length x.c := by unfold Sl.v; rw [hn]
  rw [e] at hc hxi hxg
  refine ⟨g, cap, x.a, x.c, rfl, hc, hz, hxi, fun ad ha => ?_, hgS, fun ad ha => ?_, fun w4 y l ho hy hny => ?_⟩
  · exact (hxg ad.block (by rw [ha]; rfl)).1
  · exact (hxg ad.block (by rw [ha]; rfl)).2
  · obtain ⟨a, c, rfl, _⟩ := Its.slice hy
    have hxS : ∀ k, (Value.slice x.a B[i].length x.c).ownBlock = some k → S k ∧ k ≠ q := fun k hk => (hxg k hk).1
    have hgs := hg.set (y := ⟨a, l.length, c⟩) (w' := w4) outR (fun k hk => h.lt k hk.1) hx (by rw [e]; exact ho) hy (by rw [e]; exact hny)
    have hoS : Only S w w4 := ho.mono fun k hk => (hxS k hk).1
    have ho' : Only S w (w4.setCell ⟨g, i, none⟩ (.slice a l.length c)) := hoS.put hgS.1 _ _
    refine ⟨fun k => S k ∨ (Value.slice a l.length c).ownBlock = some k, ⟨.slice (some ⟨g, 0, none⟩) B.length cap, ?_, ?_, Or.inl h.sq, fun k hk => ?_⟩, ho', fun k hk => ?_⟩
    · exact (Only.set (S := fun k => k = g) w4 (p := g) _ rfl).box (ho.box h.box (fun hk => (hxS q hk).2 rfl)) (fun e => hgS.2 e.symm)
    · refine Gd.wider ⟨_, hgs⟩ fun k hk => ?_
      rcases hk with hk | hk
      · exact ⟨Or.inl hk.1, hk.2⟩
      · refine ⟨Or.inr hk, fun e => ?_⟩
        rcases hny k hk with e2 | e2
        · exact (hxS k e2).2 e
        · have := h.lt q h.sq; omega
    · rcases hk with hk | hk
      · exact Nat.lt_of_lt_of_le (h.lt k hk) ho'.size
      · have := hy.lt hk
        rw [size_setCell']
        exact this
    · rcases hk with hk | hk
      · exact Or.inl hk
      · rcases hny k hk with e2 | e2
        · exact Or.inl (hxS k e2).1
        · exact Or.inr e2
end
/-- What Split and Join are at, amid: of what there was only the box at q has turned. -/
def Amid (w : World) (q least : Nat) (C : Bks) (w' : World) : Prop := ∃ S', Rb w' q least S' C ∧ Only (fun k => k = q) w w' ∧ ∀ k, S' k → k = q ∨ w.heap.size ≤ k
theorem Amid.step {w w1 w2 : World} {q least : Nat} {D : Bks} {S : Nat → Prop} (ho : Only (fun k => k = q) w w1) (hS : ∀ k, S k → k = q ∨ w.heap.size ≤ k) (h : StR w1 q least S D w2) : Amid w q least D w2 := by
  obtain ⟨S', h1, h2, h3⟩ := h
  refine ⟨S', h1, ho.trans h2 hS, fun k hk => ?_⟩
  rcases h3 k hk with e | e
  · exact hS k e
  · exact Or.inr (Nat.le_trans ho.size e)
theorem Amid.up {w w1 w2 : World} {q least : Nat} {C : Bks} (h : Amid w q least C w1) (hb : Below w1.heap.size w1 w2) : Amid w q least C w2 := by
  obtain ⟨S, h1, h2, h3⟩ := h
  exact ⟨S, h1.up hb, h2.trans (S' := fun _ => False) (Only.up hb) (fun _ f => f.elim), h3⟩

set_option maxHeartbeats 16000000 in
set_option maxRecDepth 100000 in
theorem splitR_any (q least : Nat) (S : Nat → Prop) (B : Bks) (w : World) (hb : Rb w q least S B) (hfit : Placed B) (h2 : B.length ≤ 100000) (hu : szB B ≤ 100000) :
    Calls Try.prog 33 #[.pointer (some ⟨q, 0, none⟩)] w fun e w' => e = .returned (.int .i64 0) ∧ StR w q least S (splitB B) w' := by
  obtain ⟨v, hb⟩ := hb
  obtain ⟨c0, c1, f1⟩ := hb.cells
  have h1 := hfit.some_
  obtain ⟨g0, cap0, hv, hcap0⟩ : ∃ g0 cap0, v = .slice (some ⟨g0, 0, none⟩) B.length cap0 ∧ B.length ≤ cap0 := by
    obtain ⟨g, cap, _, _, e, h, _⟩ := hb.at_ (i := 0) (by omega)
    exact ⟨g, cap, e, h⟩
  subst hv
  have HB := Hid.mk hb
  have HLN := Hid.mk (And.intro h2 (And.intro hu h1))
  have HFIT := Hid.mk hfit
  -- an elder row, as long as only the box has turned
  have HOLD := Hid.mk (fun (w' : World) (ho : Only (fun k => k = q) w w') (i : Nat) (hi : i < B.length) => show ∃ a rc, w'.cell? ⟨g0, i, none⟩ = some (.slice a B[i].length rc) ∧ CelT w' B[i] a ∧ (∀ ad, a = some ad → ad.block < w.heap.size) from by
    obtain ⟨g, cap, a, c, e, hc, _, hrow, ha, hg, _⟩ := hb.focus hi
    simp only [Value.slice.injEq, Option.some.injEq, Addr.mk.injEq, and_true, true_and] at e
    obtain ⟨rfl, _⟩ := e
    obtain ⟨a2, c2, e, hcel⟩ := Its.slice hrow
    simp only [Value.slice.injEq] at e
    obtain ⟨rfl, _, _⟩ := e
    exact ⟨a, c, ho.cellS hg.2 hc, hcel.kept ho (fun ad e => (ha ad e).2), fun ad e => hb.lt _ (ha ad e).1⟩)
  obtain ⟨N1, hN1⟩ : ∃ N1, B.length + 1 = N1 := ⟨_, rfl⟩
  have HN1 := Hid.mk hN1
  have hmk := make_rows N1 (by omega) w
  obtain ⟨W1, hW1⟩ : ∃ W1, w.alloc (.cells (List.replicate N1 (Value.slice none 0 0)).toArray 43) = W1 := ⟨_, rfl⟩
  have hU1 : Up w W1 := by rw [← hW1]; exact (Up.refl w).alloc
  rw [hW1] at hmk
  have k1 := cell_below hU1.out _ _ _ c1
  have z1 : W1.frozen? ⟨q, 1, none⟩ = false := by rw [(bcell hU1.out).2 _ _ (hb.lt q hb.sq)]; exact f1
  have HAM := Hid.mk (show Amid w q least (partB N1 []) (W1.setCell ⟨q, 1, none⟩ (.slice (some ⟨w.heap.size, 0, none⟩) N1 N1)) from by
    have hM := GdS.made (s := itS) (o := rwS) outR w N1 (by omega) (S := fun k => (k = q ∨ k = w.heap.size) ∧ k ≠ q) ⟨Or.inr rfl, fun e => (by have := hb.lt q hb.sq; omega)⟩
    have hM' : GdS itS rwS W1 _ _ _ _ := hW1 ▸ hM
    have hset : Only (fun k => k = q) W1 (W1.setCell ⟨q, 1, none⟩ (.slice (some ⟨w.heap.size, 0, none⟩) N1 N1)) := Only.set W1 _ rfl
    have hql := hb.lt q hb.sq
    have hbox := (Only.up (S := fun _ => False) hU1.out).box hb.box (fun f => f)
    refine ⟨fun k => k = q ∨ k = w.heap.size, ⟨_, put_box hbox 1 _, ?_, Or.inl rfl, fun k hk => ?_⟩, (Only.up hU1.out).put (S := fun k => k = q) rfl _ _, fun k hk => hk.imp id (fun e => (by omega))⟩
    · rw [partB_nil]
      exact Gd.kept ⟨_, hM'⟩ hset (fun k hk => hk.2)
    · rw [size_setCell', ← hW1]
      simp
      omega)
  clear hW1 hU1
  have hwn : IntKind.i64.wrap ((B.length : Int) + 1) = (N1 : Int) := by rw [wrap_id (by omega) (by omega)]; omega
  have hd : decide ((1048576 : Int) ≤ (B.length : Nat)) = false := by rw [decide_eq_false_iff_not]; omega
  clear hb h2 hu h1 hfit hN1 hcap0
  go_enter Try.func33, Try.ntmps33
  go_wp2
  go_loopw [4] (fun ii wr => ∃ i : Nat, i ≤ B.length ∧ ii = .int .i64 i ∧ Hid (Amid w q least (partB N1 (B.take i).flatten) wr)) (fun ii _ => B.length - (intOf ii).toNat)
  case atStart => exact ⟨0, Nat.zero_le _, rfl, by simpa using HAM⟩
  case round =>
    obtain ⟨i, hi, rfl, hA⟩ := hrel
    have hLL := HLN.out
    by_cases hlt : i < B.length
    · have HL := Hid.mk hlt
      have hli : (i : Int) < B.length := by omega
      have hft := flatten_take hlt
      have hwi : IntKind.i64.wrap ((i : Int) + 1) = ((i + 1 : Nat) : Int) := by rw [wrap_id (by omega) (by omega)]; omega
      have HR0 := Hid.mk (fun w' ho => HOLD.out w' ho i hlt)
      have hfr : ∀ x ∈ B[i]'hlt, x.1 < 4294967296 := fun x hx => (HFIT.out.at_ i x (by rw [rowB_lt hlt]; exact hx)).1
      have hlen := flatten_take_le B (i + 1)
      rw [hft, List.length_append] at hlen
      obtain ⟨R, hR⟩ : ∃ R, B[i]'hlt = R := ⟨_, rfl⟩
      rw [hR] at hft hfr hlen HR0
      have HFR := Hid.mk hfr
      have HFT := Hid.mk hft
      have HRL := Hid.mk (show (B.take i).flatten.length + R.length ≤ 100000 by omega)
      clear hLL hlt hR hft hfr hlen
      go_wp2
      go_loopw [5] (fun kk wr2 => ∃ k : Nat, k ≤ R.length ∧ kk = .int .i64 k ∧ Hid (Amid w q least (partB N1 ((B.take i).flatten ++ R.take k)) wr2)) (fun kk _ => R.length - (intOf kk).toNat)
      case atStart => exact ⟨0, Nat.zero_le _, rfl, by simpa using hA⟩
      case round =>
        obtain ⟨k, hk, rfl, hA2⟩ := hrel
        obtain ⟨S', ⟨v', hrb⟩, hon, hS'⟩ := hA2.out
        obtain ⟨ra, rc, r0, hcel, hral⟩ := HR0.out _ hon
        by_cases hkl : k < R.length
        · obtain ⟨b, o, rfl, x0, x1⟩ := CelT.item hcel hkl
          have hX32 := HFR.out _ (List.getElem_mem hkl)
          have htk : R.take (k + 1) = R.take k ++ [R[k]'hkl] := by rw [List.take_add_one, List.getElem?_eq_getElem hkl]; rfl
          obtain ⟨X, hX⟩ : ∃ X, R[k]'hkl = X := ⟨_, rfl⟩
          rw [hX] at x0 x1 hX32 htk
          have hN := HN1.out
          have hRL := HRL.out
          have hLL := HLN.out
          have hsn := partB_snoc (n := N1) (by omega) ((B.take i).flatten ++ R.take k) X
          rw [List.append_assoc, ← htk] at hsn
          have hsz := szB_part (n := N1) (by omega) ((B.take i).flatten ++ R.take k)
          rw [List.length_append, List.length_take] at hsz
          have hpl := partB_len N1 ((B.take i).flatten ++ R.take k)
          generalize partB N1 ((B.take i).flatten ++ R.take k) = C at *
          have hJ := bkt_lt X.1 N1 (by omega)
          have hof : ofB C X.1 = bkt X.1 N1 := by unfold ofB; rw [hpl]
          have HOF := Hid.mk (ofR_any q least S' C X.1 _ ⟨_, hrb⟩ hX32 (by omega) (by omega))
          rw [hof] at HOF
          generalize bkt X.1 N1 = J at *
          have hJC : J < C.length := by omega
          have hln := rowB_len_le C J
          obtain ⟨g, cap, a', c, rfl, d0, z0, hrow, haq, hgq, hag, hfoc⟩ := hrb.focus hJC
          obtain ⟨c0', c1, _⟩ := hrb.cells
          rw [hpl] at c1
          rw [rowB_lt hJC] at hsn hln
          have HFOC := Hid.mk hfoc
          have HROW := Hid.mk hrow
          obtain ⟨Y, hY⟩ : ∃ Y, C[J]'hJC = Y := ⟨_, rfl⟩
          rw [hY] at d0 hsn HROW HFOC hln
          obtain ⟨M, hM⟩ : ∃ M, Y.length = M := ⟨_, rfl⟩
          rw [hM] at d0 HROW HFOC hln
          obtain ⟨X0, X1⟩ := X
          simp only at x0 x1 HOF
          have HSN := Hid.mk hsn
          have HON := Hid.mk (And.intro hon hS')
          have HZ := Hid.mk (And.intro z0 (And.intro d0 (show Y.length ≤ 1000000 by omega)))
          have HKL := Hid.mk hkl
          have hkli : (k : Int) < R.length := by omega
          have hJi : (J : Int) < N1 := by omega
          have hwk : IntKind.i64.wrap ((k : Int) + 1) = ((k + 1 : Nat) : Int) := by rw [wrap_id (by omega) (by omega)]; omega
          have hg0l : g0 < w.heap.size := HB.out.lt g0 (by
            obtain ⟨g', cap', _, _, e, _, _, _, _, hg, _⟩ := HB.out.focus HL.out
            simp only [Value.slice.injEq, Option.some.injEq, Addr.mk.injEq, and_true, true_and] at e
            rw [e.1]; exact hg.1)
          have hbl : b < w.heap.size := hral _ rfl
          obtain ⟨T, hT⟩ : ∃ T, (fun k => (Value.slice a' M c).ownBlock = some k) = T := ⟨_, rfl⟩
          rw [hT] at HFOC
          have hTa : ∀ k, T k → ∃ ad, a' = some ad ∧ ad.block = k := fun k hk => by
            rw [← hT] at hk
            cases a' with
            | none => cases hk
            | some ad => exact ⟨ad, rfl, Option.some.inj hk⟩
          have HTO := Hid.mk (fun k (hk : (Value.slice a' M c).ownBlock = some k) => (show T k by rw [← hT]; exact hk))
          have NQ : ¬ T q := fun hk => by obtain ⟨ad, e, e2⟩ := hTa q hk; exact (haq ad e).2 e2
          have NG : ¬ T g := fun hk => by obtain ⟨ad, e, e2⟩ := hTa g hk; exact hag ad e e2
          have NO : ∀ k, k < w.heap.size → ¬ T k := fun k hk h => by
            obtain ⟨ad, e, e2⟩ := hTa k h
            have h3 := haq ad e
            rcases hS' _ h3.1 with e4 | e4
            · exact h3.2 e4
            · omega
          have NG0 := NO g0 hg0l
          have NB := NO b hbl
          have hgl := hrb.lt g hgq.1
          have HGL := Hid.mk hgl
          clear hral hkl hX hX32 htk hN hRL hLL hsn hsz hpl hJ hof hJC hln hrow hfoc hY hM hrb hon hS' hcel hA2 z0 hgq hA hT hTa haq hag hg0l hbl NO hgl
          go_upto_region 12 with (go_at_call 48; refine HOF.out.mono ?_; rintro e x ⟨rfl, rfl⟩)
          refine wp_region_last (last := 22) (S := Only T wr) (by kernel_rfl) ?_
          refine last_take (i := 0) (d := 49) (v := .pointer (some ⟨q, 0, none⟩)) rfl rfl (by kernel_rfl) (by kernel_rfl) (by kernel_rfl) (by kernel_rfl) rfl (fun _ _ => rfl) (fun _ _ _ h => h) (Only.refl _ _).drew ?_
          simp only [Act.put, List.setIfInBounds_toArray, List.set_cons_zero, List.set_cons_succ]
          refine last_take (i := 1) (d := 50) (v := .pointer (some ⟨q, 0, none⟩)) rfl rfl (by kernel_rfl) (by kernel_rfl) (by kernel_rfl) (by kernel_rfl) rfl (fun _ _ => (by go_simp)) (fun _ _ _ h => h) (Only.refl _ _).drew ?_
          simp only [Act.put, List.setIfInBounds_toArray, List.set_cons_zero, List.set_cons_succ]
          refine last_take (i := 2) (d := 51) (v := .pointer (some ⟨q, 1, none⟩)) rfl rfl (by kernel_rfl) (by kernel_rfl) (by kernel_rfl) (by kernel_rfl) rfl (fun _ _ => (by go_simp)) (fun _ _ _ h => h) (Only.refl _ _).drew ?_
          simp only [Act.put, List.setIfInBounds_toArray, List.set_cons_zero, List.set_cons_succ]
          refine last_take (i := 3) (d := 52) (v := .slice (some ⟨g, 0, none⟩) N1 cap) rfl rfl (by kernel_rfl) (by kernel_rfl) (by kernel_rfl) (by kernel_rfl) rfl (fun W h => (by have u0 := h.cellS NQ c1; go_simp)) (fun _ _ _ h => h) (Only.refl _ _).drew ?_
          simp only [Act.put, List.setIfInBounds_toArray, List.set_cons_zero, List.set_cons_succ]
          refine last_take (i := 4) (d := 53) (v := .int .i64 J) rfl rfl (by kernel_rfl) (by kernel_rfl) (by kernel_rfl) (by kernel_rfl) rfl (fun _ _ => rfl) (fun _ _ _ h => h) (Only.refl _ _).drew ?_
          simp only [Act.put, List.setIfInBounds_toArray, List.set_cons_zero, List.set_cons_succ]
          refine last_take (i := 5) (d := 54) (v := .pointer (some ⟨q, 0, none⟩)) rfl rfl (by kernel_rfl) (by kernel_rfl) (by kernel_rfl) (by kernel_rfl) rfl (fun _ _ => rfl) (fun _ _ _ h => h) (Only.refl _ _).drew ?_
          simp only [Act.put, List.setIfInBounds_toArray, List.set_cons_zero, List.set_cons_succ]
          refine last_take (i := 6) (d := 55) (v := .pointer (some ⟨q, 0, none⟩)) rfl rfl (by kernel_rfl) (by kernel_rfl) (by kernel_rfl) (by kernel_rfl) rfl (fun _ _ => (by go_simp)) (fun _ _ _ h => h) (Only.refl _ _).drew ?_
          simp only [Act.put, List.setIfInBounds_toArray, List.set_cons_zero, List.set_cons_succ]
          refine last_take (i := 7) (d := 56) (v := .pointer (some ⟨q, 1, none⟩)) rfl rfl (by kernel_rfl) (by kernel_rfl) (by kernel_rfl) (by kernel_rfl) rfl (fun _ _ => (by go_simp)) (fun _ _ _ h => h) (Only.refl _ _).drew ?_
          simp only [Act.put, List.setIfInBounds_toArray, List.set_cons_zero, List.set_cons_succ]
          refine last_take (i := 8) (d := 57) (v := .slice (some ⟨g, 0, none⟩) N1 cap) rfl rfl (by kernel_rfl) (by kernel_rfl) (by kernel_rfl) (by kernel_rfl) rfl (fun W h => (by have u0 := h.cellS NQ c1; go_simp)) (fun _ _ _ h => h) (Only.refl _ _).drew ?_
          simp only [Act.put, List.setIfInBounds_toArray, List.set_cons_zero, List.set_cons_succ]
          refine last_take (i := 9) (d := 58) (v := .int .i64 J) rfl rfl (by kernel_rfl) (by kernel_rfl) (by kernel_rfl) (by kernel_rfl) rfl (fun _ _ => rfl) (fun _ _ _ h => h) (Only.refl _ _).drew ?_
          simp only [Act.put, List.setIfInBounds_toArray, List.set_cons_zero, List.set_cons_succ]
          refine last_take (i := 10) (d := 59) (v := .pointer (some ⟨g, J, none⟩)) rfl rfl (by kernel_rfl) (by kernel_rfl) (by kernel_rfl) (by kernel_rfl) rfl (fun _ _ => (by go_simp)) (fun _ _ _ h => h) (Only.refl _ _).drew ?_
          simp only [Act.put, List.setIfInBounds_toArray, List.set_cons_zero, List.set_cons_succ]
          refine last_take (i := 11) (d := 60) (v := .slice a' M c) rfl rfl (by kernel_rfl) (by kernel_rfl) (by kernel_rfl) (by kernel_rfl) rfl (fun W h => (by have u0 := h.cellS NG d0; go_simp)) (fun _ _ _ h => h) (Only.refl _ _).drew ?_
          simp only [Act.put, List.setIfInBounds_toArray, List.set_cons_zero, List.set_cons_succ]
          refine last_take (i := 12) (d := 61) (v := .slice (some ⟨g0, 0, none⟩) B.length cap0) rfl rfl (by kernel_rfl) (by kernel_rfl) (by kernel_rfl) (by kernel_rfl) rfl (fun _ _ => rfl) (fun _ _ _ h => h) (Only.refl _ _).drew ?_
          simp only [Act.put, List.setIfInBounds_toArray, List.set_cons_zero, List.set_cons_succ]
          refine last_take (i := 13) (d := 62) (v := .int .i64 i) rfl rfl (by kernel_rfl) (by kernel_rfl) (by kernel_rfl) (by kernel_rfl) rfl (fun _ _ => rfl) (fun _ _ _ h => h) (Only.refl _ _).drew ?_
          simp only [Act.put, List.setIfInBounds_toArray, List.set_cons_zero, List.set_cons_succ]
          refine last_take (i := 14) (d := 63) (v := .pointer (some ⟨g0, i, none⟩)) rfl rfl (by kernel_rfl) (by kernel_rfl) (by kernel_rfl) (by kernel_rfl) rfl (fun _ _ => (by go_simp)) (fun _ _ _ h => h) (Only.refl _ _).drew ?_
          simp only [Act.put, List.setIfInBounds_toArray, List.set_cons_zero, List.set_cons_succ]
          refine last_take (i := 15) (d := 64) (v := .slice (some ⟨b, o, none⟩) R.length rc) rfl rfl (by kernel_rfl) (by kernel_rfl) (by kernel_rfl) (by kernel_rfl) rfl (fun W h => (by have u0 := h.cellS NG0 r0; go_simp)) (fun _ _ _ h => h) (Only.refl _ _).drew ?_
          simp only [Act.put, List.setIfInBounds_toArray, List.set_cons_zero, List.set_cons_succ]
          refine last_take (i := 16) (d := 65) (v := .int .i64 k) rfl rfl (by kernel_rfl) (by kernel_rfl) (by kernel_rfl) (by kernel_rfl) rfl (fun _ _ => rfl) (fun _ _ _ h => h) (Only.refl _ _).drew ?_
          simp only [Act.put, List.setIfInBounds_toArray, List.set_cons_zero, List.set_cons_succ]
          refine last_take (i := 17) (d := 66) (v := .pointer (some ⟨b, o + k * 2, none⟩)) rfl rfl (by kernel_rfl) (by kernel_rfl) (by kernel_rfl) (by kernel_rfl) rfl (fun _ _ => (by go_simp)) (fun _ _ _ h => h) (Only.refl _ _).drew ?_
          simp only [Act.put, List.setIfInBounds_toArray, List.set_cons_zero, List.set_cons_succ]
          refine last_take (i := 18) (d := 67) (v := .agg #[.int .u32 X0, .int .i64 X1]) rfl rfl (by kernel_rfl) (by kernel_rfl) (by kernel_rfl) (by kernel_rfl) rfl (fun W h => (by have u0 := h.cellS NB x0; have u1 := h.cellS NB x1; go_simp)) (fun _ _ _ h => h) (Only.refl _ _).drew ?_
          simp only [Act.put, List.setIfInBounds_toArray, List.set_cons_zero, List.set_cons_succ]
          obtain ⟨WD, hWD⟩ : ∃ WD, ({ wr with drawn := wr.drawn + 1 } : World) = WD := ⟨_, rfl⟩
          have HD : Up wr WD := by rw [← hWD]; exact (Up.refl wr).drew
          rw [hWD]
          clear hWD
          have hU2 := Up.alloc HD (o := .cells #[.int .u32 X0, .int .i64 X1] 54)
          obtain ⟨y, w9, hr9, hi9, hg9, ho9⟩ := item_append (WD.alloc (.cells #[.int .u32 X0, .int .i64 X1] 54)) _ Y (X0, X1) (HROW.out.up hU2.out) WD.heap.size (new_block _ _) HZ.out.2.2
          have hO2 : Only T wr (WD.alloc (.cells #[.int .u32 X0, .int .i64 X1] 54)) := Only.up hU2.out
          have hO9 : Only T wr w9 := hO2.grow hg9 HTO.out
          have hst := HFOC.out w9 y _ hO9 hi9 (fun b hb => by
            rcases ho9 with e | e
            · exact Or.inl (e ▸ hb)
            · rw [e] at hb
              cases hb
              exact Or.inr hU2.out.size)
          have hd9 := hO9.cellS NG HZ.out.2.1
          have hz9 : w9.frozen? ⟨g, J, none⟩ = false := by rw [hO9.froz NG HGL.out]; exact HZ.out.1
          obtain ⟨ya, yc, e2, _⟩ := Its.slice hi9
          obtain ⟨M2, hM2⟩ : ∃ M2, (Y ++ [(X0, X1)]).length = M2 := ⟨_, rfl⟩
          rw [hM2] at e2
          subst e2
          rw [← HSN.out] at hst
          have HE := Hid.mk (Amid.step HON.out.1 HON.out.2 hst)
          clear hM2 hst
          refine last_value (i := 19) (d := 68) (v := .slice (some ⟨WD.heap.size, 0, none⟩) 1 1) (w' := WD.alloc (.cells #[.int .u32 X0, .int .i64 X1] 54)) (by kernel_rfl) rfl rfl rfl (by go_simp) hO2 ?_
          simp only [Act.put, List.setIfInBounds_toArray, List.set_cons_zero, List.set_cons_succ]
          refine last_value (i := 20) (d := 69) (v := _) (w' := w9) (by kernel_rfl) rfl rfl rfl (exec_append rfl rfl hr9) hO9 ?_
          simp only [Act.put, List.setIfInBounds_toArray, List.set_cons_zero, List.set_cons_succ]
          refine last_take (i := 21) (d := 70) (v := .pointer (some ⟨g, J, none⟩)) rfl rfl (by kernel_rfl) (by kernel_rfl) (by kernel_rfl) (by kernel_rfl) rfl (fun _ _ => (by go_simp)) (fun _ _ _ h => h) hO9 ?_
          simp only [Act.put, List.setIfInBounds_toArray, List.set_cons_zero, List.set_cons_succ]
          refine last_store (w' := w9.setCell ⟨g, J, none⟩ (.slice ya M2 yc)) (by kernel_rfl) rfl rfl rfl (by go_simp) (by kernel_rfl) ?_
          clear hd9 hz9 hr9 hi9 hg9 ho9 hO2 hO9 hU2
          go_wp2
          go_roundw
          case rel => exact ⟨k + 1, HKL.out, by first | rfl | go_num, HE⟩
          case measure => have h1 : k < R.length := HKL.out; simp [intOf]; omega
        · obtain rfl : k = R.length := by omega
          clear hkl
          have hE := Hid.mk (show Amid w q least (partB N1 (B.take (i + 1)).flatten) _ from by
            have := hA2.out
            rw [List.take_length, ← HFT.out] at this
            exact this)
          clear hA2 hA hrb hon hS' hcel hral
          go_wp2
          go_roundw
          case rel => exact ⟨i + 1, HL.out, by first | rfl | go_num, hE⟩
          case measure => have h1 : i < B.length := HL.out; simp [intOf]; omega
    · obtain rfl : i = B.length := by omega
      clear hlt hLL
      have hE := Hid.mk (show StR w q least S (splitB B) wr from by
        obtain ⟨S', h1, h2, h3⟩ := hA.out
        rw [List.take_length, ← HN1.out] at h1
        exact ⟨S', h1, h2.mono fun k hk => (by rw [hk]; exact HB.out.sq), fun k hk => (h3 k hk).imp (fun e => (by rw [e]; exact HB.out.sq)) id⟩)
      go_wp2
      go_ret
      exact ⟨rfl, hE.out⟩
end Go.Proofs.Ytkijbphbibcnoaa
