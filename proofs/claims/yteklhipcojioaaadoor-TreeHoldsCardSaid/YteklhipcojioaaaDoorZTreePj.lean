/-
  The program's tree: what is beside a key.
-/
import Derived.Test.YteklhipcojioaaaDoorZTreePh
namespace Go.Proofs.YteklhipcojioaaaDoor
open Go.RowKit Go.Deep Go.Maps Go.WideShapes

theorem zbox_same {w w' : World} {nb : Nat} (h : Zbox w nb) (hw : w'.heap[nb]? = w.heap[nb]?) : Zbox w' nb := by
  unfold Zbox World.cell? World.frozen? at *
  simp only at h ⊢
  rw [hw]
  exact h
theorem frame_mem {f : Fr} {c : List Fr} (hf : f ∈ c) (t : Bt) : f.e ∈ (fillB t c).list := by
  rw [fill_list]
  suffices H : f.e ∈ preC c ∨ f.e ∈ postC c by
    rcases H with h | h
    · simp [h]
    · simp [h]
  induction c with
  | nil => cases hf
  | cons f2 c ih =>
    rw [preC, postC]
    rcases List.mem_cons.1 hf with rfl | h
    · cases hs : f.side with
      | true => left; simp
      | false => right; simp
    · rcases ih h with h | h
      · left; simp [h]
      · right; simp [h]
theorem eqlW (g o o' : Nat) (w : World) {cs : Array Value} {ty : TypeId} (hb : w.heap[g]? = some (.cells cs ty)) : (binOp .eql 78 (.pointer (some ⟨g, o, none⟩)) (.pointer (some ⟨g, o', none⟩))).run Tryd.prog w = .ok (.bool (decide (o = o'))) w := by
  have hs : (Tryd.prog.info? 43).map (fun i => i.size) = some 1 := by kernel_rfl
  cases hi : Tryd.prog.info? 43 with
  | none => rw [hi] at hs; cases hs
  | some i0 =>
    rw [hi] at hs
    simp only [Option.map_some, Option.some.injEq] at hs
    by_cases e : o = o'
    · subst e
      rw [decide_eq_true rfl]
      exact run_eql_ptr_same w _ Tryd.underlying78 hi
    · rw [decide_eq_false e]
      exact run_eql_ptr_other w Tryd.underlying78 hi (by omega) (fun h => e (Addr.mk.inj h).2.1) hb hb
set_option maxHeartbeats 8000000 in
set_option maxRecDepth 100000 in
theorem nearT_1 (p : Nat) (t : Bt) (cm : Int) (K F' : Nat → Prop) (T : Tm) (kv : Value) (w : World) (h : TpB w p t cm K) (hk : Lies w F' T kv) (hkp : ¬ F' p) (hz : t.list.length ≤ 700000) (hcm : 0 ≤ cm ∧ cm ≤ 1000000000000) :
    Calls Tryd.prog 58 #[.pointer (some ⟨p, 0, none⟩), kv, .int .i64 1] w fun e w' => ∃ tv, e = .returned (.tuple #[tv, .int .i64 (tellN (ndsB t.list) ((nextN (ndsB t.list) T : Nat))).2.1, .bool (tellN (ndsB t.list) ((nextN (ndsB t.list) T : Nat))).2.2]) ∧ Own w' (tellN (ndsB t.list) ((nextN (ndsB t.list) T : Nat))).1 w.heap.size w'.heap.size tv ∧ LookT w p t cm K w' false := by
  obtain ⟨kk, kn, ks, ka, km, kc, rfl⟩ := hk.agg
  obtain ⟨nb, W1, hnb, hW1, hu, ⟨b0, b1, b2, b3⟩, hzb⟩ := boxes2 w kk kn ks ka km kc
  have h1 := h.up hu
  obtain ⟨c0, _, _, _⟩ := h1.cells
  have HD := Hid.mk (downB_any p t.list.length cm T t K F' _ W1 h1.lay h1.top (List.nodup_cons.1 h.nd).1 (hk.below hu) hkp h.bal h.rise (by omega) hcm (fun e he => (h1.keys e he).1) (fun hK => (h.kk p hK).2.1 rfl))
  have HT := Hid.mk h1
  have HU := Hid.mk hu
  have HW := Hid.mk (And.intro hW1 hnb)
  have HZ := Hid.mk hz
  have HZB := Hid.mk hzb
  have HLT := Hid.mk (show ∀ k, k = p ∨ k ∈ t.blocks ∨ K k → k < nb from fun k hk => hnb ▸ h.lt k hk)
  have hsz1 : nb + 2 ≤ W1.heap.size := by have := World.block_lt_of_cell? W1 _ hzb.1.1; simp only at this; omega
  have HSZ := Hid.mk hsz1
  clear h h1 hk hkp hz hcm hu hnb hW1 hzb hsz1
  go_enter Tryd.func58, Tryd.ntmps58
  go_upto_region 1 with fail
  rw [HW.out.1, HW.out.2]
  go_upto_region 4 with (first
    | (go_at_call 52; refine HD.out.mono ?_; rintro e w2 ⟨v, d, rfl, hd⟩; have HDD := Hid.mk hd; clear hd)
    | (go_at_call 37; refine (madeT_any _ _ c0).mono ?_; rintro e w2 ⟨rfl, rfl⟩))
  clear b0 b1 b2 b3 c0
  obtain ⟨cm', hT2, ho2, hle2, hlow2, _⟩ := DownB.tp HT.out HDD.out
  have HT2 := Hid.mk (And.intro hT2 ho2)
  have HLE := Hid.mk (And.intro hle2 hlow2)
  clear hT2 ho2 hle2 hlow2
  obtain ⟨c, t2, d1, d2, d3, d4, d5, d6, d7, d8, d9⟩ := HDD.out
  have HFI := Hid.mk (fun (w3 : World) (h4 : TpB w3 p t cm' K) (h5 : Only (fun k => k = p) W1 w3) (h3 : nb + 2 ≤ w3.heap.size) => show ∀ (w6 : World) (v0 v1 v2 v3 : Value), Below w3.heap.size w3 w6 → LookT w p t cm K ((((w6.setCell ⟨nb + 1, 0, none⟩ v0).setCell ⟨nb + 1, 1, none⟩ v1).setCell ⟨nb + 1, 2, none⟩ v2).setCell ⟨nb + 1, 3, none⟩ v3) false from fun w6 v0 v1 v2 v3 hb => by
    have hset : Only (fun k => k = nb + 1) w6 ((((w6.setCell ⟨nb + 1, 0, none⟩ v0).setCell ⟨nb + 1, 1, none⟩ v1).setCell ⟨nb + 1, 2, none⟩ v2).setCell ⟨nb + 1, 3, none⟩ v3) := ((((Only.refl (fun k => k = nb + 1) w6).put rfl 0 v0).put rfl 1 v1).put rfl 2 v2).put rfl 3 v3
    refine ⟨cm', (h4.up hb).kept hset (fun k hk e => by have := HLT.out k hk; omega), ?_, HLE.out.1, HLE.out.2, fun e => (by cases e)⟩
    have hw6 : Only (fun k => k = p) w w6 := ((Only.up (S := fun k => k = p) HU.out).trans h5 (fun k hk => Or.inl hk)).call hb
    exact hw6.trans hset (fun k hk => Or.inr (by have := HW.out.2; omega)))
  cases d with
  | false =>
    obtain rfl := d4 rfl
    have H1 : Hid (fillB .nil c = t) := Hid.mk d1
    have H2 : Hid (tellN (ndsB t.list) ((nextN (ndsB t.list) T : Nat)) = tellK (nearC true c)) := Hid.mk (d1 ▸ next_none d2)
    have H3 : Hid (Ow wayS w2 v (waysC p c)) := Hid.mk d5
    have H4 : Hid (TpB w2 p t cm' K) := Hid.mk HT2.out.1
    have H5 : Hid (Only (fun k => k = p) w w2) := Hid.mk ((Only.up (S := fun k => k = p) HU.out).trans HT2.out.2 (fun k hk => Or.inl hk))
    have H6 : Hid (c.length ≤ 700000) := Hid.mk (by have := fill_cnt .nil c; rw [d1] at this; have := HZ.out; omega)
    have HN3 : Hid (nb + 2 ≤ w2.heap.size) := Hid.mk (Nat.le_trans HSZ.out HT2.out.2.size)
    have HZ3 : Hid (Zbox w2 (nb + 1)) := Hid.mk (zbox_same HZB.out (HT2.out.2.block (nb + 1) (by have := HSZ.out; omega) (by have := HLT.out p (Or.inl rfl); omega)))
    have FIN := Hid.mk (fun (w6 : World) {v0 v1 v2 v3 : Value} => HFI.out w2 H4.out HT2.out.2 HN3.out w6 v0 v1 v2 v3)
    clear d1 d2 d3 d4 d5 d6 d7 d8 d9
    generalize c = c3 at *
    generalize w2 = w3 at *
    obtain ⟨gw, cap, hvs, hcap, hmx, hrow⟩ := way_row H3.out
    subst hvs
    obtain ⟨M, hM⟩ : ∃ M, c3.length + 1 = M := ⟨_, rfl⟩
    rw [hM] at hcap
    have HMM := Hid.mk (show c3.length + 1 = M ∧ c3.length ≤ 700000 from ⟨hM, H6.out⟩)
    rw [hM]
    have hwM : IntKind.i64.wrap ((M : Int) - 2) = (c3.length : Int) - 1 := by have := H6.out; rw [wrap_id (by omega) (by omega)]; omega
    have HROW := Hid.mk hrow
    have HC3 := Hid.mk (show ∃ v, CtxB w3 p t.list.length cm' c3 v from by
      have h7 := H4.out
      exact ⟨_, (CtxB.split (c := c3) (t := .nil) (by rw [H1.out]; exact h7.lay) (by rw [H1.out]; exact h7.top)).2⟩)
    have HF3 := Hid.mk (show ∀ f ∈ c3, f.e ∈ t.list from fun f hf => by
      have := frame_mem hf .nil
      rwa [H1.out] at this)
    clear hM hcap hmx hrow
    go_wp2
    go_loopw [11] (fun ii wr => ∃ (c2 : List Fr) (rest : List Lk), ii = .int .i64 ((c2.length : Int) - 1) ∧ Hid (waysC p c3 = waysC p c2 ++ rest ∧ nearC true c3 = nearC true c2 ∧ (∃ v, CtxB w3 p t.list.length cm' c2 v) ∧ (∀ f ∈ c2, f.e ∈ t.list) ∧ Below w3.heap.size w3 wr)) (fun ii _ => (intOf ii + 1).toNat)
    case atStart => exact ⟨c3, [], rfl, Hid.mk ⟨(List.append_nil _).symm, rfl, HC3.out, HF3.out, Below.refl _ _⟩⟩
    case round =>
      obtain ⟨c2, rest, rfl, hR⟩ := hrel
      cases c2 with
      | nil =>
        have HE := Hid.mk (show nearC true c3 = none from hR.out.2.1)
        have HBX := Hid.mk (box_up HZ3.out hR.out.2.2.2.2)
        obtain ⟨⟨e0, e1, e2, e3⟩, z1, z2, z3, z4⟩ := box_up HZ3.out hR.out.2.2.2.2
        go_wp2
        refine ret3_stored rfl rfl rfl rfl rfl HBX.out.1.1 HBX.out.1.2.1 HBX.out.1.2.2.1 HBX.out.1.2.2.2 ⟨.agg #[.int .i64 0, .int .i64 0, .string ⟨#[]⟩, .slice none 0 0], ?_, ?_, ?_⟩
        · rw [H2.out, HE.out]; rfl
        · rw [H2.out, HE.out]; exact own_zero _ _ _
        · exact FIN.out _ hR.out.2.2.2.2
      | cons f c4 =>
        have hl4 : (((f :: c4 : List Fr).length : Nat) : Int) - 1 = (c4.length : Int) := by rw [List.length_cons]; omega
        rw [hl4]
        obtain ⟨v9, hv9⟩ := hR.out.2.2.1
        obtain ⟨q1, q2, q3⟩ := hv9
        obtain ⟨cs, ty, k1, k2, _⟩ := q3.link
        have hw0 := hR.out.1
        have hw1 : waysC p c3 = waysC p c4 ++ (linkC p (f :: c4) :: rest) := by rw [hw0, waysC, List.append_assoc]; rfl
        have x0 := cell_below hR.out.2.2.2.2 _ _ _ (HROW.out _ _ (ways_at hw1))
        have x1 := cell_below hR.out.2.2.2.2 _ _ _ (HROW.out _ _ (ways_at hw0))
        have lk : wr.cell? ⟨(linkC p c4).1, (linkC p c4).2, none⟩ = some (.pointer (some ⟨f.g, 0, none⟩)) := cell_below hR.out.2.2.2.2 _ _ _ (by simp only [World.cell?, k1]; exact k2)
        have hlen := congrArg List.length hw0
        rw [List.length_append, ways_len, ways_len, List.length_cons] at hlen
        obtain ⟨N4, hN4⟩ : ∃ N4, c4.length = N4 := ⟨_, rfl⟩
        obtain ⟨N5, hN5⟩ : ∃ N5, N4 + 1 = N5 := ⟨_, rfl⟩
        have hlk5 : linkC p (f :: c4) = (f.g, 6 + sideN f.side) := rfl
        rw [hlk5, List.length_cons, hN4, hN5] at x1
        rw [hN4] at x0 ⊢
        rw [hN4] at hlen
        have hmm := HMM.out
        have hwn : IntKind.i64.wrap ((N4 : Int) + 1) = (N5 : Int) := by rw [wrap_id (by omega) (by omega)]; omega
        have hwm : IntKind.i64.wrap ((N4 : Int) - 1) = (N4 : Int) - 1 := wrap_id (by omega) (by omega)
        have hl0 : (0 : Int) ≤ N4 := by omega
        have hl1 : (N4 : Int) < M := by omega
        have hl2 : (N5 : Int) < M := by omega
        have hw1' : IntKind.i64.wrap 1 = 1 := wrap_id (by decide) (by decide)
        have hw0' : IntKind.i64.wrap 0 = 0 := wrap_id (by decide) (by decide)
        obtain ⟨Lb, hLb⟩ : ∃ Lb, (linkC p c4).1 = Lb := ⟨_, rfl⟩
        obtain ⟨Lo', hLo⟩ : ∃ Lo', (linkC p c4).2 = Lo' := ⟨_, rfl⟩
        rw [hLb, hLo] at x0 lk
        have HI := Hid.mk (And.intro hN4 hN5)
        have HCV := Hid.mk hR.out.2.2.1
        have esd : f.side = true ∨ f.side = false := by cases f.side <;> simp
        clear hl4 q1 q2 q3 k1 k2 hw0 hw1 hlen hN4 hN5 hlk5 hmm hLb hLo
        rcases esd with esd | esd
        · have HSD := Hid.mk esd
          rw [esd] at x1
          change wr.cell? ⟨gw, N5, none⟩ = some (.pointer (some ⟨f.g, 7, none⟩)) at x1
          clear esd
          have heq : ∀ W : World, Up wr W → (binOp .eql 78 (.pointer (some ⟨f.g, 7, none⟩)) (.pointer (some ⟨f.g, 6, none⟩))).run Tryd.prog W = .ok (.bool false) W := fun W hW => eqlW f.g 7 6 W (((hR.out.2.2.2.2.trans (hW.out.mono hR.out.2.2.2.2.size)).block f.g (Array.getElem?_eq_some_iff.1 HCV.out.choose_spec.1).1).trans HCV.out.choose_spec.1)
          have HEQ := Hid.mk heq
          clear heq
          go_upto_region 10 with fail
          refine region_up (W := wr) (by kernel_rfl) (by kernel_rfl) (Up.refl _) ?_
          refine quiet_value (v := .slice (some ⟨gw, 0, none⟩) M cap) rfl (fun _ _ => rfl) ?_
          simp only [Act.put, List.setIfInBounds_toArray, List.set_cons_zero, List.set_cons_succ]
          refine quiet_value (v := .int .i64 N4) rfl (fun _ _ => rfl) ?_
          simp only [Act.put, List.setIfInBounds_toArray, List.set_cons_zero, List.set_cons_succ]
          refine quiet_value (v := .int .i64 N5) rfl (fun _ _ => (by go_simp)) ?_
          simp only [Act.put, List.setIfInBounds_toArray, List.set_cons_zero, List.set_cons_succ]
          refine quiet_value (v := .pointer (some ⟨gw, N5, none⟩)) rfl (fun _ _ => (by go_simp)) ?_
          simp only [Act.put, List.setIfInBounds_toArray, List.set_cons_zero, List.set_cons_succ]
          refine quiet_value (v := .pointer (some ⟨f.g, 7, none⟩)) rfl (fun W h => (by have u0 := cell_below h.out _ _ _ x1; go_simp)) ?_
          simp only [Act.put, List.setIfInBounds_toArray, List.set_cons_zero, List.set_cons_succ]
          refine quiet_value (v := .pointer (some ⟨f.g, 0, none⟩)) rfl (fun _ _ => rfl) ?_
          simp only [Act.put, List.setIfInBounds_toArray, List.set_cons_zero, List.set_cons_succ]
          refine quiet_value (v := .int .i64 1) rfl (fun _ _ => rfl) ?_
          simp only [Act.put, List.setIfInBounds_toArray, List.set_cons_zero, List.set_cons_succ]
          refine quiet_value (v := .int .i64 0) rfl (fun _ _ => (by go_simp)) ?_
          simp only [Act.put, List.setIfInBounds_toArray, List.set_cons_zero, List.set_cons_succ]
          refine quiet_value (v := .pointer (some ⟨f.g, 0, none⟩)) rfl (fun _ _ => (by go_simp)) ?_
          simp only [Act.put, List.setIfInBounds_toArray, List.set_cons_zero, List.set_cons_succ]
          refine quiet_value (v := .pointer (some ⟨f.g, 6, none⟩)) rfl (fun _ _ => (by go_simp)) ?_
          simp only [Act.put, List.setIfInBounds_toArray, List.set_cons_zero, List.set_cons_succ]
          refine quiet_value (v := .pointer (some ⟨f.g, 6, none⟩)) rfl (fun _ _ => (by go_simp)) ?_
          simp only [Act.put, List.setIfInBounds_toArray, List.set_cons_zero, List.set_cons_succ]
          refine quiet_value (v := .bool false) rfl (fun W h => (by have u0 := HEQ.out W h; go_simp)) ?_
          simp only [Act.put, List.setIfInBounds_toArray, List.set_cons_zero, List.set_cons_succ]
          refine quiet_nil ?_
          intro w5 hw5
          have HB5 := Hid.mk (hR.out.2.2.2.2.trans (hw5.out.mono hR.out.2.2.2.2.size))
          clear hw5 x0 x1 lk
          have HNX := Hid.mk (show nearC true c3 = nearC true c4 from by rw [hR.out.2.1]; unfold nearC; rw [List.find?_cons, show (f.side == !true) = false by rw [HSD.out]; rfl])
          go_wp2
          go_roundw
          case rel =>
            refine ⟨c4, linkC p (f :: c4) :: rest, ?_, Hid.mk ⟨?_, HNX.out, ⟨_, HCV.out.choose_spec.2.2⟩, fun f' hf' => hR.out.2.2.2.1 f' (by simp [hf']), HB5.out⟩⟩
            · have := HI.out.1
              congr 1
              omega
            · rw [hR.out.1, waysC, List.append_assoc]; rfl
          case measure => have := HI.out; simp [intOf]
        · have HSD := Hid.mk esd
          rw [esd] at x1
          change wr.cell? ⟨gw, N5, none⟩ = some (.pointer (some ⟨f.g, 6, none⟩)) at x1
          clear esd
          have heq : ∀ W : World, Up wr W → (binOp .eql 78 (.pointer (some ⟨f.g, 6, none⟩)) (.pointer (some ⟨f.g, 6, none⟩))).run Tryd.prog W = .ok (.bool true) W := fun W hW => eqlW f.g 6 6 W (((hR.out.2.2.2.2.trans (hW.out.mono hR.out.2.2.2.2.size)).block f.g (Array.getElem?_eq_some_iff.1 HCV.out.choose_spec.1).1).trans HCV.out.choose_spec.1)
          have HEQ := Hid.mk heq
          clear heq
          go_upto_region 10 with fail
          refine region_up (W := wr) (by kernel_rfl) (by kernel_rfl) (Up.refl _) ?_
          refine quiet_value (v := .slice (some ⟨gw, 0, none⟩) M cap) rfl (fun _ _ => rfl) ?_
          simp only [Act.put, List.setIfInBounds_toArray, List.set_cons_zero, List.set_cons_succ]
          refine quiet_value (v := .int .i64 N4) rfl (fun _ _ => rfl) ?_
          simp only [Act.put, List.setIfInBounds_toArray, List.set_cons_zero, List.set_cons_succ]
          refine quiet_value (v := .int .i64 N5) rfl (fun _ _ => (by go_simp)) ?_
          simp only [Act.put, List.setIfInBounds_toArray, List.set_cons_zero, List.set_cons_succ]
          refine quiet_value (v := .pointer (some ⟨gw, N5, none⟩)) rfl (fun _ _ => (by go_simp)) ?_
          simp only [Act.put, List.setIfInBounds_toArray, List.set_cons_zero, List.set_cons_succ]
          refine quiet_value (v := .pointer (some ⟨f.g, 6, none⟩)) rfl (fun W h => (by have u0 := cell_below h.out _ _ _ x1; go_simp)) ?_
          simp only [Act.put, List.setIfInBounds_toArray, List.set_cons_zero, List.set_cons_succ]
          refine quiet_value (v := .pointer (some ⟨f.g, 0, none⟩)) rfl (fun _ _ => rfl) ?_
          simp only [Act.put, List.setIfInBounds_toArray, List.set_cons_zero, List.set_cons_succ]
          refine quiet_value (v := .int .i64 1) rfl (fun _ _ => rfl) ?_
          simp only [Act.put, List.setIfInBounds_toArray, List.set_cons_zero, List.set_cons_succ]
          refine quiet_value (v := .int .i64 0) rfl (fun _ _ => (by go_simp)) ?_
          simp only [Act.put, List.setIfInBounds_toArray, List.set_cons_zero, List.set_cons_succ]
          refine quiet_value (v := .pointer (some ⟨f.g, 0, none⟩)) rfl (fun _ _ => (by go_simp)) ?_
          simp only [Act.put, List.setIfInBounds_toArray, List.set_cons_zero, List.set_cons_succ]
          refine quiet_value (v := .pointer (some ⟨f.g, 6, none⟩)) rfl (fun _ _ => (by go_simp)) ?_
          simp only [Act.put, List.setIfInBounds_toArray, List.set_cons_zero, List.set_cons_succ]
          refine quiet_value (v := .pointer (some ⟨f.g, 6, none⟩)) rfl (fun _ _ => (by go_simp)) ?_
          simp only [Act.put, List.setIfInBounds_toArray, List.set_cons_zero, List.set_cons_succ]
          refine quiet_value (v := .bool true) rfl (fun W h => (by have u0 := HEQ.out W h; go_simp)) ?_
          simp only [Act.put, List.setIfInBounds_toArray, List.set_cons_zero, List.set_cons_succ]
          refine quiet_nil ?_
          intro w5 hw5
          have HB5 := Hid.mk (hR.out.2.2.2.2.trans (hw5.out.mono hR.out.2.2.2.2.size))
          clear hw5 x0 x1 lk
          have HE := Hid.mk (show nearC true c3 = some f.e ∧ f.e ∈ t.list from ⟨by rw [hR.out.2.1]; unfold nearC; rw [List.find?_cons, show (f.side == !true) = true by rw [HSD.out]; rfl]; rfl, hR.out.2.2.2.1 f (by simp)⟩)
          have HBG := Hid.mk (show w3.heap[f.g]? = some (.cells (f.cs HCV.out.choose) 82) from HCV.out.choose_spec.1)
          have HTL := Hid.mk (show ∃ u1 u2, w3.heap[f.g]? = some (.cells (cellsB f.e f.h u1 u2) 82) from by
            have h7 := HBG.out
            unfold Fr.cs at h7
            split at h7
            · exact ⟨_, _, h7⟩
            · exact ⟨_, _, h7⟩)
          obtain ⟨u1, u2, hbg⟩ := HTL.out
          have HTE := Hid.mk (tellB_any f.g f.e f.h u1 u2 K w5 ((HB5.out.block f.g (Array.getElem?_eq_some_iff.1 hbg).1).trans hbg) ((H4.out.keys f.e HE.out.2).1.below HB5.out) (H4.out.keys f.e HE.out.2).2)
          clear hbg
          go_wp2_with (go_at_call 75; refine HTE.out.mono ?_; rintro en w6 ⟨tv, rfl, ⟨lo, hlo, hly⟩, hb6⟩; obtain ⟨tk, tn, ts, ta, tm, tc, rfl⟩ := hly.agg; have HLY := Hid.mk (And.intro hlo hly); have HB6 := Hid.mk (HB5.out.trans (hb6.mono HB5.out.size)); have HS5 := Hid.mk HB5.out.size; have HBX := Hid.mk (box_up HZ3.out (HB5.out.trans (hb6.mono HB5.out.size))); obtain ⟨⟨e0, e1, e2, e3⟩, z1, z2, z3, z4⟩ := box_up HZ3.out (HB5.out.trans (hb6.mono HB5.out.size)); clear hb6 hly hlo)
          refine ret3_stored rfl rfl rfl rfl rfl HBX.out.1.1 HBX.out.1.2.1 HBX.out.1.2.2.1 HBX.out.1.2.2.2 ⟨.agg #[.int .i64 tk, .int .i64 tn, .string ts, .slice ta tm tc], ?_, ?_, ?_⟩
          · rw [H2.out, HE.out.1]; rfl
          · rw [H2.out, HE.out.1]
            exact own_set4 HLY.out.2 (Nat.le_refl _) (by have := HLY.out.1; have := HS5.out; have := HN3.out; omega) (by have := HLY.out.1; have := HS5.out; have := H5.out.size; omega)
          · exact FIN.out _ HB6.out
  | true =>
    obtain ⟨g, e, x, l, r, rfl, hcz⟩ := d3 rfl
    have hrise : RisingN (ndsB (Bt.node g e x l r).list) := fill_rising (c := c) (by rw [d1]; exact HT.out.rise)
    have hcnt := fill_cnt (.node g e x l r) c
    rw [d1] at hcnt
    have hperm := fill_blocks (.node g e x l r) c
    rw [d1] at hperm
    have HOB := Hid.mk (fun (b : Nat) (hb : v.ownBlock = some b) => show ¬ (b = p ∨ b ∈ t.blocks ∨ K b) from fun hh => by have := HLT.out b hh; have := d6 b hb; have := HSZ.out; omega)
    have HBS := Hid.mk (besideB_1 p t.list.length _ v c g e x l r w2 d5 d7 d8 (by have := HZ.out; omega) (fun b hb hh => HOB.out b hb (by
      rcases hh with e0 | e0
      · exact Or.inl e0
      · exact Or.inr (Or.inl ((List.Perm.mem_iff hperm).2 (List.mem_append.2 e0))))))
    have HX := Hid.mk (And.intro d1 (And.intro d2 (And.intro hrise (And.intro hcz d6))))
    clear d1 d2 d3 d4 d5 d6 d7 d8 d9 hcnt hperm hrise hcz
    go_upto_region 6 with (go_at_call 56; refine HBS.out.mono ?_; rintro en w3 ⟨v3, rfl, hbs⟩; have HB3 := Hid.mk hbs; clear hbs)
    obtain ⟨d1, d2, hrise, hcz, d6⟩ := HX.out
    obtain ⟨m1, m2, m3⟩ := HB3.out
    obtain ⟨c3, hc3⟩ : ∃ c3, besideB true g e x l r c = c3 := ⟨_, rfl⟩
    have hfl := beside_fill true g e x l r c
    have htl := next_there d2 hrise hcz
    rw [d1] at htl
    rw [d1] at hfl
    rw [hc3] at m1 htl hfl
    have H1 : Hid (fillB .nil c3 = t) := Hid.mk hfl
    have H2 : Hid (tellN (ndsB t.list) ((nextN (ndsB t.list) T : Nat)) = tellK (nearC true c3)) := Hid.mk htl
    have H3 : Hid (Ow wayS w3 v3 (waysC p c3)) := Hid.mk m1
    have H4 : Hid (TpB w3 p t cm' K) := Hid.mk (HT2.out.1.kept m2 (fun k hk e0 => HOB.out k e0 hk))
    have H51 : Only (fun k => k = p) W1 w3 := HT2.out.2.trans m2 (fun k hk => Or.inr (d6 k hk))
    have H5 : Hid (Only (fun k => k = p) w w3) := Hid.mk ((Only.up (S := fun k => k = p) HU.out).trans H51 (fun k hk => Or.inl hk))
    have H6 : Hid (c3.length ≤ 700000) := Hid.mk (by have := fill_cnt .nil c3; rw [hfl] at this; have := HZ.out; omega)
    have HN3 : Hid (nb + 2 ≤ w3.heap.size) := Hid.mk (Nat.le_trans HSZ.out H51.size)
    have HZ3 : Hid (Zbox w3 (nb + 1)) := Hid.mk (zbox_same HZB.out (H51.block (nb + 1) (by have := HSZ.out; omega) (by have := HLT.out p (Or.inl rfl); omega)))
    have FIN := Hid.mk (fun (w6 : World) {v0 v1 v2 v3 : Value} => HFI.out w3 H4.out H51 HN3.out w6 v0 v1 v2 v3)
    clear d1 d2 hrise hcz d6 m1 m2 m3 hc3 hfl htl H51
    obtain ⟨gw, cap, hvs, hcap, hmx, hrow⟩ := way_row H3.out
    subst hvs
    obtain ⟨M, hM⟩ : ∃ M, c3.length + 1 = M := ⟨_, rfl⟩
    rw [hM] at hcap
    have HMM := Hid.mk (show c3.length + 1 = M ∧ c3.length ≤ 700000 from ⟨hM, H6.out⟩)
    rw [hM]
    have hwM : IntKind.i64.wrap ((M : Int) - 2) = (c3.length : Int) - 1 := by have := H6.out; rw [wrap_id (by omega) (by omega)]; omega
    have HROW := Hid.mk hrow
    have HC3 := Hid.mk (show ∃ v, CtxB w3 p t.list.length cm' c3 v from by
      have h7 := H4.out
      exact ⟨_, (CtxB.split (c := c3) (t := .nil) (by rw [H1.out]; exact h7.lay) (by rw [H1.out]; exact h7.top)).2⟩)
    have HF3 := Hid.mk (show ∀ f ∈ c3, f.e ∈ t.list from fun f hf => by
      have := frame_mem hf .nil
      rwa [H1.out] at this)
    clear hM hcap hmx hrow
    go_wp2
    go_loopw [11] (fun ii wr => ∃ (c2 : List Fr) (rest : List Lk), ii = .int .i64 ((c2.length : Int) - 1) ∧ Hid (waysC p c3 = waysC p c2 ++ rest ∧ nearC true c3 = nearC true c2 ∧ (∃ v, CtxB w3 p t.list.length cm' c2 v) ∧ (∀ f ∈ c2, f.e ∈ t.list) ∧ Below w3.heap.size w3 wr)) (fun ii _ => (intOf ii + 1).toNat)
    case atStart => exact ⟨c3, [], rfl, Hid.mk ⟨(List.append_nil _).symm, rfl, HC3.out, HF3.out, Below.refl _ _⟩⟩
    case round =>
      obtain ⟨c2, rest, rfl, hR⟩ := hrel
      cases c2 with
      | nil =>
        have HE := Hid.mk (show nearC true c3 = none from hR.out.2.1)
        have HBX := Hid.mk (box_up HZ3.out hR.out.2.2.2.2)
        obtain ⟨⟨e0, e1, e2, e3⟩, z1, z2, z3, z4⟩ := box_up HZ3.out hR.out.2.2.2.2
        go_wp2
        refine ret3_stored rfl rfl rfl rfl rfl HBX.out.1.1 HBX.out.1.2.1 HBX.out.1.2.2.1 HBX.out.1.2.2.2 ⟨.agg #[.int .i64 0, .int .i64 0, .string ⟨#[]⟩, .slice none 0 0], ?_, ?_, ?_⟩
        · rw [H2.out, HE.out]; rfl
        · rw [H2.out, HE.out]; exact own_zero _ _ _
        · exact FIN.out _ hR.out.2.2.2.2
      | cons f c4 =>
        have hl4 : (((f :: c4 : List Fr).length : Nat) : Int) - 1 = (c4.length : Int) := by rw [List.length_cons]; omega
        rw [hl4]
        obtain ⟨v9, hv9⟩ := hR.out.2.2.1
        obtain ⟨q1, q2, q3⟩ := hv9
        obtain ⟨cs, ty, k1, k2, _⟩ := q3.link
        have hw0 := hR.out.1
        have hw1 : waysC p c3 = waysC p c4 ++ (linkC p (f :: c4) :: rest) := by rw [hw0, waysC, List.append_assoc]; rfl
        have x0 := cell_below hR.out.2.2.2.2 _ _ _ (HROW.out _ _ (ways_at hw1))
        have x1 := cell_below hR.out.2.2.2.2 _ _ _ (HROW.out _ _ (ways_at hw0))
        have lk : wr.cell? ⟨(linkC p c4).1, (linkC p c4).2, none⟩ = some (.pointer (some ⟨f.g, 0, none⟩)) := cell_below hR.out.2.2.2.2 _ _ _ (by simp only [World.cell?, k1]; exact k2)
        have hlen := congrArg List.length hw0
        rw [List.length_append, ways_len, ways_len, List.length_cons] at hlen
        obtain ⟨N4, hN4⟩ : ∃ N4, c4.length = N4 := ⟨_, rfl⟩
        obtain ⟨N5, hN5⟩ : ∃ N5, N4 + 1 = N5 := ⟨_, rfl⟩
        have hlk5 : linkC p (f :: c4) = (f.g, 6 + sideN f.side) := rfl
        rw [hlk5, List.length_cons, hN4, hN5] at x1
        rw [hN4] at x0 ⊢
        rw [hN4] at hlen
        have hmm := HMM.out
        have hwn : IntKind.i64.wrap ((N4 : Int) + 1) = (N5 : Int) := by rw [wrap_id (by omega) (by omega)]; omega
        have hwm : IntKind.i64.wrap ((N4 : Int) - 1) = (N4 : Int) - 1 := wrap_id (by omega) (by omega)
        have hl0 : (0 : Int) ≤ N4 := by omega
        have hl1 : (N4 : Int) < M := by omega
        have hl2 : (N5 : Int) < M := by omega
        have hw1' : IntKind.i64.wrap 1 = 1 := wrap_id (by decide) (by decide)
        have hw0' : IntKind.i64.wrap 0 = 0 := wrap_id (by decide) (by decide)
        obtain ⟨Lb, hLb⟩ : ∃ Lb, (linkC p c4).1 = Lb := ⟨_, rfl⟩
        obtain ⟨Lo', hLo⟩ : ∃ Lo', (linkC p c4).2 = Lo' := ⟨_, rfl⟩
        rw [hLb, hLo] at x0 lk
        have HI := Hid.mk (And.intro hN4 hN5)
        have HCV := Hid.mk hR.out.2.2.1
        have esd : f.side = true ∨ f.side = false := by cases f.side <;> simp
        clear hl4 q1 q2 q3 k1 k2 hw0 hw1 hlen hN4 hN5 hlk5 hmm hLb hLo
        rcases esd with esd | esd
        · have HSD := Hid.mk esd
          rw [esd] at x1
          change wr.cell? ⟨gw, N5, none⟩ = some (.pointer (some ⟨f.g, 7, none⟩)) at x1
          clear esd
          have heq : ∀ W : World, Up wr W → (binOp .eql 78 (.pointer (some ⟨f.g, 7, none⟩)) (.pointer (some ⟨f.g, 6, none⟩))).run Tryd.prog W = .ok (.bool false) W := fun W hW => eqlW f.g 7 6 W (((hR.out.2.2.2.2.trans (hW.out.mono hR.out.2.2.2.2.size)).block f.g (Array.getElem?_eq_some_iff.1 HCV.out.choose_spec.1).1).trans HCV.out.choose_spec.1)
          have HEQ := Hid.mk heq
          clear heq
          go_upto_region 10 with fail
          refine region_up (W := wr) (by kernel_rfl) (by kernel_rfl) (Up.refl _) ?_
          refine quiet_value (v := .slice (some ⟨gw, 0, none⟩) M cap) rfl (fun _ _ => rfl) ?_
          simp only [Act.put, List.setIfInBounds_toArray, List.set_cons_zero, List.set_cons_succ]
          refine quiet_value (v := .int .i64 N4) rfl (fun _ _ => rfl) ?_
          simp only [Act.put, List.setIfInBounds_toArray, List.set_cons_zero, List.set_cons_succ]
          refine quiet_value (v := .int .i64 N5) rfl (fun _ _ => (by go_simp)) ?_
          simp only [Act.put, List.setIfInBounds_toArray, List.set_cons_zero, List.set_cons_succ]
          refine quiet_value (v := .pointer (some ⟨gw, N5, none⟩)) rfl (fun _ _ => (by go_simp)) ?_
          simp only [Act.put, List.setIfInBounds_toArray, List.set_cons_zero, List.set_cons_succ]
          refine quiet_value (v := .pointer (some ⟨f.g, 7, none⟩)) rfl (fun W h => (by have u0 := cell_below h.out _ _ _ x1; go_simp)) ?_
          simp only [Act.put, List.setIfInBounds_toArray, List.set_cons_zero, List.set_cons_succ]
          refine quiet_value (v := .pointer (some ⟨f.g, 0, none⟩)) rfl (fun _ _ => rfl) ?_
          simp only [Act.put, List.setIfInBounds_toArray, List.set_cons_zero, List.set_cons_succ]
          refine quiet_value (v := .int .i64 1) rfl (fun _ _ => rfl) ?_
          simp only [Act.put, List.setIfInBounds_toArray, List.set_cons_zero, List.set_cons_succ]
          refine quiet_value (v := .int .i64 0) rfl (fun _ _ => (by go_simp)) ?_
          simp only [Act.put, List.setIfInBounds_toArray, List.set_cons_zero, List.set_cons_succ]
          refine quiet_value (v := .pointer (some ⟨f.g, 0, none⟩)) rfl (fun _ _ => (by go_simp)) ?_
          simp only [Act.put, List.setIfInBounds_toArray, List.set_cons_zero, List.set_cons_succ]
          refine quiet_value (v := .pointer (some ⟨f.g, 6, none⟩)) rfl (fun _ _ => (by go_simp)) ?_
          simp only [Act.put, List.setIfInBounds_toArray, List.set_cons_zero, List.set_cons_succ]
          refine quiet_value (v := .pointer (some ⟨f.g, 6, none⟩)) rfl (fun _ _ => (by go_simp)) ?_
          simp only [Act.put, List.setIfInBounds_toArray, List.set_cons_zero, List.set_cons_succ]
          refine quiet_value (v := .bool false) rfl (fun W h => (by have u0 := HEQ.out W h; go_simp)) ?_
          simp only [Act.put, List.setIfInBounds_toArray, List.set_cons_zero, List.set_cons_succ]
          refine quiet_nil ?_
          intro w5 hw5
          have HB5 := Hid.mk (hR.out.2.2.2.2.trans (hw5.out.mono hR.out.2.2.2.2.size))
          clear hw5 x0 x1 lk
          have HNX := Hid.mk (show nearC true c3 = nearC true c4 from by rw [hR.out.2.1]; unfold nearC; rw [List.find?_cons, show (f.side == !true) = false by rw [HSD.out]; rfl])
          go_wp2
          go_roundw
          case rel =>
            refine ⟨c4, linkC p (f :: c4) :: rest, ?_, Hid.mk ⟨?_, HNX.out, ⟨_, HCV.out.choose_spec.2.2⟩, fun f' hf' => hR.out.2.2.2.1 f' (by simp [hf']), HB5.out⟩⟩
            · have := HI.out.1
              congr 1
              omega
            · rw [hR.out.1, waysC, List.append_assoc]; rfl
          case measure => have := HI.out; simp [intOf]
        · have HSD := Hid.mk esd
          rw [esd] at x1
          change wr.cell? ⟨gw, N5, none⟩ = some (.pointer (some ⟨f.g, 6, none⟩)) at x1
          clear esd
          have heq : ∀ W : World, Up wr W → (binOp .eql 78 (.pointer (some ⟨f.g, 6, none⟩)) (.pointer (some ⟨f.g, 6, none⟩))).run Tryd.prog W = .ok (.bool true) W := fun W hW => eqlW f.g 6 6 W (((hR.out.2.2.2.2.trans (hW.out.mono hR.out.2.2.2.2.size)).block f.g (Array.getElem?_eq_some_iff.1 HCV.out.choose_spec.1).1).trans HCV.out.choose_spec.1)
          have HEQ := Hid.mk heq
          clear heq
          go_upto_region 10 with fail
          refine region_up (W := wr) (by kernel_rfl) (by kernel_rfl) (Up.refl _) ?_
          refine quiet_value (v := .slice (some ⟨gw, 0, none⟩) M cap) rfl (fun _ _ => rfl) ?_
          simp only [Act.put, List.setIfInBounds_toArray, List.set_cons_zero, List.set_cons_succ]
          refine quiet_value (v := .int .i64 N4) rfl (fun _ _ => rfl) ?_
          simp only [Act.put, List.setIfInBounds_toArray, List.set_cons_zero, List.set_cons_succ]
          refine quiet_value (v := .int .i64 N5) rfl (fun _ _ => (by go_simp)) ?_
          simp only [Act.put, List.setIfInBounds_toArray, List.set_cons_zero, List.set_cons_succ]
          refine quiet_value (v := .pointer (some ⟨gw, N5, none⟩)) rfl (fun _ _ => (by go_simp)) ?_
          simp only [Act.put, List.setIfInBounds_toArray, List.set_cons_zero, List.set_cons_succ]
          refine quiet_value (v := .pointer (some ⟨f.g, 6, none⟩)) rfl (fun W h => (by have u0 := cell_below h.out _ _ _ x1; go_simp)) ?_
          simp only [Act.put, List.setIfInBounds_toArray, List.set_cons_zero, List.set_cons_succ]
          refine quiet_value (v := .pointer (some ⟨f.g, 0, none⟩)) rfl (fun _ _ => rfl) ?_
          simp only [Act.put, List.setIfInBounds_toArray, List.set_cons_zero, List.set_cons_succ]
          refine quiet_value (v := .int .i64 1) rfl (fun _ _ => rfl) ?_
          simp only [Act.put, List.setIfInBounds_toArray, List.set_cons_zero, List.set_cons_succ]
          refine quiet_value (v := .int .i64 0) rfl (fun _ _ => (by go_simp)) ?_
          simp only [Act.put, List.setIfInBounds_toArray, List.set_cons_zero, List.set_cons_succ]
          refine quiet_value (v := .pointer (some ⟨f.g, 0, none⟩)) rfl (fun _ _ => (by go_simp)) ?_
          simp only [Act.put, List.setIfInBounds_toArray, List.set_cons_zero, List.set_cons_succ]
          refine quiet_value (v := .pointer (some ⟨f.g, 6, none⟩)) rfl (fun _ _ => (by go_simp)) ?_
          simp only [Act.put, List.setIfInBounds_toArray, List.set_cons_zero, List.set_cons_succ]
          refine quiet_value (v := .pointer (some ⟨f.g, 6, none⟩)) rfl (fun _ _ => (by go_simp)) ?_
          simp only [Act.put, List.setIfInBounds_toArray, List.set_cons_zero, List.set_cons_succ]
          refine quiet_value (v := .bool true) rfl (fun W h => (by have u0 := HEQ.out W h; go_simp)) ?_
          simp only [Act.put, List.setIfInBounds_toArray, List.set_cons_zero, List.set_cons_succ]
          refine quiet_nil ?_
          intro w5 hw5
          have HB5 := Hid.mk (hR.out.2.2.2.2.trans (hw5.out.mono hR.out.2.2.2.2.size))
          clear hw5 x0 x1 lk
          have HE := Hid.mk (show nearC true c3 = some f.e ∧ f.e ∈ t.list from ⟨by rw [hR.out.2.1]; unfold nearC; rw [List.find?_cons, show (f.side == !true) = true by rw [HSD.out]; rfl]; rfl, hR.out.2.2.2.1 f (by simp)⟩)
          have HBG := Hid.mk (show w3.heap[f.g]? = some (.cells (f.cs HCV.out.choose) 82) from HCV.out.choose_spec.1)
          have HTL := Hid.mk (show ∃ u1 u2, w3.heap[f.g]? = some (.cells (cellsB f.e f.h u1 u2) 82) from by
            have h7 := HBG.out
            unfold Fr.cs at h7
            split at h7
            · exact ⟨_, _, h7⟩
            · exact ⟨_, _, h7⟩)
          obtain ⟨u1, u2, hbg⟩ := HTL.out
          have HTE := Hid.mk (tellB_any f.g f.e f.h u1 u2 K w5 ((HB5.out.block f.g (Array.getElem?_eq_some_iff.1 hbg).1).trans hbg) ((H4.out.keys f.e HE.out.2).1.below HB5.out) (H4.out.keys f.e HE.out.2).2)
          clear hbg
          go_wp2_with (go_at_call 75; refine HTE.out.mono ?_; rintro en w6 ⟨tv, rfl, ⟨lo, hlo, hly⟩, hb6⟩; obtain ⟨tk, tn, ts, ta, tm, tc, rfl⟩ := hly.agg; have HLY := Hid.mk (And.intro hlo hly); have HB6 := Hid.mk (HB5.out.trans (hb6.mono HB5.out.size)); have HS5 := Hid.mk HB5.out.size; have HBX := Hid.mk (box_up HZ3.out (HB5.out.trans (hb6.mono HB5.out.size))); obtain ⟨⟨e0, e1, e2, e3⟩, z1, z2, z3, z4⟩ := box_up HZ3.out (HB5.out.trans (hb6.mono HB5.out.size)); clear hb6 hly hlo)
          refine ret3_stored rfl rfl rfl rfl rfl HBX.out.1.1 HBX.out.1.2.1 HBX.out.1.2.2.1 HBX.out.1.2.2.2 ⟨.agg #[.int .i64 tk, .int .i64 tn, .string ts, .slice ta tm tc], ?_, ?_, ?_⟩
          · rw [H2.out, HE.out.1]; rfl
          · rw [H2.out, HE.out.1]
            exact own_set4 HLY.out.2 (Nat.le_refl _) (by have := HLY.out.1; have := HS5.out; have := HN3.out; omega) (by have := HLY.out.1; have := HS5.out; have := H5.out.size; omega)
          · exact FIN.out _ HB6.out
set_option maxHeartbeats 8000000 in
set_option maxRecDepth 100000 in
theorem nearT_0 (p : Nat) (t : Bt) (cm : Int) (K F' : Nat → Prop) (T : Tm) (kv : Value) (w : World) (h : TpB w p t cm K) (hk : Lies w F' T kv) (hkp : ¬ F' p) (hz : t.list.length ≤ 700000) (hcm : 0 ≤ cm ∧ cm ≤ 1000000000000) :
    Calls Tryd.prog 58 #[.pointer (some ⟨p, 0, none⟩), kv, .int .i64 0] w fun e w' => ∃ tv, e = .returned (.tuple #[tv, .int .i64 (tellN (ndsB t.list) ((atN (ndsB t.list) T : Int) - 1)).2.1, .bool (tellN (ndsB t.list) ((atN (ndsB t.list) T : Int) - 1)).2.2]) ∧ Own w' (tellN (ndsB t.list) ((atN (ndsB t.list) T : Int) - 1)).1 w.heap.size w'.heap.size tv ∧ LookT w p t cm K w' false := by
  obtain ⟨kk, kn, ks, ka, km, kc, rfl⟩ := hk.agg
  obtain ⟨nb, W1, hnb, hW1, hu, ⟨b0, b1, b2, b3⟩, hzb⟩ := boxes2 w kk kn ks ka km kc
  have h1 := h.up hu
  obtain ⟨c0, _, _, _⟩ := h1.cells
  have HD := Hid.mk (downB_any p t.list.length cm T t K F' _ W1 h1.lay h1.top (List.nodup_cons.1 h.nd).1 (hk.below hu) hkp h.bal h.rise (by omega) hcm (fun e he => (h1.keys e he).1) (fun hK => (h.kk p hK).2.1 rfl))
  have HT := Hid.mk h1
  have HU := Hid.mk hu
  have HW := Hid.mk (And.intro hW1 hnb)
  have HZ := Hid.mk hz
  have HZB := Hid.mk hzb
  have HLT := Hid.mk (show ∀ k, k = p ∨ k ∈ t.blocks ∨ K k → k < nb from fun k hk => hnb ▸ h.lt k hk)
  have hsz1 : nb + 2 ≤ W1.heap.size := by have := World.block_lt_of_cell? W1 _ hzb.1.1; simp only at this; omega
  have HSZ := Hid.mk hsz1
  clear h h1 hk hkp hz hcm hu hnb hW1 hzb hsz1
  go_enter Tryd.func58, Tryd.ntmps58
  go_upto_region 1 with fail
  rw [HW.out.1, HW.out.2]
  go_upto_region 4 with (first
    | (go_at_call 52; refine HD.out.mono ?_; rintro e w2 ⟨v, d, rfl, hd⟩; have HDD := Hid.mk hd; clear hd)
    | (go_at_call 37; refine (madeT_any _ _ c0).mono ?_; rintro e w2 ⟨rfl, rfl⟩))
  clear b0 b1 b2 b3 c0
  obtain ⟨cm', hT2, ho2, hle2, hlow2, _⟩ := DownB.tp HT.out HDD.out
  have HT2 := Hid.mk (And.intro hT2 ho2)
  have HLE := Hid.mk (And.intro hle2 hlow2)
  clear hT2 ho2 hle2 hlow2
  obtain ⟨c, t2, d1, d2, d3, d4, d5, d6, d7, d8, d9⟩ := HDD.out
  have HFI := Hid.mk (fun (w3 : World) (h4 : TpB w3 p t cm' K) (h5 : Only (fun k => k = p) W1 w3) (h3 : nb + 2 ≤ w3.heap.size) => show ∀ (w6 : World) (v0 v1 v2 v3 : Value), Below w3.heap.size w3 w6 → LookT w p t cm K ((((w6.setCell ⟨nb + 1, 0, none⟩ v0).setCell ⟨nb + 1, 1, none⟩ v1).setCell ⟨nb + 1, 2, none⟩ v2).setCell ⟨nb + 1, 3, none⟩ v3) false from fun w6 v0 v1 v2 v3 hb => by
    have hset : Only (fun k => k = nb + 1) w6 ((((w6.setCell ⟨nb + 1, 0, none⟩ v0).setCell ⟨nb + 1, 1, none⟩ v1).setCell ⟨nb + 1, 2, none⟩ v2).setCell ⟨nb + 1, 3, none⟩ v3) := ((((Only.refl (fun k => k = nb + 1) w6).put rfl 0 v0).put rfl 1 v1).put rfl 2 v2).put rfl 3 v3
    refine ⟨cm', (h4.up hb).kept hset (fun k hk e => by have := HLT.out k hk; omega), ?_, HLE.out.1, HLE.out.2, fun e => (by cases e)⟩
    have hw6 : Only (fun k => k = p) w w6 := ((Only.up (S := fun k => k = p) HU.out).trans h5 (fun k hk => Or.inl hk)).call hb
    exact hw6.trans hset (fun k hk => Or.inr (by have := HW.out.2; omega)))
  cases d with
  | false =>
    obtain rfl := d4 rfl
    have H1 : Hid (fillB .nil c = t) := Hid.mk d1
    have H2 : Hid (tellN (ndsB t.list) ((atN (ndsB t.list) T : Int) - 1) = tellK (nearC false c)) := Hid.mk (d1 ▸ prev_none d2)
    have H3 : Hid (Ow wayS w2 v (waysC p c)) := Hid.mk d5
    have H4 : Hid (TpB w2 p t cm' K) := Hid.mk HT2.out.1
    have H5 : Hid (Only (fun k => k = p) w w2) := Hid.mk ((Only.up (S := fun k => k = p) HU.out).trans HT2.out.2 (fun k hk => Or.inl hk))
    have H6 : Hid (c.length ≤ 700000) := Hid.mk (by have := fill_cnt .nil c; rw [d1] at this; have := HZ.out; omega)
    have HN3 : Hid (nb + 2 ≤ w2.heap.size) := Hid.mk (Nat.le_trans HSZ.out HT2.out.2.size)
    have HZ3 : Hid (Zbox w2 (nb + 1)) := Hid.mk (zbox_same HZB.out (HT2.out.2.block (nb + 1) (by have := HSZ.out; omega) (by have := HLT.out p (Or.inl rfl); omega)))
    have FIN := Hid.mk (fun (w6 : World) {v0 v1 v2 v3 : Value} => HFI.out w2 H4.out HT2.out.2 HN3.out w6 v0 v1 v2 v3)
    clear d1 d2 d3 d4 d5 d6 d7 d8 d9
    generalize c = c3 at *
    generalize w2 = w3 at *
    obtain ⟨gw, cap, hvs, hcap, hmx, hrow⟩ := way_row H3.out
    subst hvs
    obtain ⟨M, hM⟩ : ∃ M, c3.length + 1 = M := ⟨_, rfl⟩
    rw [hM] at hcap
    have HMM := Hid.mk (show c3.length + 1 = M ∧ c3.length ≤ 700000 from ⟨hM, H6.out⟩)
    rw [hM]
    have hwM : IntKind.i64.wrap ((M : Int) - 2) = (c3.length : Int) - 1 := by have := H6.out; rw [wrap_id (by omega) (by omega)]; omega
    have HROW := Hid.mk hrow
    have HC3 := Hid.mk (show ∃ v, CtxB w3 p t.list.length cm' c3 v from by
      have h7 := H4.out
      exact ⟨_, (CtxB.split (c := c3) (t := .nil) (by rw [H1.out]; exact h7.lay) (by rw [H1.out]; exact h7.top)).2⟩)
    have HF3 := Hid.mk (show ∀ f ∈ c3, f.e ∈ t.list from fun f hf => by
      have := frame_mem hf .nil
      rwa [H1.out] at this)
    clear hM hcap hmx hrow
    go_wp2
    go_loopw [11] (fun ii wr => ∃ (c2 : List Fr) (rest : List Lk), ii = .int .i64 ((c2.length : Int) - 1) ∧ Hid (waysC p c3 = waysC p c2 ++ rest ∧ nearC false c3 = nearC false c2 ∧ (∃ v, CtxB w3 p t.list.length cm' c2 v) ∧ (∀ f ∈ c2, f.e ∈ t.list) ∧ Below w3.heap.size w3 wr)) (fun ii _ => (intOf ii + 1).toNat)
    case atStart => exact ⟨c3, [], rfl, Hid.mk ⟨(List.append_nil _).symm, rfl, HC3.out, HF3.out, Below.refl _ _⟩⟩
    case round =>
      obtain ⟨c2, rest, rfl, hR⟩ := hrel
      cases c2 with
      | nil =>
        have HE := Hid.mk (show nearC false c3 = none from hR.out.2.1)
        have HBX := Hid.mk (box_up HZ3.out hR.out.2.2.2.2)
        obtain ⟨⟨e0, e1, e2, e3⟩, z1, z2, z3, z4⟩ := box_up HZ3.out hR.out.2.2.2.2
        go_wp2
        refine ret3_stored rfl rfl rfl rfl rfl HBX.out.1.1 HBX.out.1.2.1 HBX.out.1.2.2.1 HBX.out.1.2.2.2 ⟨.agg #[.int .i64 0, .int .i64 0, .string ⟨#[]⟩, .slice none 0 0], ?_, ?_, ?_⟩
        · rw [H2.out, HE.out]; rfl
        · rw [H2.out, HE.out]; exact own_zero _ _ _
        · exact FIN.out _ hR.out.2.2.2.2
      | cons f c4 =>
        have hl4 : (((f :: c4 : List Fr).length : Nat) : Int) - 1 = (c4.length : Int) := by rw [List.length_cons]; omega
        rw [hl4]
        obtain ⟨v9, hv9⟩ := hR.out.2.2.1
        obtain ⟨q1, q2, q3⟩ := hv9
        obtain ⟨cs, ty, k1, k2, _⟩ := q3.link
        have hw0 := hR.out.1
        have hw1 : waysC p c3 = waysC p c4 ++ (linkC p (f :: c4) :: rest) := by rw [hw0, waysC, List.append_assoc]; rfl
        have x0 := cell_below hR.out.2.2.2.2 _ _ _ (HROW.out _ _ (ways_at hw1))
        have x1 := cell_below hR.out.2.2.2.2 _ _ _ (HROW.out _ _ (ways_at hw0))
        have lk : wr.cell? ⟨(linkC p c4).1, (linkC p c4).2, none⟩ = some (.pointer (some ⟨f.g, 0, none⟩)) := cell_below hR.out.2.2.2.2 _ _ _ (by simp only [World.cell?, k1]; exact k2)
        have hlen := congrArg List.length hw0
        rw [List.length_append, ways_len, ways_len, List.length_cons] at hlen
        obtain ⟨N4, hN4⟩ : ∃ N4, c4.length = N4 := ⟨_, rfl⟩
        obtain ⟨N5, hN5⟩ : ∃ N5, N4 + 1 = N5 := ⟨_, rfl⟩
        have hlk5 : linkC p (f :: c4) = (f.g, 6 + sideN f.side) := rfl
        rw [hlk5, List.length_cons, hN4, hN5] at x1
        rw [hN4] at x0 ⊢
        rw [hN4] at hlen
        have hmm := HMM.out
        have hwn : IntKind.i64.wrap ((N4 : Int) + 1) = (N5 : Int) := by rw [wrap_id (by omega) (by omega)]; omega
        have hwm : IntKind.i64.wrap ((N4 : Int) - 1) = (N4 : Int) - 1 := wrap_id (by omega) (by omega)
        have hl0 : (0 : Int) ≤ N4 := by omega
        have hl1 : (N4 : Int) < M := by omega
        have hl2 : (N5 : Int) < M := by omega
        have hw1' : IntKind.i64.wrap 1 = 1 := wrap_id (by decide) (by decide)
        have hw0' : IntKind.i64.wrap 0 = 0 := wrap_id (by decide) (by decide)
        obtain ⟨Lb, hLb⟩ : ∃ Lb, (linkC p c4).1 = Lb := ⟨_, rfl⟩
        obtain ⟨Lo', hLo⟩ : ∃ Lo', (linkC p c4).2 = Lo' := ⟨_, rfl⟩
        rw [hLb, hLo] at x0 lk
        have HI := Hid.mk (And.intro hN4 hN5)
        have HCV := Hid.mk hR.out.2.2.1
        have esd : f.side = true ∨ f.side = false := by cases f.side <;> simp
        clear hl4 q1 q2 q3 k1 k2 hw0 hw1 hlen hN4 hN5 hlk5 hmm hLb hLo
        rcases esd with esd | esd
        · have HSD := Hid.mk esd
          rw [esd] at x1
          change wr.cell? ⟨gw, N5, none⟩ = some (.pointer (some ⟨f.g, 7, none⟩)) at x1
          clear esd
          have heq : ∀ W : World, Up wr W → (binOp .eql 78 (.pointer (some ⟨f.g, 7, none⟩)) (.pointer (some ⟨f.g, 7, none⟩))).run Tryd.prog W = .ok (.bool true) W := fun W hW => eqlW f.g 7 7 W (((hR.out.2.2.2.2.trans (hW.out.mono hR.out.2.2.2.2.size)).block f.g (Array.getElem?_eq_some_iff.1 HCV.out.choose_spec.1).1).trans HCV.out.choose_spec.1)
          have HEQ := Hid.mk heq
          clear heq
          go_upto_region 10 with fail
          refine region_up (W := wr) (by kernel_rfl) (by kernel_rfl) (Up.refl _) ?_
          refine quiet_value (v := .slice (some ⟨gw, 0, none⟩) M cap) rfl (fun _ _ => rfl) ?_
          simp only [Act.put, List.setIfInBounds_toArray, List.set_cons_zero, List.set_cons_succ]
          refine quiet_value (v := .int .i64 N4) rfl (fun _ _ => rfl) ?_
          simp only [Act.put, List.setIfInBounds_toArray, List.set_cons_zero, List.set_cons_succ]
          refine quiet_value (v := .int .i64 N5) rfl (fun _ _ => (by go_simp)) ?_
          simp only [Act.put, List.setIfInBounds_toArray, List.set_cons_zero, List.set_cons_succ]
          refine quiet_value (v := .pointer (some ⟨gw, N5, none⟩)) rfl (fun _ _ => (by go_simp)) ?_
          simp only [Act.put, List.setIfInBounds_toArray, List.set_cons_zero, List.set_cons_succ]
          refine quiet_value (v := .pointer (some ⟨f.g, 7, none⟩)) rfl (fun W h => (by have u0 := cell_below h.out _ _ _ x1; go_simp)) ?_
          simp only [Act.put, List.setIfInBounds_toArray, List.set_cons_zero, List.set_cons_succ]
          refine quiet_value (v := .pointer (some ⟨f.g, 0, none⟩)) rfl (fun _ _ => rfl) ?_
          simp only [Act.put, List.setIfInBounds_toArray, List.set_cons_zero, List.set_cons_succ]
          refine quiet_value (v := .int .i64 0) rfl (fun _ _ => rfl) ?_
          simp only [Act.put, List.setIfInBounds_toArray, List.set_cons_zero, List.set_cons_succ]
          refine quiet_value (v := .int .i64 1) rfl (fun _ _ => (by go_simp)) ?_
          simp only [Act.put, List.setIfInBounds_toArray, List.set_cons_zero, List.set_cons_succ]
          refine quiet_value (v := .pointer (some ⟨f.g, 0, none⟩)) rfl (fun _ _ => (by go_simp)) ?_
          simp only [Act.put, List.setIfInBounds_toArray, List.set_cons_zero, List.set_cons_succ]
          refine quiet_value (v := .pointer (some ⟨f.g, 6, none⟩)) rfl (fun _ _ => (by go_simp)) ?_
          simp only [Act.put, List.setIfInBounds_toArray, List.set_cons_zero, List.set_cons_succ]
          refine quiet_value (v := .pointer (some ⟨f.g, 7, none⟩)) rfl (fun _ _ => (by go_simp)) ?_
          simp only [Act.put, List.setIfInBounds_toArray, List.set_cons_zero, List.set_cons_succ]
          refine quiet_value (v := .bool true) rfl (fun W h => (by have u0 := HEQ.out W h; go_simp)) ?_
          simp only [Act.put, List.setIfInBounds_toArray, List.set_cons_zero, List.set_cons_succ]
          refine quiet_nil ?_
          intro w5 hw5
          have HB5 := Hid.mk (hR.out.2.2.2.2.trans (hw5.out.mono hR.out.2.2.2.2.size))
          clear hw5 x0 x1 lk
          have HE := Hid.mk (show nearC false c3 = some f.e ∧ f.e ∈ t.list from ⟨by rw [hR.out.2.1]; unfold nearC; rw [List.find?_cons, show (f.side == !false) = true by rw [HSD.out]; rfl]; rfl, hR.out.2.2.2.1 f (by simp)⟩)
          have HBG := Hid.mk (show w3.heap[f.g]? = some (.cells (f.cs HCV.out.choose) 82) from HCV.out.choose_spec.1)
          have HTL := Hid.mk (show ∃ u1 u2, w3.heap[f.g]? = some (.cells (cellsB f.e f.h u1 u2) 82) from by
            have h7 := HBG.out
            unfold Fr.cs at h7
            split at h7
            · exact ⟨_, _, h7⟩
            · exact ⟨_, _, h7⟩)
          obtain ⟨u1, u2, hbg⟩ := HTL.out
          have HTE := Hid.mk (tellB_any f.g f.e f.h u1 u2 K w5 ((HB5.out.block f.g (Array.getElem?_eq_some_iff.1 hbg).1).trans hbg) ((H4.out.keys f.e HE.out.2).1.below HB5.out) (H4.out.keys f.e HE.out.2).2)
          clear hbg
          go_wp2_with (go_at_call 75; refine HTE.out.mono ?_; rintro en w6 ⟨tv, rfl, ⟨lo, hlo, hly⟩, hb6⟩; obtain ⟨tk, tn, ts, ta, tm, tc, rfl⟩ := hly.agg; have HLY := Hid.mk (And.intro hlo hly); have HB6 := Hid.mk (HB5.out.trans (hb6.mono HB5.out.size)); have HS5 := Hid.mk HB5.out.size; have HBX := Hid.mk (box_up HZ3.out (HB5.out.trans (hb6.mono HB5.out.size))); obtain ⟨⟨e0, e1, e2, e3⟩, z1, z2, z3, z4⟩ := box_up HZ3.out (HB5.out.trans (hb6.mono HB5.out.size)); clear hb6 hly hlo)
          refine ret3_stored rfl rfl rfl rfl rfl HBX.out.1.1 HBX.out.1.2.1 HBX.out.1.2.2.1 HBX.out.1.2.2.2 ⟨.agg #[.int .i64 tk, .int .i64 tn, .string ts, .slice ta tm tc], ?_, ?_, ?_⟩
          · rw [H2.out, HE.out.1]; rfl
          · rw [H2.out, HE.out.1]
            exact own_set4 HLY.out.2 (Nat.le_refl _) (by have := HLY.out.1; have := HS5.out; have := HN3.out; omega) (by have := HLY.out.1; have := HS5.out; have := H5.out.size; omega)
          · exact FIN.out _ HB6.out
        · have HSD := Hid.mk esd
          rw [esd] at x1
          change wr.cell? ⟨gw, N5, none⟩ = some (.pointer (some ⟨f.g, 6, none⟩)) at x1
          clear esd
          have heq : ∀ W : World, Up wr W → (binOp .eql 78 (.pointer (some ⟨f.g, 6, none⟩)) (.pointer (some ⟨f.g, 7, none⟩))).run Tryd.prog W = .ok (.bool false) W := fun W hW => eqlW f.g 6 7 W (((hR.out.2.2.2.2.trans (hW.out.mono hR.out.2.2.2.2.size)).block f.g (Array.getElem?_eq_some_iff.1 HCV.out.choose_spec.1).1).trans HCV.out.choose_spec.1)
          have HEQ := Hid.mk heq
          clear heq
          go_upto_region 10 with fail
          refine region_up (W := wr) (by kernel_rfl) (by kernel_rfl) (Up.refl _) ?_
          refine quiet_value (v := .slice (some ⟨gw, 0, none⟩) M cap) rfl (fun _ _ => rfl) ?_
          simp only [Act.put, List.setIfInBounds_toArray, List.set_cons_zero, List.set_cons_succ]
          refine quiet_value (v := .int .i64 N4) rfl (fun _ _ => rfl) ?_
          simp only [Act.put, List.setIfInBounds_toArray, List.set_cons_zero, List.set_cons_succ]
          refine quiet_value (v := .int .i64 N5) rfl (fun _ _ => (by go_simp)) ?_
          simp only [Act.put, List.setIfInBounds_toArray, List.set_cons_zero, List.set_cons_succ]
          refine quiet_value (v := .pointer (some ⟨gw, N5, none⟩)) rfl (fun _ _ => (by go_simp)) ?_
          simp only [Act.put, List.setIfInBounds_toArray, List.set_cons_zero, List.set_cons_succ]
          refine quiet_value (v := .pointer (some ⟨f.g, 6, none⟩)) rfl (fun W h => (by have u0 := cell_below h.out _ _ _ x1; go_simp)) ?_
          simp only [Act.put, List.setIfInBounds_toArray, List.set_cons_zero, List.set_cons_succ]
          refine quiet_value (v := .pointer (some ⟨f.g, 0, none⟩)) rfl (fun _ _ => rfl) ?_
          simp only [Act.put, List.setIfInBounds_toArray, List.set_cons_zero, List.set_cons_succ]
          refine quiet_value (v := .int .i64 0) rfl (fun _ _ => rfl) ?_
          simp only [Act.put, List.setIfInBounds_toArray, List.set_cons_zero, List.set_cons_succ]
          refine quiet_value (v := .int .i64 1) rfl (fun _ _ => (by go_simp)) ?_
          simp only [Act.put, List.setIfInBounds_toArray, List.set_cons_zero, List.set_cons_succ]
          refine quiet_value (v := .pointer (some ⟨f.g, 0, none⟩)) rfl (fun _ _ => (by go_simp)) ?_
          simp only [Act.put, List.setIfInBounds_toArray, List.set_cons_zero, List.set_cons_succ]
          refine quiet_value (v := .pointer (some ⟨f.g, 6, none⟩)) rfl (fun _ _ => (by go_simp)) ?_
          simp only [Act.put, List.setIfInBounds_toArray, List.set_cons_zero, List.set_cons_succ]
          refine quiet_value (v := .pointer (some ⟨f.g, 7, none⟩)) rfl (fun _ _ => (by go_simp)) ?_
          simp only [Act.put, List.setIfInBounds_toArray, List.set_cons_zero, List.set_cons_succ]
          refine quiet_value (v := .bool false) rfl (fun W h => (by have u0 := HEQ.out W h; go_simp)) ?_
          simp only [Act.put, List.setIfInBounds_toArray, List.set_cons_zero, List.set_cons_succ]
          refine quiet_nil ?_
          intro w5 hw5
          have HB5 := Hid.mk (hR.out.2.2.2.2.trans (hw5.out.mono hR.out.2.2.2.2.size))
          clear hw5 x0 x1 lk
          have HNX := Hid.mk (show nearC false c3 = nearC false c4 from by rw [hR.out.2.1]; unfold nearC; rw [List.find?_cons, show (f.side == !false) = false by rw [HSD.out]; rfl])
          go_wp2
          go_roundw
          case rel =>
            refine ⟨c4, linkC p (f :: c4) :: rest, ?_, Hid.mk ⟨?_, HNX.out, ⟨_, HCV.out.choose_spec.2.2⟩, fun f' hf' => hR.out.2.2.2.1 f' (by simp [hf']), HB5.out⟩⟩
            · have := HI.out.1
              congr 1
              omega
            · rw [hR.out.1, waysC, List.append_assoc]; rfl
          case measure => have := HI.out; simp [intOf]
  | true =>
    obtain ⟨g, e, x, l, r, rfl, hcz⟩ := d3 rfl
    have hrise : RisingN (ndsB (Bt.node g e x l r).list) := fill_rising (c := c) (by rw [d1]; exact HT.out.rise)
    have hcnt := fill_cnt (.node g e x l r) c
    rw [d1] at hcnt
    have hperm := fill_blocks (.node g e x l r) c
    rw [d1] at hperm
    have HOB := Hid.mk (fun (b : Nat) (hb : v.ownBlock = some b) => show ¬ (b = p ∨ b ∈ t.blocks ∨ K b) from fun hh => by have := HLT.out b hh; have := d6 b hb; have := HSZ.out; omega)
    have HBS := Hid.mk (besideB_0 p t.list.length _ v c g e x l r w2 d5 d7 d8 (by have := HZ.out; omega) (fun b hb hh => HOB.out b hb (by
      rcases hh with e0 | e0
      · exact Or.inl e0
      · exact Or.inr (Or.inl ((List.Perm.mem_iff hperm).2 (List.mem_append.2 e0))))))
    have HX := Hid.mk (And.intro d1 (And.intro d2 (And.intro hrise (And.intro hcz d6))))
    clear d1 d2 d3 d4 d5 d6 d7 d8 d9 hcnt hperm hrise hcz
    go_upto_region 6 with (go_at_call 56; refine HBS.out.mono ?_; rintro en w3 ⟨v3, rfl, hbs⟩; have HB3 := Hid.mk hbs; clear hbs)
    obtain ⟨d1, d2, hrise, hcz, d6⟩ := HX.out
    obtain ⟨m1, m2, m3⟩ := HB3.out
    obtain ⟨c3, hc3⟩ : ∃ c3, besideB false g e x l r c = c3 := ⟨_, rfl⟩
    have hfl := beside_fill false g e x l r c
    have htl := prev_there d2 hrise hcz
    rw [d1] at htl
    rw [d1] at hfl
    rw [hc3] at m1 htl hfl
    have H1 : Hid (fillB .nil c3 = t) := Hid.mk hfl
    have H2 : Hid (tellN (ndsB t.list) ((atN (ndsB t.list) T : Int) - 1) = tellK (nearC false c3)) := Hid.mk htl
    have H3 : Hid (Ow wayS w3 v3 (waysC p c3)) := Hid.mk m1
    have H4 : Hid (TpB w3 p t cm' K) := Hid.mk (HT2.out.1.kept m2 (fun k hk e0 => HOB.out k e0 hk))
    have H51 : Only (fun k => k = p) W1 w3 := HT2.out.2.trans m2 (fun k hk => Or.inr (d6 k hk))
    have H5 : Hid (Only (fun k => k = p) w w3) := Hid.mk ((Only.up (S := fun k => k = p) HU.out).trans H51 (fun k hk => Or.inl hk))
    have H6 : Hid (c3.length ≤ 700000) := Hid.mk (by have := fill_cnt .nil c3; rw [hfl] at this; have := HZ.out; omega)
    have HN3 : Hid (nb + 2 ≤ w3.heap.size) := Hid.mk (Nat.le_trans HSZ.out H51.size)
    have HZ3 : Hid (Zbox w3 (nb + 1)) := Hid.mk (zbox_same HZB.out (H51.block (nb + 1) (by have := HSZ.out; omega) (by have := HLT.out p (Or.inl rfl); omega)))
    have FIN := Hid.mk (fun (w6 : World) {v0 v1 v2 v3 : Value} => HFI.out w3 H4.out H51 HN3.out w6 v0 v1 v2 v3)
    clear d1 d2 hrise hcz d6 m1 m2 m3 hc3 hfl htl H51
    obtain ⟨gw, cap, hvs, hcap, hmx, hrow⟩ := way_row H3.out
    subst hvs
    obtain ⟨M, hM⟩ : ∃ M, c3.length + 1 = M := ⟨_, rfl⟩
    rw [hM] at hcap
    have HMM := Hid.mk (show c3.length + 1 = M ∧ c3.length ≤ 700000 from ⟨hM, H6.out⟩)
    rw [hM]
    have hwM : IntKind.i64.wrap ((M : Int) - 2) = (c3.length : Int) - 1 := by have := H6.out; rw [wrap_id (by omega) (by omega)]; omega
    have HROW := Hid.mk hrow
    have HC3 := Hid.mk (show ∃ v, CtxB w3 p t.list.length cm' c3 v from by
      have h7 := H4.out
      exact ⟨_, (CtxB.split (c := c3) (t := .nil) (by rw [H1.out]; exact h7.lay) (by rw [H1.out]; exact h7.top)).2⟩)
    have HF3 := Hid.mk (show ∀ f ∈ c3, f.e ∈ t.list from fun f hf => by
      have := frame_mem hf .nil
      rwa [H1.out] at this)
    clear hM hcap hmx hrow
    go_wp2
    go_loopw [11] (fun ii wr => ∃ (c2 : List Fr) (rest : List Lk), ii = .int .i64 ((c2.length : Int) - 1) ∧ Hid (waysC p c3 = waysC p c2 ++ rest ∧ nearC false c3 = nearC false c2 ∧ (∃ v, CtxB w3 p t.list.length cm' c2 v) ∧ (∀ f ∈ c2, f.e ∈ t.list) ∧ Below w3.heap.size w3 wr)) (fun ii _ => (intOf ii + 1).toNat)
    case atStart => exact ⟨c3, [], rfl, Hid.mk ⟨(List.append_nil _).symm, rfl, HC3.out, HF3.out, Below.refl _ _⟩⟩
    case round =>
      obtain ⟨c2, rest, rfl, hR⟩ := hrel
      cases c2 with
      | nil =>
        have HE := Hid.mk (show nearC false c3 = none from hR.out.2.1)
        have HBX := Hid.mk (box_up HZ3.out hR.out.2.2.2.2)
        obtain ⟨⟨e0, e1, e2, e3⟩, z1, z2, z3, z4⟩ := box_up HZ3.out hR.out.2.2.2.2
        go_wp2
        refine ret3_stored rfl rfl rfl rfl rfl HBX.out.1.1 HBX.out.1.2.1 HBX.out.1.2.2.1 HBX.out.1.2.2.2 ⟨.agg #[.int .i64 0, .int .i64 0, .string ⟨#[]⟩, .slice none 0 0], ?_, ?_, ?_⟩
        · rw [H2.out, HE.out]; rfl
        · rw [H2.out, HE.out]; exact own_zero _ _ _
        · exact FIN.out _ hR.out.2.2.2.2
      | cons f c4 =>
        have hl4 : (((f :: c4 : List Fr).length : Nat) : Int) - 1 = (c4.length : Int) := by rw [List.length_cons]; omega
        rw [hl4]
        obtain ⟨v9, hv9⟩ := hR.out.2.2.1
        obtain ⟨q1, q2, q3⟩ := hv9
        obtain ⟨cs, ty, k1, k2, _⟩ := q3.link
        have hw0 := hR.out.1
        have hw1 : waysC p c3 = waysC p c4 ++ (linkC p (f :: c4) :: rest) := by rw [hw0, waysC, List.append_assoc]; rfl
        have x0 := cell_below hR.out.2.2.2.2 _ _ _ (HROW.out _ _ (ways_at hw1))
        have x1 := cell_below hR.out.2.2.2.2 _ _ _ (HROW.out _ _ (ways_at hw0))
        have lk : wr.cell? ⟨(linkC p c4).1, (linkC p c4).2, none⟩ = some (.pointer (some ⟨f.g, 0, none⟩)) := cell_below hR.out.2.2.2.2 _ _ _ (by simp only [World.cell?, k1]; exact k2)
        have hlen := congrArg List.length hw0
        rw [List.length_append, ways_len, ways_len, List.length_cons] at hlen
        obtain ⟨N4, hN4⟩ : ∃ N4, c4.length = N4 := ⟨_, rfl⟩
        obtain ⟨N5, hN5⟩ : ∃ N5, N4 + 1 = N5 := ⟨_, rfl⟩
        have hlk5 : linkC p (f :: c4) = (f.g, 6 + sideN f.side) := rfl
        rw [hlk5, List.length_cons, hN4, hN5] at x1
        rw [hN4] at x0 ⊢
        rw [hN4] at hlen
        have hmm := HMM.out
        have hwn : IntKind.i64.wrap ((N4 : Int) + 1) = (N5 : Int) := by rw [wrap_id (by omega) (by omega)]; omega
        have hwm : IntKind.i64.wrap ((N4 : Int) - 1) = (N4 : Int) - 1 := wrap_id (by omega) (by omega)
        have hl0 : (0 : Int) ≤ N4 := by omega
        have hl1 : (N4 : Int) < M := by omega
        have hl2 : (N5 : Int) < M := by omega
        have hw1' : IntKind.i64.wrap 1 = 1 := wrap_id (by decide) (by decide)
        have hw0' : IntKind.i64.wrap 0 = 0 := wrap_id (by decide) (by decide)
        obtain ⟨Lb, hLb⟩ : ∃ Lb, (linkC p c4).1 = Lb := ⟨_, rfl⟩
        obtain ⟨Lo', hLo⟩ : ∃ Lo', (linkC p c4).2 = Lo' := ⟨_, rfl⟩
        rw [hLb, hLo] at x0 lk
        have HI := Hid.mk (And.intro hN4 hN5)
        have HCV := Hid.mk hR.out.2.2.1
        have esd : f.side = true ∨ f.side = false := by cases f.side <;> simp
        clear hl4 q1 q2 q3 k1 k2 hw0 hw1 hlen hN4 hN5 hlk5 hmm hLb hLo
        rcases esd with esd | esd
        · have HSD := Hid.mk esd
          rw [esd] at x1
          change wr.cell? ⟨gw, N5, none⟩ = some (.pointer (some ⟨f.g, 7, none⟩)) at x1
          clear esd
          have heq : ∀ W : World, Up wr W → (binOp .eql 78 (.pointer (some ⟨f.g, 7, none⟩)) (.pointer (some ⟨f.g, 7, none⟩))).run Tryd.prog W = .ok (.bool true) W := fun W hW => eqlW f.g 7 7 W (((hR.out.2.2.2.2.trans (hW.out.mono hR.out.2.2.2.2.size)).block f.g (Array.getElem?_eq_some_iff.1 HCV.out.choose_spec.1).1).trans HCV.out.choose_spec.1)
          have HEQ := Hid.mk heq
          clear heq
          go_upto_region 10 with fail
          refine region_up (W := wr) (by kernel_rfl) (by kernel_rfl) (Up.refl _) ?_
          refine quiet_value (v := .slice (some ⟨gw, 0, none⟩) M cap) rfl (fun _ _ => rfl) ?_
          simp only [Act.put, List.setIfInBounds_toArray, List.set_cons_zero, List.set_cons_succ]
          refine quiet_value (v := .int .i64 N4) rfl (fun _ _ => rfl) ?_
          simp only [Act.put, List.setIfInBounds_toArray, List.set_cons_zero, List.set_cons_succ]
          refine quiet_value (v := .int .i64 N5) rfl (fun _ _ => (by go_simp)) ?_
          simp only [Act.put, List.setIfInBounds_toArray, List.set_cons_zero, List.set_cons_succ]
          refine quiet_value (v := .pointer (some ⟨gw, N5, none⟩)) rfl (fun _ _ => (by go_simp)) ?_
          simp only [Act.put, List.setIfInBounds_toArray, List.set_cons_zero, List.set_cons_succ]
          refine quiet_value (v := .pointer (some ⟨f.g, 7, none⟩)) rfl (fun W h => (by have u0 := cell_below h.out _ _ _ x1; go_simp)) ?_
          simp only [Act.put, List.setIfInBounds_toArray, List.set_cons_zero, List.set_cons_succ]
          refine quiet_value (v := .pointer (some ⟨f.g, 0, none⟩)) rfl (fun _ _ => rfl) ?_
          simp only [Act.put, List.setIfInBounds_toArray, List.set_cons_zero, List.set_cons_succ]
          refine quiet_value (v := .int .i64 0) rfl (fun _ _ => rfl) ?_
          simp only [Act.put, List.setIfInBounds_toArray, List.set_cons_zero, List.set_cons_succ]
          refine quiet_value (v := .int .i64 1) rfl (fun _ _ => (by go_simp)) ?_
          simp only [Act.put, List.setIfInBounds_toArray, List.set_cons_zero, List.set_cons_succ]
          refine quiet_value (v := .pointer (some ⟨f.g, 0, none⟩)) rfl (fun _ _ => (by go_simp)) ?_
          simp only [Act.put, List.setIfInBounds_toArray, List.set_cons_zero, List.set_cons_succ]
          refine quiet_value (v := .pointer (some ⟨f.g, 6, none⟩)) rfl (fun _ _ => (by go_simp)) ?_
          simp only [Act.put, List.setIfInBounds_toArray, List.set_cons_zero, List.set_cons_succ]
          refine quiet_value (v := .pointer (some ⟨f.g, 7, none⟩)) rfl (fun _ _ => (by go_simp)) ?_
          simp only [Act.put, List.setIfInBounds_toArray, List.set_cons_zero, List.set_cons_succ]
          refine quiet_value (v := .bool true) rfl (fun W h => (by have u0 := HEQ.out W h; go_simp)) ?_
          simp only [Act.put, List.setIfInBounds_toArray, List.set_cons_zero, List.set_cons_succ]
          refine quiet_nil ?_
          intro w5 hw5
          have HB5 := Hid.mk (hR.out.2.2.2.2.trans (hw5.out.mono hR.out.2.2.2.2.size))
          clear hw5 x0 x1 lk
          have HE := Hid.mk (show nearC false c3 = some f.e ∧ f.e ∈ t.list from ⟨by rw [hR.out.2.1]; unfold nearC; rw [List.find?_cons, show (f.side == !false) = true by rw [HSD.out]; rfl]; rfl, hR.out.2.2.2.1 f (by simp)⟩)
          have HBG := Hid.mk (show w3.heap[f.g]? = some (.cells (f.cs HCV.out.choose) 82) from HCV.out.choose_spec.1)
          have HTL := Hid.mk (show ∃ u1 u2, w3.heap[f.g]? = some (.cells (cellsB f.e f.h u1 u2) 82) from by
            have h7 := HBG.out
            unfold Fr.cs at h7
            split at h7
            · exact ⟨_, _, h7⟩
            · exact ⟨_, _, h7⟩)
          obtain ⟨u1, u2, hbg⟩ := HTL.out
          have HTE := Hid.mk (tellB_any f.g f.e f.h u1 u2 K w5 ((HB5.out.block f.g (Array.getElem?_eq_some_iff.1 hbg).1).trans hbg) ((H4.out.keys f.e HE.out.2).1.below HB5.out) (H4.out.keys f.e HE.out.2).2)
          clear hbg
          go_wp2_with (go_at_call 75; refine HTE.out.mono ?_; rintro en w6 ⟨tv, rfl, ⟨lo, hlo, hly⟩, hb6⟩; obtain ⟨tk, tn, ts, ta, tm, tc, rfl⟩ := hly.agg; have HLY := Hid.mk (And.intro hlo hly); have HB6 := Hid.mk (HB5.out.trans (hb6.mono HB5.out.size)); have HS5 := Hid.mk HB5.out.size; have HBX := Hid.mk (box_up HZ3.out (HB5.out.trans (hb6.mono HB5.out.size))); obtain ⟨⟨e0, e1, e2, e3⟩, z1, z2, z3, z4⟩ := box_up HZ3.out (HB5.out.trans (hb6.mono HB5.out.size)); clear hb6 hly hlo)
          refine ret3_stored rfl rfl rfl rfl rfl HBX.out.1.1 HBX.out.1.2.1 HBX.out.1.2.2.1 HBX.out.1.2.2.2 ⟨.agg #[.int .i64 tk, .int .i64 tn, .string ts, .slice ta tm tc], ?_, ?_, ?_⟩
          · rw [H2.out, HE.out.1]; rfl
          · rw [H2.out, HE.out.1]
            exact own_set4 HLY.out.2 (Nat.le_refl _) (by have := HLY.out.1; have := HS5.out; have := HN3.out; omega) (by have := HLY.out.1; have := HS5.out; have := H5.out.size; omega)
          · exact FIN.out _ HB6.out
        · have HSD := Hid.mk esd
          rw [esd] at x1
          change wr.cell? ⟨gw, N5, none⟩ = some (.pointer (some ⟨f.g, 6, none⟩)) at x1
          clear esd
          have heq : ∀ W : World, Up wr W → (binOp .eql 78 (.pointer (some ⟨f.g, 6, none⟩)) (.pointer (some ⟨f.g, 7, none⟩))).run Tryd.prog W = .ok (.bool false) W := fun W hW => eqlW f.g 6 7 W (((hR.out.2.2.2.2.trans (hW.out.mono hR.out.2.2.2.2.size)).block f.g (Array.getElem?_eq_some_iff.1 HCV.out.choose_spec.1).1).trans HCV.out.choose_spec.1)
          have HEQ := Hid.mk heq
          clear heq
          go_upto_region 10 with fail
          refine region_up (W := wr) (by kernel_rfl) (by kernel_rfl) (Up.refl _) ?_
          refine quiet_value (v := .slice (some ⟨gw, 0, none⟩) M cap) rfl (fun _ _ => rfl) ?_
          simp only [Act.put, List.setIfInBounds_toArray, List.set_cons_zero, List.set_cons_succ]
          refine quiet_value (v := .int .i64 N4) rfl (fun _ _ => rfl) ?_
          simp only [Act.put, List.setIfInBounds_toArray, List.set_cons_zero, List.set_cons_succ]
          refine quiet_value (v := .int .i64 N5) rfl (fun _ _ => (by go_simp)) ?_
          simp only [Act.put, List.setIfInBounds_toArray, List.set_cons_zero, List.set_cons_succ]
          refine quiet_value (v := .pointer (some ⟨gw, N5, none⟩)) rfl (fun _ _ => (by go_simp)) ?_
          simp only [Act.put, List.setIfInBounds_toArray, List.set_cons_zero, List.set_cons_succ]
          refine quiet_value (v := .pointer (some ⟨f.g, 6, none⟩)) rfl (fun W h => (by have u0 := cell_below h.out _ _ _ x1; go_simp)) ?_
          simp only [Act.put, List.setIfInBounds_toArray, List.set_cons_zero, List.set_cons_succ]
          refine quiet_value (v := .pointer (some ⟨f.g, 0, none⟩)) rfl (fun _ _ => rfl) ?_
          simp only [Act.put, List.setIfInBounds_toArray, List.set_cons_zero, List.set_cons_succ]
          refine quiet_value (v := .int .i64 0) rfl (fun _ _ => rfl) ?_
          simp only [Act.put, List.setIfInBounds_toArray, List.set_cons_zero, List.set_cons_succ]
          refine quiet_value (v := .int .i64 1) rfl (fun _ _ => (by go_simp)) ?_
          simp only [Act.put, List.setIfInBounds_toArray, List.set_cons_zero, List.set_cons_succ]
          refine quiet_value (v := .pointer (some ⟨f.g, 0, none⟩)) rfl (fun _ _ => (by go_simp)) ?_
          simp only [Act.put, List.setIfInBounds_toArray, List.set_cons_zero, List.set_cons_succ]
          refine quiet_value (v := .pointer (some ⟨f.g, 6, none⟩)) rfl (fun _ _ => (by go_simp)) ?_
          simp only [Act.put, List.setIfInBounds_toArray, List.set_cons_zero, List.set_cons_succ]
          refine quiet_value (v := .pointer (some ⟨f.g, 7, none⟩)) rfl (fun _ _ => (by go_simp)) ?_
          simp only [Act.put, List.setIfInBounds_toArray, List.set_cons_zero, List.set_cons_succ]
          refine quiet_value (v := .bool false) rfl (fun W h => (by have u0 := HEQ.out W h; go_simp)) ?_
          simp only [Act.put, List.setIfInBounds_toArray, List.set_cons_zero, List.set_cons_succ]
          refine quiet_nil ?_
          intro w5 hw5
          have HB5 := Hid.mk (hR.out.2.2.2.2.trans (hw5.out.mono hR.out.2.2.2.2.size))
          clear hw5 x0 x1 lk
          have HNX := Hid.mk (show nearC false c3 = nearC false c4 from by rw [hR.out.2.1]; unfold nearC; rw [List.find?_cons, show (f.side == !false) = false by rw [HSD.out]; rfl])
          go_wp2
          go_roundw
          case rel =>
            refine ⟨c4, linkC p (f :: c4) :: rest, ?_, Hid.mk ⟨?_, HNX.out, ⟨_, HCV.out.choose_spec.2.2⟩, fun f' hf' => hR.out.2.2.2.1 f' (by simp [hf']), HB5.out⟩⟩
            · have := HI.out.1
              congr 1
              omega
            · rw [hR.out.1, waysC, List.append_assoc]; rfl
          case measure => have := HI.out; simp [intOf]
end Go.Proofs.YteklhipcojioaaaDoor

/-
  The program's tree: First, Last, Next, Prev.
-/
namespace Go.Proofs.YteklhipcojioaaaDoor
open Go.RowKit Go.Deep Go.Maps Go.WideShapes

theorem look_box {w w' : World} {p : Nat} {t : Bt} {cm : Int} {K : Nat → Prop} {b : Bool} {nb : Nat} (h : Zbox w nb) (hl : LookT w p t cm K w' b) (hp : p ≠ nb) (hn : nb < w.heap.size) : Zbox w' nb := by
  obtain ⟨_, _, ho, _⟩ := hl
  exact zbox_same h (ho.block nb hn (fun e => hp e.symm))
set_option maxHeartbeats 4000000 in
set_option maxRecDepth 100000 in
theorem endT_0 (p : Nat) (t : Bt) (cm : Int) (K : Nat → Prop) (w : World) (h : TpB w p t cm K) :
    Calls Tryd.prog 57 #[.pointer (some ⟨p, 0, none⟩), .int .i64 0] w fun e w' => ∃ tv, e = .returned (.tuple #[tv, .int .i64 (tellK (endB false t)).2.1, .bool (tellK (endB false t)).2.2]) ∧ Own w' (tellK (endB false t)).1 w.heap.size w'.heap.size tv ∧ Below w.heap.size w w' := by
  obtain ⟨nb, hnb⟩ : ∃ nb, w.heap.size = nb := ⟨_, rfl⟩
  obtain ⟨W1, hW1⟩ : ∃ W1, w.alloc (.cells #[.int .i64 0, .int .i64 0, .string ⟨#[]⟩, .slice none 0 0] 32) = W1 := ⟨_, rfl⟩
  have hu : Up w W1 := by rw [← hW1]; exact (Up.refl w).alloc
  have HBw1 := Hid.mk (zbox_of (w := W1) (nb := nb) (by rw [← hW1, ← hnb]; exact new_block w _))
  have HSZ := Hid.mk (show W1.heap.size = nb + 1 by rw [← hW1, World.size_alloc, hnb])
  have h1 := h.up hu.out
  obtain ⟨c0, c1, _, _⟩ := h1.cells
  have HT := Hid.mk h1
  have HU := Hid.mk hu.out
  have HW := Hid.mk (And.intro hW1 hnb)
  clear h hu hW1 hnb
  cases t with
  | nil =>
    replace c1 : W1.cell? ⟨p, 1, none⟩ = some (.pointer none) := c1
    obtain ⟨⟨e0, e1, e2, e3⟩, z1, z2, z3, z4⟩ := HBw1.out
    have HC := Hid.mk (And.intro e0 (And.intro e1 (And.intro e2 e3)))
    clear h1
    go_enter Tryd.func57, Tryd.ntmps57
    go_upto_region 1 with fail
    rw [HW.out.1, HW.out.2]
    go_wp2_with (go_at_call 37; refine (madeT_any _ _ c0).mono ?_; rintro e w2 ⟨rfl, rfl⟩)
    refine ret3_stored rfl rfl rfl rfl rfl HC.out.1 HC.out.2.1 HC.out.2.2.1 HC.out.2.2.2 ⟨_, rfl, own_zero _ _ _, ?_⟩
    exact Below.set4 HU.out (Nat.le_of_eq HW.out.2)
  | node g e x l r =>
    replace c1 : W1.cell? ⟨p, 1, none⟩ = some (.pointer (some ⟨g, 0, none⟩)) := c1
    have HKO := Hid.mk h1.keys
    obtain ⟨hl0, _⟩ := And.intro h1.lay trivial
    have HLY := Hid.mk hl0
    clear h1 hl0
    go_enter Tryd.func57, Tryd.ntmps57
    go_upto_region 1 with fail
    rw [HW.out.1, HW.out.2]
    go_wp2_with (go_at_call 37; refine (madeT_any _ _ c0).mono ?_; rintro e w2 ⟨rfl, rfl⟩)
    go_loopg [7] ((Bt.node g e x l r).list.length) (fun q nn wr => ∃ g2 e2 x2 l2 r2, nn = .pointer (some ⟨g2, 0, none⟩) ∧ Hid ((Bt.node g2 e2 x2 l2 r2).list.length ≤ q ∧ LayB W1 (.node g2 e2 x2 l2 r2) ∧ endB false (.node g e x l r) = endB false (.node g2 e2 x2 l2 r2) ∧ (∀ k ∈ (Bt.node g2 e2 x2 l2 r2).list, k ∈ (Bt.node g e x l r).list) ∧ Below W1.heap.size W1 wr))
    case atStart => exact ⟨_, _, _, _, _, rfl, Hid.mk ⟨Nat.le_refl _, HLY.out, rfl, fun k hk => hk, Below.refl _ _⟩⟩
    case round =>
      obtain ⟨g2, e2, x2, l2, r2, rfl, hR⟩ := hrel
      obtain ⟨r1, ⟨k1, kl, kr⟩, r3, r4, r5⟩ := hR.out
      have kk := (r5.block g2 (Array.getElem?_eq_some_iff.1 k1).1).trans k1
      obtain ⟨cp, hcp⟩ := ptrB_is l2
      have d : wr.cell? ⟨g2, 6, none⟩ = some (.pointer cp) := by rw [← hcp]; simp [World.cell?, kk, cellsB]
      have HR := Hid.mk (And.intro k1 kk)
      clear r1 k1 kl kr r3 r4 r5 kk
      cases l2 with
      | nil =>
        obtain rfl : none = cp := by simpa [ptrB] using hcp
        clear hcp
        have HE := Hid.mk (show endB false (.node g e x l r) = some e2 from hR.out.2.2.1.trans end_first)
        have HM := Hid.mk (HKO.out e2 (hR.out.2.2.2.1 e2 (by simp [Bt.list])))
        have HTE := Hid.mk (tellB_any g2 e2 x2 _ _ K wr HR.out.2 (HM.out.1.below hR.out.2.2.2.2) HM.out.2)
        have HBw := Hid.mk (box_up HBw1.out hR.out.2.2.2.2)
        have HS5 := Hid.mk hR.out.2.2.2.2.size
        go_wp2_with (go_at_call 75; refine HTE.out.mono ?_; rintro en w6 ⟨tv, rfl, ⟨lo, hlo, hly⟩, hb6⟩; obtain ⟨tk, tn, ts, ta, tm, tc, rfl⟩ := hly.agg; have HLT := Hid.mk (And.intro hlo hly); have HB6 := Hid.mk (HU.out.trans ((hR.out.2.2.2.2.trans (hb6.mono hR.out.2.2.2.2.size)).mono HU.out.size)); have HBX := Hid.mk (box_up HBw.out hb6); obtain ⟨⟨e0, e1, e2, e3⟩, z1, z2, z3, z4⟩ := box_up HBw.out hb6; clear hb6 hly)
        refine ret3_stored rfl rfl rfl rfl rfl HBX.out.1.1 HBX.out.1.2.1 HBX.out.1.2.2.1 HBX.out.1.2.2.2 ⟨.agg #[.int .i64 tk, .int .i64 tn, .string ts, .slice ta tm tc], ?_, ?_, ?_⟩
        · rw [HE.out]; rfl
        · rw [HE.out]
          exact own_set4 HLT.out.2 (Nat.le_refl _) (by have := HLT.out.1; have := HS5.out; have := HSZ.out; omega) (by have := HLT.out.1; have := HS5.out; have := HU.out.size; omega)
        · exact Below.set4 HB6.out (Nat.le_of_eq HW.out.2)
      | node g3 e3 x3 l3 r3 =>
        obtain rfl : some ⟨g3, 0, none⟩ = cp := by simpa [ptrB] using hcp
        clear hcp
        have HNX := Hid.mk (show (Bt.node g3 e3 x3 l3 r3).list.length < gk ∧ LayB W1 (.node g3 e3 x3 l3 r3) ∧ endB false (.node g e x l r) = endB false (.node g3 e3 x3 l3 r3) ∧ (∀ k ∈ (Bt.node g3 e3 x3 l3 r3).list, k ∈ (Bt.node g e x l r).list) from by
          obtain ⟨r1, ⟨k1, kl, kr⟩, r3', r4, r5⟩ := hR.out
          refine ⟨?_, kl, r3'.trans (end_left (by intro e0; cases e0)), fun k hk => r4 k (by rw [Bt.list]; exact List.mem_append_left _ hk)⟩
          simp only [Bt.list, List.length_append, List.length_cons] at r1 ⊢
          omega)
        go_wp2
        go_roundg (Bt.node g3 e3 x3 l3 r3).list.length
        case measure => exact HNX.out.1
        case rel => exact ⟨_, _, _, _, _, rfl, Hid.mk ⟨Nat.le_refl _, HNX.out.2.1, HNX.out.2.2.1, HNX.out.2.2.2, hR.out.2.2.2.2⟩⟩
set_option maxHeartbeats 4000000 in
set_option maxRecDepth 100000 in
theorem endT_1 (p : Nat) (t : Bt) (cm : Int) (K : Nat → Prop) (w : World) (h : TpB w p t cm K) :
    Calls Tryd.prog 57 #[.pointer (some ⟨p, 0, none⟩), .int .i64 1] w fun e w' => ∃ tv, e = .returned (.tuple #[tv, .int .i64 (tellK (endB true t)).2.1, .bool (tellK (endB true t)).2.2]) ∧ Own w' (tellK (endB true t)).1 w.heap.size w'.heap.size tv ∧ Below w.heap.size w w' := by
  obtain ⟨nb, hnb⟩ : ∃ nb, w.heap.size = nb := ⟨_, rfl⟩
  obtain ⟨W1, hW1⟩ : ∃ W1, w.alloc (.cells #[.int .i64 0, .int .i64 0, .string ⟨#[]⟩, .slice none 0 0] 32) = W1 := ⟨_, rfl⟩
  have hu : Up w W1 := by rw [← hW1]; exact (Up.refl w).alloc
  have HBw1 := Hid.mk (zbox_of (w := W1) (nb := nb) (by rw [← hW1, ← hnb]; exact new_block w _))
  have HSZ := Hid.mk (show W1.heap.size = nb + 1 by rw [← hW1, World.size_alloc, hnb])
  have h1 := h.up hu.out
  obtain ⟨c0, c1, _, _⟩ := h1.cells
  have HT := Hid.mk h1
  have HU := Hid.mk hu.out
  have HW := Hid.mk (And.intro hW1 hnb)
  clear h hu hW1 hnb
  cases t with
  | nil =>
    replace c1 : W1.cell? ⟨p, 1, none⟩ = some (.pointer none) := c1
    obtain ⟨⟨e0, e1, e2, e3⟩, z1, z2, z3, z4⟩ := HBw1.out
    have HC := Hid.mk (And.intro e0 (And.intro e1 (And.intro e2 e3)))
    clear h1
    go_enter Tryd.func57, Tryd.ntmps57
    go_upto_region 1 with fail
    rw [HW.out.1, HW.out.2]
    go_wp2_with (go_at_call 37; refine (madeT_any _ _ c0).mono ?_; rintro e w2 ⟨rfl, rfl⟩)
    refine ret3_stored rfl rfl rfl rfl rfl HC.out.1 HC.out.2.1 HC.out.2.2.1 HC.out.2.2.2 ⟨_, rfl, own_zero _ _ _, ?_⟩
    exact Below.set4 HU.out (Nat.le_of_eq HW.out.2)
  | node g e x l r =>
    replace c1 : W1.cell? ⟨p, 1, none⟩ = some (.pointer (some ⟨g, 0, none⟩)) := c1
    have HKO := Hid.mk h1.keys
    obtain ⟨hl0, _⟩ := And.intro h1.lay trivial
    have HLY := Hid.mk hl0
    clear h1 hl0
    go_enter Tryd.func57, Tryd.ntmps57
    go_upto_region 1 with fail
    rw [HW.out.1, HW.out.2]
    go_wp2_with (go_at_call 37; refine (madeT_any _ _ c0).mono ?_; rintro e w2 ⟨rfl, rfl⟩)
    go_loopg [7] ((Bt.node g e x l r).list.length) (fun q nn wr => ∃ g2 e2 x2 l2 r2, nn = .pointer (some ⟨g2, 0, none⟩) ∧ Hid ((Bt.node g2 e2 x2 l2 r2).list.length ≤ q ∧ LayB W1 (.node g2 e2 x2 l2 r2) ∧ endB true (.node g e x l r) = endB true (.node g2 e2 x2 l2 r2) ∧ (∀ k ∈ (Bt.node g2 e2 x2 l2 r2).list, k ∈ (Bt.node g e x l r).list) ∧ Below W1.heap.size W1 wr))
    case atStart => exact ⟨_, _, _, _, _, rfl, Hid.mk ⟨Nat.le_refl _, HLY.out, rfl, fun k hk => hk, Below.refl _ _⟩⟩
    case round =>
      obtain ⟨g2, e2, x2, l2, r2, rfl, hR⟩ := hrel
      obtain ⟨r1, ⟨k1, kl, kr⟩, r3, r4, r5⟩ := hR.out
      have kk := (r5.block g2 (Array.getElem?_eq_some_iff.1 k1).1).trans k1
      obtain ⟨cp, hcp⟩ := ptrB_is r2
      have d : wr.cell? ⟨g2, 7, none⟩ = some (.pointer cp) := by rw [← hcp]; simp [World.cell?, kk, cellsB]
      have HR := Hid.mk (And.intro k1 kk)
      clear r1 k1 kl kr r3 r4 r5 kk
      cases r2 with
      | nil =>
        obtain rfl : none = cp := by simpa [ptrB] using hcp
        clear hcp
        have HE := Hid.mk (show endB true (.node g e x l r) = some e2 from hR.out.2.2.1.trans end_last)
        have HM := Hid.mk (HKO.out e2 (hR.out.2.2.2.1 e2 (by simp [Bt.list])))
        have HTE := Hid.mk (tellB_any g2 e2 x2 _ _ K wr HR.out.2 (HM.out.1.below hR.out.2.2.2.2) HM.out.2)
        have HBw := Hid.mk (box_up HBw1.out hR.out.2.2.2.2)
        have HS5 := Hid.mk hR.out.2.2.2.2.size
        go_wp2_with (go_at_call 75; refine HTE.out.mono ?_; rintro en w6 ⟨tv, rfl, ⟨lo, hlo, hly⟩, hb6⟩; obtain ⟨tk, tn, ts, ta, tm, tc, rfl⟩ := hly.agg; have HLT := Hid.mk (And.intro hlo hly); have HB6 := Hid.mk (HU.out.trans ((hR.out.2.2.2.2.trans (hb6.mono hR.out.2.2.2.2.size)).mono HU.out.size)); have HBX := Hid.mk (box_up HBw.out hb6); obtain ⟨⟨e0, e1, e2, e3⟩, z1, z2, z3, z4⟩ := box_up HBw.out hb6; clear hb6 hly)
        refine ret3_stored rfl rfl rfl rfl rfl HBX.out.1.1 HBX.out.1.2.1 HBX.out.1.2.2.1 HBX.out.1.2.2.2 ⟨.agg #[.int .i64 tk, .int .i64 tn, .string ts, .slice ta tm tc], ?_, ?_, ?_⟩
        · rw [HE.out]; rfl
        · rw [HE.out]
          exact own_set4 HLT.out.2 (Nat.le_refl _) (by have := HLT.out.1; have := HS5.out; have := HSZ.out; omega) (by have := HLT.out.1; have := HS5.out; have := HU.out.size; omega)
        · exact Below.set4 HB6.out (Nat.le_of_eq HW.out.2)
      | node g3 e3 x3 l3 r3 =>
        obtain rfl : some ⟨g3, 0, none⟩ = cp := by simpa [ptrB] using hcp
        clear hcp
        have HNX := Hid.mk (show (Bt.node g3 e3 x3 l3 r3).list.length < gk ∧ LayB W1 (.node g3 e3 x3 l3 r3) ∧ endB true (.node g e x l r) = endB true (.node g3 e3 x3 l3 r3) ∧ (∀ k ∈ (Bt.node g3 e3 x3 l3 r3).list, k ∈ (Bt.node g e x l r).list) from by
          obtain ⟨r1, ⟨k1, kl, kr⟩, r3', r4, r5⟩ := hR.out
          refine ⟨?_, kr, r3'.trans (end_right (by intro e0; cases e0)), fun k hk => r4 k (by rw [Bt.list]; exact List.mem_append_right _ (List.mem_cons_of_mem _ hk))⟩
          simp only [Bt.list, List.length_append, List.length_cons] at r1 ⊢
          omega)
        go_wp2
        go_roundg (Bt.node g3 e3 x3 l3 r3).list.length
        case measure => exact HNX.out.1
        case rel => exact ⟨_, _, _, _, _, rfl, Hid.mk ⟨Nat.le_refl _, HNX.out.2.1, HNX.out.2.2.1, HNX.out.2.2.2, hR.out.2.2.2.2⟩⟩
set_option maxHeartbeats 4000000 in
set_option maxRecDepth 100000 in
theorem firstT_any (p : Nat) (t : Bt) (cm : Int) (K : Nat → Prop) (w : World) (h : TpB w p t cm K) :
    Calls Tryd.prog 23 #[.pointer (some ⟨p, 0, none⟩)] w fun e w' => ∃ tv, e = .returned (.tuple #[tv, .int .i64 (tellN (ndsB t.list) (0)).2.1, .bool (tellN (ndsB t.list) (0)).2.2]) ∧ Own w' (tellN (ndsB t.list) (0)).1 w.heap.size w'.heap.size tv ∧ Below w.heap.size w w' := by
  rw [tell_first]
  obtain ⟨nb, hnb⟩ : ∃ nb, w.heap.size = nb := ⟨_, rfl⟩
  obtain ⟨W1, hW1⟩ : ∃ W1, w.alloc (.cells #[.int .i64 0, .int .i64 0, .string ⟨#[]⟩, .slice none 0 0] 32) = W1 := ⟨_, rfl⟩
  have hu : Up w W1 := by rw [← hW1]; exact (Up.refl w).alloc
  have HBw1 := Hid.mk (zbox_of (w := W1) (nb := nb) (by rw [← hW1, ← hnb]; exact new_block w _))
  have HSZ := Hid.mk (show W1.heap.size = nb + 1 by rw [← hW1, World.size_alloc, hnb])
  have HE := Hid.mk (endT_0 p t cm K W1 (h.up hu.out))
  have HU := Hid.mk hu.out
  have HW := Hid.mk (And.intro hW1 hnb)
  generalize tellK (endB false t) = X at *
  obtain ⟨X0, X1, X2⟩ := X
  clear h hu hW1 hnb
  go_enter Tryd.func23, Tryd.ntmps23
  go_upto_region 1 with fail
  rw [HW.out.1, HW.out.2]
  go_wp2_with (go_at_call 57; refine HE.out.mono ?_; rintro en w6 ⟨tv, rfl, hly, hb6⟩; obtain ⟨tk, tn, ts, ta, tm, tc, rfl⟩ := hly.agg; have HLT := Hid.mk hly; have HB6 := Hid.mk (HU.out.trans (hb6.mono HU.out.size)); have HBX := Hid.mk (box_up HBw1.out hb6); obtain ⟨⟨e0, e1, e2, e3⟩, z1, z2, z3, z4⟩ := box_up HBw1.out hb6; clear hb6 hly)
  refine ret3_stored rfl rfl rfl rfl rfl HBX.out.1.1 HBX.out.1.2.1 HBX.out.1.2.2.1 HBX.out.1.2.2.2 ⟨.agg #[.int .i64 tk, .int .i64 tn, .string ts, .slice ta tm tc], rfl, ?_, ?_⟩
  · exact own_set4 HLT.out (Nat.le_refl _) (by have := HSZ.out; omega) HU.out.size
  · exact Below.set4 HB6.out (Nat.le_of_eq HW.out.2)
set_option maxHeartbeats 4000000 in
set_option maxRecDepth 100000 in
theorem lastT_any (p : Nat) (t : Bt) (cm : Int) (K : Nat → Prop) (w : World) (h : TpB w p t cm K) :
    Calls Tryd.prog 24 #[.pointer (some ⟨p, 0, none⟩)] w fun e w' => ∃ tv, e = .returned (.tuple #[tv, .int .i64 (tellN (ndsB t.list) ((ndsB t.list).length - 1)).2.1, .bool (tellN (ndsB t.list) ((ndsB t.list).length - 1)).2.2]) ∧ Own w' (tellN (ndsB t.list) ((ndsB t.list).length - 1)).1 w.heap.size w'.heap.size tv ∧ Below w.heap.size w w' := by
  rw [tell_last]
  obtain ⟨nb, hnb⟩ : ∃ nb, w.heap.size = nb := ⟨_, rfl⟩
  obtain ⟨W1, hW1⟩ : ∃ W1, w.alloc (.cells #[.int .i64 0, .int .i64 0, .string ⟨#[]⟩, .slice none 0 0] 32) = W1 := ⟨_, rfl⟩
  have hu : Up w W1 := by rw [← hW1]; exact (Up.refl w).alloc
  have HBw1 := Hid.mk (zbox_of (w := W1) (nb := nb) (by rw [← hW1, ← hnb]; exact new_block w _))
  have HSZ := Hid.mk (show W1.heap.size = nb + 1 by rw [← hW1, World.size_alloc, hnb])
  have HE := Hid.mk (endT_1 p t cm K W1 (h.up hu.out))
  have HU := Hid.mk hu.out
  have HW := Hid.mk (And.intro hW1 hnb)
  generalize tellK (endB true t) = X at *
  obtain ⟨X0, X1, X2⟩ := X
  clear h hu hW1 hnb
  go_enter Tryd.func24, Tryd.ntmps24
  go_upto_region 1 with fail
  rw [HW.out.1, HW.out.2]
  go_wp2_with (go_at_call 57; refine HE.out.mono ?_; rintro en w6 ⟨tv, rfl, hly, hb6⟩; obtain ⟨tk, tn, ts, ta, tm, tc, rfl⟩ := hly.agg; have HLT := Hid.mk hly; have HB6 := Hid.mk (HU.out.trans (hb6.mono HU.out.size)); have HBX := Hid.mk (box_up HBw1.out hb6); obtain ⟨⟨e0, e1, e2, e3⟩, z1, z2, z3, z4⟩ := box_up HBw1.out hb6; clear hb6 hly)
  refine ret3_stored rfl rfl rfl rfl rfl HBX.out.1.1 HBX.out.1.2.1 HBX.out.1.2.2.1 HBX.out.1.2.2.2 ⟨.agg #[.int .i64 tk, .int .i64 tn, .string ts, .slice ta tm tc], rfl, ?_, ?_⟩
  · exact own_set4 HLT.out (Nat.le_refl _) (by have := HSZ.out; omega) HU.out.size
  · exact Below.set4 HB6.out (Nat.le_of_eq HW.out.2)
set_option maxHeartbeats 4000000 in
set_option maxRecDepth 100000 in
theorem nextT_any (p : Nat) (t : Bt) (cm : Int) (K F' : Nat → Prop) (T : Tm) (kv : Value) (w : World) (h : TpB w p t cm K) (hk : Lies w F' T kv) (hkp : ¬ F' p) (hz : t.list.length ≤ 700000) (hcm : 0 ≤ cm ∧ cm ≤ 1000000000000) :
    Calls Tryd.prog 25 #[.pointer (some ⟨p, 0, none⟩), kv] w fun e w' => ∃ tv, e = .returned (.tuple #[tv, .int .i64 (tellN (ndsB t.list) ((nextN (ndsB t.list) T : Nat))).2.1, .bool (tellN (ndsB t.list) ((nextN (ndsB t.list) T : Nat))).2.2]) ∧ Own w' (tellN (ndsB t.list) ((nextN (ndsB t.list) T : Nat))).1 w.heap.size w'.heap.size tv ∧ LookT w p t cm K w' false := by
  obtain ⟨kk, kn, ks, ka, km, kc, rfl⟩ := hk.agg
  obtain ⟨nb, W1, hnb, hW1, hu, ⟨b0, b1, b2, b3⟩, hzb⟩ := boxes2 w kk kn ks ka km kc
  have h1 := h.up hu
  have HE := Hid.mk (nearT_1 p t cm K F' T _ W1 h1 (hk.below hu) hkp hz hcm)
  have HU := Hid.mk hu
  have HW := Hid.mk (And.intro hW1 hnb)
  have HZB := Hid.mk hzb
  have hsz1 : nb + 2 ≤ W1.heap.size := by have := World.block_lt_of_cell? W1 _ hzb.1.1; simp only at this; omega
  have HSZ := Hid.mk hsz1
  have HLT := Hid.mk (show ∀ k, k = p ∨ k ∈ t.blocks ∨ K k → k < nb from fun k hk => hnb ▸ h.lt k hk)
  generalize tellN (ndsB t.list) ((nextN (ndsB t.list) T : Nat)) = X at *
  obtain ⟨X0, X1, X2⟩ := X
  clear h h1 hk hkp hz hcm hu hnb hW1 hzb hsz1
  go_enter Tryd.func25, Tryd.ntmps25
  go_upto_region 1 with fail
  rw [HW.out.1, HW.out.2]
  go_wp2_with (go_at_call 58; refine HE.out.mono ?_; rintro en w6 ⟨tv, rfl, hly, hlk⟩; obtain ⟨tk, tn, ts, ta, tm, tc, rfl⟩ := hly.agg; have HLY := Hid.mk hly; have HLK := Hid.mk hlk; have HBX := Hid.mk (look_box HZB.out hlk (by have := HLT.out p (Or.inl rfl); omega) (by have := HSZ.out; omega)); obtain ⟨⟨e0, e1, e2, e3⟩, z1, z2, z3, z4⟩ := look_box HZB.out hlk (by have := HLT.out p (Or.inl rfl); omega) (by have := HSZ.out; omega); clear hly hlk)
  refine ret3_stored rfl rfl rfl rfl rfl HBX.out.1.1 HBX.out.1.2.1 HBX.out.1.2.2.1 HBX.out.1.2.2.2 ⟨.agg #[.int .i64 tk, .int .i64 tn, .string ts, .slice ta tm tc], rfl, ?_, ?_⟩
  · exact own_set4 HLY.out (Nat.le_refl _) (by have := HSZ.out; omega) HU.out.size
  · obtain ⟨cm', k1, k2, k3, k4, _⟩ := HLK.out
    have hset : Only (fun k => k = nb + 1) w6 ((((w6.setCell ⟨nb + 1, 0, none⟩ (.int .i64 tk)).setCell ⟨nb + 1, 1, none⟩ (.int .i64 tn)).setCell ⟨nb + 1, 2, none⟩ (.string ts)).setCell ⟨nb + 1, 3, none⟩ (.slice ta tm tc)) := ((((Only.refl (fun k => k = nb + 1) w6).put rfl 0 _).put rfl 1 _).put rfl 2 _).put rfl 3 _
    refine ⟨cm', k1.kept hset (fun k hk e => by have := HLT.out k hk; omega), ?_, k3, k4, fun e => (by cases e)⟩
    exact ((Only.up (S := fun k => k = p) HU.out).trans k2 (fun k hk => Or.inl hk)).trans hset (fun k hk => Or.inr (by have := HW.out.2; omega))
set_option maxHeartbeats 4000000 in
set_option maxRecDepth 100000 in
theorem prevT_any (p : Nat) (t : Bt) (cm : Int) (K F' : Nat → Prop) (T : Tm) (kv : Value) (w : World) (h : TpB w p t cm K) (hk : Lies w F' T kv) (hkp : ¬ F' p) (hz : t.list.length ≤ 700000) (hcm : 0 ≤ cm ∧ cm ≤ 1000000000000) :
    Calls Tryd.prog 26 #[.pointer (some ⟨p, 0, none⟩), kv] w fun e w' => ∃ tv, e = .returned (.tuple #[tv, .int .i64 (tellN (ndsB t.list) ((atN (ndsB t.list) T : Int) - 1)).2.1, .bool (tellN (ndsB t.list) ((atN (ndsB t.list) T : Int) - 1)).2.2]) ∧ Own w' (tellN (ndsB t.list) ((atN (ndsB t.list) T : Int) - 1)).1 w.heap.size w'.heap.size tv ∧ LookT w p t cm K w' false := by
  obtain ⟨kk, kn, ks, ka, km, kc, rfl⟩ := hk.agg
  obtain ⟨nb, W1, hnb, hW1, hu, ⟨b0, b1, b2, b3⟩, hzb⟩ := boxes2 w kk kn ks ka km kc
  have h1 := h.up hu
  have HE := Hid.mk (nearT_0 p t cm K F' T _ W1 h1 (hk.below hu) hkp hz hcm)
  have HU := Hid.mk hu
  have HW := Hid.mk (And.intro hW1 hnb)
  have HZB := Hid.mk hzb
  have hsz1 : nb + 2 ≤ W1.heap.size := by have := World.block_lt_of_cell? W1 _ hzb.1.1; simp only at this; omega
  have HSZ := Hid.mk hsz1
  have HLT := Hid.mk (show ∀ k, k = p ∨ k ∈ t.blocks ∨ K k → k < nb from fun k hk => hnb ▸ h.lt k hk)
  generalize tellN (ndsB t.list) ((atN (ndsB t.list) T : Int) - 1) = X at *
  obtain ⟨X0, X1, X2⟩ := X
  clear h h1 hk hkp hz hcm hu hnb hW1 hzb hsz1
  go_enter Tryd.func26, Tryd.ntmps26
  go_upto_region 1 with fail
  rw [HW.out.1, HW.out.2]
  go_wp2_with (go_at_call 58; refine HE.out.mono ?_; rintro en w6 ⟨tv, rfl, hly, hlk⟩; obtain ⟨tk, tn, ts, ta, tm, tc, rfl⟩ := hly.agg; have HLY := Hid.mk hly; have HLK := Hid.mk hlk; have HBX := Hid.mk (look_box HZB.out hlk (by have := HLT.out p (Or.inl rfl); omega) (by have := HSZ.out; omega)); obtain ⟨⟨e0, e1, e2, e3⟩, z1, z2, z3, z4⟩ := look_box HZB.out hlk (by have := HLT.out p (Or.inl rfl); omega) (by have := HSZ.out; omega); clear hly hlk)
  refine ret3_stored rfl rfl rfl rfl rfl HBX.out.1.1 HBX.out.1.2.1 HBX.out.1.2.2.1 HBX.out.1.2.2.2 ⟨.agg #[.int .i64 tk, .int .i64 tn, .string ts, .slice ta tm tc], rfl, ?_, ?_⟩
  · exact own_set4 HLY.out (Nat.le_refl _) (by have := HSZ.out; omega) HU.out.size
  · obtain ⟨cm', k1, k2, k3, k4, _⟩ := HLK.out
    have hset : Only (fun k => k = nb + 1) w6 ((((w6.setCell ⟨nb + 1, 0, none⟩ (.int .i64 tk)).setCell ⟨nb + 1, 1, none⟩ (.int .i64 tn)).setCell ⟨nb + 1, 2, none⟩ (.string ts)).setCell ⟨nb + 1, 3, none⟩ (.slice ta tm tc)) := ((((Only.refl (fun k => k = nb + 1) w6).put rfl 0 _).put rfl 1 _).put rfl 2 _).put rfl 3 _
    refine ⟨cm', k1.kept hset (fun k hk e => by have := HLT.out k hk; omega), ?_, k3, k4, fun e => (by cases e)⟩
    exact ((Only.up (S := fun k => k = p) HU.out).trans k2 (fun k hk => Or.inl hk)).trans hset (fun k hk => Or.inr (by have := HW.out.2; omega))
end Go.Proofs.YteklhipcojioaaaDoor
