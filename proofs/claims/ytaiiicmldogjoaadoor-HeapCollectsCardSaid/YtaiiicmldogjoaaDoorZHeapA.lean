/-
  The heap's small calls: made, fits, pack; one added to a pile; a row of words cloned.
-/
import Derived.Test.YtaiiicmldogjoaaDoorZHeapBase
import Derived.Test.YtaiiicmldogjoaaDoorZAtomBase
import Derived.LaidEqlPtr
import Derived.BigQuiet
import Derived.Test.YtaiiicmldogjoaaDoorZKitBase
import Derived.Test.YtaiiicmldogjoaaDoorZTermClone
import Derived.Deep.RegionWith
import Derived.Deep.LoopGhost
import Derived.Deep.Cut
namespace Go.Proofs.YtaiiicmldogjoaaDoor
open Go.RowKit Go.Deep Go.Maps Go.WideShapes

section
variable {w w' w1 w2 : World} {b o : Nat} {wv kv wv1 kv1 wv2 kv2 wv' kv' : Value} {xs ks xs' ks' : List Int}
theorem PStp.trans (h : PStp b o w wv kv w1 wv1 kv1) (k : PStp b o w1 wv1 kv1 w2 wv2 kv2) : PStp b o w wv kv w2 wv2 kv2 :=
  ⟨h.only.trans k.only fun i hi => by
    rcases hi with rfl | hi
    · exact Or.inl (Or.inl rfl)
    · exact (h.own i hi).imp (fun h => Or.inr h) id, fun j h0 h1 => (k.rest j h0 h1).trans (h.rest j h0 h1), fun i hi => (k.own i hi).elim (h.own i) fun hh => Or.inr (Nat.le_trans h.only.size hh)⟩
theorem PStp.up (hb : Below w.heap.size w w') (hl : b < w.heap.size) : PStp b o w wv kv w' wv kv := ⟨Only.up hb, fun j _ _ => hb.cell (p := ⟨b, j, none⟩) hl, fun _ h => Or.inl h⟩
theorem Pil.grow0 (h : Pil w b o wv kv xs ks) (hr : Wds w1 wv' xs') (hg : w.grownBy w1 wv.ownBlock) (ha : wv'.ownBlock = wv.ownBlock ∨ wv'.ownBlock = some w.heap.size) :
    Pil (w1.setCell ⟨b, o, none⟩ wv') b o wv' kv xs' ks ∧ PStp b o w wv kv (w1.setCell ⟨b, o, none⟩ wv') wv' kv := by
  have hlt := h.lt
  have ho : Only (fun k => wv.ownBlock = some k) w w1 := Only.grown hg fun k hk => hk
  have c0 := ho.cellS h.n0 h.c0
  have c1 := ho.cellS h.n0 h.c1
  have nb : ∀ g, wv'.ownBlock = some g → g ≠ b := fun g hg' e => by
    subst e
    rcases ha with e | e
    · exact h.n0 (e ▸ hg')
    · rw [e] at hg'; cases hg'; omega
  have hs : Only (fun k => k = b) w1 (w1.setCell ⟨b, o, none⟩ wv') := Only.set w1 wv' rfl
  refine ⟨⟨World.cell?_setCell_same w1 ⟨b, o, none⟩ wv' c0, (World.cell?_setCell_other w1 _ _ _ (by simp)).trans c1, ?_, ?_, hr.kept hs nb, (h.kin.kept ho fun g hg' hk => h.n2 g hk hg').kept hs fun g hg' e => h.n1 (e ▸ hg'), fun e => nb b e rfl, h.n1, fun g hg' hk => ?_⟩, ?_, fun j hj hj1 => ?_, fun k hk => ?_⟩
  · rw [World.frozen?_setCell]; exact ho.frozenS hlt h.n0 h.f0
  · rw [World.frozen?_setCell]; exact ho.frozenS hlt h.n0 h.f1
  · rcases ha with e | e
    · exact h.n2 g (e ▸ hg') hk
    · rw [e] at hg'; cases hg'; have := h.kin.block_lt hk; omega
  · exact (ho.mono fun k hk => Or.inr (Or.inl hk)).trans (hs.mono fun k hk => (Or.inl hk : PMine b wv kv k)) fun i hi => Or.inl hi
  · rw [World.cell?_setCell_other w1 ⟨b, o, none⟩ ⟨b, j, none⟩ wv' (by simp; try omega)]
    rw [World.cell?_of_block (w := w) (a := ⟨b, j, none⟩) (ho.block b hlt h.n0)]
  · rcases hk with hk | hk
    · rcases ha with e | e
      · exact Or.inl (Or.inl (e ▸ hk))
      · rw [e] at hk; cases hk; exact Or.inr (Nat.le_refl _)
    · exact Or.inl (Or.inr hk)
theorem Pil.grow1 (h : Pil w b o wv kv xs ks) (hr : Kds w1 kv' ks') (hg : w.grownBy w1 kv.ownBlock) (ha : kv'.ownBlock = kv.ownBlock ∨ kv'.ownBlock = some w.heap.size) :
    Pil (w1.setCell ⟨b, o + 1, none⟩ kv') b o wv kv' xs ks' ∧ PStp b o w wv kv (w1.setCell ⟨b, o + 1, none⟩ kv') wv kv' := by
  have hlt := h.lt
  have ho : Only (fun k => kv.ownBlock = some k) w w1 := Only.grown hg fun k hk => hk
  have c0 := ho.cellS h.n1 h.c0
  have c1 := ho.cellS h.n1 h.c1
  have nb : ∀ g, kv'.ownBlock = some g → g ≠ b := fun g hg' e => by
    subst e
    rcases ha with e | e
    · exact h.n1 (e ▸ hg')
    · rw [e] at hg'; cases hg'; omega
  have hs : Only (fun k => k = b) w1 (w1.setCell ⟨b, o + 1, none⟩ kv') := Only.set w1 kv' rfl
  refine ⟨⟨(World.cell?_setCell_other w1 _ _ _ (by simp)).trans c0, World.cell?_setCell_same w1 ⟨b, o + 1, none⟩ kv' c1, ?_, ?_, (h.row.kept ho fun g hg' hk => h.n2 g hg' hk).kept hs fun g hg' e => h.n0 (e ▸ hg'), hr.kept hs nb, h.n0, fun e => nb b e rfl, fun g hg' hk => ?_⟩, ?_, fun j hj hj1 => ?_, fun k hk => ?_⟩
  · rw [World.frozen?_setCell]; exact ho.frozenS hlt h.n1 h.f0
  · rw [World.frozen?_setCell]; exact ho.frozenS hlt h.n1 h.f1
  · rcases ha with e | e
    · exact h.n2 g hg' (e ▸ hk)
    · rw [e] at hk; cases hk; have := h.row.block_lt hg'; omega
  · exact (ho.mono fun k hk => Or.inr (Or.inr hk)).trans (hs.mono fun k hk => (Or.inl hk : PMine b wv kv k)) fun i hi => Or.inl hi
  · rw [World.cell?_setCell_other w1 ⟨b, o + 1, none⟩ ⟨b, j, none⟩ kv' (by simp; try omega)]
    rw [World.cell?_of_block (w := w) (a := ⟨b, j, none⟩) (ho.block b hlt h.n1)]
  · rcases hk with hk | hk
    · exact Or.inl (Or.inl hk)
    · rcases ha with e | e
      · exact Or.inl (Or.inr (e ▸ hk))
      · rw [e] at hk; cases hk; exact Or.inr (Nat.le_refl _)
/-- A kind put at a place; a word put at a place. -/
theorem Pil.kset {g n cap : Nat} (h : Pil w b o wv (.slice (some ⟨g, 0, none⟩) n cap) xs ks) (i : Nat) (x : Int) :
    Pil (w.setCell ⟨g, i, none⟩ (.int .u8 x)) b o wv (.slice (some ⟨g, 0, none⟩) n cap) xs (ks.set i x) ∧ PStp b o w wv (.slice (some ⟨g, 0, none⟩) n cap) (w.setCell ⟨g, i, none⟩ (.int .u8 x)) wv (.slice (some ⟨g, 0, none⟩) n cap) := by
  have hs : Only (fun k => k = g) w (w.setCell ⟨g, i, none⟩ (.int .u8 x)) := Only.set w _ rfl
  have hbg : b ≠ g := fun e => h.n1 (by rw [e]; rfl)
  refine ⟨⟨hs.cellS hbg h.c0, hs.cellS hbg h.c1, hs.frozenS h.lt hbg h.f0, hs.frozenS h.lt hbg h.f1, h.row.kept hs fun k hk e => h.n2 k hk (by rw [e]; rfl), h.kin.set i x, h.n0, h.n1, h.n2⟩, hs.mono fun k hk => Or.inr (Or.inr (by rw [hk]; rfl)), fun j _ _ => ?_, fun k hk => Or.inl hk⟩
  rw [World.cell?_of_block (w := w) (a := ⟨b, j, none⟩) (hs.block b h.lt hbg)]
theorem Pil.wset {g n cap : Nat} (h : Pil w b o (.slice (some ⟨g, 0, none⟩) n cap) kv xs ks) (i : Nat) (x : Int) :
    Pil (w.setCell ⟨g, i, none⟩ (.int .u64 x)) b o (.slice (some ⟨g, 0, none⟩) n cap) kv (xs.set i x) ks ∧ PStp b o w (.slice (some ⟨g, 0, none⟩) n cap) kv (w.setCell ⟨g, i, none⟩ (.int .u64 x)) (.slice (some ⟨g, 0, none⟩) n cap) kv := by
  have hs : Only (fun k => k = g) w (w.setCell ⟨g, i, none⟩ (.int .u64 x)) := Only.set w _ rfl
  have hbg : b ≠ g := fun e => h.n0 (by rw [e]; rfl)
  refine ⟨⟨hs.cellS hbg h.c0, hs.cellS hbg h.c1, hs.frozenS h.lt hbg h.f0, hs.frozenS h.lt hbg h.f1, h.row.set i x, h.kin.kept hs fun k hk e => h.n2 k (by rw [e]; rfl) hk, h.n0, h.n1, h.n2⟩, hs.mono fun k hk => Or.inr (Or.inl (by rw [hk]; rfl)), fun j _ _ => ?_, fun k hk => Or.inl hk⟩
  rw [World.cell?_of_block (w := w) (a := ⟨b, j, none⟩) (hs.block b h.lt hbg)]
theorem Kds.slice {v : Value} {ys : List Int} (h : Kds w v ys) (h1 : 0 < ys.length) : ∃ g cap, v = .slice (some ⟨g, 0, none⟩) ys.length cap ∧ ∀ j (hj : j < ys.length), w.cell? ⟨g, j, none⟩ = some (.int .u8 ys[j]) := by
  rcases h.shape with ⟨_, rfl⟩ | ⟨g, cap, rfl, _, _, _, hc⟩
  · cases h1
  · exact ⟨g, cap, rfl, hc⟩
theorem Wds.slice {v : Value} {ys : List Int} (h : Wds w v ys) (h1 : 0 < ys.length) : ∃ g cap, v = .slice (some ⟨g, 0, none⟩) ys.length cap ∧ ys.length ≤ cap ∧ ∀ j (hj : j < ys.length), w.cell? ⟨g, j, none⟩ = some (.int .u64 ys[j]) := by
  rcases h.shape with ⟨_, rfl⟩ | ⟨g, cap, rfl, h1, _, _, hc⟩
  · cases h1
  · exact ⟨g, cap, rfl, h1, hc⟩
end

theorem eql_selfH (p : Nat) (w : World) : (binOp .eql 23 (.pointer (some ⟨p, 0, none⟩)) (.pointer (some ⟨p, 0, none⟩))).run Tryd.prog w = .ok (.bool true) w := by
  obtain ⟨i0, hi⟩ : ∃ i0, Tryd.prog.info? 30 = some i0 := Option.isSome_iff_exists.1 (by kernel_rfl)
  exact run_eql_ptr_same w _ Tryd.underlying23 hi
theorem madeH_yes (p : Nat) (w : World) (c0 : w.cell? ⟨p, 0, none⟩ = some (.pointer (some ⟨p, 0, none⟩))) : Calls Tryd.prog 30 #[.pointer (some ⟨p, 0, none⟩)] w fun e w' => e = .returned (.bool true) ∧ w = w' := by
  have he := eql_selfH p
  go_enter Tryd.func30, Tryd.ntmps30
  go_wp2
  go_ret
  exact ⟨rfl, rfl⟩
theorem madeH_nil (w : World) : Calls Tryd.prog 30 #[.pointer none] w fun e w' => e = .returned (.bool false) ∧ w = w' := by
  go_enter Tryd.func30, Tryd.ntmps30
  go_wp2
  go_ret
  exact ⟨rfl, rfl⟩
theorem madeH_zero (p : Nat) (w : World) (c0 : w.cell? ⟨p, 0, none⟩ = some (.pointer none)) : Calls Tryd.prog 30 #[.pointer (some ⟨p, 0, none⟩)] w fun e w' => e = .returned (.bool false) ∧ w = w' := by
  have he : ∀ w : World, (binOp .eql 23 (.pointer none) (.pointer (some ⟨p, 0, none⟩))).run Tryd.prog w = .ok (.bool false) w := fun w => by
    obtain ⟨i0, hi⟩ : ∃ i0, Tryd.prog.info? 30 = some i0 := Option.isSome_iff_exists.1 (by kernel_rfl)
    have h : ∀ d : Nat, (Op.equalIn (d + 1) 23 (.pointer none) (.pointer (some ⟨p, 0, none⟩))).run Tryd.prog w = .ok false w := fun d => by
      simp [Op.equalIn, run_underlying Tryd.underlying23, sizeOf, typeInfo]
    simp only [binOp]
    simp [Op.equal, Op.maxDepth, h 9999]
  go_enter Tryd.func30, Tryd.ntmps30
  go_wp2
  go_ret
  exact ⟨rfl, rfl⟩
set_option maxHeartbeats 1000000 in
theorem packH_any (k n : Int) (w : World) (ht : WordTab w) (hn0 : -9223372036854775808 ≤ n) (hn1 : n ≤ 9223372036854775807) (hk0 : -9223372036854775808 ≤ k) (hk1 : k ≤ 9223372036854775807) :
    Calls Tryd.prog 45 #[.int .i64 k, .int .i64 n] w fun e w' => e = .returned (.int .u64 (Wd.packW k n)) ∧ Below w.heap.size w w' := by
  have hc := Hid.mk (pack_any k n w ht hn0 hn1 hk0 hk1)
  clear hn0 hn1 hk0 hk1
  go_enter Tryd.func45, Tryd.ntmps45
  go_wp2_with (go_at_call 66; refine hc.out.mono ?_; rintro e w1 ⟨rfl, hb⟩)
  go_ret
  exact ⟨rfl, hb⟩
set_option maxHeartbeats 1000000 in
theorem fitsH_any (hb p bm : Nat) (v : Value) (L : List ByteArray) (M : Nat) (wv kv : Value) (xs ks : List Int) (n : Int) (w : World) (h : Hea w hb p bm v L M wv kv xs ks) (hn0 : 0 ≤ n) (hn1 : n ≤ 1000000) :
    Calls Tryd.prog 31 #[.pointer (some ⟨hb, 0, none⟩), .int .i64 n] w fun e w' => e = .returned (.bool (decide ((xs.length : Int) + n ≤ M))) ∧ Below w.heap.size w w' := by
  have c2 := h.c2
  have c3 := h.pil.c0
  have hm := h.m1
  have hx := h.m0
  have hw : IntKind.i64.wrap ((xs.length : Int) + n) = xs.length + n := wrap_id (by omega) (by omega)
  obtain ⟨a, cap, rfl⟩ := owns_slice h.pil.row
  clear h hm hx
  go_enter Tryd.func31, Tryd.ntmps31
  go_wp2_with (go_quiet (fail))
  go_ret
  exact ⟨rfl, below_drewN (Below.refl _ _) _⟩

set_option maxHeartbeats 2000000 in
set_option maxRecDepth 100000 in
theorem addP_any (b o : Nat) (k : Int) (ys : List Int) (a : Option Addr) (c : Nat) (w : World) (wv kv : Value) (xs ks : List Int) (h : Pil w b o wv kv xs ks) (hl : ks.length = xs.length) (hy : Cel w ys a) (hn : a = none → c = 0) (h1 : 1 ≤ ys.length) (hk : hasL k = true)
    (hm : xs.length + ys.length ≤ 1000000) (ht : WordTab w) (nW : ¬ PMine b wv kv 1) :
    Calls Tryd.prog 46 #[.pointer (some ⟨b, o, none⟩), .int .i64 k, .slice a ys.length c] w fun e w' => ∃ wv' kv', e = .returned (.int .u64 (Wd.packW k xs.length)) ∧ Pil w' b o wv' kv' (xs ++ ys) (ks ++ kbox k ys.length) ∧ PStp b o w wv kv w' wv' kv' := by
  obtain ⟨wv', w1, hr1, hR1, hg1, ha1⟩ := append_words w 25 wv xs ys h.row a c hy hn hm
  obtain ⟨N, hN⟩ : ∃ N, xs.length + ys.length = N := ⟨_, rfl⟩
  have hlN : (xs ++ ys).length = N := by rw [List.length_append]; exact hN
  obtain ⟨ra1, rcap1, e1⟩ := owns_slice hR1
  rw [hlN] at e1
  subst e1
  obtain ⟨hP1, hS1⟩ := h.grow0 hR1 hg1 ha1
  have hc1 : w1.cell? ⟨b, o, none⟩ = some wv := (Only.grown (S := fun k => wv.ownBlock = some k) hg1 fun k hk => hk).cellS h.n0 h.c0
  have hf1 : w1.frozen? ⟨b, o, none⟩ = false := (Only.grown (S := fun k => wv.ownBlock = some k) hg1 fun k hk => hk).frozenS h.lt h.n0 h.f0
  obtain ⟨W1, hW1⟩ : ∃ W1, w1.setCell ⟨b, o, none⟩ (.slice ra1 N rcap1) = W1 := ⟨_, rfl⟩
  rw [hW1] at hP1 hS1
  obtain ⟨kv', w2, hr2, hR2, hg2, ha2⟩ := append_kzeros W1 26 kv ks hP1.kin ys.length (by omega)
  obtain ⟨hP2, hS2⟩ := hP1.grow1 hR2 hg2 ha2
  have hc2 : w2.cell? ⟨b, o + 1, none⟩ = some kv := (Only.grown (S := fun k => kv.ownBlock = some k) hg2 fun k hk => hk).cellS hP1.n1 hP1.c1
  have hf2 : w2.frozen? ⟨b, o + 1, none⟩ = false := (Only.grown (S := fun k => kv.ownBlock = some k) hg2 fun k hk => hk).frozenS hP1.lt hP1.n1 hP1.f1
  have hln : (ks ++ List.replicate ys.length 0).length = N := by rw [List.length_append, List.length_replicate, hl]; exact hN
  obtain ⟨g2, cap2, e2, hcells⟩ := hR2.slice (by omega)
  rw [hln] at e2
  subst e2
  obtain ⟨W2, hW2⟩ : ∃ W2, w2.setCell ⟨b, o + 1, none⟩ (.slice (some ⟨g2, 0, none⟩) N cap2) = W2 := ⟨_, rfl⟩
  rw [hW2] at hP2 hS2
  obtain ⟨hP3, hS3⟩ := hP2.kset xs.length k
  have hk3 : (ks ++ List.replicate ys.length 0).set xs.length k = ks ++ kbox k ys.length := by
    rw [List.set_append_right _ _ (by omega), show xs.length - ks.length = 0 by omega, kbox]
    obtain ⟨m, hm'⟩ : ∃ m, ys.length = m + 1 := ⟨ys.length - 1, by omega⟩
    rw [hm', List.replicate_succ, List.set_cons_zero, Nat.add_sub_cancel]
  rw [hk3] at hP3
  have hS := Hid.mk ((hS1.trans hS2).trans hS3)
  have hP := Hid.mk hP3
  have hW3 := Hid.mk (ht.kept hS.out.only nW)
  have hpk := Hid.mk (packH_any k xs.length _ hW3.out (by omega) (by omega) (by rw [hasL_iff] at hk; omega) (by rw [hasL_iff] at hk; omega))
  have hcv : IntKind.u8.wrap k = k := by rw [hasL_iff] at hk; rcases hk with rfl | rfl | rfl <;> rfl
  have hfz : W2.frozen? ⟨g2, xs.length, none⟩ = false := hP2.kin.frozen _
  have hcz : ∃ u, W2.cell? ⟨g2, xs.length, none⟩ = some u := by
    rcases hP2.kin.shape with ⟨e, _⟩ | ⟨g', cap', e, _, _, _, hc⟩
    · cases e
    · simp only [Value.slice.injEq, Option.some.injEq, Addr.mk.injEq] at e
      obtain ⟨⟨rfl, _⟩, _⟩ := e
      exact ⟨_, hc xs.length (by rw [hln]; omega)⟩
  obtain ⟨u, hcz⟩ := hcz
  have hx0 := h.c0
  have hw1c := hP1.c1
  have hw2c := hP2.c1
  obtain ⟨ra, rcap, rfl⟩ := owns_slice h.row
  have hlx : xs.length < N := by omega
  have hlx2 : (xs.length : Int) < N := by omega
  clear hP1 hP2 hP3 hS1 hS2 hS3 h hR1 hg1 ha1 hR2 hg2 ha2 hl hy hn hm ht nW hk3 hln hcells hW3 hN hlN h1 hk
  go_enter Tryd.func46, Tryd.ntmps46
  go_wp2_with (first
    | (at_builtin; refine Lib.wpList_append_run _ rfl _ _ _ _ rfl _ _ rfl rfl _ _ hr1 ?_)
    | (at_builtin; refine Lib.wpList_append_run _ rfl _ _ _ _ rfl _ _ rfl rfl _ _ hr2 ?_)
    | (go_at_call 45; refine hpk.out.mono ?_; rintro e w3 ⟨rfl, hb3⟩))
  go_ret
  exact ⟨_, _, rfl, hP.out.up hb3, hS.out.trans (PStp.up hb3 hP.out.lt)⟩
end Go.Proofs.YtaiiicmldogjoaaDoor

/-
  What a heap tells of a word: its box, its parts, the bare term.
-/
namespace Go.Proofs.YtaiiicmldogjoaaDoor
open Go.RowKit Go.Deep Go.Maps Go.WideShapes

/-- A slice of a heap's words. -/
structure Sl (w : World) (zs : List Int) (a : Option Addr) (cap : Nat) (g : Option Nat) : Prop where
  cel : Cel w zs a
  nil : a = none → cap = 0
  len : zs.length ≤ cap
  own : ∀ ad, a = some ad → g = some ad.block
theorem Sl.up {w w' : World} {zs : List Int} {a : Option Addr} {cap : Nat} {g : Option Nat} (h : Sl w zs a cap g) (hb : Below w.heap.size w w') : Sl w' zs a cap g := ⟨h.cel.up hb, h.nil, h.len, h.own⟩
theorem Sl.none (w : World) (g : Option Nat) : Sl w [] Option.none 0 g := ⟨fun h => (by cases h), fun _ => rfl, Nat.le_refl _, fun _ h => (by cases h)⟩

/-- What is told as the words at a place of a heap's row. -/
structure BoxR (w w' : World) (wv : Value) (zs : List Int) (a : Option Addr) (cap q : Nat) : Prop where
  sl : Sl w' zs a cap wv.ownBlock
  at_ : ∃ g m cap0, wv = .slice (some ⟨g, 0, none⟩) m cap0 ∧ a = some ⟨g, q, none⟩
  below : Below w.heap.size w w'
/-- The cells of a box. -/
theorem Bx.cells {xs ks : List Int} {k n : Int} {p : Nat} {ys : List Int} (h : Bx xs ks k n p ys) {w : World} {g : Nat} (hc : ∀ j (hj : j < xs.length), w.cell? ⟨g, j, none⟩ = some (.int .u64 xs[j])) :
    ∀ j (hj : j < (leadW k n ys.length ++ ys).length), w.cell? ⟨g, p + j, none⟩ = some (.int .u64 (leadW k n ys.length ++ ys)[j]) := by
  intro j hj
  obtain ⟨rest, e⟩ := h.at_
  have hl := h.lt.1
  rw [List.length_append] at hj
  rw [hc (p + j) (by omega)]
  have h1 : (xs.drop p)[j]? = (leadW k n ys.length ++ ys ++ rest)[j]? := by rw [e]
  rw [List.getElem?_drop, List.getElem?_append_left (by rw [List.length_append]; exact hj), List.getElem?_eq_getElem (by omega), List.getElem?_eq_getElem (by rw [List.length_append]; exact hj)] at h1
  rw [Option.some.inj h1]

set_option maxHeartbeats 1000000 in
theorem box_plain (hb : Nat) (x : Int) (w : World) (h0 : 0 ≤ x) (h1 : x < 18446744073709551616) (hx : Wd.boxedB x = false) :
    Calls Tryd.prog 47 #[.pointer (some ⟨hb, 0, none⟩), .int .u64 x] w fun e w' => e = .returned (.slice none 0 0) ∧ w = w' := by
  have hc := Hid.mk (boxed_any x w h0 h1)
  rw [hx] at hc
  clear hx h0 h1
  go_enter Tryd.func47, Tryd.ntmps47
  go_wp2_with (go_at_call 43; refine hc.out.mono ?_; rintro e w1 ⟨rfl, rfl⟩)
  go_ret
  exact ⟨rfl, rfl⟩

set_option maxHeartbeats 2000000 in
set_option maxRecDepth 100000 in
theorem box_boxed (hb p bm : Nat) (v : Value) (L : List ByteArray) (M : Nat) (wv kv : Value) (xs ks : List Int) (x k n : Int) (q : Nat) (ys : List Int) (w : World) (h : Hea w hb p bm v L M wv kv xs ks) (hx : Pk x k q) (hB : Bx xs ks k n q ys) :
    Calls Tryd.prog 47 #[.pointer (some ⟨hb, 0, none⟩), .int .u64 x] w fun e w' => ∃ a cap, e = .returned (.slice a (leadW k n ys.length ++ ys).length cap) ∧ BoxR w w' wv (leadW k n ys.length ++ ys) a cap q := by
  obtain ⟨f1, f2, f3, f4, f5, f6, f7, f8⟩ := hx.facts
  have hlt := hB.lt.1
  have hfl := fit_len hB.has hB.fit
  obtain ⟨g, cap0, rfl, hcap, hc⟩ := h.pil.row.slice (by omega)
  have c3 := h.pil.c0
  have hcl := hB.cells hc
  have hm1 := h.m1
  have hm0 := h.m0
  have hk := hB.has
  rw [hasL_iff] at hk
  have hbx := Hid.mk (boxed_any x w f7 f8)
  rw [hx.boxed, hB.has] at hbx
  have hun := Hid.mk (fun (W : World) (ht : WordTab W) => unpack_any x W ht f7 f8)
  rw [f4, f5, f6] at hun
  have hT := Hid.mk h.wt
  obtain ⟨m, hm⟩ : ∃ m, (leadW k n ys.length ++ ys).length = m := ⟨_, rfl⟩
  have hml : (leadW k n ys.length ++ ys).length = (leadW k n ys.length).length + ys.length := List.length_append
  rw [hm] at hml
  have hSl : Hid (∀ w', Below w.heap.size w w' → Sl w' (leadW k n ys.length ++ ys) (some ⟨g, q, none⟩) (cap0 - q) (Value.slice (some ⟨g, 0, none⟩) xs.length cap0).ownBlock) := Hid.mk fun w' hb' =>
    ⟨fun _ => ⟨g, q, rfl, fun j hj => cell_below hb' _ _ _ (hcl j hj)⟩, fun e => (by cases e), (by rw [hm]; omega), fun ad e => (by cases e; rfl)⟩
  by_cases h9 : k = 9
  · subst h9
    have hm2 : m = 2 := by
      have := hB.fit
      simp only [fitB, decide_eq_true_eq] at this
      rw [leadW, if_neg (by omega), if_neg (by omega)] at hml
      simp only [List.length_nil] at hml
      omega
    rw [hm] at *
    subst hm2
    have hw : IntKind.i64.wrap ((q : Int) + 2) = ((q + 2 : Nat) : Int) := by rw [wrap_id (by omega) (by omega)]; omega
    have e1 : q ≤ q + 2 := by omega
    have e2 : q + 2 ≤ cap0 := by omega
    have e3 : q + 2 - q = 2 := by omega
    clear hx hB h hcl hc f1 f2 f3 f4 f5 f6 hm1 hm0 hk hfl f7 f8 hml
    go_enter Tryd.func47, Tryd.ntmps47
    go_wp2_with (first
      | (go_at_call 43; refine hbx.out.mono ?_; rintro e w1 ⟨rfl, rfl⟩)
      | (go_at_call 44; refine (hun.out _ hT.out).mono ?_; rintro e w1 ⟨rfl, hb1⟩; have c3 := cell_below hb1 _ _ _ c3))
    go_ret
    exact ⟨_, cap0 - q, (by show Ending.returned (Value.slice (some ⟨g, q, none⟩) (q + 2 - q) (cap0 - q)) = _; rw [e3]), hSl.out _ hb1, ⟨g, _, cap0, rfl, rfl⟩, hb1⟩
  · obtain ⟨x0, hx0, hn0, _, _, _, _, b0, b1, b2, _⟩ := head_num hB.has hB.fit h9
    rw [hx0, List.length_singleton] at hml hlt
    have hc5 : w.cell? ⟨g, q, none⟩ = some (.int .u64 x0) := by
      have hc0 := hcl 0 (by omega)
      simp only [hx0, List.singleton_append, List.getElem_cons_zero, Nat.add_zero] at hc0
      exact hc0
    have hun2 := Hid.mk (fun (W : World) (ht : WordTab W) => unpack_any x0 W ht b0 b1)
    have hrem : (Wd.unN x0).tmod 128 = ys.length := by rw [Int.tmod_eq_emod_of_nonneg b2]; exact hn0
    rw [hm] at *
    subst hml
    have hw0 : IntKind.i64.wrap (1 + (ys.length : Int)) = ((1 + ys.length : Nat) : Int) := by rw [wrap_id (by omega) (by omega)]; omega
    have hw : IntKind.i64.wrap ((q : Int) + ((1 + ys.length : Nat) : Int)) = ((q + (1 + ys.length) : Nat) : Int) := by rw [wrap_id (by omega) (by omega)]; omega
    have e1 : q ≤ q + (1 + ys.length) := by omega
    have e2 : q + (1 + ys.length) ≤ cap0 := by omega
    have e3 : q + (1 + ys.length) - q = 1 + ys.length := by omega
    have e4 : q < xs.length := by omega
    have e5 : (q : Int) < xs.length := by omega
    have e6 : ¬ cap0 - q = 0 := by omega
    have e7 : ¬ cap0 = q := by omega
    have e8 : ¬ q = cap0 := by omega
    have e9 : ¬ cap0 ≤ q := by omega
    clear hx hB h hcl hc f1 f2 f3 f4 f5 f6 hm1 hm0 hk hfl f7 f8 hm hlt hcap hx0 hn0 b0 b1 b2
    generalize hN : 1 + ys.length = N at *
    generalize leadW k n ys.length ++ ys = zs at *
    clear hN
    go_enter Tryd.func47, Tryd.ntmps47
    go_wp2_with (first
      | (go_at_call 43; refine hbx.out.mono ?_; rintro e w1 ⟨rfl, rfl⟩)
      | (go_at_call 44; refine (hun2.out _ (hT.out.below hb1)).mono ?_; rintro e w2 ⟨rfl, hb2⟩; have c3 := cell_below hb2 _ _ _ c3)
      | (go_at_call 44; refine (hun.out _ hT.out).mono ?_; rintro e w1 ⟨rfl, hb1⟩; have c3 := cell_below hb1 _ _ _ c3; have hc5 := cell_below hb1 _ _ _ hc5))
    all_goals go_ret
    all_goals exact ⟨_, cap0 - q, rfl, hSl.out _ (hb1.trans (hb2.mono hb1.size)), ⟨g, _, cap0, rfl, rfl⟩, hb1.trans (hb2.mono hb1.size)⟩

set_option maxHeartbeats 1000000 in
theorem parts_plain (hb : Nat) (x : Int) (w : World) (h0 : 0 ≤ x) (h1 : x < 18446744073709551616) (hx : Wd.boxedB x = false) :
    Calls Tryd.prog 40 #[.pointer (some ⟨hb, 0, none⟩), .int .u64 x] w fun e w' => e = .returned (.slice none 0 0) ∧ w = w' := by
  have hc := Hid.mk (box_plain hb x w h0 h1 hx)
  have hk := Hid.mk (kind_any x w h0 h1)
  have h7 : ¬ Wd.kd x = 7 := fun e => by rw [Wd.kd] at e; simp only [Wd.boxedB, decide_eq_false_iff_not] at hx; omega
  have h5 : ¬ Wd.kd x = 5 := fun e => by rw [Wd.kd] at e; simp only [Wd.boxedB, decide_eq_false_iff_not] at hx; omega
  clear hx h0 h1
  go_enter Tryd.func40, Tryd.ntmps40
  go_wp2_with (first
    | (go_at_call 47; refine hc.out.mono ?_; rintro e w1 ⟨rfl, rfl⟩)
    | (go_at_call 63; refine hk.out.mono ?_; rintro e w1 ⟨rfl, rfl⟩))
  go_ret
  exact ⟨rfl, rfl⟩

set_option maxHeartbeats 2000000 in
set_option maxRecDepth 100000 in
theorem parts_boxed (hb p bm : Nat) (v : Value) (L : List ByteArray) (M : Nat) (wv kv : Value) (xs ks : List Int) (x k n : Int) (q : Nat) (ys : List Int) (w : World) (h : Hea w hb p bm v L M wv kv xs ks) (hx : Pk x k q) (hB : Bx xs ks k n q ys) :
    Calls Tryd.prog 40 #[.pointer (some ⟨hb, 0, none⟩), .int .u64 x] w fun e w' => ∃ a cap, e = .returned (.slice a ys.length cap) ∧ Sl w' ys a cap wv.ownBlock ∧ Below w.heap.size w w' := by
  obtain ⟨f1, f2, f3, f4, f5, f6, f7, f8⟩ := hx.facts
  have hc := Hid.mk (box_boxed hb p bm v L M wv kv xs ks x k n q ys w h hx hB)
  have hkd := Hid.mk (fun W => kind_any x W f7 f8)
  rw [f1] at hkd
  have hk := hB.has
  rw [hasL_iff] at hk
  by_cases h9 : k = 9
  · subst h9
    have e1 : leadW 9 n ys.length ++ ys = ys := by rw [leadW, if_neg (by omega), if_neg (by omega)]; rfl
    rw [e1] at hc
    clear h hx hB f1 f2 f3 f4 f5 f6 f7 f8 hk e1
    go_enter Tryd.func40, Tryd.ntmps40
    go_wp2_with (first
      | (go_at_call 47; refine hc.out.mono ?_; rintro e w1 ⟨a, cap, rfl, hr⟩; have HR := Hid.mk hr; clear hr)
      | (go_at_call 63; refine (hkd.out _).mono ?_; rintro e w1 ⟨rfl, rfl⟩))
    go_ret
    exact ⟨a, cap, rfl, HR.out.sl, HR.out.below⟩
  · obtain ⟨x0, hx0, _⟩ := head_num hB.has hB.fit h9
    rw [hx0, show [x0] ++ ys = x0 :: ys from rfl, List.length_cons] at hc
    have hk2 : k = 5 ∨ k = 7 := by omega
    clear h hx hB f1 f2 f3 f4 f5 f6 f7 f8 hk hx0 h9
    have e3 : ys.length + 1 - 1 = ys.length := rfl
    have fin : ∀ (a' : Option Addr) (cap' : Nat) (w1 : World) (a : Option Addr) (cap : Nat), BoxR w w1 wv (x0 :: ys) a cap q → (a' = a ∧ cap' = 0 ∧ cap = 1 ∨ (∃ g j, a = some ⟨g, j, none⟩ ∧ a' = some ⟨g, j + 1, none⟩ ∧ cap' = cap - 1)) → Sl w1 ys a' cap' wv.ownBlock := by
      intro a' cap' w1 a cap hr ha
      have hlen := hr.sl.len
      simp only [List.length_cons] at hlen
      rcases ha with ⟨rfl, rfl, h1⟩ | ⟨g, j, rfl, rfl, rfl⟩
      · have : ys = [] := List.eq_nil_of_length_eq_zero (by omega)
        subst this
        exact ⟨fun h => (by cases h), fun _ => rfl, Nat.le_refl _, hr.sl.own⟩
      · refine ⟨fun h0 => ?_, fun e => (by cases e), (by omega), fun ad e => (by cases e; exact hr.sl.own ⟨g, j, Option.none⟩ rfl)⟩
        obtain ⟨b, o, e, hc⟩ := hr.sl.cel (by simp)
        cases e
        refine ⟨g, j + 1, rfl, fun i hi => ?_⟩
        have := hc (i + 1) (by simpa using hi)
        rw [show j + (i + 1) = j + 1 + i by omega] at this
        simpa using this
    have FIN := Hid.mk fin
    clear fin
    rcases hk2 with rfl | rfl
    all_goals
      go_enter Tryd.func40, Tryd.ntmps40
      go_wp2_with (first
        | (go_at_call 47; refine hc.out.mono ?_; rintro e w1 ⟨a, cap, rfl, hr⟩; obtain ⟨g, m, cap0, hwv, rfl⟩ := hr.at_; have hlen := hr.sl.len; rw [List.length_cons] at hlen; have e1 : 1 ≤ cap := (by omega); have HR := Hid.mk hr; clear hr hwv)
        | (go_at_call 63; refine (hkd.out _).mono ?_; rintro e w1 ⟨rfl, rfl⟩))
    all_goals go_ret
    all_goals exact ⟨_, _, rfl, FIN.out _ _ _ _ _ HR.out (by first | exact Or.inl ⟨rfl, rfl, by omega⟩ | exact Or.inr ⟨g, q, rfl, rfl, rfl⟩), HR.out.below⟩
end Go.Proofs.YtaiiicmldogjoaaDoor

/-
  The bare term of a word; which words may be.
-/
namespace Go.Proofs.YtaiiicmldogjoaaDoor
open Go.RowKit Go.Deep Go.Maps Go.WideShapes

/-- Returns a term that has just been stored into the result's box. -/
theorem den_str {L : List ByteArray} {xs ks : List Int} {k n : Int} {s : ByteArray} {l : List Tm} {w : Int} (h : Den L xs ks (.mk k n s l) w) (hk : k ≠ 2) : s = ⟨#[]⟩ := by
  rw [den_mk] at h
  have := h.1
  simp only [fitB, decide_eq_true_eq] at this
  exact size_empty0 (by omega)
set_option maxHeartbeats 2000000 in
set_option maxRecDepth 100000 in
theorem bare_any (hb p bm : Nat) (v : Value) (L : List ByteArray) (M : Nat) (wv kv : Value) (xs ks : List Int) (x k n : Int) (s : ByteArray) (l : List Tm) (w : World) (h : Hea w hb p bm v L M wv kv xs ks) (hd : Den L xs ks (.mk k n s l) x) :
    Calls Tryd.prog 62 #[.pointer (some ⟨hb, 0, none⟩), .int .u64 x] w fun e w' => e = .returned (.agg #[.int .i64 k, .int .i64 n, .string s, .slice none 0 0]) ∧ Below w.heap.size w w' := by
  obtain ⟨m, hpk, hk0, hk1⟩ := den_pk hd
  obtain ⟨f1, f2, f3, f4, f5, f6, f7, f8⟩ := hpk.facts
  have hun := Hid.mk (fun (W : World) (ht : WordTab W) => unpack_any x W ht f7 f8)
  rw [f4, f5, f6] at hun
  obtain ⟨W0, hW0⟩ : ∃ W0, w.alloc (.cells #[.int .i64 0, .int .i64 0, .string ⟨#[]⟩, .slice none 0 0] 42) = W0 := ⟨_, rfl⟩
  have hb0 : Below w.heap.size w W0 := by rw [← hW0]; exact (Below.refl _ _).alloc (Nat.le_refl _) _
  have hbx : W0.heap[w.heap.size]? = some (.cells #[.int .i64 0, .int .i64 0, .string ⟨#[]⟩, .slice none 0 0] 42) := by rw [← hW0]; exact new_block _ _
  have hT := Hid.mk (h.wt.below hb0)
  have HB0 := Hid.mk hb0
  have hH := Hid.mk (h.up hb0)
  obtain ⟨⟨q0, q1, q2, q3⟩, r0, r1, r2, r3⟩ := kept4 hbx (Below.refl _ _)
  have HBX := Hid.mk hbx
  have fin : Hid (∀ (w1 : World) (v0 v1 v2 v3 : Value), Below W0.heap.size W0 w1 → Below w.heap.size w ((((w1.setCell ⟨w.heap.size, 0, none⟩ v0).setCell ⟨w.heap.size, 1, none⟩ v1).setCell ⟨w.heap.size, 2, none⟩ v2).setCell ⟨w.heap.size, 3, none⟩ v3)) :=
    Hid.mk fun w1 v0 v1 v2 v3 hb1 => Below.set4 (hb0.trans (hb1.mono hb0.size)) (Nat.le_refl _)
  have c1 := hH.out.c1
  have c3 := hH.out.pil.c0
  have HD := Hid.mk hd
  clear hb0 hbx h hd
  by_cases h2 : k = 2
  · subst h2
    have hd := HD.out
    rw [den_mk, if_neg (by simp [hasL]), if_pos rfl] at hd
    obtain ⟨hf, i, hi, hi2, hxe⟩ := hd
    have hn0 : n = 0 := by simp only [fitB, decide_eq_true_eq] at hf; omega
    subst hn0
    have hm : m = i := by
      have hh : Pk x 2 i := ⟨hxe, by rw [Wd.okB_iff]; simp [Wd.lo, Wd.hi]; omega⟩
      exact f2.symm.trans hh.facts.2.1
    subst hm
    obtain ⟨hlt, hs⟩ := List.getElem?_eq_some_iff.1 hi
    have hnm : ∀ W, Tab W p bm v L → Calls Tryd.prog 48 #[.pointer (some ⟨p, 0, none⟩), .int .i64 i] W (fun e w' => e = .returned (.tuple #[.string s, .int .i64 0]) ∧ Below W.heap.size W w') := fun W hW =>
      (name_any p bm v L i W hW).mono fun e w' hh => by
        rcases hh with ⟨⟨j, hj, e1, e2⟩ | ⟨h1, _⟩, hb'⟩
        · have : i = j := by omega
          subst this
          rw [hs] at e2
          exact ⟨e2, hb'⟩
        · omega
    have HN := Hid.mk hnm
    clear HD hf hi hi2 hxe hlt hs hnm f1 f2 f3 f4 f5 f6 f7 f8 hpk hk0 hk1
    go_enter Tryd.func62, Tryd.ntmps62
    go_upto_region 1 with fail
    try rw [hW0]
    clear hW0
    go_wp2_with (first
      | (go_at_call 44; refine (hun.out _ hT.out).mono ?_; rintro e w1 ⟨rfl, hb1⟩; have c1 := cell_below hb1 _ _ _ c1; have HB1 := Hid.mk hb1; clear hb1)
      | (go_at_call 48; refine (HN.out _ (hH.out.up HB1.out).tab).mono ?_; rintro e w2 ⟨rfl, hb2⟩; obtain ⟨⟨q0, q1, q2, q3⟩, r0, r1, r2, r3⟩ := kept4 HBX.out (HB1.out.trans (hb2.mono HB1.out.size)); have HB2 := Hid.mk (HB1.out.trans (hb2.mono HB1.out.size)); clear hb2))
    exact ret_stored rfl rfl rfl q0 q1 q2 q3 ⟨rfl, fin.out _ _ _ _ _ HB2.out⟩
  · have hs := den_str HD.out h2
    subst hs
    by_cases h5 : k = 5
    · subst h5
      have hd := HD.out
      rw [den_mk, if_pos (by simp [hasL])] at hd
      obtain ⟨hf, q, ys, hxe, hq, hB, hds⟩ := hd
      have hm : m = q := by
        rw [hxe] at f2
        exact f2.symm.trans (pk_place (by simp [hasL]) hq : Pk (Wd.packW 5 q) 5 q).facts.2.1
      subst hm
      obtain ⟨x0, hx0, _, hu, hdiv, _, _, b0, b1, b2, _⟩ := head_num hB.has hB.fit (by decide)
      have hl := hB.lt.1
      have hl2 := fit_len hB.has hB.fit
      have hcs : ∃ g cap0, wv = .slice (some ⟨g, 0, none⟩) xs.length cap0 ∧ W0.cell? ⟨g, q, none⟩ = some (.int .u64 x0) := by
        obtain ⟨g, cap0, rfl, hcap, hc⟩ := hH.out.pil.row.slice (by omega)
        refine ⟨g, cap0, rfl, ?_⟩
        have hc0 := hB.cells hc 0 (by rw [List.length_append]; omega)
        simp only [hx0, List.singleton_append, List.getElem_cons_zero, Nat.add_zero] at hc0
        exact hc0
      obtain ⟨g, cap0, rfl, c5⟩ := hcs
      have hun2 := Hid.mk (fun (W : World) (ht : WordTab W) => unpack_any x0 W ht b0 b1)
      have hquo : (Wd.unN x0).tdiv 128 = n := by rw [Int.tdiv_eq_ediv_of_nonneg b2]; exact hdiv
      have hwn : wrap64 n = n := by unfold wrap64; omega
      have e4 : q < xs.length := by omega
      have e5 : (q : Int) < xs.length := by omega
      clear HD hf hxe hq hB hds f1 f2 f3 f4 f5 f6 f7 f8 hpk hk0 hk1 hx0 hu hdiv b0 b1 b2 hl hl2 h2
      go_enter Tryd.func62, Tryd.ntmps62
      go_upto_region 1 with fail
      try rw [hW0]
      clear hW0
      go_wp2_with (first
        | (go_at_call 44; refine (hun2.out _ (hT.out.below HB1.out)).mono ?_; rintro e w2 ⟨rfl, hb2⟩; obtain ⟨⟨q0, q1, q2, q3⟩, r0, r1, r2, r3⟩ := kept4 HBX.out (HB1.out.trans (hb2.mono HB1.out.size)); have HB2 := Hid.mk (HB1.out.trans (hb2.mono HB1.out.size)); clear hb2)
        | (go_at_call 44; refine (hun.out _ hT.out).mono ?_; rintro e w1 ⟨rfl, hb1⟩; have c3 := cell_below hb1 _ _ _ c3; have c5 := cell_below hb1 _ _ _ c5; have HB1 := Hid.mk hb1; clear hb1))
      exact ret_stored rfl rfl rfl q0 q1 q2 q3 ⟨rfl, fin.out _ _ _ _ _ HB2.out⟩
    · by_cases h79 : k = 7 ∨ k = 9
      · have hn0 : n = 0 := by
          have hd := HD.out
          rw [den_mk] at hd
          have := hd.1
          simp only [fitB, decide_eq_true_eq] at this
          omega
        subst hn0
        clear HD f1 f2 f3 f4 f5 f6 f7 f8 hpk hk0 hk1 h2 h5
        rcases h79 with rfl | rfl
        all_goals
          go_enter Tryd.func62, Tryd.ntmps62
          go_upto_region 1 with fail
          try rw [hW0]
          clear hW0
          go_wp2_with (go_at_call 44; refine (hun.out _ hT.out).mono ?_; rintro e w1 ⟨rfl, hb1⟩; obtain ⟨⟨q0, q1, q2, q3⟩, r0, r1, r2, r3⟩ := kept4 HBX.out hb1; have HB1 := Hid.mk hb1; clear hb1)
          exact ret_stored rfl rfl rfl q0 q1 q2 q3 ⟨rfl, fin.out _ _ _ _ _ HB1.out⟩
      · have hd := HD.out
        rw [den_mk, if_neg (by rw [hasL_iff]; omega), if_neg h2] at hd
        have hm : m = n := by
          have hok : Wd.okB k n = true := by
            have := hd.1
            simp only [fitB, decide_eq_true_eq] at this
            rw [Wd.okB_iff]
            have h8 : k = 1 ∨ k = 3 ∨ k = 4 ∨ k = 6 ∨ k = 8 := by omega
            rcases h8 with rfl | rfl | rfl | rfl | rfl <;> (simp [Wd.lo, Wd.hi]; omega)
          exact f2.symm.trans (⟨hd.2, hok⟩ : Pk x k n).facts.2.1
        subst hm
        have h7 : ¬ k = 7 := fun e => h79 (Or.inl e)
        have h9 : ¬ k = 9 := fun e => h79 (Or.inr e)
        clear HD f1 f2 f3 f4 f5 f6 f7 f8 hpk hk0 hk1 h79 hd
        go_enter Tryd.func62, Tryd.ntmps62
        go_upto_region 1 with fail
        try rw [hW0]
        clear hW0
        go_wp2_with (go_at_call 44; refine (hun.out _ hT.out).mono ?_; rintro e w1 ⟨rfl, hb1⟩; obtain ⟨⟨q0, q1, q2, q3⟩, r0, r1, r2, r3⟩ := kept4 HBX.out hb1; have HB1 := Hid.mk hb1; clear hb1)
        exact ret_stored rfl rfl rfl q0 q1 q2 q3 ⟨rfl, fin.out _ _ _ _ _ HB1.out⟩

/-- May a word be, of a heap's kinds and a table's texts? -/
def mayB (L : List ByteArray) (ks : List Int) (x : Int) : Bool :=
  Wd.unB x && (if Wd.kd x = 2 then decide (Wd.nm x < L.length) else if hasL (Wd.kd x) = true then decide (ks[plc x]? = some (Wd.kd x)) else decide (Wd.kd x = 1 ∨ Wd.kd x = 3 ∨ Wd.kd x = 4 ∨ Wd.kd x = 6 ∨ Wd.kd x = 8))
theorem unB_bd {x : Int} (h : Wd.unB x = true) : 0 ≤ Wd.kd x ∧ Wd.kd x < 12 ∧ Wd.lo (Wd.kd x) ≤ Wd.nm x ∧ Wd.nm x ≤ Wd.hi (Wd.kd x) := by
  rw [Wd.unB, Wd.okB_iff] at h
  exact ⟨h.1, h.2.1, h.2.2.1, h.2.2.2.1⟩
theorem den_may {L : List ByteArray} {xs ks : List Int} {T : Tm} {x : Int} (h : Den L xs ks T x) : mayB L ks x = true := by
  cases T with
  | mk k n s l =>
    obtain ⟨m, hpk, _⟩ := den_pk h
    obtain ⟨f1, f2, f3, _⟩ := hpk.facts
    rw [mayB, f3, Bool.true_and, f1]
    by_cases h2 : k = 2
    · subst h2
      rw [den_mk, if_neg (by simp [hasL]), if_pos rfl] at h
      obtain ⟨_, i, hi, hi2, hxe⟩ := h
      have hh : Pk x 2 i := ⟨hxe, by rw [Wd.okB_iff]; simp [Wd.lo, Wd.hi]; omega⟩
      have := (List.getElem?_eq_some_iff.1 hi).1
      rw [if_pos rfl, hh.facts.2.1, decide_eq_true_eq]
      omega
    · rw [if_neg h2]
      by_cases hk : hasL k = true
      · rw [if_pos hk]
        obtain ⟨k', n', s', l', ys, e, hw, hp, hx, _⟩ := den_box h (by rw [hpk.boxed]; exact hk)
        cases e
        rw [hx.kind, decide_eq_true_eq]
      · rw [if_neg hk, decide_eq_true_eq]
        have := h
        rw [den_mk] at this
        have := this.1
        simp only [fitB, decide_eq_true_eq] at this
        rw [hasL_iff] at hk
        omega
theorem Wf.rng {xs ks : List Int} (h : Wf xs ks) : ∀ (p : Nat) (k : Int), ks[p]? = some k → 0 ≤ k ∧ k ≤ 9 := by
  intro p k hp
  by_cases hk : k = 0
  · omega
  · obtain ⟨n, ys, hb⟩ := h.bx p k hp hk
    have := hb.has
    rw [hasL_iff] at this
    omega

set_option maxHeartbeats 4000000 in
set_option maxRecDepth 100000 in
theorem may_any9 (hb p bm : Nat) (v : Value) (L : List ByteArray) (M : Nat) (wv kv : Value) (xs ks : List Int) (x : Int) (w : World) (h : Hea w hb p bm v L M wv kv xs ks) (hwf : Wf xs ks) (h0 : 0 ≤ x) (h1 : x < 18446744073709551616) :
    Calls Tryd.prog 36 #[.pointer (some ⟨hb, 0, none⟩), .int .u64 x] w fun e w' => e = .returned (.bool (mayB L ks x)) ∧ Below w.heap.size w w' := by
  have hun := Hid.mk (unpack_any x w h.wt h0 h1)
  have hH := Hid.mk h
  by_cases hu : Wd.unB x = true
  case neg =>
    have e1 : mayB L ks x = false := by rw [mayB, Bool.eq_false_iff.2 hu]; rfl
    have e2 : Wd.unE x = 4 := by rw [Wd.unE, if_neg hu]
    rw [e2] at hun
    rw [e1]
    clear h hwf h0 h1 hu e1 e2
    go_enter Tryd.func36, Tryd.ntmps36
    go_wp2_with (go_at_call 44; refine hun.out.mono ?_; rintro e w1 ⟨rfl, hb1⟩)
    go_ret
    exact ⟨rfl, hb1⟩
  case pos =>
    have hbd := unB_bd hu
    have eK : Wd.unK x = Wd.kd x := by rw [Wd.unK, if_pos hu]
    have eN : Wd.unN x = Wd.nm x := by rw [Wd.unN, if_pos hu]
    have eE : Wd.unE x = 0 := by rw [Wd.unE, if_pos hu]
    have em : mayB L ks x = (if Wd.kd x = 2 then decide (Wd.nm x < L.length) else if hasL (Wd.kd x) = true then decide (ks[plc x]? = some (Wd.kd x)) else decide (Wd.kd x = 1 ∨ Wd.kd x = 3 ∨ Wd.kd x = 4 ∨ Wd.kd x = 6 ∨ Wd.kd x = 8)) := by rw [mayB, hu]; rfl
    rw [eK, eN, eE] at hun
    have epl : plc x = (Wd.nm x).toNat := rfl
    rw [em, epl]
    clear eK eN eE em epl hu h0 h1 h
    generalize Wd.kd x = k at *
    generalize Wd.nm x = m at *
    have c1 := hH.out.c1
    have c4 : w.cell? ⟨hb, 4, none⟩ = some kv := hH.out.pil.c1
    by_cases h2 : k = 2
    · subst h2
      rw [if_pos rfl]
      clear hbd hwf
      go_enter Tryd.func36, Tryd.ntmps36
      go_wp2_with (first
        | (go_at_call 44; refine hun.out.mono ?_; rintro e w1 ⟨rfl, hb1⟩; have c1 := cell_below hb1 _ _ _ c1; have HB1 := Hid.mk hb1; clear hb1)
        | (go_at_call 60; refine (len_any _ _ _ _ _ (hH.out.up HB1.out).tab).mono ?_; rintro e w2 ⟨rfl, rfl⟩))
      go_ret
      exact ⟨rfl, HB1.out⟩
    · rw [if_neg h2]
      by_cases hk : hasL k = true
      · rw [if_pos hk]
        have hk3 : k = 5 ∨ k = 7 ∨ k = 9 := (hasL_iff k).1 hk
        have hm : 0 ≤ m ∧ m ≤ 1073741824 := by
          have hlo := hbd.2.2.1
          have hhi := hbd.2.2.2
          rcases hk3 with rfl | rfl | rfl <;> (simp [Wd.lo, Wd.hi] at hlo hhi; omega)
        obtain ⟨q, rfl⟩ := Int.eq_ofNat_of_zero_le hm.1
        rw [Int.toNat_natCast]
        have hln := hH.out.len
        have hm0 := hH.out.m0
        have hm1 := hH.out.m1
        by_cases hq : q < ks.length
        · obtain ⟨g, cap, rfl, hc⟩ := hH.out.pil.kin.slice (by omega)
          have c5 := hc q hq
          have hr := hwf.rng q ks[q] (List.getElem?_eq_getElem hq)
          rw [List.getElem?_eq_getElem hq]
          have e1 : decide (some ks[q] = some k) = (ks[q] == k) := by rw [Bool.eq_iff_iff]; simp
          rw [e1]
          generalize ks[q] = y at *
          have hy : IntKind.i64.wrap y = y := wrap_id (by omega) (by omega)
          have q1 : (q : Int) < ks.length := by omega
          have q2 : decide ((q : Int) < ks.length) = true := decide_eq_true q1
          clear hbd hwf hk h2 hm hc hr e1 hln hm0 hm1
          rcases hk3 with rfl | rfl | rfl
          all_goals
            go_enter Tryd.func36, Tryd.ntmps36
            go_wp2_with (go_at_call 44; refine hun.out.mono ?_; rintro e w1 ⟨rfl, hb1⟩; have c4 := cell_below hb1 _ _ _ c4; have c5 := cell_below hb1 _ _ _ c5; have HB1 := Hid.mk hb1; clear hb1)
            go_ret
            exact ⟨rfl, HB1.out⟩
        · rw [List.getElem?_eq_none (by omega)]
          have e1 : decide ((none : Option Int) = some k) = false := by simp
          rw [e1]
          obtain ⟨a, cap, rfl⟩ := owns_slice hH.out.pil.kin
          have q1 : ¬ (q : Int) < ks.length := by omega
          have q2 : decide ((q : Int) < ks.length) = false := decide_eq_false q1
          have q3 : ¬ q < ks.length := hq
          clear hbd hwf hk h2 hm e1 hln hm0 hm1 hq
          rcases hk3 with rfl | rfl | rfl
          all_goals
            go_enter Tryd.func36, Tryd.ntmps36
            go_wp2_with (go_at_call 44; refine hun.out.mono ?_; rintro e w1 ⟨rfl, hb1⟩; have c4 := cell_below hb1 _ _ _ c4; have HB1 := Hid.mk hb1; clear hb1)
            go_ret
            exact ⟨rfl, HB1.out⟩
      · rw [if_neg hk]
        rw [hasL_iff] at hk
        by_cases h8 : k = 1 ∨ k = 3 ∨ k = 4 ∨ k = 6 ∨ k = 8
        · rw [decide_eq_true h8]
          clear hbd hwf hk h2
          rcases h8 with rfl | rfl | rfl | rfl | rfl
          all_goals
            go_enter Tryd.func36, Tryd.ntmps36
            go_wp2_with (go_at_call 44; refine hun.out.mono ?_; rintro e w1 ⟨rfl, hb1⟩)
            go_ret
            exact ⟨rfl, hb1⟩
        · rw [decide_eq_false h8]
          have n1 : ¬ k = 1 := by omega
          have n3 : ¬ k = 3 := by omega
          have n4 : ¬ k = 4 := by omega
          have n5 : ¬ k = 5 := by omega
          have n6 : ¬ k = 6 := by omega
          have n7 : ¬ k = 7 := by omega
          have n8 : ¬ k = 8 := by omega
          have n9 : ¬ k = 9 := by omega
          clear hbd hwf hk h8
          go_enter Tryd.func36, Tryd.ntmps36
          go_wp2_with (go_at_call 44; refine hun.out.mono ?_; rintro e w1 ⟨rfl, hb1⟩)
          go_ret
          exact ⟨rfl, hb1⟩
end Go.Proofs.YtaiiicmldogjoaaDoor
