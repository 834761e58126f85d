/-
  A step of an arena's life: a block has its words turned.
-/
import Derived.Test.YtpfcbokckjfhbaaArenaHs
import Derived.Test.YtpfcbokckjfhbaaArenaLi
import Derived.Test.YtpfcbokckjfhbaaArenaOpen
namespace Go.Proofs.Ytpfcbokckjfhbaa
open Go.RowKit Go.Deep Go.Maps Go.WideShapes

set_option maxHeartbeats 1000000 in
theorem copyWords_any (xs : List Int) (a : Option Addr) (cap : Nat) (w : World) (h : Cel w xs a) (h1 : 1 ≤ xs.length) (hl : xs.length ≤ 1000) :
    Calls Try.prog 42 #[.slice a xs.length cap] w fun e w' => ∃ v', e = .returned v' ∧ Wds w' v' xs ∧ (∀ g, v'.ownBlock = some g → w.heap.size ≤ g) ∧ Below w.heap.size w w' := by
  obtain ⟨v2, w2, hr, h2, h3, h4⟩ := copy_run xs a cap w h h1 hl
  have H2 := Hid.mk h2
  have H3 := Hid.mk h3
  have H4 := Hid.mk h4
  clear h h1 hl h2 h3 h4
  go_enter Try.func42, Try.ntmps42
  go_wp2_with (first
    | (at_builtin; refine Lib.wpList_append_run _ rfl _ _ _ _ rfl _ _ rfl rfl _ _ hr ?_))
  go_ret
  exact ⟨v2, rfl, H2.out, H3.out, H4.out⟩
theorem own_at {g n c j : Nat} (h : (Value.slice (some ⟨g, 0, none⟩) n c).ownBlock = some j) : j = g := by cases h; rfl
/-- One more. -/
def inc (x : Int) : Int := IntKind.u64.wrap (x + 1)
theorem inc_set (xs : List Int) (k : Nat) (h : k < xs.length) : ((xs.take k).map inc ++ xs.drop k).set k (inc xs[k]) = (xs.take (k + 1)).map inc ++ xs.drop (k + 1) := by
  rw [List.set_append_right _ _ (by simp; omega), List.length_map, List.length_take, show k - min k xs.length = 0 by omega, List.drop_eq_getElem_cons h, List.set_cons_zero, List.take_succ_eq_append_getElem h, List.map_append, List.append_assoc]
  rfl

set_option maxRecDepth 100000 in
set_option maxHeartbeats 4000000 in
theorem stepS_any (sk si ss : Int) (w0 w : World) (p bm W : Nat) (B : Blks) (v : Value) (F : Nat → Prop) (h : Lf w0 w p bm W B v (liveB 0 B) F) (hB : B.length ≤ 900) (hp1 : ∀ w, Calls Try.prog 41 #[.int .i64 sk, .int .i64 3] w fun e w' => e = .returned (.int .i64 2) ∧ w = w')
    (i : Nat) (hi : i < (liveB 0 B).length) (hp2 : ∀ w, Calls Try.prog 41 #[.int .i64 si, .int .i64 (liveB 0 B).length] w fun e w' => e = .returned (.int .i64 i) ∧ w = w') :
    Calls Try.prog 24 #[.agg #[.int .i64 sk, .int .i64 si, .int .i64 ss], .pointer (some ⟨p, 0, none⟩), v] w fun e w' => ∃ v' B', e = .returned (.tuple #[v', .bool true]) ∧ Lf w0 w' p bm W B' v' (liveB 0 B') F ∧ B'.length ≤ B.length + 1 := by
  obtain ⟨W0, hW0⟩ : ∃ W0, w.alloc (.cells #[.int .i64 sk, .int .i64 si, .int .i64 ss] 59) = W0 := ⟨_, rfl⟩
  obtain ⟨b, hb⟩ : ∃ b, w.heap.size = b := ⟨_, rfl⟩
  have hbox : W0.heap[b]? = some (.cells #[.int .i64 sk, .int .i64 si, .int .i64 ss] 59) := by rw [← hW0, ← hb]; exact new_block _ _
  have c0 : W0.cell? ⟨b, 0, none⟩ = some (.int .i64 sk) := by simp [World.cell?, hbox]
  have c1 : W0.cell? ⟨b, 1, none⟩ = some (.int .i64 si) := by simp [World.cell?, hbox]
  have c2 : W0.cell? ⟨b, 2, none⟩ = some (.int .i64 ss) := by simp [World.cell?, hbox]
  have T0 := Hid.mk (h.add (w' := W0) (by rw [← hW0]; exact (Up.refl w).alloc.out) (fun k => k = b) (fun k hk => by subst hk; rw [← hW0, ← hb]; simp))
  obtain ⟨va, vc, rfl⟩ : ∃ a cap, v = .slice a (liveB 0 B).length cap := by obtain ⟨S, Sh, h'⟩ := h; exact h'.hd.slice
  have HP1 := Hid.mk hp1
  have HB := Hid.mk hB
  have HP2 := Hid.mk hp2
  have HI := Hid.mk hi
  have hi0 : (0 : Int) < (liveB 0 B).length := by omega
  have hi0' : 0 < (liveB 0 B).length := by omega
  clear h hp1 hp2 hB hi hbox
  go_enter Try.func24, Try.ntmps24
  go_upto_region 1 with fail
  try rw [hW0]
  try rw [hb]
  clear hW0 hb
  go_upto_region 6 with (first
    | (go_at_call 41; have tok := m1; refine (HP2.out _).mono ?_; rintro e x1 ⟨rfl, rfl⟩)
    | (go_at_call 41; refine (HP1.out _).mono ?_; rintro e x1 ⟨rfl, rfl⟩; have m1 := True.intro))
  clear hi0 hi0' c0 c1 c2
  obtain ⟨x, hx⟩ : ∃ x, (liveB 0 B)[i]'HI.out = x := ⟨_, rfl⟩
  have hxi := Hid.mk (show (liveB 0 B)[i]? = some x by rw [List.getElem?_eq_getElem HI.out, hx])
  have hgood := Hid.mk (T0.out.good hxi.out)
  obtain ⟨n, hn⟩ : ∃ n, (liveB 0 B).length = n := ⟨_, rfl⟩
  have hnl : n ≤ 900 := by rw [← hn, liveB_len]; have := numsB_len B 0; have := HB.out; omega
  have hin : i < n := by rw [← hn]; exact HI.out
  have HN := Hid.mk (And.intro hn (And.intro hnl hin))
  obtain ⟨g, a', lc, hv, d1, dw⟩ : ∃ g a lc, va = some ⟨g, 0, none⟩ ∧ W0.cell? ⟨g, i * 2 + 1, none⟩ = some (.slice a x.2.length lc) ∧ Wds W0 (.slice a x.2.length lc) x.2 := by
    obtain ⟨S, Sh, h0⟩ := T0.out
    obtain ⟨g, cap', a', lc, hv, hcap, d0, d1, dw, hsg⟩ := h0.hd.at_ HI.out
    simp only [Value.slice.injEq, true_and] at hv
    rw [hx] at d1 dw
    exact ⟨g, a', lc, hv.1, d1, dw⟩
  subst hv
  have hini : (i : Int) < n := by omega
  have HD := Hid.mk dw
  rw [hn] at T0
  try rw [hn]
  clear hx hn hnl dw
  go_upto_region 7 with ((go_at_call 42; refine (copyWords_any x.2 a' lc _ HD.out.celA hgood.out.1 hgood.out.2).mono ?_; rintro e w1 ⟨lv, rfl, h1, h2, hb1⟩; have T1 := Hid.mk (T0.out.add hb1 (fun k => lv.ownBlock = some k) (fun k hk => ⟨h2 k hk, h1.block_lt hk⟩)); have HV1 := Hid.mk h1; have HN1 := Hid.mk (fun k (hk : lv.ownBlock = some k) => Nat.le_trans T0.out.below.size (h2 k hk)); have HFG := Hid.mk (fun k (hk : F k) => (show lv.ownBlock ≠ some k from fun e => by obtain ⟨S, Sh, h'⟩ := T0.out; have := (h'.free k (Or.inl hk)).1; have := h2 k e; omega)); clear h1 h2 hb1))
  rcases HV1.out.shape with ⟨_, hz⟩ | ⟨gl, lcap, hlv, hl1, hl2, _, _⟩
  · have := hgood.out.1
    rw [hz] at this
    simp at this
  subst hlv
  clear d1 hl1 hl2
  go_wp2
  go_loopw [11] (fun ii wr => ∃ (k : Nat), k ≤ x.2.length ∧ ii = .int .i64 k ∧ Hid (Wds wr (.slice (some ⟨gl, 0, none⟩) x.2.length lcap) ((x.2.take k).map inc ++ x.2.drop k)) ∧ Hid (Lf w0 wr p bm W B (.slice (some ⟨g, 0, none⟩) n vc) (liveB 0 B) (fun k => (F k ∨ k = b) ∨ (Value.slice (some ⟨gl, 0, none⟩) x.2.length lcap).ownBlock = some k))) (fun ii _ => x.2.length - (intOf ii).toNat)
  case atStart => exact ⟨0, Nat.zero_le _, rfl, by simpa using HV1, T1⟩
  case round =>
    obtain ⟨k, hk, rfl, hRow, hLf⟩ := hrel
    have hgd := hgood.out
    by_cases hlt : k < x.2.length
    · have hkl : (k : Int) < x.2.length := by omega
      have hwi : IntKind.i64.wrap ((k : Int) + 1) = ((k + 1 : Nat) : Int) := by rw [wrap_id (by omega) (by omega)]; omega
      have hfz := hRow.out.frozen k
      have hcl : wr.cell? ⟨gl, k, none⟩ = some (.int .u64 (x.2[k]'hlt)) := by
        obtain ⟨b', o', e', hcc⟩ := hRow.out.celA (by simp; omega)
        cases e'
        have := hcc k (by simp; omega)
        rw [Nat.zero_add] at this
        rw [this, List.getElem_append_right (by simp; omega)]
        simp only [List.length_map, List.length_take, List.getElem_drop]
        congr 3
        omega
      have HK := Hid.mk hlt
      have hR2 := Hid.mk (inc_set x.2 k hlt ▸ hRow.out.set k (inc (x.2[k]'hlt)))
      have hL2 := Hid.mk (hLf.out.over (Only.set (S := fun j => j = gl) wr (p := gl) (j := k) (.int .u64 (inc (x.2[k]'hlt))) rfl) (fun j hj => ⟨Or.inr (by subst hj; rfl), HN1.out j (by subst hj; rfl)⟩))
      unfold inc at hR2 hL2
      generalize x.2[k]'hlt = u at hcl hR2 hL2
      obtain ⟨u1, hu1⟩ : ∃ u1, IntKind.u64.wrap (u + 1) = u1 := ⟨_, rfl⟩
      rw [hu1] at hR2 hL2
      clear hgd
      go_wp2
      go_roundw
      case rel => exact ⟨k + 1, HK.out, by first | rfl | go_num, hR2, hL2⟩
      case measure => have h1 : k < x.2.length := HK.out; simp [intOf]; omega
    · obtain rfl : k = x.2.length := by omega
      have hrow := hRow.out
      rw [List.take_length, List.drop_length, List.append_nil] at hrow
      obtain ⟨l, hl⟩ : ∃ l, l = x.2.map inc := ⟨_, rfl⟩
      have hll : l.length = x.2.length := by rw [hl]; simp
      rw [← hl] at hrow
      have HR := Hid.mk hrow
      have HLL := Hid.mk hll
      clear hlt hRow hl hrow hgd
      obtain ⟨S, Sh, h5⟩ := hLf.out
      obtain ⟨hn, hnl, hin⟩ := HN.out
      obtain ⟨xs, x1, x2, x3⟩ := h5.hd.row
      have hxl := x1.1
      have hone := one_cells hxl x2 x3
      have hil := HI.out
      have hd0 : wr.cell? ⟨g, i * 2, none⟩ = some (.int .i64 x.1) := by
        have := x2 i hil
        have e : (liveB 0 B)[i]'hil = x := by
          have := hxi.out
          rw [List.getElem?_eq_getElem hil] at this
          exact Option.some.inj this
        rw [e] at this
        exact ownsRow_cell x1 this
      rw [hn] at hxl
      obtain ⟨W6, hW6⟩ : ∃ W6, wr.alloc (.cells #[] 62) = W6 := ⟨_, rfl⟩
      have hb6 : Below wr.heap.size wr W6 := by rw [← hW6]; exact (Up.refl wr).alloc.out
      have he6 : W6.ownsRow 0 62 2 (.slice (some ⟨wr.heap.size, 0, none⟩) 0 0) 0 [] := by rw [← hW6]; exact held_empty wr
      have hz6 : W6.heap.size = wr.heap.size + 1 := by rw [← hW6]; simp
      obtain ⟨v7, w7, hr7, g7, q7, a7⟩ := held_append W6 56 _ 0 [] he6 ⟨g, 0, none⟩ n vc xs hxl
        (fun j u hj => by rw [WideShapes.add_plain, Nat.zero_add]; exact cell_below hb6 _ _ _ (ownsRow_cell x1 hj)) hone (by omega)
      rw [Nat.zero_add, List.nil_append] at g7
      have g7' := g7
      rcases g7.2 with ⟨_, e0⟩ | ⟨go, vc7, cur, rfl, _, hh7, _, _, _, _⟩
      · omega
      have ngo : wr.heap.size ≤ go := by
        rcases a7 with e | e
        · exact Nat.le_of_eq (own_at (e.trans rfl))
        · have := own_at e
          omega
      have hb7 : Below wr.heap.size wr w7 := hb6.grown q7 hb6.size (fun j hj => by cases hj; exact Nat.le_refl _)
      have hf7 : w7.frozen? ⟨go, i * 2 + 1, none⟩ = false := by simp [World.frozen?, hh7]
      have hgl : gl < wr.heap.size := (h5.free gl (Or.inr rfl)).1
      have hgg : g < wr.heap.size := h5.hd.lt g (h5.hd.own g rfl)
      have hin' : (i : Int) < n := by omega
      obtain ⟨lv, hlv⟩ : ∃ lv, lv = Value.slice (some ⟨gl, 0, none⟩) x.2.length lcap := ⟨_, rfl⟩
      have oT : Only (fun k => wr.heap.size ≤ k) wr (w7.setCell ⟨go, i * 2 + 1, none⟩ (.slice (some ⟨gl, 0, none⟩) x.2.length lcap)) := (Only.up hb7).put (p := go) ngo _ _
      have hcell7 : ∃ u, w7.cell? ⟨go, i * 2 + 1, none⟩ = some u := ⟨_, ownsRow_cell g7' (List.getElem?_eq_getElem (show i * 2 + 1 < xs.length by omega))⟩
      obtain ⟨u7, hc7⟩ := hcell7
      have hrow8 := ownsRow_set g7' (i * 2 + 1) (.slice (some ⟨gl, 0, none⟩) x.2.length lcap)
      have hd8 : Hd (w7.setCell ⟨go, i * 2 + 1, none⟩ (.slice (some ⟨gl, 0, none⟩) x.2.length lcap)) (.slice (some ⟨go, 0, none⟩) n vc7) (fun k => Sh k ∨ (Value.slice (some ⟨go, 0, none⟩) n vc7).ownBlock = some k ∨ (Value.slice (some ⟨gl, 0, none⟩) x.2.length lcap).ownBlock = some k) ((liveB 0 B).set i (((liveB 0 B)[i]'hil).1, l)) :=
        Hd.change (lv' := .slice (some ⟨gl, 0, none⟩) x.2.length lcap) (l' := l) h5.hd h5.hd.lt hil x2 x3 (by rw [hn]; exact hrow8) (fun j hj => by
          have e1 := own_at hj
          exact ⟨by omega, fun e => by have e2 := own_at e; omega⟩)
          (HR.out.kept oT (fun j hj hk => by have e1 := own_at hj; omega)) (fun j hj => by rw [own_at hj]; exact (h5.free gl (Or.inr rfl)).2.2) (oT.mono (fun j hj hs => by have := h5.hd.lt j hs; omega)) (by rw [hn]; exact hxl) (fun j hj => (hrow8.lt j hj).2)
      have hxe : (liveB 0 B)[i]'hil = x := by
        have := hxi.out
        rw [List.getElem?_eq_getElem hil] at this
        exact Option.some.inj this
      rw [hxe] at hd8
      have T8 := Hid.mk (h5.other (F' := F) oT (fun j hj => ⟨Nat.le_trans h5.below.size hj, fun hs => (by have := h5.ar.lt j hs; omega), fun hf => (by have := (h5.free j (Or.inl (Or.inl hf))).1; omega)⟩) hd8
        (fun j hj => by
          rcases hj with hj | hj | hj
          · exact Or.inl hj
          · exact Or.inr (Or.inr (by rw [own_at hj]; exact ngo))
          · exact Or.inr (Or.inl ⟨Or.inr hj, HN1.out j hj⟩))
        (fun j hj => ⟨Or.inl (Or.inl hj), fun hs => by
          have hfj := h5.free j (Or.inl (Or.inl hj))
          rcases hs with hs | hs | hs
          · exact hfj.2.2 hs
          · have e1 := own_at hs
            omega
          · exact HFG.out j hj hs⟩))
      have HC8 := Hid.mk (show Cel (w7.setCell ⟨go, i * 2 + 1, none⟩ (.slice (some ⟨gl, 0, none⟩) x.2.length lcap)) l (some ⟨gl, 0, none⟩) from (HR.out.kept oT (fun j hj hk => by have e1 := own_at hj; omega)).celA)
      have hd8c := oT.cellS (show ¬ wr.heap.size ≤ g by omega) hd0
      obtain ⟨W8, hW8⟩ : ∃ W8, w7.setCell ⟨go, i * 2 + 1, none⟩ (.slice (some ⟨gl, 0, none⟩) x.2.length lcap) = W8 := ⟨_, rfl⟩
      rw [hW8] at T8 HC8 hd8c
      have HW8 := Hid.mk hW8
      clear hd8 hrow8 hone oT hb7 ngo hgl hgg hh7 g7 g7' q7 a7 hz6 he6 hb6 x1 x2 x3 hxl h5 hd0 hlv hxe hn hnl
      rw [← hW6] at hr7
      clear hW6
      go_upto_region 12 with (at_builtin; refine Lib.wpList_append_run _ rfl _ _ _ _ rfl _ _ rfl rfl _ _ hr7 ?_)
      go_upto_region 13 with fail
      try rw [HW8.out]
      go_wp2_with (go_at_call 17; have hc := T8.out.set hxi.out l (some ⟨gl, 0, none⟩) lcap HC8.out HLL.out (by have := HB.out; omega); rw [HLL.out] at hc; refine hc.mono ?_; rintro e w9 ⟨rfl, h9, _, _⟩; rw [← live_set hxi.out l] at h9; have HF := Hid.mk h9; clear h9 hc)
      go_ret2
      exact ⟨_, _, rfl, HF.out, by simp⟩
end Go.Proofs.Ytpfcbokckjfhbaa
