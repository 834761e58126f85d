/-
  A step of an arena's life: a block is taken.
-/
import Derived.Test.YtpfcbokckjfhbaaArenaHs
import Derived.Test.YtpfcbokckjfhbaaArenaLi
import Derived.Test.YtpfcbokckjfhbaaArenaOpen
namespace Go.Proofs.Ytpfcbokckjfhbaa
open Go.RowKit Go.Deep Go.Maps Go.WideShapes

theorem rep_set (n k : Nat) (x : Int) (h : k < n) : (List.replicate k x ++ List.replicate (n - k) 0).set k x = List.replicate (k + 1) x ++ List.replicate (n - (k + 1)) 0 := by
  have e : n - k = (n - (k + 1)) + 1 := by omega
  rw [e, List.replicate_succ, List.set_append_right _ _ (by simp), List.length_replicate, Nat.sub_self, List.set_cons_zero, List.replicate_succ', List.append_assoc]
  rfl
theorem live_take {W : Nat} {B : Blks} {l : List Int} (h1 : 1 ≤ l.length) (h2 : usedB B + cls l.length ≤ W) : liveB 0 (takeR W B l).2.2 = liveB 0 B ++ [(((B.length + 1 : Nat) : Int), l)] := by
  rw [take_new h1 h2]
  show liveB 0 (B ++ [some l]) = _
  rw [liveB_snoc, Nat.zero_add]

set_option maxRecDepth 100000 in
set_option maxHeartbeats 4000000 in
theorem stepT_any (sk si ss : Int) (w0 w : World) (p bm W : Nat) (B : Blks) (v : Value) (F : Nat → Prop) (h : Lf w0 w p bm W B v (liveB 0 B) F) (hB : B.length ≤ 900) (y z : Nat) (hp1 : ∀ w, Calls Try.prog 41 #[.int .i64 sk, .int .i64 3] w fun e w' => e = .returned (.int .i64 y) ∧ w = w')
    (hy : y = 0 ∨ (liveB 0 B).length = 0) (hz : z < 40) (hp2 : ∀ w, Calls Try.prog 41 #[.int .i64 ss, .int .i64 40] w fun e w' => e = .returned (.int .i64 z) ∧ w = w') :
    Calls Try.prog 24 #[.agg #[.int .i64 sk, .int .i64 si, .int .i64 ss], .pointer (some ⟨p, 0, none⟩), v] w fun e w' => ∃ v' B', e = .returned (.tuple #[v', .bool true]) ∧ Lf w0 w' p bm W B' v' (liveB 0 B') F ∧ B'.length ≤ B.length + 1 := by
  obtain ⟨W0, hW0⟩ : ∃ W0, w.alloc (.cells #[.int .i64 sk, .int .i64 si, .int .i64 ss] 59) = W0 := ⟨_, rfl⟩
  obtain ⟨b, hb⟩ : ∃ b, w.heap.size = b := ⟨_, rfl⟩
  have hbox : W0.heap[b]? = some (.cells #[.int .i64 sk, .int .i64 si, .int .i64 ss] 59) := by rw [← hW0, ← hb]; exact new_block _ _
  have c0 : W0.cell? ⟨b, 0, none⟩ = some (.int .i64 sk) := by simp [World.cell?, hbox]
  have c1 : W0.cell? ⟨b, 1, none⟩ = some (.int .i64 si) := by simp [World.cell?, hbox]
  have c2 : W0.cell? ⟨b, 2, none⟩ = some (.int .i64 ss) := by simp [World.cell?, hbox]
  have T0 := Hid.mk (h.add (w' := W0) (by rw [← hW0]; exact (Up.refl w).alloc.out) (fun k => k = b) (fun k hk => by subst hk; rw [← hW0, ← hb]; simp))
  obtain ⟨va, vc, rfl⟩ : ∃ a cap, v = .slice a (liveB 0 B).length cap := by obtain ⟨S, Sh, h'⟩ := h; exact h'.hd.slice
  have HP1 := Hid.mk hp1
  have HB := Hid.mk hB
  have HP2 := Hid.mk hp2
  have HY := Hid.mk hy
  have HZ := Hid.mk hz
  obtain ⟨N, hN⟩ : ∃ N, 1 + z = N := ⟨_, rfl⟩
  have hwz : IntKind.i64.wrap (1 + (z : Int)) = (N : Int) := by rw [wrap_id (by omega) (by omega)]; omega
  have HNN := Hid.mk (show 1 ≤ N ∧ N ≤ 40 by omega)
  have hwu : IntKind.u64.wrap (N : Int) = (N : Int) := by rw [IntKind.wrap_u64]; omega
  obtain ⟨i0, hi0, hz0, hz1, hby⟩ := info_parts wordInfo
  clear h hp1 hp2 hB hy hz hN hbox
  go_enter Try.func24, Try.ntmps24
  go_upto_region 1 with fail
  try rw [hW0]
  try rw [hb]
  clear hW0 hb
  go_upto_region 2 with (go_at_call 41; refine (HP1.out _).mono ?_; rintro e x1 ⟨rfl, rfl⟩)
  obtain ⟨yb, hyb⟩ : ∃ yb : Bool, decide ((0 : Int) < y) = yb := ⟨_, rfl⟩
  obtain ⟨lb, hlb⟩ : ∃ lb : Bool, decide ((0 : Int) < (liveB 0 B).length) = lb := ⟨_, rfl⟩
  have hyl : (yb && lb) = false := by
    rw [Bool.and_eq_false_iff, ← hyb, ← hlb]
    rcases HY.out with h | h
    · left; rw [h]; rfl
    · right; rw [h]; rfl
  have hyb2 : decide (0 < y) = yb := by rw [← hyb]; simp
  have hlb2 : decide (0 < (liveB 0 B).length) = lb := by rw [← hlb]; simp
  cases yb with
  | true =>
    simp only [Bool.true_and] at hyl
    subst hyl
    have e1 := of_decide_eq_true hyb
    have e2 := of_decide_eq_false hlb
    clear hyb hlb hyb2 hlb2
    go_upto_region 15 with (go_at_call 41; refine (HP2.out _).mono ?_; rintro e x1 ⟨rfl, rfl⟩)
    go_upto_region 16 with (go_loud (at_make; refine wpList_make_full _ rfl _ _ 31 rfl 0 72 i0 _ 1 Try.underlying31 hi0 hz0 hz1 .i64 .i64 N N N rfl rfl rfl rfl (by rw [hby]; have := HNN.out; omega) (by have := HNN.out; unfold maxLen; omega) (by omega) ?_; intro w1 hown hgrow; have hb1 := below_grown hgrow; have HW1 := Hid.mk (made_words hown); have T1 := Hid.mk (T0.out.add hb1 (fun k => k = W0.heap.size) (fun k hk => by subst hk; exact ⟨Nat.le_refl _, HW1.out.block_lt rfl⟩)); clear hown hgrow hb1))
    obtain ⟨g, hg⟩ : ∃ g, W0.heap.size = g := ⟨_, rfl⟩
    have HG := Hid.mk (show w0.heap.size ≤ g by rw [← hg]; exact T0.out.below.size)
    have HFG := Hid.mk (fun j (hj : F j) => (show j ≠ g by obtain ⟨S, Sh, h'⟩ := T0.out; have := (h'.free j (Or.inl hj)).1; omega))
    rw [hg] at HW1 T1
    try rw [hg]
    clear hg c0 c1 c2
    go_wp2
    go_loopw [15] (fun ii wr => ∃ (k : Nat), k ≤ N ∧ ii = .int .i64 k ∧ Hid (Wds wr (.slice (some ⟨g, 0, none⟩) N N) (List.replicate k (N : Int) ++ List.replicate (N - k) 0)) ∧ Hid (Lf w0 wr p bm W B (.slice va (liveB 0 B).length vc) (liveB 0 B) (fun k => (F k ∨ k = b) ∨ k = g))) (fun ii _ => N - (intOf ii).toNat)
    case atStart => exact ⟨0, Nat.zero_le _, rfl, by simpa using HW1, T1⟩
    case round =>
      obtain ⟨k, hk, rfl, hRow, hLf⟩ := hrel
      have hNN := HNN.out
      by_cases hlt : k < N
      · have hkl : (k : Int) < N := by omega
        have hwi : IntKind.i64.wrap ((k : Int) + 1) = ((k + 1 : Nat) : Int) := by rw [wrap_id (by omega) (by omega)]; omega
        have hfz := hRow.out.frozen k
        have hcl : ∃ u, wr.cell? ⟨g, k, none⟩ = some (.int .u64 u) := by
          obtain ⟨b', o', e', hcc⟩ := hRow.out.celA (by simp; omega)
          cases e'
          have := hcc k (by simp; omega)
          rw [Nat.zero_add] at this
          exact ⟨_, this⟩
        obtain ⟨u, hcl⟩ := hcl
        have HK := Hid.mk hlt
        have hR2 := Hid.mk (rep_set N k (N : Int) hlt ▸ hRow.out.set k (N : Int))
        have hL2 := Hid.mk (hLf.out.over (Only.set (S := fun j => j = g) wr (p := g) (j := k) (.int .u64 N) rfl) (fun j hj => ⟨Or.inr hj, by subst hj; exact HG.out⟩))
        clear hNN
        go_wp2
        go_roundw
        case rel => exact ⟨k + 1, HK.out, by first | rfl | go_num, hR2, hL2⟩
        case measure => have h1 : k < N := HK.out; simp [intOf]; omega
      · obtain rfl : k = N := by omega
        have hrow := hRow.out
        rw [Nat.sub_self, List.replicate_zero, List.append_nil] at hrow
        obtain ⟨l, hl⟩ : ∃ l, l = List.replicate k (k : Int) := ⟨_, rfl⟩
        have hll : l.length = k := by rw [hl]; simp
        rw [← hl] at hrow
        have HR := Hid.mk hrow
        have HLL := Hid.mk hll
        obtain ⟨C, hC⟩ : ∃ C, cls k = C := ⟨_, rfl⟩
        obtain ⟨U, hU⟩ : ∃ U, usedB B = U := ⟨_, rfl⟩
        have hrd := Hid.mk (round_at (N := k) (C := C) (by omega) (by omega) hC)
        have hlf : Hid (∀ w1, Lf w0 w1 p bm W B (.slice va (liveB 0 B).length vc) (liveB 0 B) (fun j => (F j ∨ j = b) ∨ j = g) → Calls Try.prog 19 #[.pointer (some ⟨p, 0, none⟩)] w1 fun e w' => e = .returned (.int .i64 ((W : Int) - U)) ∧ Below w1.heap.size w1 w') := Hid.mk (fun w1 h1 => hU ▸ h1.left)
        have hCC := Hid.mk (And.intro hC hU)
        clear hlt hRow hl hll hrow hC hU
        by_cases hf : U + C ≤ W
        · have d1 : decide ((C : Int) ≤ (W : Int) - U) = true := by rw [decide_eq_true_eq]; omega
          obtain ⟨N1, hN1⟩ : ∃ N1, B.length + 1 = N1 := ⟨_, rfl⟩
          have htk : takeR W B l = (N1, 0, B ++ [some l]) := by rw [← hN1]; exact take_new (by rw [HLL.out]; exact hNN.1) (by rw [HLL.out, hCC.out.1, hCC.out.2]; exact hf)
          have hN1p : (0 : Int) < N1 := by omega
          have HN1 := Hid.mk hN1
          clear hN1
          have HT := Hid.mk htk
          clear htk hf hNN
          go_upto_region 24 with (first
            | (go_at_call 13; refine (hrd.out _).mono ?_; rintro e x3 ⟨rfl, rfl⟩)
            | (go_at_call 19; refine (hlf.out _ hLf.out).mono ?_; rintro e w4 ⟨rfl, hb⟩; have T4 := Hid.mk (hLf.out.up hb); have HR4 := Hid.mk (HR.out.up hb); clear hb)
            | (go_at_call 15; have hc := T4.out.take l (some ⟨g, 0, none⟩) k HR4.out.celA (by rw [HLL.out]; have := HNN.out; omega) (by have := HB.out; omega); rw [HT.out, HLL.out] at hc; refine hc.mono ?_; rintro e w5 ⟨rfl, h5, k5⟩; have T5 := Hid.mk h5; have HR5 := Hid.mk (k5.wds HR4.out (fun j hj => by cases hj; exact Or.inr rfl)); clear h5 k5 hc))
          obtain ⟨S, Sh, h5⟩ := T5.out
          obtain ⟨xs, x1, x2, x3⟩ := h5.hd.row
          have hxl := x1.1
          have hbl := HB.out
          have hnl : (liveB 0 B).length ≤ 900 := by rw [liveB_len]; have := numsB_len B 0; omega
          obtain ⟨W6, hW6⟩ : ∃ W6, w5.alloc (.cells #[.int .i64 N1, .slice (some ⟨g, 0, none⟩) k k] 62) = W6 := ⟨_, rfl⟩
          have hb6 : Below w5.heap.size w5 W6 := by rw [← hW6]; exact (Up.refl w5).alloc.out
          have hx6 : W6.heap[w5.heap.size]? = some (.cells #[.int .i64 N1, .slice (some ⟨g, 0, none⟩) k k] 62) := by rw [← hW6]; exact new_block _ _
          have hz6 : W6.heap.size = w5.heap.size + 1 := by rw [← hW6]; simp
          obtain ⟨v7, w7, hr7, h7, hg7, ha7⟩ := held_append W6 56 _ _ xs (ownsRow_up x1 hb6) ⟨w5.heap.size, 0, none⟩ 1 1 [.int .i64 N1, .slice (some ⟨g, 0, none⟩) k k] rfl
            (fun j u hu => by
              match j, hu with
              | 0, hu => cases hu; simp [World.cell?, hx6, Addr.add]
              | 1, hu => cases hu; simp [World.cell?, hx6, Addr.add]
              | j + 2, hu => simp at hu)
            (fun u hu => by
              rcases List.mem_cons.1 hu with rfl | hu
              · rfl
              · obtain rfl := List.mem_singleton.1 hu; rfl) (by omega)
          obtain ⟨va7, vc7, rfl⟩ := owns_slice h7
          have hgF := h5.free g (Or.inr rfl)
          have ho : Only (fun j => (Value.slice va (liveB 0 B).length vc).ownBlock = some j) w5 w7 := (Only.up hb6).grow hg7 (fun j hj => hj)
          have hown : ∀ j, (Value.slice va (liveB 0 B).length vc).ownBlock = some j → Sh j := h5.hd.own
          have hlv : Wds w7 (.slice (some ⟨g, 0, none⟩) k k) l := HR5.out.kept ho (fun j hj e => by cases hj; exact hgF.2.2 (hown _ e))
          have hnew : ∀ j, (Value.slice va7 ((liveB 0 B).length + 1) vc7).ownBlock = some j → (Value.slice va (liveB 0 B).length vc).ownBlock = some j ∨ w5.heap.size ≤ j ∧ (Value.slice (some ⟨g, 0, none⟩) k k).ownBlock ≠ some j := fun j hj => by
            rcases ha7 with e | e
            · rw [e] at hj; exact Or.inl hj
            · rw [e] at hj; cases hj
              have hgl := hgF.1
              exact Or.inr ⟨by omega, fun e' => by
                have e2 : g = W6.heap.size := by simpa [Value.ownBlock] using e'
                omega⟩
          have hd7 := Hd.snoc (n := (N1 : Int)) h5.hd x2 x3 h7 hnew hlv (fun j hj e => by cases hj; exact hgF.2.2 e) ho hxl (fun j hj => (h7.lt j hj).2)
          have hlive : liveB 0 (B ++ [some l]) = liveB 0 B ++ [((N1 : Int), l)] := by rw [liveB_snoc, Nat.zero_add, HN1.out]
          rw [← hlive] at hd7
          have HF := Hid.mk (h5.other (F' := F) ho (fun j hj => ⟨h5.mineH j (hown j hj), fun hs => h5.apart j hs (hown j hj), fun hf => (h5.free j (Or.inl (Or.inl hf))).2.2 (hown j hj)⟩) hd7
            (fun j hj => by
              rcases hj with hj | hj | hj
              · exact Or.inl hj
              · rcases hnew j hj with e | e
                · exact Or.inl (hown j e)
                · exact Or.inr (Or.inr e.1)
              · cases hj; exact Or.inr (Or.inl ⟨Or.inr rfl, HG.out⟩))
            (fun j hj => ⟨Or.inl (Or.inl hj), fun hs => by
              have hfj := h5.free j (Or.inl (Or.inl hj))
              rcases hs with hs | hs | hs
              · exact hfj.2.2 hs
              · rcases hnew j hs with e | e
                · exact hfj.2.2 (hown j e)
                · omega
              · cases hs; exact HFG.out _ hj rfl⟩))
          clear x1 x2 x3 hxl hbl hnl hb6 hx6 hz6 h7 hg7 ha7 hgF ho hown hlv hnew hd7 hlive h5
          go_wp2_with (at_builtin; refine Lib.wpList_append_run _ rfl _ _ _ _ rfl _ _ rfl rfl _ _ hr7 ?_)
          go_ret2
          exact ⟨_, _, by show Ending.returned (.tuple #[_, .bool (decide (0 < N1))]) = _; rw [decide_eq_true (by have := HN1.out; omega)]; rfl, HF.out, by simp⟩
        · have d1 : decide ((C : Int) ≤ (W : Int) - U) = false := by rw [decide_eq_false_iff_not]; omega
          have htk : takeR W B l = (0, 11, B) := take_full (by rw [HLL.out]; exact hNN.1) (by rw [HLL.out, hCC.out.1, hCC.out.2]; omega)
          have HT := Hid.mk htk
          clear htk hf hNN
          go_wp2_with (first
            | (go_at_call 13; refine (hrd.out _).mono ?_; rintro e x3 ⟨rfl, rfl⟩)
            | (go_at_call 19; refine (hlf.out _ hLf.out).mono ?_; rintro e w4 ⟨rfl, hb⟩; have T4 := Hid.mk (hLf.out.up hb); have HR4 := Hid.mk (HR.out.up hb); clear hb)
            | (go_at_call 15; have hc := T4.out.take l (some ⟨g, 0, none⟩) k HR4.out.celA (by rw [HLL.out]; have := HNN.out; omega) (by have := HB.out; omega); rw [HT.out, HLL.out] at hc; refine hc.mono ?_; rintro e w5 ⟨rfl, h5, k5⟩; have T5 := Hid.mk h5; have HR5 := Hid.mk (k5.wds HR4.out (fun j hj => by cases hj; exact Or.inr rfl)); clear h5 k5 hc))
          go_ret2
          exact ⟨_, B, rfl, T5.out.weaken (fun j hj => Or.inl (Or.inl hj)), Nat.le_succ _⟩
  | false =>
    have e1 := of_decide_eq_false hyb
    clear hyb hlb hyb2 hlb2 hyl
    go_upto_region 15 with (go_at_call 41; refine (HP2.out _).mono ?_; rintro e x1 ⟨rfl, rfl⟩)
    go_upto_region 16 with (go_loud (at_make; refine wpList_make_full _ rfl _ _ 31 rfl 0 72 i0 _ 1 Try.underlying31 hi0 hz0 hz1 .i64 .i64 N N N rfl rfl rfl rfl (by rw [hby]; have := HNN.out; omega) (by have := HNN.out; unfold maxLen; omega) (by omega) ?_; intro w1 hown hgrow; have hb1 := below_grown hgrow; have HW1 := Hid.mk (made_words hown); have T1 := Hid.mk (T0.out.add hb1 (fun k => k = W0.heap.size) (fun k hk => by subst hk; exact ⟨Nat.le_refl _, HW1.out.block_lt rfl⟩)); clear hown hgrow hb1))
    obtain ⟨g, hg⟩ : ∃ g, W0.heap.size = g := ⟨_, rfl⟩
    have HG := Hid.mk (show w0.heap.size ≤ g by rw [← hg]; exact T0.out.below.size)
    have HFG := Hid.mk (fun j (hj : F j) => (show j ≠ g by obtain ⟨S, Sh, h'⟩ := T0.out; have := (h'.free j (Or.inl hj)).1; omega))
    rw [hg] at HW1 T1
    try rw [hg]
    clear hg c0 c1 c2
    go_wp2
    go_loopw [15] (fun ii wr => ∃ (k : Nat), k ≤ N ∧ ii = .int .i64 k ∧ Hid (Wds wr (.slice (some ⟨g, 0, none⟩) N N) (List.replicate k (N : Int) ++ List.replicate (N - k) 0)) ∧ Hid (Lf w0 wr p bm W B (.slice va (liveB 0 B).length vc) (liveB 0 B) (fun k => (F k ∨ k = b) ∨ k = g))) (fun ii _ => N - (intOf ii).toNat)
    case atStart => exact ⟨0, Nat.zero_le _, rfl, by simpa using HW1, T1⟩
    case round =>
      obtain ⟨k, hk, rfl, hRow, hLf⟩ := hrel
      have hNN := HNN.out
      by_cases hlt : k < N
      · have hkl : (k : Int) < N := by omega
        have hwi : IntKind.i64.wrap ((k : Int) + 1) = ((k + 1 : Nat) : Int) := by rw [wrap_id (by omega) (by omega)]; omega
        have hfz := hRow.out.frozen k
        have hcl : ∃ u, wr.cell? ⟨g, k, none⟩ = some (.int .u64 u) := by
          obtain ⟨b', o', e', hcc⟩ := hRow.out.celA (by simp; omega)
          cases e'
          have := hcc k (by simp; omega)
          rw [Nat.zero_add] at this
          exact ⟨_, this⟩
        obtain ⟨u, hcl⟩ := hcl
        have HK := Hid.mk hlt
        have hR2 := Hid.mk (rep_set N k (N : Int) hlt ▸ hRow.out.set k (N : Int))
        have hL2 := Hid.mk (hLf.out.over (Only.set (S := fun j => j = g) wr (p := g) (j := k) (.int .u64 N) rfl) (fun j hj => ⟨Or.inr hj, by subst hj; exact HG.out⟩))
        clear hNN
        go_wp2
        go_roundw
        case rel => exact ⟨k + 1, HK.out, by first | rfl | go_num, hR2, hL2⟩
        case measure => have h1 : k < N := HK.out; simp [intOf]; omega
      · obtain rfl : k = N := by omega
        have hrow := hRow.out
        rw [Nat.sub_self, List.replicate_zero, List.append_nil] at hrow
        obtain ⟨l, hl⟩ : ∃ l, l = List.replicate k (k : Int) := ⟨_, rfl⟩
        have hll : l.length = k := by rw [hl]; simp
        rw [← hl] at hrow
        have HR := Hid.mk hrow
        have HLL := Hid.mk hll
        obtain ⟨C, hC⟩ : ∃ C, cls k = C := ⟨_, rfl⟩
        obtain ⟨U, hU⟩ : ∃ U, usedB B = U := ⟨_, rfl⟩
        have hrd := Hid.mk (round_at (N := k) (C := C) (by omega) (by omega) hC)
        have hlf : Hid (∀ w1, Lf w0 w1 p bm W B (.slice va (liveB 0 B).length vc) (liveB 0 B) (fun j => (F j ∨ j = b) ∨ j = g) → Calls Try.prog 19 #[.pointer (some ⟨p, 0, none⟩)] w1 fun e w' => e = .returned (.int .i64 ((W : Int) - U)) ∧ Below w1.heap.size w1 w') := Hid.mk (fun w1 h1 => hU ▸ h1.left)
        have hCC := Hid.mk (And.intro hC hU)
        clear hlt hRow hl hll hrow hC hU
        by_cases hf : U + C ≤ W
        · have d1 : decide ((C : Int) ≤ (W : Int) - U) = true := by rw [decide_eq_true_eq]; omega
          obtain ⟨N1, hN1⟩ : ∃ N1, B.length + 1 = N1 := ⟨_, rfl⟩
          have htk : takeR W B l = (N1, 0, B ++ [some l]) := by rw [← hN1]; exact take_new (by rw [HLL.out]; exact hNN.1) (by rw [HLL.out, hCC.out.1, hCC.out.2]; exact hf)
          have hN1p : (0 : Int) < N1 := by omega
          have HN1 := Hid.mk hN1
          clear hN1
          have HT := Hid.mk htk
          clear htk hf hNN
          go_upto_region 24 with (first
            | (go_at_call 13; refine (hrd.out _).mono ?_; rintro e x3 ⟨rfl, rfl⟩)
            | (go_at_call 19; refine (hlf.out _ hLf.out).mono ?_; rintro e w4 ⟨rfl, hb⟩; have T4 := Hid.mk (hLf.out.up hb); have HR4 := Hid.mk (HR.out.up hb); clear hb)
            | (go_at_call 15; have hc := T4.out.take l (some ⟨g, 0, none⟩) k HR4.out.celA (by rw [HLL.out]; have := HNN.out; omega) (by have := HB.out; omega); rw [HT.out, HLL.out] at hc; refine hc.mono ?_; rintro e w5 ⟨rfl, h5, k5⟩; have T5 := Hid.mk h5; have HR5 := Hid.mk (k5.wds HR4.out (fun j hj => by cases hj; exact Or.inr rfl)); clear h5 k5 hc))
          obtain ⟨S, Sh, h5⟩ := T5.out
          obtain ⟨xs, x1, x2, x3⟩ := h5.hd.row
          have hxl := x1.1
          have hbl := HB.out
          have hnl : (liveB 0 B).length ≤ 900 := by rw [liveB_len]; have := numsB_len B 0; omega
          obtain ⟨W6, hW6⟩ : ∃ W6, w5.alloc (.cells #[.int .i64 N1, .slice (some ⟨g, 0, none⟩) k k] 62) = W6 := ⟨_, rfl⟩
          have hb6 : Below w5.heap.size w5 W6 := by rw [← hW6]; exact (Up.refl w5).alloc.out
          have hx6 : W6.heap[w5.heap.size]? = some (.cells #[.int .i64 N1, .slice (some ⟨g, 0, none⟩) k k] 62) := by rw [← hW6]; exact new_block _ _
          have hz6 : W6.heap.size = w5.heap.size + 1 := by rw [← hW6]; simp
          obtain ⟨v7, w7, hr7, h7, hg7, ha7⟩ := held_append W6 56 _ _ xs (ownsRow_up x1 hb6) ⟨w5.heap.size, 0, none⟩ 1 1 [.int .i64 N1, .slice (some ⟨g, 0, none⟩) k k] rfl
            (fun j u hu => by
              match j, hu with
              | 0, hu => cases hu; simp [World.cell?, hx6, Addr.add]
              | 1, hu => cases hu; simp [World.cell?, hx6, Addr.add]
              | j + 2, hu => simp at hu)
            (fun u hu => by
              rcases List.mem_cons.1 hu with rfl | hu
              · rfl
              · obtain rfl := List.mem_singleton.1 hu; rfl) (by omega)
          obtain ⟨va7, vc7, rfl⟩ := owns_slice h7
          have hgF := h5.free g (Or.inr rfl)
          have ho : Only (fun j => (Value.slice va (liveB 0 B).length vc).ownBlock = some j) w5 w7 := (Only.up hb6).grow hg7 (fun j hj => hj)
          have hown : ∀ j, (Value.slice va (liveB 0 B).length vc).ownBlock = some j → Sh j := h5.hd.own
          have hlv : Wds w7 (.slice (some ⟨g, 0, none⟩) k k) l := HR5.out.kept ho (fun j hj e => by cases hj; exact hgF.2.2 (hown _ e))
          have hnew : ∀ j, (Value.slice va7 ((liveB 0 B).length + 1) vc7).ownBlock = some j → (Value.slice va (liveB 0 B).length vc).ownBlock = some j ∨ w5.heap.size ≤ j ∧ (Value.slice (some ⟨g, 0, none⟩) k k).ownBlock ≠ some j := fun j hj => by
            rcases ha7 with e | e
            · rw [e] at hj; exact Or.inl hj
            · rw [e] at hj; cases hj
              have hgl := hgF.1
              exact Or.inr ⟨by omega, fun e' => by
                have e2 : g = W6.heap.size := by simpa [Value.ownBlock] using e'
                omega⟩
          have hd7 := Hd.snoc (n := (N1 : Int)) h5.hd x2 x3 h7 hnew hlv (fun j hj e => by cases hj; exact hgF.2.2 e) ho hxl (fun j hj => (h7.lt j hj).2)
          have hlive : liveB 0 (B ++ [some l]) = liveB 0 B ++ [((N1 : Int), l)] := by rw [liveB_snoc, Nat.zero_add, HN1.out]
          rw [← hlive] at hd7
          have HF := Hid.mk (h5.other (F' := F) ho (fun j hj => ⟨h5.mineH j (hown j hj), fun hs => h5.apart j hs (hown j hj), fun hf => (h5.free j (Or.inl (Or.inl hf))).2.2 (hown j hj)⟩) hd7
            (fun j hj => by
              rcases hj with hj | hj | hj
              · exact Or.inl hj
              · rcases hnew j hj with e | e
                · exact Or.inl (hown j e)
                · exact Or.inr (Or.inr e.1)
              · cases hj; exact Or.inr (Or.inl ⟨Or.inr rfl, HG.out⟩))
            (fun j hj => ⟨Or.inl (Or.inl hj), fun hs => by
              have hfj := h5.free j (Or.inl (Or.inl hj))
              rcases hs with hs | hs | hs
              · exact hfj.2.2 hs
              · rcases hnew j hs with e | e
                · exact hfj.2.2 (hown j e)
                · omega
              · cases hs; exact HFG.out _ hj rfl⟩))
          clear x1 x2 x3 hxl hbl hnl hb6 hx6 hz6 h7 hg7 ha7 hgF ho hown hlv hnew hd7 hlive h5
          go_wp2_with (at_builtin; refine Lib.wpList_append_run _ rfl _ _ _ _ rfl _ _ rfl rfl _ _ hr7 ?_)
          go_ret2
          exact ⟨_, _, by show Ending.returned (.tuple #[_, .bool (decide (0 < N1))]) = _; rw [decide_eq_true (by have := HN1.out; omega)]; rfl, HF.out, by simp⟩
        · have d1 : decide ((C : Int) ≤ (W : Int) - U) = false := by rw [decide_eq_false_iff_not]; omega
          have htk : takeR W B l = (0, 11, B) := take_full (by rw [HLL.out]; exact hNN.1) (by rw [HLL.out, hCC.out.1, hCC.out.2]; omega)
          have HT := Hid.mk htk
          clear htk hf hNN
          go_wp2_with (first
            | (go_at_call 13; refine (hrd.out _).mono ?_; rintro e x3 ⟨rfl, rfl⟩)
            | (go_at_call 19; refine (hlf.out _ hLf.out).mono ?_; rintro e w4 ⟨rfl, hb⟩; have T4 := Hid.mk (hLf.out.up hb); have HR4 := Hid.mk (HR.out.up hb); clear hb)
            | (go_at_call 15; have hc := T4.out.take l (some ⟨g, 0, none⟩) k HR4.out.celA (by rw [HLL.out]; have := HNN.out; omega) (by have := HB.out; omega); rw [HT.out, HLL.out] at hc; refine hc.mono ?_; rintro e w5 ⟨rfl, h5, k5⟩; have T5 := Hid.mk h5; have HR5 := Hid.mk (k5.wds HR4.out (fun j hj => by cases hj; exact Or.inr rfl)); clear h5 k5 hc))
          go_ret2
          exact ⟨_, B, rfl, T5.out.weaken (fun j hj => Or.inl (Or.inl hj)), Nat.le_succ _⟩
end Go.Proofs.Ytpfcbokckjfhbaa
