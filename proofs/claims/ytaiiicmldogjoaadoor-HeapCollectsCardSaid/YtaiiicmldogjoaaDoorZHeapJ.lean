/-
  The closure that builds a term of a word.
-/
import Derived.Test.YtaiiicmldogjoaaDoorZHeapI
import Derived.Test.YtaiiicmldogjoaaDoorZKitLast
namespace Go.Proofs.YtaiiicmldogjoaaDoor
open Go.RowKit Go.Deep Go.Maps Go.WideShapes

def fillV (hx wb fb : Nat) : Value := .func (.func 61) #[] #[.pointer (some ⟨hx, 0, none⟩), .pointer (some ⟨wb, 0, none⟩), .pointer (some ⟨fb, 0, none⟩)]
/-- What the closure stands on: the heap as it was in W, and its own variables. -/
structure Fil (W w : World) (hb hx wb fb : Nat) : Prop where
  ch : w.cell? ⟨hx, 0, none⟩ = some (.pointer (some ⟨hb, 0, none⟩))
  cf : w.cell? ⟨fb, 0, none⟩ = some (fillV hx wb fb)
  below : Below W.heap.size W w
  h1 : W.heap.size ≤ wb
  n1 : wb ≠ hx
  n2 : wb ≠ fb
  fw : w.frozen? ⟨wb, 0, none⟩ = false
theorem Fil.kc {W w w' : World} {hb hx wb fb b o : Nat} (h : Fil W w hb hx wb fb) (k : Kc b o wb w w') (hB : W.heap.size ≤ b) (n1 : b ≠ hx) (n2 : b ≠ fb) : Fil W w' hb hx wb fb :=
  ⟨k.only.cellS (by rintro (e | e); exact n1 e.symm; exact h.n1 e.symm) h.ch, k.only.cellS (by rintro (e | e); exact n2 e.symm; exact h.n2 e.symm) h.cf, h.below.trans (k.below hB h.h1 h.below.size), h.h1, h.n1, h.n2, (k.frw 0).trans h.fw⟩
theorem Fil.beside {W w w' : World} {hb hx wb fb nb : Nat} (h : Fil W w hb hx wb fb) (k : Only (fun i => i = nb ∨ i = wb) w w') (hf : w'.frozen? ⟨wb, 0, none⟩ = w.frozen? ⟨wb, 0, none⟩) (hB : W.heap.size ≤ nb) (n1 : nb ≠ hx) (n2 : nb ≠ fb) : Fil W w' hb hx wb fb :=
  ⟨k.cellS (by rintro (e | e); exact n1 e.symm; exact h.n1 e.symm) h.ch, k.cellS (by rintro (e | e); exact n2 e.symm; exact h.n2 e.symm) h.cf, h.below.trans (k.below (fun i hi => by rcases hi with rfl | rfl; exact hB; exact h.h1) h.below.size), h.h1, h.n1, h.n2, hf.trans h.fw⟩
theorem Fil.up {W w w' : World} {hb hx wb fb : Nat} (h : Fil W w hb hx wb fb) (k : Below w.heap.size w w') (hw : wb < w.heap.size) : Fil W w' hb hx wb fb :=
  ⟨cell_below k _ _ _ h.ch, cell_below k _ _ _ h.cf, h.below.trans (k.mono h.below.size), h.h1, h.n1, h.n2, (k.frozen (p := ⟨wb, 0, none⟩) hw).trans h.fw⟩

set_option maxHeartbeats 8000000 in
set_option maxRecDepth 100000 in
theorem fill_of (W : World) (hb p bm : Nat) (v : Value) (L : List ByteArray) (M : Nat) (wv kv : Value) (xs ks : List Int) (hx wb fb : Nat) (hH : Hea W hb p bm v L M wv kv xs ks) (N : Nat)
    (ih0 : ∀ (T : Tm), T.size < N → ∀ (x : Int) (b o : Nat) (c : Int) (w : World), Den L xs ks T x → Fil W w hb hx wb fb → W.heap.size ≤ b → b ≠ wb → b ≠ hx → b ≠ fb → Free w b o → w.cell? ⟨wb, 0, none⟩ = some (.int .i64 c) → 0 ≤ c → c + (T.wordsR - 1) ≤ 65536 →
      Calls Tryd.prog 61 #[.pointer (some ⟨b, o, none⟩), .int .u64 x, .pointer (some ⟨hx, 0, none⟩), .pointer (some ⟨wb, 0, none⟩), .pointer (some ⟨fb, 0, none⟩)] w fun e w' => (∃ u, e = .returned u) ∧ LiesAt w' (fun k => w.heap.size ≤ k) T b o ∧ Kc b o wb w w' ∧ w'.cell? ⟨wb, 0, none⟩ = some (.int .i64 (c + (T.wordsR - 1))))
    (T : Tm) (hTN : T.size ≤ N) (x : Int) (b o : Nat) (c : Int) (w : World) (hd : Den L xs ks T x) (hF : Fil W w hb hx wb fb) (hbB : W.heap.size ≤ b) (nbw : b ≠ wb) (nbh : b ≠ hx) (nbf : b ≠ fb) (hfr : Free w b o) (hcw : w.cell? ⟨wb, 0, none⟩ = some (.int .i64 c)) (hc0 : 0 ≤ c) (hcm : c + (T.wordsR - 1) ≤ 65536) :
    Calls Tryd.prog 61 #[.pointer (some ⟨b, o, none⟩), .int .u64 x, .pointer (some ⟨hx, 0, none⟩), .pointer (some ⟨wb, 0, none⟩), .pointer (some ⟨fb, 0, none⟩)] w fun e w' => (∃ u, e = .returned u) ∧ LiesAt w' (fun k => w.heap.size ≤ k) T b o ∧ Kc b o wb w w' ∧ w'.cell? ⟨wb, 0, none⟩ = some (.int .i64 (c + (T.wordsR - 1))) := by
  have ih := Hid.mk ih0
  clear ih0
  have hlt' := Hid.mk hfr.lt
  have hltw : Hid (wb < w.heap.size) := Hid.mk (World.block_lt_of_cell? w ⟨wb, 0, none⟩ hcw)
  have HH := Hid.mk hH
  obtain ⟨tot, htot⟩ : ∃ tot, c + (T.wordsR - 1) = tot := ⟨_, rfl⟩
  rw [htot] at hcm ⊢
  have HTOT := Hid.mk htot
  have HCM := Hid.mk hcm
  have HD0 := Hid.mk hd
  have HF0 := Hid.mk hF
  have HFR0 := Hid.mk hfr
  have HCW0 := Hid.mk hcw
  have HC0 := Hid.mk hc0
  have HN := Hid.mk (And.intro hbB (And.intro nbw (And.intro nbh nbf)))
  have HTN := Hid.mk hTN
  clear hH hd hF hfr hcw hc0 htot hcm hbB nbw nbh nbf hTN
  go_enter Tryd.func61, Tryd.ntmps61
  apply wp_scope_straight
  go_wp2
  apply wp_label
  go_upto_region 0 with fail
  go_loopg [0, 1] T.size (fun kx aa xx wr => ∃ (T' : Tm) (x' : Int) (b' o' : Nat) (c' : Int), aa = .pointer (some ⟨b', o', none⟩) ∧ xx = .int .u64 x' ∧ Hid (T'.size ≤ kx ∧ kx ≤ T.size) ∧ Hid (Den L xs ks T' x') ∧ Hid (c' + (T'.wordsR - 1) = tot) ∧ Hid (0 ≤ c') ∧
    Hid (wr.cell? ⟨wb, 0, none⟩ = some (.int .i64 c')) ∧ Hid (Free wr b' o') ∧ Hid ((b' = b ∧ o' = o) ∨ w.heap.size ≤ b') ∧ Hid (Kc b o wb w wr) ∧
    Hid (∀ w'', Kc b' o' wb wr w'' → LiesAt w'' (fun k => w.heap.size ≤ k) T' b' o' → LiesAt w'' (fun k => w.heap.size ≤ k) T b o))
  case atStart => exact ⟨T, x, b, o, c, rfl, rfl, Hid.mk ⟨Nat.le_refl _, Nat.le_refl _⟩, HD0, HTOT, HC0, HCW0, HFR0, Hid.mk (Or.inl ⟨rfl, rfl⟩), Hid.mk (Kc.refl _ _ _ _), Hid.mk fun _ _ h => h⟩
  case round =>
    obtain ⟨T', x', b', o', c', rfl, rfl, hsz, hd', htot', hc0', hcw', hfr', hpos, hKc, hcont⟩ := hrel
    obtain ⟨k, n, s, l⟩ := T'
    have hb'B : Hid (W.heap.size ≤ b' ∧ b' ≠ wb ∧ b' ≠ hx ∧ b' ≠ fb) := Hid.mk (by
      rcases hpos.out with ⟨rfl, _⟩ | h1
      · exact HN.out
      · have h2 := hltw.out
        have h3 := World.block_lt_of_cell? w ⟨hx, 0, none⟩ HF0.out.ch
        have h4 := World.block_lt_of_cell? w ⟨fb, 0, none⟩ HF0.out.cf
        have h5 := HF0.out.below.size
        simp only at h3 h4
        exact ⟨by omega, by omega, by omega, by omega⟩)
    have hFwr := Hid.mk (HF0.out.kc hKc.out HN.out.1 HN.out.2.2.1 HN.out.2.2.2)
    have hwbl : Hid (wb < wr.heap.size) := Hid.mk (World.block_lt_of_cell? wr ⟨wb, 0, none⟩ hcw'.out)
    have hb'l : Hid (b' < wr.heap.size) := Hid.mk hfr'.out.lt
    have ch := hFwr.out.ch
    obtain ⟨⟨u0, u1, u2, u3, cu0, cu1, cu2, cu3⟩, fu0, fu1, fu2, fu3⟩ := hfr'.out
    have HBARE := Hid.mk (bare_any hb p bm v L M wv kv xs ks x' k n s l wr (HH.out.up hFwr.out.below) hd'.out)
    go_upto_region 1 with (go_at_call 62; refine HBARE.out.mono ?_; rintro e w1 ⟨rfl, hb1⟩; have ch := cell_below hb1 _ _ _ ch; have cu0 := cell_below hb1 _ _ _ cu0; have cu1 := cell_below hb1 _ _ _ cu1; have cu2 := cell_below hb1 _ _ _ cu2; have cu3 := cell_below hb1 _ _ _ cu3; have fu0 := (hb1.frozen (p := ⟨b', o', none⟩) hb'l.out).trans fu0; have fu1 := (hb1.frozen (p := ⟨b', o' + 1, none⟩) hb'l.out).trans fu1; have fu2 := (hb1.frozen (p := ⟨b', o' + 2, none⟩) hb'l.out).trans fu2; have fu3 := (hb1.frozen (p := ⟨b', o' + 3, none⟩) hb'l.out).trans fu3; have HB1 := Hid.mk hb1; clear hb1)
    have KW1 := Hid.mk ((((Kc.refl b' o' wb wr).then_ HB1.out hb'l.out hwbl.out).put4 hb'B.out.2.1 (.int .i64 k) (.int .i64 n) (.string s) (.slice none 0 0)))
    obtain ⟨p0, p1, p2, p3⟩ := put4_cells (v0 := .int .i64 k) (v1 := .int .i64 n) (v2 := .string s) (v3 := .slice none 0 0) cu0 cu1 cu2 cu3
    have hcw1 := (put4_other (w := w1) (o := o') (v0 := .int .i64 k) (v1 := .int .i64 n) (v2 := .string s) (v3 := .slice none 0 0) (j := 0) hb'B.out.2.1).trans (cell_below HB1.out _ _ _ hcw'.out)
    obtain ⟨W1, hW1⟩ : ∃ W1, (((w1.setCell ⟨b', o', none⟩ (.int .i64 k)).setCell ⟨b', o' + 1, none⟩ (.int .i64 n)).setCell ⟨b', o' + 2, none⟩ (.string s)).setCell ⟨b', o' + 3, none⟩ (.slice none 0 0) = W1 := ⟨_, rfl⟩
    rw [hW1] at KW1 p0 p1 p2 p3 hcw1 ⊢
    clear hW1 cu0 cu1 cu2 cu3 fu0 fu1 fu2 fu3 HB1 HBARE ch
    have FW1 := Hid.mk (hFwr.out.kc KW1.out hb'B.out.1 hb'B.out.2.2.1 hb'B.out.2.2.2)
    have chw := FW1.out.ch
    have hwbl1 : Hid (wb < W1.heap.size) := Hid.mk (World.block_lt_of_cell? W1 ⟨wb, 0, none⟩ hcw1)
    have fw1 := FW1.out.fw
    have P0 := Hid.mk p0
    have P1 := Hid.mk p1
    have P2 := Hid.mk p2
    have P3 := Hid.mk p3
    have hfit : Hid (fitB k n s.size l.length = true) := Hid.mk (by have := hd'.out; rw [den_mk] at this; exact this.1)
    obtain ⟨bl, hbl⟩ : ∃ bl, boxL k l.length = bl := ⟨_, rfl⟩
    have hsp := wr_split hfit.out
    rw [hbl] at hsp
    have hrl := wordsRs_len l
    have HSP := Hid.mk (And.intro hsp hrl)
    have HBX := Hid.mk (fun Wx (hw : Below W.heap.size W Wx) => den_boxN hd'.out hb p bm v M wv kv Wx (HH.out.up hw))
    rw [hbl] at HBX
    have HBL := Hid.mk hbl
    have hadd : IntKind.i64.wrap (c' + bl) = c' + bl := by have h1 := htot'.out; have h2 := HCM.out; have h3 := hc0'.out; exact wrap_id (by omega) (by omega)
    have hle : Hid (c' + bl ≤ 65536 ∧ 0 ≤ c' + bl) := Hid.mk (by have h1 := htot'.out; have h2 := HCM.out; have h3 := hc0'.out; omega)
    clear p0 p1 p2 p3 hsp hrl hbl
    refine wp_region_last (last := 6) (S := Up W1) (by kernel_rfl) ?_
    refine last_take (i := 0) (d := 16) (v := .int .i64 c') rfl rfl (by kernel_rfl) (by kernel_rfl) (by kernel_rfl) (by kernel_rfl) rfl (fun W h => (by have u0 := cell_below h.out _ _ _ hcw1; go_simp)) (fun _ _ _ h => h) (Up.refl W1).drew ?_
    simp only [Act.put, List.setIfInBounds_toArray, List.set_cons_zero, List.set_cons_succ]
    refine last_take (i := 1) (d := 17) (v := .pointer (some ⟨hb, 0, none⟩)) rfl rfl (by kernel_rfl) (by kernel_rfl) (by kernel_rfl) (by kernel_rfl) rfl (fun W h => (by have u0 := cell_below h.out _ _ _ chw; go_simp)) (fun _ _ _ h => h) (Up.refl W1).drew ?_
    simp only [Act.put, List.setIfInBounds_toArray, List.set_cons_zero, List.set_cons_succ]
    refine last_take (i := 2) (d := 18) (v := .int .u64 x') rfl rfl (by kernel_rfl) (by kernel_rfl) (by kernel_rfl) (by kernel_rfl) rfl (fun _ _ => rfl) (fun _ _ _ h => h) (Up.refl W1).drew ?_
    simp only [Act.put, List.setIfInBounds_toArray, List.set_cons_zero, List.set_cons_succ]
    refine last_call (i := 3) (d := 19) (f := 47) (args := #[.pointer (some ⟨hb, 0, none⟩), .int .u64 x']) (by kernel_rfl) rfl rfl rfl (by go_simp) ?_
    refine (HBX.out _ (FW1.out.below.trans ((Below.drew (Below.refl W1.heap.size W1)).mono FW1.out.below.size))).mono ?_
    rintro e w2 ⟨a2, c2, rfl, hb2⟩
    refine ⟨.slice a2 bl c2, rfl, ((Up.refl W1).drew.call hb2), ?_⟩
    simp only [Act.put, List.setIfInBounds_toArray, List.set_cons_zero, List.set_cons_succ]
    refine last_take (i := 4) (d := 20) (v := .int .i64 bl) rfl rfl (by kernel_rfl) (by kernel_rfl) (by kernel_rfl) (by kernel_rfl) rfl (fun _ _ => (by go_simp)) (fun _ _ _ h => h) (((Up.refl W1).drew.call hb2)) ?_
    simp only [Act.put, List.setIfInBounds_toArray, List.set_cons_zero, List.set_cons_succ]
    refine last_take (i := 5) (d := 21) (v := .int .i64 (c' + bl)) rfl rfl (by kernel_rfl) (by kernel_rfl) (by kernel_rfl) (by kernel_rfl) rfl (fun _ _ => (by go_simp)) (fun _ _ _ h => h) (((Up.refl W1).drew.call hb2)) ?_
    simp only [Act.put, List.setIfInBounds_toArray, List.set_cons_zero, List.set_cons_succ]
    refine last_store (w' := w2.setCell ⟨wb, 0, none⟩ (.int .i64 (c' + bl))) (by kernel_rfl) rfl rfl rfl ((by have u0 := cell_below ((Up.refl W1).drew.call hb2).out _ _ _ hcw1; have f0 := (((Up.refl W1).drew.call hb2).out.frozen (p := ⟨wb, 0, none⟩) hwbl1.out).trans fw1; go_simp)) (by kernel_rfl) ?_
    have hb12 := ((Up.refl W1).drew.call hb2).out
    have hwbl2 : wb < w2.heap.size := Nat.lt_of_lt_of_le hwbl1.out hb12.size
    have hb'l2 : b' < w2.heap.size := Nat.lt_of_lt_of_le hb'l.out (Nat.le_trans KW1.out.only.size hb12.size)
    have KW3 := Hid.mk ((KW1.out.then_ hb12 (Nat.lt_of_lt_of_le hb'l.out KW1.out.only.size) hwbl1.out).count hb'B.out.2.1 (.int .i64 (c' + bl)))
    have hcw3 := World.cell?_setCell_same w2 ⟨wb, 0, none⟩ (.int .i64 (c' + bl)) (cell_below hb12 _ _ _ hcw1)
    have oth : ∀ j, (w2.setCell ⟨wb, 0, none⟩ (.int .i64 (c' + bl))).cell? ⟨b', j, none⟩ = w2.cell? ⟨b', j, none⟩ := fun j => World.cell?_setCell_other w2 ⟨wb, 0, none⟩ ⟨b', j, none⟩ _ (by intro e; cases e; exact hb'B.out.2.1 rfl)
    have p0 := (oth _).trans (cell_below hb12 _ _ _ P0.out)
    have p1 := (oth _).trans (cell_below hb12 _ _ _ P1.out)
    have p2 := (oth _).trans (cell_below hb12 _ _ _ P2.out)
    have p3 := (oth _).trans (cell_below hb12 _ _ _ P3.out)
    obtain ⟨W3, hW3⟩ : ∃ W3, w2.setCell ⟨wb, 0, none⟩ (.int .i64 (c' + bl)) = W3 := ⟨_, rfl⟩
    rw [hW3] at KW3 hcw3 p0 p1 p2 p3 ⊢
    have P0 := Hid.mk p0
    have P1 := Hid.mk p1
    have P2 := Hid.mk p2
    have P3 := Hid.mk p3
    have FW3 := Hid.mk (hFwr.out.kc KW3.out hb'B.out.1 hb'B.out.2.2.1 hb'B.out.2.2.2)
    have chw := FW3.out.ch
    clear hW3 oth hb12 hwbl2 hb'l2 hcw1 fw1 p0 p1 p2 p3 hb2 KW1 FW1 HBX
    obtain ⟨ys, hds, hrng, hparts⟩ := den_parts hd'.out
    have HDS := Hid.mk hds
    have HRNG := Hid.mk hrng
    have HPAR := Hid.mk (fun Wx (hw : Below W.heap.size W Wx) => hparts hb p bm v M wv kv Wx (HH.out.up hw))
    clear hds hrng hparts
    have hng : ¬ (65536 : Int) < c' + bl := by have := hle.out.1; omega
    have hng2 : decide ((65536 : Int) < c' + bl) = false := decide_eq_false hng
    by_cases hl0 : l = []
    · subst hl0
      rw [List.length_nil] at HPAR
      go_wp2_with (go_at_call 40; refine (HPAR.out _ FW3.out.below).mono ?_; rintro e w4 ⟨a4, c4, rfl, hs4, hb4⟩; have HB4 := Hid.mk hb4; have hcw3 := cell_below hb4 _ _ _ hcw3; clear hb4 hs4)
      rw [Exit.noGoto_ret]
      refine bodyPost_ret (results_none rfl _ _ _) rfl ?_
      have KW4 := KW3.out.then_ HB4.out (Nat.lt_of_lt_of_le hb'l.out KW3.out.only.size) (Nat.lt_of_lt_of_le hwbl.out KW3.out.only.size)
      refine ⟨⟨_, rfl⟩, hcont.out w4 KW4 ⟨_, _, _, _, cell_below HB4.out _ _ _ P0.out, cell_below HB4.out _ _ _ P1.out, cell_below HB4.out _ _ _ P2.out, cell_below HB4.out _ _ _ P3.out, Lies.mk (l := []) (fit_small hfit.out) ⟨Nat.le_refl _, by omega, Or.inl ⟨rfl, rfl, rfl⟩⟩⟩, hKc.out.onto KW4 hpos.out hlt'.out HN.out.2.1, ?_⟩
      have h1 := htot'.out
      have h2 := HSP.out.1
      rw [wordsRs, List.length_nil] at h2
      rw [hcw3]
      congr 2
      omega
    · obtain ⟨mm, hmm⟩ : ∃ mm, l.length = mm + 1 := ⟨l.length - 1, by have := List.length_pos_iff.2 hl0; omega⟩
      have hm64 : mm + 1 ≤ 64 := by have := hfit.out; rw [hmm] at this; simp only [fitB, decide_eq_true_eq] at this; omega
      obtain ⟨Mz, hMz, hmk⟩ := made_terms (mm + 1) (by omega)
      rw [hmm] at HPAR
      have HMM := Hid.mk hmm
      have HM64 := Hid.mk hm64
      have hsb : IntKind.i64.wrap (((mm + 1 : Nat) : Int) - 1) = (mm : Int) := by rw [wrap_id (by omega) (by omega)]; omega
      have hsz0 : ¬ ((mm + 1 : Nat) : Int) = 0 := by omega
      have hb0 : (((mm + 1 : Nat) : Int) == 0) = false := by simp; omega
      obtain ⟨m, hm⟩ : ∃ m, mm + 1 = m := ⟨_, rfl⟩
      rw [hm] at hMz hmk HPAR hsb hsz0 hb0 HMM HM64
      have HM := Hid.mk hm
      have HMz := Hid.mk hMz
      clear hmm hm64 hm hMz hl0
      have p3 := P3.out
      have fp3 : W3.frozen? ⟨b', o' + 3, none⟩ = false := (KW3.out.frz _).trans hfr'.out.frz.2.2.2
      have hb'3 : b' < W3.heap.size := Nat.lt_of_lt_of_le hb'l.out KW3.out.only.size
      go_upto_region 6 with (go_at_call 40; refine (HPAR.out _ FW3.out.below).mono ?_; rintro e w4 ⟨a4, c4, rfl, hs4, hb4⟩; have HB4 := Hid.mk hb4; have HS4 := Hid.mk hs4; have hcw3 := cell_below hb4 _ _ _ hcw3; have p3 := cell_below hb4 _ _ _ p3; have fp3 := (hb4.frozen (p := ⟨b', o' + 3, none⟩) hb'3).trans fp3; have hmk4 := hmk w4; have hb'4 := Nat.lt_of_lt_of_le hb'3 hb4.size; have p35 := (Below.heap_alloc w4 (.cells Mz 42) b' hb'4); clear hb4 hs4)
      have hwb4 : wb < w4.heap.size := Nat.lt_of_lt_of_le (Nat.lt_of_lt_of_le hwbl.out KW3.out.only.size) HB4.out.size
      have KW4 := (KW3.out.then_ HB4.out hb'3 (Nat.lt_of_lt_of_le hwbl.out KW3.out.only.size)).put hb'B.out.2.1 (o' + 3) (by omega) (.slice (some ⟨w4.heap.size, 0, none⟩) m m)
      obtain ⟨nb, hnb⟩ : ∃ nb, w4.heap.size = nb := ⟨_, rfl⟩
      rw [hnb] at KW4 ⊢
      have hs4z : (w4.setCell ⟨b', o' + 3, none⟩ (.slice (some ⟨nb, 0, none⟩) m m)).heap.size = nb := by rw [size_setCell', hnb]
      have hnew := new_block (w4.setCell ⟨b', o' + 3, none⟩ (.slice (some ⟨nb, 0, none⟩) m m)) (.cells Mz 42)
      rw [hs4z] at hnew
      have hbU : Below (w4.setCell ⟨b', o' + 3, none⟩ (.slice (some ⟨nb, 0, none⟩) m m)).heap.size (w4.setCell ⟨b', o' + 3, none⟩ (.slice (some ⟨nb, 0, none⟩) m m)) ((w4.setCell ⟨b', o' + 3, none⟩ (.slice (some ⟨nb, 0, none⟩) m m)).alloc (.cells Mz 42)) := (Below.refl _ _).alloc (Nat.le_refl _) _
      have KW5 := Hid.mk (KW4.then_ hbU (by have := hb'4; rw [hs4z]; omega) (by have := hwb4; rw [hs4z]; omega))
      have q3 := cell_below hbU _ _ _ (World.cell?_setCell_same w4 ⟨b', o' + 3, none⟩ (.slice (some ⟨nb, 0, none⟩) m m) p3)
      have q0 := cell_below hbU _ _ _ ((World.cell?_setCell_other w4 ⟨b', o' + 3, none⟩ ⟨b', o', none⟩ (.slice (some ⟨nb, 0, none⟩) m m) (by simp)).trans (cell_below HB4.out _ _ _ P0.out))
      have q1 := cell_below hbU _ _ _ ((World.cell?_setCell_other w4 ⟨b', o' + 3, none⟩ ⟨b', o' + 1, none⟩ (.slice (some ⟨nb, 0, none⟩) m m) (by simp)).trans (cell_below HB4.out _ _ _ P1.out))
      have q2 := cell_below hbU _ _ _ ((World.cell?_setCell_other w4 ⟨b', o' + 3, none⟩ ⟨b', o' + 2, none⟩ (.slice (some ⟨nb, 0, none⟩) m m) (by simp)).trans (cell_below HB4.out _ _ _ P2.out))
      have hcw5 := cell_below hbU _ _ _ ((World.cell?_setCell_other w4 ⟨b', o' + 3, none⟩ ⟨wb, 0, none⟩ (.slice (some ⟨nb, 0, none⟩) m m) (by intro e; cases e)).trans hcw3)
      have hBl4 : Below W.heap.size w4 ((w4.setCell ⟨b', o' + 3, none⟩ (.slice (some ⟨nb, 0, none⟩) m m)).alloc (.cells Mz 42)) := (((Below.refl _ _).setCell (p := ⟨b', o' + 3, none⟩) hb'B.out.1 _)).alloc (by rw [hs4z, ← hnb]; exact Nat.le_trans hb'B.out.1 (Nat.le_of_lt hb'4)) _
      obtain ⟨W5, hW5⟩ : ∃ W5, (w4.setCell ⟨b', o' + 3, none⟩ (.slice (some ⟨nb, 0, none⟩) m m)).alloc (.cells Mz 42) = W5 := ⟨_, rfl⟩
      rw [hW5] at hnew KW5 q0 q1 q2 q3 hcw5 hBl4 ⊢
      have FW5 := Hid.mk (hFwr.out.kc KW5.out hb'B.out.1 hb'B.out.2.2.1 hb'B.out.2.2.2)
      have HNB := Hid.mk (show w.heap.size ≤ nb ∧ wr.heap.size ≤ nb ∧ nb ≠ wb ∧ nb ≠ hx ∧ nb ≠ fb ∧ nb ≠ b' ∧ W.heap.size ≤ nb ∧ nb < W5.heap.size from by
        have h1 := hKc.out.only.size
        have h2 := KW3.out.only.size
        have h3 := HB4.out.size
        have h4 := World.block_lt_of_cell? wr ⟨hx, 0, none⟩ hFwr.out.ch
        have h5 := World.block_lt_of_cell? wr ⟨fb, 0, none⟩ hFwr.out.cf
        have h6 := hFwr.out.below.size
        have h7 := (Array.getElem?_eq_some_iff.1 hnew).1
        simp only at h4 h5
        exact ⟨by omega, by omega, by omega, by omega, by omega, by omega, by omega, h7⟩)
      have HNEW := Hid.mk hnew
      have Q0 := Hid.mk q0
      have Q1 := Hid.mk q1
      have Q2 := Hid.mk q2
      have Q3 := Hid.mk q3
      have HCW5 := Hid.mk hcw5
      have HBL4 := Hid.mk hBl4
      have hcap : m ≤ c4 := by have h1 := HS4.out.len; have h2 := HDS.out.length; have h3 := HMM.out; omega
      have hmm1 : mm ≤ c4 := by have := HM.out; omega
      have hmm2 : mm ≤ m := by have := HM.out; omega
      have hcel : Hid (∀ w', Below W.heap.size w4 w' → Cel w' ys a4) := Hid.mk fun w' hb' h0 => by
        obtain ⟨bb, oo, rfl, hc⟩ := HS4.out.cel h0
        refine ⟨bb, oo, rfl, fun j hj => ?_⟩
        have hlt' : bb < W.heap.size := HH.out.own_lt (Or.inr (Or.inr (Or.inl (HS4.out.own _ rfl))))
        exact (hb'.cell (p := ⟨bb, oo + j, none⟩) hlt').trans (hc j hj)
      clear hW5 hnb hs4z hnew hbU KW4 q0 q1 q2 q3 hcw5 hBl4 p3 fp3 hb'3 hb'4 p35 hmk4 hmk hwb4 hcw3 P0 P1 P2 P3 KW3 FW3 chw
      go_wp2
      go_loopw [45] (fun ii w2 => ∃ (i : Nat), i ≤ mm ∧ ii = .int .i64 i ∧ Hid (Only (fun k => k = nb ∨ k = wb) W5 w2) ∧ Hid (∀ j, w2.frozen? ⟨wb, j, none⟩ = W5.frozen? ⟨wb, j, none⟩) ∧ Hid (w2.cell? ⟨wb, 0, none⟩ = some (.int .i64 (c' + bl + (wordsRs (l.take i) - i)))) ∧
        Hid (∀ j (_ : j < i) (hl : j < l.length), LiesAt w2 (fun k => nb < k) l[j] nb (j * 4)) ∧ Hid (∀ j, i ≤ j → j < m → Free w2 nb (j * 4))) (fun ii _ => mm - (intOf ii).toNat)
      case atStart => exact ⟨0, Nat.zero_le _, rfl, Hid.mk (Only.refl _ _), Hid.mk (fun _ => rfl), Hid.mk (by rw [HCW5.out, List.take_zero, wordsRs]; simp), Hid.mk (fun j hj => by omega), Hid.mk (fun j _ hj => Free.row HNEW.out HMz.out hj)⟩
      case round =>
        obtain ⟨i, hi, rfl, hO, hfrw, hcnt, hdone, hfree⟩ := hrel
        have hFi := Hid.mk (FW5.out.beside hO.out (hfrw.out 0) HNB.out.2.2.2.2.2.2.1 HNB.out.2.2.2.1 HNB.out.2.2.2.2.1)
        have hBi := Hid.mk (HBL4.out.trans (hO.out.below (B := W.heap.size) (fun k hk => by rcases hk with rfl | rfl; exact HNB.out.2.2.2.2.2.2.1; exact FW5.out.h1) FW5.out.below.size))
        have hyl : ys.length = m := by rw [HDS.out.length, HMM.out]
        obtain ⟨bb, oo, ha4, hcc⟩ := hcel.out _ hBi.out (by have := HM.out; omega)
        subst ha4
        have q3 := hO.out.cellS (b := b') (by rintro (e | e); exact HNB.out.2.2.2.2.2.1 e.symm; exact hb'B.out.2.1 e) Q3.out
        by_cases hlt : i < mm
        · have hlm : i < m := by omega
          have hll : i < l.length := by rw [HMM.out]; exact hlm
          have hyi : i < ys.length := by rw [hyl]; exact hlm
          have c1 := hcc i hyi
          have hdn := HDS.out.at_ i hll hyi
          have hfi := hfree.out i (Nat.le_refl _) hlm
          have hrs := wordsRs_take l i hll
          have hrl := wordsRs_len (l.drop (i + 1))
          have hcat : wordsRs (l.take (i + 1)) + wordsRs (l.drop (i + 1)) = wordsRs l := by rw [← wordsRs_append, List.take_append_drop]
          have hdl : (l.drop (i + 1)).length = m - (i + 1) := by rw [List.length_drop, HMM.out]
          have hrl0 := wordsRs_len (l.take i)
          rw [List.length_take, HMM.out, Nat.min_eq_left (by omega)] at hrl0
          have hbnd : c' + bl + (wordsRs (l.take i) - i) + (l[i].wordsR - 1) ≤ 65536 ∧ 0 ≤ c' + bl + (wordsRs (l.take i) - i) := by
            have h1 := htot'.out
            have h2 := HCM.out
            have h3 := HSP.out.1
            have h4 := hle.out.2
            rw [HMM.out] at h3
            rw [hdl] at hrl
            exact ⟨by omega, by omega⟩
          have hsT : l[i].size < N := by
            have h1 := hsz.out.1
            have h2 := hsz.out.2
            have h3 := HTN.out
            have h4 := sizes_at l i hll
            rw [Tm.size_mk] at h1
            omega
          have hcall := fun Wx (hw : Below wr.heap.size wr Wx) => ih.out l[i] hsT ys[i] nb (i * 4) (c' + bl + (wordsRs (l.take i) - i)) Wx hdn (hFi.out.up hw (World.block_lt_of_cell? wr ⟨wb, 0, none⟩ hcnt.out)) HNB.out.2.2.2.2.2.2.1 HNB.out.2.2.1 HNB.out.2.2.2.1 HNB.out.2.2.2.2.1
            (hfi.move (fun j _ => hw.cell (p := ⟨nb, i * 4 + j, none⟩) hfi.lt) (fun j => hw.frozen (p := ⟨nb, j, none⟩) hfi.lt)) (cell_below hw _ _ _ hcnt.out) hbnd.2 hbnd.1
          have hcn1 : c' + bl + (wordsRs (l.take i) - i) + (l[i].wordsR - 1) = c' + bl + (wordsRs (l.take (i + 1)) - ((i + 1 : Nat) : Int)) := by rw [hrs]; omega
          rw [hcn1] at hcall
          have HCALL := Hid.mk hcall
          have hwi : IntKind.i64.wrap ((i : Int) + 1) = ((i + 1 : Nat) : Int) := by have := HM64.out; rw [wrap_id (by omega) (by omega)]; omega
          have hstep : Hid (∀ w9, LiesAt w9 (fun k => wr.drew.heap.size ≤ k) l[i] nb (i * 4) → Kc nb (i * 4) wb wr.drew w9 → (∀ j (_ : j < i + 1) (hl : j < l.length), LiesAt w9 (fun k => nb < k) l[j] nb (j * 4)) ∧ (∀ j, i + 1 ≤ j → j < m → Free w9 nb (j * 4))) := Hid.mk fun w9 hL hK => by
            refine ⟨fun j hj hjl => ?_, fun j hj hjm => ?_⟩
            · by_cases he : j = i
              · subst he
                refine hL.move (fun k hk => ?_) (fun _ _ => rfl) (fun _ _ _ _ h => h)
                have h1 := HNB.out.2.2.2.2.2.2.2
                have h2 := hO.out.size
                have h3 : wr.heap.size ≤ k := hk
                omega
              · refine (hdone.out j (by omega) hjl).move (fun _ h => h) (fun q hq => hK.rest _ (Or.inl (by omega))) (fun k i v hk hc => ?_)
                refine hK.only.cellS (b := k) ?_ hc
                have h1 := HNB.out.1
                have h2 := hltw.out
                rintro (e | e) <;> omega
            · exact (hfree.out j (by omega) hjm).move (fun q hq => hK.rest _ (Or.inr (by omega))) (fun q => hK.frz q)
          have hgl : (0 : Int) ≤ i := by omega
          generalize ys[i] = xi at *
          generalize l[i] = Ti at *
          have hlt2 : (i : Int) < mm := by omega
          have hlt3 : (i : Int) < m := by omega
          have HLT := Hid.mk hlt
          have HLM := Hid.mk hlm
          have cf := hFi.out.cf
          rw [fillV] at cf
          obtain ⟨NB, hNB⟩ : ∃ NB : Nat → Prop, (fun k => k = nb ∨ k = wb) = NB := ⟨_, rfl⟩
          have nNf : ¬ NB fb := by rw [← hNB]; rintro (e | e); exact HNB.out.2.2.2.2.1 e.symm; exact FW5.out.n2 e.symm
          have nNb : ¬ NB b' := by rw [← hNB]; rintro (e | e); exact HNB.out.2.2.2.2.2.1 e.symm; exact hb'B.out.2.1 e
          have HNBE := Hid.mk hNB
          clear hNB hcall hcn1 hbnd hsT hrs hrl hcat hdl hrl0 hdn hfi hyi hll hcc hyl
          go_upto_region 10 with fail
          refine wp_region_held (S := Only NB wr) (by kernel_rfl) ?_
          refine chain_take (i := 0) (d := 50) (v := .func (.func 61) #[] #[.pointer (some ⟨hx, 0, none⟩), .pointer (some ⟨wb, 0, none⟩), .pointer (some ⟨fb, 0, none⟩)]) rfl rfl (by kernel_rfl) (by kernel_rfl) (by kernel_rfl) rfl (fun W h => (by have u0 := Only.cellS h nNf cf; go_simp)) (fun _ _ _ h => h) (Only.refl _ wr).drew ?_
          simp only [Act.put, List.setIfInBounds_toArray, List.set_cons_zero, List.set_cons_succ]
          refine chain_take (i := 1) (d := 51) (v := .pointer (some ⟨b', o', none⟩)) rfl rfl (by kernel_rfl) (by kernel_rfl) (by kernel_rfl) rfl (fun _ _ => rfl) (fun _ _ _ h => h) (Only.refl _ wr).drew ?_
          simp only [Act.put, List.setIfInBounds_toArray, List.set_cons_zero, List.set_cons_succ]
          refine chain_take (i := 2) (d := 52) (v := .pointer (some ⟨b', o', none⟩)) rfl rfl (by kernel_rfl) (by kernel_rfl) (by kernel_rfl) rfl (fun _ _ => (by go_simp)) (fun _ _ _ h => h) (Only.refl _ wr).drew ?_
          simp only [Act.put, List.setIfInBounds_toArray, List.set_cons_zero, List.set_cons_succ]
          refine chain_take (i := 3) (d := 53) (v := .pointer (some ⟨b', o' + 3, none⟩)) rfl rfl (by kernel_rfl) (by kernel_rfl) (by kernel_rfl) rfl (fun _ _ => (by go_simp)) (fun _ _ _ h => h) (Only.refl _ wr).drew ?_
          simp only [Act.put, List.setIfInBounds_toArray, List.set_cons_zero, List.set_cons_succ]
          refine chain_take (i := 4) (d := 54) (v := .slice (some ⟨nb, 0, none⟩) m m) rfl rfl (by kernel_rfl) (by kernel_rfl) (by kernel_rfl) rfl (fun W h => (by have u0 := Only.cellS h nNb q3; go_simp)) (fun _ _ _ h => h) (Only.refl _ wr).drew ?_
          simp only [Act.put, List.setIfInBounds_toArray, List.set_cons_zero, List.set_cons_succ]
          refine chain_take (i := 5) (d := 55) (v := .int .i64 i) rfl rfl (by kernel_rfl) (by kernel_rfl) (by kernel_rfl) rfl (fun _ _ => rfl) (fun _ _ _ h => h) (Only.refl _ wr).drew ?_
          simp only [Act.put, List.setIfInBounds_toArray, List.set_cons_zero, List.set_cons_succ]
          refine chain_take (i := 6) (d := 56) (v := .pointer (some ⟨nb, i * 4, none⟩)) rfl rfl (by kernel_rfl) (by kernel_rfl) (by kernel_rfl) rfl (fun _ _ => (by go_simp)) (fun _ _ _ h => h) (Only.refl _ wr).drew ?_
          simp only [Act.put, List.setIfInBounds_toArray, List.set_cons_zero, List.set_cons_succ]
          refine chain_take (i := 7) (d := 57) (v := .int .u64 xi) rfl rfl (by kernel_rfl) (by kernel_rfl) (by kernel_rfl) rfl (fun _ _ => rfl) (fun _ _ _ h => h) (Only.refl _ wr).drew ?_
          simp only [Act.put, List.setIfInBounds_toArray, List.set_cons_zero, List.set_cons_succ]
          refine chain_call (i := 8) (d := 58) (f := 61) (args := #[.pointer (some ⟨nb, i * 4, none⟩), .int .u64 xi, .pointer (some ⟨hx, 0, none⟩), .pointer (some ⟨wb, 0, none⟩), .pointer (some ⟨fb, 0, none⟩)]) (by kernel_rfl) rfl rfl rfl (by go_simp) ?_
          refine (HCALL.out _ (Below.drew (Below.refl _ _))).mono ?_
          rintro e w9 ⟨⟨u9', rfl⟩, hL9, hK9, hc9⟩
          refine ⟨u9', rfl, (by rw [← HNBE.out]; exact (Only.refl _ wr).drew.trans hK9.only (fun _ h => Or.inl h)), ?_⟩
          simp only [Act.put, List.setIfInBounds_toArray, List.set_cons_zero, List.set_cons_succ]
          refine wpAnyH_done (by kernel_rfl) ?_ _
          have hO9 : Only (fun k => k = nb ∨ k = wb) wr w9 := (Only.refl _ wr).drew.trans hK9.only (fun _ h => Or.inl h)
          have hR9 := Hid.mk (hstep.out w9 hL9 hK9)
          have hO95 := Hid.mk (hO.out.trans hO9 (fun _ h => Or.inl h))
          have hf95 := Hid.mk (fun j => (hK9.frw j).trans (hfrw.out j) : ∀ j, w9.frozen? ⟨wb, j, none⟩ = W5.frozen? ⟨wb, j, none⟩)
          have HC9 := Hid.mk hc9
          clear hL9 hK9 hO9 hc9 hstep cf
          go_wp2
          go_roundw
          case rel => exact ⟨i + 1, HLT.out, by first | rfl | go_num, hO95, hf95, HC9, Hid.mk hR9.out.1, Hid.mk hR9.out.2⟩
          case measure =>
            have := HLT.out
            simp [intOf]
            omega
        · have he : i = mm := by omega
          subst he
          have hlm : i < m := by have := HM.out; omega
          have hll : i < l.length := by rw [HMM.out]; exact hlm
          have hyi : i < ys.length := by rw [hyl]; exact hlm
          have c1 := hcc i hyi
          have hdn := Hid.mk (HDS.out.at_ i hll hyi)
          have hfi := Hid.mk (hfree.out i (Nat.le_refl _) hlm)
          have hrs := wordsRs_take l i hll
          have hta : l.take (i + 1) = l := List.take_of_length_le (by rw [HMM.out]; have := HM.out; omega)
          rw [hta] at hrs
          have htt : Hid (c' + bl + (wordsRs (l.take i) - i) + (l[i].wordsR - 1) = tot ∧ 0 ≤ c' + bl + (wordsRs (l.take i) - i)) := Hid.mk (by
            have h1 := htot'.out
            have h3 := HSP.out.1
            have h4 := hle.out.2
            have h5 := wordsRs_len (l.take i)
            rw [List.length_take, HMM.out, Nat.min_eq_left (by omega)] at h5
            rw [HMM.out] at h3
            have := HM.out
            exact ⟨by omega, by omega⟩)
          have hsz2 : Hid (l[i].size < gk ∧ gk ≤ T.size) := Hid.mk (by
            have h1 := hsz.out.1
            have h2 := hsz.out.2
            have h4 := sizes_at l i hll
            rw [Tm.size_mk] at h1
            exact ⟨by omega, h2⟩)
          have hcn : Hid (∀ w10, Up wr w10 → (∀ w'', Kc nb (i * 4) wb w10 w'' → LiesAt w'' (fun k => w.heap.size ≤ k) l[i] nb (i * 4) → LiesAt w'' (fun k => w.heap.size ≤ k) T b o) ∧ Kc b o wb w w10) := Hid.mk fun w10 hu => by
            have hwbr : wb < wr.heap.size := World.block_lt_of_cell? wr ⟨wb, 0, none⟩ hcnt.out
            have hnbr : nb < wr.heap.size := hfi.out.lt
            have K1 : Kc b o wb w wr := (hKc.out.onto KW5.out hpos.out hlt'.out HN.out.2.1).beside hO.out hfrw.out HNB.out.1 hlt'.out HN.out.2.1
            have K2 := KW5.out.beside hO.out hfrw.out HNB.out.2.1 hb'l.out hb'B.out.2.1
            have hb'r : b' < wr.heap.size := Nat.lt_of_lt_of_le hb'l.out K2.only.size
            refine ⟨fun w'' hk hL => hcont.out w'' ?_ ?_, K1.then_ hu.out (Nat.lt_of_lt_of_le hlt'.out K1.only.size) hwbr⟩
            · exact (K2.then_ hu.out hb'r hwbr).beside hk.only hk.frw HNB.out.2.1 hb'l.out hb'B.out.2.1
            · have mv : ∀ {j : Nat} {u : Value}, W5.cell? ⟨b', j, none⟩ = some u → w''.cell? ⟨b', j, none⟩ = some u := fun hc => by
                have nn : ¬ (b' = nb ∨ b' = wb) := by rintro (e | e); exact HNB.out.2.2.2.2.2.1 e.symm; exact hb'B.out.2.1 e
                exact hk.only.cellS nn (cell_below hu.out _ _ _ (hO.out.cellS nn hc))
              refine ⟨_, _, _, _, mv Q0.out, mv Q1.out, mv Q2.out, mv Q3.out, ?_⟩
              have hls : Lst w'' (fun k => w.heap.size ≤ k) l (some ⟨nb, 0, none⟩) m := by
                refine ⟨Nat.le_of_eq HMM.out, by have := HM64.out; omega, Or.inr ⟨_, rfl, fun _ => ⟨HNB.out.1, rfl⟩, Row.of fun j hj => ?_⟩⟩
                have key : LiesAt w'' (fun k => w.heap.size ≤ k) l[j] nb (j * 4) := by
                  by_cases he : j = i
                  · subst he; exact hL
                  · have hjl : j < i := by rw [HMM.out] at hj; have := HM.out; omega
                    refine (hdone.out j hjl hj).move (fun k hk => by have := HNB.out.1; omega) (fun q hq => ?_) (fun k i' v hk' hc => ?_)
                    · rw [hk.rest _ (Or.inl (by omega))]
                      exact hu.out.cell (p := ⟨nb, j * 4 + q, none⟩) hnbr
                    · refine hk.only.cellS (b := k) ?_ (cell_below hu.out _ _ _ hc)
                      have h1 := HNB.out.1
                      have h2 := hltw.out
                      rintro (e | e) <;> omega
                obtain ⟨v0, v1, v2, v3, c0, c1, c2, c3, hl⟩ := key
                exact ⟨v0, v1, v2, v3, by rw [Nat.zero_add]; exact c0, by rw [Nat.zero_add]; exact c1, by rw [Nat.zero_add]; exact c2, by rw [Nat.zero_add]; exact c3, hl⟩
              have := Lies.mk (fit_small hfit.out) hls
              rw [HMM.out] at this
              exact this
          generalize ys[i] = xi at *
          generalize l[i] = Ti at *
          have hlt3 : (i : Int) < m := by omega
          clear hcc hyi hll hrs hta
          go_upto_region 12 with fail
          refine region_up (W := wr) (by kernel_rfl) (by kernel_rfl) (Up.refl _) ?_
          refine quiet_value (v := .pointer (some ⟨b', o', none⟩)) rfl (fun _ _ => rfl) ?_
          simp only [Act.put, List.setIfInBounds_toArray, List.set_cons_zero, List.set_cons_succ]
          refine quiet_value (v := .pointer (some ⟨b', o', none⟩)) rfl (fun _ _ => (by go_simp)) ?_
          simp only [Act.put, List.setIfInBounds_toArray, List.set_cons_zero, List.set_cons_succ]
          refine quiet_value (v := .pointer (some ⟨b', o' + 3, none⟩)) rfl (fun _ _ => (by go_simp)) ?_
          simp only [Act.put, List.setIfInBounds_toArray, List.set_cons_zero, List.set_cons_succ]
          refine quiet_value (v := .slice (some ⟨nb, 0, none⟩) m m) rfl (fun W h => (by have u0 := cell_below h.out _ _ _ q3; go_simp)) ?_
          simp only [Act.put, List.setIfInBounds_toArray, List.set_cons_zero, List.set_cons_succ]
          refine quiet_value (v := .int .i64 i) rfl (fun _ _ => rfl) ?_
          simp only [Act.put, List.setIfInBounds_toArray, List.set_cons_zero, List.set_cons_succ]
          refine quiet_value (v := .pointer (some ⟨nb, i * 4, none⟩)) rfl (fun _ _ => (by go_simp)) ?_
          simp only [Act.put, List.setIfInBounds_toArray, List.set_cons_zero, List.set_cons_succ]
          refine quiet_value (v := .slice (some ⟨bb, oo, none⟩) m c4) rfl (fun _ _ => rfl) ?_
          simp only [Act.put, List.setIfInBounds_toArray, List.set_cons_zero, List.set_cons_succ]
          refine quiet_value (v := .int .i64 i) rfl (fun _ _ => rfl) ?_
          simp only [Act.put, List.setIfInBounds_toArray, List.set_cons_zero, List.set_cons_succ]
          refine quiet_value (v := .pointer (some ⟨bb, oo + i, none⟩)) rfl (fun _ _ => (by go_simp)) ?_
          simp only [Act.put, List.setIfInBounds_toArray, List.set_cons_zero, List.set_cons_succ]
          refine quiet_value (v := .int .u64 xi) rfl (fun W h => (by have u0 := cell_below h.out _ _ _ c1; go_simp)) ?_
          simp only [Act.put, List.setIfInBounds_toArray, List.set_cons_zero, List.set_cons_succ]
          refine quiet_value (v := .pointer (some ⟨nb, i * 4, none⟩)) rfl (fun _ _ => rfl) ?_
          simp only [Act.put, List.setIfInBounds_toArray, List.set_cons_zero]
          refine quiet_value (v := .int .u64 xi) rfl (fun _ _ => rfl) ?_
          simp only [Act.put, List.setIfInBounds_toArray, List.set_cons_zero, List.set_cons_succ]
          refine quiet_nil ?_
          intro w10 hw10
          have HU := Hid.mk hw10
          clear hw10
          go_wp2
          go_roundg Ti.size
          case measure => exact hsz2.out.1
          case rel => exact ⟨Ti, xi, nb, i * 4, _, rfl, rfl, Hid.mk ⟨Nat.le_refl _, Nat.le_trans (Nat.le_of_lt hsz2.out.1) hsz2.out.2⟩, hdn, Hid.mk htt.out.1, Hid.mk htt.out.2, Hid.mk (cell_below HU.out.out _ _ _ hcnt.out), Hid.mk (hfi.out.move (fun j _ => HU.out.out.cell (p := ⟨nb, i * 4 + j, none⟩) hfi.out.lt) (fun j => HU.out.out.frozen (p := ⟨nb, j, none⟩) hfi.out.lt)), Hid.mk (Or.inr HNB.out.1), Hid.mk (hcn.out w10 HU.out).2, Hid.mk (hcn.out w10 HU.out).1⟩

theorem fill_any (W : World) (hb p bm : Nat) (v : Value) (L : List ByteArray) (M : Nat) (wv kv : Value) (xs ks : List Int) (hx wb fb : Nat) (hH : Hea W hb p bm v L M wv kv xs ks) : ∀ (N : Nat) (T : Tm), T.size < N → ∀ (x : Int) (b o : Nat) (c : Int) (w : World), Den L xs ks T x → Fil W w hb hx wb fb → W.heap.size ≤ b → b ≠ wb → b ≠ hx → b ≠ fb → Free w b o → w.cell? ⟨wb, 0, none⟩ = some (.int .i64 c) → 0 ≤ c → c + (T.wordsR - 1) ≤ 65536 →
      Calls Tryd.prog 61 #[.pointer (some ⟨b, o, none⟩), .int .u64 x, .pointer (some ⟨hx, 0, none⟩), .pointer (some ⟨wb, 0, none⟩), .pointer (some ⟨fb, 0, none⟩)] w fun e w' => (∃ u, e = .returned u) ∧ LiesAt w' (fun k => w.heap.size ≤ k) T b o ∧ Kc b o wb w w' ∧ w'.cell? ⟨wb, 0, none⟩ = some (.int .i64 (c + (T.wordsR - 1)))
  | 0, T, hT => by omega
  | N + 1, T, hT => fun x b o c w hd hF hbB n1 n2 n3 hfr hcw hc0 hcm => fill_of W hb p bm v L M wv kv xs ks hx wb fb hH N (fill_any W hb p bm v L M wv kv xs ks hx wb fb hH N) T (by omega) x b o c w hd hF hbB n1 n2 n3 hfr hcw hc0 hcm
end Go.Proofs.YtaiiicmldogjoaaDoor
