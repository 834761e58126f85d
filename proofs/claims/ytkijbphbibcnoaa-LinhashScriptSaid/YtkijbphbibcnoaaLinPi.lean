/-
  An item taken out of the program's buckets.
-/
import Derived.Test.YtkijbphbibcnoaaLinPh
import Derived.Test.YtkijbphbibcnoaaKitRound
import Derived.Deep.RegionHeld3
namespace Go.Proofs.Ytkijbphbibcnoaa
open Go.RowKit Go.Deep Go.Maps Go.WideShapes

attribute [local go_sem] Oper.semAt_some

theorem want_none (q : It → Bool) (l : List It) : ∀ (n : Nat), n ≤ l.length → wantT q l n = [] → ∀ j (_ : j < n) (hj : j < l.length), q l[j] = false := by
  intro n
  induction n with
  | zero => intro _ _ j h; omega
  | succ n ih =>
    intro hn h j hj hl
    rw [wantT_succ q (by omega)] at h
    obtain ⟨h1, h2⟩ := List.append_eq_nil_iff.1 h
    by_cases e : j = n
    · subst e
      cases hq : q l[j] with
      | false => rfl
      | true => rw [if_pos hq] at h2; cases h2
    · exact ih (by omega) h1 j (by omega) hl
theorem want_first (q : It → Bool) (l : List It) (x : It × Nat) : ∀ (n : Nat), n ≤ l.length → [x] <+: wantT q l n → ∃ hx : x.2 < l.length, l[x.2] = x.1 ∧ q x.1 = true ∧ ∀ j (_ : j < x.2) (hj : j < l.length), q l[j] = false := by
  intro n
  induction n with
  | zero => intro _ h; rw [wantT_zero] at h; cases List.prefix_nil.1 h
  | succ n ih =>
    intro hn h
    rw [wantT_succ q (by omega)] at h
    cases hw : wantT q l n with
    | cons y r =>
      refine ih (by omega) ?_
      rw [hw] at h ⊢
      obtain ⟨z, hz⟩ := h
      simp only [List.cons_append, List.nil_append, List.cons.injEq] at hz
      exact ⟨r, by rw [hz.1]; rfl⟩
    | nil =>
      rw [hw, List.nil_append] at h
      cases hq : q (l[n]'(by omega)) with
      | false => rw [if_neg (by rw [hq]; decide)] at h; cases List.prefix_nil.1 h
      | true =>
        rw [if_pos hq] at h
        obtain ⟨z, hz⟩ := h
        simp only [List.cons_append, List.nil_append, List.cons.injEq] at hz
        obtain ⟨rfl, _⟩ := hz
        exact ⟨by show n < l.length; omega, rfl, hq, fun j h1 h2 => want_none q l n (by omega) hw j h1 h2⟩
/-- The first item that is wanted goes. -/
theorem first_erase (l : List It) (y : It) (x : It × Nat) (h : [x] <+: wantT (fun z => decide (z = y)) l l.length) : x.2 < l.length ∧ y ∈ l ∧ l.erase y = l.take x.2 ++ l.drop (x.2 + 1) := by
  obtain ⟨hx, h1, h2, h3⟩ := want_first _ l x l.length (Nat.le_refl _) h
  have e : x.1 = y := of_decide_eq_true h2
  refine ⟨hx, by rw [← e, ← h1]; exact List.getElem_mem hx, erase_at hx (by rw [h1, e]) fun j hj hl => of_decide_eq_false (h3 j hj hl)⟩
theorem none_in (l : List It) (y : It) (h : wantT (fun z => decide (z = y)) l l.length = []) : ¬ y ∈ l := fun hm => by
  obtain ⟨j, hj, e⟩ := List.mem_iff_getElem.1 hm
  have := want_none _ l l.length (Nat.le_refl _) h j hj hj
  exact (of_decide_eq_false this) e

/-- What is returned out of a variable that holds a bool. -/
theorem results_bool {fn : Func} {p : Tmp} (h : fn.results = #[.cell p 4]) (tmps : Array Value) {w : World} {b : Nat} (hp : tmps.getD p undef = .pointer (some ⟨b, 0, none⟩)) {v : Value} (c0 : w.cell? ⟨b, 0, none⟩ = some v) :
    (results fn tmps).run Try.prog w = .ok v w := by
  have hp' : tmps[p]?.getD undef = .pointer (some ⟨b, 0, none⟩) := by simpa using hp
  have hagg : (isAgg 4).run Try.prog w = .ok false w := run_isAgg_plain Try.underlying4 rfl w
  simp [results, h, hp', asAddr, loadVar, Sem.run_bind, hagg, c0]

set_option maxHeartbeats 16000000 in
set_option maxRecDepth 100000 in
theorem removeP_any (w : World) (p least : Nat) (S : Nat → Prop) (B : Bks) (h : Nat) (id : Int) (hb : LbP w p least S B) (hF : Fine B) (hh : h < 4294967296) :
    Calls Try.prog 14 #[.pointer (some ⟨p, 0, none⟩), .int .u32 h, .int .i64 id] w fun e w' => e = .returned (.bool (hasB B h id)) ∧ StL LbP w p least S (removeB B h id) w' := by
  obtain ⟨v, hb⟩ := hb
  have hfl := hF.len
  have hfs := hF.size
  have h1 := hF.placed.some_
  have hlt := ofB_lt h1 h
  -- the boxes
  obtain ⟨W1, hW1⟩ : ∃ W1, w.alloc (.cells #[.pointer (some ⟨p, 0, none⟩)] 23) = W1 := ⟨_, rfl⟩
  obtain ⟨W2, hW2⟩ : ∃ W2, W1.alloc (.cells #[.int .u32 h] 32) = W2 := ⟨_, rfl⟩
  obtain ⟨W3, hW3⟩ : ∃ W3, W2.alloc (.cells #[.int .i64 id] 3) = W3 := ⟨_, rfl⟩
  obtain ⟨W4, hW4⟩ : ∃ W4, W3.alloc (.cells #[.bool false] 4) = W4 := ⟨_, rfl⟩
  obtain ⟨I, hI⟩ : ∃ I, ofB B h = I := ⟨_, rfl⟩
  obtain ⟨W5, hW5⟩ : ∃ W5, W4.alloc (.cells #[.int .i64 I] 3) = W5 := ⟨_, rfl⟩
  have hz1 : W1.heap.size = w.heap.size + 1 := by rw [← hW1]; simp
  have hz2 : W2.heap.size = w.heap.size + 1 + 1 := by rw [← hW2]; simp [hz1]
  have hz3 : W3.heap.size = w.heap.size + 1 + 1 + 1 := by rw [← hW3]; simp [hz2]
  have hz4 : W4.heap.size = w.heap.size + 1 + 1 + 1 + 1 := by rw [← hW4]; simp [hz3]
  have hz5 : W5.heap.size = w.heap.size + 1 + 1 + 1 + 1 + 1 := by rw [← hW5]; simp [hz4]
  have hu1 : Up w W1 := by rw [← hW1]; exact Up.alloc (Up.refl w)
  have hu2 : Up W1 W2 := by rw [← hW2]; exact Up.alloc (Up.refl W1)
  have hu3 : Up W2 W3 := by rw [← hW3]; exact Up.alloc (Up.refl W2)
  have hu4 : Up W3 W4 := by rw [← hW4]; exact Up.alloc (Up.refl W3)
  have hu5 : Up W4 W5 := by rw [← hW5]; exact Up.alloc (Up.refl W4)
  have u12 := hu1.call hu2.out
  have u13 := u12.call hu3.out
  have u14 := u13.call hu4.out
  have u15 := u14.call hu5.out
  have p4 : W4.cell? ⟨w.heap.size, 0, none⟩ = some (.pointer (some ⟨p, 0, none⟩)) := cell_below ((hu2.call hu3.out).call hu4.out).out _ _ _ (by rw [← hW1]; exact new_cell _ _ _ 0)
  have h4 : W4.cell? ⟨w.heap.size + 1, 0, none⟩ = some (.int .u32 h) := cell_below (hu3.call hu4.out).out _ _ _ (by rw [← hW2, ← hz1]; exact new_cell _ _ _ 0)
  have i4 : W4.cell? ⟨w.heap.size + 1 + 1, 0, none⟩ = some (.int .i64 id) := cell_below hu4.out _ _ _ (by rw [← hW3, ← hz2]; exact new_cell _ _ _ 0)
  have b4 : W4.heap[w.heap.size + 1 + 1 + 1]? = some (.cells #[.bool false] 4) := by rw [← hW4, ← hz3]; exact new_block _ _
  have n5 : W5.cell? ⟨w.heap.size + 1 + 1 + 1 + 1, 0, none⟩ = some (.int .i64 I) := by rw [← hW5, ← hz4]; exact new_cell _ _ _ 0
  have p5 := cell_below hu5.out _ _ _ p4
  have h5 := cell_below hu5.out _ _ _ h4
  have i5 := cell_below hu5.out _ _ _ i4
  have b5 := (Only.up (S := fun _ => False) hu5.out).box b4 (fun f => f)
  have hb4 := hb.up u14.out
  obtain ⟨⟨a0, a1, _, _⟩, hy1, hy2⟩ := bxP_cells hb4
  have hb5 := hb.up u15.out
  obtain ⟨⟨e0, c5, _, _⟩, hy3, hy4⟩ := bxP_cells hb5
  clear hy1 hy2 hy3 hy4
  obtain ⟨g, cap, a', c, rfl, hcap, d5, hz0, hrow, NP, NG, hgp, hTS, hSg, hput⟩ := hb5.hand hlt
  have hln := rowB_len_le B (ofB B h)
  have hhas : hasB B h id = decide ((h, id) ∈ rowB B (ofB B h)) := rfl
  have hrem : removeB B h id = B.set (ofB B h) ((rowB B (ofB B h)).erase (h, id)) := rfl
  have hsz := fun (e : hasB B h id = true) => szB_remove h1 e
  have hno := fun (e : hasB B h id = false) => removeB_not e
  rw [hhas] at hno hsz
  rw [hrem] at hno hsz
  rw [hhas, hrem]
  clear hhas hrem
  rw [rowB_lt hlt] at hln hno hsz ⊢
  have HC := Hid.mk (bucketL_same a1 hh h1 (by omega) (m := ofB B h) rfl)
  generalize ofB B h = I' at *
  subst hI
  obtain ⟨R, hR⟩ : ∃ R, B[I'] = R := ⟨_, rfl⟩
  rw [hR] at d5 hrow hln hno hsz ⊢
  obtain ⟨M, hM⟩ : ∃ M, R.length = M := ⟨_, rfl⟩
  rw [hM] at d5 hrow hln
  have hli : (I' : Int) < B.length := by omega
  have hmf : ∀ (fn : Fn) (first cap : Array Value) (w : World), (Instr.makeFunc fn first cap).run Try.prog w = .ok (.func fn first cap) w := fun _ _ _ _ => rfl
  have HPUT := Hid.mk hput
  have HROW := Hid.mk hrow
  have HB5 := Hid.mk hb5
  have HU := Hid.mk u15
  have HZ := Hid.mk hz5
  have HSZ := Hid.mk (And.intro hsz hno)
  have HM := Hid.mk hM
  have HN := Hid.mk (And.intro hln (And.intro hfl (And.intro hfs h1)))
  have HG := Hid.mk (And.intro NP (And.intro NG (And.intro hgp (And.intro hTS (And.intro hSg hz0)))))
  have HB := Hid.mk hb
  have HBR := Hid.mk b5
  have HD5 := Hid.mk d5
  have HRI := Hid.mk (fun (hk : I' < B.length) => show B[I'] = R from hR)
  clear hput hrow hb4 hb5 hb hu1 hu2 hu3 hu4 hu5 u12 u13 u14 u15 hln hfl hfs h1 hsz hno hM NP NG hgp hTS hSg hz0 hF hlt b4 b5 e0 hR hcap
  refine (callsIn_wide (n := 9)).1 ?_
  refine callsIn_of_wp_marks Try.func14 rfl trivial ?_ rfl
  simp only [Try.ntmps14, List.size_toArray, List.length_cons, List.length_nil, Nat.reduceAdd, Nat.reduceSub, Array.replicate_succ, Array.replicate_zero, List.push_toArray, List.append_toArray, List.nil_append, List.cons_append]
  refine wpIn_wide.2 ?_
  go_upto_region 4 with (first
    | (go_at_call 37; refine (madeL_cell _ _ a0).mono ?_; rintro e w2 ⟨rfl, rfl⟩)
    | (go_at_call 38; refine HC.out.mono ?_; rintro e w2 ⟨rfl, rfl⟩))
  refine wp_region_noPanic ?_
  refine wp_region_last (last := 8) (S := Up W5) (by kernel_rfl) ?_
  refine last_take (i := 0) (d := 16) (v := .pointer (some ⟨p, 0, none⟩)) rfl rfl (by kernel_rfl) (by kernel_rfl) (by kernel_rfl) (by kernel_rfl) rfl (fun W h => (by have u0 := cell_below h.out _ _ _ p5; go_simp)) (fun _ _ _ h => h) (Up.refl W5).drew ?_
  simp only [Act.put, List.setIfInBounds_toArray, List.set_cons_zero, List.set_cons_succ]
  refine last_take (i := 1) (d := 17) (v := .pointer (some ⟨p, 0, none⟩)) rfl rfl (by kernel_rfl) (by kernel_rfl) (by kernel_rfl) (by kernel_rfl) rfl (fun _ _ => (by go_simp)) (fun _ _ _ h => h) (Up.refl W5).drew ?_
  simp only [Act.put, List.setIfInBounds_toArray, List.set_cons_zero, List.set_cons_succ]
  refine last_take (i := 2) (d := 18) (v := .pointer (some ⟨p, 1, none⟩)) rfl rfl (by kernel_rfl) (by kernel_rfl) (by kernel_rfl) (by kernel_rfl) rfl (fun _ _ => (by go_simp)) (fun _ _ _ h => h) (Up.refl W5).drew ?_
  simp only [Act.put, List.setIfInBounds_toArray, List.set_cons_zero, List.set_cons_succ]
  refine last_take (i := 3) (d := 19) (v := .slice (some ⟨g, 0, none⟩) B.length cap) rfl rfl (by kernel_rfl) (by kernel_rfl) (by kernel_rfl) (by kernel_rfl) rfl (fun W h => (by have u0 := cell_below h.out _ _ _ c5; go_simp)) (fun _ _ _ h => h) (Up.refl W5).drew ?_
  simp only [Act.put, List.setIfInBounds_toArray, List.set_cons_zero, List.set_cons_succ]
  refine last_take (i := 4) (d := 20) (v := .int .i64 I') rfl rfl (by kernel_rfl) (by kernel_rfl) (by kernel_rfl) (by kernel_rfl) rfl (fun W h => (by have u0 := cell_below h.out _ _ _ n5; go_simp)) (fun _ _ _ h => h) (Up.refl W5).drew ?_
  simp only [Act.put, List.setIfInBounds_toArray, List.set_cons_zero, List.set_cons_succ]
  refine last_take (i := 5) (d := 21) (v := .pointer (some ⟨g, I', none⟩)) rfl rfl (by kernel_rfl) (by kernel_rfl) (by kernel_rfl) (by kernel_rfl) rfl (fun _ _ => (by go_simp)) (fun _ _ _ h => h) (Up.refl W5).drew ?_
  simp only [Act.put, List.setIfInBounds_toArray, List.set_cons_zero, List.set_cons_succ]
  refine last_take (i := 6) (d := 22) (v := .slice a' M c) rfl rfl (by kernel_rfl) (by kernel_rfl) (by kernel_rfl) (by kernel_rfl) rfl (fun W h => (by have u0 := cell_below h.out _ _ _ d5; go_simp)) (fun _ _ _ h => h) (Up.refl W5).drew ?_
  simp only [Act.put, List.setIfInBounds_toArray, List.set_cons_zero, List.set_cons_succ]
  obtain ⟨WD, hWD⟩ : ∃ WD, ({ W5 with drawn := W5.drawn + 1 } : World) = WD := ⟨_, rfl⟩
  have HD : Up W5 WD := by rw [← hWD]; exact (Up.refl W5).drew
  have hzd : WD.heap.size = w.heap.size + 1 + 1 + 1 + 1 + 1 := by rw [← hWD]; exact hz5
  rw [hWD]
  clear hWD
  refine last_value (i := 7) (d := 8) (v := .pointer (some ⟨WD.heap.size, 0, none⟩)) (w' := WD.alloc (.cells #[.slice none 0 0] 43)) (by kernel_rfl) rfl rfl rfl (by go_simp) (Up.alloc HD) ?_
  simp only [Act.put, List.setIfInBounds_toArray, List.set_cons_zero, List.set_cons_succ]
  refine last_store (w' := WD.alloc (.cells #[.slice a' M c] 43)) (by kernel_rfl) rfl rfl rfl (by go_simp) (by kernel_rfl) ?_
  obtain ⟨W6, hW6⟩ : ∃ W6, WD.alloc (.cells #[.slice a' M c] 43) = W6 := ⟨_, rfl⟩
  have U6 : Up W5 W6 := by rw [← hW6]; exact Up.alloc HD
  have c6 : W6.cell? ⟨WD.heap.size, 0, none⟩ = some (.slice a' M c) := by rw [← hW6]; exact new_cell _ _ _ 0
  have hz6 : W6.heap.size = WD.heap.size + 1 := by rw [← hW6]; simp
  rw [hW6]
  have p6 := cell_below U6.out _ _ _ p5
  have h6 := cell_below U6.out _ _ _ h5
  have i6 := cell_below U6.out _ _ _ i5
  have n6 := cell_below U6.out _ _ _ n5
  have g6 := cell_below U6.out _ _ _ c5
  have HZD := Hid.mk hzd
  have HZ6 := Hid.mk hz6
  have HU6 := Hid.mk U6
  clear hW6 hzd hz6 U6 HD p5 h5 i5 n5 c5 p4 h4 i4 a0 a1 d5
  simp only [NoPanic]
  go_wp2_with (go_at_call 40; refine (wanted_any _ _ _ _ _ _).mono ?_; rintro e w' ⟨rfl, rfl⟩)
  obtain ⟨w8, hw8⟩ : ∃ w8, (W6.alloc (.cells #[.slice a' M c] 43)).alloc (.cells #[.func (.func 41) #[] #[.pointer (some ⟨w.heap.size + 1, 0, none⟩), .pointer (some ⟨w.heap.size + 1 + 1, 0, none⟩)]] 72) = w8 := ⟨_, rfl⟩
  rw [hw8]
  have U8 : Up W6 w8 := by rw [← hw8]; exact Up.alloc (Up.alloc (Up.refl W6))
  have hz8 : w8.heap.size = W6.heap.size + 2 := by rw [← hw8]; simp
  have hbc : w8.heap[W6.heap.size]? = some (.cells #[.slice a' R.length c] 43) := by rw [← hw8, HM.out]; exact new_block1 _ _ _
  have hbw : w8.heap[W6.heap.size + 1]? = some (.cells #[.func (.func 41) #[] #[.pointer (some ⟨w.heap.size + 1, 0, none⟩), .pointer (some ⟨w.heap.size + 1 + 1, 0, none⟩)]] 72) := by rw [← hw8]; exact new_block2 _ _ _
  clear hw8
  have U58 : Up W5 w8 := HU6.out.call U8.out
  have p8 := cell_below U8.out _ _ _ p6
  have h8 := cell_below U8.out _ _ _ h6
  have i8 := cell_below U8.out _ _ _ i6
  have n8 := cell_below U8.out _ _ _ n6
  have g8 := cell_below U8.out _ _ _ g6
  have c8 := cell_below U8.out _ _ _ c6
  have b8 := (Only.up (S := fun _ => False) U58.out).box HBR.out (fun f => f)
  have hrow8 : Its w8 (.slice a' M c) R := HROW.out.up U58.out
  have hcel8 : CelT w8 R a' := its_cel hrow8
  have hsz8 : W5.heap.size ≤ W6.heap.size := HU6.out.size
  have hPa : ∀ ad, a' = some ad → ad.block < w8.heap.size := fun ad e => by
    have h1 := HB.out.lt _ (HG.out.2.2.2.1 _ ⟨ad, e, rfl⟩)
    have h2 := HU.out.size
    show ad.block < w8.heap.size
    omega
  have hq8 : Tests (fun k => k < w8.heap.size) 41 #[.pointer (some ⟨w.heap.size + 1, 0, none⟩), .pointer (some ⟨w.heap.size + 1 + 1, 0, none⟩)] (fun z => decide (z = (h, id))) R w8 := fun W x _ ho =>
    remove1_any (w.heap.size + 1) (w.heap.size + 1 + 1) h id x W (only_old ho h8) (only_old ho i8)
  have hRl : R.length ≤ 100000 := by have h1 := HN.out; have h2 := HM.out; omega
  have HR8 := Hid.mk hrow8
  have HU8 := Hid.mk U58
  have HZ8 := Hid.mk hz8
  have HB8 := Hid.mk b8
  have HRL := Hid.mk hRl
  have HCC := Hid.mk (And.intro p8 (And.intro n8 (And.intro g8 c8)))
  have hszw : w.heap.size + 1 + 1 + 1 + 1 + 1 + 1 + 2 = w8.heap.size := by rw [hz8, HZ6.out, HZD.out]
  have HSW := Hid.mk hszw
  -- what is so when an item has been found, and has gone
  obtain ⟨RX, hRX⟩ : ∃ RX : List (It × Nat) → World → Prop, RX = fun pre W => (h, id) ∈ R ∧ ∃ S', LbP W p least S' (B.set I' (R.erase (h, id))) ∧ Only S w W ∧ (∀ k, S' k → S k ∨ w8.heap.size + 2 ≤ k) ∧ W.heap[w.heap.size + 1 + 1 + 1]? = some (.cells #[.bool true] 4) := ⟨_, rfl⟩
  have hRXs : ∀ s W W', RX s W → Only (fun k => k = w8.heap.size + 1) W W' → RX s W' := fun s W W' hx ho => by
    rw [hRX] at hx ⊢
    obtain ⟨hm, S', x1, x2, x3, x4⟩ := hx
    refine ⟨hm, S', x1.kept ho (fun k hk e => ?_), x2.trans ho (fun k hk => Or.inr (by omega)), x3, ho.box x4 (by omega)⟩
    rcases x3 k hk with e2 | e2
    · have := HB.out.lt k e2; omega
    · omega
  have HRX := Hid.mk hRX
  refine (wpIn_wide (n := 9)).1 ?_
  refine wpIn_range_only (n := 9) rfl (by omega) (gf := 49) (lb := #[.pointer (some ⟨W6.heap.size, 0, none⟩), .pointer (some ⟨W6.heap.size + 1, 0, none⟩)]) (by simp [Act.eval]) trivial (enters_of Try.func49 (by kernel_rfl) rfl)
    (Pr := fun k => k < w8.heap.size) (encs := encW)
    (wanted_yields _ _ 41 _ (fun z => decide (z = (h, id))) R a' c W6.heap.size (W6.heap.size + 1) w8 hbc hbw (by omega) hcel8 hPa (by omega) (enters_of Try.func41 (by kernel_rfl) rfl) hq8) (fun k hk => hk) (fun _ => rfl)
    (fun (pre : List (It × Nat)) W => pre = [] ∧ Below w8.heap.size w8 W) (fun cd pre W => cd = .ret ∧ RX pre W)
    (fun pre X Y ⟨e, hb⟩ ho => ⟨e, hb.trans (ho.below (fun k hk => by omega) hb.size)⟩) (fun cd pre X Y ⟨e, hx⟩ ho => ⟨e, hRXs pre X Y hx ho⟩) ⟨rfl, Below.refl _ _⟩ ?round ?done ?stop
  case round =>
    rintro L pre x W rfl ⟨rfl, hbW⟩ hO hspx hlen hzW
    obtain ⟨hxl, hmem, her⟩ := first_erase R (h, id) x (by simpa using hspx)
    obtain ⟨⟨X0, X1⟩, place⟩ := x
    simp only [encW, itV] at *
    have HBW := Hid.mk hbW
    have HZW := Hid.mk hzW
    clear hbW hO hspx hlen hzW p8 h8 i8 n8 g8 c8 hbc hbw hcel8 hPa hq8 hrow8 b8 p6 h6 i6 n6 g6 c6 hRXs hRX hRl hszw U8 U58 hz8 hsz8
    gi_wp2
    refine ⟨Below.refl _ _, fun W2 hO2 hz2 ⟨_, hb2⟩ => ?_⟩
    obtain ⟨p8, n8, g8, c8⟩ := HCC.out
    have p2 := cell_below hb2 _ _ _ p8
    have n2 := cell_below hb2 _ _ _ n8
    have g2 := cell_below hb2 _ _ _ g8
    have c2 := cell_below hb2 _ _ _ c8
    have b2 := (Only.up (S := fun _ => False) hb2).box HB8.out (fun f => f)
    have hrow2 : Its W2 (.slice a' M c) R := HR8.out.up hb2
    have U52 : Up W5 W2 := HU8.out.call hb2
    have hbx2 := HB5.out.up U52.out
    have hsz2 : w8.heap.size + 2 ≤ W2.heap.size := Nat.le_trans HZW.out hO2.size
    -- the row in its block
    obtain ⟨g2', cap2', a2, c2', eg, _, d2, hz2', hrow2', NP2, NG2, hgp2, hTS2, hSg2, hput2⟩ := hbx2.hand (i := I') (by have := hli; omega)
    simp only [Value.slice.injEq, Option.some.injEq, Addr.mk.injEq, and_true, true_and] at eg
    obtain ⟨rfl, rfl⟩ := eg
    rw [HRI.out] at d2 hrow2'
    obtain ⟨b, cb, eb, _, _⟩ := hrow2'.some_ (by omega)
    rw [HM.out] at d2 eb
    have d2' := cell_below hb2 _ _ _ (cell_below HU8.out.out _ _ _ HD5.out)
    rw [d2'] at d2
    simp only [Option.some.injEq, Value.slice.injEq, true_and] at d2
    obtain ⟨rfl, rfl⟩ := d2
    simp only [Value.slice.injEq, true_and] at eb
    obtain ⟨rfl, rfl⟩ := eb
    have hbS := hTS2 b ⟨_, rfl, rfl⟩
    have hbl := HB.out.lt b hbS
    have hbl2 : w.heap.size ≤ W2.heap.size := by have h1 := HU.out.size; have h2 := U52.out.size; omega
    have NTp : ¬ (w.heap.size = b) := by omega
    have NTn : ¬ (w.heap.size + 1 + 1 + 1 + 1 = b) := by omega
    have NTc : ¬ (WD.heap.size = b) := by have := HZD.out; omega
    have NTb : ¬ (p = b) := fun e => NP2 ⟨_, rfl, e.symm⟩
    have NTg : ¬ (g = b) := fun e => NG2 ⟨_, rfl, e.symm⟩
    have hpl : ((place : Nat) : Int) < M := by have := HM.out; omega
    have hwp : IntKind.i64.wrap ((place : Int) + 1) = ((place + 1 : Nat) : Int) := by have := HRL.out; rw [wrap_id (by omega) (by omega)]; omega
    have HDEL := Hid.mk (fun (W : World) (hW : Below W2.heap.size W2 W) => delete_any b c R place hxl W (by rw [HM.out]; exact hrow2.up hW) (by have := HRL.out; omega))
    rw [HM.out] at HDEL
    have HPUT2 := Hid.mk hput2
    have HGL2 := Hid.mk (And.intro (hbx2.lt _ hSg2) hz2')
    have HBR2 := Hid.mk b2
    have HU52 := Hid.mk U52
    have HSZ2 := Hid.mk hsz2
    have HSP2 := Hid.mk hbx2.sp
    have HMEM := Hid.mk hmem
    have HDG := Hid.mk d2'
    have HER := Hid.mk her
    clear hput2 hrow2 hrow2' hbx2 hgp2 hTS2 hSg2 NP2 NG2 hz2' hbS hbl hbl2 b2 U52 hsz2 p8 n8 g8 c8 hb2 hmem her hz2 hO2 hxl d2'
    gi_wp2
    refine wpIn_round_last (last := 11) (S := Only (fun k => k = b) W2) (by kernel_rfl) (by kernel_rfl) (fun _ _ h => h) ?_
    refine last_take (i := 0) (d := 28) (v := .pointer (some ⟨p, 0, none⟩)) rfl rfl (by kernel_rfl) (by kernel_rfl) (by kernel_rfl) (by kernel_rfl) rfl (fun W h => (by have u0 := h.cellS NTp p2; go_simp)) (fun _ _ _ h => h) (Only.refl _ _).drew ?_
    simp only [Act.put, List.setIfInBounds_toArray, List.set_cons_zero, List.set_cons_succ]
    refine last_take (i := 1) (d := 29) (v := .pointer (some ⟨p, 0, none⟩)) rfl rfl (by kernel_rfl) (by kernel_rfl) (by kernel_rfl) (by kernel_rfl) rfl (fun _ _ => (by go_simp)) (fun _ _ _ h => h) (Only.refl _ _).drew ?_
    simp only [Act.put, List.setIfInBounds_toArray, List.set_cons_zero, List.set_cons_succ]
    refine last_take (i := 2) (d := 30) (v := .pointer (some ⟨p, 1, none⟩)) rfl rfl (by kernel_rfl) (by kernel_rfl) (by kernel_rfl) (by kernel_rfl) rfl (fun _ _ => (by go_simp)) (fun _ _ _ h => h) (Only.refl _ _).drew ?_
    simp only [Act.put, List.setIfInBounds_toArray, List.set_cons_zero, List.set_cons_succ]
    refine last_take (i := 3) (d := 31) (v := .slice (some ⟨g, 0, none⟩) B.length cap) rfl rfl (by kernel_rfl) (by kernel_rfl) (by kernel_rfl) (by kernel_rfl) rfl (fun W h => (by have u0 := h.cellS NTb g2; go_simp)) (fun _ _ _ h => h) (Only.refl _ _).drew ?_
    simp only [Act.put, List.setIfInBounds_toArray, List.set_cons_zero, List.set_cons_succ]
    refine last_take (i := 4) (d := 32) (v := .int .i64 I') rfl rfl (by kernel_rfl) (by kernel_rfl) (by kernel_rfl) (by kernel_rfl) rfl (fun W h => (by have u0 := h.cellS NTn n2; go_simp)) (fun _ _ _ h => h) (Only.refl _ _).drew ?_
    simp only [Act.put, List.setIfInBounds_toArray, List.set_cons_zero, List.set_cons_succ]
    refine last_take (i := 5) (d := 33) (v := .slice (some ⟨b, 0, none⟩) M c) rfl rfl (by kernel_rfl) (by kernel_rfl) (by kernel_rfl) (by kernel_rfl) rfl (fun W h => (by have u0 := h.cellS NTc c2; go_simp)) (fun _ _ _ h => h) (Only.refl _ _).drew ?_
    simp only [Act.put, List.setIfInBounds_toArray, List.set_cons_zero, List.set_cons_succ]
    refine last_take (i := 6) (d := 34) (v := .int .i64 place) rfl rfl (by kernel_rfl) (by kernel_rfl) (by kernel_rfl) (by kernel_rfl) rfl (fun _ _ => rfl) (fun _ _ _ h => h) (Only.refl _ _).drew ?_
    simp only [Act.put, List.setIfInBounds_toArray, List.set_cons_zero, List.set_cons_succ]
    refine last_take (i := 7) (d := 35) (v := .int .i64 place) rfl rfl (by kernel_rfl) (by kernel_rfl) (by kernel_rfl) (by kernel_rfl) rfl (fun _ _ => rfl) (fun _ _ _ h => h) (Only.refl _ _).drew ?_
    simp only [Act.put, List.setIfInBounds_toArray, List.set_cons_zero, List.set_cons_succ]
    refine last_take (i := 8) (d := 36) (v := .int .i64 ((place + 1 : Nat) : Int)) rfl rfl (by kernel_rfl) (by kernel_rfl) (by kernel_rfl) (by kernel_rfl) rfl (fun _ _ => (by go_simp)) (fun _ _ _ h => h) (Only.refl _ _).drew ?_
    simp only [Act.put, List.setIfInBounds_toArray, List.set_cons_zero, List.set_cons_succ]
    refine last_call (i := 9) (d := 37) (f := 42) (args := #[.slice (some ⟨b, 0, none⟩) M c, .int .i64 place, .int .i64 ((place + 1 : Nat) : Int)]) (by kernel_rfl) rfl rfl rfl (by go_simp) ?_
    refine (HDEL.out _ (Up.refl W2).drew.out).mono ?_
    rintro e w9 ⟨⟨m9, rfl, hi9⟩, ho9⟩
    refine ⟨.slice (some ⟨b, 0, none⟩) m9 c, rfl, ((Only.refl (fun k => k = b) W2).drew.trans ho9 (fun _ h => Or.inl h)), ?_⟩
    simp only [Act.put, List.setIfInBounds_toArray, List.set_cons_zero, List.set_cons_succ]
    have hO9 : Only (fun k => k = b) W2 w9 := (Only.refl (fun k => k = b) W2).drew.trans ho9 (fun _ h => Or.inl h)
    obtain ⟨S', hb10, ho10, hn10⟩ := HPUT2.out w9 (.slice (some ⟨b, 0, none⟩) m9 c) _ (hO9.mono fun k hk => ⟨_, rfl, hk.symm⟩) hi9 (fun k hk => Or.inl ⟨_, rfl, by cases hk; rfl⟩)
    have hd9 := hO9.cellS NTg (show W2.cell? ⟨g, I', none⟩ = some (.slice (some ⟨b, 0, none⟩) M c) from HDG.out)
    have hz9 : w9.frozen? ⟨g, I', none⟩ = false := by rw [hO9.froz NTg HGL2.out.1]; exact HGL2.out.2
    refine last_take (i := 10) (d := 38) (v := .pointer (some ⟨g, I', none⟩)) rfl rfl (by kernel_rfl) (by kernel_rfl) (by kernel_rfl) (by kernel_rfl) rfl (fun _ _ => (by go_simp)) (fun _ _ _ h => h) hO9 ?_
    simp only [Act.put, List.setIfInBounds_toArray, List.set_cons_zero, List.set_cons_succ]
    refine last_store (w' := w9.setCell ⟨g, I', none⟩ (.slice (some ⟨b, 0, none⟩) m9 c)) (by kernel_rfl) rfl rfl rfl (by go_simp) (by kernel_rfl) ?_
    obtain ⟨W10, hW10⟩ : ∃ W10, w9.setCell ⟨g, I', none⟩ (.slice (some ⟨b, 0, none⟩) m9 c) = W10 := ⟨_, rfl⟩
    rw [hW10] at hb10 ho10 ⊢
    have hlow : ∀ k, w.heap.size ≤ k → ¬ S k := fun k hk hS => by have := HB.out.lt k hS; omega
    have p10 := ho10.cellS (hlow _ (Nat.le_refl _)) p2
    have br10 := ho10.box HBR2.out (hlow _ (by omega))
    have bc10 : W10.cell? ⟨w.heap.size + 1 + 1 + 1, 0, none⟩ = some (.bool false) := by simp [World.cell?, br10]
    have bf10 : W10.frozen? ⟨w.heap.size + 1 + 1 + 1, 0, none⟩ = false := by simp [World.frozen?, br10]
    have k10 : W10.cell? ⟨p, 3, none⟩ = some (.int .i64 (szB B)) := hb10.cell 3
    have f10 := hb10.froz 3
    rw [HER.out.symm] at hb10
    obtain ⟨Z1, hZ1⟩ : ∃ Z1, szB (B.set I' (R.erase (h, id))) = Z1 := ⟨_, rfl⟩
    have hzz : Z1 + 1 = szB B := by rw [← hZ1]; exact HSZ.out.1 (decide_eq_true HMEM.out)
    have hzs : szB B ≤ 100000 := HN.out.2.2.1
    obtain ⟨Z, hZ⟩ : ∃ Z, szB B = Z := ⟨_, rfl⟩
    rw [hZ] at k10 hzz hzs
    have hwz : IntKind.i64.wrap ((Z : Int) - 1) = (Z1 : Int) := by rw [wrap_id (by omega) (by omega)]; omega
    have hpl : p < w.heap.size := HB.out.lt p HB.out.sp
    have hpb : (p == w.heap.size + 1 + 1 + 1) = false := by simp; omega
    have hpb2 : ¬ (w.heap.size + 1 + 1 + 1 = p) := by omega
    have hbcS : (W10.setCell ⟨p, 3, none⟩ (.int .i64 Z1)).cell? ⟨w.heap.size + 1 + 1 + 1, 0, none⟩ = some (.bool false) := (Only.set (S := fun k => k = p) W10 _ rfl).cellS hpb2 bc10
    have hbfS : (W10.setCell ⟨p, 3, none⟩ (.int .i64 Z1)).frozen? ⟨w.heap.size + 1 + 1 + 1, 0, none⟩ = false := by
      rw [(Only.set (S := fun k => k = p) W10 _ rfl).froz hpb2 (Array.getElem?_eq_some_iff.1 br10).1]; exact bf10
    have HFIN := Hid.mk (show Only (fun k => k ≠ w8.heap.size ∧ k ≠ w8.heap.size + 1) W2 ((W10.setCell ⟨p, 3, none⟩ (.int .i64 Z1)).setCell ⟨w.heap.size + 1 + 1 + 1, 0, none⟩ (.bool true)) ∧ RX ([] ++ [((X0, X1), place)]) ((W10.setCell ⟨p, 3, none⟩ (.int .i64 Z1)).setCell ⟨w.heap.size + 1 + 1 + 1, 0, none⟩ (.bool true)) from by
      have hsw := HSW.out
      have hs2 := HSZ2.out
      refine ⟨((ho10.mono fun k hk => ?_).put (by omega) _ _).put (by omega) _ _, ?_⟩
      · have := HB.out.lt k hk; omega
      rw [HRX.out]
      have hL := lbP_count hb10 (n := (Z1 : Int)) (by rw [hZ1])
      have hu : Up w W2 := HU.out.call HU52.out.out
      refine ⟨HMEM.out, S', hL.kept (T := fun k => k = w.heap.size + 1 + 1 + 1) (Only.set _ _ rfl) (fun k hk e => ?_), ?_, fun k hk => (hn10 k hk).imp (fun e => e) (fun e => by omega), ?_⟩
      · rcases hn10 k hk with e2 | e2
        · have := HB.out.lt k e2; omega
        · omega
      · have o1 : Only S w W10 := (Only.up hu.out).trans ho10 (fun _ h => Or.inl h)
        have o2 := o1.put (S := S) (p := p) HB.out.sp 3 (.int .i64 Z1)
        exact o2.trans (S' := fun k => k = w.heap.size + 1 + 1 + 1) (Only.set _ _ rfl) (fun k hk => Or.inr (by omega))
      · have o3 := (Only.set (S := fun k => k = p) W10 (p := p) (j := 3) (.int .i64 Z1) rfl).box br10 hpb2
        exact put_box o3 0 (.bool true))
    clear hb10 ho10 hn10 hW10 hi9 ho9 hO9 hd9 hz9 hlow br10 bc10 bf10 hzz hzs hZ hZ1 hpl p2 n2 g2 c2 NTp NTn NTc NTb NTg
    gi_wp2
    exact ⟨HFIN.out.1, rfl, HFIN.out.2⟩
  case done =>
    rintro D xs W hD rfl ⟨hnil, hbW⟩ hK
    have hnot := none_in R (h, id) hnil
    have bW := (Only.up (S := fun _ => False) hbW).box HB8.out (fun f => f)
    have bc0 : W.cell? ⟨w.heap.size + 1 + 1 + 1, 0, none⟩ = some (.bool false) := by simp [World.cell?, bW]
    have bf0 : W.frozen? ⟨w.heap.size + 1 + 1 + 1, 0, none⟩ = false := by simp [World.frozen?, bW]
    have hdec : decide ((h, id) ∈ R) = false := decide_eq_false hnot
    have HE := Hid.mk (show StL LbP w p least S (B.set I' (R.erase (h, id))) ((W.setCell ⟨w.heap.size + 1 + 1 + 1, 0, none⟩ (.bool false)).putObj D (.deferred none)) from by
      rw [HSZ.out.2 hdec]
      have h1 := HU.out.size
      have h2 := HU8.out.size
      have u : Up w W := (HU.out.call HU8.out.out).call hbW
      have o1 : Only (fun k => w.heap.size ≤ k) w ((W.setCell ⟨w.heap.size + 1 + 1 + 1, 0, none⟩ (.bool false)).putObj D (.deferred none)) :=
        ((Only.up u.out).put (S := fun k => w.heap.size ≤ k) (by omega) _ _).trans (only_putObj (S := fun k => w.heap.size ≤ k) _ D _ (by omega)) (fun _ h => Or.inl h)
      exact ⟨S, ⟨_, HB.out.kept o1 (fun k hk e => by have := HB.out.lt k hk; omega)⟩, ⟨o1.os, o1.tape, o1.output, o1.size, fun k hk _ => o1.block k hk (by omega)⟩, fun _ hk => Or.inl hk⟩)
    have hK2 : (W.setCell ⟨w.heap.size + 1 + 1 + 1, 0, none⟩ (.bool false)).heap[D]? = some (.deferred (some [])) := (Only.set (S := fun k => k = w.heap.size + 1 + 1 + 1) W _ rfl).box hK (by have := HSW.out; omega)
    have hcr : ((W.setCell ⟨w.heap.size + 1 + 1 + 1, 0, none⟩ (.bool false)).putObj D (.deferred none)).cell? ⟨w.heap.size + 1 + 1 + 1, 0, none⟩ = some (.bool false) :=
      (only_putObj (S := fun k => k = D) _ D _ rfl).cellS (by have := HSW.out; omega) (World.cell?_setCell_same W ⟨w.heap.size + 1 + 1 + 1, 0, none⟩ _ bc0)
    have HCR := Hid.mk hcr
    have HK2 := Hid.mk hK2
    have HDC := Hid.mk hdec
    clear p8 h8 i8 n8 g8 c8 hbc hbw hcel8 hPa hq8 hrow8 b8 p6 h6 i6 n6 g6 c6 hRXs hRX hRl hszw U8 U58 hz8 hsz8 hnot hnil hbW bW hK hK2 hcr hdec
    go_wp2
    refine ⟨by simp, .inl ⟨_, _, rfl, run_takeDeferred HK2.out, ?_⟩⟩
    exact ⟨_, results_bool rfl _ rfl HCR.out, ret_bool HDC.out.symm, HE.out⟩
  case stop =>
    rintro D cd pre W hD hpx ⟨rfl, hx⟩ hK
    rw [hRX] at hx
    obtain ⟨hmem, S', x1, x2, x3, x4⟩ := hx
    have hdec : decide ((h, id) ∈ R) = true := decide_eq_true hmem
    have o1 : Only (fun k => k = D) W (W.putObj D (.deferred none)) := only_putObj _ _ _ rfl
    have hcr := (o1.box x4 (by omega))
    have hcr : (W.putObj D (.deferred none)).cell? ⟨w.heap.size + 1 + 1 + 1, 0, none⟩ = some (.bool true) := by simp [World.cell?, hcr]
    have HE := Hid.mk (show StL LbP w p least S (B.set I' (R.erase (h, id))) (W.putObj D (.deferred none)) from
      ⟨S', x1.kept o1 (fun k hk e => by
        rcases x3 k hk with e2 | e2
        · have := HB.out.lt k e2; omega
        · omega), x2.trans o1 (fun k hk => Or.inr (by omega)), fun k hk => (x3 k hk).imp (fun e => e) (fun e => by omega)⟩)
    refine wpIn_ret ?_
    simp only [Exit.inBlock, Exit.then]
    refine ⟨by simp, .inl ⟨_, _, rfl, run_takeDeferred hK, ?_⟩⟩
    exact ⟨_, results_bool rfl _ rfl hcr, ret_bool hdec.symm, HE.out⟩
end Go.Proofs.Ytkijbphbibcnoaa
