/-
  Atoms of a term get numbers.
-/
import Derived.Test.YtaiiicmldogjoaaDoorZHeapE
import Derived.Test.YtaiiicmldogjoaaDoorZTermMore
namespace Go.Proofs.YtaiiicmldogjoaaDoor
open Go.RowKit Go.Deep Go.Maps Go.WideShapes

def intE (b : Bool) : Int := if b = true then 0 else 8
theorem Left.then_ {w w1 w2 : World} {p bm : Nat} {v : Value} {L2 : List ByteArray} {v1 : Value} (ht : Only (Mine p bm v) w w1) (hv : ∀ k, v1.ownBlock = some k → v.ownBlock = some k ∨ w.heap.size ≤ k) (h2 : Left w1 p bm v1 L2 w2) : Left w p bm v L2 w2 := by
  obtain ⟨v2, h3, h4, h5⟩ := h2
  refine ⟨v2, h3, ht.trans h4 fun i hi => ?_, fun k hk => ?_⟩
  · rcases hi with hi | hi | hi
    · exact Or.inl (Or.inl hi)
    · exact Or.inl (Or.inr (Or.inl hi))
    · exact (hv i hi).imp (fun h => Or.inr (Or.inr h)) id
  · exact (h5 k hk).elim (hv k) fun hh => Or.inr (Nat.le_trans ht.size hh)
theorem mine_old {w : World} {p bm : Nat} {v v1 : Value} (hv : ∀ k, v1.ownBlock = some k → v.ownBlock = some k ∨ w.heap.size ≤ k) {b : Nat} (hb : b < w.heap.size) (hn : ¬ Mine p bm v b) : ¬ Mine p bm v1 b := fun hk => by
  rcases hk with hk | hk | hk
  · exact hn (Or.inl hk)
  · exact hn (Or.inr (Or.inl hk))
  · rcases hv b hk with h | h
    · exact hn (Or.inr (Or.inr h))
    · omega

set_option maxHeartbeats 4000000 in
set_option maxRecDepth 100000 in
theorem intern_of (T : Tm) : T.fits = true → ∀ (S : Nat → Prop) (tv : Value) (w : World) (p bm : Nat) (v : Value) (L : List ByteArray), Tab w p bm v L → Lies w S T tv → (∀ b, S b → b < w.heap.size ∧ ¬ Mine p bm v b) → T.size ≤ 1000000 →
    Calls Tryd.prog 33 #[.pointer (some ⟨p, 0, none⟩), tv] w fun e w' => e = .returned (.int .i64 (intE (T.nums L).1)) ∧ Left w p bm v (T.nums L).2 w' := by
  induction T using Tm.induct with
  | h k n s l ih0 =>
    intro hf S tv w p bm v L h hT hS hsz
    have ih := Hid.mk ih0
    clear ih0
    obtain ⟨a, cap, rfl, hsm, hl⟩ := hT.out
    rw [fits_mk, Bool.and_eq_true] at hf
    obtain ⟨W0, hW0⟩ : ∃ W0, w.alloc (.cells #[.int .i64 k, .int .i64 n, .string s, .slice a l.length cap] 42) = W0 := ⟨_, rfl⟩
    have hb0 : Below w.heap.size w W0 := by rw [← hW0]; exact (Below.refl _ _).alloc (Nat.le_refl _) _
    have hbx : W0.heap[w.heap.size]? = some (.cells #[.int .i64 k, .int .i64 n, .string s, .slice a l.length cap] 42) := by rw [← hW0]; exact new_block _ _
    obtain ⟨⟨t0, t1, t2, t3⟩, _⟩ := kept4 hbx (Below.refl _ _)
    have hTab := h.up hb0
    have hback := Hid.mk (fun (w' : World) (L' : List ByteArray) (h' : Left W0 p bm v L' w') => (Left.from hb0 h' : Left w p bm v L' w'))
    by_cases h2 : k = 2
    · subst h2
      rw [nums_atom]
      have hs : s.size ≤ 64 := by have := hf.1; simp only [fitB, decide_eq_true_eq] at this; omega
      have hi := intern_any p bm v L s W0 hTab (by unfold maxLen; omega)
      have he : (put L s).2.1 = intE (decide ((put L s).2.1 = 0)) := by
        rcases put_cases L s with ⟨i, _, _, e⟩ | ⟨_, _, e⟩ | ⟨e', h0, h8, e⟩
        · rw [e]; rfl
        · rw [e]; rfl
        · rw [e]; simp only; rw [decide_eq_false h0, h8 hs]; rfl
      rw [he] at hi
      generalize intE (decide ((put L s).2.1 = 0)) = ee at *
      have HI := Hid.mk hi
      clear hi hf hT hl hS h hTab hsm hbx hb0 ih he hs
      go_enter Tryd.func33, Tryd.ntmps33
      go_upto_region 1 with fail
      try rw [hW0]
      clear hW0
      go_wp2_with (go_at_call 56; refine HI.out.mono ?_; rintro e w1 ⟨rfl, hl1⟩)
      go_ret
      exact ⟨rfl, hback.out _ _ hl1⟩
    · rw [nums_other h2]
      have hkb : (k == 2) = false := by simpa using h2
      have hl0 : Lst W0 S l a cap := hl.move (fun _ h => h) (fun b o u hb hc => cell_below hb0 _ _ _ hc)
      have HS := Hid.mk (fun b (hb : S b) => (⟨Nat.lt_of_lt_of_le (hS b hb).1 hb0.size, (hS b hb).2⟩ : b < W0.heap.size ∧ ¬ Mine p bm v b))
      have HL := Hid.mk hl0
      have HT := Hid.mk hTab
      have HFs := Hid.mk hf.2
      have hsz2 := Hid.mk hsz
      have hlen : l.length ≤ 1000000 := by
        have := length_sizes l
        rw [Tm.size_mk] at hsz
        omega
      have HLN := Hid.mk hlen
      clear hf hT hl hl0 hS h hTab hsm hbx hb0 hsz hlen
      go_enter Tryd.func33, Tryd.ntmps33
      go_upto_region 1 with fail
      try rw [hW0]
      clear hW0
      go_wp2
      go_loopw [24] (fun ii wr => ∃ (i : Nat) (Li : List ByteArray) (vi : Value), i ≤ l.length ∧ ii = .int .i64 i ∧ Hid (Tab wr p bm vi Li) ∧ Hid (Only (Mine p bm v) W0 wr) ∧ Hid (∀ k, vi.ownBlock = some k → v.ownBlock = some k ∨ W0.heap.size ≤ k) ∧ Hid ((numss (l.take i) L).1 = true ∧ Li = (numss (l.take i) L).2)) (fun ii _ => l.length - (intOf ii).toNat)
      case atStart => exact ⟨0, L, v, Nat.zero_le _, rfl, HT, Hid.mk (Only.refl _ _), Hid.mk fun k hk => Or.inl hk, Hid.mk ⟨by rw [List.take_zero, numss_nil], by rw [List.take_zero, numss_nil]⟩⟩
      case round =>
        obtain ⟨i, Li, vi, hi, rfl, hTi, hOi, hVi, hNi⟩ := hrel
        by_cases hlt : i < l.length
        · obtain ⟨b, o, ha, hSb, hr⟩ := HL.out.some (by omega)
          subst ha
          obtain ⟨k', n', s', m', a', cap', hTt, c0, c1, c2, c3, hli⟩ := hr.part i hlt
          have nb := (HS.out b hSb).2
          have c0 := hOi.out.cellS nb c0
          have c1 := hOi.out.cellS nb c1
          have c2 := hOi.out.cellS nb c2
          have c3 := hOi.out.cellS nb c3
          have hwi : IntKind.i64.wrap ((i : Int) + 1) = ((i + 1 : Nat) : Int) := by have := HLN.out; rw [wrap_id (by omega) (by omega)]; omega
          obtain ⟨W6, hW6⟩ : ∃ W6, wr.alloc (.cells #[.int .i64 k', .int .i64 n', .string s', .slice a' m'.length cap'] 42) = W6 := ⟨_, rfl⟩
          have hb6 : Below wr.heap.size wr W6 := by rw [← hW6]; exact (Below.refl _ _).alloc (Nat.le_refl _) _
          have hbx6 : W6.heap[wr.heap.size]? = some (.cells #[.int .i64 k', .int .i64 n', .string s', .slice a' m'.length cap'] 42) := by rw [← hW6]; exact new_block _ _
          obtain ⟨⟨d0, d1, d2, d3⟩, _⟩ := kept4 hbx6 (Below.refl _ _)
          have hli6 : Lies W6 S l[i] (.agg #[.int .i64 k', .int .i64 n', .string s', .slice a' m'.length cap']) := hli.move (fun _ h => h) (fun b o u hb hc => cell_below hb6 _ _ _ (hOi.out.cellS (HS.out b hb).2 hc)) _ _
          have hS6 : ∀ b, S b → b < W6.heap.size ∧ ¬ Mine p bm vi b := fun b hb => ⟨Nat.lt_of_lt_of_le (HS.out b hb).1 (Nat.le_trans hOi.out.size hb6.size), mine_old hVi.out (HS.out b hb).1 (HS.out b hb).2⟩
          have hszi : l[i].size ≤ 1000000 := by have h1 := hsz2.out; rw [Tm.size_mk] at h1; have := sizes_at l i hlt; omega
          have hc := ih.out l[i] (List.getElem_mem hlt) (fitss_all HFs.out _ (List.getElem_mem hlt)) S _ W6 p bm vi Li (hTi.out.up hb6) hli6 hS6 hszi
          have hnt := numss_take l L i hlt hNi.out.1
          rw [← hNi.out.2] at hnt
          have hno := numss_take_no l L (i + 1)
          rw [hnt] at hno
          generalize l[i] = T at *
          have HC := Hid.mk hc
          have HLT := Hid.mk hlt
          have HNT := Hid.mk hnt
          have HNO := Hid.mk hno
          have HO6 : Hid (Only (Mine p bm v) W0 W6) := Hid.mk (hOi.out.trans (S' := fun _ => False) (Only.up hb6) fun _ f => f.elim)
          have hil : (i : Int) < l.length := by omega
          clear hc hnt hno hli hli6 hS6 hTt hr hb6 hbx6
          cases hb : (T.nums Li).1 with
          | true =>
            rw [hb] at HC
            go_upto_region 7 with fail
            try rw [hW6]
            clear hW6
            go_wp2_with (go_at_call 33; refine HC.out.mono ?_; rintro e w7 ⟨rfl, hl7⟩; have HL7 := Hid.mk hl7; clear hl7)
            obtain ⟨v7, hT7, hO7, hV7⟩ := HL7.out
            have hRel : Hid (Tab w7 p bm v7 (T.nums Li).2 ∧ Only (Mine p bm v) W0 w7 ∧ (∀ k, v7.ownBlock = some k → v.ownBlock = some k ∨ W0.heap.size ≤ k) ∧ ((numss (l.take (i + 1)) L).1 = true ∧ (T.nums Li).2 = (numss (l.take (i + 1)) L).2)) := Hid.mk ⟨hT7, HO6.out.trans hO7 (fun j hj => by
                rcases hj with hj | hj | hj
                · exact Or.inl (Or.inl hj)
                · exact Or.inl (Or.inr (Or.inl hj))
                · exact (hVi.out j hj).imp (fun h => Or.inr (Or.inr h)) id), (fun k hk => (hV7 k hk).elim (hVi.out k) fun hh => Or.inr (Nat.le_trans HO6.out.size hh)), by rw [HNT.out]; exact ⟨hb, rfl⟩⟩
            clear hT7 hO7 hV7
            go_roundw
            case rel => exact ⟨i + 1, _, v7, HLT.out, by first | rfl | go_num, Hid.mk hRel.out.1, Hid.mk hRel.out.2.1, Hid.mk hRel.out.2.2.1, Hid.mk hRel.out.2.2.2⟩
            case measure =>
              have := HLT.out
              simp [intOf]
              omega
          | false =>
            rw [hb] at HC
            have HR : Hid ((numss l L).1 = false ∧ (numss l L).2 = (T.nums Li).2) := Hid.mk (by rw [HNO.out hb]; exact ⟨hb, rfl⟩)
            go_upto_region 7 with fail
            try rw [hW6]
            clear hW6
            go_wp2_with (go_at_call 33; refine HC.out.mono ?_; rintro e w7 ⟨rfl, hl7⟩; have HL7 := Hid.mk hl7; clear hl7)
            go_ret
            exact ⟨by rw [HR.out.1]; rfl, hback.out _ _ (by rw [HR.out.2]; exact Left.then_ HO6.out (fun k hk => hVi.out k hk) HL7.out)⟩
        · have he : i = l.length := by omega
          subst he
          have hNl : Hid ((numss l L).1 = true ∧ Li = (numss l L).2) := by have := hNi; rwa [List.take_length] at this
          go_wp2
          go_ret
          exact ⟨by rw [hNl.out.1]; rfl, hback.out _ _ ⟨vi, by rw [← hNl.out.2]; exact hTi.out, hOi.out, hVi.out⟩⟩

theorem take_put {L : List ByteArray} (hG : Good L) (hN : Nub L) {i : Nat} (hi : i < L.length) : put (L.take i) L[i] = (i, 0, L.take (i + 1)) := by
  have hs := hG.short _ (List.getElem_mem hi)
  have hp : pos L[i] (L.take i) = none := pos_none_of fun j hj => by
    rw [List.getElem_take]
    exact pos_first (hN i hi) j _ (by rw [List.length_take] at hj; omega)
  have hb : bytesOf (L.take (i + 1)) ≤ bytesOf L := bytesOf_take_le L (i + 1)
  rw [List.take_succ_eq_append_getElem hi, bytesOf_snoc] at hb
  have hl : (L.take i).length = i := by rw [List.length_take]; omega
  rw [put_new hs hp (by rw [hl]; have := hG.few; omega) (by have := hG.small; omega), hl, ← List.take_succ_eq_append_getElem hi]

set_option maxHeartbeats 4000000 in
set_option maxRecDepth 100000 in
theorem twin_any (p bm : Nat) (v : Value) (L : List ByteArray) (w : World) (h : Tab w p bm v L) (hN : Nub L) :
    Calls Tryd.prog 34 #[.pointer (some ⟨p, 0, none⟩)] w fun e w' => ∃ p' bm' v', e = .returned (.pointer (some ⟨p', 0, none⟩)) ∧ Tab w' p' bm' v' L ∧ Below w.heap.size w w' ∧ ∀ k, Mine p' bm' v' k → w.heap.size ≤ k := by
  have hG := Hid.mk h.good
  have HN := Hid.mk hN
  have HT := Hid.mk h
  have hlen : L.length ≤ 4096 := h.good.few
  have HLN := Hid.mk hlen
  have hnew := new_any w
  obtain ⟨bq, hbq⟩ : ∃ bq, w.heap.size = bq := ⟨_, rfl⟩
  rw [hbq] at hnew ⊢
  obtain ⟨q, hq⟩ : ∃ q, bq + 1 = q := ⟨_, rfl⟩
  rw [hq] at hnew
  have HNEW := Hid.mk hnew
  have HBQ := Hid.mk hbq
  have HQ := Hid.mk hq
  clear h hN hlen hnew hbq hq
  go_enter Tryd.func34, Tryd.ntmps34
  go_wp2_with (first
    | (go_at_call 25; refine HNEW.out.mono ?_; rintro e w1 ⟨rfl, ht1, hb1⟩; have HB1 := Hid.mk hb1; have HT1 := Hid.mk ht1; clear hb1 ht1)
    | (go_at_call 57; refine (all_any p bm v L _ (HT.out.up (by have := HB1.out; rw [← HBQ.out] at this; exact this))).mono ?_; rintro e w2 ⟨tv, rfl, h1, h2, hb2⟩; have HT2 := Hid.mk (HT1.out.up hb2); have HS1 := Hid.mk hb2.size; have HB2 := Hid.mk (HB1.out.trans (hb2.mono (by have := HB1.out.size; have := HBQ.out; omega))); obtain ⟨ta, tc, rfl⟩ := h1.slice; have HX := Hid.mk h1; have HXo := Hid.mk h2; clear h1 h2 hb2))
  have hX2 : Hid (∀ k, Mine q bq (Value.slice none 0 0) k → k < w1.heap.size) := Hid.mk fun k hk => HT1.out.lt hk
  have hX1 : Hid (∀ k, Mine q bq (Value.slice none 0 0) k → bq ≤ k) := Hid.mk fun k hk => by
    have := HQ.out
    rcases hk with hk | hk | hk
    · omega
    · omega
    · cases hk
  go_loopw [10] (fun ii wr => ∃ (i : Nat) (vi : Value), i ≤ L.length ∧ ii = .int .i64 i ∧ Hid (Tab wr q bq vi (L.take i)) ∧ Hid (Only (Mine q bq (.slice none 0 0)) w2 wr) ∧ Hid (∀ k, vi.ownBlock = some k → w2.heap.size ≤ k)) (fun ii _ => L.length - (intOf ii).toNat)
  case atStart => exact ⟨0, _, Nat.zero_le _, rfl, Hid.mk (by rw [List.take_zero]; exact HT2.out), Hid.mk (Only.refl _ _), Hid.mk fun k hk => by cases hk⟩
  case round =>
    obtain ⟨i, vi, hi, rfl, hTi, hOi, hVi⟩ := hrel
    by_cases hlt : i < L.length
    · obtain ⟨g, cap, he, hc⟩ := HX.out.at_ (by omega)
      simp only [Value.slice.injEq] at he
      obtain ⟨rfl, _, rfl⟩ := he
      have hgn : ¬ Mine q bq (.slice none 0 0) g := fun hk => by
        have h1 := HXo.out g rfl
        have h2 := hX2.out g hk
        omega
      have c1 := hOi.out.cellS hgn (hc i hlt)
      have hwi : IntKind.i64.wrap ((i : Int) + 1) = ((i + 1 : Nat) : Int) := by have := HLN.out; rw [wrap_id (by omega) (by omega)]; omega
      have htp := take_put hG.out HN.out hlt
      have hin := intern_any q bq vi (L.take i) L[i] wr hTi.out (by have := hG.out.short _ (List.getElem_mem hlt); unfold maxLen; omega)
      rw [htp] at hin
      generalize L[i] = x at *
      have HIN := Hid.mk hin
      have hil : (i : Int) < L.length := by omega
      have HLT := Hid.mk hlt
      clear hin htp hc hgn
      go_wp2_with (go_at_call 56; refine HIN.out.mono ?_; rintro e w7 ⟨rfl, v7, hT7, hO7, hV7⟩; have HT7 := Hid.mk hT7; have HO7 := Hid.mk hO7; have HV7 := Hid.mk hV7; clear hT7 hO7 hV7)
      have hRel : Hid (Tab w7 q bq v7 (L.take (i + 1)) ∧ Only (Mine q bq (.slice none 0 0)) w2 w7 ∧ ∀ k, v7.ownBlock = some k → w2.heap.size ≤ k) := Hid.mk ⟨HT7.out, hOi.out.trans HO7.out (fun j hj => by
          rcases hj with hj | hj | hj
          · exact Or.inl (Or.inl hj)
          · exact Or.inl (Or.inr (Or.inl hj))
          · exact Or.inr (hVi.out j hj)), fun k hk => (HV7.out k hk).elim (hVi.out k) fun hh => Nat.le_trans hOi.out.size hh⟩
      go_roundw
      case rel => exact ⟨i + 1, v7, HLT.out, by first | rfl | go_num, Hid.mk hRel.out.1, Hid.mk hRel.out.2.1, Hid.mk hRel.out.2.2⟩
      case measure =>
        have := HLT.out
        simp [intOf]
        omega
    · have he : i = L.length := by omega
      subst he
      have hTl : Hid (Tab wr q bq vi L) := Hid.mk (by have := hTi.out; rwa [List.take_length] at this)
      go_wp2
      go_ret
      refine ⟨q, bq, vi, rfl, hTl.out, ?_, ?_⟩
      · exact HB2.out.trans (hOi.out.below hX1.out (by have := HB2.out.size; have := HBQ.out; omega))
      · intro k hk
        have h1 := HB2.out.size
        have h2 := HBQ.out
        have h3 := HQ.out
        rcases hk with hk | hk | hk
        · omega
        · omega
        · have := hVi.out k hk
          omega
end Go.Proofs.YtaiiicmldogjoaaDoor
