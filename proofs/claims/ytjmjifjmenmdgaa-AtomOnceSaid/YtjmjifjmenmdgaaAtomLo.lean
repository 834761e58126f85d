/-
  AtomOnce returns true: each text has one number for ever.
-/
import Derived.Test.YtjmjifjmenmdgaaAtomOpen
namespace Go.Proofs.Ytjmjifjmenmdgaa
open Go.RowKit Go.Deep Go.Maps Go.WideShapes Go.WideMaps

theorem intInfo6 : (Try.prog.info? 3).map (fun i => (i.zero, i.size, i.bytes)) = some (some (.int .i64 0), 1, 8) := by kernel_rfl
theorem owns_only {S : Nat → Prop} {w w' : World} {base : Nat} {e : TypeId} {size : Nat} {v : Value} {n : Nat} {xs : List Value} (h : w.ownsRow base e size v n xs) (ho : Only S w w') (hS : ∀ g, v.ownBlock = some g → ¬ S g) : w'.ownsRow base e size v n xs := by
  obtain ⟨h1, h2⟩ := h
  refine ⟨h1, ?_⟩
  rcases h2 with h2 | ⟨b, cap, cur, rfl, hb, hh, hr⟩
  · exact Or.inl h2
  · exact Or.inr ⟨b, cap, cur, rfl, hb, ho.box hh (hS b rfl), hr⟩

/-- The numbers of texts in a list of atoms. -/
structure Nums (L : List ByteArray) (l : List ByteArray) (ns : List Nat) : Prop where
  len : ns.length = l.length
  at_ : ∀ j (h : j < l.length) (h' : j < ns.length), pos l[j] L = some ns[j]
  few : L.length ≤ l.length
  small : sizes L ≤ 64 * l.length
theorem Nums.nil : Nums [] [] [] := ⟨rfl, (fun j h => absurd h (Nat.not_lt_zero _)), by simp, by simp [sizes]⟩
theorem pos_keep {s : ByteArray} {L : List ByteArray} {i : Nat} (h : pos s L = some i) (x : ByteArray) : pos s (L ++ [x]) = some i := by rw [pos_snoc, h]; rfl
theorem pos_put {L : List ByteArray} {s x : ByteArray} {i : Nat} (h : pos s L = some i) : pos s (put L x).2.2 = some i := by
  rw [put]
  split
  · exact h
  · split
    · exact h
    · split
      · exact h
      · exact pos_keep h x
/-- One text more. -/
theorem Nums.next {L l : List ByteArray} {ns : List Nat} (h : Nums L l ns) {s : ByteArray} (hs : s.size ≤ 64) (hl : l.length ≤ 60) :
    (put L s).2.1 = 0 ∧ Nums (put L s).2.2 (l ++ [s]) (ns ++ [(put L s).1]) ∧ (((put L s).1 < L.length ∧ (put L s).2.2 = L) ∨ ((put L s).1 = L.length ∧ (put L s).2.2 = L ++ [s])) := by
  have hf := h.few
  have hz := h.small
  cases hp : pos s L with
  | some i =>
    obtain ⟨hi, _⟩ := pos_some hp
    rw [put_there hs hp]
    refine ⟨rfl, ⟨by simp [h.len], fun j hj hj' => ?_, by simp; omega, by simp; omega⟩, Or.inl ⟨hi, rfl⟩⟩
    rcases Nat.lt_or_ge j l.length with hjl | hjl
    · rw [List.getElem_append_left hjl, List.getElem_append_left (by rw [h.len]; exact hjl)]
      exact h.at_ j hjl _
    · obtain rfl : j = l.length := by simp at hj; omega
      have e : ns.length = l.length := h.len
      simp [← e, hp]
  | none =>
    rw [put_new hs hp (by omega) (by omega)]
    refine ⟨rfl, ⟨by simp [h.len], fun j hj hj' => ?_, by simp; omega, by rw [sizes_snoc]; simp; omega⟩, Or.inr ⟨rfl, rfl⟩⟩
    rcases Nat.lt_or_ge j l.length with hjl | hjl
    · rw [List.getElem_append_left hjl, List.getElem_append_left (by rw [h.len]; exact hjl)]
      exact pos_keep (h.at_ j hjl _) s
    · obtain rfl : j = l.length := by simp at hj; omega
      have e : ns.length = l.length := h.len
      have : pos s (L ++ [s]) = some L.length := by rw [pos_snoc, hp]; simp
      simp [← e, this]

/-- The state: a table, the numbers so far in a row. -/
structure Once (B : Nat) (w0 w : World) (p bm : Nat) (L l : List ByteArray) (ns : List Nat) (v ov : Value) : Prop where
  tab : Tab w p bm v L
  row : w.ownsRow 0 3 1 ov l.length (ns.map fun n : Nat => .int .i64 n)
  apart : ∀ g, ov.ownBlock = some g → ¬ Mine p bm v g
  mine : ∀ k, Mine p bm v k → B ≤ k
  own : ∀ g, ov.ownBlock = some g → B ≤ g
  below : Below B w0 w
  size : B ≤ w.heap.size
  nums : Nums L l ns
theorem Once.up {B p bm : Nat} {w0 w w' : World} {L l : List ByteArray} {ns : List Nat} {v ov : Value} (h : Once B w0 w p bm L l ns v ov) (hb : Below w.heap.size w w') : Once B w0 w' p bm L l ns v ov :=
  ⟨h.tab.up hb, ownsRow_up h.row hb, h.apart, h.mine, h.own, h.below.trans (hb.mono h.size), Nat.le_trans h.size hb.size, h.nums⟩
theorem Once.start {B p bm : Nat} {w0 w : World} (h : Now B w0 w p bm []) : ∃ v, Once B w0 w p bm [] [] [] v (.slice none 0 0) := by
  obtain ⟨v, h1, h2, h3, h4⟩ := h
  exact ⟨v, h1, World.ownsRow_nil _ _ _ _, (fun g hg => by cases hg), h4, (fun g hg => by cases hg), h2, h3, Nums.nil⟩
/-- Behind a text put, and its number appended. -/
theorem Once.next {B p bm : Nat} {w0 w w2 w3 : World} {L l : List ByteArray} {ns : List Nat} {v ov ov' : Value} {s : ByteArray} {t : TypeId} (h : Once B w0 w p bm L l ns v ov) (hL : Left w p bm v (put L s).2.2 w2)
    (hN : Nums (put L s).2.2 (l ++ [s]) (ns ++ [(put L s).1]))
    (hg : (w2.alloc (.cells #[.int .i64 ((put L s).1 : Nat)] t)).grownBy w3 ov.ownBlock) (hat : ov'.ownBlock = ov.ownBlock ∨ ov'.ownBlock = some (w2.alloc (.cells #[.int .i64 ((put L s).1 : Nat)] t)).heap.size)
    (hown : w3.ownsRow 0 3 1 ov' (l.length + 1) (ns.map (fun n : Nat => .int .i64 n) ++ [.int .i64 ((put L s).1 : Nat)])) :
    ∃ v', Once B w0 w3 p bm (put L s).2.2 (l ++ [s]) (ns ++ [(put L s).1]) v' ov' := by
  obtain ⟨v', g1, g2, g3⟩ := hL
  have hz2 := g2.size
  have hz3 := hg.size
  have hsB := h.size
  simp only [World.size_alloc] at hz3 hat
  have hmine' : ∀ k, Mine p bm v' k → Mine p bm v k ∨ w.heap.size ≤ k := by
    rintro k (rfl | rfl | hk)
    · exact Or.inl (Or.inl rfl)
    · exact Or.inl (Or.inr (Or.inl rfl))
    · exact (g3 k hk).imp (fun e => Or.inr (Or.inr e)) id
  have hovlt : ∀ g, ov.ownBlock = some g → g < w.heap.size := fun g hg => (h.row.lt g hg).2
  have hap' : ∀ g, ov.ownBlock = some g → ¬ Mine p bm v' g := fun g hg hm => by
    rcases hmine' g hm with e | e
    · exact h.apart g hg e
    · have := hovlt g hg; omega
  have o3 : Only (fun k => ov.ownBlock = some k) w2 w3 := (Only.up (S := fun k => ov.ownBlock = some k) ((Below.refl _ _).alloc (Nat.le_refl _) _)).trans (Only.grown (S := fun k => ov.ownBlock = some k) hg (fun k hk => hk)) (fun i hi => Or.inl hi)
  refine ⟨v', g1.kept o3 (fun k hk he => hap' k he hk), ?_, fun g hg hm => ?_, fun k hk => ?_, fun g hg => ?_, (h.below.trans (g2.below h.mine h.size)).trans (o3.below h.own (Nat.le_trans h.size hz2)), by omega, hN⟩
  · rw [List.length_append, List.map_append]
    exact hown
  · rcases hat with e | e
    · exact hap' g (e ▸ hg) hm
    · rw [e] at hg
      cases hg
      have := g1.lt hm
      omega
  · rcases hmine' k hk with e | e
    · exact h.mine k e
    · omega
  · rcases hat with e | e
    · exact h.own g (e ▸ hg)
    · rw [e] at hg
      cases hg
      omega
/-- Of two texts the numbers are the same just as the texts are. -/
theorem Nums.same {L l : List ByteArray} {ns : List Nat} (h : Nums L l ns) (i k : Nat) (hi : i < l.length) (hk : k < l.length) : l[i] = l[k] ↔ ns[i]'(by rw [h.len]; exact hi) = ns[k]'(by rw [h.len]; exact hk) := by
  have h1 := h.at_ i hi (by rw [h.len]; exact hi)
  have h2 := h.at_ k hk (by rw [h.len]; exact hk)
  constructor
  · intro e
    rw [e, h2] at h1
    exact (Option.some.inj h1).symm
  · intro e
    rw [e] at h1
    obtain ⟨h3, h4⟩ := pos_some h1
    obtain ⟨h5, h6⟩ := pos_some h2
    exact h4.symm.trans h6

theorem Once.ov {B p bm : Nat} {w0 w : World} {L l : List ByteArray} {ns : List Nat} {v ov : Value} (h : Once B w0 w p bm L l ns v ov) : ∃ a cap, ov = .slice a l.length cap := owns_slice h.row
theorem Once.num {B p bm : Nat} {w0 w : World} {L l : List ByteArray} {ns : List Nat} {v : Value} {a : Option Addr} {cap : Nat} (h : Once B w0 w p bm L l ns v (.slice a l.length cap)) (h0 : 0 < l.length) :
    ∃ g, a = some ⟨g, 0, none⟩ := by
  rcases h.row.2 with ⟨e, e2⟩ | ⟨g, cap', cur, e, _⟩
  · omega
  · simp only [Value.slice.injEq] at e
    exact ⟨g, e.1⟩
theorem Once.cell {B p bm : Nat} {w0 w : World} {L l : List ByteArray} {ns : List Nat} {v : Value} {g cap : Nat} (h : Once B w0 w p bm L l ns v (.slice (some ⟨g, 0, none⟩) l.length cap)) (j : Nat) (hj : j < l.length) :
    w.cell? ⟨g, j, none⟩ = some (.int .i64 (ns[j]'(by rw [h.nums.len]; exact hj) : Nat)) := by
  have hn : j < ns.length := by rw [h.nums.len]; exact hj
  rw [h.row.cellAt j (by omega)]
  simp [hn]

theorem once_row {B p bm i : Nat} {w0 w w2 : World} {L L' l : List ByteArray} {ns : List Nat} {v ov : Value} (h : Once B w0 w p bm L (l.take i) ns v ov) (hli : (l.take i).length = i) (hL : Left w p bm v L' w2) : w2.ownsRow 0 3 1 ov i (ns.map fun n : Nat => .int .i64 n) := by
  obtain ⟨v', g1, g2, g3⟩ := hL
  have := owns_only h.row g2 h.apart
  rwa [hli] at this
theorem once_next {B p bm i N : Nat} {w0 w w2 w3 : World} {L L' l : List ByteArray} {ns : List Nat} {v ov ov' : Value} {s : ByteArray} {t : TypeId} (h : Once B w0 w p bm L (l.take i) ns v ov) (hli : (l.take i).length = i) (e1 : (put L s).1 = N) (e2 : (put L s).2.2 = L') (hL : Left w p bm v L' w2)
    (hN : Nums L' (l.take i ++ [s]) (ns ++ [N]))
    (hg : (w2.alloc (.cells #[.int .i64 N] t)).grownBy w3 ov.ownBlock) (hat : ov'.ownBlock = ov.ownBlock ∨ ov'.ownBlock = some (w2.alloc (.cells #[.int .i64 N] t)).heap.size)
    (hown : w3.ownsRow 0 3 1 ov' (i + 1) (ns.map (fun n : Nat => .int .i64 n) ++ [.int .i64 N])) :
    ∃ v', Once B w0 w3 p bm L' (l.take i ++ [s]) (ns ++ [N]) v' ov' := by
  subst e1 e2
  exact h.next hL hN hg hat (by rw [hli]; exact hown)

set_option maxRecDepth 100000 in
set_option maxHeartbeats 4000000 in
theorem lawOnce6 (l : List ByteArray) (a : Option Addr) (cap : Nat) (w : World) (hl : Str w l a cap) :
    Calls Try.prog 7 #[.slice a l.length cap] w fun e w' => e = .returned (.bool true) ∧ Below w.heap.size w w' := by
  by_cases h60 : 60 < l.length
  · have e1 : decide (60 < l.length) = true := by rw [decide_eq_true_eq]; exact h60
    have e2 : decide ((60 : Int) < l.length) = true := by rw [decide_eq_true_eq]; omega
    clear h60 hl
    go_enter Try.func7, Try.ntmps7
    go_wp2_with (first
      | (go_at_call 5; refine (known6_any _).mono ?_; rintro e w1 ⟨rfl, h⟩; have hb1 := Hid.mk h; clear h)
      | (go_at_call 8; refine (now_made _).mono ?_; rintro e w2 ⟨rfl, h⟩; have T0 := Hid.mk h; clear h))
    go_ret
    obtain ⟨v, _, h2, _, _⟩ := T0.out
    exact ⟨rfl, hb1.out.trans (h2.mono hb1.out.size)⟩
  · have e1 : decide (60 < l.length) = false := by rw [decide_eq_false_iff_not]; exact h60
    have e2 : decide ((60 : Int) < l.length) = false := by rw [decide_eq_false_iff_not]; omega
    have hL := Hid.mk (show l.length ≤ 60 by omega)
    have HS := Hid.mk hl
    obtain ⟨i0, hi0, hz0, hz1, hby⟩ := info_parts intInfo6
    clear h60 hl
    go_enter Try.func7, Try.ntmps7
    go_wp2_with (first
      | (go_at_call 5; refine (known6_any _).mono ?_; rintro e w1 ⟨rfl, h⟩; have hb1 := Hid.mk h; clear h)
      | (go_at_call 8; refine (now_made _).mono ?_; rintro e w2 ⟨rfl, h⟩; have T0 := Hid.mk h; clear h))
    go_loopw [5, 6, 7] (fun ov nx ii wr => ∃ (i : Nat) (L : List ByteArray) (ns : List Nat), i ≤ l.length ∧ ii = .int .i64 i ∧ nx = .int .i64 L.length ∧ Hid (∃ v, Once w1.heap.size w1 wr (w1.heap.size + 1) w1.heap.size L (l.take i) ns v ov)) (fun _ _ ii _ => l.length - (intOf ii).toNat)
    case atStart => exact ⟨0, [], [], Nat.zero_le _, rfl, rfl, Once.start T0.out⟩
    case round =>
      obtain ⟨i, L, ns, hi, rfl, rfl, hT⟩ := hrel
      obtain ⟨v, hO⟩ := hT.out
      have HO := Hid.mk hO
      by_cases hlt : i < l.length
      · have hli : (l.take i).length = i := by rw [List.length_take]; omega
        obtain ⟨ao, co, hov⟩ := hO.ov
        rw [hli] at hov
        subst hov
        clear hT hO
        obtain ⟨b, o, rfl, hc⟩ := HS.out.now (hb1.out.trans (HO.out.below.mono hb1.out.size)) i hlt
        have hci := hc i hlt
        have hwi : IntKind.i64.wrap ((i : Int) + 1) = ((i + 1 : Nat) : Int) := by have := hL.out; rw [wrap_id (by omega) (by omega)]; omega
        have hsz := Hid.mk (HS.out.size i hlt)
        have htk := Hid.mk (List.take_succ_eq_append_getElem hlt)
        have HLI := Hid.mk hli
        clear hc hli
        obtain ⟨x, hx⟩ : ∃ x, l[i] = x := ⟨_, rfl⟩
        rw [hx] at hci hsz htk
        have HL := Hid.mk hlt
        clear hx
        by_cases h64 : 64 < x.size
        · have e3 : decide ((64 : Int) < x.size) = true := by rw [decide_eq_true_eq]; omega
          have e4 : decide (64 < x.size) = true := by rw [decide_eq_true_eq]; exact h64
          clear h64
          go_wp2
          go_ret
          exact ⟨rfl, hb1.out.trans (HO.out.below.mono hb1.out.size)⟩
        · have e3 : decide ((64 : Int) < x.size) = false := by rw [decide_eq_false_iff_not]; omega
          have e4 : decide (64 < x.size) = false := by rw [decide_eq_false_iff_not]; exact h64
          have hx64 := Hid.mk (show x.size ≤ 64 by omega)
          obtain ⟨hp1, hp2, hp3⟩ := HO.out.nums.next (show x.size ≤ 64 by omega) (by have := hL.out; rw [HLI.out]; omega)
          have HN := Hid.mk hp2
          have HI := Hid.mk (hp1 ▸ intern_any _ _ _ L x _ HO.out.tab hsz.out)
          clear h64 hp1 hp2
          have hLlen : L.length ≤ i := by have := HO.out.nums.few; rw [HLI.out] at this; exact this
          have HLL := Hid.mk hLlen
          have hwl : IntKind.i64.wrap ((L.length : Int) + 1) = ((L.length + 1 : Nat) : Int) := by have := hL.out; rw [wrap_id (by omega) (by omega)]; omega
          clear hLlen
          obtain ⟨N, hNN⟩ : ∃ N, (put L x).1 = N := ⟨_, rfl⟩
          obtain ⟨L', hLL⟩ : ∃ L', (put L x).2.2 = L' := ⟨_, rfl⟩
          have HE := Hid.mk (And.intro hNN hLL)
          rw [hNN, hLL] at HI HN hp3
          clear hNN hLL
          rcases hp3 with ⟨h1, h2⟩ | ⟨h1, h2⟩
          · have q1 : decide ((L.length : Int) < N) = false := by rw [decide_eq_false_iff_not]; omega
            have q2 : decide (L.length < N) = false := by rw [decide_eq_false_iff_not]; omega
            have q3 : ((N : Int) == L.length) = false := by rw [beq_eq_false_iff_ne]; omega
            have q4 : (N == L.length) = false := by rw [beq_eq_false_iff_ne]; omega
            have H12 := Hid.mk h2
            clear h1 h2
            go_wp2_with (first
              | (go_at_call 9; refine HI.out.mono ?_; rintro e w3 ⟨rfl, h⟩
                 have HLf := Hid.mk h
                 have HR := Hid.mk (once_row HO.out HLI.out h)
                 clear h)
              | (at_builtin; refine wpList_append_own_at _ rfl _ _ 50 rfl 0 3 i0 _ 1 8 Try.underlying50 hi0 hz0 hz1 hby rfl (by decide) (.slice ao i co) i _ rfl (HR.out.alloc _) ⟨w3.heap.size, 0, none⟩ 1 1 [.int .i64 N] rfl rfl (cell_one_new _ _ _) (fun u hu => by obtain rfl := List.mem_singleton.1 hu; rfl) (by have : i < l.length := HL.out; have := hL.out; unfold maxLen; omega) (by have : i < l.length := HL.out; have := hL.out; omega) (by omega) ?_; intro ov' w4 hown hgrow hnil hat
                 have HX := Hid.mk (once_next HO.out HLI.out HE.out.1 HE.out.2 HLf.out HN.out hgrow hat hown)
                 obtain ⟨a', c', rfl⟩ := owns_slice hown
                 clear hown hgrow hnil hat))
            go_roundw
            case rel => exact ⟨i + 1, L', _, HL.out, by first | rfl | go_num, by rw [H12.out], by rw [htk.out]; exact HX.out⟩
            case measure =>
              have h1 : i < l.length := HL.out
              simp [intOf]
              omega
          · subst h1
            have q1 : decide (L.length < L.length) = false := by simp
            have H12 := Hid.mk h2
            clear h2
            go_wp2_with (first
              | (go_at_call 9; refine HI.out.mono ?_; rintro e w3 ⟨rfl, h⟩
                 have HLf := Hid.mk h
                 have HR := Hid.mk (once_row HO.out HLI.out h)
                 clear h)
              | (at_builtin; refine wpList_append_own_at _ rfl _ _ 50 rfl 0 3 i0 _ 1 8 Try.underlying50 hi0 hz0 hz1 hby rfl (by decide) (.slice ao i co) i _ rfl (HR.out.alloc _) ⟨w3.heap.size, 0, none⟩ 1 1 [.int .i64 L.length] rfl rfl (cell_one_new _ _ _) (fun u hu => by obtain rfl := List.mem_singleton.1 hu; rfl) (by have : i < l.length := HL.out; have := hL.out; unfold maxLen; omega) (by have : i < l.length := HL.out; have := hL.out; omega) (by omega) ?_; intro ov' w4 hown hgrow hnil hat
                 have HX := Hid.mk (once_next HO.out HLI.out HE.out.1 HE.out.2 HLf.out HN.out hgrow hat hown)
                 obtain ⟨a', c', rfl⟩ := owns_slice hown
                 clear hown hgrow hnil hat))
            go_roundw
            case rel => exact ⟨i + 1, L', _, HL.out, by first | rfl | go_num, by rw [H12.out, List.length_append]; first | rfl | go_num, by rw [htk.out]; exact HX.out⟩
            case measure =>
              have h1 : i < l.length := HL.out
              simp [intOf]
              omega
      · obtain rfl : i = l.length := by omega
        rw [List.take_length] at HO
        obtain ⟨ao, co, hov⟩ := HO.out.ov
        subst hov
        clear hT hO
        go_wp2
        go_loopw [10] (fun ii w5 => ∃ i : Nat, i ≤ l.length ∧ ii = .int .i64 i ∧ Below wr.heap.size wr w5) (fun ii _ => l.length - (intOf ii).toNat)
        case atStart => exact ⟨0, Nat.zero_le _, rfl, Below.refl _ _⟩
        case round =>
          obtain ⟨i, hi, rfl, hb5⟩ := hrel
          have O5 := Hid.mk (HO.out.up hb5)
          have HB5 := Hid.mk hb5
          clear hb5
          by_cases hlt : i < l.length
          · have HL := Hid.mk hlt
            go_wp2
            go_loopw [11] (fun kk w6 => ∃ k : Nat, k ≤ l.length ∧ kk = .int .i64 k ∧ Below wr.heap.size wr w6) (fun kk _ => l.length - (intOf kk).toNat)
            case atStart => exact ⟨0, Nat.zero_le _, rfl, Below.refl _ _⟩
            case round =>
              obtain ⟨k, hk, rfl, hb6⟩ := hrel
              have O6 := Hid.mk (O5.out.up hb6)
              have HB6 := Hid.mk hb6
              clear hb6
              by_cases hkl : k < l.length
              · obtain ⟨g, hg⟩ := O6.out.num (by omega)
                subst hg
                obtain ⟨b, o, ha, hc⟩ := HS.out.now (hb1.out.trans (O6.out.below.mono hb1.out.size)) i hlt
                subst ha
                have hci := hc i hlt
                have hck := hc k hkl
                have hni := O6.out.cell i hlt
                have hnk := O6.out.cell k hkl
                have hsame := Hid.mk (O6.out.nums.same i k hlt hkl)
                have hwk : IntKind.i64.wrap ((k : Int) + 1) = ((k + 1 : Nat) : Int) := by have := hL.out; rw [wrap_id (by omega) (by omega)]; omega
                clear hc
                obtain ⟨x, hx⟩ : ∃ x, l[i]'hlt = x := ⟨_, rfl⟩
                obtain ⟨y, hy⟩ : ∃ y, l[k]'hkl = y := ⟨_, rfl⟩
                obtain ⟨N, hN⟩ : ∃ N, ns[i]'(by rw [O6.out.nums.len]; exact hlt) = N := ⟨_, rfl⟩
                obtain ⟨M, hM⟩ : ∃ M, ns[k]'(by rw [O6.out.nums.len]; exact hkl) = M := ⟨_, rfl⟩
                rw [hx] at hci
                rw [hy] at hck
                rw [hN] at hni
                rw [hM] at hnk
                rw [hx, hy, hN, hM] at hsame
                have HK := Hid.mk hkl
                clear hx hy hN hM
                by_cases hxy : x = y
                · obtain rfl : N = M := hsame.out.1 hxy
                  subst hxy
                  have heq := bytes_eq x
                  clear hsame
                  go_wp2
                  refine region_up (W := wr) (by kernel_rfl) (by kernel_rfl) (Up.refl _) ?_
                  refine quiet_value (v := .slice (some ⟨g, 0, none⟩) l.length co) rfl (fun _ _ => rfl) ?_
                  simp only [Act.put, List.setIfInBounds_toArray, List.set_cons_zero, List.set_cons_succ]
                  refine quiet_value (v := .int .i64 i) rfl (fun _ _ => rfl) ?_
                  simp only [Act.put, List.setIfInBounds_toArray, List.set_cons_zero, List.set_cons_succ]
                  refine quiet_value (v := .pointer (some ⟨g, i, none⟩)) rfl (fun _ _ => (by go_simp)) ?_
                  simp only [Act.put, List.setIfInBounds_toArray, List.set_cons_zero, List.set_cons_succ]
                  refine quiet_value (v := .int .i64 N) rfl (fun W h => (by have u0 := cell_below h.out _ _ _ hni; go_simp)) ?_
                  simp only [Act.put, List.setIfInBounds_toArray, List.set_cons_zero, List.set_cons_succ]
                  refine quiet_value (v := .slice (some ⟨g, 0, none⟩) l.length co) rfl (fun _ _ => rfl) ?_
                  simp only [Act.put, List.setIfInBounds_toArray, List.set_cons_zero, List.set_cons_succ]
                  refine quiet_value (v := .int .i64 k) rfl (fun _ _ => rfl) ?_
                  simp only [Act.put, List.setIfInBounds_toArray, List.set_cons_zero, List.set_cons_succ]
                  refine quiet_value (v := .pointer (some ⟨g, k, none⟩)) rfl (fun _ _ => (by go_simp)) ?_
                  simp only [Act.put, List.setIfInBounds_toArray, List.set_cons_zero, List.set_cons_succ]
                  refine quiet_value (v := .int .i64 N) rfl (fun W h => (by have u0 := cell_below h.out _ _ _ hnk; go_simp)) ?_
                  simp only [Act.put, List.setIfInBounds_toArray, List.set_cons_zero, List.set_cons_succ]
                  refine quiet_value (v := .bool true) rfl (fun _ _ => (by go_simp)) ?_
                  simp only [Act.put, List.setIfInBounds_toArray, List.set_cons_zero, List.set_cons_succ]
                  refine quiet_value (v := .slice (some ⟨b, o, none⟩) l.length cap) rfl (fun _ _ => rfl) ?_
                  simp only [Act.put, List.setIfInBounds_toArray, List.set_cons_zero, List.set_cons_succ]
                  refine quiet_value (v := .int .i64 i) rfl (fun _ _ => rfl) ?_
                  simp only [Act.put, List.setIfInBounds_toArray, List.set_cons_zero, List.set_cons_succ]
                  refine quiet_value (v := .pointer (some ⟨b, o + i, none⟩)) rfl (fun _ _ => (by go_simp)) ?_
                  simp only [Act.put, List.setIfInBounds_toArray, List.set_cons_zero, List.set_cons_succ]
                  refine quiet_value (v := .string x) rfl (fun W h => (by have u0 := cell_below h.out _ _ _ hci; go_simp)) ?_
                  simp only [Act.put, List.setIfInBounds_toArray, List.set_cons_zero, List.set_cons_succ]
                  refine quiet_value (v := .slice (some ⟨b, o, none⟩) l.length cap) rfl (fun _ _ => rfl) ?_
                  simp only [Act.put, List.setIfInBounds_toArray, List.set_cons_zero, List.set_cons_succ]
                  refine quiet_value (v := .int .i64 k) rfl (fun _ _ => rfl) ?_
                  simp only [Act.put, List.setIfInBounds_toArray, List.set_cons_zero, List.set_cons_succ]
                  refine quiet_value (v := .pointer (some ⟨b, o + k, none⟩)) rfl (fun _ _ => (by go_simp)) ?_
                  simp only [Act.put, List.setIfInBounds_toArray, List.set_cons_zero, List.set_cons_succ]
                  refine quiet_value (v := .string x) rfl (fun W h => (by have u0 := cell_below h.out _ _ _ hck; go_simp)) ?_
                  simp only [Act.put, List.setIfInBounds_toArray, List.set_cons_zero, List.set_cons_succ]
                  refine quiet_value (v := .bool true) rfl (fun _ _ => (by go_simp)) ?_
                  simp only [Act.put, List.setIfInBounds_toArray, List.set_cons_zero, List.set_cons_succ]
                  refine quiet_value (v := .bool false) rfl (fun _ _ => (by go_simp)) ?_
                  simp only [Act.put, List.setIfInBounds_toArray, List.set_cons_zero, List.set_cons_succ]
                  refine quiet_nil ?_
                  intro w7 hw7
                  have HW7 := Hid.mk hw7
                  clear hw7
                  go_wp2
                  go_roundw
                  case rel => exact ⟨k + 1, HK.out, by first | rfl | go_num, HB6.out.trans (HW7.out.out.mono HB6.out.size)⟩
                  case measure =>
                    have h1 : k < l.length := HK.out
                    simp [intOf]
                    omega
                · have hne := bytes_ne hxy
                  have q1 : ((N : Int) == M) = false := by rw [beq_eq_false_iff_ne]; intro e; exact hxy (hsame.out.2 (by omega))
                  have q2 : (N == M) = false := by rw [beq_eq_false_iff_ne]; intro e; exact hxy (hsame.out.2 e)
                  clear hsame hxy
                  go_wp2
                  refine region_up (W := wr) (by kernel_rfl) (by kernel_rfl) (Up.refl _) ?_
                  refine quiet_value (v := .slice (some ⟨g, 0, none⟩) l.length co) rfl (fun _ _ => rfl) ?_
                  simp only [Act.put, List.setIfInBounds_toArray, List.set_cons_zero, List.set_cons_succ]
                  refine quiet_value (v := .int .i64 i) rfl (fun _ _ => rfl) ?_
                  simp only [Act.put, List.setIfInBounds_toArray, List.set_cons_zero, List.set_cons_succ]
                  refine quiet_value (v := .pointer (some ⟨g, i, none⟩)) rfl (fun _ _ => (by go_simp)) ?_
                  simp only [Act.put, List.setIfInBounds_toArray, List.set_cons_zero, List.set_cons_succ]
                  refine quiet_value (v := .int .i64 N) rfl (fun W h => (by have u0 := cell_below h.out _ _ _ hni; go_simp)) ?_
                  simp only [Act.put, List.setIfInBounds_toArray, List.set_cons_zero, List.set_cons_succ]
                  refine quiet_value (v := .slice (some ⟨g, 0, none⟩) l.length co) rfl (fun _ _ => rfl) ?_
                  simp only [Act.put, List.setIfInBounds_toArray, List.set_cons_zero, List.set_cons_succ]
                  refine quiet_value (v := .int .i64 k) rfl (fun _ _ => rfl) ?_
                  simp only [Act.put, List.setIfInBounds_toArray, List.set_cons_zero, List.set_cons_succ]
                  refine quiet_value (v := .pointer (some ⟨g, k, none⟩)) rfl (fun _ _ => (by go_simp)) ?_
                  simp only [Act.put, List.setIfInBounds_toArray, List.set_cons_zero, List.set_cons_succ]
                  refine quiet_value (v := .int .i64 M) rfl (fun W h => (by have u0 := cell_below h.out _ _ _ hnk; go_simp)) ?_
                  simp only [Act.put, List.setIfInBounds_toArray, List.set_cons_zero, List.set_cons_succ]
                  refine quiet_value (v := .bool false) rfl (fun _ _ => (by go_simp)) ?_
                  simp only [Act.put, List.setIfInBounds_toArray, List.set_cons_zero, List.set_cons_succ]
                  refine quiet_value (v := .slice (some ⟨b, o, none⟩) l.length cap) rfl (fun _ _ => rfl) ?_
                  simp only [Act.put, List.setIfInBounds_toArray, List.set_cons_zero, List.set_cons_succ]
                  refine quiet_value (v := .int .i64 i) rfl (fun _ _ => rfl) ?_
                  simp only [Act.put, List.setIfInBounds_toArray, List.set_cons_zero, List.set_cons_succ]
                  refine quiet_value (v := .pointer (some ⟨b, o + i, none⟩)) rfl (fun _ _ => (by go_simp)) ?_
                  simp only [Act.put, List.setIfInBounds_toArray, List.set_cons_zero, List.set_cons_succ]
                  refine quiet_value (v := .string x) rfl (fun W h => (by have u0 := cell_below h.out _ _ _ hci; go_simp)) ?_
                  simp only [Act.put, List.setIfInBounds_toArray, List.set_cons_zero, List.set_cons_succ]
                  refine quiet_value (v := .slice (some ⟨b, o, none⟩) l.length cap) rfl (fun _ _ => rfl) ?_
                  simp only [Act.put, List.setIfInBounds_toArray, List.set_cons_zero, List.set_cons_succ]
                  refine quiet_value (v := .int .i64 k) rfl (fun _ _ => rfl) ?_
                  simp only [Act.put, List.setIfInBounds_toArray, List.set_cons_zero, List.set_cons_succ]
                  refine quiet_value (v := .pointer (some ⟨b, o + k, none⟩)) rfl (fun _ _ => (by go_simp)) ?_
                  simp only [Act.put, List.setIfInBounds_toArray, List.set_cons_zero, List.set_cons_succ]
                  refine quiet_value (v := .string y) rfl (fun W h => (by have u0 := cell_below h.out _ _ _ hck; go_simp)) ?_
                  simp only [Act.put, List.setIfInBounds_toArray, List.set_cons_zero, List.set_cons_succ]
                  refine quiet_value (v := .bool false) rfl (fun _ _ => (by go_simp)) ?_
                  simp only [Act.put, List.setIfInBounds_toArray, List.set_cons_zero, List.set_cons_succ]
                  refine quiet_value (v := .bool false) rfl (fun _ _ => (by go_simp)) ?_
                  simp only [Act.put, List.setIfInBounds_toArray, List.set_cons_zero, List.set_cons_succ]
                  refine quiet_nil ?_
                  intro w7 hw7
                  have HW7 := Hid.mk hw7
                  clear hw7
                  go_wp2
                  go_roundw
                  case rel => exact ⟨k + 1, HK.out, by first | rfl | go_num, HB6.out.trans (HW7.out.out.mono HB6.out.size)⟩
                  case measure =>
                    have h1 : k < l.length := HK.out
                    simp [intOf]
                    omega
              · obtain ⟨g, hg⟩ := O6.out.num (by omega)
                subst hg
                obtain ⟨b, o, ha, hc⟩ := HS.out.now (hb1.out.trans (O6.out.below.mono hb1.out.size)) i hlt
                subst ha
                have hci := hc i hlt
                have hce := Hid.mk (fun w' hb => HS.out.cell (w' := w') hb i hlt)
                have hni := O6.out.cell i hlt
                have hwi : IntKind.i64.wrap ((i : Int) + 1) = ((i + 1 : Nat) : Int) := by have := hL.out; rw [wrap_id (by omega) (by omega)]; omega
                obtain ⟨hN1, hN2⟩ := pos_some (O6.out.nums.at_ i hlt (by rw [O6.out.nums.len]; exact hlt))
                have HNm := Hid.mk (name_at _ _ _ L _ _ O6.out.tab hN1)
                rw [hN2] at HNm
                obtain ⟨x, hx⟩ : ∃ x, l[i]'hlt = x := ⟨_, rfl⟩
                obtain ⟨N, hN⟩ : ∃ N, ns[i]'(by rw [O6.out.nums.len]; exact hlt) = N := ⟨_, rfl⟩
                rw [hx] at hci hce HNm
                rw [hN] at hni HNm
                have heq := bytes_eq x
                clear hc hx hN hN1 hN2
                go_wp2_with (first
                  | (go_at_call 15; refine HNm.out.mono ?_; rintro e w7 ⟨rfl, h⟩
                     have HW7 := Hid.mk h
                     have hc7 := hce.out _ (hb1.out.trans ((O6.out.up h).below.mono hb1.out.size))
                     clear h))
                go_roundw
                case rel => exact ⟨i + 1, HL.out, by first | rfl | go_num, HB5.out.trans ((HB6.out.trans (HW7.out.mono HB6.out.size)).mono HB5.out.size)⟩
                case measure =>
                  have h1 : i < l.length := HL.out
                  simp [intOf]
                  omega
          · go_wp2_with (first
              | (go_at_call 16; refine (len_any _ _ _ _ _ O5.out.tab).mono ?_; rintro e w8 ⟨rfl, rfl⟩))
            go_ret
            exact ⟨rfl, hb1.out.trans (O5.out.below.mono hb1.out.size)⟩

end Go.Proofs.Ytjmjifjmenmdgaa
