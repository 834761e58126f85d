/-
  The document's arenas in memory; the words in use, the numbers of the blocks.
-/
import Derived.Test.YtpfcbokckjfhbaaArenaK
namespace Go.Proofs.Ytpfcbokckjfhbaa
open Go.RowKit Go.Deep Go.Maps Go.WideShapes

/-- The number that the document's row has at a place. -/
def numAt (B : Blks) (i : Nat) : Int := match (B[i]?).join with
  | some _ => ((i + 1 : Nat) : Int)
  | none => 0
/-- The document's arena: its box at q, its row of blocks v; S: all its memory. -/
structure Ra (w : World) (q : Nat) (v : Value) (S : Nat → Prop) (W : Nat) (B : Blks) : Prop where
  box : w.heap[q]? = some (.cells #[.int .i64 W, v] 67)
  row : ∃ xs : List Value, w.ownsRow 0 79 2 v B.length xs ∧ (∀ i, i < B.length → xs[i * 2]? = some (.int .i64 (numAt B i))) ∧
    ∀ i, i < B.length → ∃ lv l, xs[i * 2 + 1]? = some lv ∧ Wds w lv l ∧ (∀ o, B[i]? = some (some o) → l = o) ∧ (∀ g, lv.ownBlock = some g → S g ∧ g ≠ q ∧ v.ownBlock ≠ some g)
  sq : S q
  sv : ∀ g, v.ownBlock = some g → S g
  nv : v.ownBlock ≠ some q
  lt : ∀ k, S k → k < w.heap.size
  good : ∀ l, some l ∈ B → 1 ≤ l.length ∧ l.length ≤ 1000
theorem Ra.kept {T : Nat → Prop} {w w' : World} {q W : Nat} {v : Value} {S : Nat → Prop} {B : Blks} (h : Ra w q v S W B) (ho : Only T w w') (hT : ∀ k, S k → ¬ T k) : Ra w' q v S W B := by
  refine ⟨ho.box h.box (hT q h.sq), ?_, h.sq, h.sv, h.nv, fun k hk => Nat.lt_of_lt_of_le (h.lt k hk) ho.size, h.good⟩
  obtain ⟨xs, h1, h2, h3⟩ := h.row
  refine ⟨xs, ⟨h1.1, ?_⟩, h2, fun i hi => ?_⟩
  · rcases h1.2 with e | ⟨g, cap, cur, rfl, hb, hh, hr⟩
    · exact Or.inl e
    · exact Or.inr ⟨g, cap, cur, rfl, hb, ho.box hh (hT g (h.sv g rfl)), hr⟩
  · obtain ⟨lv, l, g1, g2, g3, g4⟩ := h3 i hi
    exact ⟨lv, l, g1, g2.kept ho (fun g hg => hT g (g4 g hg).1), g3, g4⟩
theorem Ra.up {w w' : World} {q W : Nat} {v : Value} {S : Nat → Prop} {B : Blks} (h : Ra w q v S W B) (hb : Below w.heap.size w w') : Ra w' q v S W B := h.kept (T := fun _ => False) (Only.up hb) (fun _ _ f => f)
theorem Ra.cells {w : World} {q W : Nat} {v : Value} {S : Nat → Prop} {B : Blks} (h : Ra w q v S W B) : w.cell? ⟨q, 0, none⟩ = some (.int .i64 W) ∧ w.cell? ⟨q, 1, none⟩ = some v ∧ w.frozen? ⟨q, 1, none⟩ = false := by
  have h' := h.box
  simp [World.cell?, World.frozen?, h']
/-- A block's two cells. -/
theorem Ra.at_ {w : World} {q W : Nat} {v : Value} {S : Nat → Prop} {B : Blks} (h : Ra w q v S W B) {i : Nat} (hi : i < B.length) : ∃ g cap a l lc, v = .slice (some ⟨g, 0, none⟩) B.length cap ∧ B.length ≤ cap ∧
    w.cell? ⟨g, i * 2, none⟩ = some (.int .i64 (numAt B i)) ∧ w.cell? ⟨g, i * 2 + 1, none⟩ = some (.slice a (List.length l) lc) ∧ Wds w (.slice a (List.length l) lc) l ∧ (∀ o, B[i]? = some (some o) → l = o) ∧
    w.frozen? ⟨g, i * 2, none⟩ = false ∧ w.frozen? ⟨g, i * 2 + 1, none⟩ = false := by
  obtain ⟨xs, h1, h2, h3⟩ := h.row
  have n1 := h2 i hi
  obtain ⟨lv, l, n2, n3, n4, _⟩ := h3 i hi
  obtain ⟨a, lc, rfl⟩ := owns_slice n3
  rcases h1.2 with ⟨_, e⟩ | ⟨g, cap, cur, rfl, _, hh, hn, hm, hs, hx⟩
  · omega
  · have key : ∀ j u, xs[j]? = some u → w.cell? ⟨g, j, none⟩ = some u := fun j u hu => by
      have e : cur.toList[j]? = some u := by
        have hj : j < xs.length := (List.getElem?_eq_some_iff.1 hu).1
        rw [← hx, List.getElem?_take] at hu
        split at hu
        · exact hu
        · cases hu
      simp only [World.cell?, hh]
      simpa using e
    exact ⟨g, cap, a, l, lc, rfl, hn, key _ _ n1, key _ _ n2, n3, n4, by simp [World.frozen?, hh], by simp [World.frozen?, hh]⟩
theorem Ra.slice {w : World} {q W : Nat} {v : Value} {S : Nat → Prop} {B : Blks} (h : Ra w q v S W B) : ∃ a cap, v = .slice a B.length cap := by
  obtain ⟨xs, h1, _⟩ := h.row
  exact owns_slice h1

/-- The words of one block, rounded up; its number. -/
def szO : Option (List Int) → Nat
  | some l => cls l.length
  | none => 0
def numO (k : Nat) : Option (List Int) → List Int
  | some _ => [((k + 1 : Nat) : Int)]
  | none => []
theorem usedB_take {B : Blks} {i : Nat} (h : i < B.length) : usedB (B.take (i + 1)) = usedB (B.take i) + szO B[i] := by
  induction B generalizing i with
  | nil => simp at h
  | cons x r ih =>
    cases i with
    | zero => cases x <;> simp [usedB, szO]
    | succ i =>
      have := ih (i := i) (by simpa using h)
      cases x <;> simp [usedB, this] <;> omega
theorem numsB_take {B : Blks} {i : Nat} : ∀ {k : Nat}, (h : i < B.length) → numsB k (B.take (i + 1)) = numsB k (B.take i) ++ numO (k + i) B[i] := by
  induction B generalizing i with
  | nil => intro k h; simp at h
  | cons x r ih =>
    intro k h
    cases i with
    | zero => cases x <;> simp [numsB, numO]
    | succ i =>
      have := ih (i := i) (k := k + 1) (by simpa using h)
      have e : k + 1 + i = k + (i + 1) := by omega
      rw [e] at this
      cases x <;> simp only [List.take_succ_cons, numsB, this, List.getElem_cons_succ, List.cons_append]
theorem usedB_take_le {B : Blks} : ∀ {i : Nat}, usedB (B.take i) ≤ usedB B := by
  induction B with
  | nil => intro i; simp
  | cons x r ih =>
    intro i
    cases i with
    | zero => simp [usedB]
    | succ i =>
      have := ih (i := i)
      cases x <;> simp [usedB] <;> omega
theorem join_some {B : Blks} {i : Nat} {l : List Int} (hi : i < B.length) (h : B[i] = some l) : B[i]? = some (some l) ∧ numAt B i = ((i + 1 : Nat) : Int) := by
  have e : B[i]? = some (some l) := by rw [List.getElem?_eq_getElem hi, h]
  exact ⟨e, by unfold numAt; rw [e]; rfl⟩
theorem join_none {B : Blks} {i : Nat} (hi : i < B.length) (h : B[i] = none) : numAt B i = 0 := by
  have e : B[i]? = some none := by rw [List.getElem?_eq_getElem hi, h]
  unfold numAt
  rw [e]
  rfl

set_option maxRecDepth 100000 in
set_option maxHeartbeats 2000000 in
theorem usedR_any (q W : Nat) (v : Value) (S : Nat → Prop) (B : Blks) (w : World) (h : Ra w q v S W B) (hB : B.length ≤ 1000) (hu : usedB B ≤ 16777216) :
    Calls Try.prog 33 #[.pointer (some ⟨q, 0, none⟩)] w fun e w' => e = .returned (.int .i64 (usedB B)) ∧ w = w' := by
  obtain ⟨c0, c1, f1⟩ := h.cells
  obtain ⟨a, cap, rfl⟩ := h.slice
  have HR := Hid.mk h
  have HB := Hid.mk (And.intro hB hu)
  clear h hB hu
  go_enter Try.func33, Try.ntmps33
  go_wp2
  go_loopw [3, 4] (fun nn ii wr => ∃ i : Nat, i ≤ B.length ∧ nn = .int .i64 (usedB (B.take i)) ∧ ii = .int .i64 i ∧ wr = w) (fun _ ii _ => B.length - (intOf ii).toNat)
  case atStart => exact ⟨0, Nat.zero_le _, by simp [usedB], rfl, rfl⟩
  case round =>
    obtain ⟨i, hi, rfl, rfl, rfl⟩ := hrel
    have hBB := HB.out
    by_cases hlt : i < B.length
    · obtain ⟨g, cap', a', l, lc, hv, hcap, d0, d1, dw, dl, _, _⟩ := HR.out.at_ hlt
      simp only [Value.slice.injEq, true_and] at hv
      obtain ⟨rfl, rfl⟩ := hv
      have hst := usedB_take hlt
      have hle := usedB_take_le (B := B) (i := i)
      have hle1 := usedB_take_le (B := B) (i := i + 1)
      have hwi : IntKind.i64.wrap ((i : Int) + 1) = ((i + 1 : Nat) : Int) := by rw [wrap_id (by omega) (by omega)]; omega
      have HL := Hid.mk hlt
      cases hb : B[i]'hlt with
      | none =>
        rw [join_none hlt hb] at d0
        rw [hb, szO, Nat.add_zero] at hst
        have hst := Hid.mk hst
        have hst' := hst
        clear hst
        have hli : (i : Int) < B.length := by omega
        clear hb dl dw hle hle1 hBB
        go_wp2
        go_roundw
        case rel => exact ⟨i + 1, HL.out, by rw [hst'.out]; rfl, by first | rfl | go_num, by first | rfl | trivial⟩
        case measure => have h1 : i < B.length := HL.out; simp [intOf]; omega
      | some o =>
        obtain ⟨e1, e2⟩ := join_some hlt hb
        rw [e2] at d0
        obtain rfl := dl o e1
        have hgd := HR.out.good l (List.mem_of_getElem? e1)
        rw [hb, szO] at hst
        obtain ⟨U, hU⟩ : ∃ U, usedB (B.take i) = U := ⟨_, rfl⟩
        obtain ⟨C, hC⟩ : ∃ C, cls l.length = C := ⟨_, rfl⟩
        rw [hU] at hst hle ⊢
        rw [hC] at hst
        have hrd : Hid (∀ w1, Calls Try.prog 14 #[.int .i64 l.length] w1 fun e w' => e = .returned (.int .i64 C) ∧ w1 = w') := Hid.mk (fun w1 => by
          have := roundR_any (l.length : Int) w1
          rwa [rnd_in (by omega) (by omega), hC] at this)
        have hwu : IntKind.i64.wrap ((U : Int) + C) = ((U + C : Nat) : Int) := by rw [wrap_id (by omega) (by omega)]; omega
        have hst := Hid.mk hst
        have hst' := hst
        clear hst
        have hi1 : (0 : Int) < ((i + 1 : Nat) : Int) := by omega
        have hli : (i : Int) < B.length := by omega
        obtain ⟨I1, hI1⟩ : ∃ I1, i + 1 = I1 := ⟨_, rfl⟩
        rw [hI1] at d0 hi1 hwi hst'
        have HI := Hid.mk hI1
        clear hb dl dw hle hle1 hBB e1 e2 hgd hU hC hI1
        go_wp2_with (go_at_call 14; refine (hrd.out _).mono ?_; rintro e x ⟨rfl, rfl⟩)
        go_roundw
        case rel => exact ⟨I1, by have := HI.out; have : i < B.length := HL.out; omega, by rw [hst'.out]; simp, rfl, by first | rfl | trivial⟩
        case measure => have h1 := HI.out; have h2 : i < B.length := HL.out; simp [intOf]; omega
    · obtain rfl : i = B.length := by omega
      clear hlt hBB
      go_wp2
      go_ret
      exact ⟨by simp, rfl⟩
theorem intInfo : (Try.prog.info? 3).map (fun i => (i.zero, i.size, i.bytes)) = some (some (.int .i64 0), 1, 8) := by kernel_rfl
set_option maxRecDepth 100000 in
set_option maxHeartbeats 2000000 in
theorem blocksR_any (q W : Nat) (v : Value) (S : Nat → Prop) (B : Blks) (w : World) (h : Ra w q v S W B) (hB : B.length ≤ 1000) :
    Calls Try.prog 34 #[.pointer (some ⟨q, 0, none⟩)] w fun e w' => ∃ u, e = .returned u ∧ Nums w' u (numsB 0 B) ∧ Below w.heap.size w w' := by
  obtain ⟨a, cap, rfl⟩ := h.slice
  obtain ⟨i0, hi0, hz0, hz1, hby⟩ := info_parts intInfo
  have HR := Hid.mk h
  have HB := Hid.mk hB
  clear h hB
  go_enter Try.func34, Try.ntmps34
  go_wp2
  go_loopw [3, 4] (fun u0 ii wr => ∃ (i : Nat) (uu : Value), i ≤ B.length ∧ uu = u0 ∧ ii = .int .i64 i ∧ Hid (wr.ownsRow w.heap.size 3 1 uu (numsB 0 (B.take i)).length ((numsB 0 (B.take i)).map (.int .i64))) ∧ Hid (Below w.heap.size w wr)) (fun _ ii _ => B.length - (intOf ii).toNat)
  case atStart => exact ⟨0, _, Nat.zero_le _, rfl, rfl, Hid.mk ⟨rfl, Or.inl ⟨rfl, rfl⟩⟩, Hid.mk (Below.refl _ _)⟩
  case round =>
    obtain ⟨i, uu, hi, rfl, rfl, hU, hW⟩ := hrel
    obtain ⟨c0, c1, f1⟩ := (HR.out.up hW.out).cells
    have hBB := HB.out
    by_cases hlt : i < B.length
    · obtain ⟨g, cap', a', l, lc, hv, hcap, d0, d1, dw, dl, _, _⟩ := (HR.out.up hW.out).at_ hlt
      simp only [Value.slice.injEq, true_and] at hv
      obtain ⟨rfl, rfl⟩ := hv
      have hst := numsB_take (k := 0) hlt
      have hwi : IntKind.i64.wrap ((i : Int) + 1) = ((i + 1 : Nat) : Int) := by rw [wrap_id (by omega) (by omega)]; omega
      have HL := Hid.mk hlt
      have hli : (i : Int) < B.length := by omega
      cases hb : B[i]'hlt with
      | none =>
        rw [join_none hlt hb] at d0
        rw [hb, numO, List.append_nil] at hst
        have HS := Hid.mk hst
        clear hb dl dw hBB hst
        go_wp2
        go_roundw
        case rel => exact ⟨i + 1, _, HL.out, rfl, by first | rfl | go_num, by rw [HS.out]; exact hU, hW⟩
        case measure => have h1 : i < B.length := HL.out; simp [intOf]; omega
      | some o =>
        obtain ⟨e1, e2⟩ := join_some hlt hb
        rw [e2] at d0
        rw [hb, numO, Nat.zero_add] at hst
        have HS := Hid.mk hst
        have hi1 : (0 : Int) < ((i + 1 : Nat) : Int) := by omega
        obtain ⟨I1, hI1⟩ : ∃ I1, i + 1 = I1 := ⟨_, rfl⟩
        rw [hI1] at d0 hi1 hwi HS
        have HI := Hid.mk hI1
        have hnl := numsB_len (B.take i) 0
        rw [List.length_take] at hnl
        have HN := Hid.mk (show (numsB 0 (B.take i)).length ≤ 1000 by omega)
        clear hb dl dw hBB e1 e2 hI1 hst hnl
        go_wp2_with (at_builtin; refine wpList_append_own_at _ rfl _ _ 49 rfl w.heap.size 3 i0 _ 1 8 Try.underlying49 hi0 hz0 hz1 hby rfl (by decide) uu (numsB 0 (B.take i)).length _ rfl (hU.out.alloc _) ⟨wr.heap.size, 0, none⟩ 1 1 [.int .i64 I1] rfl rfl (cell_one_new _ _ _) (fun u hu => (by obtain rfl := List.mem_singleton.1 hu; rfl)) (by have := HN.out; unfold maxLen; omega) (by have := HN.out; omega) (by have := hW.out.size; simp; omega) ?_; intro u' w2 hown hgrow hnil hat; clear hnil hat
                     have HO := Hid.mk hown; have HG := Hid.mk (((hW.out.alloc hW.out.size _).grown hgrow (by have := hW.out.size; simp; omega) (fun k hk => (hU.out.lt k hk).1))); clear hown hgrow)
        go_roundw
        case rel => exact ⟨I1, _, by have := HI.out; have : i < B.length := HL.out; omega, rfl, rfl, by rw [HS.out, List.length_append, List.map_append]; exact HO, HG⟩
        case measure => have h1 := HI.out; have h2 : i < B.length := HL.out; simp [intOf]; omega
    · obtain rfl : i = B.length := by omega
      clear hlt hBB
      go_wp2
      go_ret
      refine ⟨uu, rfl, ?_, hW.out⟩
      have := hU.out
      rw [List.take_length] at this
      exact ownsRow_base_a this (Nat.zero_le _)
end Go.Proofs.Ytpfcbokckjfhbaa
