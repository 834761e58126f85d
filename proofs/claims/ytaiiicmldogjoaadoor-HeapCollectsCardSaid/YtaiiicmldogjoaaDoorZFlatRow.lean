/-
  Rows of words of a call's own: appended to by zeros, by nothing, by some; a word put at a place.
-/
import Derived.Test.YtaiiicmldogjoaaDoorZKitRegion
import Derived.Test.YtaiiicmldogjoaaDoorZAtomBase
import Derived.Lib.AppendZerosOnto
import Derived.Maps.AppendAt
import Derived.Test.YtaiiicmldogjoaaDoorZFlatRead
import Derived.Test.YtaiiicmldogjoaaDoorZWordLaws
import Derived.Test.YtaiiicmldogjoaaDoorZKitBase
namespace Go.Proofs.YtaiiicmldogjoaaDoor
open Go.RowKit Go.Deep

/-- append(s, make([]T, m)...) onto a row that the call owns. -/
theorem run_append_own_zeros {P : Program} (w : World) (base : Nat) (t tn ty e : TypeId) (i : TypeInfo) (z : Value) (kq kn : IntKind) (size bytes : Nat) (ht : P.underlying t = some (.slice e)) (htn : P.underlying tn = some (.int kn)) (hi : P.info? e = some i) (hz : i.zero = some z)
    (hsize : i.size = size) (hby : i.bytes = bytes) (hzs : z.cells.size = size) (hsz : 0 < size)
    (v : Value) (n : Nat) (xs : List Value) (hown : w.ownsRow base e size v n xs)
    (m : Nat) (news : List Value) (hnews : (Builtin.zeroCells z.cells m).toList = news) (h1 : ∀ u ∈ news, u.oneCell' = true)
    (h63 : n + m ≤ maxLen) (hbytes : (n + m) * bytes ≤ 140737488355328) (hbase : base ≤ w.heap.size) :
    ∃ v' w', (Builtin.append_ #[t, tn] ty #[v, .int kq m]).run P w = .ok v' w' ∧ w'.ownsRow base e size v' (n + m) (xs ++ news) ∧ w.grownBy w' v.ownBlock ∧ (v'.ownBlock = v.ownBlock ∨ v'.ownBlock = some w.heap.size) := by
  subst hsize
  subst hby
  have hsmall : n + m ≤ 9223372036854775807 := by simp only [maxLen] at h63; omega
  have hl : news.length = m * i.size := by rw [← hnews, Array.length_toList, size_zeroCells, hzs]
  have hlen : (xs ++ news).length = (n + m) * i.size := by rw [List.length_append, hown.1, hl, Nat.add_mul]
  have hna : Builtin.zeroCells z.cells m = news.toArray := by rw [← hnews]
  have hmb : m * i.bytes ≤ 281474976710656 := by
    have : m * i.bytes ≤ (n + m) * i.bytes := Nat.mul_le_mul_right _ (by omega)
    omega
  have grown : ∀ (old : Nat), old < n + m → ∀ (row : Option Nat),
      (w.drew.alloc (.cells (xs.toArray ++ news.toArray ++ Builtin.zeroCells z.cells (grownCap w (n + m) old e - (n + m))) e)).ownsRow base e i.size
        (.slice (some ⟨w.heap.size, 0, none⟩) (n + m) (grownCap w (n + m) old e)) (n + m) (xs ++ news) ∧
      w.grownBy (w.drew.alloc (.cells (xs.toArray ++ news.toArray ++ Builtin.zeroCells z.cells (grownCap w (n + m) old e - (n + m))) e)) row := by
    intro old ho row
    have hge := grownCap_ge w (n + m) old e
    have hcm : grownCap w (n + m) old e ≤ maxLen := grownCap_le_maxLen w (n + m) old e h63
    refine ⟨⟨hlen, .inr ⟨w.heap.size, _, _, rfl, hbase, heap_alloc_new w.drew _, hge, hcm, ?_, ?_⟩⟩, ⟨rfl, rfl, rfl, by simp, fun k hk _ => Below.heap_alloc w.drew _ k hk⟩⟩
    · simp only [Array.size_append, List.size_toArray, size_zeroCells, hzs, hown.1, hl, ← Nat.add_mul]
      congr 1
      omega
    · simp only [Array.toList_append, List.append_assoc]
      rw [← List.append_assoc, ← hlen]
      exact List.take_left
  by_cases hm : m = 0
  · subst hm
    have hn : news = [] := List.eq_nil_of_length_eq_zero (by simpa using hl)
    subst hn
    have hw : IntKind.i64.wrap 0 = 0 := rfl
    obtain ⟨a, cap, rfl⟩ := owns_slice hown
    have hcap : n ≤ cap := by
      rcases hown.2 with ⟨h, h'⟩ | ⟨g, cap', cur, h, _, _, hc, _⟩
      · omega
      · cases h; exact hc
    refine ⟨.slice a n cap, w, ?_, by simpa using hown, ⟨rfl, rfl, rfl, Nat.le_refl _, fun _ _ _ => rfl⟩, Or.inl rfl⟩
    cases a with
    | none => simp [Builtin.append_, run_underlying ht, run_underlying htn, sizeOf, typeInfo, hi, asInt, asIntOf, hw, hcap]
    | some a => simp [Builtin.append_, run_underlying ht, run_underlying htn, sizeOf, typeInfo, hi, asInt, asIntOf, hw, hcap, storeCells]
  · rcases hown.2 with ⟨rfl, rfl⟩ | ⟨g, cap, cur, rfl, hbg, hg, hnc, hcm, hcs, htake⟩
    · have hx : xs = [] := List.eq_nil_of_length_eq_zero (by simpa using hown.1)
      subst hx
      have hr := Lib.run_append_nil_zeros (P := P) w t tn ty e i z kq kn ht htn hi hz m (by omega) hsz (by omega) hmb
      have hgr := grown 0 (by omega) (Value.ownBlock (.slice none 0 0))
      simp only [Nat.zero_add, List.nil_append, Array.empty_append] at hgr ⊢
      rw [hna] at hr
      exact ⟨_, _, hr, hgr.1, hgr.2, Or.inr rfl⟩
    · by_cases hroom : n + m ≤ cap
      · have hfit : n * i.size + news.length ≤ cur.size := by rw [hl, hcs, ← Nat.add_mul]; exact Nat.mul_le_mul_right _ hroom
        have hst := run_storeCells_at P g (n * i.size) e news 0 cur w hg (by simpa using hfit) h1
        simp only [Nat.add_zero] at hst
        have hw : IntKind.i64.wrap (m : Int) = m := by rw [IntKind.wrap_i64]; omega
        have h48i : ¬ (281474976710656 < (m : Int) * (i.bytes : Int)) := by
          rw [← Int.natCast_mul]
          omega
        have hneg : ¬ ((m : Int) < 0) := by omega
        have hns : ¬ (m * i.size = 0) := Nat.mul_ne_zero hm (by omega)
        have hr : (Builtin.append_ #[t, tn] ty #[.slice (some ⟨g, 0, none⟩) n cap, .int kq m]).run P w =
            .ok (.slice (some ⟨g, 0, none⟩) (n + m) cap) (w.setRow g (cur.toList.take (n * i.size) ++ news ++ cur.toList.drop (n * i.size + news.length)).toArray) := by
          simp [Builtin.append_, run_underlying ht, run_underlying htn, sizeOf, typeInfo, zeroValue, hi, hz, asInt, asIntOf, hw, hneg, hns, h48i, hroom, Addr.add_lit, hna, hst]
        refine ⟨_, _, hr, ⟨hlen, .inr ⟨g, cap, _, rfl, hbg, setRow_heap w g cur _ e _ hg, hroom, hcm, ?_, ?_⟩⟩, ⟨rfl, rfl, rfl, by simp, fun k _ hk => setRow_other w g k _ (fun e => hk (by simp [Value.ownBlock, e]))⟩, Or.inl rfl⟩
        · simp only [List.size_toArray, List.length_append, List.length_take, List.length_drop, Array.length_toList]
          omega
        · rw [htake, ← hlen]
          exact List.take_left
      · have holds : ∀ j u, xs[j]? = some u → w.cell? ((⟨g, 0, none⟩ : Addr).add j) = some u := hown.cells (g := g) rfl
        have hold := run_firstCells_some (P := P) w.drew i.size n ⟨g, 0, none⟩ n cap xs hown.1 (by simpa using holds)
        have hr := Lib.run_append_grow_zeros (P := P) w t tn ty e i z kq kn ht htn hi hz (some ⟨g, 0, none⟩) n cap xs hold m (by omega) hsz (by omega) (by omega) hmb (growslice_fits (by omega) hbytes)
        have hgr := grown cap (by omega) (Value.ownBlock (.slice (some ⟨g, 0, none⟩) n cap))
        rw [hna] at hr
        exact ⟨_, _, hr, hgr.1, hgr.2, Or.inr rfl⟩

theorem zero_words (m : Nat) : (Builtin.zeroCells (Value.int .u64 0).cells m).toList = (List.replicate m (0 : Int)).map (.int .u64) := by
  apply List.ext_getElem?
  intro j
  by_cases hj : j < m
  · simp [Builtin.zeroCells, Value.cells, hj, Nat.mod_one]
  · simp [Builtin.zeroCells, Value.cells, hj]
/-- Zeros appended to a row of words. -/
theorem append_zeros (w : World) (ty : TypeId) (v : Value) (xs : List Int) (h : Wds w v xs) (m : Nat) (hm : xs.length + m ≤ 1000000) :
    ∃ v' w', (Builtin.append_ #[25, 3] ty #[v, .int .i64 m]).run Tryd.prog w = .ok v' w' ∧ Wds w' v' (xs ++ List.replicate m 0) ∧ w.grownBy w' v.ownBlock ∧ (v'.ownBlock = v.ownBlock ∨ v'.ownBlock = some w.heap.size) := by
  have hi := wordInfo
  cases hq : Tryd.prog.info? 22 with
  | none => rw [hq] at hi; cases hi
  | some i =>
    rw [hq] at hi
    simp only [Option.map_some, Option.some.injEq, Prod.mk.injEq] at hi
    obtain ⟨hz, hs, hb⟩ := hi
    obtain ⟨v', w', hr, ho, hg, ha⟩ := run_append_own_zeros w 0 25 3 ty 22 i _ .i64 .i64 1 8 Tryd.underlying25 Tryd.underlying3 hq hz hs hb rfl (by decide) v xs.length _ h m _ (zero_words m)
      (fun u hu => by obtain ⟨x, _, rfl⟩ := List.mem_map.1 hu; rfl) (by unfold maxLen; omega) (by omega) (Nat.zero_le _)
    refine ⟨v', w', hr, ?_, hg, ha⟩
    unfold Wds
    rw [List.length_append, List.length_replicate, List.map_append]
    exact ho
/-- Some words appended to a row of words. -/
theorem append_some (w : World) (ty : TypeId) (v : Value) (xs ys : List Int) (h : Wds w v xs) (g : Nat) (c : Nat) (hy : ∀ j (hj : j < ys.length), w.cell? ⟨g, j, none⟩ = some (.int .u64 ys[j])) (hm : xs.length + ys.length ≤ 1000000) :
    ∃ v' w', (Builtin.append_ #[25, 25] ty #[v, .slice (some ⟨g, 0, none⟩) ys.length c]).run Tryd.prog w = .ok v' w' ∧ Wds w' v' (xs ++ ys) ∧ w.grownBy w' v.ownBlock ∧ (v'.ownBlock = v.ownBlock ∨ v'.ownBlock = some w.heap.size) := by
  have hi := wordInfo
  cases hq : Tryd.prog.info? 22 with
  | none => rw [hq] at hi; cases hi
  | some i =>
    rw [hq] at hi
    simp only [Option.map_some, Option.some.injEq, Prod.mk.injEq] at hi
    obtain ⟨hz, hs, hb⟩ := hi
    obtain ⟨v', w', hr, ho, hg, _, ha⟩ := run_append_own_at (P := Tryd.prog) w 0 25 ty 22 i _ 1 8 Tryd.underlying25 hq hz hs hb rfl (by decide) v xs.length _ h ⟨g, 0, none⟩ ys.length c (ys.map (.int .u64)) (by simp)
      (fun j u hu => by
        rw [List.getElem?_map, Option.map_eq_some_iff] at hu
        obtain ⟨x, hx, rfl⟩ := hu
        obtain ⟨hj, hx⟩ := List.getElem?_eq_some_iff.1 hx
        have := hy j hj
        rw [hx] at this
        rw [Addr.add_lit, Nat.zero_add]
        exact this)
      (fun u hu => by obtain ⟨x, _, rfl⟩ := List.mem_map.1 hu; rfl) (by unfold maxLen; omega) (by omega) (Nat.zero_le _)
    refine ⟨v', w', hr, ?_, hg, ha⟩
    unfold Wds
    rw [List.length_append, List.map_append]
    exact ho
end Go.Proofs.YtaiiicmldogjoaaDoor

/-
  The small functions of package flat: made, number, pack, lead.
-/
namespace Go.Proofs.YtaiiicmldogjoaaDoor
open Go.RowKit Go.Deep

/-- A table's number of a term, of a place; how that went; what the table has then. -/
def numP (L : List ByteArray) (k n : Int) (s : ByteArray) (p : Nat) : Int × Int × List ByteArray := if k = 2 then ((put L s).1, (put L s).2.1, (put L s).2.2) else (if hasL k = true then p else n, 0, L)
/-- A slice of what stands ahead of a term's parts. -/
def LeadV (w : World) (v : Value) (ys : List Int) : Prop := (ys = [] ∧ v = .slice none 0 0) ∨ ∃ g x, ys = [x] ∧ v = .slice (some ⟨g, 0, none⟩) 1 1 ∧ w.cell? ⟨g, 0, none⟩ = some (.int .u64 x)
end Go.Proofs.YtaiiicmldogjoaaDoor

/-
  What is laid while a term is written: a table of atoms, and a row of words in a variable.
-/
namespace Go.Proofs.YtaiiicmldogjoaaDoor
open Go.RowKit Go.Deep

/-- A load, and another with a call that waits for it: in whichever order. -/
theorem chain_load_call {P : Program} {md : Region.Mode} {ops : Array Oper} {Q : Exit → Act → World → Prop} {S : World → Prop} {fuel i j k : Nat} {listed : Array Bool} {a : Act} {w : World} {o o' o'' : Oper} {d e r : Tmp} {u v : Value} {f : FuncId} {args : Array Value}
    (hr : Region.ready md ops listed = [i, j]) (ho : ops[i]? = some o) (hd : o.dst = some d) (ho' : ops[j]? = some o') (hd' : o'.dst = some e) (ho'' : ops[k]? = some o'') (hd'' : o''.dst = some r)
    (hij : i ≠ j) (hik : i ≠ k) (hde : d ≠ e) (hdr : d ≠ r)
    (hr1 : Region.ready md ops (listed.setIfInBounds i true) = [j]) (hr2 : Region.ready md ops (listed.setIfInBounds j true) = [i, k]) (hr12 : Region.ready md ops ((listed.setIfInBounds i true).setIfInBounds j true) = [k]) (hr23 : Region.ready md ops ((listed.setIfInBounds j true).setIfInBounds k true) = [i])
    (hw : Region.wanted o (yielded ops a.tmps) = true) (hw' : Region.wanted o' (yielded ops a.tmps) = true) (hw1 : Region.wanted o' (yielded ops (a.put (some d) u).tmps) = true) (hw2 : Region.wanted o (yielded ops (a.put (some e) v).tmps) = true)
    (hw3 : Region.wanted o'' (yielded ops ((a.put (some d) u).put (some e) v).tmps) = true) (hw4 : Region.wanted o'' (yielded ops (a.put (some e) v).tmps) = true) (hw5 : ∀ x, Region.wanted o (yielded ops ((a.put (some e) v).put (some r) x).tmps) = true)
    (hx : (execOp a.eval o).run P w = .ok (.value u) w) (hx' : (execOp a.eval o').run P w = .ok (.value v) w) (hx1 : (execOp (a.put (some d) u).eval o').run P w = .ok (.value v) w) (hx2 : (execOp (a.put (some e) v).eval o).run P w = .ok (.value u) w)
    (hc3 : (execOp ((a.put (some d) u).put (some e) v).eval o'').run P w = .ok (.enter f args) w) (hc4 : (execOp (a.put (some e) v).eval o'').run P w = .ok (.enter f args) w) (hS : S w)
    (hcall : Calls P f args w fun en w' => ∃ x, en = .returned x ∧ S w' ∧ (execOp ((a.put (some e) v).put (some r) x).eval o).run P w' = .ok (.value u) w' ∧ wpAnyH P md ops Q S fuel (((listed.setIfInBounds i true).setIfInBounds j true).setIfInBounds k true) (((a.put (some d) u).put (some e) v).put (some r) x) w') :
    wpAnyH P md ops Q S (fuel + 1 + 1 + 1) listed a w := by
  have hcd : ∀ x, ((a.put (some e) v).put (some r) x).put (some d) u = ((a.put (some d) u).put (some e) v).put (some r) x := fun x => by
    rw [Act.put_comm (a.put (some e) v) x u (fun d1 h1 h2 => by cases h1; cases h2; exact hdr rfl), Act.put_comm a v u (fun d1 h1 h2 => by cases h1; cases h2; exact hde rfl)]
  refine wpAnyH_all hr (by simp) (fun m hm => ?_)
  rcases List.mem_cons.1 hm with rfl | hm
  · unfold wpOp
    simp only [ho]
    rw [if_pos hw]
    refine .inl ?_
    unfold Oper.wp
    rw [hx]
    refine ⟨hS, ?_⟩
    rw [hd]
    exact chain_value hr1 ho' hd' hw1 hx1 hS (chain_call hr12 ho'' hd'' hw3 hc3 (hcall.mono fun en w' ⟨x, h1, h2, _, h4⟩ => ⟨x, h1, h2, h4⟩))
  · obtain rfl := List.mem_singleton.1 hm
    unfold wpOp
    simp only [ho']
    rw [if_pos hw']
    refine .inl ?_
    unfold Oper.wp
    rw [hx']
    refine ⟨hS, ?_⟩
    rw [hd']
    refine wpAnyH_all hr2 (by simp) (fun n hn => ?_)
    rcases List.mem_cons.1 hn with rfl | hn
    · unfold wpOp
      simp only [ho]
      rw [if_pos hw2]
      refine .inl ?_
      unfold Oper.wp
      rw [hx2]
      refine ⟨hS, ?_⟩
      rw [hd, Act.put_comm a v u (fun d1 h1 h2 => by cases h1; cases h2; exact hde rfl), Array.setIfInBounds_comm _ _ hij.symm]
      exact chain_call hr12 ho'' hd'' hw3 hc3 (hcall.mono fun en w' ⟨x, h1, h2, _, h4⟩ => ⟨x, h1, h2, h4⟩)
    · obtain rfl := List.mem_singleton.1 hn
      unfold wpOp
      simp only [ho'']
      rw [if_pos hw4]
      refine .inl ?_
      unfold Oper.wp
      rw [hc4]
      refine Calls.mono hcall ?_
      rintro en w' ⟨x, rfl, h2, h3, h4⟩
      refine ⟨h2, ?_⟩
      rw [hd'']
      refine chain_value hr23 ho hd (hw5 x) h3 h2 ?_
      rw [hcd x, Array.setIfInBounds_comm _ _ hik.symm, Array.setIfInBounds_comm _ _ hij.symm]
      exact h4
/-- Since w0 nothing has been written but blocks of B; there is a table, and a row of words in the variable lb. -/
structure Lay (B : Nat → Prop) (w0 w : World) (p bm lb : Nat) (L : List ByteArray) (v rv : Value) (xs : List Int) : Prop where
  tab : Tab w p bm v L
  box : w.heap[lb]? = some (.cells #[rv] 25)
  row : Wds w rv xs
  nm : ¬ Mine p bm v lb
  nr : ∀ g, rv.ownBlock = some g → g ≠ lb ∧ ¬ Mine p bm v g
  only : Only B w0 w
  mine : ∀ k, (Mine p bm v k ∨ k = lb ∨ rv.ownBlock = some k) → B k ∨ w0.heap.size ≤ k
theorem Lay.up {B : Nat → Prop} {w0 w w' : World} {p bm lb : Nat} {L : List ByteArray} {v rv : Value} {xs : List Int} (h : Lay B w0 w p bm lb L v rv xs) (hb : Below w.heap.size w w') : Lay B w0 w' p bm lb L v rv xs :=
  ⟨h.tab.up hb, (hb.block _ (Array.getElem?_eq_some_iff.1 h.box).1).trans h.box, h.row.up hb, h.nm, h.nr, h.only.trans (S' := fun _ => False) (Only.up hb) (fun _ f => f.elim), h.mine⟩
theorem Lay.lt {B : Nat → Prop} {w0 w : World} {p bm lb : Nat} {L : List ByteArray} {v rv : Value} {xs : List Int} (h : Lay B w0 w p bm lb L v rv xs) : lb < w.heap.size := (Array.getElem?_eq_some_iff.1 h.box).1
theorem Lay.intern {B : Nat → Prop} {w0 w w' : World} {p bm lb : Nat} {L L' : List ByteArray} {v rv : Value} {xs : List Int} (h : Lay B w0 w p bm lb L v rv xs) (hl : Left w p bm v L' w') : ∃ v', Lay B w0 w' p bm lb L' v' rv xs := by
  obtain ⟨v', hT, ho, hM0⟩ := hl
  have hM : ∀ k, Mine p bm v' k → Mine p bm v k ∨ w.heap.size ≤ k := fun k hk => by
    rcases hk with hk | hk | hk
    · exact Or.inl (Or.inl hk)
    · exact Or.inl (Or.inr (Or.inl hk))
    · exact (hM0 k hk).elim (fun h => Or.inl (Or.inr (Or.inr h))) Or.inr
  refine ⟨v', hT, ho.box h.box h.nm, h.row.kept ho (fun g hg => (h.nr g hg).2), fun hk => ?_, fun g hg => ⟨(h.nr g hg).1, fun hk => ?_⟩, h.only.trans ho (fun i hi => h.mine i (Or.inl hi)), fun k hk => ?_⟩
  · rcases hM _ hk with hk | hk
    · exact h.nm hk
    · have := h.lt; omega
  · rcases hM _ hk with hk | hk
    · exact (h.nr g hg).2 hk
    · have := h.row.block_lt hg; omega
  · rcases hk with hk | hk
    · rcases hM _ hk with hk | hk
      · exact h.mine k (Or.inl hk)
      · exact Or.inr (Nat.le_trans h.only.size hk)
    · exact h.mine k (Or.inr hk)
theorem Lay.cell {B : Nat → Prop} {w0 w : World} {p bm lb : Nat} {L : List ByteArray} {v rv : Value} {xs : List Int} (h : Lay B w0 w p bm lb L v rv xs) : w.cell? ⟨lb, 0, none⟩ = some rv ∧ w.frozen? ⟨lb, 0, none⟩ = false := by
  have hb := h.box
  simp [World.cell?, World.frozen?, hb]
/-- A word put at a place. -/
theorem Lay.set {B : Nat → Prop} {w0 w : World} {p bm lb g n cap : Nat} {L : List ByteArray} {v : Value} {xs : List Int} (h : Lay B w0 w p bm lb L v (.slice (some ⟨g, 0, none⟩) n cap) xs) (i : Nat) (x : Int) :
    Lay B w0 (w.setCell ⟨g, i, none⟩ (.int .u64 x)) p bm lb L v (.slice (some ⟨g, 0, none⟩) n cap) (xs.set i x) := by
  have hg := h.nr g rfl
  have ho : Only (· = g) w (w.setCell ⟨g, i, none⟩ (.int .u64 x)) := Only.set w _ rfl
  exact ⟨h.tab.kept ho (fun k hk e => hg.2 (e ▸ hk)), ho.box h.box (fun e => hg.1 e.symm), h.row.set i x, h.nm, h.nr, h.only.trans ho (fun k hk => by subst hk; exact h.mine _ (Or.inr (Or.inr rfl))), h.mine⟩
/-- A row grown. -/
theorem Lay.grow {B : Nat → Prop} {w0 w w1 : World} {p bm lb : Nat} {L : List ByteArray} {v rv rv' : Value} {xs xs' : List Int} (h : Lay B w0 w p bm lb L v rv xs) (hr : Wds w1 rv' xs') (hg : w.grownBy w1 rv.ownBlock) (ha : rv'.ownBlock = rv.ownBlock ∨ rv'.ownBlock = some w.heap.size) :
    Lay B w0 (w1.setCell ⟨lb, 0, none⟩ rv') p bm lb L v rv' xs' := by
  have ho : Only (fun k => rv.ownBlock = some k) w w1 := Only.grown hg (fun k hk => hk)
  have ho2 : Only (· = lb) w1 (w1.setCell ⟨lb, 0, none⟩ rv') := Only.set w1 _ rfl
  have hlt := h.lt
  have hb1 : w1.heap[lb]? = some (.cells #[rv] 25) := ho.box h.box (fun e => (h.nr lb e).1 rfl)
  have hnew : ∀ g, rv'.ownBlock = some g → rv.ownBlock = some g ∨ w.heap.size ≤ g := by
    intro g hg'
    rcases ha with ha | ha
    · exact Or.inl (ha ▸ hg')
    · rw [ha] at hg'
      cases hg'
      exact Or.inr (Nat.le_refl _)
  have hT1 : Tab w1 p bm v L := h.tab.kept ho (fun k hk e => (h.nr k e).2 hk)
  refine ⟨hT1.kept ho2 (fun k hk e => h.nm (e ▸ hk)), set1_block hb1, hr.kept ho2 (fun g hg' e => ?_), h.nm, fun g hg' => ?_, (h.only.trans ho (fun k hk => h.mine k (Or.inr (Or.inr hk)))).trans ho2 (fun k hk => by subst hk; exact h.mine _ (Or.inr (Or.inl rfl))), fun k hk => ?_⟩
  · subst e
    rcases hnew _ hg' with e | e
    · exact (h.nr _ e).1 rfl
    · omega
  · rcases hnew _ hg' with e | e
    · exact h.nr _ e
    · exact ⟨by omega, fun hk => by have := h.tab.lt hk; omega⟩
  · rcases hk with hk | hk | hk
    · exact h.mine k (Or.inl hk)
    · exact h.mine k (Or.inr (Or.inl hk))
    · rcases hnew _ hk with e | e
      · exact h.mine k (Or.inr (Or.inr e))
      · exact Or.inr (Nat.le_trans h.only.size e)
theorem Lay.grown_box {B : Nat → Prop} {w0 w w1 : World} {p bm lb : Nat} {L : List ByteArray} {v rv : Value} {xs : List Int} (h : Lay B w0 w p bm lb L v rv xs) (hg : w.grownBy w1 rv.ownBlock) : w1.cell? ⟨lb, 0, none⟩ = some rv ∧ w1.frozen? ⟨lb, 0, none⟩ = false := by
  have ho : Only (fun k => rv.ownBlock = some k) w w1 := Only.grown hg (fun k hk => hk)
  have hb := ho.box h.box (fun e => (h.nr lb e).1 rfl)
  simp [World.cell?, World.frozen?, hb]
theorem append_lead (w : World) (ty : TypeId) (v lv : Value) (xs ys : List Int) (h : Wds w v xs) (hl : LeadV w lv ys) (hm : xs.length + ys.length ≤ 1000000) :
    ∃ v' w', (Builtin.append_ #[25, 25] ty #[v, lv]).run Tryd.prog w = .ok v' w' ∧ Wds w' v' (xs ++ ys) ∧ w.grownBy w' v.ownBlock ∧ (v'.ownBlock = v.ownBlock ∨ v'.ownBlock = some w.heap.size) := by
  rcases hl with ⟨rfl, rfl⟩ | ⟨g, x, rfl, rfl, hc⟩
  · exact ⟨v, w, append_none w ty v xs h, by rw [List.append_nil]; exact h, ⟨rfl, rfl, rfl, Nat.le_refl _, fun _ _ _ => rfl⟩, Or.inl rfl⟩
  · exact append_some w ty v xs [x] h g 1 (fun j hj => by
      obtain rfl : j = 0 := by simp at hj; exact hj
      exact hc) hm
/-- What lies beside is as it was. -/
theorem Lay.lies {B : Nat → Prop} {w0 w : World} {p bm lb : Nat} {L : List ByteArray} {v rv : Value} {xs : List Int} (h : Lay B w0 w p bm lb L v rv xs) {S : Nat → Prop} (hS : ∀ b, S b → b < w0.heap.size ∧ ¬ B b) {T : Tm} {tv : Value} (hT : Lies w0 S T tv) : Lies w S T tv :=
  hT.move (fun _ h => h) (fun b o u hb hc => by
    rw [World.cell?_of_block (w := w0) (a := ⟨b, o, none⟩) (h.only.block b (hS b hb).1 (hS b hb).2)]
    exact hc) _ _
theorem Lay.lst {B : Nat → Prop} {w0 w : World} {p bm lb : Nat} {L : List ByteArray} {v rv : Value} {xs : List Int} (h : Lay B w0 w p bm lb L v rv xs) {S : Nat → Prop} (hS : ∀ b, S b → b < w0.heap.size ∧ ¬ B b) {l : List Tm} {a : Option Addr} {cap : Nat} (hT : Lst w0 S l a cap) : Lst w S l a cap :=
  hT.move (fun _ h => h) (fun b o u hb hc => by
    rw [World.cell?_of_block (w := w0) (a := ⟨b, o, none⟩) (h.only.block b (hS b hb).1 (hS b hb).2)]
    exact hc)
theorem Lay.keep {B : Nat → Prop} {w0 w : World} {p bm lb : Nat} {L : List ByteArray} {v rv : Value} {xs : List Int} (h : Lay B w0 w p bm lb L v rv xs) {b o : Nat} {u : Value} (hb : ¬ B b) (hc : w0.cell? ⟨b, o, none⟩ = some u) : w.cell? ⟨b, o, none⟩ = some u := by
  rw [World.cell?_of_block (w := w0) (a := ⟨b, o, none⟩) (h.only.block b (World.block_lt_of_cell? w0 ⟨b, o, none⟩ hc) hb)]
  exact hc
theorem WordTab.kept {B : Nat → Prop} {w0 w : World} (h : WordTab w0) (ho : Only B w0 w) (hB : ¬ B 1) : WordTab w := by
  have e := ho.block _ h.size hB
  refine ⟨fun k hk => ?_, fun k hk => ?_, Nat.lt_of_lt_of_le h.size ho.size⟩
  · rw [World.cell?_of_block (w := w0) (a := ⟨1, k * 2, none⟩) e]; exact h.low k hk
  · rw [World.cell?_of_block (w := w0) (a := ⟨1, k * 2 + 1, none⟩) e]; exact h.high k hk
end Go.Proofs.YtaiiicmldogjoaaDoor
