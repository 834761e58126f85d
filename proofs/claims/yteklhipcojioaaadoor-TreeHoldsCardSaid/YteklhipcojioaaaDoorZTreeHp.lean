/-
  Keys that are put, and taken out, as plain lists.
-/
import Derived.Test.YteklhipcojioaaaDoorZOrdPlain
import Derived.Test.YteklhipcojioaaaDoorZOrdSortRef
import Derived.Test.YteklhipcojioaaaDoorZTreeRA
import Derived.Test.YteklhipcojioaaaDoorZTreeKn
import Derived.Test.YteklhipcojioaaaDoorZTreeRC
import Derived.Test.YteklhipcojioaaaDoorZOrdStable
namespace Go.Proofs.YteklhipcojioaaaDoor
open Go.RowKit Go.Deep

theorem cmp_asym {a b : Tm} (h : a.cmp b < 0) : ¬ b.cmp a < 0 := fun h' => by
  have := cmp_lt_of' h (c := a) (by omega)
  rw [cmp_refl] at this
  omega
/-- Two rising lists of the same terms are one. -/
theorem rising_ext : ∀ (a b : List Tm), Rising a → Rising b → (∀ x, x ∈ a ↔ x ∈ b) → a = b
  | [], b, _, _, h => by
    cases b with
    | nil => rfl
    | cons y s => exact absurd ((h y).2 List.mem_cons_self) (by simp)
  | x :: r, [], _, _, h => absurd ((h x).1 List.mem_cons_self) (by simp)
  | x :: r, y :: s, ha, hb, h => by
    obtain ⟨ha1, ha2⟩ := List.pairwise_cons.1 ha
    obtain ⟨hb1, hb2⟩ := List.pairwise_cons.1 hb
    have hxy : x = y := by
      rcases List.mem_cons.1 ((h x).1 List.mem_cons_self) with e | hx
      · exact e
      rcases List.mem_cons.1 ((h y).2 List.mem_cons_self) with e | hy
      · exact e.symm
      exact absurd (ha1 y hy) (cmp_asym (hb1 x hx))
    subst hxy
    have hne : ∀ z ∈ r, z ≠ x := fun z hz e => by
      subst e
      have := ha1 z hz
      rw [cmp_refl] at this
      omega
    have hne' : ∀ z ∈ s, z ≠ x := fun z hz e => by
      subst e
      have := hb1 z hz
      rw [cmp_refl] at this
      omega
    rw [rising_ext r s ha2 hb2 fun z => ⟨fun hz => ((List.mem_cons.1 ((h z).1 (List.mem_cons_of_mem _ hz))).resolve_left (hne z hz)), fun hz => ((List.mem_cons.1 ((h z).2 (List.mem_cons_of_mem _ hz))).resolve_left (hne' z hz))⟩]
def keysN (L : List Nd) : List Tm := L.map (·.1)
theorem keysN_rising {L : List Nd} (h : RisingN L) : Rising (keysN L) := List.pairwise_map.2 h
theorem keysN_put {L : List Nd} {T : Tm} {n : Int} (hf : ∀ x ∈ keysN L, x.fits = true) (hT : T.fits = true) : ∀ x, x ∈ keysN (putN L T n) ↔ x ∈ keysN L ∨ x = T := by
  intro x
  unfold putN
  by_cases hi : isN L T = true
  · rw [if_pos hi]
    obtain ⟨hl, h0⟩ := isN_some hi
    have hkT : L[atN L T].1 = T := cmp_zero _ _ (hf _ (List.mem_map.2 ⟨_, List.getElem_mem hl, rfl⟩)) hT h0
    have hk : keyN L (atN L T) = L[atN L T].1 := by unfold keyN; rw [List.getElem?_eq_getElem hl]
    have e : keysN (L.set (atN L T) (keyN L (atN L T), n)) = keysN L := by
      unfold keysN
      rw [List.map_set, hk]
      refine List.ext_getElem (by simp) fun j h1 h2 => ?_
      rw [List.getElem_set]
      split
      · rename_i e
        subst e
        simp
      · rfl
    rw [e]
    refine ⟨Or.inl, fun h => h.elim id fun h => ?_⟩
    subst h
    rw [← hkT]
    exact List.mem_map.2 ⟨_, List.getElem_mem hl, rfl⟩
  · rw [if_neg hi]
    unfold keysN
    rw [List.map_append, List.map_cons]
    have e : L.map (·.1) = (L.take (atN L T)).map (·.1) ++ (L.drop (atN L T)).map (·.1) := by rw [← List.map_append, List.take_append_drop]
    rw [e]
    simp only [List.mem_append, List.mem_cons]
    constructor
    · rintro (h | h | h)
      · exact Or.inl (Or.inl h)
      · exact Or.inr h
      · exact Or.inl (Or.inr h)
    · rintro ((h | h) | h)
      · exact Or.inl h
      · exact Or.inr (Or.inr h)
      · exact Or.inr (Or.inl h)
/-- The keys of a tree into which just these were put. -/
theorem keysN_unique {L : List Nd} {put : List Tm} (hL : RisingN L) (hm : ∀ x, x ∈ keysN L ↔ x ∈ put) (hf : ∀ x ∈ put, x.fits = true) : keysN L = uniqT (sortT put) := by
  refine rising_ext _ _ (keysN_rising hL) (uniqT_rising _ (sortT_sorted put)) fun x => ?_
  rw [hm]
  have hu : ∀ z ∈ uniqT (sortT put), z ∈ put := fun z hz => (sortT_perm put).mem_iff.1 ((uniqG_rising _ none (sortT_sorted put) (fun q hq => by cases hq)).2.2.1 z hz)
  constructor
  · intro hx
    obtain ⟨y, hy, h0⟩ := uniqT_has (sortT put) (sortT_sorted put) x ((sortT_perm put).mem_iff.2 hx)
    rw [← cmp_zero _ _ (hf y (hu y hy)) (hf x hx) h0]
    exact hy
  · exact hu x
/-- Where a key of a rising row stands. -/
theorem at_keys {L : List Nd} {a b : List Tm} {T : Tm} (hL : RisingN L) (hk : keysN L = a ++ T :: b) : atN L T = a.length ∧ isN L T = true ∧ keysN (removeN L T) = a ++ b := by
  have hr := keysN_rising hL
  have hlen : L.length = a.length + (b.length + 1) := by
    have := congrArg List.length hk
    simpa [keysN] using this
  have hat : ∀ j (h : j < L.length), L[j].1 = (a ++ T :: b)[j]'(by simp; omega) := fun j h => by
    have h1 : (keysN L)[j]'(by simpa [keysN] using h) = L[j].1 := by simp [keysN]
    rw [← h1]
    simp only [hk]
  rw [hk] at hr
  have hp := List.pairwise_append.1 hr
  have h1 : atN L T = a.length := atN_is (by omega) (fun j hj h => by
    rw [hat j h, List.getElem_append_left hj]
    exact hp.2.2 _ (List.getElem_mem hj) _ List.mem_cons_self) (fun h => by
    rw [hat _ h]
    simp [cmp_refl])
  have h2 : isN L T = true := isN_of (by rw [h1]; omega) (by
    simp only [h1]
    rw [hat _ (by omega)]
    simp [cmp_refl])
  refine ⟨h1, h2, ?_⟩
  unfold removeN
  rw [if_pos h2, h1]
  have e1 : keysN (L.take a.length ++ L.drop (a.length + 1)) = (keysN L).take a.length ++ (keysN L).drop (a.length + 1) := by simp [keysN, List.map_take, List.map_drop]
  rw [e1, hk]
  simp
end Go.Proofs.YteklhipcojioaaaDoor

/-
  Neighbours of a key.
-/
namespace Go.Proofs.YteklhipcojioaaaDoor
open Go.RowKit Go.Deep

theorem keys_at {L : List Nd} (hL : RisingN L) {i : Nat} (hi : i < (keysN L).length) : atN L (keysN L)[i] = i ∧ isN L (keysN L)[i] = true := by
  have hk : keysN L = (keysN L).take i ++ (keysN L)[i] :: (keysN L).drop (i + 1) := by rw [← List.drop_eq_getElem_cons hi, List.take_append_drop]
  obtain ⟨h1, h2, _⟩ := at_keys hL hk
  rw [List.length_take] at h1
  exact ⟨by omega, h2⟩
theorem tellN_at {L : List Nd} {i : Nat} (hi : i < (keysN L).length) : ∃ n, tellN L (i : Int) = ((keysN L)[i], n, true) := by
  have hl : i < L.length := by simpa [keysN] using hi
  refine ⟨L[i].2, ?_⟩
  unfold tellN
  rw [if_pos ⟨by omega, by omega⟩, Int.toNat_natCast, keyN, numN, List.getElem?_eq_getElem hl]
  simp [keysN]
theorem tellN_not {L : List Nd} {i : Int} (hi : i < 0 ∨ (keysN L).length ≤ i) : tellN L i = (zeroTm, 0, false) := by
  have hl : (keysN L).length = L.length := by simp [keysN]
  rw [hl] at hi
  unfold tellN
  rw [if_neg (by omega)]
end Go.Proofs.YteklhipcojioaaaDoor

/-
  A tree in a law, and a row of terms of the law's own beside it.
-/
namespace Go.Proofs.YteklhipcojioaaaDoor
open Go.RowKit Go.Deep Go.Maps Go.WideShapes

/-- A tree made behind w1, a row v of terms whose parts lie in blocks of F, all below w1. -/
structure Pt (w1 w : World) (p : Nat) (L : List Nd) (c ht : Int) (v : Value) (hs : List Th) (put : List Tm) (F : Nat → Prop) : Prop where
  tree : To w1 w p L c ht (fun b => v.ownBlock = some b)
  row : Ow thS w v hs
  keys : Tr w F hs put
  new : ∀ g, v.ownBlock = some g → w1.heap.size ≤ g
  low : ∀ b, F b → b < w1.heap.size
section
variable {w1 w w2 : World} {p : Nat} {L L' : List Nd} {c c' ht ht' : Int} {v : Value} {hs : List Th} {put : List Tm} {F : Nat → Prop}
theorem Pt.up (h : Pt w1 w p L c ht v hs put F) (hb : Below w.heap.size w w2) : Pt w1 w2 p L c ht v hs put F :=
  ⟨h.tree.up hb, h.row.up hb, h.keys.up hb, h.new, h.low⟩
theorem Pt.start (h : To w1 w p L c ht (fun _ => False)) (hF : ∀ b, F b → b < w1.heap.size) : Pt w1 w p L c ht (.slice none 0 0) [] [] F :=
  ⟨h.weaken (fun k hk => by cases hk), Ow.nil _, ⟨rfl, fun i h => by cases h⟩, fun g hg => (by cases hg), hF⟩
/-- A part of the arguments lies as it did. -/
theorem low_same {a b : World} {T : Tm} {u : Value} (hF : ∀ b, F b → b < w1.heap.size) (h : Lies a F T u) (ha : Below w1.heap.size w1 a) (hb : Below w1.heap.size w1 b) : Lies b F T u := h.move (fun _ h => h) (fun k o u hk hc => by
  have e3 : b.heap[k]? = a.heap[k]? := (hb.block k (hF k hk)).trans (ha.block k (hF k hk)).symm
  rw [World.cell?_of_block (w := a) (a := ⟨k, o, none⟩) e3]
  exact hc) _ _
theorem Pt.turn (h : Pt w1 w p L c ht v hs put F) (hl : To w1 w2 p L' c' ht' (fun b => v.ownBlock = some b)) (ho : Only (fun k => ¬ v.ownBlock = some k) w w2) : Pt w1 w2 p L' c' ht' v hs put F :=
  ⟨hl, h.row.kept ho (fun _ hg hn => hn hg), ⟨h.keys.len, fun i h1 h2 => low_same h.low (h.keys.lies i h1 h2) h.tree.below hl.below⟩, h.new, h.low⟩
theorem Pt.app (h : Pt w1 w p L c ht v hs put F) (x : Th) (T : Tm) (hx : Lies w F T x.tv) (hm : hs.length ≤ 1000000) :
    ∃ v2 w2, (Builtin.append_ #[thS.st, thS.st] 30 #[v, .slice (some ⟨w.heap.size, 0, none⟩) 1 1]).run Tryd.prog (w.alloc (.cells #[.int .i64 x.k, .int .i64 x.n, .string x.s, .slice x.a x.m x.c] 32)) = .ok v2 w2 ∧ Pt w1 w2 p L c ht v2 (hs ++ [x]) (put ++ [T]) F := by
  have hua := (Up.alloc (o := .cells #[.int .i64 x.k, .int .i64 x.n, .string x.s, .slice x.a x.m x.c] 32) (Up.refl w)).out
  obtain ⟨W, hW⟩ : ∃ W, w.alloc (.cells #[.int .i64 x.k, .int .i64 x.n, .string x.s, .slice x.a x.m x.c] 32) = W := ⟨_, rfl⟩
  have hbk : W.heap[w.heap.size]? = some (.cells #[.int .i64 x.k, .int .i64 x.n, .string x.s, .slice x.a x.m x.c] 32) := by rw [← hW]; exact new_block _ _
  rw [hW] at hua ⊢
  have h' := h.up hua
  obtain ⟨v2, w2, hr2, hi2, hg2, ho2⟩ := append_elem thS W 30 v hs x h'.row w.heap.size hbk rfl hm
  refine ⟨v2, w2, hr2, ?_⟩
  have hon : Only (fun k => v.ownBlock = some k) W w2 := (Only.refl (fun k => v.ownBlock = some k) W).grow hg2 (fun k hk => hk)
  have hsz := h'.tree.below.size
  have hlt : ∀ g, v2.ownBlock = some g → (v.ownBlock = some g ∨ W.heap.size ≤ g) ∧ g < w2.heap.size := fun g e => by
    refine ⟨?_, ?_⟩
    · rcases ho2 with ho | ho
      · exact Or.inl (ho ▸ e)
      · rw [ho] at e; cases e; exact Or.inr (Nat.le_refl _)
    · exact hi2.lt e
  have ht : To w1 w2 p L c ht (fun b => v2.ownBlock = some b) := h'.tree.app hon (fun k hk => ⟨hk, h.new k hk⟩) hlt
  exact ⟨ht, hi2, (⟨h'.keys.len, fun i h1 h2 => low_same h.low (h'.keys.lies i h1 h2) h'.tree.below ht.below⟩ : Tr w2 F hs put).snoc _ _ (low_same h.low hx h.tree.below ht.below), fun g e => (hlt g e).1.elim (h.new g) (fun hh => Nat.le_trans hsz hh), h.low⟩
end
end Go.Proofs.YteklhipcojioaaaDoor

/-
  A tree in a law, a row of terms of the law's own beside it, and memory that is left as it stands.
-/
namespace Go.Proofs.YteklhipcojioaaaDoor
open Go.RowKit Go.Deep Go.Maps Go.WideShapes

/-- As Pt, the row's parts in blocks below w1 or of G, which stays. -/
structure Pg (w1 w : World) (p : Nat) (L : List Nd) (c ht : Int) (v : Value) (hs : List Th) (put : List Tm) (F G : Nat → Prop) : Prop where
  tree : To w1 w p L c ht (fun b => v.ownBlock = some b ∨ G b)
  row : Ow thS w v hs
  keys : Tr w F hs put
  new : ∀ g, v.ownBlock = some g → w1.heap.size ≤ g ∧ ¬ G g
  low : ∀ b, F b → b < w1.heap.size ∨ G b
  lt : ∀ b, G b → b < w.heap.size
section
variable {w1 w w2 : World} {p : Nat} {L L' : List Nd} {c c' ht ht' : Int} {v : Value} {hs : List Th} {put : List Tm} {F G : Nat → Prop}
theorem Pg.up (h : Pg w1 w p L c ht v hs put F G) (hb : Below w.heap.size w w2) : Pg w1 w2 p L c ht v hs put F G :=
  ⟨h.tree.up hb, h.row.up hb, h.keys.up hb, h.new, h.low, fun b hb' => Nat.lt_of_lt_of_le (h.lt b hb') hb.size⟩
theorem Pg.start (h : To w1 w p L c ht G) (hF : ∀ b, F b → b < w1.heap.size ∨ G b) : Pg w1 w p L c ht (.slice none 0 0) [] [] F G :=
  ⟨h.weaken (fun k hk => hk.elim (fun e => by cases e) id), Ow.nil _, ⟨rfl, fun i h => by cases h⟩, fun g hg => (by cases hg), hF, fun b hb => (let ⟨_, _, _, _, _, _, h5⟩ := h.ex; (h5 b hb).1)⟩
/-- What lies below w1 or in G lies as it did, where nothing of G was written. -/
theorem Pg.part (h : Pg w1 w p L c ht v hs put F G) {X : Nat → Prop} {T : Tm} {u : Value} (hl : Lies w F T u) (ho : Only X w w2) (hX : ∀ k, X k → ¬ G k) (hb : Below w1.heap.size w1 w2) : Lies w2 F T u := hl.move (fun _ h => h) (fun k o u hk hc => by
  rcases h.low k hk with h1 | h1
  · have e3 : w2.heap[k]? = w.heap[k]? := (hb.block k h1).trans (h.tree.below.block k h1).symm
    rw [World.cell?_of_block (w := w) (a := ⟨k, o, none⟩) e3]
    exact hc
  · exact ho.cellS (fun hx => hX k hx h1) hc) _ _
theorem Pg.turn (h : Pg w1 w p L c ht v hs put F G) (hl : To w1 w2 p L' c' ht' (fun b => v.ownBlock = some b ∨ G b)) (ho : Only (fun k => ¬ (v.ownBlock = some k ∨ G k)) w w2) : Pg w1 w2 p L' c' ht' v hs put F G :=
  ⟨hl, h.row.kept ho (fun _ hg hn => hn (Or.inl hg)), ⟨h.keys.len, fun i h1 h2 => h.part (h.keys.lies i h1 h2) ho (fun _ hk hg => hk (Or.inr hg)) hl.below⟩, h.new, h.low, fun b hb => Nat.lt_of_lt_of_le (h.lt b hb) ho.size⟩
theorem Pg.app (h : Pg w1 w p L c ht v hs put F G) (x : Th) (T : Tm) (hx : Lies w F T x.tv) (hm : hs.length ≤ 1000000) :
    ∃ v2 w2, (Builtin.append_ #[thS.st, thS.st] 30 #[v, .slice (some ⟨w.heap.size, 0, none⟩) 1 1]).run Tryd.prog (w.alloc (.cells #[.int .i64 x.k, .int .i64 x.n, .string x.s, .slice x.a x.m x.c] 32)) = .ok v2 w2 ∧ Pg w1 w2 p L c ht v2 (hs ++ [x]) (put ++ [T]) F G ∧ (∀ b, G b → w2.heap[b]? = w.heap[b]?) := by
  have hua := (Up.alloc (o := .cells #[.int .i64 x.k, .int .i64 x.n, .string x.s, .slice x.a x.m x.c] 32) (Up.refl w)).out
  obtain ⟨W, hW⟩ : ∃ W, w.alloc (.cells #[.int .i64 x.k, .int .i64 x.n, .string x.s, .slice x.a x.m x.c] 32) = W := ⟨_, rfl⟩
  have hbk : W.heap[w.heap.size]? = some (.cells #[.int .i64 x.k, .int .i64 x.n, .string x.s, .slice x.a x.m x.c] 32) := by rw [← hW]; exact new_block _ _
  rw [hW] at hua ⊢
  have h' := h.up hua
  obtain ⟨v2, w2, hr2, hi2, hg2, ho2⟩ := append_elem thS W 30 v hs x h'.row w.heap.size hbk rfl hm
  refine ⟨v2, w2, hr2, ?_⟩
  have hon : Only (fun k => v.ownBlock = some k) W w2 := (Only.refl (fun k => v.ownBlock = some k) W).grow hg2 (fun k hk => hk)
  have hsz := h'.tree.below.size
  have hlt : ∀ g, v2.ownBlock = some g → v.ownBlock = some g ∨ W.heap.size ≤ g := fun g e => by
    rcases ho2 with ho | ho
    · exact Or.inl (ho ▸ e)
    · rw [ho] at e; cases e; exact Or.inr (Nat.le_refl _)
  have ht : To w1 w2 p L c ht (fun b => v2.ownBlock = some b ∨ G b) := h'.tree.app hon (fun k hk => ⟨Or.inl hk, (h.new k hk).1⟩) (fun g hg => hg.elim (fun e => ⟨(hlt g e).imp Or.inl id, hi2.lt e⟩) (fun hG => ⟨Or.inl (Or.inr hG), Nat.lt_of_lt_of_le (h'.lt g hG) hon.size⟩))
  have hXG : ∀ k, v.ownBlock = some k → ¬ G k := fun k hk => (h.new k hk).2
  refine ⟨?_, fun b hG => (hon.block b (Nat.lt_of_lt_of_le (h.lt b hG) hua.size) (fun hx => hXG b hx hG)).trans (hua.block b (h.lt b hG))⟩
  exact ⟨ht, hi2, (⟨h'.keys.len, fun i h1 h2 => h'.part (h'.keys.lies i h1 h2) hon hXG ht.below⟩ : Tr w2 F hs put).snoc _ _ (h'.part (hx.below hua) hon hXG ht.below), fun g e => (hlt g e).elim (fun e1 => h.new g e1) (fun hh => ⟨Nat.le_trans hsz hh, fun hG => absurd (h'.lt g hG) (by omega)⟩), h.low, fun b hb => Nat.lt_of_lt_of_le (h'.lt b hb) hon.size⟩
end
end Go.Proofs.YteklhipcojioaaaDoor

/-
  The second loop of TreeHolds: keys taken out of a tree, the others gathered.
-/
namespace Go.Proofs.YteklhipcojioaaaDoor
open Go.RowKit Go.Deep Go.Maps Go.WideShapes

/-- A row of truths that came in. -/
def CelB (w : World) (B : List Bool) (a : Option Addr) : Prop := 0 < B.length → ∃ b o, a = some ⟨b, o, none⟩ ∧ ∀ j (h : j < B.length), w.cell? ⟨b, o + j, none⟩ = some (.bool B[j])
theorem CelB.up {w w' : World} {B : List Bool} {a : Option Addr} (h : CelB w B a) (hb : Below w.heap.size w w') : CelB w' B a := fun h0 => by
  obtain ⟨b, o, e, hc⟩ := h h0
  exact ⟨b, o, e, fun j hj => cell_below hb _ _ _ (hc j hj)⟩
theorem CelB.at_ {w : World} {B : List Bool} {a : Option Addr} (h : CelB w B a) {j : Nat} (hj : j < B.length) : ∃ b o, a = some ⟨b, o, none⟩ ∧ w.cell? ⟨b, o + j, none⟩ = some (.bool B[j]) := by
  obtain ⟨b, o, e, hc⟩ := h (by omega)
  exact ⟨b, o, e, hc j hj⟩
/-- Where the second loop stands: behind j of the keys X, these are left. -/
structure I2 (L : List Nd) (X left : List Tm) (j m : Nat) (c : Int) : Prop where
  keys : keysN L = left ++ X.drop j
  few : left.length ≤ j
  low : 0 ≤ c
  up : c ≤ 39 * ((m + j : Nat) : Int)
section
variable {w1 w w2 : World} {p : Nat} {L : List Nd} {c c' ht : Int} {v : Value} {hs : List Th} {left X : List Tm} {F G : Nat → Prop} {j m : Nat}
theorem I2.len (h : I2 L X left j m c) (_ : j ≤ X.length) : L.length = left.length + (X.length - j) := by
  have := congrArg List.length h.keys
  simpa [keysN] using this
theorem I2.split (h : I2 L X left j m c) (hj : j < X.length) : keysN L = left ++ X[j] :: X.drop (j + 1) := by
  rw [← List.drop_eq_getElem_cons hj]
  exact h.keys
theorem I2.keep (h : I2 L X left j m c) (hj : j < X.length) : I2 L X (left ++ [X[j]]) (j + 1) m c :=
  ⟨by rw [h.split hj]; simp, by rw [List.length_append]; have := h.few; simpa using this, h.low, by have := h.up; omega⟩
theorem I2.out (h : I2 L X left j m c) (hj : j < X.length) (hr : RisingN L) (h1 : c ≤ c') (h2 : c' ≤ c + 39) : isN L X[j] = true ∧ I2 (removeN L X[j]) X left (j + 1) m c' :=
  have a := at_keys hr (h.split hj)
  ⟨a.2.1, a.2.2, by have := h.few; omega, by have := h.low; omega, by have := h.up; omega⟩
theorem Pg.of_pt {w6 : World} {put : List Tm} (h : Pt w1 w p L c ht v hs put F) (hb : Below w.heap.size w w6) : Pg w1 w6 p L c ht (.slice none 0 0) [] [] (fun b => w.heap.size ≤ b ∧ b < w6.heap.size) (fun b => w.heap.size ≤ b ∧ b < w6.heap.size) :=
  Pg.start ((h.tree.more hb (G := fun b => w.heap.size ≤ b ∧ b < w6.heap.size) (fun _ hk => hk)).weaken (fun _ hk => Or.inr hk)) (fun _ hb => Or.inr hb)
theorem Pg.lst (_ : Pg w1 w p L c ht v hs left G G) {a : Option Addr} {cap : Nat} (hl : Lst w G X a cap) {T : Nat → Prop} (ho : Only T w w2) (hT : ∀ k, T k → ¬ G k) : Lst w2 G X a cap :=
  hl.move (fun _ h => h) (fun _ _ _ hk hc => ho.cellS (fun hx => hT _ hx hk) hc)
theorem lst_blocks {a : Option Addr} {cap : Nat} (hl : Lst w G X a cap) (hG : ∀ b, G b → w2.heap[b]? = w.heap[b]?) : Lst w2 G X a cap :=
  hl.move (fun _ h => h) (fun k o _ hk hc => by
    rw [World.cell?_of_block (w := w) (a := ⟨k, o, none⟩) (hG k hk)]
    exact hc)
theorem Pg.remove (h : Pg w1 w p L c ht v hs left G G) (hz : SizeT L c) {T : Tm} {kv : Value} (hk : Lies w G T kv) :
    Calls Tryd.prog 22 #[.pointer (some ⟨p, 0, none⟩), kv] w fun e w' => e = .returned (.tuple #[.int .i64 (getN L T), .bool (isN L T)]) ∧ ∃ c' ht', Pg w1 w' p (removeN L T) c' ht' v hs left G G ∧ (c ≤ c' ∧ c' ≤ c + 39) ∧ Only (fun k => ¬ (v.ownBlock = some k ∨ G k)) w w' := by
  refine (h.tree.remove hz hk (fun b hb => Or.inr (Or.inr hb))).mono fun e w' hh => ?_
  obtain ⟨h1, c', ht', h2, ⟨h3, h4⟩, h6⟩ := hh
  have := low_up h4 hz.1
  exact ⟨h1, c', ht', h.turn h2 h6, ⟨h3, by omega⟩, h6⟩
end
section
variable {w0 w : World} {p : Nat} {L : List Nd} {c ht : Int} {F : Nat → Prop} {left : List Tm} {i : Nat} {kv : Value}
/-- The neighbours of a key that is there. -/
theorem To.nextG (h : To w0 w p L c ht F) (hz : SizeT L c) (hk : keysN L = left) (hi : i < left.length) (hl : Lies w F left[i] kv) :
    Calls Tryd.prog 25 #[.pointer (some ⟨p, 0, none⟩), kv] w fun e w' => ∃ tv n A, e = .returned (.tuple #[tv, .int .i64 n, .bool (decide (i + 1 < left.length))]) ∧ (∀ h : i + 1 < left.length, A = left[i + 1]) ∧ Own w' A w.heap.size w'.heap.size tv ∧ ∃ c', To w0 w' p L c' ht (fun k => F k ∨ (w.heap.size ≤ k ∧ k < w'.heap.size)) ∧ (c ≤ c' ∧ c' ≤ c + 39) ∧ Only (fun k => ¬ F k) w w' := by
  subst hk
  obtain ⟨e1, e2⟩ := keys_at h.rise hi
  have e3 : nextN L (keysN L)[i] = i + 1 := by unfold nextN; rw [if_pos e2, e1]
  refine (h.next hz hl (fun b hb => Or.inr hb)).mono fun e w' hh => ?_
  obtain ⟨tv, h1, h2, c', h3, h4, h5, h6⟩ := hh
  have h7 := low_up h5 hz.1
  rw [e3] at h1 h2
  by_cases h8 : i + 1 < (keysN L).length
  · obtain ⟨n, h9⟩ := tellN_at h8
    rw [h9] at h1 h2
    exact ⟨tv, n, _, by rw [decide_eq_true h8]; exact h1, fun _ => rfl, h2, c', h3, ⟨h4, by omega⟩, h6⟩
  · have h9 := tellN_not (L := L) (i := ((i + 1 : Nat) : Int)) (Or.inr (by omega))
    rw [h9] at h1 h2
    exact ⟨tv, 0, _, by rw [decide_eq_false h8]; exact h1, fun h => absurd h h8, h2, c', h3, ⟨h4, by omega⟩, h6⟩
theorem To.prevG (h : To w0 w p L c ht F) (hz : SizeT L c) (hk : keysN L = left) (hi : i < left.length) (hl : Lies w F left[i] kv) :
    Calls Tryd.prog 26 #[.pointer (some ⟨p, 0, none⟩), kv] w fun e w' => ∃ tv n A, e = .returned (.tuple #[tv, .int .i64 n, .bool (decide (0 < i))]) ∧ (0 < i → A = left[i - 1]'(by omega)) ∧ Own w' A w.heap.size w'.heap.size tv ∧ ∃ c', To w0 w' p L c' ht (fun k => F k ∨ (w.heap.size ≤ k ∧ k < w'.heap.size)) ∧ (c ≤ c' ∧ c' ≤ c + 39) ∧ Only (fun k => ¬ F k) w w' := by
  subst hk
  obtain ⟨e1, e2⟩ := keys_at h.rise hi
  refine (h.prev hz hl (fun b hb => Or.inr hb)).mono fun e w' hh => ?_
  obtain ⟨tv, h1, h2, c', h3, h4, h5, h6⟩ := hh
  have h7 := low_up h5 hz.1
  rw [e1] at h1 h2
  by_cases h8 : 0 < i
  · obtain ⟨n, h9⟩ := tellN_at (L := L) (i := i - 1) (by omega)
    rw [show ((i : Int) - 1) = ((i - 1 : Nat) : Int) by omega, h9] at h1 h2
    exact ⟨tv, n, _, by rw [decide_eq_true h8]; exact h1, fun _ => rfl, h2, c', h3, ⟨h4, by omega⟩, h6⟩
  · have h9 := tellN_not (L := L) (i := (i : Int) - 1) (Or.inl (by omega))
    rw [h9] at h1 h2
    exact ⟨tv, 0, _, by rw [decide_eq_false h8]; exact h1, fun h => absurd h h8, h2, c', h3, ⟨h4, by omega⟩, h6⟩
end
theorem low_facts {ht : Int} {M : Nat} (h : LowI ht M) (hM : M ≤ 700000) (h2 : 2 < ht) : ∃ k M1 MM : Nat, IntKind.i64.wrap (ht - 2) = (k : Int) ∧ min (k : Int) 40 = k ∧ IntKind.i64.wrap ((M : Int) + 1) = (M1 : Int) ∧ IntKind.i64.wrap ((M1 : Int) * M1) = (MM : Int) ∧ wrap64 (2 ^ k) ≤ (MM : Int) := by
  obtain ⟨h0, h39⟩ := low_log h hM
  obtain ⟨k, rfl⟩ : ∃ k : Nat, ht = (k : Int) + 2 := ⟨(ht - 2).toNat, by omega⟩
  have hpow : 2 ^ k ≤ (M + 1) * (M + 1) := by
    have h3 := h.2
    rw [Nat.pow_two] at h3
    have h4 : ((k : Int) + 2).toNat = k + 2 := by omega
    rw [h4] at h3
    exact Nat.le_trans (Nat.pow_le_pow_right (by decide) (by omega)) h3
  have hmul : (M + 1) * (M + 1) ≤ 700001 * 700001 := Nat.mul_le_mul (by omega) (by omega)
  obtain ⟨P, hP⟩ : ∃ P, 2 ^ k = P := ⟨_, rfl⟩
  obtain ⟨N, hN⟩ : ∃ N, M + 1 = N := ⟨_, rfl⟩
  obtain ⟨MM, hMM⟩ : ∃ MM, N * N = MM := ⟨_, rfl⟩
  rw [hP, hN, hMM] at hpow
  rw [hN, hMM] at hmul
  refine ⟨k, N, MM, ?_, by omega, ?_, ?_, ?_⟩
  · rw [wrap_id (by omega) (by omega)]; omega
  · rw [wrap_id (by omega) (by omega)]; omega
  · rw [← hMM, wrap_id (by rw [← Int.natCast_mul, hMM]; omega) (by rw [← Int.natCast_mul, hMM]; omega)]; simp
  · have h5 : ((2 : Int) ^ k) = (P : Int) := by rw [← hP]; simp
    rw [h5]
    have h6 : wrap64 (P : Int) = P := by
      have h7 := wrap_id (x := (P : Int)) (by omega) (by omega)
      rw [IntKind.wrap_i64] at h7
      unfold wrap64
      exact h7
    rw [h6]
    omega
end Go.Proofs.YteklhipcojioaaaDoor
