/-
  A place in the program's tree: the nodes about it in memory, the way to it as a row of pointers to links; the way back, the way further down.
-/
import Derived.Test.YteklhipcojioaaaDoorZTreePc
import Derived.Test.YteklhipcojioaaaDoorZTreeRC
namespace Go.Proofs.YteklhipcojioaaaDoor
open Go.RowKit Go.Deep Go.Maps Go.WideShapes

/-- Where a link lies: its block, its place there. -/
abbrev Lk := Nat × Nat
theorem lk_one : ∀ (x : Lk) (u : Value), u ∈ [Value.pointer (some ⟨x.1, x.2, none⟩)] → u.oneCell' = true := fun x u hu => by
  simp only [List.mem_cons, List.not_mem_nil, or_false] at hu
  rcases hu with rfl
  rfl
def wayS : Srt Lk := { t := 78, st := 75, k := 1, enc := fun x => [.pointer (some ⟨x.1, x.2, none⟩)], z := .pointer none, bytes := 8, und := Tryd.underlying75, info := by kernel_rfl, zc := rfl, pos := by decide, few := by decide, len := fun _ => rfl, one := lk_one }
def sideN (b : Bool) : Nat := if b = true then 1 else 0
/-- The link at the end of a way from the root of the tree at p. -/
def linkC (p : Nat) : List Fr → Lk
  | [] => (p, 1)
  | f :: _ => (f.g, 6 + sideN f.side)
/-- All links of a way, the root's first. -/
def waysC (p : Nat) : List Fr → List Lk
  | [] => [(p, 1)]
  | f :: c => waysC p c ++ [linkC p (f :: c)]
theorem ways_len (p : Nat) (c : List Fr) : (waysC p c).length = c.length + 1 := by
  induction c with
  | nil => rfl
  | cons f c ih => simp [waysC, ih]
theorem ways_last (p : Nat) (c : List Fr) : (waysC p c)[c.length]? = some (linkC p c) := by
  cases c with
  | nil => rfl
  | cons f c =>
    rw [waysC, List.getElem?_append_right (by rw [ways_len]; simp), ways_len]
    simp
theorem ways_snoc (p : Nat) (f : Fr) (c : List Fr) : waysC p (f :: c) = waysC p c ++ [linkC p (f :: c)] := rfl
def Fr.cs (f : Fr) (v : Value) : Array Value := if f.side = true then cellsB f.e f.h (ptrB f.o) v else cellsB f.e f.h v (ptrB f.o)
theorem fr_get (f : Fr) (v : Value) : (f.cs v)[6 + sideN f.side]? = some v := by
  obtain ⟨g, sd, e, h, o⟩ := f
  cases sd <;> rfl
theorem fr_set (f : Fr) (v v' : Value) : (f.cs v).setIfInBounds (6 + sideN f.side) v' = f.cs v' := by
  obtain ⟨g, sd, e, h, o⟩ := f
  cases sd <;> rfl
theorem ptr_plug (f : Fr) (t : Bt) : ptrB (f.plug t) = .pointer (some ⟨f.g, 0, none⟩) := by unfold Fr.plug; split <;> rfl
/-- The box of the tree at p. -/
def topB (p : Nat) (n cm : Int) (v : Value) : Obj := .cells #[.pointer (some ⟨p, 0, none⟩), v, .int .i64 n, .int .i64 cm] 45
/-- The nodes about a place, whose link holds v. -/
def CtxB (w : World) (p : Nat) (n cm : Int) : List Fr → Value → Prop
  | [], v => w.heap[p]? = some (topB p n cm v)
  | f :: c, v => w.heap[f.g]? = some (.cells (f.cs v) 82) ∧ LayB w f.o ∧ CtxB w p n cm c (.pointer (some ⟨f.g, 0, none⟩))
section
variable {w w' : World} {p : Nat} {n cm : Int} {v : Value}
theorem CtxB.lt {c : List Fr} (h : CtxB w p n cm c v) : p < w.heap.size ∧ ∀ k ∈ blocksC c, k < w.heap.size := by
  induction c generalizing v with
  | nil => exact ⟨(Array.getElem?_eq_some_iff.1 h).1, fun k hk => by cases hk⟩
  | cons f c ih =>
    obtain ⟨h1, h2, h3⟩ := h
    refine ⟨(ih h3).1, fun k hk => ?_⟩
    simp only [blocksC, List.mem_cons, List.mem_append] at hk
    rcases hk with rfl | hk | hk
    · exact (Array.getElem?_eq_some_iff.1 h1).1
    · exact h2.lt k hk
    · exact (ih h3).2 k hk
theorem CtxB.same {c : List Fr} (h : CtxB w p n cm c v) (hw : ∀ k, k = p ∨ k ∈ blocksC c → w'.heap[k]? = w.heap[k]?) : CtxB w' p n cm c v := by
  induction c generalizing v with
  | nil => exact (hw p (Or.inl rfl)).trans h
  | cons f c ih =>
    obtain ⟨h1, h2, h3⟩ := h
    refine ⟨(hw f.g (Or.inr (by simp [blocksC]))).trans h1, h2.same fun k hk => hw k (Or.inr (by simp [blocksC, hk])), ih h3 fun k hk => hw k ?_⟩
    rcases hk with rfl | hk
    · exact Or.inl rfl
    · exact Or.inr (by simp [blocksC, hk])
theorem CtxB.kept {c : List Fr} {S : Nat → Prop} (h : CtxB w p n cm c v) (ho : Only S w w') (hS : ∀ k, k = p ∨ k ∈ blocksC c → ¬ S k) : CtxB w' p n cm c v := h.same fun k hk => ho.block k (by rcases hk with rfl | hk; exact h.lt.1; exact h.lt.2 k hk) (hS k hk)
theorem CtxB.up {c : List Fr} (h : CtxB w p n cm c v) (hb : Below w.heap.size w w') : CtxB w' p n cm c v := h.kept (S := fun _ => False) (Only.up hb) (fun _ _ f => f)
theorem CtxB.fill {t : Bt} {c : List Fr} (ht : LayB w t) (h : CtxB w p n cm c (ptrB t)) : LayB w (fillB t c) ∧ CtxB w p n cm [] (ptrB (fillB t c)) := by
  induction c generalizing t with
  | nil => exact ⟨ht, h⟩
  | cons f c ih =>
    obtain ⟨h1, h2, h3⟩ := h
    refine ih (t := f.plug t) ?_ (by rw [ptr_plug]; exact h3)
    unfold Fr.plug Fr.cs at *
    split
    · rename_i hs; rw [if_pos hs] at h1; exact ⟨h1, h2, ht⟩
    · rename_i hs; rw [if_neg hs] at h1; exact ⟨h1, ht, h2⟩
/-- A link: its block, and what another value written there leaves. -/
theorem CtxB.link {c : List Fr} (h : CtxB w p n cm c v) : ∃ cs ty, w.heap[(linkC p c).1]? = some (.cells cs ty) ∧ cs[(linkC p c).2]? = some v ∧
    ∀ (w' : World) (v' : Value), w'.heap[(linkC p c).1]? = some (.cells (cs.setIfInBounds (linkC p c).2 v') ty) → (∀ k, k = p ∨ k ∈ blocksC c → k ≠ (linkC p c).1 → w'.heap[k]? = w.heap[k]?) → (p :: blocksC c).Nodup → CtxB w' p n cm c v' := by
  cases c with
  | nil => exact ⟨_, _, h, rfl, fun w' v' h1 _ _ => h1⟩
  | cons f c =>
    obtain ⟨h1, h2, h3⟩ := h
    refine ⟨_, _, h1, ?_, fun w' v' h4 h5 h6 => ⟨?_, ?_, ?_⟩⟩
    · exact fr_get f v
    · rw [show w'.heap[f.g]? = some (.cells ((f.cs v).setIfInBounds (6 + sideN f.side) v') 82) from h4, fr_set]
    · simp only [blocksC, List.nodup_cons, List.mem_cons, List.mem_append, not_or] at h6
      exact h2.same fun k hk => h5 k (Or.inr (by simp [blocksC, hk])) (fun e => h6.2.1.1 ((show k = f.g from e) ▸ hk))
    · simp only [blocksC, List.nodup_cons, List.mem_cons, List.mem_append, not_or] at h6
      refine h3.same fun k hk => h5 k (by rcases hk with e | e; exact Or.inl e; exact Or.inr (by simp [blocksC, e])) (fun e => ?_)
      rcases hk with e2 | e2
      · exact h6.1.1 (e2.symm.trans e)
      · exact h6.2.1.2 ((show k = f.g from e) ▸ e2)
theorem link_mem (p : Nat) (c : List Fr) : (linkC p c).1 = p ∨ (linkC p c).1 ∈ blocksC c := by
  cases c with
  | nil => exact Or.inl rfl
  | cons f c => exact Or.inr (by simp [blocksC, linkC])
end
/-- A way as a row in memory: its links, the last one behind the others. -/
theorem way_row {w : World} {p : Nat} {v : Value} {c : List Fr} (h : Ow wayS w v (waysC p c)) : ∃ g cap, v = .slice (some ⟨g, 0, none⟩) (c.length + 1) cap ∧ c.length + 1 ≤ cap ∧ cap ≤ maxLen ∧ ∀ i x, (waysC p c)[i]? = some x → w.cell? ⟨g, i, none⟩ = some (.pointer (some ⟨x.1, x.2, none⟩)) := by
  obtain ⟨g, cap, rfl, h1, h2⟩ := h.some_ (by rw [ways_len]; omega)
  rw [ways_len] at h1 h
  refine ⟨g, cap, by rw [ways_len], h1, h2, fun i x hx => ?_⟩
  have := h.cel hx (j := 0) rfl
  rw [show i * wayS.k + 0 = i from by show i * 1 + 0 = i; omega] at this
  exact this
set_option maxHeartbeats 4000000 in
set_option maxRecDepth 100000 in
theorem lastB_any (p : Nat) (v : Value) (c : List Fr) (w : World) (h : Ow wayS w v (waysC p c)) (hc : c.length ≤ 1000000) :
    Calls Tryd.prog 53 #[v] w fun e w' => e = .returned (.pointer (some ⟨(linkC p c).1, (linkC p c).2, none⟩)) ∧ w = w' := by
  obtain ⟨g, cap, rfl, h1, h2, h3⟩ := way_row h
  have h4 := h3 _ _ (ways_last p c)
  generalize linkC p c = x at *
  obtain ⟨N, hN⟩ : ∃ N, c.length = N := ⟨_, rfl⟩
  rw [hN] at h4 h1 hc ⊢
  obtain ⟨M, hM⟩ : ∃ M, N + 1 = M := ⟨_, rfl⟩
  rw [hM] at h1 ⊢
  have hw : IntKind.i64.wrap ((M : Int) - 1) = (N : Int) := by rw [wrap_id (by omega) (by omega)]; omega
  have hl : (N : Int) < M := by omega
  clear h h3 hN hM h1 h2 hc
  go_enter Tryd.func53, Tryd.ntmps53
  go_wp2
  go_ret
  exact ⟨rfl, rfl⟩
/-- All that a tree about a place has. -/
theorem ways_at {p : Nat} {c c2 : List Fr} {rest : List Lk} (h : waysC p c = waysC p c2 ++ rest) : (waysC p c)[c2.length]? = some (linkC p c2) := by
  rw [h, List.getElem?_append_left (by rw [ways_len]; omega), ways_last]
set_option maxHeartbeats 4000000 in
set_option maxRecDepth 100000 in
theorem backB_any (p : Nat) (n cm : Int) (v : Value) (c : List Fr) (t : Bt) (w : World) (hv : Ow wayS w v (waysC p c)) (hl : LayB w t) (hc : CtxB w p n cm c (ptrB t)) (hn : (p :: (t.blocks ++ blocksC c)).Nodup) (hs : StepsB t c) (hz : (fillB t c).list.length ≤ 800000) (hcl : c.length ≤ 800000)
    (hvb : ∀ g, v.ownBlock = some g → ¬ (g = p ∨ g ∈ t.blocks ∨ g ∈ blocksC c)) :
    Calls Tryd.prog 55 #[v] w fun en w' => (∃ u, en = .returned u) ∧ LayB w' (bkB t c) ∧ CtxB w' p n cm [] (ptrB (bkB t c)) ∧ Only (fun k => k = p ∨ k ∈ t.blocks ∨ k ∈ blocksC c) w w' := by
  obtain ⟨g, cap, rfl, h1, h2, h3⟩ := way_row hv
  have HVB := Hid.mk (hvb g rfl)
  have HCE := Hid.mk h3
  have HST := Hid.mk (show LayB w t ∧ CtxB w p n cm c (ptrB t) ∧ StepsB t c from ⟨hl, hc, hs⟩)
  have HND := Hid.mk hn
  have HZ := Hid.mk hz
  have HCL := Hid.mk hcl
  obtain ⟨M, hM⟩ : ∃ M, c.length + 1 = M := ⟨_, rfl⟩
  have HM := Hid.mk hM
  rw [hM] at h1
  have hw : IntKind.i64.wrap ((M : Int) - 1) = (c.length : Int) := by rw [wrap_id (by omega) (by omega)]; omega
  rw [hM]
  clear hv hl hc hn hs hz hvb h3 hM
  go_enter Tryd.func55, Tryd.ntmps55
  go_wp2
  go_loopw [2] (fun ii wr => (∃ (i : Nat) (c2 : List Fr) (t2 : Bt) (rest : List Lk), c2.length = i ∧ ii = .int .i64 i ∧ Hid (bkB t2 c2 = bkB t c ∧ StepsB t2 c2 ∧ waysC p c = waysC p c2 ++ rest ∧ LayB wr t2 ∧ CtxB wr p n cm c2 (ptrB t2) ∧ (t2.blocks ++ blocksC c2).Perm (t.blocks ++ blocksC c) ∧ (fillB t2 c2).list.length = (fillB t c).list.length ∧ Only (fun k => k = p ∨ k ∈ t.blocks ∨ k ∈ blocksC c) w wr)) ∨
    (ii = .int .i64 (-1) ∧ Hid (LayB wr (bkB t c) ∧ CtxB wr p n cm [] (ptrB (bkB t c)) ∧ Only (fun k => k = p ∨ k ∈ t.blocks ∨ k ∈ blocksC c) w wr))) (fun ii _ => (intOf ii + 1).toNat)
  case atStart => exact Or.inl ⟨_, c, t, [], rfl, rfl, Hid.mk ⟨rfl, HST.out.2.2, (List.append_nil _).symm, HST.out.1, HST.out.2.1, List.Perm.refl _, rfl, Only.refl _ _⟩⟩
  case round =>
    rcases hrel with ⟨i, c2, t2, rest, hi, rfl, hR⟩ | ⟨rfl, hR⟩
    · have hway := HCE.out _ _ (ways_at hR.out.2.2.1)
      rw [hi] at hway
      have hc4 : wr.cell? ⟨g, i, none⟩ = some (.pointer (some ⟨(linkC p c2).1, (linkC p c2).2, none⟩)) := hR.out.2.2.2.2.2.2.2.cellS HVB.out hway
      have hiM : i < M := by
        have h5 := congrArg List.length hR.out.2.2.1
        rw [List.length_append, ways_len, ways_len] at h5
        have := HM.out
        omega
      have hii : (i : Int) < M := by omega
      have HI := Hid.mk (And.intro hi hiM)
      obtain ⟨cs, ty, k1, k2, k3⟩ := hR.out.2.2.2.2.1.link
      have hnd2 : (p :: (t2.blocks ++ blocksC c2)).Nodup := (List.Perm.nodup_iff (hR.out.2.2.2.2.2.1.cons p)).2 HND.out
      have hready : t2.Ready := by
        have := hR.out.2.1
        cases c2 with
        | nil => exact this
        | cons f c2 => exact this.1
      have hlk := link_mem p c2
      have hlv := levelB_any (linkC p c2).1 (linkC p c2).2 cs ty t2 wr k1 k2 hR.out.2.2.2.1 (by
        refine List.nodup_cons.2 ⟨fun hm => ?_, (List.nodup_append.1 (List.nodup_cons.1 hnd2).2).1⟩
        rcases hlk with e | e
        · exact (List.nodup_cons.1 hnd2).1 (by rw [← e]; exact List.mem_append_left _ hm)
        · exact (List.nodup_append.1 (List.nodup_cons.1 hnd2).2).2.2 _ hm _ e rfl) hready (by
        have h5 := hR.out.2.2.2.2.2.2.1
        have h6 := HZ.out
        rw [fill_list] at h5
        simp only [List.length_append] at h5
        omega)
      have HLV := Hid.mk hlv
      have HK := Hid.mk (And.intro k3 (And.intro hnd2 hlk))
      obtain ⟨Lb, hLb⟩ : ∃ Lb, (linkC p c2).1 = Lb := ⟨_, rfl⟩
      obtain ⟨Lo', hLo⟩ : ∃ Lo', (linkC p c2).2 = Lo' := ⟨_, rfl⟩
      have HLK := Hid.mk (And.intro hLb hLo)
      rw [hLb, hLo] at hc4 HLV
      have hwi : IntKind.i64.wrap ((i : Int) - 1) = (i : Int) - 1 := by have := HCL.out; have := HM.out; exact wrap_id (by omega) (by omega)
      have hge : (0 : Int) ≤ i := by omega
      clear hway hi hiM k1 k2 k3 hnd2 hready hlk hlv hLb hLo
      go_wp2_with (go_at_call 74; refine HLV.out.mono ?_; rintro en w4 ⟨⟨un, rfl⟩, m1, m2, m3⟩; have H4 := Hid.mk (And.intro m1 (And.intro m2 m3)); clear m1 m2 m3)
      go_roundw
      case rel =>
        obtain ⟨e1, e2, e3, e4, e5, e6, e7, e8⟩ := hR.out
        obtain ⟨k3, hnd2, hlk⟩ := HK.out
        obtain ⟨hLb, hLo⟩ := HLK.out
        obtain ⟨m1, m2, m3⟩ := H4.out
        have hperm : ∀ k, (k = p ∨ k ∈ t2.blocks ∨ k ∈ blocksC c2) → (k = p ∨ k ∈ t.blocks ∨ k ∈ blocksC c) := fun k hk => by
          rcases hk with e | e
          · exact Or.inl e
          · exact Or.inr (List.mem_append.1 ((List.Perm.mem_iff e6).1 (List.mem_append.2 e)))
        have hon : Only (fun k => k = p ∨ k ∈ t.blocks ∨ k ∈ blocksC c) w w4 := e8.trans m3 (fun k hk => Or.inl (hperm k (by
          rcases hk with rfl | hk
          · rw [← hLb]
            rcases hlk with e | e
            · exact Or.inl e
            · exact Or.inr (Or.inr e)
          · exact Or.inr (Or.inl hk))))
        rw [← hLb, ← hLo] at m1
        have hctx := k3 w4 _ m1 (fun k hk hne => m3.block k (by rcases hk with rfl | hk; exact e5.lt.1; exact e5.lt.2 k hk) (fun hh => by
          rcases hh with hh | hh
          · exact hne (hh.trans hLb.symm)
          · rcases hk with rfl | hk
            · exact (List.nodup_cons.1 hnd2).1 (List.mem_append_left _ hh)
            · exact (List.nodup_append.1 (List.nodup_cons.1 hnd2).2).2.2 _ hh _ hk rfl)) (by
          refine List.nodup_cons.2 ⟨fun hm => (List.nodup_cons.1 hnd2).1 (List.mem_append_right _ hm), (List.nodup_append.1 (List.nodup_cons.1 hnd2).2).2.1⟩)
        have hi := HI.out.1
        cases c2 with
        | nil =>
          right
          refine ⟨?_, Hid.mk ?_⟩
          · have : i = 0 := hi.symm
            subst this
            rfl
          · rw [show bkB t c = t2.lvl from e1.symm]
            exact ⟨m2, hctx, hon⟩
        | cons f c2 =>
          left
          obtain ⟨h1', h2', h3'⟩ := hctx
          refine ⟨c2.length, c2, f.plug t2.lvl, linkC p (f :: c2) :: rest, rfl, ?_, Hid.mk ⟨e1, e2.2, ?_, ?_, by rw [ptr_plug]; exact h3', ?_, ?_, hon⟩⟩
          · have : i = c2.length + 1 := hi.symm
            subst this
            congr 1
            omega
          · rw [e3, waysC, List.append_assoc]; rfl
          · unfold Fr.plug Fr.cs at *
            split
            · rename_i hs; rw [if_pos hs] at h1'; exact ⟨h1', h2', m2⟩
            · rename_i hs; rw [if_neg hs] at h1'; exact ⟨h1', m2, h2'⟩
          · refine List.Perm.trans ?_ e6
            refine ((plug_blocks f _).append_right _).trans ?_
            refine ((((List.Perm.refl _).append (lvl_blocks t2)).cons _).append_right _).trans ?_
            refine perm_count fun k => ?_
            simp only [blocksC, List.count_cons, List.count_append]
            ac_rfl
          · rw [← e7, fill_list, fill_list, plug_list, lvl_list]
            simp only [preC, postC, List.length_append]
            omega
      case measure => simp [intOf]
    · go_wp2
      exact bodyPost_end (results_none rfl _ _ _) rfl ⟨⟨_, rfl⟩, hR.out⟩
end Go.Proofs.YteklhipcojioaaaDoor

/-
  The way to the empty place beside a node.
-/
namespace Go.Proofs.YteklhipcojioaaaDoor
open Go.RowKit Go.Deep Go.Maps Go.WideShapes

def lenV : Value → Nat
  | .slice _ n _ => n
  | _ => 0
/-- A way made longer: in its own block, or in a new one. -/
structure BesideB (p : Nat) (v : Value) (c : List Fr) (w : World) (u : Value) (w' : World) : Prop where
  row : Ow wayS w' u (waysC p c)
  only : Only (fun k => v.ownBlock = some k) w w'
  own : u.ownBlock = v.ownBlock ∨ ∃ k, u.ownBlock = some k ∧ w.heap.size ≤ k
set_option maxHeartbeats 4000000 in
set_option maxRecDepth 100000 in
theorem besideB_0 (p : Nat) (n cm : Int) (v : Value) (c : List Fr) (g : Nat) (e : Ky) (h : Int) (l r : Bt) (w : World) (hv : Ow wayS w v (waysC p c)) (hl : LayB w (.node g e h l r)) (hc : CtxB w p n cm c (ptrB (.node g e h l r)))
    (hz : c.length + (Bt.node g e h l r).list.length ≤ 800000) (hvb : ∀ b, v.ownBlock = some b → ¬ (b = p ∨ b ∈ (Bt.node g e h l r).blocks ∨ b ∈ blocksC c)) :
    Calls Tryd.prog 56 #[v, .int .i64 0] w fun en w' => ∃ u, en = .returned u ∧ BesideB p v (besideB false g e h l r c) w u w' := by
  have HZ := Hid.mk hz
  have HL := Hid.mk (lastB_any p v c w hv (by omega))
  have hlk := hc.link
  obtain ⟨cs, ty, k1, k2, _⟩ := hlk
  have c0 : w.cell? ⟨(linkC p c).1, (linkC p c).2, none⟩ = some (.pointer (some ⟨g, 0, none⟩)) := by simp only [World.cell?, k1]; exact k2
  obtain ⟨q1, ql, qr⟩ := hl
  have ht0 : LayB w (.node g e h l r) := ⟨q1, ql, qr⟩
  have HC0 := Hid.mk (show LayB w l ∧ CtxB w p n cm (⟨g, false, e, h, r⟩ :: c) (ptrB l) from ⟨ql, q1, qr, hc⟩)
  have HV := Hid.mk hv
  have HVB := Hid.mk (fun (b : Nat) (hb : v.ownBlock = some b) => show ¬ (b = p ∨ b ∈ l.blocks ∨ b ∈ blocksC (⟨g, false, e, h, r⟩ :: c)) from fun hh => hvb b hb (by
    simp only [Bt.blocks, blocksC, List.mem_cons, List.mem_append] at hh ⊢
    rcases hh with e1 | e1 | e1 | e1 | e1 <;> simp [e1]))
  have hzl : (Bt.node g e h l r).list.length = l.list.length + r.list.length + 1 := by simp [Bt.list]; omega
  have hvn : ∀ b, v.ownBlock = some b → b < w.heap.size := fun b hb => hv.lt hb
  have HVN := Hid.mk hvn
  obtain ⟨Lb, hLb⟩ : ∃ Lb, (linkC p c).1 = Lb := ⟨_, rfl⟩
  obtain ⟨Lo', hLo⟩ : ∃ Lo', (linkC p c).2 = Lo' := ⟨_, rfl⟩
  rw [hLb, hLo] at c0 HL
  have hw1 : IntKind.i64.wrap 1 = 1 := wrap_id (by decide) (by decide)
  have hw0 : IntKind.i64.wrap 0 = 0 := wrap_id (by decide) (by decide)
  clear hv hc hz hvb k1 k2 q1 ql qr ht0 hvn hLb hLo
  go_enter Tryd.func56, Tryd.ntmps56
  go_wp2_with (go_at_call 53; refine HL.out.mono ?_; rintro en wx ⟨rfl, rfl⟩)
  go_loopw [0, 5] (fun vv lk wr => ∃ (f : Fr) (c3 : List Fr) (t2 : Bt) (uu : Value), uu = vv ∧ lk = .pointer (some ⟨f.g, 6 + sideN f.side, none⟩) ∧ Hid (Ow wayS wr uu (waysC p c3) ∧ (uu.ownBlock = v.ownBlock ∨ ∃ k, uu.ownBlock = some k ∧ w.heap.size ≤ k) ∧ Only (fun k => v.ownBlock = some k) w wr ∧ LayB w t2 ∧ CtxB w p n cm (f :: c3) (ptrB t2) ∧
      downB true t2 (f :: c3) = besideB false g e h l r c ∧ c3.length + 1 + t2.list.length ≤ 800000 ∧ (∀ b, v.ownBlock = some b → ¬ (b = p ∨ b ∈ t2.blocks ∨ b ∈ blocksC (f :: c3))))) (fun vv _ _ => 800001 - lenV vv)
  case atStart =>
    refine ⟨⟨g, false, e, h, r⟩, c, l, v, rfl, rfl, Hid.mk ⟨HV.out, Or.inl rfl, Only.refl _ _, HC0.out.1, HC0.out.2, ?_, ?_, HVB.out⟩⟩
    · unfold besideB
      first | rw [if_pos rfl] | rw [if_neg (by decide)]
    · have := HZ.out; omega
  case round =>
    obtain ⟨f, c3, t2, uu, rfl, rfl, hR⟩ := hrel
    obtain ⟨r1, r2, r3, r4, r5, r6, r7, r8⟩ := hR.out
    obtain ⟨gu, capu, hus, h1, h2, _⟩ := way_row r1
    have hlen : lenV uu = c3.length + 1 := by rw [hus]; rfl
    obtain ⟨tp, htp⟩ := ptrB_is t2
    have d0 : w.cell? ⟨f.g, 6 + sideN f.side, none⟩ = some (.pointer tp) := by
      obtain ⟨s1, _, _⟩ := r5
      simp only [World.cell?, s1]
      rw [← htp]
      exact fr_get f _
    have hfg : ∀ k, v.ownBlock = some k → ¬ f.g = k := fun k hk e0 => r8 k hk (Or.inr (Or.inr (by simp [blocksC, e0])))
    have d1 := r3.cellS (fun hk => hfg _ hk rfl) d0
    have HLN := Hid.mk hlen
    obtain ⟨FG, hFG⟩ : ∃ FG, f.g = FG := ⟨_, rfl⟩
    obtain ⟨FO, hFO⟩ : ∃ FO, 6 + sideN f.side = FO := ⟨_, rfl⟩
    have HF := Hid.mk (And.intro hFG hFO)
    rw [hFG, hFO] at d0 d1 ⊢
    obtain ⟨u2, w2, hr2, hi2, hg2, ho2⟩ := append_elem wayS (wr.alloc (.cells #[.pointer (some ⟨FG, FO, none⟩)] 78)) 75 uu (waysC p c3) (FG, FO) (r1.up (Up.alloc (Up.refl wr)).out) wr.heap.size (new_block _ _) rfl (by rw [ways_len]; omega)
    have hi3 : Ow wayS w2 u2 (waysC p (f :: c3)) := by rw [waysC, show linkC p (f :: c3) = (FG, FO) from by rw [← hFG, ← hFO]; rfl]; exact hi2
    have hon : Only (fun k => v.ownBlock = some k) w w2 := (r3.trans (Only.up (S := fun _ => False) (Up.alloc (Up.refl wr)).out) (fun _ f => f.elim)).trans (Only.grown (S := fun k => uu.ownBlock = some k) hg2 (fun k hk => hk)) (fun k hk => by
      rcases r2 with e1 | ⟨k', e1, e2⟩
      · exact Or.inl (e1 ▸ hk)
      · right; rw [e1] at hk; cases hk; exact e2)
    have hob : u2.ownBlock = v.ownBlock ∨ ∃ k, u2.ownBlock = some k ∧ w.heap.size ≤ k := by
      rcases ho2 with e1 | e1
      · rw [e1]; exact r2
      · exact Or.inr ⟨_, e1, by rw [World.size_alloc]; have := r3.size; omega⟩
    have HP := Hid.mk (And.intro hi3 (And.intro hon hob))
    cases t2 with
    | nil =>
      obtain rfl : none = tp := by simpa [ptrB] using htp
      have he : (f :: c3) = besideB false g e h l r c := r6
      clear d0 hi2 hg2 ho2 hi3 hon hob hlen r1 r2 r3 r4 r5 r6 r7 r8 h1 h2 htp hfg hus hFG hFO
      go_wp2_with (at_builtin; refine Lib.wpList_append_run _ rfl _ _ _ _ rfl _ _ rfl rfl _ _ hr2 ?_)
      refine bodyPost_ret (by simp [results]) rfl ⟨u2, rfl, ?_⟩
      rw [← he]
      exact ⟨HP.out.1, HP.out.2.1, HP.out.2.2⟩
    | node g2 e2 x2 l2 r2' =>
      obtain rfl : some ⟨g2, 0, none⟩ = tp := by simpa [ptrB] using htp
      have hg2' : ∀ k, v.ownBlock = some k → ¬ g2 = k := fun k hk e0 => r8 k hk (Or.inr (Or.inl (by simp [Bt.blocks, e0])))
      have HRR := Hid.mk (And.intro r4 (And.intro r5 (And.intro r6 (And.intro r7 r8))))
      have f0 := hon.cellS (fun hk => hfg _ hk hFG) d0
      have HUL := Hid.mk (show lenV u2 = c3.length + 2 from (by obtain ⟨_, _, e5, _⟩ := way_row hi3; rw [e5]; rfl))
      clear d0 hi2 hg2 ho2 hi3 hon hob hlen r1 r2 r3 r4 r5 r6 r7 r8 h1 h2 htp hfg hus hFG hFO
      go_wp2_with (at_builtin; refine Lib.wpList_append_run _ rfl _ _ _ _ rfl _ _ rfl rfl _ _ hr2 ?_)
      go_roundw
      case rel =>
        obtain ⟨⟨q1, ql, qr⟩, q5, q6, q7, q8⟩ := HRR.out
        refine ⟨⟨g2, true, e2, x2, l2⟩, f :: c3, r2', u2, rfl, rfl, Hid.mk ⟨HP.out.1, HP.out.2.2, HP.out.2.1, qr, ⟨q1, ql, q5⟩, q6, ?_, fun b hb hh => q8 b hb ?_⟩⟩
        · simp only [Bt.list, List.length_append, List.length_cons] at q7 ⊢
          omega
        · simp only [Bt.blocks, blocksC, List.mem_cons, List.mem_append] at hh ⊢
          rcases hh with e1 | e1 | e1 | e1 | e1 | e1 | e1 <;> simp [e1]
      case measure =>
        have h5 := HUL.out
        have h6 := HLN.out
        have h7 := HRR.out.2.2.2.1
        rw [h5, h6]
        omega
set_option maxHeartbeats 4000000 in
set_option maxRecDepth 100000 in
theorem besideB_1 (p : Nat) (n cm : Int) (v : Value) (c : List Fr) (g : Nat) (e : Ky) (h : Int) (l r : Bt) (w : World) (hv : Ow wayS w v (waysC p c)) (hl : LayB w (.node g e h l r)) (hc : CtxB w p n cm c (ptrB (.node g e h l r)))
    (hz : c.length + (Bt.node g e h l r).list.length ≤ 800000) (hvb : ∀ b, v.ownBlock = some b → ¬ (b = p ∨ b ∈ (Bt.node g e h l r).blocks ∨ b ∈ blocksC c)) :
    Calls Tryd.prog 56 #[v, .int .i64 1] w fun en w' => ∃ u, en = .returned u ∧ BesideB p v (besideB true g e h l r c) w u w' := by
  have HZ := Hid.mk hz
  have HL := Hid.mk (lastB_any p v c w hv (by omega))
  have hlk := hc.link
  obtain ⟨cs, ty, k1, k2, _⟩ := hlk
  have c0 : w.cell? ⟨(linkC p c).1, (linkC p c).2, none⟩ = some (.pointer (some ⟨g, 0, none⟩)) := by simp only [World.cell?, k1]; exact k2
  obtain ⟨q1, ql, qr⟩ := hl
  have ht0 : LayB w (.node g e h l r) := ⟨q1, ql, qr⟩
  have HC0 := Hid.mk (show LayB w r ∧ CtxB w p n cm (⟨g, true, e, h, l⟩ :: c) (ptrB r) from ⟨qr, q1, ql, hc⟩)
  have HV := Hid.mk hv
  have HVB := Hid.mk (fun (b : Nat) (hb : v.ownBlock = some b) => show ¬ (b = p ∨ b ∈ r.blocks ∨ b ∈ blocksC (⟨g, true, e, h, l⟩ :: c)) from fun hh => hvb b hb (by
    simp only [Bt.blocks, blocksC, List.mem_cons, List.mem_append] at hh ⊢
    rcases hh with e1 | e1 | e1 | e1 | e1 <;> simp [e1]))
  have hzl : (Bt.node g e h l r).list.length = l.list.length + r.list.length + 1 := by simp [Bt.list]; omega
  have hvn : ∀ b, v.ownBlock = some b → b < w.heap.size := fun b hb => hv.lt hb
  have HVN := Hid.mk hvn
  obtain ⟨Lb, hLb⟩ : ∃ Lb, (linkC p c).1 = Lb := ⟨_, rfl⟩
  obtain ⟨Lo', hLo⟩ : ∃ Lo', (linkC p c).2 = Lo' := ⟨_, rfl⟩
  rw [hLb, hLo] at c0 HL
  have hw1 : IntKind.i64.wrap 1 = 1 := wrap_id (by decide) (by decide)
  have hw0 : IntKind.i64.wrap 0 = 0 := wrap_id (by decide) (by decide)
  clear hv hc hz hvb k1 k2 q1 ql qr ht0 hvn hLb hLo
  go_enter Tryd.func56, Tryd.ntmps56
  go_wp2_with (go_at_call 53; refine HL.out.mono ?_; rintro en wx ⟨rfl, rfl⟩)
  go_loopw [0, 5] (fun vv lk wr => ∃ (f : Fr) (c3 : List Fr) (t2 : Bt) (uu : Value), uu = vv ∧ lk = .pointer (some ⟨f.g, 6 + sideN f.side, none⟩) ∧ Hid (Ow wayS wr uu (waysC p c3) ∧ (uu.ownBlock = v.ownBlock ∨ ∃ k, uu.ownBlock = some k ∧ w.heap.size ≤ k) ∧ Only (fun k => v.ownBlock = some k) w wr ∧ LayB w t2 ∧ CtxB w p n cm (f :: c3) (ptrB t2) ∧
      downB false t2 (f :: c3) = besideB true g e h l r c ∧ c3.length + 1 + t2.list.length ≤ 800000 ∧ (∀ b, v.ownBlock = some b → ¬ (b = p ∨ b ∈ t2.blocks ∨ b ∈ blocksC (f :: c3))))) (fun vv _ _ => 800001 - lenV vv)
  case atStart =>
    refine ⟨⟨g, true, e, h, l⟩, c, r, v, rfl, rfl, Hid.mk ⟨HV.out, Or.inl rfl, Only.refl _ _, HC0.out.1, HC0.out.2, ?_, ?_, HVB.out⟩⟩
    · unfold besideB
      first | rw [if_pos rfl] | rw [if_neg (by decide)]
    · have := HZ.out; omega
  case round =>
    obtain ⟨f, c3, t2, uu, rfl, rfl, hR⟩ := hrel
    obtain ⟨r1, r2, r3, r4, r5, r6, r7, r8⟩ := hR.out
    obtain ⟨gu, capu, hus, h1, h2, _⟩ := way_row r1
    have hlen : lenV uu = c3.length + 1 := by rw [hus]; rfl
    obtain ⟨tp, htp⟩ := ptrB_is t2
    have d0 : w.cell? ⟨f.g, 6 + sideN f.side, none⟩ = some (.pointer tp) := by
      obtain ⟨s1, _, _⟩ := r5
      simp only [World.cell?, s1]
      rw [← htp]
      exact fr_get f _
    have hfg : ∀ k, v.ownBlock = some k → ¬ f.g = k := fun k hk e0 => r8 k hk (Or.inr (Or.inr (by simp [blocksC, e0])))
    have d1 := r3.cellS (fun hk => hfg _ hk rfl) d0
    have HLN := Hid.mk hlen
    obtain ⟨FG, hFG⟩ : ∃ FG, f.g = FG := ⟨_, rfl⟩
    obtain ⟨FO, hFO⟩ : ∃ FO, 6 + sideN f.side = FO := ⟨_, rfl⟩
    have HF := Hid.mk (And.intro hFG hFO)
    rw [hFG, hFO] at d0 d1 ⊢
    obtain ⟨u2, w2, hr2, hi2, hg2, ho2⟩ := append_elem wayS (wr.alloc (.cells #[.pointer (some ⟨FG, FO, none⟩)] 78)) 75 uu (waysC p c3) (FG, FO) (r1.up (Up.alloc (Up.refl wr)).out) wr.heap.size (new_block _ _) rfl (by rw [ways_len]; omega)
    have hi3 : Ow wayS w2 u2 (waysC p (f :: c3)) := by rw [waysC, show linkC p (f :: c3) = (FG, FO) from by rw [← hFG, ← hFO]; rfl]; exact hi2
    have hon : Only (fun k => v.ownBlock = some k) w w2 := (r3.trans (Only.up (S := fun _ => False) (Up.alloc (Up.refl wr)).out) (fun _ f => f.elim)).trans (Only.grown (S := fun k => uu.ownBlock = some k) hg2 (fun k hk => hk)) (fun k hk => by
      rcases r2 with e1 | ⟨k', e1, e2⟩
      · exact Or.inl (e1 ▸ hk)
      · right; rw [e1] at hk; cases hk; exact e2)
    have hob : u2.ownBlock = v.ownBlock ∨ ∃ k, u2.ownBlock = some k ∧ w.heap.size ≤ k := by
      rcases ho2 with e1 | e1
      · rw [e1]; exact r2
      · exact Or.inr ⟨_, e1, by rw [World.size_alloc]; have := r3.size; omega⟩
    have HP := Hid.mk (And.intro hi3 (And.intro hon hob))
    cases t2 with
    | nil =>
      obtain rfl : none = tp := by simpa [ptrB] using htp
      have he : (f :: c3) = besideB true g e h l r c := r6
      clear d0 hi2 hg2 ho2 hi3 hon hob hlen r1 r2 r3 r4 r5 r6 r7 r8 h1 h2 htp hfg hus hFG hFO
      go_wp2_with (at_builtin; refine Lib.wpList_append_run _ rfl _ _ _ _ rfl _ _ rfl rfl _ _ hr2 ?_)
      refine bodyPost_ret (by simp [results]) rfl ⟨u2, rfl, ?_⟩
      rw [← he]
      exact ⟨HP.out.1, HP.out.2.1, HP.out.2.2⟩
    | node g2 e2 x2 l2 r2' =>
      obtain rfl : some ⟨g2, 0, none⟩ = tp := by simpa [ptrB] using htp
      have hg2' : ∀ k, v.ownBlock = some k → ¬ g2 = k := fun k hk e0 => r8 k hk (Or.inr (Or.inl (by simp [Bt.blocks, e0])))
      have HRR := Hid.mk (And.intro r4 (And.intro r5 (And.intro r6 (And.intro r7 r8))))
      have f0 := hon.cellS (fun hk => hfg _ hk hFG) d0
      have HUL := Hid.mk (show lenV u2 = c3.length + 2 from (by obtain ⟨_, _, e5, _⟩ := way_row hi3; rw [e5]; rfl))
      clear d0 hi2 hg2 ho2 hi3 hon hob hlen r1 r2 r3 r4 r5 r6 r7 r8 h1 h2 htp hfg hus hFG hFO
      go_wp2_with (at_builtin; refine Lib.wpList_append_run _ rfl _ _ _ _ rfl _ _ rfl rfl _ _ hr2 ?_)
      go_roundw
      case rel =>
        obtain ⟨⟨q1, ql, qr⟩, q5, q6, q7, q8⟩ := HRR.out
        refine ⟨⟨g2, false, e2, x2, r2'⟩, f :: c3, l2, u2, rfl, rfl, Hid.mk ⟨HP.out.1, HP.out.2.2, HP.out.2.1, ql, ⟨q1, qr, q5⟩, q6, ?_, fun b hb hh => q8 b hb ?_⟩⟩
        · simp only [Bt.list, List.length_append, List.length_cons] at q7 ⊢
          omega
        · simp only [Bt.blocks, blocksC, List.mem_cons, List.mem_append] at hh ⊢
          rcases hh with e1 | e1 | e1 | e1 | e1 | e1 | e1 <;> simp [e1]
      case measure =>
        have h5 := HUL.out
        have h6 := HLN.out
        have h7 := HRR.out.2.2.2.1
        rw [h5, h6]
        omega
end Go.Proofs.YteklhipcojioaaaDoor
