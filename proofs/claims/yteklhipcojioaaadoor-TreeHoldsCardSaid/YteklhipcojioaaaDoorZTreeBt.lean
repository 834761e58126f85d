/-
  Balanced trees, plain: their keys in order, their heights, turned and made even; a place in a tree.
-/
import Derived.Test.YteklhipcojioaaaDoorZTreeKit
import Derived.Test.YteklhipcojioaaaDoorZTreeRA
namespace Go.Proofs.YteklhipcojioaaaDoor
open Go.RowKit Go.Deep Go.Maps Go.WideShapes

/-- A key of a node: its cells and its number, and the term that it is. -/
structure Ky where
  h : Hdr
  T : Tm
def Ky.nd (e : Ky) : Nd := (e.T, e.h.num)
/-- A tree: each node has its block, its key, its height as it was measured last, and what stands ahead and behind. -/
inductive Bt where
  | nil
  | node (g : Nat) (e : Ky) (h : Int) (l r : Bt)
def Bt.ht : Bt → Int
  | .nil => 0
  | .node _ _ h _ _ => h
def Bt.list : Bt → List Ky
  | .nil => []
  | .node _ e _ l r => l.list ++ e :: r.list
def Bt.blocks : Bt → List Nat
  | .nil => []
  | .node g _ _ l r => g :: (l.blocks ++ r.blocks)
def Bt.left : Bt → Bt
  | .nil => .nil
  | .node _ _ _ l _ => l
def Bt.right : Bt → Bt
  | .nil => .nil
  | .node _ _ _ _ r => r
/-- Even, and measured. -/
def Bt.Bal : Bt → Prop
  | .nil => True
  | .node _ _ h l r => h = 1 + max l.ht r.ht ∧ l.ht ≤ r.ht + 1 ∧ r.ht ≤ l.ht + 1 ∧ l.Bal ∧ r.Bal
def mkB (g : Nat) (e : Ky) (l r : Bt) : Bt := .node g e (1 + max l.ht r.ht) l r
/-- The node on the left turned up; on the right. -/
def Bt.rotR : Bt → Bt
  | .node g e _ (.node g' e' _ a b) r => mkB g' e' a (mkB g e b r)
  | t => t
def Bt.rotL : Bt → Bt
  | .node g e _ l (.node g' e' _ a b) => mkB g' e' (mkB g e l a) b
  | t => t
/-- Made even. -/
def Bt.lvl : Bt → Bt
  | .nil => .nil
  | .node g e h l r =>
    if r.ht + 1 < l.ht then (Bt.node g e h (if l.left.ht < l.right.ht then l.rotL else l) r).rotR
    else if l.ht + 1 < r.ht then (Bt.node g e h l (if r.right.ht < r.left.ht then r.rotR else r)).rotL
    else mkB g e l r
/-- A node that can be made even. -/
def Bt.Ready : Bt → Prop
  | .nil => True
  | .node _ _ _ l r => l.Bal ∧ r.Bal ∧ l.ht ≤ r.ht + 2 ∧ r.ht ≤ l.ht + 2

theorem ht_nil : Bt.nil.ht = 0 := rfl
theorem ht_node (g : Nat) (e : Ky) (h : Int) (l r : Bt) : (Bt.node g e h l r).ht = h := rfl
theorem lvl_node (g : Nat) (e : Ky) (h : Int) (l r : Bt) : (Bt.node g e h l r).lvl = if r.ht + 1 < l.ht then (Bt.node g e h (if l.left.ht < l.right.ht then l.rotL else l) r).rotR
    else if l.ht + 1 < r.ht then (Bt.node g e h l (if r.right.ht < r.left.ht then r.rotR else r)).rotL
    else mkB g e l r := rfl
theorem Bt.Bal.pos {t : Bt} (h : t.Bal) : 0 ≤ t.ht := by
  induction t with
  | nil => exact Int.le_refl _
  | node g e k l r il ir =>
    obtain ⟨h1, _, _, h4, h5⟩ := h
    have := il h4
    simp only [ht_node]
    omega
theorem Bt.Bal.nil {t : Bt} (h : t.Bal) (h0 : t.ht = 0) : t = .nil := by
  cases t with
  | nil => rfl
  | node g e k l r =>
    obtain ⟨h1, _, _, h4, h5⟩ := h
    have := h4.pos
    simp only [ht_node] at h0
    omega
theorem Bt.Bal.ready {t : Bt} (h : t.Bal) : t.Ready := by
  cases t with
  | nil => trivial
  | node g e k l r => obtain ⟨h1, h2, h3, h4, h5⟩ := h; exact ⟨h4, h5, by omega, by omega⟩
theorem Bt.Bal.lvl {t : Bt} (h : t.Bal) : t.lvl = t := by
  cases t with
  | nil => rfl
  | node g e k l r =>
    obtain ⟨h1, h2, h3, h4, h5⟩ := h
    rw [lvl_node]
    rw [if_neg (by omega), if_neg (by omega), mkB, ← h1]
theorem mkB_bal {g : Nat} {e : Ky} {l r : Bt} (h1 : l.Bal) (h2 : r.Bal) (h3 : l.ht ≤ r.ht + 1) (h4 : r.ht ≤ l.ht + 1) : (mkB g e l r).Bal := ⟨rfl, h3, h4, h1, h2⟩
theorem mkB_ht {g : Nat} {e : Ky} {l r : Bt} : (mkB g e l r).ht = 1 + max l.ht r.ht := rfl
theorem rotR_list (t : Bt) : t.rotR.list = t.list := by
  unfold Bt.rotR
  split <;> simp [mkB, Bt.list]
theorem rotL_list (t : Bt) : t.rotL.list = t.list := by
  unfold Bt.rotL
  split <;> simp [mkB, Bt.list]
theorem perm_count {a b : List Nat} (h : ∀ k, a.count k = b.count k) : a.Perm b := List.perm_iff_count.2 h
theorem rotR_blocks (t : Bt) : t.rotR.blocks.Perm t.blocks := by
  unfold Bt.rotR
  split
  · refine perm_count fun k => ?_
    simp only [mkB, Bt.blocks, List.count_cons, List.count_append]
    ac_rfl
  · exact List.Perm.refl _
theorem rotL_blocks (t : Bt) : t.rotL.blocks.Perm t.blocks := by
  unfold Bt.rotL
  split
  · refine perm_count fun k => ?_
    simp only [mkB, Bt.blocks, List.count_cons, List.count_append]
    ac_rfl
  · exact List.Perm.refl _
theorem node_list {g : Nat} {e : Ky} {h : Int} {l r l' r' : Bt} (h1 : l'.list = l.list) (h2 : r'.list = r.list) : (Bt.node g e h l' r').list = (Bt.node g e h l r).list := by simp [Bt.list, h1, h2]
theorem node_blocks {g : Nat} {e : Ky} {h : Int} {l r l' r' : Bt} (h1 : l'.blocks.Perm l.blocks) (h2 : r'.blocks.Perm r.blocks) : (Bt.node g e h l' r').blocks.Perm (Bt.node g e h l r).blocks := (h1.append h2).cons g
theorem lvl_list (t : Bt) : t.lvl.list = t.list := by
  cases t with
  | nil => rfl
  | node g e h l r =>
    rw [lvl_node]
    split
    · rw [rotR_list]
      refine node_list ?_ rfl
      split
      · exact rotL_list l
      · rfl
    · split
      · rw [rotL_list]
        refine node_list rfl ?_
        split
        · exact rotR_list r
        · rfl
      · rfl
theorem lvl_blocks (t : Bt) : t.lvl.blocks.Perm t.blocks := by
  cases t with
  | nil => exact List.Perm.refl _
  | node g e h l r =>
    rw [lvl_node]
    split
    · refine (rotR_blocks _).trans (node_blocks ?_ (List.Perm.refl _))
      split
      · exact rotL_blocks l
      · exact List.Perm.refl _
    · split
      · refine (rotL_blocks _).trans (node_blocks (List.Perm.refl _) ?_)
        split
        · exact rotR_blocks r
        · exact List.Perm.refl _
      · exact List.Perm.refl _
/-- What is made even is even, and as high as may be. -/
theorem lvl_ok {g : Nat} {e : Ky} {h : Int} {l r : Bt} (hr : (Bt.node g e h l r).Ready) : (Bt.node g e h l r).lvl.Bal ∧ max l.ht r.ht ≤ (Bt.node g e h l r).lvl.ht ∧ (Bt.node g e h l r).lvl.ht ≤ 1 + max l.ht r.ht ∧
    (l.ht ≤ r.ht + 1 → r.ht ≤ l.ht + 1 → (Bt.node g e h l r).lvl.ht = 1 + max l.ht r.ht) := by
  obtain ⟨hl, hr, h1, h2⟩ := hr
  rw [lvl_node]
  have p2 := hr.pos
  have p1 := hl.pos
  split
  · rename_i hlt
    cases l with
    | nil => simp only [ht_nil] at hlt; omega
    | node g' e' h' a b =>
      obtain ⟨k1, k2, k3, k4, k5⟩ := hl
      simp only [ht_node] at hlt h1 h2 k1 p1
      have el : (Bt.node g' e' h' a b).left = a := rfl
      have er : (Bt.node g' e' h' a b).right = b := rfl
      rw [el, er]
      have pa := k4.pos
      have pb := k5.pos
      by_cases hab : a.ht < b.ht
      · rw [if_pos hab]
        cases b with
        | nil => simp only [ht_nil] at hab; omega
        | node g'' e'' h'' m n =>
          obtain ⟨q1, q2, q3, q4, q5⟩ := k5
          simp only [ht_node] at hab k2 k3 k1 pb
          have e1 : (Bt.node g e h (Bt.node g' e' h' a (.node g'' e'' h'' m n)).rotL r).rotR = mkB g'' e'' (mkB g' e' a m) (mkB g e n r) := rfl
          rw [e1]
          have := q4.pos
          have := q5.pos
          refine ⟨mkB_bal (mkB_bal k4 q4 (by omega) (by omega)) (mkB_bal q5 hr (by omega) (by omega)) ?_ ?_, ?_, ?_, ?_⟩ <;> simp only [mkB_ht, ht_node] <;> omega
      · rw [if_neg hab]
        have e1 : (Bt.node g e h (.node g' e' h' a b) r).rotR = mkB g' e' a (mkB g e b r) := rfl
        rw [e1]
        refine ⟨mkB_bal k4 (mkB_bal k5 hr (by omega) (by omega)) ?_ ?_, ?_, ?_, ?_⟩ <;> simp only [mkB_ht, ht_node] <;> omega
  · split
    · rename_i hlt
      cases r with
      | nil => simp only [ht_nil] at hlt; omega
      | node g' e' h' a b =>
        obtain ⟨k1, k2, k3, k4, k5⟩ := hr
        simp only [ht_node] at hlt h1 h2 k1 p2
        have el : (Bt.node g' e' h' a b).left = a := rfl
        have er : (Bt.node g' e' h' a b).right = b := rfl
        rw [el, er]
        have pa := k4.pos
        have pb := k5.pos
        by_cases hab : b.ht < a.ht
        · rw [if_pos hab]
          cases a with
          | nil => simp only [ht_nil] at hab; omega
          | node g'' e'' h'' m n =>
            obtain ⟨q1, q2, q3, q4, q5⟩ := k4
            simp only [ht_node] at hab k2 k3 k1 pa
            have e1 : (Bt.node g e h l (Bt.node g' e' h' (.node g'' e'' h'' m n) b).rotR).rotL = mkB g'' e'' (mkB g e l m) (mkB g' e' n b) := rfl
            rw [e1]
            have := q4.pos
            have := q5.pos
            refine ⟨mkB_bal (mkB_bal hl q4 (by omega) (by omega)) (mkB_bal q5 k5 (by omega) (by omega)) ?_ ?_, ?_, ?_, ?_⟩ <;> simp only [mkB_ht, ht_node] <;> omega
        · rw [if_neg hab]
          have e1 : (Bt.node g e h l (.node g' e' h' a b)).rotL = mkB g' e' (mkB g e l a) b := rfl
          rw [e1]
          refine ⟨mkB_bal (mkB_bal hl k4 (by omega) (by omega)) k5 ?_ ?_, ?_, ?_, ?_⟩ <;> simp only [mkB_ht, ht_node] <;> omega
    · exact ⟨mkB_bal hl hr (by omega) (by omega), by simp only [mkB_ht]; omega, by simp only [mkB_ht]; omega, fun _ _ => rfl⟩
theorem lvl_bal {t : Bt} (h : t.Ready) : t.lvl.Bal := by
  cases t with
  | nil => trivial
  | node g e k l r => exact (lvl_ok h).1

/-- A tree is low. -/
theorem Bt.Bal.low {t : Bt} (h : t.Bal) : 2 ^ t.ht.toNat ≤ (t.list.length + 1) ^ 2 ∧ t.ht ≤ t.list.length := by
  suffices H : ∀ (n : Nat) (t : Bt), t.Bal → t.ht ≤ n → 2 ^ t.ht.toNat ≤ (t.list.length + 1) ^ 2 ∧ t.ht ≤ t.list.length from H t.ht.toNat t h (by have := h.pos; omega)
  intro n
  induction n using Nat.strongRecOn with
  | _ n ih =>
    intro t h hn
    cases t with
    | nil => exact ⟨by simp [ht_nil, Bt.list], by simp [ht_nil, Bt.list]⟩
    | node g e k l r =>
      obtain ⟨h1, h2, h3, h4, h5⟩ := h
      have p1 := h4.pos
      have p2 := h5.pos
      simp only [ht_node, Bt.list, List.length_append, List.length_cons] at *
      obtain ⟨a1, a2⟩ := ih (n - 1) (by omega) l h4 (by omega)
      obtain ⟨b1, b2⟩ := ih (n - 1) (by omega) r h5 (by omega)
      refine ⟨?_, by omega⟩
      generalize l.list.length = x at *
      generalize r.list.length = y at *
      obtain ⟨A, hA⟩ := Int.eq_ofNat_of_zero_le p1
      obtain ⟨B, hB⟩ := Int.eq_ofNat_of_zero_le p2
      rw [hA, hB] at h1
      rw [hA] at a1 a2 h2 h3
      rw [hB] at b1 b2 h2 h3
      simp only [Int.toNat_natCast] at a1 b1
      have key : ∀ (X Y : Nat) (P Q : Nat), X ≤ Y → Y ≤ X + 1 → 2 ^ X ≤ P ^ 2 → 2 ^ Y ≤ Q ^ 2 → 2 ^ (1 + Y) ≤ (P + Q) ^ 2 := by
        intro X Y P Q e1 e2 e3 e4
        have f1 : (P + Q) ^ 2 = P ^ 2 + Q ^ 2 + 2 * (P * Q) := by
          rw [Nat.pow_two, Nat.pow_two, Nat.pow_two, Nat.mul_add, Nat.add_mul, Nat.add_mul, Nat.mul_comm Q P]
          omega
        have f2 : 2 ^ (1 + Y) = 2 * 2 ^ Y := by rw [Nat.add_comm, Nat.pow_succ, Nat.mul_comm]
        have f3 : 2 ^ X ≤ P * Q := by
          have : 2 ^ X ≤ 2 ^ Y := Nat.pow_le_pow_right (by decide) e1
          rcases Nat.le_total P Q with h | h
          · refine Nat.le_trans e3 ?_
            rw [Nat.pow_two]
            exact Nat.mul_le_mul_left _ h
          · refine Nat.le_trans (Nat.le_trans this e4) ?_
            rw [Nat.pow_two]
            exact Nat.mul_le_mul_right _ h
        have f4 : 2 ^ Y ≤ 2 * 2 ^ X := by
          have : 2 ^ Y ≤ 2 ^ (X + 1) := Nat.pow_le_pow_right (by decide) e2
          rw [Nat.pow_succ] at this
          omega
        rw [f1, f2]
        omega
      rcases Nat.le_total A B with hab | hab
      · have := key A B (x + 1) (y + 1) hab (by omega) a1 b1
        have e1 : k.toNat = 1 + B := by omega
        rw [e1, show x + (y + 1) + 1 = x + 1 + (y + 1) by omega]
        exact this
      · have := key B A (y + 1) (x + 1) hab (by omega) b1 a1
        have e1 : k.toNat = 1 + A := by omega
        rw [e1, show x + (y + 1) + 1 = y + 1 + (x + 1) by omega]
        exact this

/-- A node passed on a way down: which side the way goes, what stands on the other. -/
structure Fr where
  g : Nat
  side : Bool
  e : Ky
  h : Int
  o : Bt
def Fr.plug (f : Fr) (t : Bt) : Bt := if f.side = true then .node f.g f.e f.h f.o t else .node f.g f.e f.h t f.o
/-- The whole tree about a place; the way is told from below. -/
def fillB : Bt → List Fr → Bt
  | t, [] => t
  | t, f :: c => fillB (f.plug t) c
def preC : List Fr → List Ky
  | [] => []
  | f :: c => preC c ++ (if f.side = true then f.o.list ++ [f.e] else [])
def postC : List Fr → List Ky
  | [] => []
  | f :: c => (if f.side = true then [] else f.e :: f.o.list) ++ postC c
def blocksC : List Fr → List Nat
  | [] => []
  | f :: c => f.g :: (f.o.blocks ++ blocksC c)
/-- The way back, made even. -/
def bkB : Bt → List Fr → Bt
  | t, [] => t.lvl
  | t, f :: c => bkB (f.plug t.lvl) c
/-- Each node on the way back can be made even. -/
def StepsB : Bt → List Fr → Prop
  | t, [] => t.Ready
  | t, f :: c => t.Ready ∧ StepsB (f.plug t.lvl) c
theorem plug_list (f : Fr) (t : Bt) : (f.plug t).list = (if f.side = true then f.o.list ++ [f.e] else []) ++ t.list ++ (if f.side = true then [] else f.e :: f.o.list) := by
  unfold Fr.plug
  split <;> simp [Bt.list]
theorem fill_list (t : Bt) (c : List Fr) : (fillB t c).list = preC c ++ t.list ++ postC c := by
  induction c generalizing t with
  | nil => simp [fillB, preC, postC]
  | cons f c ih => rw [fillB, ih, plug_list, preC, postC]; simp only [List.append_assoc]
theorem bk_list (t : Bt) (c : List Fr) : (bkB t c).list = preC c ++ t.list ++ postC c := by
  induction c generalizing t with
  | nil => simp [bkB, preC, postC, lvl_list]
  | cons f c ih => rw [bkB, ih, plug_list, preC, postC, lvl_list]; simp only [List.append_assoc]
theorem plug_blocks (f : Fr) (t : Bt) : (f.plug t).blocks.Perm (f.g :: (f.o.blocks ++ t.blocks)) := by
  unfold Fr.plug
  split
  · exact List.Perm.refl _
  · exact (List.perm_append_comm).cons _
theorem fill_blocks (t : Bt) (c : List Fr) : (fillB t c).blocks.Perm (t.blocks ++ blocksC c) := by
  induction c generalizing t with
  | nil => simp [fillB, blocksC]
  | cons f c ih =>
    refine (ih _).trans (((plug_blocks f t).append_right _).trans ?_)
    refine perm_count fun k => ?_
    simp only [blocksC, List.count_cons, List.count_append]
    ac_rfl
theorem bk_blocks (t : Bt) (c : List Fr) : (bkB t c).blocks.Perm (t.blocks ++ blocksC c) := by
  induction c generalizing t with
  | nil => simpa [bkB, blocksC] using lvl_blocks t
  | cons f c ih =>
    refine (ih _).trans (((plug_blocks f _).append_right _).trans ?_)
    refine ((((List.Perm.refl _).append (lvl_blocks t)).cons _).append_right _).trans ?_
    refine perm_count fun k => ?_
    simp only [blocksC, List.count_cons, List.count_append]
    ac_rfl
theorem plug_bal {f : Fr} {t : Bt} (h : (f.plug t).Bal) : t.Bal ∧ f.o.Bal ∧ f.h = 1 + max t.ht f.o.ht ∧ t.ht ≤ f.o.ht + 1 ∧ f.o.ht ≤ t.ht + 1 := by
  unfold Fr.plug at h
  split at h
  · obtain ⟨h1, h2, h3, h4, h5⟩ := h; exact ⟨h5, h4, by omega, h3, h2⟩
  · obtain ⟨h1, h2, h3, h4, h5⟩ := h; exact ⟨h4, h5, by omega, h2, h3⟩
theorem plug_ht (f : Fr) (t : Bt) : (f.plug t).ht = f.h := by unfold Fr.plug; split <;> rfl
theorem fill_bal {t : Bt} {c : List Fr} (h : (fillB t c).Bal) : t.Bal := by
  induction c generalizing t with
  | nil => exact h
  | cons f c ih => exact (plug_bal (ih h)).1
/-- Another tree as high stands there likewise. -/
theorem fill_swap {t t' : Bt} {c : List Fr} (h : (fillB t c).Bal) (h1 : t'.Bal) (h2 : t'.ht = t.ht) : (fillB t' c).Bal := by
  induction c generalizing t t' with
  | nil => exact h1
  | cons f c ih =>
    refine ih (t := f.plug t) (t' := f.plug t') h ?_ (by rw [plug_ht, plug_ht])
    obtain ⟨h3, h4, h5, h6, h7⟩ := plug_bal (fill_bal (c := c) h)
    unfold Fr.plug
    split
    · exact ⟨by omega, by omega, by omega, h4, h1⟩
    · exact ⟨by omega, by omega, by omega, h1, h4⟩
/-- A way has no more nodes than the tree is high. -/
theorem fill_len {t : Bt} {c : List Fr} (h : (fillB t c).Bal) : (c.length : Int) + t.ht ≤ (fillB t c).ht := by
  induction c generalizing t with
  | nil => simp [fillB]
  | cons f c ih =>
    have h1 := ih (t := f.plug t) h
    obtain ⟨h3, h4, h5, h6, h7⟩ := plug_bal (fill_bal (c := c) h)
    rw [plug_ht] at h1
    rw [List.length_cons]
    show _ ≤ (fillB (f.plug t) c).ht
    omega
/-- What stands at a place put anew, a little higher or lower: the way back makes all even. -/
theorem bk_ok {t0 t : Bt} {c : List Fr} (h0 : (fillB t0 c).Bal) (h : t.Ready) (h1 : t.lvl.ht ≤ t0.ht + 1) (h2 : t0.ht ≤ t.lvl.ht + 1) : StepsB t c ∧ (bkB t c).Bal := by
  induction c generalizing t0 t with
  | nil => exact ⟨h, lvl_bal h⟩
  | cons f c ih =>
    have hb := fill_bal (c := c) h0
    obtain ⟨h3, h4, h5, h6, h7⟩ := plug_bal hb
    have hl := lvl_bal h
    have hr : (f.plug t.lvl).Ready := by
      unfold Fr.plug
      split
      · exact ⟨h4, hl, by omega, by omega⟩
      · exact ⟨hl, h4, by omega, by omega⟩
    have hx : (f.plug t.lvl).lvl.ht ≤ (f.plug t0).ht + 1 ∧ (f.plug t0).ht ≤ (f.plug t.lvl).lvl.ht + 1 := by
      rw [plug_ht]
      unfold Fr.plug at hr ⊢
      split
      · rename_i hs
        rw [if_pos hs] at hr
        obtain ⟨_, q2, q3, q4⟩ := lvl_ok hr
        constructor
        · by_cases e : f.o.ht ≤ t.lvl.ht + 1 ∧ t.lvl.ht ≤ f.o.ht + 1
          · have := q4 e.1 e.2; omega
          · omega
        · by_cases e : f.o.ht ≤ t.lvl.ht + 1 ∧ t.lvl.ht ≤ f.o.ht + 1
          · have := q4 e.1 e.2; omega
          · omega
      · rename_i hs
        rw [if_neg hs] at hr
        obtain ⟨_, q2, q3, q4⟩ := lvl_ok hr
        constructor
        · by_cases e : t.lvl.ht ≤ f.o.ht + 1 ∧ f.o.ht ≤ t.lvl.ht + 1
          · have := q4 e.1 e.2; omega
          · omega
        · by_cases e : t.lvl.ht ≤ f.o.ht + 1 ∧ f.o.ht ≤ t.lvl.ht + 1
          · have := q4 e.1 e.2; omega
          · omega
    obtain ⟨k1, k2⟩ := ih h0 hr hx.1 hx.2
    exact ⟨⟨h, k1⟩, k2⟩
end Go.Proofs.YteklhipcojioaaaDoor

/-
  Where a key is in a tree, and in the list of its keys; what is beside it.
-/
namespace Go.Proofs.YteklhipcojioaaaDoor
open Go.RowKit Go.Deep Go.Maps Go.WideShapes

def ndsB (l : List Ky) : List Nd := l.map Ky.nd
theorem nds_len (l : List Ky) : (ndsB l).length = l.length := List.length_map _
theorem nds_app (a b : List Ky) : ndsB (a ++ b) = ndsB a ++ ndsB b := List.map_append
theorem nds_cons (a : Ky) (b : List Ky) : ndsB (a :: b) = a.nd :: ndsB b := rfl
theorem cmp_swap {T U : Tm} : T.cmp U = -(U.cmp T) := cmp_neg U T

theorem atN_app {A B : List Nd} {T : Tm} (h : ∀ a ∈ A, a.1.cmp T < 0) : atN (A ++ B) T = A.length + atN B T := by
  induction A with
  | nil => simp
  | cons a A ih =>
    rw [List.cons_append, atN, if_pos (h a (by simp)), ih (fun x hx => h x (by simp [hx])), List.length_cons]
    omega
theorem atN_here {x : Nd} {B : List Nd} {T : Tm} (h : ¬ x.1.cmp T < 0) : atN (x :: B) T = 0 := by rw [atN, if_neg h]
theorem isN_here {A B : List Nd} {x : Nd} {T : Tm} (h : ∀ a ∈ A, a.1.cmp T < 0) (hx : x.1.cmp T = 0) : atN (A ++ x :: B) T = A.length ∧ isN (A ++ x :: B) T = true := by
  have h1 : atN (A ++ x :: B) T = A.length := by rw [atN_app h, atN_here (by omega), Nat.add_zero]
  have h2 : A.length < (A ++ x :: B).length := by simp
  exact ⟨h1, by unfold isN; rw [h1, List.getElem?_eq_getElem h2]; simpa using hx⟩
theorem isN_none {A B : List Nd} {T : Tm} (h : ∀ a ∈ A, a.1.cmp T < 0) (hB : ∀ b ∈ B, 0 < b.1.cmp T) : atN (A ++ B) T = A.length ∧ isN (A ++ B) T = false := by
  cases B with
  | nil =>
    have h1 : atN (A ++ []) T = A.length := by rw [atN_app h]; rfl
    exact ⟨h1, by unfold isN; rw [h1, List.getElem?_eq_none (by simp)]⟩
  | cons x B =>
    have hx := hB x (by simp)
    have h1 : atN (A ++ x :: B) T = A.length := by rw [atN_app h, atN_here (by omega), Nat.add_zero]
    have h2 : A.length < (A ++ x :: B).length := by simp
    exact ⟨h1, by unfold isN; rw [h1, List.getElem?_eq_getElem h2]; simp; omega⟩
theorem numN_here (A B : List Nd) (x : Nd) : numN (A ++ x :: B) A.length = x.2 ∧ keyN (A ++ x :: B) A.length = x.1 := by
  have h2 : A.length < (A ++ x :: B).length := by simp
  unfold numN keyN
  rw [List.getElem?_eq_getElem h2]
  simp
theorem tell_here (A B : List Nd) (x : Nd) (i : Int) (hi : i = A.length) : tellN (A ++ x :: B) i = (x.1, x.2, true) := by
  subst hi
  unfold tellN
  obtain ⟨h1, h2⟩ := numN_here A B x
  rw [if_pos (by simp; omega), Int.toNat_natCast, h1, h2]
theorem tell_not (L : List Nd) (i : Int) (h : i < 0 ∨ (L.length : Int) ≤ i) : tellN L i = (zeroTm, 0, false) := by
  unfold tellN
  rw [if_neg (by omega)]
theorem putN_here {A B : List Nd} {x : Nd} {T : Tm} {n : Int} (h : ∀ a ∈ A, a.1.cmp T < 0) (hx : x.1.cmp T = 0) : putN (A ++ x :: B) T n = A ++ (x.1, n) :: B := by
  obtain ⟨h1, h2⟩ := isN_here (B := B) h hx
  unfold putN
  rw [if_pos h2, h1, (numN_here A B x).2, List.set_append_right _ _ (Nat.le_refl _), Nat.sub_self, List.set_cons_zero]
theorem putN_none {A B : List Nd} {T : Tm} {n : Int} (h : ∀ a ∈ A, a.1.cmp T < 0) (hB : ∀ b ∈ B, 0 < b.1.cmp T) : putN (A ++ B) T n = A ++ (T, n) :: B := by
  obtain ⟨h1, h2⟩ := isN_none h hB
  unfold putN
  rw [if_neg (by rw [h2]; decide), h1, List.take_left, List.drop_left]
theorem removeN_here {A B : List Nd} {x : Nd} {T : Tm} (h : ∀ a ∈ A, a.1.cmp T < 0) (hx : x.1.cmp T = 0) : removeN (A ++ x :: B) T = A ++ B := by
  obtain ⟨h1, h2⟩ := isN_here (B := B) h hx
  unfold removeN
  rw [if_pos h2, h1, List.take_left]
  congr 1
  rw [show A.length + 1 = A.length + 1 from rfl, ← List.drop_drop, List.drop_left]
  rfl
theorem removeN_none {L : List Nd} {T : Tm} (h : isN L T = false) : removeN L T = L := by
  unfold removeN
  rw [if_neg (by rw [h]; decide)]

/-- A place on the way to a key: all ahead of it are less, all behind are greater. -/
structure WayTo (c : List Fr) (T : Tm) : Prop where
  pre : ∀ e ∈ preC c, e.T.cmp T < 0
  post : ∀ e ∈ postC c, 0 < e.T.cmp T
theorem WayTo.top (T : Tm) : WayTo [] T := ⟨fun _ h => (by cases h), fun _ h => (by cases h)⟩
theorem rising_mid {A B C : List Ky} (h : RisingN (ndsB (A ++ B ++ C))) : RisingN (ndsB B) := by
  rw [nds_app, nds_app] at h
  exact (List.pairwise_append.1 (List.pairwise_append.1 h).1).2.1
theorem rising_node {g : Nat} {e : Ky} {h : Int} {l r : Bt} (hr : RisingN (ndsB (Bt.node g e h l r).list)) : (∀ x ∈ l.list, x.T.cmp e.T < 0) ∧ (∀ x ∈ r.list, e.T.cmp x.T < 0) := by
  simp only [Bt.list] at hr
  rw [nds_app, nds_cons] at hr
  obtain ⟨_, h2, h3⟩ := List.pairwise_append.1 hr
  obtain ⟨h4, _⟩ := List.pairwise_cons.1 h2
  exact ⟨fun x hx => h3 x.nd (List.mem_map_of_mem hx) e.nd (by simp), fun x hx => h4 x.nd (List.mem_map_of_mem hx)⟩
theorem fill_rising {t : Bt} {c : List Fr} (h : RisingN (ndsB (fillB t c).list)) : RisingN (ndsB t.list) := by
  rw [fill_list] at h
  exact rising_mid h
/-- A step down. -/
theorem WayTo.ahead {c : List Fr} {T : Tm} (hw : WayTo c T) {g : Nat} {e : Ky} {h : Int} {l r : Bt} (hr : RisingN (ndsB (Bt.node g e h l r).list)) (hc : T.cmp e.T < 0) : WayTo (⟨g, false, e, h, r⟩ :: c) T := by
  obtain ⟨h1, h2⟩ := rising_node hr
  refine ⟨fun x hx => hw.pre x (by simpa [preC] using hx), fun x hx => ?_⟩
  simp only [postC, Bool.false_eq_true, if_false, List.cons_append, List.mem_cons, List.mem_append] at hx
  rcases hx with rfl | hx | hx
  · have := cmp_neg T x.T; omega
  · have := nd_lt_le hc (Int.le_of_lt (h2 x hx)); have := cmp_neg T x.T; omega
  · exact hw.post x hx
theorem WayTo.behind {c : List Fr} {T : Tm} (hw : WayTo c T) {g : Nat} {e : Ky} {h : Int} {l r : Bt} (hr : RisingN (ndsB (Bt.node g e h l r).list)) (hc : 0 < T.cmp e.T) : WayTo (⟨g, true, e, h, l⟩ :: c) T := by
  obtain ⟨h1, h2⟩ := rising_node hr
  have hc' : e.T.cmp T < 0 := by have := cmp_neg T e.T; omega
  refine ⟨fun x hx => ?_, fun x hx => hw.post x (by simpa [postC] using hx)⟩
  simp only [preC, if_true, List.mem_append, List.mem_singleton] at hx
  rcases hx with hx | hx | rfl
  · exact hw.pre x hx
  · exact nd_lt_le (h1 x hx) (Int.le_of_lt hc')
  · exact hc'
theorem nds_lt {l : List Ky} {T : Tm} (h : ∀ e ∈ l, e.T.cmp T < 0) : ∀ a ∈ ndsB l, a.1.cmp T < 0 := fun a ha => by
  obtain ⟨e, he, rfl⟩ := List.mem_map.1 ha
  exact h e he
theorem nds_gt {l : List Ky} {T : Tm} (h : ∀ e ∈ l, 0 < e.T.cmp T) : ∀ a ∈ ndsB l, 0 < a.1.cmp T := fun a ha => by
  obtain ⟨e, he, rfl⟩ := List.mem_map.1 ha
  exact h e he
/-- A way that ends where nothing stands: the key is not there. -/
theorem WayTo.none {c : List Fr} {T : Tm} (hw : WayTo c T) : (ndsB (fillB .nil c).list) = ndsB (preC c) ++ ndsB (postC c) ∧ atN (ndsB (fillB .nil c).list) T = (preC c).length ∧ isN (ndsB (fillB .nil c).list) T = false := by
  have e : ndsB (fillB .nil c).list = ndsB (preC c) ++ ndsB (postC c) := by rw [fill_list, nds_app, nds_app]; simp [Bt.list, ndsB]
  obtain ⟨h1, h2⟩ := isN_none (nds_lt hw.pre) (nds_gt hw.post)
  rw [e]
  exact ⟨rfl, by rw [h1, nds_len], h2⟩
theorem WayTo.here {c : List Fr} {T : Tm} (hw : WayTo c T) {g : Nat} {e : Ky} {h : Int} {l r : Bt} (hr : RisingN (ndsB (Bt.node g e h l r).list)) (hc : T.cmp e.T = 0) :
    (ndsB (fillB (.node g e h l r) c).list) = ndsB (preC c ++ l.list) ++ e.nd :: ndsB (r.list ++ postC c) ∧ (∀ a ∈ ndsB (preC c ++ l.list), a.1.cmp T < 0) ∧ e.nd.1.cmp T = 0 := by
  obtain ⟨h1, h2⟩ := rising_node hr
  have e0 : e.T.cmp T = 0 := by have := cmp_neg T e.T; omega
  refine ⟨by rw [fill_list]; simp [Bt.list, nds_app, nds_cons], nds_lt fun x hx => ?_, e0⟩
  rcases List.mem_append.1 hx with hx | hx
  · exact hw.pre x hx
  · exact nd_lt_le (h1 x hx) (Int.le_of_eq e0)

/-- The first node on the way back that is passed on the other side. -/
def nearC (side : Bool) (c : List Fr) : Option Ky := (c.find? fun f => f.side == !side).map (·.e)
theorem near_behind (c : List Fr) : nearC true c = (postC c).head? := by
  induction c with
  | nil => rfl
  | cons f c ih =>
    unfold nearC at ih ⊢
    rw [List.find?_cons, postC]
    cases hs : f.side with
    | true => simpa using ih
    | false => simp
theorem near_ahead (c : List Fr) : nearC false c = (preC c).getLast? := by
  induction c with
  | nil => rfl
  | cons f c ih =>
    unfold nearC at ih ⊢
    rw [List.find?_cons, preC]
    cases hs : f.side with
    | true => simp
    | false => simpa using ih
/-- What is told of it. -/
def tellK (o : Option Ky) : Tm × Int × Bool := match o with
  | some e => (e.T, e.h.num, true)
  | none => (zeroTm, 0, false)
theorem tell_behind (c : List Fr) (i : Int) (hi : i = (preC c).length) : tellN (ndsB (preC c) ++ ndsB (postC c)) i = tellK (nearC true c) := by
  rw [near_behind]
  cases hp : postC c with
  | nil => rw [tell_not _ _ (Or.inr (by simp [ndsB]; omega))]; rfl
  | cons e r => rw [nds_cons, tell_here _ _ _ _ (by rw [nds_len]; exact hi)]; rfl
theorem tell_ahead (c : List Fr) (i : Int) (hi : i = (preC c).length - 1) : tellN (ndsB (preC c) ++ ndsB (postC c)) i = tellK (nearC false c) := by
  rw [near_ahead]
  rcases List.eq_nil_or_concat (preC c) with hp | ⟨r, e, hp⟩
  · rw [tell_not _ _ (Or.inl (by rw [hi, hp]; decide)), hp]; rfl
  · rw [List.concat_eq_append] at hp
    rw [hp, nds_app, List.append_assoc, nds_cons]
    rw [List.cons_append, tell_here _ _ _ _ (by rw [nds_len, hi, hp]; simp)]
    simp [tellK, Ky.nd]
/-- Further down, along one side, to where nothing stands. -/
def downB (side : Bool) : Bt → List Fr → List Fr
  | .nil, c => c
  | .node g e h l r, c => if side = true then downB side r (⟨g, true, e, h, l⟩ :: c) else downB side l (⟨g, false, e, h, r⟩ :: c)
theorem down_fill (side : Bool) (t : Bt) (c : List Fr) : fillB .nil (downB side t c) = fillB t c := by
  induction t generalizing c with
  | nil => rfl
  | node g e h l r il ir =>
    unfold downB
    split
    · rw [ir]; rfl
    · rw [il]; rfl
theorem down_pre (t : Bt) (c : List Fr) : preC (downB false t c) = preC c ∧ postC (downB true t c) = postC c := by
  induction t generalizing c with
  | nil => exact ⟨rfl, rfl⟩
  | node g e h l r il ir => exact ⟨by rw [downB, if_neg (by decide), (il _).1]; simp [preC], by rw [downB, if_pos rfl, (ir _).2]; simp [postC]⟩
theorem down_all (t : Bt) (c : List Fr) : preC (downB true t c) = preC c ++ t.list ∧ postC (downB false t c) = t.list ++ postC c := by
  induction t generalizing c with
  | nil => exact ⟨by simp [downB, Bt.list], rfl⟩
  | node g e h l r il ir => exact ⟨by rw [downB, if_pos rfl, (ir _).1]; simp [preC, Bt.list], by rw [downB, if_neg (by decide), (il _).2]; simp [postC, Bt.list]⟩
/-- The way to the empty place beside a node: to the side, and then along the other. -/
def besideB (side : Bool) (g : Nat) (e : Ky) (h : Int) (l r : Bt) (c : List Fr) : List Fr := if side = true then downB false r (⟨g, true, e, h, l⟩ :: c) else downB true l (⟨g, false, e, h, r⟩ :: c)
theorem beside_fill (side : Bool) (g : Nat) (e : Ky) (h : Int) (l r : Bt) (c : List Fr) : fillB .nil (besideB side g e h l r c) = fillB (.node g e h l r) c := by
  unfold besideB
  split <;> rw [down_fill] <;> rfl
theorem next_there {c : List Fr} {T : Tm} (hw : WayTo c T) {g : Nat} {e : Ky} {h : Int} {l r : Bt} (hr : RisingN (ndsB (Bt.node g e h l r).list)) (hc : T.cmp e.T = 0) :
    tellN (ndsB (fillB (.node g e h l r) c).list) ((nextN (ndsB (fillB (.node g e h l r) c).list) T : Nat)) = tellK (nearC true (besideB true g e h l r c)) := by
  obtain ⟨h1, h2, h3⟩ := hw.here hr hc
  obtain ⟨h4, h5⟩ := isN_here (B := ndsB (r.list ++ postC c)) h2 h3
  unfold nextN
  rw [h1, h5, if_pos rfl, h4]
  have e1 : preC (besideB true g e h l r c) = preC c ++ l.list ++ [e] := by
    unfold besideB
    rw [if_pos rfl, (down_pre _ _).1]
    simp [preC]
  have e2 : postC (besideB true g e h l r c) = r.list ++ postC c := by
    unfold besideB
    rw [if_pos rfl, (down_all _ _).2]
    simp [postC]
  rw [← tell_behind _ _ rfl, e1, e2]
  rw [nds_app (preC c ++ l.list) [e], List.append_assoc]
  simp [ndsB, Int.add_assoc]
theorem prev_there {c : List Fr} {T : Tm} (hw : WayTo c T) {g : Nat} {e : Ky} {h : Int} {l r : Bt} (hr : RisingN (ndsB (Bt.node g e h l r).list)) (hc : T.cmp e.T = 0) :
    tellN (ndsB (fillB (.node g e h l r) c).list) ((atN (ndsB (fillB (.node g e h l r) c).list) T : Int) - 1) = tellK (nearC false (besideB false g e h l r c)) := by
  obtain ⟨h1, h2, h3⟩ := hw.here hr hc
  obtain ⟨h4, h5⟩ := isN_here (B := ndsB (r.list ++ postC c)) h2 h3
  rw [h1, h4]
  have e1 : preC (besideB false g e h l r c) = preC c ++ l.list := by
    unfold besideB
    rw [if_neg (by decide), (down_all _ _).1]
    simp [preC]
  have e2 : postC (besideB false g e h l r c) = e :: (r.list ++ postC c) := by
    unfold besideB
    rw [if_neg (by decide), (down_pre _ _).2]
    simp [postC]
  rw [← tell_ahead _ _ rfl, e1, e2]
  simp [ndsB]
theorem next_none {c : List Fr} {T : Tm} (hw : WayTo c T) : tellN (ndsB (fillB .nil c).list) ((nextN (ndsB (fillB .nil c).list) T : Nat)) = tellK (nearC true c) := by
  obtain ⟨h1, h2, h3⟩ := hw.none
  unfold nextN
  rw [h3, if_neg (by decide), h2, h1]
  exact tell_behind _ _ rfl
theorem prev_none {c : List Fr} {T : Tm} (hw : WayTo c T) : tellN (ndsB (fillB .nil c).list) ((atN (ndsB (fillB .nil c).list) T : Int) - 1) = tellK (nearC false c) := by
  obtain ⟨h1, h2, h3⟩ := hw.none
  rw [h2, h1]
  exact tell_ahead _ _ rfl
theorem list_some {t : Bt} (h : t ≠ .nil) : t.list ≠ [] := by
  cases t with
  | nil => exact absurd rfl h
  | node g e h l r => simp [Bt.list]
/-- The end of a tree on a side. -/
def endB (side : Bool) (t : Bt) : Option Ky := if side = true then t.list.getLast? else t.list.head?
theorem end_first {g : Nat} {e : Ky} {h : Int} {r : Bt} : endB false (.node g e h .nil r) = some e := by simp [endB, Bt.list]
theorem end_last {g : Nat} {e : Ky} {h : Int} {l : Bt} : endB true (.node g e h l .nil) = some e := by simp [endB, Bt.list]
theorem end_left {g : Nat} {e : Ky} {h : Int} {l r : Bt} (hl : l ≠ .nil) : endB false (.node g e h l r) = endB false l := by
  have := list_some hl
  simp only [endB, Bt.list, Bool.false_eq_true, if_false, List.head?_append]
  cases hq : l.list with
  | nil => exact absurd hq this
  | cons a b => rfl
theorem end_right {g : Nat} {e : Ky} {h : Int} {l r : Bt} (hl : r ≠ .nil) : endB true (.node g e h l r) = endB true r := by
  have := list_some hl
  simp only [endB, Bt.list, if_true, List.getLast?_append]
  cases hq : r.list with
  | nil => exact absurd hq this
  | cons a b => simp [List.getLast?_cons]
theorem tell_first (t : Bt) : tellN (ndsB t.list) 0 = tellK (endB false t) := by
  unfold endB
  rw [if_neg (by decide)]
  cases hq : t.list with
  | nil => rw [tell_not _ _ (Or.inr (by simp [ndsB]))]; rfl
  | cons a b => exact tell_here [] _ _ 0 rfl
theorem tell_last (t : Bt) : tellN (ndsB t.list) ((ndsB t.list).length - 1) = tellK (endB true t) := by
  unfold endB
  rw [if_pos rfl]
  rcases List.eq_nil_or_concat t.list with hp | ⟨r, e, hp⟩
  · rw [tell_not _ _ (Or.inl (by rw [hp]; decide)), hp]; rfl
  · rw [List.concat_eq_append] at hp
    rw [hp, nds_app, nds_cons, tell_here _ _ _ _ (by simp [ndsB])]
    simp [tellK, Ky.nd]
end Go.Proofs.YteklhipcojioaaaDoor
