/-
  A region that draws its order, in which variables are laid anywhere between calls: one walk of the calls in their order serves, whatever blocks the variables get.
-/
import Derived.Test.YteklhipcojioaaaDoorZTermMore
import Derived.OrdersHeld
namespace Go.Proofs.YteklhipcojioaaaDoor
open Go.RowKit Go.Deep

/-- A variable that the region lays: the operation's number, its slot, what is laid. -/
structure Flo where
  i : Nat
  d : Tmp
  o : Obj

def putF (σ : Nat → Option Nat) (a : Act) (f : Flo) : Act := match σ f.i with
  | some b => a.put (some f.d) (.pointer (some ⟨b, 0, none⟩))
  | none => a
def putsF (σ : Nat → Option Nat) (fs : List Flo) (a : Act) : Act := fs.foldl (putF σ) a
def updF (σ : Nat → Option Nat) (i b : Nat) : Nat → Option Nat := fun k => if k = i then some b else σ k

theorem putF_put (σ : Nat → Option Nat) (a : Act) (f : Flo) {e : Option Tmp} (v : Value) (h : e ≠ some f.d) : putF σ (a.put e v) f = (putF σ a f).put e v := by
  unfold putF
  split
  · exact Act.put_comm a v _ (fun d hd hf => h (by rw [hd, hf]))
  · rfl
theorem putsF_put (σ : Nat → Option Nat) (fs : List Flo) {e : Option Tmp} (v : Value) (h : ∀ f ∈ fs, e ≠ some f.d) : ∀ a, putsF σ fs (a.put e v) = (putsF σ fs a).put e v := by
  induction fs with
  | nil => intro a; rfl
  | cons f fs ih =>
    intro a
    show putsF σ fs (putF σ (a.put e v) f) = _
    rw [putF_put σ a f v (h f List.mem_cons_self)]
    exact ih (fun g hg => h g (List.mem_cons_of_mem _ hg)) _
theorem putsF_same (σ σ' : Nat → Option Nat) (fs : List Flo) (h : ∀ f ∈ fs, σ f.i = σ' f.i) : ∀ a, putsF σ fs a = putsF σ' fs a := by
  induction fs with
  | nil => intro a; rfl
  | cons f fs ih =>
    intro a
    show putsF σ fs (putF σ a f) = putsF σ' fs (putF σ' a f)
    rw [ih (fun g hg => h g (List.mem_cons_of_mem _ hg))]
    unfold putF
    rw [h f List.mem_cons_self]
theorem putsF_set (σ : Nat → Option Nat) (f : Flo) (b : Nat) (hs : σ f.i = none) : ∀ (fs : List Flo) (a : Act), f ∈ fs → (fs.map (·.i)).Nodup → (fs.map (·.d)).Nodup →
    putsF (updF σ f.i b) fs a = (putsF σ fs a).put (some f.d) (.pointer (some ⟨b, 0, none⟩)) := by
  intro fs
  induction fs with
  | nil => intro a hf; cases hf
  | cons g fs ih =>
    intro a hf hi hd
    simp only [List.map_cons, List.nodup_cons] at hi hd
    show putsF (updF σ f.i b) fs (putF (updF σ f.i b) a g) = (putsF σ fs (putF σ a g)).put _ _
    rcases List.mem_cons.1 hf with rfl | hf'
    · have e1 : putF (updF σ f.i b) a f = a.put (some f.d) (.pointer (some ⟨b, 0, none⟩)) := by simp [putF, updF]
      have e2 : putF σ a f = a := by simp [putF, hs]
      rw [e1, e2, putsF_same (updF σ f.i b) σ fs (fun g hg => by
        have hne : g.i ≠ f.i := fun e => hi.1 (e ▸ List.mem_map_of_mem hg)
        simp [updF, hne])]
      exact putsF_put σ fs _ (fun g hg e => hd.1 (by rw [Option.some.inj e]; exact List.mem_map_of_mem hg)) a
    · have hne : g.i ≠ f.i := fun e => hi.1 (e ▸ List.mem_map_of_mem hf')
      have e1 : putF (updF σ f.i b) a g = putF σ a g := by simp [putF, updF, hne]
      rw [e1]
      exact ih _ hf' hi.2 hd.2

section
variable {P : Program} {md : Region.Mode} {ops : Array Oper} {Q : Exit → Act → World → Prop} {W : World}

theorem exec_putsF {σ : Nat → Option Nat} {o : Oper} (hs : ∀ cs b, o.op ≠ .select cs b) (fs : List Flo) (h : ∀ f ∈ fs, f.d ∉ o.looksAt ops) : ∀ a : Act,
    execOp (putsF σ fs a).eval o = execOp a.eval o ∧ Region.wanted o (yielded ops (putsF σ fs a).tmps) = Region.wanted o (yielded ops a.tmps) := by
  induction fs with
  | nil => intro a; exact ⟨rfl, rfl⟩
  | cons f fs ih =>
    intro a
    have h1 := ih (fun g hg => h g (List.mem_cons_of_mem _ hg)) (putF σ a f)
    have hd : ∀ d, some f.d = some d → d ∉ o.looksAt ops := fun d e => by cases e; exact h f List.mem_cons_self
    show execOp (putsF σ fs (putF σ a f)).eval o = _ ∧ Region.wanted o (yielded ops (putsF σ fs (putF σ a f)).tmps) = _
    rw [h1.1, h1.2]
    unfold putF
    split
    · exact ⟨execOp_put o hs a _ _ hd, wanted_put o a _ _ hd⟩
    · exact ⟨rfl, rfl⟩

/-- The calls, one behind the other; between them memory may have grown. 'Bad': the blocks that they made. -/
def seqX (P : Program) (ops : Array Oper) (K : Act → World → (Nat → Prop) → Prop) : List Nat → Act → World → (Nat → Prop) → Prop
  | [], a, w, Bad => K a w Bad
  | x :: r, a, w, Bad => ∃ o f args, ops[x]? = some o ∧ Region.wanted o (yielded ops a.tmps) = true ∧ (∀ w1, (execOp a.eval o).run P w1 = .ok (.enter f args) w1) ∧
      ∀ w1, Below w.heap.size w w1 → Calls P f args w1 fun e w' => ∃ v, e = .returned v ∧ Below w1.heap.size w1 w' ∧ seqX P ops K r (a.put o.dst v) w' (fun b => Bad b ∨ (w1.heap.size ≤ b ∧ b < w'.heap.size))

/-- The last operations, one behind the other. -/
def zrun (P : Program) (ops : Array Oper) (Q : Exit → Act → World → Prop) (W : World) : List Nat → Act → World → Prop
  | [], a, w => Q .normal a w
  | z :: r, a, w => wpOp P ops Q z (fun a' w' => Up W w' ∧ zrun P ops Q W r a' w') a w

/-- j waits for i. -/
def waits (md : Region.Mode) (ops : Array Oper) (j i : Nat) : Bool := ((ops[j]?).map fun o => o.after.any fun e => Region.binds md e && e.on == i).getD false
theorem waits_not {listed : Array Bool} {i j : Nat} (h : waits md ops j i = true) (hi : listed.getD i true = false) : j ∉ Region.ready md ops listed := by
  intro hr
  obtain ⟨_, o, ho, hall⟩ := mem_ready.1 hr
  simp only [waits, ho, Option.map_some, Option.getD_some, Array.any_eq_true', Bool.and_eq_true, beq_iff_eq] at h
  obtain ⟨e, he, hb, rfl⟩ := h
  have h1 := hall e he hb
  rw [Array.getD_eq_getD_getElem?] at h1 hi
  cases hc : listed[e.on]? with
  | none => rw [hc] at h1; simp at h1
  | some c => rw [hc] at h1 hi; simp at h1 hi; rw [hi] at h1; cases h1

def chainB (md : Region.Mode) (ops : Array Oper) : List Nat → Bool
  | x :: y :: r => waits md ops y x && chainB md ops (y :: r)
  | _ => true
theorem chain_tail {x : Nat} {r : List Nat} (h : chainB md ops (x :: r) = true) : chainB md ops r = true := by
  cases r with
  | nil => rfl
  | cons y r => simp only [chainB, Bool.and_eq_true] at h; exact h.2
theorem chain_waits : ∀ {r : List Nat} {x i : Nat}, chainB md ops (x :: r) = true → i ∈ r → ∃ p ∈ x :: r, waits md ops i p = true := by
  intro r
  induction r with
  | nil => intro x i _ hi; cases hi
  | cons y r ih =>
    intro x i h hi
    simp only [chainB, Bool.and_eq_true] at h
    rcases List.mem_cons.1 hi with rfl | hi
    · exact ⟨x, List.mem_cons_self, h.1⟩
    · obtain ⟨p, hp, hw⟩ := ih h.2 hi
      exact ⟨p, List.mem_cons_of_mem _ hp, hw⟩

/-- Every operation waits for earlier ones alone. -/
def lowB (ops : Array Oper) : Bool := (List.range ops.size).all fun j => ((ops[j]?).map fun o => o.after.all fun e => decide (e.on < j)).getD true
theorem low_all (hl : lowB ops = true) {listed : Array Bool} (hsz : listed.size = ops.size) (hr : Region.ready md ops listed = []) : ∀ j, listed.getD j true = true := by
  intro j
  induction j using Nat.strongRecOn with
  | _ j ih =>
    cases hc : listed.getD j true with
    | true => rfl
    | false =>
      have hj : j < ops.size := by
        rcases Nat.lt_or_ge j listed.size with h | h
        · omega
        · rw [Array.getD_eq_getD_getElem?, Array.getElem?_eq_none h] at hc; cases hc
      have ho : ops[j]? = some ops[j] := Array.getElem?_eq_getElem hj
      have : j ∈ Region.ready md ops listed := mem_ready.2 ⟨hc, ops[j], ho, fun e he _ => by
        have hlt : e.on < j := by
          have := List.all_eq_true.1 hl j (List.mem_range.2 hj)
          simp only [ho, Option.map_some, Option.getD_some, Array.all_eq_true', decide_eq_true_eq] at this
          exact this e he
        have := ih e.on hlt
        have hs : e.on < listed.size := by omega
        rw [Array.getD_eq_getD_getElem?, Array.getElem?_eq_getElem hs] at this ⊢
        exact this⟩
      rw [hr] at this
      cases this

theorem getD_set_iff {l : Array Bool} {i j : Nat} : (l.setIfInBounds i true).getD j true = false ↔ j ≠ i ∧ l.getD j true = false := by
  rw [Array.getD_eq_getD_getElem?, Array.getD_eq_getD_getElem?, Array.getElem?_setIfInBounds]
  by_cases h : i = j
  · subst h
    by_cases hs : i < l.size <;> simp [hs]
  · simp [h, Ne.symm h]

theorem wpOp_weak {i : Nat} {a : Act} {w : World} {K K' : Act → World → Prop} (h : ∀ a w, K a w → K' a w) (hh : wpOp P ops Q i K a w) : wpOp P ops Q i K' a w := wpOp_mono h hh

theorem zrun_any (hl : lowB ops = true) : ∀ (zs : List Nat) (fuel : Nat) (listed : Array Bool) (a : Act) (w : World), zs.length ≤ fuel → listed.size = ops.size → (∀ j, listed.getD j true = false ↔ j ∈ zs) →
    chainB md ops zs = true → zs.Nodup → zrun P ops Q W zs a w → wpAnyH P md ops Q (Up W) fuel listed a w := by
  intro zs
  induction zs with
  | nil =>
    intro fuel listed a w _ hsz hu _ _ hz
    have hr : Region.ready md ops listed = [] := List.eq_nil_iff_forall_not_mem.2 fun j hj => by have := (hu j).1 (mem_ready.1 hj).1; cases this
    exact wpAnyH_done hr hz fuel
  | cons z r ih =>
    intro fuel listed a w hf hsz hu hc hnd hz
    obtain ⟨fuel, rfl⟩ : ∃ n, fuel = n + 1 := ⟨fuel - 1, by simp at hf; omega⟩
    refine ⟨fun hr => ?_, fun i hi => ?_⟩
    · have h1 := low_all hl hsz hr z
      rw [(hu z).2 List.mem_cons_self] at h1
      cases h1
    · have hm := (hu i).1 (mem_ready.1 hi).1
      obtain rfl : i = z := by
        rcases List.mem_cons.1 hm with h | h
        · exact h
        · obtain ⟨p, hp, hw⟩ := chain_waits hc h
          exact absurd hi (waits_not hw ((hu p).2 hp))
      refine wpOp_weak (fun a' w' h => ⟨h.1, ih fuel _ a' w' (by simpa using hf) (by simpa using hsz) (fun j => ?_) (chain_tail hc) (List.nodup_cons.1 hnd).2 h.2⟩) hz
      rw [getD_set_iff, hu j, List.mem_cons]
      have := (List.nodup_cons.1 hnd).1
      constructor
      · rintro ⟨h1, h2 | h2⟩
        · exact absurd h2 h1
        · exact h2
      · intro h; exact ⟨fun e => this (e ▸ h), Or.inr h⟩

/-- What is asked of a variable's operation. -/
def FloRuns (P : Program) (ops : Array Oper) (f : Flo) : Prop :=
  ∃ o, ops[f.i]? = some o ∧ o.dst = some f.d ∧ o.guard = none ∧ ∀ (ev : Operand → Value) (w : World), (execOp ev o).run P w = .ok (.value (.pointer (some ⟨w.heap.size, 0, none⟩))) (w.alloc f.o)

/-- No call looks at a variable that the region lays, or writes its slot. -/
def apartB (ops : Array Oper) (xs : List Nat) (ds : List Tmp) : Bool := xs.all fun x => ((ops[x]?).map fun o => ds.all fun d => !(o.looksAt ops).contains d && o.dst != some d).getD false
theorem apartB_spec {xs : List Nat} {ds : List Tmp} (h : apartB ops xs ds = true) {x : Nat} (hx : x ∈ xs) {o : Oper} (ho : ops[x]? = some o) {d : Tmp} (hd : d ∈ ds) : d ∉ o.looksAt ops ∧ o.dst ≠ some d := by
  have h1 := List.all_eq_true.1 h x hx
  simp only [ho, Option.map_some, Option.getD_some, List.all_eq_true, Bool.and_eq_true, Bool.not_eq_true', bne_iff_ne] at h1
  have := h1 d hd
  exact ⟨by simpa using this.1, this.2⟩

/-- The demand at the end: whatever distinct new blocks the variables have. -/
def endK (P : Program) (ops : Array Oper) (Q : Exit → Act → World → Prop) (W : World) (fs : List Flo) (zs : List Nat) (a : Act) (w : World) (Bad : Nat → Prop) : Prop :=
  ∀ (bs : Nat → Nat) (w1 : World), Below w.heap.size w w1 → (∀ f ∈ fs, W.heap.size ≤ bs f.i ∧ ¬ Bad (bs f.i) ∧ w1.heap[bs f.i]? = some f.o) → (fs.map fun f => bs f.i).Nodup →
    zrun P ops Q W zs (putsF (fun k => some (bs k)) fs a) w1

theorem floats_go (hsel : Region.noSelect ops = true) (hl : lowB ops = true) {fs : List Flo} {zs : List Nat} (hfs : ∀ f ∈ fs, FloRuns P ops f) (hfi : (fs.map (·.i)).Nodup) (hfd : (fs.map (·.d)).Nodup)
    (hzc : chainB md ops zs = true) (hzn : zs.Nodup) (hza : ∀ z, zs.head? = some z → ∀ f ∈ fs, waits md ops z f.i = true) (hzf : ∀ z ∈ zs, ∀ f ∈ fs, f.i ≠ z) :
    ∀ (fuel : Nat) (xs : List Nat) (und : List Flo) (σ : Nat → Option Nat) (a0 : Act) (w0 : World) (Bad : Nat → Prop) (listed : Array Bool) (w : World),
      xs.length + und.length + zs.length ≤ fuel → listed.size = ops.size → (∀ f, f ∈ und ↔ f ∈ fs ∧ σ f.i = none) →
      (∀ j, listed.getD j true = false ↔ j ∈ xs ∨ (∃ f ∈ und, f.i = j) ∨ j ∈ zs) → chainB md ops xs = true → xs.Nodup → apartB ops xs (fs.map (·.d)) = true →
      (∀ x ∈ xs, x ∉ zs ∧ ∀ f ∈ fs, f.i ≠ x) →
      (∀ z, zs.head? = some z → ∀ x, xs.getLast? = some x → waits md ops z x = true) → Up W w → Below w0.heap.size w0 w → (∀ b, Bad b → b < w.heap.size) →
      (∀ f ∈ fs, ∀ b, σ f.i = some b → W.heap.size ≤ b ∧ ¬ Bad b ∧ w.heap[b]? = some f.o) → (∀ f ∈ fs, ∀ g ∈ fs, ∀ b, σ f.i = some b → σ g.i = some b → f.i = g.i) →
      seqX P ops (endK P ops Q W fs zs) xs a0 w0 Bad → wpAnyH P md ops Q (Up W) fuel listed (putsF σ fs a0) w := by
  intro fuel
  induction fuel with
  | zero =>
    intro xs und σ a0 w0 Bad listed w hf hsz hund hu hxc hxn hxa hxz hlast hup hb0 hbad hσ hσd hX
    obtain ⟨rfl, rfl, rfl⟩ : xs = [] ∧ und = [] ∧ zs = [] := ⟨List.length_eq_zero_iff.1 (by omega), List.length_eq_zero_iff.1 (by omega), List.length_eq_zero_iff.1 (by omega)⟩
    have hr : Region.ready md ops listed = [] := List.eq_nil_iff_forall_not_mem.2 fun j hj => by
      rcases (hu j).1 (mem_ready.1 hj).1 with h | ⟨_, h, _⟩ | h <;> cases h
    have hsome : ∀ f ∈ fs, ∃ b, σ f.i = some b := fun f hf => by
      cases hc : σ f.i with
      | none => have := (hund f).2 ⟨hf, hc⟩; cases this
      | some b => exact ⟨b, rfl⟩
    have := hX (fun k => (σ k).getD 0) w hb0 (fun f hf => by obtain ⟨b, hb⟩ := hsome f hf; rw [hb]; exact hσ f hf b hb) (by
      rw [List.Nodup, List.pairwise_map] at hfi ⊢
      refine List.Pairwise.imp_of_mem (fun {f g} hf hg hne e => ?_) hfi
      obtain ⟨b, hb⟩ := hsome f hf
      obtain ⟨c, hc⟩ := hsome g hg
      rw [hb, hc] at e
      have e' : b = c := e
      subst e'
      exact hne (hσd f hf g hg b hb hc))
    rw [putsF_same _ σ fs (fun f hf => by obtain ⟨b, hb⟩ := hsome f hf; rw [hb]; rfl)] at this
    exact ⟨hr, this⟩
  | succ fuel ih =>
    intro xs und σ a0 w0 Bad listed w hf hsz hund hu hxc hxn hxa hxz hlast hup hb0 hbad hσ hσd hX
    by_cases hxu : xs = [] ∧ und = []
    · obtain ⟨rfl, rfl⟩ := hxu
      have hsome : ∀ f ∈ fs, ∃ b, σ f.i = some b := fun f hf => by
        cases hc : σ f.i with
        | none => have := (hund f).2 ⟨hf, hc⟩; cases this
        | some b => exact ⟨b, rfl⟩
      have := hX (fun k => (σ k).getD 0) w hb0 (fun f hf => by obtain ⟨b, hb⟩ := hsome f hf; rw [hb]; exact hσ f hf b hb) (by
        rw [List.Nodup, List.pairwise_map] at hfi ⊢
        refine List.Pairwise.imp_of_mem (fun {f g} hf hg hne e => ?_) hfi
        obtain ⟨b, hb⟩ := hsome f hf
        obtain ⟨c, hc⟩ := hsome g hg
        rw [hb, hc] at e
        have e' : b = c := e
        subst e'
        exact hne (hσd f hf g hg b hb hc))
      rw [putsF_same _ σ fs (fun f hf => by obtain ⟨b, hb⟩ := hsome f hf; rw [hb]; rfl)] at this
      exact zrun_any hl zs _ listed _ w (by simpa using hf) hsz (fun j => by rw [hu j]; simp) hzc hzn this
    refine ⟨fun hr => ?_, fun i hi => ?_⟩
    · exfalso
      apply hxu
      have h1 := low_all (md := md) hl hsz hr
      refine ⟨List.eq_nil_iff_forall_not_mem.2 fun x hx => ?_, List.eq_nil_iff_forall_not_mem.2 fun f hf => ?_⟩
      · have := (hu x).2 (Or.inl hx); rw [h1 x] at this; cases this
      · have := (hu f.i).2 (Or.inr (Or.inl ⟨f, hf, rfl⟩)); rw [h1 f.i] at this; cases this
    have hun := (mem_ready.1 hi).1
    rcases (hu i).1 hun with hx | ⟨f, hfu, rfl⟩ | hz
    · -- a call
      cases xs with
      | nil => cases hx
      | cons x r =>
        obtain rfl : i = x := by
          rcases List.mem_cons.1 hx with h | h
          · exact h
          · obtain ⟨p, hp, hw⟩ := chain_waits hxc h
            exact absurd hi (waits_not hw ((hu p).2 (Or.inl hp)))
        obtain ⟨o, f, args, ho, hwant, hex, hcall⟩ := hX
        have hap : ∀ g ∈ fs, g.d ∉ o.looksAt ops ∧ o.dst ≠ some g.d := fun g hg => apartB_spec hxa List.mem_cons_self ho (List.mem_map_of_mem hg)
        have hp := exec_putsF (ops := ops) (σ := σ) (Region.noSelect_spec hsel i o · · ho) fs (fun g hg => (hap g hg).1) a0
        unfold wpOp
        simp only [ho]
        rw [hp.2, if_pos hwant]
        refine .inl ?_
        unfold Oper.wp
        rw [hp.1, hex w]
        simp only [Oper.upon]
        refine (hcall w hb0).mono fun e w' ⟨v, he, hb, hS⟩ => ?_
        subst he
        refine ⟨hup.call hb, ?_⟩
        have hnd := List.nodup_cons.1 hxn
        have := ih r und σ (a0.put o.dst v) w' (fun b => Bad b ∨ (w.heap.size ≤ b ∧ b < w'.heap.size)) (listed.setIfInBounds i true) w' (by simp at hf; omega) (by simpa using hsz) hund (fun j => by
            rw [getD_set_iff, hu j]
            constructor
            · rintro ⟨h1, h2 | h2 | h2⟩
              · exact Or.inl ((List.mem_cons.1 h2).resolve_left h1)
              · exact Or.inr (Or.inl h2)
              · exact Or.inr (Or.inr h2)
            · rintro (h | ⟨g, hg, rfl⟩ | h)
              · exact ⟨fun e => hnd.1 (e ▸ h), Or.inl (List.mem_cons_of_mem _ h)⟩
              · exact ⟨(hxz i List.mem_cons_self).2 g ((hund g).1 hg).1, Or.inr (Or.inl ⟨g, hg, rfl⟩)⟩
              · exact ⟨fun e => (hxz i List.mem_cons_self).1 (e ▸ h), Or.inr (Or.inr h)⟩) (chain_tail hxc) hnd.2 (by
            rw [apartB, List.all_cons, Bool.and_eq_true] at hxa
            exact hxa.2) (fun x hx => hxz x (List.mem_cons_of_mem _ hx)) (fun z hz x hx => hlast z hz x (by
            cases r with
            | nil => cases hx
            | cons y r => rw [List.getLast?_cons_cons]; exact hx)) (hup.call hb) (Below.refl _ _) (fun b hb' => by
            rcases hb' with h | h
            · have := hbad b h; have := hb.size; omega
            · exact h.2) (fun g hg b hgb => by
            obtain ⟨h1, h2, h3⟩ := hσ g hg b hgb
            have hlt : b < w.heap.size := (Array.getElem?_eq_some_iff.1 h3).1
            exact ⟨h1, fun h => by rcases h with h | h
                                   · exact h2 h
                                   · omega, (hb.block b hlt).trans h3⟩) hσd hS
        rw [putsF_put σ fs v (fun g hg => (hap g hg).2)] at this
        exact this
    · -- a variable
      obtain ⟨hff, hsn⟩ := (hund f).1 hfu
      obtain ⟨o, ho, hdst, hg, hex⟩ := hfs f hff
      unfold wpOp
      simp only [ho]
      rw [if_pos (by simp [Region.wanted, hg])]
      refine .inl ?_
      unfold Oper.wp
      rw [hex]
      simp only [Oper.upon]
      refine ⟨hup.alloc, ?_⟩
      rw [hdst, ← putsF_set σ f w.heap.size hsn fs a0 hff hfi hfd]
      have hinj : ∀ g ∈ fs, g.i = f.i → g = f := fun g hg e => by
        have := (List.pairwise_map.1 hfi)
        by_cases hgf : g = f
        · exact hgf
        · exact absurd e (by
            have hpw := List.pairwise_iff_getElem.1 this
            obtain ⟨p, hp, rfl⟩ := List.getElem_of_mem hg
            obtain ⟨q, hq, hqe⟩ := List.getElem_of_mem hff
            intro e
            rcases Nat.lt_trichotomy p q with h | h | h
            · exact hpw p q hp hq h (by rw [hqe]; exact e)
            · subst h; exact hgf hqe
            · exact hpw q p hq hp h (by rw [hqe]; exact e.symm))
      refine ih xs (und.filter (fun g => decide (g.i ≠ f.i))) (updF σ f.i w.heap.size) a0 w0 Bad (listed.setIfInBounds f.i true) (w.alloc f.o) ?_ (by simpa using hsz) (fun g => ?_) (fun j => ?_) hxc hxn hxa hxz hlast hup.alloc (hb0.trans ((Below.refl _ _).alloc (hb0.size) _)) (fun b hb => by have := hbad b hb; simp; omega) ?_ ?_ hX
      · have : (und.filter (fun g => decide (g.i ≠ f.i))).length < und.length := List.length_filter_lt_length_iff_exists.2 ⟨f, hfu, by simp⟩
        omega
      · rw [List.mem_filter, hund g]
        simp only [updF, decide_eq_true_eq]
        constructor
        · rintro ⟨⟨h1, h2⟩, h3⟩; exact ⟨h1, by rw [if_neg h3]; exact h2⟩
        · rintro ⟨h1, h2⟩
          by_cases h3 : g.i = f.i
          · rw [if_pos h3] at h2; cases h2
          · rw [if_neg h3] at h2; exact ⟨⟨h1, h2⟩, h3⟩
      · rw [getD_set_iff, hu j]
        constructor
        · rintro ⟨h1, h2 | ⟨g, hg, rfl⟩ | h2⟩
          · exact Or.inl h2
          · exact Or.inr (Or.inl ⟨g, List.mem_filter.2 ⟨hg, by simpa using h1⟩, rfl⟩)
          · exact Or.inr (Or.inr h2)
        · rintro (h | ⟨g, hg, rfl⟩ | h)
          · exact ⟨fun e => (hxz j h).2 f hff e.symm, Or.inl h⟩
          · have := List.mem_filter.1 hg
            exact ⟨by simpa using this.2, Or.inr (Or.inl ⟨g, this.1, rfl⟩)⟩
          · exact ⟨fun e => hzf j h f hff e.symm, Or.inr (Or.inr h)⟩
      · intro g hg b hgb
        by_cases e : g.i = f.i
        · obtain rfl := hinj g hg e
          simp only [updF, if_true] at hgb
          obtain rfl := Option.some.inj hgb
          exact ⟨hup.out.size, fun h => by have := hbad _ h; omega, heap_alloc_new w _⟩
        · simp only [updF, if_neg e] at hgb
          obtain ⟨h1, h2, h3⟩ := hσ g hg b hgb
          exact ⟨h1, h2, (Below.heap_alloc _ _ _ (Array.getElem?_eq_some_iff.1 h3).1).trans h3⟩
      · intro g hg k hk b hgb hkb
        by_cases e1 : g.i = f.i
        · by_cases e2 : k.i = f.i
          · rw [e1, e2]
          · simp only [updF, if_pos e1] at hgb
            simp only [updF, if_neg e2] at hkb
            obtain rfl := Option.some.inj hgb
            have := (Array.getElem?_eq_some_iff.1 (hσ k hk _ hkb).2.2).1
            omega
        · by_cases e2 : k.i = f.i
          · simp only [updF, if_neg e1] at hgb
            simp only [updF, if_pos e2] at hkb
            obtain rfl := Option.some.inj hkb
            have := (Array.getElem?_eq_some_iff.1 (hσ g hg _ hgb).2.2).1
            omega
          · simp only [updF, if_neg e1] at hgb
            simp only [updF, if_neg e2] at hkb
            exact hσd g hg k hk b hgb hkb
    · -- one of the last: it waits for all that is left
      exfalso
      obtain ⟨z, r, rfl⟩ : ∃ z r, zs = z :: r := by
        cases zs with
        | nil => cases hz
        | cons z r => exact ⟨z, r, rfl⟩
      obtain rfl : i = z := by
        rcases List.mem_cons.1 hz with h | h
        · exact h
        · obtain ⟨p, hp, hw⟩ := chain_waits hzc h
          exact absurd hi (waits_not hw ((hu p).2 (Or.inr (Or.inr hp))))
      apply hxu
      refine ⟨?_, List.eq_nil_iff_forall_not_mem.2 fun f hf => waits_not (hza i rfl f ((hund f).1 hf).1) ((hu f.i).2 (Or.inr (Or.inl ⟨f, hf, rfl⟩))) hi⟩
      cases hg : xs.getLast? with
      | none => exact List.getLast?_eq_none_iff.1 hg
      | some x => exact absurd hi (waits_not (hlast i rfl x hg) ((hu x).2 (Or.inl (List.mem_of_getLast? hg))))

theorem zrun_step {z : Nat} {r : List Nat} {a : Act} {w w' : World} {o : Oper} (ho : ops[z]? = some o) (hw : Region.wanted o (yielded ops a.tmps) = true) (hex : (execOp a.eval o).run P w = .ok .skip w') (hup : Up W w')
    (hn : zrun P ops Q W r (a.put o.dst undef) w') : zrun P ops Q W (z :: r) a w := by
  unfold zrun wpOp
  simp only [ho]
  rw [if_pos hw]
  refine .inl ?_
  unfold Oper.wp
  rw [hex]
  exact ⟨hup, hn⟩

/-- All that a program can see of such a region. -/
def floatsB (md : Region.Mode) (ops : Array Oper) (listed : Array Bool) (fuel : Nat) (xs is ds zs : List Nat) : Bool :=
  Region.noSelect ops && lowB ops && decide is.Nodup && decide ds.Nodup && chainB md ops zs && decide zs.Nodup && (zs.head?.all fun z => is.all fun i => waits md ops z i) && (zs.all fun z => !is.contains z) &&
  decide (xs.length + is.length + zs.length ≤ fuel) && decide (listed.size = ops.size) && ((List.range ops.size).all fun j => (!listed.getD j true) == (xs.contains j || is.contains j || zs.contains j)) &&
  ((xs ++ is ++ zs).all fun j => decide (j < ops.size)) && chainB md ops xs && decide xs.Nodup && apartB ops xs ds && (xs.all fun x => !zs.contains x && !is.contains x) && (zs.head?.all fun z => xs.getLast?.all fun x => waits md ops z x)

theorem wpAnyH_floats {fuel : Nat} {listed : Array Bool} {a : Act} {w : World} (xs zs : List Nat) (fs : List Flo) (hB : floatsB md ops listed fuel xs (fs.map (·.i)) (fs.map (·.d)) zs = true)
    (hfs : ∀ f ∈ fs, FloRuns P ops f) (hup : Up W w) (hX : seqX P ops (endK P ops Q W fs zs) xs a w (fun _ => False)) : wpAnyH P md ops Q (Up W) fuel listed a w := by
  simp only [floatsB, Bool.and_eq_true, decide_eq_true_eq, List.all_eq_true, Option.all_eq_true, Bool.not_eq_true', beq_iff_eq] at hB
  obtain ⟨⟨⟨⟨⟨⟨⟨⟨⟨⟨⟨⟨⟨⟨⟨⟨h1, h2⟩, h3⟩, h4⟩, h5⟩, h6⟩, h7⟩, h8⟩, h9⟩, h10⟩, h11⟩, h12⟩, h13⟩, h14⟩, h15⟩, h16⟩, h17⟩ := hB
  have e0 : putsF (fun _ => none) fs a = a := by
    clear hX hfs h3 h4 h7 h8 h9 h11 h12 h15 h16
    induction fs with
    | nil => rfl
    | cons f fs ih => exact ih
  have := floats_go (md := md) (Q := Q) (W := W) h1 h2 hfs h3 h4 h5 h6 (fun z hz f hf => h7 z hz f.i (List.mem_map_of_mem hf)) (fun z hz f hf e => by
      have := h8 z hz
      rw [List.contains_eq_mem, decide_eq_false_iff_not] at this
      exact this (e ▸ List.mem_map_of_mem hf)) fuel xs fs (fun _ => none) a w (fun _ => False) listed w (by simpa using h9) h10 (fun f => by simp) (fun j => ?_) h13 h14 h15 (fun x hx => by
      have := h16 x hx
      simp only [List.contains_eq_mem, decide_eq_false_iff_not] at this
      exact ⟨this.1, fun f hf e => this.2 (e ▸ List.mem_map_of_mem hf)⟩) (fun z hz x hx => h17 z hz x hx) hup (Below.refl _ _) (fun _ h => h.elim) (fun _ _ _ h => by cases h) (fun _ _ _ _ _ h => by cases h) hX
  · rwa [e0] at this
  · rcases Nat.lt_or_ge j ops.size with hj | hj
    · have := h11 j (List.mem_range.2 hj)
      have e : listed.getD j true = false ↔ (!listed.getD j true) = true := by cases listed.getD j true <;> simp
      rw [e, this]
      simp only [Bool.or_eq_true, List.contains_eq_mem, decide_eq_true_eq, List.mem_map]
      constructor
      · rintro ((h | h) | h)
        · exact Or.inl h
        · exact Or.inr (Or.inl h)
        · exact Or.inr (Or.inr h)
      · rintro (h | h | h)
        · exact Or.inl (Or.inl h)
        · exact Or.inl (Or.inr h)
        · exact Or.inr h
    · constructor
      · intro h
        rw [Array.getD_eq_getD_getElem?, Array.getElem?_eq_none (by omega)] at h
        cases h
      · intro h
        exfalso
        have hm : j ∈ xs ++ fs.map (·.i) ++ zs := by
          simp only [List.mem_append, List.mem_map]
          rcases h with h | h | h
          · exact Or.inl (Or.inl h)
          · exact Or.inl (Or.inr h)
          · exact Or.inr h
        have := h12 j hm
        omega
end

/-- A variable that holds a term, as it is laid. -/
abbrev zeroTerm : Obj := .cells #[.int .i64 0, .int .i64 0, .string ⟨#[]⟩, .slice none 0 0] 32
theorem alloc_term (ev : Operand → Value) (d : Option Tmp) (ty : TypeId) (p : String) (af : Array Edge) (g : Option (Nat × Bool)) (w : World) :
    (execOp ev ⟨d, .alloc 32, ty, p, af, g⟩).run Tryd.prog w = .ok (.value (.pointer (some ⟨w.heap.size, 0, none⟩))) (w.alloc zeroTerm) := by
  kernel_rfl
theorem flo_term {ops : Array Oper} {i d : Nat} {ty : TypeId} {p : String} {af : Array Edge} (h : ops[i]? = some ⟨some d, .alloc 32, ty, p, af, none⟩) : FloRuns Tryd.prog ops ⟨i, d, zeroTerm⟩ :=
  ⟨_, h, rfl, rfl, fun ev w => alloc_term ev _ _ _ _ _ w⟩

end Go.Proofs.YteklhipcojioaaaDoor
