/-
  HeapKnown returns true.
-/
import Derived.Test.YtaiiicmldogjoaaDoorZHeapQ
namespace Go.Proofs.YtaiiicmldogjoaaDoor
open Go.RowKit Go.Deep Go.Maps Go.WideShapes

def consR : Tm := conses [rowT] .nil
def fourT : Tm := .tup [.num 1, .num 2, .num 3, .num 4]
def twoT : Tm := .tup [rowT, rowT]
def consX : List Int := [42, 17, 33, 7, 8]
def consK : List Int := rowK ++ kbox 9 2
def twoX : List Int := [42, 17, 33, 42, 7, 7]
def twoK : List Int := rowK ++ kbox 7 3
theorem den_eq {L : List ByteArray} {xs ks xs' ks' : List Int} {T : Tm} {x x' : Int} (h : Den L xs ks T x) (e1 : xs = xs') (e2 : ks = ks') (e3 : x = x') : Den L xs' ks' T x' := e1 ▸ e2 ▸ e3 ▸ h
theorem has1 : ¬ hasL 1 = true := by rw [show hasL 1 = false from by kernel_rfl]; exact Bool.false_ne_true
theorem has8 : ¬ hasL 8 = true := by rw [show hasL 8 = false from by kernel_rfl]; exact Bool.false_ne_true
theorem consR_den : Den [] consX consK consR 57 := by
  rw [consR, conses, List.foldr_cons, List.foldr_nil, den_mk, if_pos (by kernel_rfl)]
  refine ⟨by kernel_rfl, 3, [7, 8], by kernel_rfl, by omega, ⟨by kernel_rfl, by kernel_rfl, by kernel_rfl, [], by kernel_rfl⟩, ?_⟩
  have h : Den [] consX consK rowT 7 := den_rowT (by decide) [7, 8] (kbox 9 2)
  refine dens_cons.2 ⟨7, [8], rfl, h, dens_cons.2 ⟨8, [], rfl, ?_, dens_nil.2 rfl⟩⟩
  rw [Tm.nil, den_mk]
  exact ⟨by kernel_rfl, by rw [if_neg has8, if_neg (by decide)]; kernel_rfl⟩
theorem num1_den : Den [] twoX twoK (.num 1) 17 := by
  rw [Tm.num, den_mk]
  exact ⟨by kernel_rfl, by rw [if_neg has1, if_neg (by decide)]; kernel_rfl⟩
theorem twoT_den : Den [] twoX twoK twoT 55 := by
  rw [twoT, Tm.tup, den_mk, if_pos (by kernel_rfl)]
  refine ⟨by kernel_rfl, 3, [7, 7], by kernel_rfl, by omega, ⟨by kernel_rfl, by kernel_rfl, by kernel_rfl, [], by kernel_rfl⟩, ?_⟩
  have h : Den [] twoX twoK rowT 7 := den_rowT (by decide) [42, 7, 7] (kbox 7 3)
  exact dens_cons.2 ⟨7, [7], rfl, h, dens_cons.2 ⟨7, [], rfl, h, dens_nil.2 rfl⟩⟩
theorem row_only {y : Int} (h : Den [] twoX twoK rowT y) : y = 7 := by
  rw [rowT, Tm.tup, den_mk, if_pos (by kernel_rfl)] at h
  obtain ⟨_, p, ys, rfl, hp, hb, hd⟩ := h
  obtain ⟨a, z, rfl, h1, hd⟩ := dens_cons.1 hd
  obtain ⟨b, z', rfl, h2, hd⟩ := dens_cons.1 hd
  obtain rfl := dens_nil.1 hd
  rw [Tm.num, den_mk, if_neg has1, if_neg (by decide)] at h1
  obtain ⟨_, rfl⟩ := h1
  obtain ⟨rest, e⟩ := hb.at_
  have h17 : Wd.packW 1 1 = 17 := by kernel_rfl
  rw [h17] at e
  have h70 : Wd.packW 7 ((0 : Nat) : Int) = 7 := by kernel_rfl
  have e1 := congrArg (·[1]?) e
  rw [List.getElem?_drop] at e1
  have e2 : twoX[p + 1]? = some 17 := e1.trans rfl
  rcases p with _ | _ | _ | _ | _ | p
  · exact h70
  · simp [twoX] at e2
  · simp [twoX] at e2
  · simp [twoX] at e2
  · simp [twoX] at e2
  · simp [twoX] at e2
theorem two_only {ys : List Int} (h : Dens [] twoX twoK [rowT, rowT] ys) : ys = [7, 7] := by
  obtain ⟨a, z, rfl, h1, hd⟩ := dens_cons.1 h
  obtain ⟨b, z', rfl, h2, hd⟩ := dens_cons.1 hd
  obtain rfl := dens_nil.1 hd
  rw [row_only h1, row_only h2]
theorem back_scd : Scd (bxw consX consK) [7] 4 [0] := ⟨by kernel_rfl, by kernel_rfl⟩
theorem back_nw : nw consX consK [0] = rowX := by kernel_rfl
theorem back_nk : nk consX consK [0] = rowK := by kernel_rfl
theorem back_tr : [7].map (tr (bxw consX consK) [0]) = [7] := by kernel_rfl
theorem bad_57 : mayB [] rowK 57 = false := by kernel_rfl
theorem bad_23 : mayB [] twoK 23 = false := by kernel_rfl
theorem fourT_check : fourT.check = 0 := by kernel_rfl
theorem fourT_nums : (fourT.nums []).1 = true := by kernel_rfl
theorem fourT_size : fourT.size ≤ 1000000 := by simp [fourT, Tm.tup, Tm.num, Tm.size_mk, sizes]
theorem fourT_words : fourT.wordsR = 6 := by kernel_rfl
theorem cons_may : [(7 : Int), 8].all (mayB [] rowK) = true := by kernel_rfl
theorem tup_may : [(7 : Int), 7].all (mayB [] rowK) = true := by kernel_rfl
theorem rng2 {a b : Int} (ha : 0 ≤ a ∧ a < 18446744073709551616) (hb : 0 ≤ b ∧ b < 18446744073709551616) : ∀ z ∈ [a, b], 0 ≤ z ∧ z < 18446744073709551616 := by
  intro z hz
  simp only [List.mem_cons, List.not_mem_nil, or_false] at hz
  rcases hz with rfl | rfl
  · exact ha
  · exact hb


/-- The row's term in a variable beside the heap. -/
structure KQ (W0 w : World) (hb : Nat) (S : Nat → Prop) (xs ks : List Int) (b g : Nat) : Prop where
  st : St W0 w hb S [] 8 xs ks
  box : w.heap[b]? = some (.cells #[.int .i64 7, .int .i64 0, .string ⟨#[]⟩, .slice (some ⟨g, 0, none⟩) 2 2] 42)
  lies : Lies w (Sf S w) rowT (.agg #[.int .i64 7, .int .i64 0, .string ⟨#[]⟩, .slice (some ⟨g, 0, none⟩) 2 2])
  sb : Sf S w b
theorem KQ.mk_ {W0 w4 w6 W7 : World} {hb : Nat} {S : Nat → Prop} {xs ks : List Int} {g : Nat} (h : St W0 w4 hb S [] 8 xs ks) (hl : Lies w6 (fun b => w4.heap.size ≤ b) rowT (.agg #[.int .i64 7, .int .i64 0, .string ⟨#[]⟩, .slice (some ⟨g, 0, none⟩) 2 2])) (hb6 : Below w4.heap.size w4 w6)
    (h7 : w6.alloc (.cells #[.int .i64 7, .int .i64 0, .string ⟨#[]⟩, .slice (some ⟨g, 0, none⟩) 2 2] 42) = W7) : KQ W0 W7 hb S xs ks w6.heap.size g := by
  have hb7 : Below w6.heap.size w6 W7 := by rw [← h7]; exact (Below.refl _ _).alloc (Nat.le_refl _) _
  have hx7 : W7.heap[w6.heap.size]? = some (.cells #[.int .i64 7, .int .i64 0, .string ⟨#[]⟩, .slice (some ⟨g, 0, none⟩) 2 2] 42) := by rw [← h7]; exact new_block _ _
  exact ⟨(h.up hb6).up hb7, hx7, h.lies_new (hl.below hb7), h.new_safe hb6.size (Array.getElem?_eq_some_iff.1 hx7).1⟩
theorem KQ.step {W0 w w' : World} {hb : Nat} {S S' : Nat → Prop} {xs ks xs' ks' : List Int} {b g : Nat} (h : KQ W0 w hb S xs ks b g) (hs : St W0 w' hb S' [] 8 xs' ks') (n : Sp S w S' w') : KQ W0 w' hb S' xs' ks' b g :=
  ⟨hs, n.block h.sb h.box, n.lies h.lies, n.safe h.sb⟩
theorem KQ.up {W0 w w' : World} {hb : Nat} {S : Nat → Prop} {xs ks : List Int} {b g : Nat} (h : KQ W0 w hb S xs ks b g) (hb' : Below w.heap.size w w') : KQ W0 w' hb S xs ks b g := h.step (h.st.up hb') (Sp.up hb')
theorem row4_made {w w' : World} {t : TypeId} (hb : Below (w.alloc (.cells #[.int .i64 1, .int .i64 1, .string ⟨#[]⟩, .slice none 0 0, .int .i64 1, .int .i64 2, .string ⟨#[]⟩, .slice none 0 0, .int .i64 1, .int .i64 3, .string ⟨#[]⟩, .slice none 0 0, .int .i64 1, .int .i64 4, .string ⟨#[]⟩, .slice none 0 0] t)).heap.size (w.alloc (.cells #[.int .i64 1, .int .i64 1, .string ⟨#[]⟩, .slice none 0 0, .int .i64 1, .int .i64 2, .string ⟨#[]⟩, .slice none 0 0, .int .i64 1, .int .i64 3, .string ⟨#[]⟩, .slice none 0 0, .int .i64 1, .int .i64 4, .string ⟨#[]⟩, .slice none 0 0] t)) w') :
    Lies w' (fun b => w.heap.size ≤ b) fourT (.agg #[.int .i64 7, .int .i64 0, .string ⟨#[]⟩, .slice (some ⟨w.heap.size, 0, none⟩) 4 4]) ∧ Below w.heap.size w w' := by
  obtain ⟨o, ho⟩ : ∃ o, Obj.cells #[.int .i64 1, .int .i64 1, .string ⟨#[]⟩, .slice none 0 0, .int .i64 1, .int .i64 2, .string ⟨#[]⟩, .slice none 0 0, .int .i64 1, .int .i64 3, .string ⟨#[]⟩, .slice none 0 0, .int .i64 1, .int .i64 4, .string ⟨#[]⟩, .slice none 0 0] t = o := ⟨_, rfl⟩
  rw [ho] at hb
  have hb5 := (Below.refl w.heap.size w).alloc (Nat.le_refl _) o
  have hx6 : w'.heap[w.heap.size]? = some o := (hb.block _ (by simp)).trans (new_block w o)
  subst ho
  refine ⟨Lies.mk (l := [.num 1, .num 2, .num 3, .num 4]) tup_small ⟨Nat.le_refl _, by decide, Or.inr ⟨_, rfl, fun _ => ⟨Nat.le_refl _, rfl⟩, Row.of fun i hi => ?_⟩⟩, hb5.trans (hb.mono hb5.size)⟩
  have hi4 : i < 4 := hi
  rcases i with _ | _ | _ | _ | i
  · exact ⟨_, _, _, _, by simp [World.cell?, hx6], by simp [World.cell?, hx6], by simp [World.cell?, hx6], by simp [World.cell?, hx6], num_is _ _ 1 (by omega) (by omega)⟩
  · exact ⟨_, _, _, _, by simp [World.cell?, hx6], by simp [World.cell?, hx6], by simp [World.cell?, hx6], by simp [World.cell?, hx6], num_is _ _ 2 (by omega) (by omega)⟩
  · exact ⟨_, _, _, _, by simp [World.cell?, hx6], by simp [World.cell?, hx6], by simp [World.cell?, hx6], by simp [World.cell?, hx6], num_is _ _ 3 (by omega) (by omega)⟩
  · exact ⟨_, _, _, _, by simp [World.cell?, hx6], by simp [World.cell?, hx6], by simp [World.cell?, hx6], by simp [World.cell?, hx6], num_is _ _ 4 (by omega) (by omega)⟩
  · omega
theorem row_new {w : World} {t : TypeId} {x : Int} : Cel (w.alloc (.cells #[.int .u64 x] t)) [x] (some ⟨w.heap.size, 0, none⟩) ∧ Below w.heap.size w (w.alloc (.cells #[.int .u64 x] t)) :=
  ⟨cel_at (xs := [x]) (new_block w _), (Below.refl _ _).alloc (Nat.le_refl _) _⟩
theorem row_new2 {w : World} {t : TypeId} {x y : Int} : Cel (w.alloc (.cells #[.int .u64 x, .int .u64 y] t)) [x, y] (some ⟨w.heap.size, 0, none⟩) ∧ Below w.heap.size w (w.alloc (.cells #[.int .u64 x, .int .u64 y] t)) :=
  ⟨cel_at (xs := [x, y]) (new_block w _), (Below.refl _ _).alloc (Nat.le_refl _) _⟩
theorem row_new6 {w : World} {t : TypeId} : Cel (w.alloc (.cells #[.int .u64 42, .int .u64 17, .int .u64 33, .int .u64 42, .int .u64 7, .int .u64 7] t)) twoX (some ⟨w.heap.size, 0, none⟩) ∧ Below w.heap.size w (w.alloc (.cells #[.int .u64 42, .int .u64 17, .int .u64 33, .int .u64 42, .int .u64 7, .int .u64 7] t)) :=
  ⟨cel_at (xs := twoX) (new_block w _), (Below.refl _ _).alloc (Nat.le_refl _) _⟩
theorem box_up {w w1 : World} {o : Obj} (h : Below w.heap.size w w1) : Below w.heap.size w (w1.alloc o) := h.alloc h.size _
theorem St.collectE {W0 w : World} {hb : Nat} {S : Nat → Prop} {g cap : Nat} (h : St W0 w hb S [] 8 consX consK) (hrs : Cel w [7] (some ⟨g, 0, none⟩)) :
    Calls Tryd.prog 12 #[.pointer (some ⟨hb, 0, none⟩), .slice (some ⟨g, 0, none⟩) 1 cap] w fun e w' => ∃ a c S', e = .returned (.tuple #[.slice a 1 c, .int .i64 0]) ∧ Cel w' [7] a ∧ St W0 w' hb S' [] 8 rowX rowK := by
  refine (h.collect (rs := [7]) (by decide) hrs (by decide) (fun r hr => ⟨rowT, ?_⟩)).mono fun e w' ⟨lv, J, N, S', he, hsc, hmv, hwd, hg, hst, hsp⟩ => ?_
  · obtain rfl : r = 7 := by simpa using hr
    exact den_rowT (by decide) [7, 8] (kbox 9 2)
  · obtain ⟨_, rfl⟩ := hsc.uniq back_scd
    rw [back_tr] at hwd
    rw [back_nw, back_nk] at hst
    obtain ⟨a, c, rfl, _, _, hc⟩ := hwd.cel
    exact ⟨a, c, S', he, hc, hst⟩
theorem St.partsE {W0 w : World} {hb : Nat} {S : Nat → Prop} (h : St W0 w hb S [] 8 twoX twoK) :
    (Calls Tryd.prog 11 #[.pointer (some ⟨hb, 0, none⟩), .int .u64 55] w fun e w' => ∃ a c, e = .returned (.tuple #[.slice a 2 c, .int .i64 0]) ∧ Cel w' [7, 7] a ∧ Below w.heap.size w w') ∧
    (Calls Tryd.prog 11 #[.pointer (some ⟨hb, 0, none⟩), .int .u64 17] w fun e w' => ∃ a c, e = .returned (.tuple #[.slice a 0 c, .int .i64 0]) ∧ Below w.heap.size w w') := by
  constructor
  · obtain ⟨ys, hd, hc⟩ := h.parts twoT_den
    obtain rfl := two_only hd
    refine hc.mono fun e w' ⟨v', he, hw, _, hb'⟩ => ?_
    obtain ⟨a, c, rfl, _, _, hcel⟩ := hw.cel
    exact ⟨a, c, he, hcel, hb'⟩
  · obtain ⟨ys, hd, hc⟩ := h.parts num1_den
    obtain rfl := dens_nil.1 hd
    refine hc.mono fun e w' ⟨v', he, hw, _, hb'⟩ => ?_
    obtain ⟨a, c, rfl, _, _, hcel⟩ := hw.cel
    exact ⟨a, c, he, hb'⟩
theorem two_eqX : rowX ++ (leadW 7 0 [(7 : Int), 7].length ++ [7, 7]) = twoX := by kernel_rfl
theorem two_eqK : rowK ++ kbox 7 (1 + [(7 : Int), 7].length) = twoK := by kernel_rfl
theorem two_eqW : Wd.packW 7 ((rowX.length : Nat) : Int) = 55 := by kernel_rfl
theorem cons_eqW : Wd.packW 9 ((rowX.length : Nat) : Int) = 57 := by kernel_rfl
theorem St.tupleE {W0 w : World} {hb : Nat} {S : Nat → Prop} {g cap : Nat} (h : St W0 w hb S [] 8 rowX rowK) (hy : Cel w [7, 7] (some ⟨g, 0, none⟩)) :
    Calls Tryd.prog 8 #[.pointer (some ⟨hb, 0, none⟩), .slice (some ⟨g, 0, none⟩) 2 cap] w fun e w' => ∃ S', e = .returned (.tuple #[.int .u64 55, .int .i64 0]) ∧ St W0 w' hb S' [] 8 twoX twoK := by
  have h1 := h.tuple (ys := [7, 7]) (c := cap) (by decide) hy (fun e => by cases e) (rng2 (by decide) (by decide)) tup_may (by decide)
  rw [two_eqX, two_eqK, two_eqW] at h1
  exact h1.mono fun e w' ⟨S', h2, h3, _⟩ => ⟨S', h2, h3⟩
theorem St.consE {W0 w : World} {hb : Nat} {S : Nat → Prop} (h : St W0 w hb S [] 8 rowX rowK) :
    Calls Tryd.prog 9 #[.pointer (some ⟨hb, 0, none⟩), .int .u64 7, .int .u64 8] w fun e w' => ∃ S', e = .returned (.tuple #[.int .u64 57, .int .i64 0]) ∧ St W0 w' hb S' [] 8 consX consK ∧ Sp S w S' w' := by
  have h1 := h.cons (x := 7) (y := 8) (rng2 (by decide) (by decide)) cons_may (by decide)
  rw [cons_eqW, show rowX ++ [7, 8] = consX from rfl, show rowK ++ kbox 9 2 = consK from rfl] at h1
  exact h1
theorem rowX_len : ((rowX.length : Nat) : Int) = 3 := rfl
end Go.Proofs.YtaiiicmldogjoaaDoor
