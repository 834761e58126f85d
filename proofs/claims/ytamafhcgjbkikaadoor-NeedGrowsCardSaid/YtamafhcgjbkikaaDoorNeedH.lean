/-
  A list of terms as a row of headers, and one more behind it.
-/
import Derived.Test.YtamafhcgjbkikaaDoorKitApp
import Derived.Test.YtamafhcgjbkikaaDoorNeedL
namespace Go.Proofs.YtamafhcgjbkikaaDoor
open Go.RowKit Go.Deep Go.Maps Go.WideShapes

/-- The four cells of a term. -/
structure Hd4 where
  k : Int
  n : Int
  s : ByteArray
  a : Option Addr
  m : Nat
  c : Nat
def Hd4.tv (h : Hd4) : Value := .agg #[.int .i64 h.k, .int .i64 h.n, .string h.s, .slice h.a h.m h.c]
theorem hd4_one : ∀ (h : Hd4) (u : Value), u ∈ [Value.int .i64 h.k, .int .i64 h.n, .string h.s, .slice h.a h.m h.c] → u.oneCell' = true := fun h u hu => by
  simp only [List.mem_cons, List.not_mem_nil, or_false] at hu
  rcases hu with rfl | rfl | rfl | rfl <;> rfl
def hdT : Srt Hd4 := { t := 24, st := 22, k := 4, enc := fun h => [.int .i64 h.k, .int .i64 h.n, .string h.s, .slice h.a h.m h.c], z := .agg #[.int .i64 0, .int .i64 0, .string ByteArray.empty, .slice none 0 0], bytes := 56, und := Tryd.underlying22, info := by kernel_rfl, zc := rfl, pos := by decide, few := by decide, len := fun _ => rfl, one := hd4_one }

/-- Each term and its header. -/
def Heads (w : World) (S : Nat → Prop) (l : List Tm) (hs : List Hd4) : Prop := hs.length = l.length ∧ ∀ (i : Nat) (h : i < l.length) (h' : i < hs.length), Lies w S l[i] hs[i].tv
theorem Heads.up {w w' : World} {S : Nat → Prop} {l : List Tm} {hs : List Hd4} (h : Heads w S l hs) (hb : Below w.heap.size w w') : Heads w' S l hs := ⟨h.1, fun i h1 h2 => (h.2 i h1 h2).below hb⟩
theorem Heads.snoc {w : World} {S : Nat → Prop} {l : List Tm} {hs : List Hd4} (h : Heads w S l hs) {T : Tm} {x : Hd4} (hT : Lies w S T x.tv) : Heads w S (l ++ [T]) (hs ++ [x]) := by
  refine ⟨by simp [h.1], fun i h1 h2 => ?_⟩
  have hl := h.1
  by_cases e : i < l.length
  · rw [List.getElem_append_left e, List.getElem_append_left (by omega)]
    exact h.2 i e (by omega)
  · simp only [List.length_append, List.length_singleton] at h1
    have e2 : i = l.length := by omega
    subst e2
    rw [List.getElem_append_right (by omega), List.getElem_append_right (by omega)]
    simp only [hl, Nat.sub_self, List.getElem_cons_zero]
    exact hT
theorem lst_heads {w : World} {S : Nat → Prop} {l : List Tm} {a : Option Addr} {cap : Nat} (h : Lst w S l a cap) : ∃ hs, Heads w S l hs ∧ Cs hdT w hs a ∧ (a = none → cap = 0) := by
  by_cases h0 : 0 < l.length
  · obtain ⟨b, o, rfl, _, hr⟩ := h.some h0
    have key : ∀ i : Fin l.length, ∃ x : Hd4, Lies w S l[i.1] x.tv ∧ ∀ j u, (hdT.enc x)[j]? = some u → w.cell? ⟨b, o + (i.1 * 4 + j), none⟩ = some u := fun i => by
      obtain ⟨k, n, s, m, a, cap, hT, c0, c1, c2, c3, hl⟩ := hr.part i.1 i.2
      refine ⟨⟨k, n, s, a, m.length, cap⟩, hl, fun j u hj => ?_⟩
      rcases j with _ | _ | _ | _ | j
      · cases hj; simpa using c0
      · cases hj; exact c1
      · cases hj; exact c2
      · cases hj; exact c3
      · cases hj
    obtain ⟨f, hf⟩ := Classical.axiomOfChoice key
    refine ⟨List.ofFn f, ⟨by simp, fun i h1 h2 => by simpa using (hf ⟨i, h1⟩).1⟩, fun _ => ⟨b, o, rfl, fun i x hi j u hj => ?_⟩, fun e => by cases e⟩
    obtain ⟨hi1, hi2⟩ := List.getElem?_eq_some_iff.1 hi
    have hlt : i < l.length := by simpa using hi1
    have e : x = f ⟨i, hlt⟩ := by rw [← hi2]; simp
    subst e
    exact (hf ⟨i, hlt⟩).2 j u hj
  · have e : l = [] := List.eq_nil_of_length_eq_zero (by omega)
    subst e
    refine ⟨[], ⟨rfl, fun i h1 => (by cases h1)⟩, fun h => (by cases h), fun ha => ?_⟩
    rcases h.2.2 with ⟨_, _, hc⟩ | ⟨p, hp, _⟩
    · exact hc
    · rw [ha] at hp; cases hp
theorem heads_lst {w : World} {S : Nat → Prop} {l : List Tm} {hs : List Hd4} {v : Value} (h : Heads w S l hs) (ho : Ow hdT w v hs) : ∃ a cap, v = .slice a l.length cap ∧ Lst w (fun _ => True) l a cap := by
  obtain ⟨a, cap, rfl, h1, h2, h3, hc⟩ := ho.cells
  refine ⟨a, cap, by rw [h.1], by rw [← h.1]; exact h1, by unfold maxLen at h2; omega, ?_⟩
  by_cases h0 : 0 < hs.length
  · obtain ⟨b, o, rfl, hx⟩ := hc h0
    refine Or.inr ⟨_, rfl, fun _ => ⟨trivial, rfl⟩, Row.of fun i hi => ?_⟩
    have hi' : i < hs.length := by rw [h.1]; exact hi
    have hg := fun j u hj => hx i (hs[i]'hi') (List.getElem?_eq_getElem hi') j u hj
    exact ⟨_, _, _, _, hg 0 _ rfl, hg 1 _ rfl, hg 2 _ rfl, hg 3 _ rfl, (h.2 i hi hi').wider (fun _ _ => trivial)⟩
  · have e : l = [] := List.eq_nil_of_length_eq_zero (by rw [← h.1]; omega)
    subst e
    cases a with
    | none => exact Or.inl ⟨rfl, rfl, h3 rfl⟩
    | some p => exact Or.inr ⟨p, rfl, fun h => absurd rfl h, by rw [Row]; trivial⟩
end Go.Proofs.YtamafhcgjbkikaaDoor
