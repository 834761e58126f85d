/-
  What a call is handed as a term, or as a list of terms, lies in memory as one.
-/
import Derived.Test.YtamafhcgjbkikaaDoorTermBase
import Derived.Deep.Slices
import Derived.Deep.Fields
namespace Go.Proofs.YtamafhcgjbkikaaDoor
open Go.RowKit Go.Deep Go.ChangeShapes Go.WideShapes

theorem cells_term : Tryd.prog.cellsOf 24 = 4 := by kernel_rfl
theorem cells_int : Tryd.prog.cellsOf 3 = 1 := by kernel_rfl
theorem cells_string : Tryd.prog.cellsOf 9 = 1 := by kernel_rfl
theorem cells_slice : Tryd.prog.cellsOf 22 = 1 := by kernel_rfl

section
variable {H : Type} {enc : TypeId × Value → H} {w : World} {base : Nat} {spare : Nat → Bool} {held : Bool}

theorem list_four {α : Type} {l : List α} (h : l.length = 4) : ∃ a b c d, l = [a, b, c, d] := by
  match l, h with
  | [a, b, c, d], _ => exact ⟨a, b, c, d, rfl⟩

theorem spot_none {w : World} {a : Addr} {v : Value} (h : w.cell? (a.add (0 * 4)) = some v) : a.spot = none := by
  have hs : (a.add (0 * 4)).spot = a.spot := by unfold Addr.add; simp
  unfold World.cell? at h
  rw [hs] at h
  rcases hsp : a.spot with _ | s
  · rfl
  · exfalso
    rw [hsp] at h
    split at h <;> simp at h

/-- Terms side by side: from each one's reading. -/
theorem trod_terms_of (n : Nat) (ih : ∀ (cs : List Value) (x : DataW H × List MemPlace), DataW.trod enc Tryd.prog w base spare held n 24 cs = some x → ∃ T v0 v1 v2 v3, cs = [v0, v1, v2, v3] ∧ Lies w (fun _ => True) T (.agg #[v0, v1, v2, v3]))
    {cs : List Value} {x : DataW H × List MemPlace} (h : DataW.trod enc Tryd.prog w base spare held (n + 1) 22 cs = some x) : ∃ l a cap, cs = [.slice a (List.length l) cap] ∧ Lst w (fun _ => True) l a cap := by
  rcases DataW.trod_slice Tryd.underlying22 h with ⟨rfl, _⟩ | ⟨a, len, cap, elems, rest, n', hn, rfl, _, _, hle, hm, hlen, hel, _⟩
  · exact ⟨[], none, 0, rfl, Nat.le_refl _, by simp, Or.inl ⟨rfl, rfl, rfl⟩⟩
  · obtain rfl : n' = n := by omega
    have key : ∀ i : Fin len, ∃ T v0 v1 v2 v3, w.cell? (a.add (i.1 * 4)) = some v0 ∧ w.cell? (a.add (i.1 * 4 + 1)) = some v1 ∧ w.cell? (a.add (i.1 * 4 + 2)) = some v2 ∧ w.cell? (a.add (i.1 * 4 + 3)) = some v3 ∧ Lies w (fun _ => True) T (.agg #[v0, v1, v2, v3]) := by
      intro i
      have h1 := hel i.1 i.2
      rw [List.getElem?_eq_getElem (by omega), cells_term, Option.bind_eq_some_iff] at h1
      obtain ⟨cs', hc, ht⟩ := h1
      obtain ⟨T, v0, v1, v2, v3, rfl, hL⟩ := ih _ _ ht
      obtain ⟨_, _, hat⟩ := World.cells?_some hc
      have c0 := hat 0 (by omega)
      have c1 := hat 1 (by omega)
      have c2 := hat 2 (by omega)
      have c3 := hat 3 (by omega)
      rw [Go.Deep.add_add] at c0 c1 c2 c3
      exact ⟨T, v0, v1, v2, v3, c0, c1, c2, c3, hL⟩
    obtain ⟨f, hf⟩ := Classical.axiomOfChoice key
    refine ⟨List.ofFn f, some a, cap, by simp, by simpa using hle, hm, Or.inr ⟨a, rfl, fun hne => ⟨trivial, ?_⟩, Row.of fun i hi => ?_⟩⟩
    · have hpos : 0 < len := by
        rcases Nat.eq_zero_or_pos len with rfl | h
        · simp at hne
        · exact h
      obtain ⟨v0, _, _, _, c0, _⟩ := hf ⟨0, hpos⟩
      exact spot_none c0
    · have hi' : i < len := by simpa using hi
      obtain ⟨v0, v1, v2, v3, c0, c1, c2, c3, hL⟩ := hf ⟨i, hi'⟩
      obtain ⟨_, _, _, _, z0, _⟩ := hf ⟨0, by omega⟩
      have hsp := spot_none z0
      obtain ⟨b, o, sp⟩ := a
      obtain rfl : sp = none := hsp
      simp only [WideShapes.add_plain] at c0 c1 c2 c3
      exact ⟨v0, v1, v2, v3, c0, c1, c2, c3, by simpa using hL⟩

theorem trod_term (fuel : Nat) : ∀ (cs : List Value) (x : DataW H × List MemPlace), DataW.trod enc Tryd.prog w base spare held fuel 24 cs = some x →
    ∃ T v0 v1 v2 v3, cs = [v0, v1, v2, v3] ∧ Lies w (fun _ => True) T (.agg #[v0, v1, v2, v3]) := by
  induction fuel using Nat.strongRecOn with
  | ind fuel ih =>
    intro cs x h
    obtain ⟨xs, n, hn, _, hlen, hxl, hg⟩ := DataW.trod_struct Tryd.underlying24 h
    rw [cells_term] at hlen
    obtain ⟨c0, c1, c2, c3, rfl⟩ := list_four hlen
    obtain ⟨y0, y1, y2, y3, rfl⟩ := list_four (l := xs) hxl
    have g0 : DataW.trod enc Tryd.prog w base spare held n 3 (([c0, c1, c2, c3].drop 0).take (Tryd.prog.cellsOf 3)) = some y0 := hg 0 _ rfl
    have g1 : DataW.trod enc Tryd.prog w base spare held n 3 (([c0, c1, c2, c3].drop 1).take (Tryd.prog.cellsOf 3)) = some y1 := hg 1 _ rfl
    have g2 : DataW.trod enc Tryd.prog w base spare held n 9 (([c0, c1, c2, c3].drop 2).take (Tryd.prog.cellsOf 9)) = some y2 := hg 2 _ rfl
    have g3 : DataW.trod enc Tryd.prog w base spare held n 22 (([c0, c1, c2, c3].drop 3).take (Tryd.prog.cellsOf 22)) = some y3 := hg 3 _ rfl
    rw [cells_int] at g0 g1
    rw [cells_string] at g2
    rw [cells_slice] at g3
    obtain ⟨k, e0, _, wk⟩ := DataW.trod_int Tryd.underlying3 g0
    obtain ⟨m, e1, _, wm⟩ := DataW.trod_int Tryd.underlying3 g1
    obtain ⟨s, e2, _, hs⟩ := DataW.trod_string Tryd.underlying9 g2
    have b0 := bounds_i64 wk
    have b1 := bounds_i64 wm
    obtain ⟨n', rfl⟩ : ∃ n', n = n' + 1 := by
      cases n with
      | zero => simp [DataW.trod] at g3
      | succ n' => exact ⟨n', rfl⟩
    obtain ⟨l, a, cap, e3, hl⟩ := trod_terms_of n' (fun cs x h => ih n' (by omega) cs x h) g3
    have f0 : c0 = .int .i64 k := by simpa using e0
    have f1 : c1 = .int .i64 m := by simpa using e1
    have f2 : c2 = .string s := by simpa using e2
    have f3 : c3 = .slice a l.length cap := by simpa using e3
    subst f0 f1 f2 f3
    exact ⟨.mk k m s l, _, _, _, _, rfl, Lies.mk ⟨b0.1, by omega, b1.1, by omega, by unfold maxLen at hs; omega⟩ hl⟩

set_option maxRecDepth 100000 in
theorem open_term {r : Reach} {b0 : Nat} {v : Value} {d : DataW H} {p : List MemPlace} (hv : Value.okWide Tryd.prog w r b0 24 v) (h : DataW.Trod enc Tryd.prog w base spare held 24 v d p) : ∃ T, Lies w (fun _ => True) T v := by
  obtain ⟨cs, rfl, _⟩ := okWide_struct Tryd.underlying24 hv
  obtain ⟨fuel, hf⟩ := h
  obtain ⟨T, v0, v1, v2, v3, hc, hL⟩ := trod_term fuel _ _ hf
  obtain ⟨l⟩ := cs
  have : l = [v0, v1, v2, v3] := hc
  subst this
  exact ⟨T, hL⟩

set_option maxRecDepth 100000 in
theorem open_terms {r : Reach} {b0 : Nat} {v : Value} {d : DataW H} {p : List MemPlace} (hv : Value.okWide Tryd.prog w r b0 22 v) (h : DataW.Trod enc Tryd.prog w base spare held 22 v d p) :
    ∃ l a cap, v = .slice a (List.length l) cap ∧ Lst w (fun _ => True) l a cap := by
  obtain ⟨a, len, cap, rfl⟩ := okWide_slice Tryd.underlying22 hv
  obtain ⟨fuel, hf⟩ := h
  cases fuel with
  | zero => simp [DataW.trod] at hf
  | succ n =>
    obtain ⟨l, a', cap', hc, hl⟩ := trod_terms_of n (trod_term n) hf
    have hc' : Value.slice a len cap = .slice a' l.length cap' := by simpa [Value.cells] using hc
    exact ⟨l, a', cap', hc', hl⟩

end
end Go.Proofs.YtamafhcgjbkikaaDoor
