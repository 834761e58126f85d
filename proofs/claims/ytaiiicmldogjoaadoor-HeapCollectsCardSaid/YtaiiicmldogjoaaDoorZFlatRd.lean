/-
  The small functions of reading flat words: plain, headOf.
-/
import Derived.Test.YtaiiicmldogjoaaDoorZKitRegion
import Derived.Test.YtaiiicmldogjoaaDoorZFlatRow
import Derived.Test.YtaiiicmldogjoaaDoorZTermMore
import Derived.Deep.Cut
namespace Go.Proofs.YtaiiicmldogjoaaDoor
open Go.RowKit Go.Deep

/-- A result of a term in a box, and one more. -/
theorem ret2_at {fn : Func} {R : Ending → World → Prop} {a : Act} {p q : Tmp} {b : Nat} {w : World} {u v0 v1 v2 v3 : Value} (h : fn.results = #[.cell p 42, .tmp q]) (hp : a.tmps.getD p undef = .pointer (some ⟨b, 0, none⟩)) (hq : a.tmps.getD q undef = u) (hd : a.defers = [])
    (h0 : w.cell? ⟨b, 0, none⟩ = some v0) (h1 : w.cell? ⟨b, 1, none⟩ = some v1) (h2 : w.cell? ⟨b, 2, none⟩ = some v2) (h3 : w.cell? ⟨b, 3, none⟩ = some v3)
    (hR : R (.returned (.tuple #[.agg #[v0, v1, v2, v3], u])) w) : bodyPost Tryd.prog fn R .ret a w := by
  have hp' : a.tmps[p]?.getD undef = .pointer (some ⟨b, 0, none⟩) := by simpa using hp
  have hq' : a.tmps[q]?.getD undef = u := by simpa using hq
  have hl := load4 (o := 0) h0 h1 h2 h3
  exact bodyPost_ret (by simp [results, h, hp', hq', asAddr, hl]) hd hR
theorem ret2_stored {fn : Func} {R : Ending → World → Prop} {a : Act} {p q : Tmp} {b : Nat} {w : World} {u u0 u1 u2 u3 v0 v1 v2 v3 : Value} (h : fn.results = #[.cell p 42, .tmp q]) (hp : a.tmps.getD p undef = .pointer (some ⟨b, 0, none⟩)) (hq : a.tmps.getD q undef = u) (hd : a.defers = [])
    (h0 : w.cell? ⟨b, 0, none⟩ = some u0) (h1 : w.cell? ⟨b, 1, none⟩ = some u1) (h2 : w.cell? ⟨b, 2, none⟩ = some u2) (h3 : w.cell? ⟨b, 3, none⟩ = some u3)
    (hR : R (.returned (.tuple #[.agg #[v0, v1, v2, v3], u])) ((((w.setCell ⟨b, 0, none⟩ v0).setCell ⟨b, 1, none⟩ v1).setCell ⟨b, 2, none⟩ v2).setCell ⟨b, 3, none⟩ v3)) :
    bodyPost Tryd.prog fn R .ret a ((((w.setCell ⟨b, 0, none⟩ v0).setCell ⟨b, 1, none⟩ v1).setCell ⟨b, 2, none⟩ v2).setCell ⟨b, 3, none⟩ v3) := by
  obtain ⟨e0, e1, e2, e3⟩ := stored4 (v0 := v0) (v1 := v1) (v2 := v2) (v3 := v3) h0 h1 h2 h3
  exact ret2_at h hp hq hd e0 e1 e2 e3 hR

/-- What a step of reading has answered: a term and whether there is one. -/
def PlainV (w : World) (o : Option Tm) (tv : Value) (ok : Bool) : Prop := ok = o.isSome ∧ ∀ t, o = some t → Lies w (fun _ => False) t tv

/-- What headOf has answered. -/
def HeadV (o : Option (Nat × Int × Nat)) : Nat × Int × Nat × Bool := match o with
  | some (h, n, m) => (h, n, m, true)
  | none => (0, 0, 0, false)
theorem unN_rng (x : Int) (k : Int) (h : Wd.unK x = k) (hk : k = 10 ∨ k = 11) : 0 ≤ Wd.unN x ∧ Wd.unN x ≤ 137438953536 := by
  by_cases hu : Wd.unB x = true
  · rw [Wd.unK, if_pos hu] at h
    have ho := (Wd.okB_iff _ _).1 hu
    rw [Wd.unN, if_pos hu]
    rw [h] at ho
    rcases hk with rfl | rfl
    · rw [show Wd.lo 10 = 0 from rfl, show Wd.hi 10 = 64 from rfl] at ho
      omega
    · rw [show Wd.lo 11 = 0 from rfl, show Wd.hi 11 = 137438953536 from rfl] at ho
      omega
  · rw [Wd.unK, if_neg hu] at h
    omega

end Go.Proofs.YtaiiicmldogjoaaDoor
