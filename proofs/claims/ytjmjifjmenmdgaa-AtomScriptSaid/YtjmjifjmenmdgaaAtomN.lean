/-
  The laws' own helpers: a text has just that number; the chapter's examples; the name of a number.
-/
import Derived.Test.YtjmjifjmenmdgaaAtomS
namespace Go.Proofs.Ytjmjifjmenmdgaa
open Go.RowKit Go.Deep Go.Maps Go.WideShapes Go.WideMaps

/-- Has a text put into L just that number? -/
def gives (L : List ByteArray) (s : ByteArray) (n : Int) : Bool := decide (((put L s).1 : Int) = n ∧ (put L s).2.1 = 0)
set_option maxRecDepth 100000 in
theorem interned_any (p bm : Nat) (v : Value) (L : List ByteArray) (s : ByteArray) (n : Int) (w : World) (h : Tab w p bm v L) (hs : s.size ≤ maxLen) :
    Calls Try.prog 18 #[.pointer (some ⟨p, 0, none⟩), .string s, .int .i64 n] w fun e w' => e = .returned (.bool (gives L s n)) ∧ Left w p bm v (put L s).2.2 w' := by
  have hI := Hid.mk (intern_any p bm v L s w h hs)
  unfold gives
  generalize (put L s).2.2 = L' at hI ⊢
  generalize (put L s).2.1 = E at hI ⊢
  generalize (put L s).1 = N at hI ⊢
  clear h hs
  by_cases h1 : (N : Int) = n
  · have e1 : ((N : Int) == n) = true := by simpa using h1
    by_cases h2 : E = 0
    · have e2 : ((E : Int) == 0) = true := by simp [h2]
      have e3 : (E == 0) = true := by simp [h2]
      have H := Hid.mk (And.intro h1 h2)
      clear h1 h2
      go_enter Try.func18, Try.ntmps18
      go_wp2_with (first
        | (go_at_call 9; refine hI.out.mono ?_; rintro e w1 ⟨rfl, hL⟩))
      go_ret
      exact ⟨ret_bool (by rw [decide_eq_true H.out]), hL⟩
    · have e2 : ((E : Int) == 0) = false := by rw [beq_eq_false_iff_ne]; omega
      have e3 : (E == 0) = false := by rw [beq_eq_false_iff_ne]; omega
      have H := Hid.mk (show ¬ ((N : Int) = n ∧ E = 0) from fun h => h2 h.2)
      clear h1 h2
      go_enter Try.func18, Try.ntmps18
      go_wp2_with (first
        | (go_at_call 9; refine hI.out.mono ?_; rintro e w1 ⟨rfl, hL⟩))
      go_ret
      exact ⟨ret_bool (by rw [decide_eq_false H.out]), hL⟩
  · have e1 : ((N : Int) == n) = false := by rw [beq_eq_false_iff_ne]; exact h1
    have H := Hid.mk (show ¬ ((N : Int) = n ∧ E = 0) from fun h => h1 h.1)
    clear h1
    go_enter Try.func18, Try.ntmps18
    go_wp2_with (first
      | (go_at_call 9; refine hI.out.mono ?_; rintro e w1 ⟨rfl, hL⟩))
    go_ret
    exact ⟨ret_bool (by rw [decide_eq_false H.out]), hL⟩

end Go.Proofs.Ytjmjifjmenmdgaa
