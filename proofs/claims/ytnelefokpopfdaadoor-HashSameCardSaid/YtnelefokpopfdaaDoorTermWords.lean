/-
  How many words a term has: the sum over its parts.
-/
import Derived.Test.YtnelefokpopfdaaDoorTermInto
import Derived.Shelf.RegionOpen
namespace Go.Proofs.YtnelefokpopfdaaDoor
open Go.RowKit Go.Deep Go.Shelf

attribute [local go_sem] Oper.semAt_some

/-- The words of parts. -/
def sumW : List Sh → Int
  | [] => 0
  | p :: r => ownW p.1 + sumW r
theorem sumW_append (a b : List Sh) : sumW (a ++ b) = sumW a + sumW b := by
  induction a with
  | nil => simp [sumW]
  | cons x a ih => simp only [List.cons_append, sumW, ih]; omega
theorem ownW_range (k : Int) : 1 ≤ ownW k ∧ ownW k ≤ 2 := by unfold ownW; split <;> omega
theorem sumW_range (a : List Sh) : 0 ≤ sumW a ∧ sumW a ≤ 2 * a.length := by
  induction a with
  | nil => simp [sumW]
  | cons x a ih =>
    have := ownW_range x.1
    simp only [sumW, List.length_cons]
    omega
theorem pre_length (T : Tm) : T.pre.length ≤ T.size := by
  induction T using Tm.induct with
  | h k n s l ih =>
    rw [Tm.pre_mk, Tm.size_mk]
    split
    · have : (pres l).length ≤ sizes l := by
        induction l with
        | nil => simp [pres]
        | cons t r ihr =>
          have h1 := ih t (by simp)
          have h2 := ihr (fun t ht => ih t (List.mem_cons_of_mem _ ht))
          simp only [pres, sizes, List.length_append]
          omega
      simp only [List.length_cons]
      omega
    · simp

/-- How many words a term has. -/
def Tm.words (T : Tm) : Int := sumW T.pre

theorem parts_in (n : Nat) (k nn : Int) (s : ByteArray) (a : Option Addr) (len cap : Nat) (w : World) :
    CallsIn Fence.wide n Tryd.prog 20 #[.agg #[.int .i64 k, .int .i64 nn, .string s, .slice a len cap]] w fun e w' =>
      e = .returned (.func (.func 28) #[] #[.pointer (some ⟨w.heap.size, 0, none⟩)]) ∧ w' = w.alloc (.cells #[.int .i64 k, .int .i64 nn, .string s, .slice a len cap] 24) := by
  refine callsIn_of_wp Tryd.func20 rfl trivial ?_ rfl
  simp only [Tryd.ntmps20, List.size_toArray, List.length_cons, List.length_nil, Nat.reduceAdd, Nat.reduceSub, Array.replicate_succ, Array.replicate_zero, List.push_toArray, List.append_toArray, List.nil_append, List.cons_append]
  gi_wp2
  go_ret
  exact ⟨rfl, rfl⟩

set_option maxHeartbeats 1000000 in
theorem parts_yields (n n₀ Bt : Nat) (S : Nat → Prop) (T : Tm) (k nn : Int) (s : ByteArray) (a : Option Addr) (len cap : Nat) (w : World) (hn : n₀ ≤ w.heap.size) (hS : ∀ b, S b → b < n₀) (hsh : 0 < n₀) (ht : ShapeTab w)
    (hv : Lies w S T (.agg #[.int .i64 k, .int .i64 nn, .string s, .slice a len cap])) (hbox : w.heap[Bt]? = some (.cells #[.int .i64 k, .int .i64 nn, .string s, .slice a len cap] 24)) :
    Yields Fence.wide n Tryd.prog 28 #[.pointer (some ⟨Bt, 0, none⟩)] (fun x : PV => #[.agg #[.int .i64 x.k, .int .i64 x.n, .string x.s, .slice x.a x.len x.cap]]) n₀
      (fun ys => ys.map PV.sh = T.pre) (fun ys => ys.map PV.sh <+: T.pre) T.pre.length w := by
  intro l J Jx W hW hJ hJx hY h0
  have hbW := (hW.block Bt (Array.getElem?_eq_some_iff.1 hbox).1).trans hbox
  obtain ⟨⟨g0, g1, g2, g3⟩, f0, f1, f2, f3⟩ := kept4 hbW (Below.refl _ _)
  have hc := into_in l n₀ W.heap.size T.pre.length S J Jx (Nat.le_trans hn hW.size) hJ hS hsh (fun m pre x W1 hj hz hl => yield_wide m (hY pre x W1 hj hz hl)) T.size T (Nat.le_refl _) (n - 1) _ [] W (hv.below hW) (ht.below hW) (Nat.le_refl _) h0 (by simp)
  refine callsIn_of_wp Tryd.func28 rfl trivial ?_ rfl
  simp only [Tryd.ntmps28, List.size_toArray, List.length_cons, List.length_nil, Nat.reduceAdd, Nat.reduceSub, Array.replicate_succ, Array.replicate_zero, List.push_toArray, List.append_toArray, List.nil_append, List.cons_append]
  gi_wp2_with (refine ⟨trivial, (fun h => (by cases h)), ?_⟩; gi_at_call 29; refine hc.mono ?_; clear hc; rintro e W1 (⟨rfl, ys, hys, hj, _⟩ | ⟨rfl, ys, hys, hj⟩))
  · go_end0
    exact ⟨⟨_, rfl⟩, .inl ⟨ys, hys, by simpa using hj⟩⟩
  · go_end0
    exact ⟨⟨_, rfl⟩, .inr ⟨ys, hys, by simpa using hj⟩⟩

end Go.Proofs.YtnelefokpopfdaaDoor
