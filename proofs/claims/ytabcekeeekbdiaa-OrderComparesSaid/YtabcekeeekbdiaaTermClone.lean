/-
  strings.Clone and slices.Clone, as the program's copies call them.
-/
import Derived.Test.YtabcekeeekbdiaaTermCheck
import Derived.Test.YtabcekeeekbdiaaTermCopy
import Derived.Shelf.Pu.Clone
namespace Go.Proofs.Ytabcekeeekbdiaa
open Go.RowKit Go.Deep Go.Shelf

def cloneRen : Ren where
  f := fun n => if n = 25 then 56 else n
  t := fun n => match n with
    | 0 => 0
    | 3 => 3
    | 4 => 4
    | 5 => 5
    | 9 => 9
    | 37 => 63
    | 47 => 64
    | n => n
  g := fun n => n

theorem cloneLays : LaysPu.n25 Try.prog cloneRen := {
  mixed := by kernel_rfl
  f25 := by kernel_rfl
  t0 := by kernel_rfl
  a0 := fun _ => by kernel_rfl
  z0 := fun _ => by kernel_rfl
  v0 := fun _ => by kernel_rfl
  i0 := by kernel_rfl
  t3 := by kernel_rfl
  a3 := fun _ => by kernel_rfl
  z3 := fun _ => by kernel_rfl
  v3 := fun _ => by kernel_rfl
  i3 := by kernel_rfl
  t4 := by kernel_rfl
  a4 := fun _ => by kernel_rfl
  z4 := fun _ => by kernel_rfl
  v4 := fun _ => by kernel_rfl
  i4 := by kernel_rfl
  t5 := by kernel_rfl
  a5 := fun _ => by kernel_rfl
  z5 := fun _ => by kernel_rfl
  v5 := fun _ => by kernel_rfl
  i5 := by kernel_rfl
  t9 := by kernel_rfl
  a9 := fun _ => by kernel_rfl
  z9 := fun _ => by kernel_rfl
  v9 := fun _ => by kernel_rfl
  i9 := by kernel_rfl
  t37 := by kernel_rfl
  a37 := fun _ => by kernel_rfl
  z37 := fun _ => by kernel_rfl
  v37 := fun _ => by kernel_rfl
  i37 := by kernel_rfl
  t47 := by kernel_rfl
  a47 := fun _ => by kernel_rfl
  z47 := fun _ => by kernel_rfl
  v47 := fun _ => by kernel_rfl
  i47 := by kernel_rfl }

theorem textClone_in (s : ByteArray) (w : World) (hs : s.size ≤ 281474976710656) : Calls Try.prog 56 #[.string s] w fun e w' => e = .returned (.string s) ∧ Below w.heap.size w w' :=
  AnyPu.stringslite_Clone cloneLays s w hs

theorem textClone_any (s : ByteArray) (w : World) (hs : s.size ≤ 281474976710656) : Calls Try.prog 53 #[.string s] w fun e w' => e = .returned (.string s) ∧ Below w.heap.size w w' := by
  go_enter Try.func53, Try.ntmps53
  go_wp2_with (go_at_call 56; refine (textClone_in s _ hs).mono ?_; rintro e w1 ⟨rfl, hb⟩)
  go_ret
  exact ⟨rfl, hb⟩

/-- A slice in new memory, with these cells. -/
def RowMade (w : World) (n : Nat) (xs : List Value) (e : Ending) (w' : World) : Prop := ∃ sv, e = .returned sv ∧ w'.ownsRow w.heap.size 24 4 sv n xs

set_option maxHeartbeats 400000 in
theorem termsClone_any (ad : Addr) (len cap : Nat) (xs : List Value) (w : World) (hl : xs.length = len * 4) (hc : ∀ j u, xs[j]? = some u → w.cell? (ad.add j) = some u) (h1 : ∀ u ∈ xs, u.oneCell' = true) (hlen : len ≤ 1000000) :
    Calls Try.prog 54 #[.slice (some ad) len cap] w fun e w' => RowMade w len xs e w' ∧ Below w.heap.size w w' := by
  obtain ⟨i0, hi0, hz0, hz1, hby⟩ := info_at termInfo
  go_enter Try.func54, Try.ntmps54
  have hnil : ∀ W : World, (binOp BinOp.eql 22 (.slice (some ad) len cap) (.slice none 0 0)).run Try.prog W = .ok (.bool false) W := fun W => by kernel_rfl
  have hown : (w.alloc (.cells #[] 24)).ownsRow w.heap.size 24 4 (.slice (some ⟨w.heap.size, 0, none⟩) 0 0) 0 [] := World.ownsRow_made w #[] 0 (Nat.le_refl _) (Nat.zero_le _) rfl
  have hc1 : ∀ j u, xs[j]? = some u → (w.alloc (.cells #[] 24)).cell? (ad.add j) = some u := fun j u hu => by
    have h := hc j u hu
    have hlt := World.block_lt_of_cell? w _ h
    rw [((Below.refl w.heap.size w).alloc (Nat.le_refl _) (.cells #[] 24)).cell hlt]
    exact h
  go_wp2_with (at_builtin; refine wpList_append_own_at _ rfl _ _ 22 rfl w.heap.size 24 i0 _ 4 56 Try.underlying22 hi0 hz0 hz1 hby rfl (by decide) _ 0 [] rfl hown ad len cap xs rfl hl hc1 h1 (by unfold maxLen; omega) (by omega) (by simp) ?_; intro v' w3 hown' hgrow hnil hat)
  go_ret
  rw [Nat.zero_add, List.nil_append] at hown'
  exact ⟨⟨_, rfl, hown'⟩, ((Below.refl _ w).alloc (Nat.le_refl _) _).grown hgrow (by simp) (fun k hk => (hown.lt k hk).1)⟩

end Go.Proofs.Ytabcekeeekbdiaa
