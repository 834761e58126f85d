/-
  The bytes of a term, as plain mathematics: of terms that may be they tell which term it is.
-/
import Derived.Test.YtnelefokpopfdaaDoorOrdPlain
namespace Go.Proofs.YtnelefokpopfdaaDoor
open Go.RowKit Go.Deep

/-- The lowest byte of a number. -/
def b8 (x : Int) : UInt8 := UInt8.ofNat (x % 256).toNat
/-- A number as 64 bits, the lowest byte first. -/
def le8 (n : Int) : List UInt8 := [b8 n, b8 (n / 256), b8 (n / 65536), b8 (n / 16777216), b8 (n / 4294967296), b8 (n / 1099511627776), b8 (n / 281474976710656), b8 (n / 72057594037927936)]
mutual
def Tm.bytes : Tm → List UInt8
  | .mk k n s l => b8 k :: ((if k = 1 ∨ k = 3 ∨ k = 4 ∨ k = 6 ∨ k = 5 then le8 n else if k = 2 then b8 s.size :: s.toList else []) ++ ((if k = 7 ∨ k = 5 then [b8 l.length] else []) ++ (if k = 7 ∨ k = 5 ∨ k = 9 then bytesL l else [])))
def bytesL : List Tm → List UInt8
  | [] => []
  | t :: r => t.bytes ++ bytesL r
end
theorem bytes_mk (k n : Int) (s : ByteArray) (l : List Tm) : (Tm.mk k n s l).bytes = b8 k :: ((if k = 1 ∨ k = 3 ∨ k = 4 ∨ k = 6 ∨ k = 5 then le8 n else if k = 2 then b8 s.size :: s.toList else []) ++ ((if k = 7 ∨ k = 5 then [b8 l.length] else []) ++ (if k = 7 ∨ k = 5 ∨ k = 9 then bytesL l else []))) := by rw [Tm.bytes]
theorem bytesL_cons (t : Tm) (r : List Tm) : bytesL (t :: r) = t.bytes ++ bytesL r := by rw [bytesL]
theorem bytesL_nil : bytesL [] = [] := by rw [bytesL]

theorem b8_toNat (x : Int) : ((b8 x).toNat : Int) = x % 256 := by
  unfold b8
  rw [UInt8.toNat_ofNat']
  have := Int.emod_nonneg x (by omega : (256 : Int) ≠ 0)
  have := Int.emod_lt_of_pos x (by omega : (0 : Int) < 256)
  omega
theorem b8_eq {x y : Int} (h : b8 x = b8 y) : x % 256 = y % 256 := by rw [← b8_toNat, ← b8_toNat, h]
theorem le8_inj {n m : Int} (h : le8 n = le8 m) (h0 : -9223372036854775808 ≤ n) (h1 : n ≤ 9223372036854775807) (h2 : -9223372036854775808 ≤ m) (h3 : m ≤ 9223372036854775807) : n = m := by
  unfold le8 at h
  simp only [List.cons.injEq, and_true] at h
  obtain ⟨e0, e1, e2, e3, e4, e5, e6, e7⟩ := h
  have e0 := b8_eq e0
  have e1 := b8_eq e1
  have e2 := b8_eq e2
  have e3 := b8_eq e3
  have e4 := b8_eq e4
  have e5 := b8_eq e5
  have e6 := b8_eq e6
  have e7 := b8_eq e7
  omega
theorem le8_length (n : Int) : (le8 n).length = 8 := rfl
theorem toList_length (s : ByteArray) : s.toList.length = s.size := by
  rw [ByteArray.toList_eq]
  simp

theorem bytesL_inj (l : List Tm) (ih : ∀ t ∈ l, ∀ (U : Tm) (r r' : List UInt8), t.fits = true → U.fits = true → t.bytes ++ r = U.bytes ++ r' → t = U ∧ r = r') :
    ∀ (l' : List Tm) (r r' : List UInt8), (∀ t ∈ l, t.fits = true) → (∀ t ∈ l', t.fits = true) → l.length = l'.length → bytesL l ++ r = bytesL l' ++ r' → l = l' ∧ r = r' := by
  induction l with
  | nil =>
    intro l' r r' _ _ hl h
    obtain rfl := List.eq_nil_of_length_eq_zero hl.symm
    exact ⟨rfl, by simpa [bytesL_nil] using h⟩
  | cons a q ihq =>
    intro l' r r' h1 h2 hl h
    match l', hl with
    | b :: q', hl =>
      rw [bytesL_cons, bytesL_cons, List.append_assoc, List.append_assoc] at h
      obtain ⟨rfl, h'⟩ := ih a List.mem_cons_self b _ _ (h1 a List.mem_cons_self) (h2 b List.mem_cons_self) h
      obtain ⟨rfl, h''⟩ := ihq (fun t ht => ih t (List.mem_cons_of_mem _ ht)) q' r r' (fun t ht => h1 t (List.mem_cons_of_mem _ ht)) (fun t ht => h2 t (List.mem_cons_of_mem _ ht)) (by simpa using hl) h'
      exact ⟨rfl, h''⟩

theorem bytes_inj (T : Tm) : ∀ (U : Tm) (r r' : List UInt8), T.fits = true → U.fits = true → T.bytes ++ r = U.bytes ++ r' → T = U ∧ r = r' := by
  induction T using Tm.induct with
  | h k n s l ih =>
    intro U r r' hT hU h
    obtain ⟨k', n', s', l'⟩ := U
    rw [fits_mk, Bool.and_eq_true] at hT hU
    have hm := fitss_at hT.2
    have hm' := fitss_at hU.2
    have hf := hT.1
    have hf' := hU.1
    unfold fitB at hf hf'
    simp only [decide_eq_true_eq] at hf hf'
    rw [bytes_mk, bytes_mk, List.cons_append, List.cons_append, List.cons.injEq] at h
    obtain ⟨hk, h⟩ := h
    have hk := b8_eq hk
    obtain rfl : k = k' := by omega
    clear hk
    have hnil : l.length = 0 → l'.length = 0 → l = l' := fun h h' => by rw [List.eq_nil_of_length_eq_zero h, List.eq_nil_of_length_eq_zero h']
    have hs0 : s.size = 0 → s'.size = 0 → s = s' := bytes_size0
    have hL := bytesL_inj l (fun t ht U r r' => ih t ht U r r') l'
    by_cases h1 : k = 1 ∨ k = 3 ∨ k = 4 ∨ k = 6
    · have c1 : (k = 1 ∨ k = 3 ∨ k = 4 ∨ k = 6 ∨ k = 5) := by omega
      have c3 : ¬ (k = 7 ∨ k = 5) := by omega
      have c4 : ¬ (k = 7 ∨ k = 5 ∨ k = 9) := by omega
      simp only [if_pos c1, if_neg c3, if_neg c4, List.append_nil] at h
      obtain ⟨e1, e2⟩ := List.append_inj h (by rw [le8_length, le8_length])
      have := le8_inj e1 (by omega) (by omega) (by omega) (by omega)
      subst this
      exact ⟨by rw [hs0 (by omega) (by omega), hnil (by omega) (by omega)], e2⟩
    by_cases h2 : k = 2
    · have c1 : ¬ (k = 1 ∨ k = 3 ∨ k = 4 ∨ k = 6 ∨ k = 5) := by omega
      have c2 : (k = 2) := by omega
      have c3 : ¬ (k = 7 ∨ k = 5) := by omega
      have c4 : ¬ (k = 7 ∨ k = 5 ∨ k = 9) := by omega
      simp only [if_neg c1, if_pos c2, if_neg c3, if_neg c4, List.append_nil, List.cons_append, List.cons.injEq] at h
      have hz := b8_eq h.1
      obtain ⟨e1, e2⟩ := List.append_inj h.2 (by rw [toList_length, toList_length]; omega)
      rw [bytes_toList e1, hnil (by omega) (by omega), show n = n' by omega]
      exact ⟨rfl, e2⟩
    by_cases h5 : k = 5
    · have c1 : (k = 1 ∨ k = 3 ∨ k = 4 ∨ k = 6 ∨ k = 5) := by omega
      have c3 : (k = 7 ∨ k = 5) := by omega
      have c4 : (k = 7 ∨ k = 5 ∨ k = 9) := by omega
      simp only [if_pos c1, if_pos c3, if_pos c4, List.nil_append, List.append_assoc, List.cons_append] at h
      obtain ⟨e1, e2⟩ := List.append_inj h (by rw [le8_length, le8_length])
      have := le8_inj e1 (by omega) (by omega) (by omega) (by omega)
      subst this
      simp only [List.cons.injEq] at e2
      have hz := b8_eq e2.1
      obtain ⟨rfl, e3⟩ := hL r r' hm hm' (by omega) e2.2
      exact ⟨by rw [hs0 (by omega) (by omega)], e3⟩
    by_cases h7 : k = 7
    · have c1 : ¬ (k = 1 ∨ k = 3 ∨ k = 4 ∨ k = 6 ∨ k = 5) := by omega
      have c2 : ¬ (k = 2) := by omega
      have c3 : (k = 7 ∨ k = 5) := by omega
      have c4 : (k = 7 ∨ k = 5 ∨ k = 9) := by omega
      simp only [if_neg c1, if_neg c2, if_pos c3, if_pos c4, List.nil_append, List.cons_append, List.cons.injEq] at h
      have hz := b8_eq h.1
      obtain ⟨rfl, e3⟩ := hL r r' hm hm' (by omega) h.2
      exact ⟨by rw [hs0 (by omega) (by omega), show n = n' by omega], e3⟩
    by_cases h9 : k = 9
    · have c1 : ¬ (k = 1 ∨ k = 3 ∨ k = 4 ∨ k = 6 ∨ k = 5) := by omega
      have c2 : ¬ (k = 2) := by omega
      have c3 : ¬ (k = 7 ∨ k = 5) := by omega
      have c4 : (k = 7 ∨ k = 5 ∨ k = 9) := by omega
      simp only [if_neg c1, if_neg c2, if_neg c3, if_pos c4, List.nil_append] at h
      obtain ⟨rfl, e3⟩ := hL r r' hm hm' (by omega) h
      exact ⟨by rw [hs0 (by omega) (by omega), show n = n' by omega], e3⟩
    · have c1 : ¬ (k = 1 ∨ k = 3 ∨ k = 4 ∨ k = 6 ∨ k = 5) := by omega
      have c2 : ¬ (k = 2) := by omega
      have c3 : ¬ (k = 7 ∨ k = 5) := by omega
      have c4 : ¬ (k = 7 ∨ k = 5 ∨ k = 9) := by omega
      simp only [if_neg c1, if_neg c2, if_neg c3, if_neg c4, List.nil_append] at h
      exact ⟨by rw [hs0 (by omega) (by omega), hnil (by omega) (by omega), show n = n' by omega], h⟩

/-- Terms that may be have the same bytes just if they are the same. -/
theorem bytes_same {T U : Tm} (hT : T.fits = true) (hU : U.fits = true) : T.bytes = U.bytes ↔ T = U :=
  ⟨fun h => (bytes_inj T U [] [] hT hU (by rw [h])).1, fun h => by rw [h]⟩

end Go.Proofs.YtnelefokpopfdaaDoor
