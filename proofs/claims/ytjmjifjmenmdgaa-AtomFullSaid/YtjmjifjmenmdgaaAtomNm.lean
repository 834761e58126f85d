/-
  The text of a number, as the law makes it.
-/
import Derived.Test.YtjmjifjmenmdgaaAtomW
import Derived.OwnWalk
namespace Go.Proofs.Ytjmjifjmenmdgaa
open Go.RowKit Go.Deep Go.Maps Go.WideShapes Go.WideMaps

def nmD (n j : Nat) : Nat := 97 + n / 26 ^ j % 26
def nmL (n long : Nat) : List UInt8 := (List.range long).map fun j => UInt8.ofNat (nmD n j)
def nm (n long : Nat) : ByteArray := ⟨(nmL n long).toArray⟩
theorem nm_size (n long : Nat) : (nm n long).size = long := by
  show (nmL n long).toArray.size = long
  simp [nmL]
theorem nmD_lt (n j : Nat) : nmD n j < 123 := by unfold nmD; omega
theorem nmL_at (n long j : Nat) (h : j < (nmL n long).length) : (nmL n long)[j].toNat = nmD n j := by
  have := nmD_lt n j
  simp [nmL]
  omega
theorem nm_inj {n m long : Nat} (h4 : 4 ≤ long) (hn : n < 17576) (hm : m < 17576) (h : nm n long = nm m long) : n = m := by
  have hl : nmL n long = nmL m long := by
    have := congrArg (fun b : ByteArray => b.data.toList) h
    simpa [nm] using this
  have hd : ∀ j, j < long → nmD n j = nmD m j := fun j hj => by
    have h1 : j < (nmL n long).length := by simp [nmL, hj]
    have h2 : j < (nmL m long).length := by simp [nmL, hj]
    have e1 := nmL_at n long j h1
    have e2 := nmL_at m long j h2
    have : (nmL n long)[j] = (nmL m long)[j] := by simp [hl]
    rw [← e1, ← e2, this]
  have d0 := hd 0 (by omega)
  have d1 := hd 1 (by omega)
  have d2 := hd 2 (by omega)
  simp only [nmD] at d0 d1 d2
  simp at d0 d1 d2
  omega
/-- The row while it is filled. -/
def nmP (n long i : Nat) : List Value := ((List.range i).map fun j => .int .u8 (nmD n j : Nat)) ++ List.replicate (long - i) (.int .u8 0)
theorem nmP_zero (n long : Nat) : nmP n long 0 = List.replicate long (.int .u8 0) := by simp [nmP]
theorem nmP_next (n long i : Nat) (h : i < long) : (nmP n long i).set i (.int .u8 (nmD n i : Nat)) = nmP n long (i + 1) := by
  have e : long - i = (long - (i + 1)) + 1 := by omega
  have hl : ((List.range i).map fun j => Value.int .u8 (nmD n j : Nat)).length = i := by simp
  rw [nmP, nmP, e, List.replicate_succ, List.set_append_right i _ (by rw [hl]; exact Nat.le_refl _), hl, Nat.sub_self, List.set_cons_zero, List.range_succ, List.map_append, List.append_assoc]
  rfl
theorem nmP_length (n long i : Nat) (h : i ≤ long) : (nmP n long i).length = long := by simp [nmP]; omega
theorem conv_nm {w : World} {g n long : Nat} (h : w.ownsRow 0 5 1 (.slice (some ⟨g, 0, none⟩) long long) long (nmP n long long)) :
    (convert 47 9 (.slice (some ⟨g, 0, none⟩) long long)).run Try.prog w = .ok (.string (nm n long)) w := by
  have hll : (nmL n long).length = long := by simp [nmL]
  have := run_convert_bytes_back (P := Try.prog) w 47 9 5 ⟨g, 0, none⟩ long (nmL n long) Try.underlying47 Try.underlying5 Try.underlying9 (fun j hj => by
    have hj' : j < long := by rw [hll] at hj; exact hj
    have hc := h.cellAt j (by omega)
    have e : (⟨g, 0, none⟩ : Addr).add j = ⟨g, j, none⟩ := by simp [Addr.add]; intro h; exact h.symm
    rw [e, hc, nmL_at n long j hj]
    simp [nmP, hj'])
  rw [hll] at this
  exact this

set_option maxRecDepth 100000 in
set_option maxHeartbeats 2000000 in
theorem nm_any (n long : Nat) (w : World) (hn : n ≤ 1000000) (hl : long ≤ 1000) : Calls Try.prog 19 #[.int .i64 n, .int .i64 long] w fun e w' => e = .returned (.string (nm n long)) ∧ Below w.heap.size w w' := by
  obtain ⟨i0, hi0, hz0, hz1, hby⟩ := info_parts byteInfo6
  have HL := Hid.mk hl
  have HNn := Hid.mk hn
  clear hl hn
  go_enter Try.func19, Try.ntmps19
  go_wp2_with (first
    | (at_make; refine wpList_make_full _ rfl _ _ 47 rfl 0 5 i0 _ 1 Try.underlying47 hi0 hz0 hz1 .i64 .i64 long long long rfl rfl rfl rfl (by rw [hby]; have := HL.out; omega) (by have := HL.out; unfold maxLen; omega) (by omega) ?_; intro w1 hown hgrow; have HO := Hid.mk hown; have HB := Hid.mk ((Below.refl w.heap.size w).grown hgrow (Nat.le_refl _) (fun k hk => by cases hk)); clear hown hgrow))
  go_loopw [0, 6] (fun nn ii wr => ∃ i : Nat, i ≤ long ∧ ii = .int .i64 i ∧ nn = .int .i64 (n / 26 ^ i : Nat) ∧ wr.ownsRow 0 5 1 (.slice (some ⟨w.heap.size, 0, none⟩) long long) long (nmP n long i) ∧ Below w.heap.size w wr) (fun _ ii _ => long - (intOf ii).toNat)
  case atStart =>
    refine ⟨0, Nat.zero_le _, rfl, by simp, ?_, HB.out⟩
    have := HO.out
    rw [nmP_zero]
    simpa [toList_madeCells_one, Value.cells] using this
  case round =>
    obtain ⟨i, hi, rfl, rfl, hown, hb⟩ := hrel
    by_cases hlt : i < long
    · have hpn := Hid.mk (nmP_next n long i hlt)
      have hcl : wr.cell? ⟨w.heap.size, i, none⟩ = some ((nmP n long i)[i]'(by rw [nmP_length n long i hi]; exact hlt)) := by
        rw [hown.cellAt i (by omega)]; exact List.getElem?_eq_getElem _
      have hfr := hown.frozenAt i
      have hwi : IntKind.i64.wrap ((i : Int) + 1) = ((i + 1 : Nat) : Int) := by have := HL.out; rw [wrap_id (by omega) (by omega)]; omega
      have hp1 := Hid.mk (show n / 26 ^ (i + 1) = n / 26 ^ i / 26 by rw [Nat.pow_succ, Nat.div_div_eq_div_mul])
      have hD := Hid.mk (show nmD n i = 97 + n / 26 ^ i % 26 from rfl)
      have hMle := Hid.mk (show n / 26 ^ i ≤ 1000000 from Nat.le_trans (Nat.div_le_self _ _) HNn.out)
      generalize n / 26 ^ i = M at hp1 hD hMle ⊢
      have HO' := Hid.mk hown
      have HB' := Hid.mk hb
      have HL' := Hid.mk hlt
      clear HO hown hb
      have hwm : IntKind.i64.wrap ((M : Int) / 26) = ((M / 26 : Nat) : Int) := by have := hMle.out; rw [wrap_id (by omega) (by omega)]; omega
      go_wp2
      go_roundw
      case rel =>
        have hst := (HO'.out.stored i (.int .u8 (nmD n i : Nat))).1
        rw [hpn.out] at hst
        have hv : (97 + (M : Int) % 26) = ((nmD n i : Nat) : Int) := by rw [hD.out]; omega
        refine ⟨i + 1, HL'.out, by first | rfl | go_num, by rw [hp1.out]; first | rfl | go_num, ?_, (HB'.out).setCell (Nat.le_refl _) _⟩
        rw [hv]
        exact hst
      case measure =>
        have h1 : i < long := HL'.out
        simp [intOf]
        omega
    · obtain rfl : i = long := by omega
      have hcv := conv_nm hown
      have HB' := Hid.mk hb
      clear HO hown hb
      go_wp2
      go_ret
      exact ⟨rfl, HB'.out⟩

end Go.Proofs.Ytjmjifjmenmdgaa
