/-
  The program's tables of atoms: all texts of a table; a table that nobody made.
-/
import Derived.Test.YtjmjifjmenmdgaaAtomC
import Derived.OwnWalk
namespace Go.Proofs.Ytjmjifjmenmdgaa
open Go.RowKit Go.Deep Go.Maps Go.WideShapes Go.WideMaps

/-- A row that is filled from the front. -/
def part (L : List ByteArray) (i : Nat) : List Value := (L.take i).map .string ++ List.replicate (L.length - i) (.string ⟨#[]⟩)
theorem part_zero (L : List ByteArray) : part L 0 = List.replicate L.length (.string ⟨#[]⟩) := by simp [part]
theorem part_all (L : List ByteArray) : part L L.length = L.map .string := by simp [part]
theorem part_next (L : List ByteArray) (i : Nat) (h : i < L.length) : (part L i).set i (.string L[i]) = part L (i + 1) := by
  have e : L.length - i = (L.length - (i + 1)) + 1 := by omega
  have hl : ((L.take i).map Value.string).length = i := by simp; omega
  rw [part, part, e, List.replicate_succ, List.set_append_right i (Value.string L[i]) (by rw [hl]; exact Nat.le_refl _), hl, Nat.sub_self, List.set_cons_zero, List.take_succ_eq_append_getElem h, List.map_append, List.append_assoc]
  rfl
theorem part_length (L : List ByteArray) (i : Nat) (h : i ≤ L.length) : (part L i).length = L.length := by
  simp [part]
  omega

theorem ownsRow_up {w w' : World} {base : Nat} {e : TypeId} {size : Nat} {v : Value} {n : Nat} {xs : List Value} (h : w.ownsRow base e size v n xs) (hb : Below w.heap.size w w') : w'.ownsRow base e size v n xs :=
  h.kept (row := none) ⟨hb.os, hb.tape, hb.output, hb.size, fun k hk _ => hb.block k hk⟩ (by cases hv : v.ownBlock <;> simp)

set_option maxRecDepth 100000 in
set_option maxHeartbeats 2000000 in
theorem all_any (p bm : Nat) (v : Value) (L : List ByteArray) (w : World) (h : Tab w p bm v L) :
    Calls Try.prog 17 #[.pointer (some ⟨p, 0, none⟩)] w fun e w' => ∃ v', e = .returned v' ∧ Texts w' v' L ∧ (∀ g, v'.ownBlock = some g → w.heap.size ≤ g) ∧ Below w.heap.size w w' := by
  obtain ⟨c1, c2, c3, f2, f3⟩ := boxT_cells h.boxT
  obtain ⟨a, cap, hv⟩ := h.row.slice
  subst hv
  have hT := Hid.mk h
  have hL := Hid.mk h.good.few
  obtain ⟨i0, hi0, hz0, hz1, hby⟩ := info_parts textInfo
  clear h
  go_enter Try.func17, Try.ntmps17
  go_wp2_with (first
    | (go_at_call 20; refine (made_yes _ _ _ _ _ hT.out).mono ?_; rintro e w1 ⟨rfl, rfl⟩)
    | (at_make; refine wpList_make_full _ rfl _ _ 22 rfl 0 9 i0 _ 1 Try.underlying22 hi0 hz0 hz1 .i64 .i64 L.length L.length L.length rfl rfl rfl rfl (by rw [hby]; have := hL.out; omega) (by have := hL.out; unfold maxLen; omega) (by omega) ?_; intro w1 hown hgrow; have HO := Hid.mk hown; have HG := Hid.mk hgrow; have HB := Hid.mk ((Below.refl w.heap.size w).grown hgrow (Nat.le_refl _) (fun k hk => by cases hk)); clear hown hgrow; have hT1 := Hid.mk (hT.out.up HB.out); obtain ⟨c1, c2, c3, f2, f3⟩ := boxT_cells hT1.out.boxT))
  go_loopw [20] (fun ii wr => ∃ i : Nat, i ≤ L.length ∧ ii = .int .i64 i ∧ wr.ownsRow 0 9 1 (.slice (some ⟨w.heap.size, 0, none⟩) L.length L.length) L.length (part L i) ∧ Below w.heap.size w wr) (fun ii _ => L.length - (intOf ii).toNat)
  case atStart =>
    refine ⟨0, Nat.zero_le _, rfl, ?_, HB.out⟩
    have := HO.out
    rw [part_zero]
    simpa [toList_madeCells_one, Value.cells] using this
  case round =>
    obtain ⟨i, hi, rfl, hown, hb⟩ := hrel
    have hTr := hT.out.up hb
    by_cases hlt : i < L.length
    · obtain ⟨g, cap', hv, hc⟩ := hTr.row.at_ (by omega)
      simp only [Value.slice.injEq, true_and] at hv
      obtain ⟨rfl, rfl⟩ := hv
      have hci := hc i hlt
      have hs := Hid.mk (show L[i].size ≤ 64 from hTr.good.short _ (List.getElem_mem hlt))
      have hpn := Hid.mk (part_next L i hlt)
      have hpl := Hid.mk (part_length L i hi)
      obtain ⟨x, hx⟩ : ∃ x, L[i] = x := ⟨_, rfl⟩
      rw [hx] at hci hs hpn
      have HO' := Hid.mk hown
      have HB' := Hid.mk hb
      have HL := Hid.mk hlt
      have hwi : IntKind.i64.wrap ((i : Int) + 1) = ((i + 1 : Nat) : Int) := by have := hL.out; rw [wrap_id (by omega) (by omega)]; omega
      clear hc hx hTr hown hb HO
      go_wp2_with (first
        | (go_at_call 26; refine (clone_any _ _ (by have := hs.out; omega)).mono ?_; rintro e w2 ⟨rfl, hb2⟩
           have HB2 := Hid.mk hb2
           have ho2 := ownsRow_up HO'.out hb2
           have hcl : w2.cell? ⟨w.heap.size, i, none⟩ = some ((part L i)[i]'(by rw [hpl.out]; exact hlt)) := by
             rw [ho2.cellAt i (by omega)]; exact List.getElem?_eq_getElem _
           have hfr := ho2.frozenAt i
           have HO2 := Hid.mk ho2
           clear hb2 ho2))
      go_roundw
      case rel =>
        have h1 : i < L.length := HL.out
        have h2 : L.length ≤ 4096 := hL.out
        have hst := (HO2.out.stored i (.string x)).1
        rw [hpn.out] at hst
        exact ⟨i + 1, HL.out, rfl, hst, (HB'.out.trans (HB2.out.mono HB'.out.size)).setCell (Nat.le_refl _) _⟩
      case measure =>
        have h1 : i < L.length := HL.out
        have h2 : L.length ≤ 4096 := hL.out
        simp [intOf]
        omega
    · obtain rfl : i = L.length := by omega
      have HO' := Hid.mk hown
      have HB' := Hid.mk hb
      clear hTr hown hb HO
      go_wp2
      go_ret
      refine ⟨_, rfl, ?_, fun g hg => by cases hg; exact Nat.le_refl _, HB'.out⟩
      have := HO'.out
      rwa [part_all] at this

end Go.Proofs.Ytjmjifjmenmdgaa
