/-
  The document's counts in memory: a row of processes; how often; one more; some less.
-/
import Derived.Test.YtgfelddgiabeoaaFixB
import Derived.Maps.AppendAt
import Derived.OwnWalk
import Derived.Below
namespace Go.Proofs.Ytgfelddgiabeoaa
open Go.RowKit Go.Deep Go.Maps Go.WideShapes

theorem nums_kept {S : Nat → Prop} {w w' : World} {v : Value} {xs : List Int} (h : Nums w v xs) (ho : Only S w w') (hS : ∀ g, v.ownBlock = some g → ¬ S g) : Nums w' v xs := by
  obtain ⟨h1, h2⟩ := h
  refine ⟨h1, ?_⟩
  rcases h2 with h2 | ⟨b, cap, cur, rfl, hb, hh, hr⟩
  · exact Or.inl h2
  · exact Or.inr ⟨b, cap, cur, rfl, hb, ho.box hh (hS b rfl), hr⟩
theorem nums_lt {w : World} {v : Value} {xs : List Int} (h : Nums w v xs) {g : Nat} (hg : v.ownBlock = some g) : g < w.heap.size := (h.lt g hg).2
theorem intInfoF : (Try.prog.info? 3).map (fun i => (i.zero, i.size, i.bytes)) = some (some (.int .i64 0), 1, 8) := by kernel_rfl

/-- The document's count: its box at q, its row of processes v. -/
structure Rc (w : World) (q : Nat) (v : Value) (L : List Int) : Prop where
  box : w.heap[q]? = some (.cells #[v] 28)
  row : Nums w v L
  nv : v.ownBlock ≠ some q
theorem Rc.kept {T : Nat → Prop} {w w' : World} {q : Nat} {v : Value} {L : List Int} (h : Rc w q v L) (ho : Only T w w') (hT : ∀ k, (k = q ∨ v.ownBlock = some k) → ¬ T k) : Rc w' q v L :=
  ⟨ho.box h.box (hT q (Or.inl rfl)), nums_kept h.row ho (fun g hg => hT g (Or.inr hg)), h.nv⟩
theorem Rc.up {w w' : World} {q : Nat} {v : Value} {L : List Int} (h : Rc w q v L) (hb : Below w.heap.size w w') : Rc w' q v L := h.kept (T := fun _ => False) (Only.up hb) (fun _ _ f => f)
theorem Rc.lt {w : World} {q : Nat} {v : Value} {L : List Int} (h : Rc w q v L) {k : Nat} (hk : k = q ∨ v.ownBlock = some k) : k < w.heap.size := by
  rcases hk with rfl | hk
  · exact (Array.getElem?_eq_some_iff.1 h.box).1
  · exact nums_lt h.row hk
theorem Rc.cells {w : World} {q : Nat} {v : Value} {L : List Int} (h : Rc w q v L) : w.cell? ⟨q, 0, none⟩ = some v ∧ w.frozen? ⟨q, 0, none⟩ = false := by
  have h' := h.box
  simp [World.cell?, World.frozen?, h']
theorem Rc.slice {w : World} {q : Nat} {v : Value} {L : List Int} (h : Rc w q v L) : ∃ a cap, v = .slice a L.length cap ∧ CelI w L a := h.row.cel
/-- What a call on the document's count leaves. -/
def StepRc (w : World) (q : Nat) (v : Value) (L : List Int) (w' : World) : Prop :=
  ∃ v', Rc w' q v' L ∧ Only (fun k => k = q ∨ v.ownBlock = some k) w w' ∧ ∀ k, v'.ownBlock = some k → v.ownBlock = some k ∨ w.heap.size ≤ k
theorem Rc.step {w : World} {q : Nat} {v : Value} {L : List Int} (h : Rc w q v L) : StepRc w q v L w := ⟨v, h, Only.refl _ _, fun _ h => Or.inl h⟩

set_option maxRecDepth 100000 in
set_option maxHeartbeats 2000000 in
theorem ofRc_any (q : Nat) (v : Value) (L : List Int) (x : Int) (w : World) (h : Rc w q v L) (hL : L.length ≤ 1000) :
    Calls Try.prog 10 #[.pointer (some ⟨q, 0, none⟩), .int .i64 x] w fun e w' => e = .returned (.int .i64 (cnt x L)) ∧ w = w' := by
  obtain ⟨c0, f0⟩ := h.cells
  obtain ⟨a, cap, rfl, hc⟩ := h.slice
  have HC := Hid.mk hc
  have HL := Hid.mk hL
  clear h hL hc
  go_enter Try.func10, Try.ntmps10
  go_wp2
  go_loopw [5, 6] (fun nn ii wr => ∃ i : Nat, i ≤ L.length ∧ nn = .int .i64 (cnt x (L.take i)) ∧ ii = .int .i64 i ∧ wr = w) (fun _ ii _ => L.length - (Go.RowKit.intOf ii).toNat)
  case atStart => exact ⟨0, Nat.zero_le _, by simp [cnt], rfl, rfl⟩
  case round =>
    obtain ⟨i, hi, rfl, rfl, rfl⟩ := hrel
    have hL := HL.out
    by_cases hlt : i < L.length
    · obtain ⟨b, o, rfl, hcc⟩ := HC.out (by omega)
      have d0 := hcc i hlt
      have hst := cnt_take x hlt
      have hle := cnt_le x (L.take i)
      rw [List.length_take] at hle
      have hwi : IntKind.i64.wrap ((i : Int) + 1) = ((i + 1 : Nat) : Int) := by rw [wrap_id (by omega) (by omega)]; omega
      have HT := Hid.mk hlt
      have hli : (i : Int) < L.length := by omega
      obtain ⟨y, hy⟩ : ∃ y, L[i]'hlt = y := ⟨_, rfl⟩
      obtain ⟨m, hm⟩ : ∃ m, cnt x (L.take i) = m := ⟨_, rfl⟩
      rw [hy] at d0 hst
      rw [hm] at hst hle
      rw [hm]
      have hwm : IntKind.i64.wrap ((m : Int) + 1) = ((m + 1 : Nat) : Int) := by rw [wrap_id (by omega) (by omega)]; omega
      by_cases e : y = x
      · rw [if_pos e] at hst
        have hst := Hid.mk hst
        have hst' := hst
        have he : (y == x) = true := by simp [e]
        have e' := Hid.mk e
        clear hst hcc hle hm hy e hL
        go_wp2
        go_roundw
        case rel => exact ⟨i + 1, HT.out, by rw [hst'.out]; try go_num, by first | rfl | go_num, by first | rfl | trivial⟩
        case measure => have h1 : i < L.length := HT.out; simp [Go.RowKit.intOf]; omega
      · rw [if_neg e] at hst
        have hst := Hid.mk hst
        have hst' := hst
        have he : (y == x) = false := by simp [e]
        clear hst hcc hle hm hy hL
        go_wp2
        go_roundw
        case rel => exact ⟨i + 1, HT.out, by rw [hst'.out]; try go_num, by first | rfl | go_num, by first | rfl | trivial⟩
        case measure => have h1 : i < L.length := HT.out; simp [Go.RowKit.intOf]; omega
    · obtain rfl : i = L.length := by omega
      clear hlt hL
      go_wp2
      go_ret
      exact ⟨by simp, rfl⟩

set_option maxRecDepth 100000 in
set_option maxHeartbeats 2000000 in
theorem addRc_any (q : Nat) (v : Value) (L : List Int) (x : Int) (w : World) (h : Rc w q v L) (hL : L.length ≤ 1000) :
    Calls Try.prog 22 #[.pointer (some ⟨q, 0, none⟩), .int .i64 x] w fun e w' => e = .returned (.int .i64 (addE x)) ∧ StepRc w q v (addL x L) w' := by
  obtain ⟨c0, f0⟩ := h.cells
  have hR := Hid.mk h
  unfold addE addL
  by_cases h1 : x < 0
  · rw [pidOk_no (Or.inl h1)]
    clear h
    go_enter Try.func22, Try.ntmps22
    go_wp2
    go_ret
    exact ⟨rfl, hR.out.step⟩
  · by_cases h2 : 1073741824 < x
    · rw [pidOk_no (Or.inr h2)]
      clear h
      go_enter Try.func22, Try.ntmps22
      go_wp2
      go_ret
      exact ⟨rfl, hR.out.step⟩
    · rw [pidOk_yes (by omega) (by omega)]
      obtain ⟨a, cap, hv, _⟩ := h.slice
      obtain ⟨i0, hi0, hz0, hz1, hby⟩ := info_parts intInfoF
      have hle : ¬ (1073741824 : Int) ≤ L.length := by omega
      have hle' : ¬ 1073741824 ≤ L.length := by omega
      have HL := Hid.mk hL
      subst hv
      clear h hL
      go_enter Try.func22, Try.ntmps22
      go_wp2_with (first
        | (at_builtin; refine wpList_append_own_at _ rfl _ _ 26 rfl 0 3 i0 _ 1 8 Try.underlying26 hi0 hz0 hz1 hby rfl (by decide) (.slice a L.length cap) L.length _ rfl (hR.out.row.alloc _) ⟨w.heap.size, 0, none⟩ 1 1 [.int .i64 x] rfl rfl (cell_one_new _ _ _) (fun u hu => (by obtain rfl := List.mem_singleton.1 hu; rfl)) (by have := HL.out; unfold maxLen; omega) (by have := HL.out; omega) (by omega) ?_; intro v' w2 hown hgrow hnil hat; clear hnil; obtain ⟨a', cap', rfl⟩ := owns_slice hown
           have hbx := Hid.mk (grown_box hgrow hR.out.box hR.out.nv); have HO := Hid.mk hown; have HG := Hid.mk hgrow; have HA := Hid.mk hat; clear hown hgrow hat
           have c0 : w2.cell? ⟨q, 0, none⟩ = some (.slice a L.length cap) := (by have h' := hbx.out; simp [World.cell?, h'])
           have f0 : w2.frozen? ⟨q, 0, none⟩ = false := (by have h' := hbx.out; simp [World.frozen?, h'])))
      go_ret
      refine ⟨rfl, ?_⟩
      show StepRc w q _ (L ++ [x]) _
      have hq : q < w.heap.size := hR.out.lt (Or.inl rfl)
      have hnv : (Value.slice a' (L.length + 1) cap').ownBlock ≠ some q := by
        rcases HA.out with e | e
        · rw [e]; exact hR.out.nv
        · rw [e]; intro e2; cases e2; simp at hq; omega
      have hrow : Nums w2 (.slice a' (L.length + 1) cap') (L ++ [x]) := by
        unfold Nums
        rw [List.length_append, List.map_append]
        exact HO.out
      have o1 : Only (fun k => k = q ∨ (Value.slice a L.length cap).ownBlock = some k) w w2 := (Only.up ((Below.refl _ w).alloc (Nat.le_refl _) _)).grow HG.out (fun k hk => Or.inr hk)
      refine ⟨(.slice a' (L.length + 1) cap'), ⟨?_, nums_kept hrow (Only.set (S := fun k => k = q) w2 (.slice a' (L.length + 1) cap') rfl) (fun g hg e => hnv (by rw [hg, e])), hnv⟩, o1.put (Or.inl rfl) 0 _, fun k hk => ?_⟩
      · have h' := hbx.out
        simp [World.setCell, Array.getElem?_modify, h']
      · rcases HA.out with e | e
        · exact Or.inl (by rw [← e]; exact hk)
        · rw [e] at hk
          cases hk
          exact Or.inr (by simp)

end Go.Proofs.Ytgfelddgiabeoaa
