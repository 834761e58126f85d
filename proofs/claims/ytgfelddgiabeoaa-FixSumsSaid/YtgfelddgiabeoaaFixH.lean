/-
  The document's counts: who has fixed. Numbers written over.
-/
import Derived.Test.YtgfelddgiabeoaaFixS
namespace Go.Proofs.Ytgfelddgiabeoaa
open Go.RowKit Go.Deep Go.Maps Go.WideShapes

/-- How long a slice is: for a loop's measure. -/
def lenV : Value → Nat
  | .slice _ n _ => n
  | _ => 0

set_option maxRecDepth 100000 in
set_option maxHeartbeats 4000000 in
theorem holdRc_any (q : Nat) (v : Value) (L : List Int) (w : World) (h : Rc w q v L) (hg : ∀ x ∈ L, 0 ≤ x ∧ x ≤ 1073741824) (hL : L.length ≤ 1000) :
    Calls Try.prog 14 #[.pointer (some ⟨q, 0, none⟩)] w fun e w' => ∃ v, e = .returned v ∧ Nums w' v (hold L) ∧ Below w.heap.size w w' := by
  obtain ⟨a, cap, rfl, hc⟩ := h.slice
  obtain ⟨i0, hi0, hz0, hz1, hby⟩ := info_parts intInfoF
  have HR := Hid.mk h
  have HL := Hid.mk (And.intro hL (hold_len L))
  have HG := Hid.mk hg
  clear h hL hc hg
  go_enter Try.func14, Try.ntmps14
  go_wp2
  go_loopw [3, 4] (fun oo ll wr => ∃ (j : Nat) (uu : Value), uu = oo ∧ ll = .int .i64 (lastOf L j) ∧ Hid (j ≤ (hold L).length ∧ ((hold L).take j).length = j) ∧ Hid (wr.ownsRow w.heap.size 3 1 uu j (((hold L).take j).map (.int .i64))) ∧ Hid (Below w.heap.size w wr)) (fun oo _ _ => (hold L).length + 1 - lenV oo)
  case atStart => exact ⟨0, _, rfl, rfl, Hid.mk ⟨Nat.zero_le _, rfl⟩, Hid.mk ⟨rfl, Or.inl ⟨rfl, rfl⟩⟩, Hid.mk (Below.refl _ _)⟩
  case round =>
    obtain ⟨j, uu, rfl, rfl, hJ, hU, hW⟩ := hrel
    obtain ⟨la, hla⟩ : ∃ la, lastOf L j = la := ⟨_, rfl⟩
    rw [hla]
    have HLA := Hid.mk hla
    clear hla
    go_wp2
    go_loopw [5, 6] (fun nn ii w2 => ∃ (i : Nat), i ≤ L.length ∧ nn = .int .i64 (nxt la (L.take i)) ∧ ii = .int .i64 i ∧ w2 = wr) (fun _ ii _ => L.length - (Go.RowKit.intOf ii).toNat)
    case atStart => exact ⟨0, Nat.zero_le _, rfl, rfl, rfl⟩
    case round =>
      obtain ⟨i, hi, rfl, rfl, rfl⟩ := hrel
      have hR := HR.out.up hW.out
      obtain ⟨c0, f0⟩ := hR.cells
      have hLL := HL.out.1
      by_cases hlt : i < L.length
      · obtain ⟨a', cap', hv, hcc⟩ := hR.slice
        simp only [Value.slice.injEq, true_and] at hv
        obtain ⟨rfl, rfl⟩ := hv
        obtain ⟨b, o, rfl, hcell⟩ := hcc (by omega)
        have d0 := hcell i hlt
        have hst := nxt_take la hlt
        have hwi : IntKind.i64.wrap ((i : Int) + 1) = ((i + 1 : Nat) : Int) := by rw [wrap_id (by omega) (by omega)]; omega
        have HT := Hid.mk hlt
        have hli : (i : Int) < L.length := by omega
        obtain ⟨y, hy⟩ : ∃ y, L[i]'hlt = y := ⟨_, rfl⟩
        obtain ⟨n, hn⟩ : ∃ n, nxt la (L.take i) = n := ⟨_, rfl⟩
        rw [hy] at d0 hst
        rw [hn] at hst ⊢
        by_cases hA : la < y
        · by_cases hB : n < 0
          · rw [if_pos ⟨hA, Or.inl hB⟩] at hst
            have HS := Hid.mk hst
            clear hst hcell hcc hy hn hLL hR
            go_wp2
            go_roundw
            case rel => exact ⟨i + 1, HT.out, by rw [HS.out], by first | rfl | go_num, by first | rfl | trivial⟩
            case measure => have h1 : i < L.length := HT.out; simp [Go.RowKit.intOf]; omega
          · by_cases hC : y < n
            · rw [if_pos ⟨hA, Or.inr hC⟩] at hst
              have HS := Hid.mk hst
              clear hst hcell hcc hy hn hLL hR
              go_wp2
              go_roundw
              case rel => exact ⟨i + 1, HT.out, by rw [HS.out], by first | rfl | go_num, by first | rfl | trivial⟩
              case measure => have h1 : i < L.length := HT.out; simp [Go.RowKit.intOf]; omega
            · rw [if_neg (fun hh => hh.2.elim hB hC)] at hst
              have HS := Hid.mk hst
              clear hst hcell hcc hy hn hLL hR
              go_wp2
              go_roundw
              case rel => exact ⟨i + 1, HT.out, by rw [HS.out], by first | rfl | go_num, by first | rfl | trivial⟩
              case measure => have h1 : i < L.length := HT.out; simp [Go.RowKit.intOf]; omega
        · rw [if_neg (fun hh => hA hh.1)] at hst
          have HS := Hid.mk hst
          clear hst hcell hcc hy hn hLL hR
          go_wp2
          go_roundw
          case rel => exact ⟨i + 1, HT.out, by rw [HS.out], by first | rfl | go_num, by first | rfl | trivial⟩
          case measure => have h1 : i < L.length := HT.out; simp [Go.RowKit.intOf]; omega
      · obtain rfl : i = L.length := by omega
        rw [List.take_length]
        clear hlt hLL
        by_cases hj : j < (hold L).length
        · have hnx := nxt_hold (fun x hx => (HG.out x hx).1) hj
          rw [HLA.out] at hnx
          rw [hnx]
          have hls := lastOf_succ hj
          obtain ⟨y, hy⟩ : ∃ y, (hold L)[j]'hj = y := ⟨_, rfl⟩
          have hy0 := (HG.out _ (hold_mem.1 (List.getElem_mem hj))).1
          have htk := List.take_succ_eq_append_getElem hj
          rw [hy] at hls hy0 htk ⊢
          have hn0 : ¬ y < 0 := by omega
          have HT := Hid.mk (And.intro hj (And.intro htk hls))
          clear hnx hls hy hy0 hj htk hR
          go_wp2_with (at_builtin; refine wpList_append_own_at _ rfl _ _ 26 rfl w.heap.size 3 i0 _ 1 8 Try.underlying26 hi0 hz0 hz1 hby rfl (by decide) uu j _ rfl (hU.out.alloc _) ⟨wr.heap.size, 0, none⟩ 1 1 [.int .i64 y] rfl rfl (cell_one_new _ _ _) (fun u hu => (by obtain rfl := List.mem_singleton.1 hu; rfl)) (by have := HL.out; have := hJ.out; unfold maxLen; omega) (by have := HL.out; have := hJ.out; omega) (by have := hW.out.size; simp; omega) ?_; intro u' w3 hown hgrow hnil hat; clear hnil hat
                       have HO := Hid.mk hown; have HGr := Hid.mk (((hW.out.alloc hW.out.size _).grown hgrow (by have := hW.out.size; simp; omega) (fun k hk => (hU.out.lt k hk).1))); clear hown hgrow)
          have HV := Hid.mk (show lenV uu = j ∧ lenV u' = j + 1 from ⟨(by obtain ⟨_, _, e⟩ := owns_slice hU.out; rw [e]; rfl), (by obtain ⟨_, _, e⟩ := owns_slice HO.out; rw [e]; rfl)⟩)
          go_roundw
          case rel => exact ⟨j + 1, _, rfl, by rw [HT.out.2.2], Hid.mk ⟨HT.out.1, by have := HT.out.1; simp; omega⟩, by rw [HT.out.2.1, List.map_append]; exact HO, HGr⟩
          case measure => have h1 : j < (hold L).length := HT.out.1; have h2 := HV.out; omega
        · obtain rfl : j = (hold L).length := by have := hJ.out; omega
          have hnx := nxt_end (l := L) (fun x hx => (HG.out x hx).1)
          rw [HLA.out] at hnx
          rw [hnx]
          clear hj hnx hR
          go_wp2
          go_ret
          refine ⟨uu, rfl, ?_, hW.out⟩
          have := hU.out
          rw [List.take_length] at this
          exact ownsRow_base_a this (Nat.zero_le _)

set_option maxHeartbeats 1000000 in
theorem overInts_any (xs : List Int) (a : Option Addr) (n cap : Nat) (w : World) (h : Nums w (.slice a n cap) xs) :
    Calls Try.prog 15 #[.slice a n cap] w fun e w' => (∃ u, e = .returned u) ∧ Only (fun k => (Value.slice a n cap).ownBlock = some k) w w' := by
  rcases h.2 with ⟨he, _⟩ | ⟨g, cap', cur, he, _, hh, hn, hm, hs, _⟩
  · cases he
    go_enter Try.func15, Try.ntmps15
    go_wp2
    go_loop [2] (fun ii => ii = .int .i64 0) (fun _ => 0)
    case atStart => rfl
    case round =>
      obtain rfl := hrel
      go_wp2
      go_end0
      exact ⟨⟨_, rfl⟩, Only.refl _ _⟩
  · cases he
    rw [Nat.mul_one] at hs
    have HM := Hid.mk (show cap ≤ maxLen ∧ xs.length ≤ cap from ⟨hm, hn⟩)
    have H0 := Hid.mk (show ∃ cur : Array Value, w.heap[g]? = some (.cells cur 3 (0, 0)) ∧ cur.size = cap from ⟨cur, hh, hs⟩)
    clear hm hh hs h hn
    go_enter Try.func15, Try.ntmps15
    go_wp2
    go_loopw [2] (fun ii wr => ∃ (i : Nat), i ≤ cap ∧ ii = .int .i64 i ∧ Hid ((∃ cur : Array Value, wr.heap[g]? = some (.cells cur 3 (0, 0)) ∧ cur.size = cap) ∧ Only (fun k => k = g) w wr)) (fun ii _ => cap - (Go.RowKit.intOf ii).toNat)
    case atStart => exact ⟨0, Nat.zero_le _, rfl, Hid.mk ⟨H0.out, Only.refl _ _⟩⟩
    case round =>
      obtain ⟨i, hi, rfl, hS⟩ := hrel
      by_cases hlt : i < cap
      · obtain ⟨⟨cu, hcu, hcs⟩, ho⟩ := hS.out
        have hci : wr.cell? ⟨g, i, none⟩ = some (cu[i]'(by omega)) := by simp [World.cell?, hcu, hlt, hcs]
        have hfi : wr.frozen? ⟨g, i, none⟩ = false := by simp [World.frozen?, hcu]
        have hwi : IntKind.i64.wrap ((i : Int) + 1) = ((i + 1 : Nat) : Int) := by have := HM.out.1; rw [maxLen] at this; rw [wrap_id (by omega) (by omega)]; omega
        have hlt2 : (i : Int) < cap := by omega
        have HL := Hid.mk hlt
        have hS2 : Hid ((∃ cur : Array Value, (wr.setCell ⟨g, i, none⟩ (.int .i64 (-77))).heap[g]? = some (.cells cur 3 (0, 0)) ∧ cur.size = cap) ∧ Only (fun k => k = g) w (wr.setCell ⟨g, i, none⟩ (.int .i64 (-77)))) := Hid.mk
          ⟨⟨cu.setIfInBounds i (.int .i64 (-77)), by simp [World.setCell, Array.getElem?_modify, hcu], by simpa using hcs⟩, ho.put rfl i _⟩
        generalize cu[i]'(by omega) = x at hci
        clear hcu hcs ho
        go_wp2
        go_roundw
        case rel => exact ⟨i + 1, HL.out, by first | rfl | go_num, hS2⟩
        case measure =>
          have h1 : i < cap := HL.out
          simp [Go.RowKit.intOf]
          omega
      · obtain rfl : i = cap := by omega
        go_wp2
        go_end0
        exact ⟨⟨_, rfl⟩, hS.out.2.mono (fun k hk => by subst hk; rfl)⟩

end Go.Proofs.Ytgfelddgiabeoaa
