/-
  Items written over.
-/
import Derived.Test.YtkijbphbibcnoaaLinKit
namespace Go.Proofs.Ytkijbphbibcnoaa
open Go.RowKit Go.Deep Go.Maps Go.WideShapes

set_option maxHeartbeats 2000000 in
theorem overItems_any (v : Value) (l : List It) (w : World) (h : Its w v l) :
    Calls Try.prog 31 #[v] w fun e w' => (∃ u, e = .returned u) ∧ Only (fun k => v.ownBlock = some k) w w' := by
  rcases h.2 with ⟨rfl, hn⟩ | ⟨g, cap, cur, rfl, hb, hg, hc, hm, hcs, htk⟩
  · go_enter Try.func31, Try.ntmps31
    go_wp2
    go_loopw [2] (fun ii wr => ii = .int .i64 0 ∧ wr = w) (fun _ _ => 0)
    case atStart => exact ⟨rfl, rfl⟩
    case round =>
      obtain ⟨rfl, rfl⟩ := hrel
      go_wp2
      go_end0
      exact ⟨⟨_, rfl⟩, Only.refl _ _⟩
  · have hcap : cap ≤ 9223372036854775807 := by unfold maxLen at hm; omega
    have HG := Hid.mk hg
    have HC := Hid.mk (show cur.size = cap * 2 from hcs)
    clear h htk hcs hg hb
    go_enter Try.func31, Try.ntmps31
    go_wp2
    go_loopw [2] (fun ii wr => ∃ (i : Nat) (cur' : Array Value), i ≤ cap ∧ ii = .int .i64 i ∧ Hid (wr.heap[g]? = some (.cells cur' 54)) ∧ Hid (cur'.size = cap * 2) ∧ Hid (Only (fun k => k = g) w wr)) (fun ii _ => cap - (intOf ii).toNat)
    case atStart => exact ⟨0, cur, Nat.zero_le _, rfl, HG, HC, Hid.mk (Only.refl _ _)⟩
    case round =>
      obtain ⟨i, cur', hi, rfl, hg1, hs1, hO⟩ := hrel
      by_cases hlt : i < cap
      · have hs := hs1.out
        have hg2 := hg1.out
        obtain ⟨u0, c0⟩ : ∃ u0, wr.cell? ⟨g, i * 2, none⟩ = some u0 := ⟨cur'[i * 2]'(by omega), by simp [World.cell?, hg2, show i * 2 < cur'.size by omega]⟩
        obtain ⟨u1, c1⟩ : ∃ u1, wr.cell? ⟨g, i * 2 + 1, none⟩ = some u1 := ⟨cur'[i * 2 + 1]'(by omega), by simp [World.cell?, hg2, show i * 2 + 1 < cur'.size by omega]⟩
        have f0 : wr.frozen? ⟨g, i * 2, none⟩ = false := by simp [World.frozen?, hg2]
        have f1 : wr.frozen? ⟨g, i * 2 + 1, none⟩ = false := by simp [World.frozen?, hg2]
        have hwi : IntKind.i64.wrap ((i : Int) + 1) = ((i + 1 : Nat) : Int) := by rw [wrap_id (by omega) (by omega)]; omega
        have hil : (i : Int) < cap := by omega
        have HL := Hid.mk hlt
        clear hs hg2
        go_wp2
        go_roundw
        case rel =>
          exact ⟨i + 1, _, HL.out, by first | rfl | go_num, Hid.mk (put_box (put_box hg1.out _ _) _ _), Hid.mk (by simpa using hs1.out), Hid.mk ((hO.out.put rfl _ _).put rfl _ _)⟩
        case measure => have h1 : i < cap := HL.out; simp [intOf]; omega
      · obtain rfl : i = cap := by omega
        clear hlt
        go_wp2
        go_end0
        exact ⟨⟨_, rfl⟩, hO.out.mono fun k hk => by rw [hk]; rfl⟩
end Go.Proofs.Ytkijbphbibcnoaa
