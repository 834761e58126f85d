/-
  Copies of terms, how long a list is, and its items.
-/
import Derived.Test.YtabcekeeekbdiaaTermDetachWalk
import Derived.Laws.EntriesVeiled
namespace Go.Proofs.Ytabcekeeekbdiaa
open Go.RowKit Go.Deep

/-- What lies, lies in blocks that there are. -/
theorem Lies.inside {w : World} {S : Nat → Prop} (T : Tm) : ∀ v, Lies w S T v → Lies w (fun b => S b ∧ b < w.heap.size) T v := by
  induction T using Tm.induct with
  | h k n s l ih =>
    intro v h
    obtain ⟨a, cap, rfl, h1, h2, h3, h4⟩ := h.out
    refine Lies.mk h1 ⟨h2, h3, ?_⟩
    rcases h4 with h4 | ⟨p, rfl, hs, hr⟩
    · exact Or.inl h4
    · refine Or.inr ⟨p, rfl, fun hn => ⟨⟨(hs hn).1, ?_⟩, (hs hn).2⟩, Row.of fun i hi => ?_⟩
      · obtain ⟨v0, v1, v2, v3, c0, _⟩ := hr.at 0 (List.length_pos_iff.2 hn)
        exact World.block_lt_of_cell? w ⟨p.block, p.off + 0 * 4, none⟩ c0
      · obtain ⟨v0, v1, v2, v3, c0, c1, c2, c3, hl⟩ := hr.at i hi
        exact ⟨v0, v1, v2, v3, c0, c1, c2, c3, ih _ (List.getElem_mem hi) _ hl⟩

/-- A term has been made, all its rows new. -/
def MadeC (w : World) (T : Tm) (e : Ending) (w' : World) : Prop := ∃ v, e = .returned v ∧ Lies w' (fun b => w.heap.size ≤ b) T v

theorem Done.below {w w' : World} {pb po B : Nat} {T : Tm} (h : Done w pb po T w') (hB : B ≤ pb) (hw : B ≤ w.heap.size) : Below B w w' := ⟨h.os, h.tape, h.output, h.size, fun k hk => h.other k (by omega) (by omega)⟩

set_option maxHeartbeats 1000000 in
theorem copyC_any (T : Tm) (hsz : T.size ≤ 1000000) (hsh : T.Short) (S : Nat → Prop) (v : Value) (w : World) (hv0 : Lies w S T v) :
    Calls Try.prog 48 #[v] w fun e w' => MadeC w T e w' ∧ Below w.heap.size w w' := by
  have hv := hv0.inside
  have hd := Hid.mk (fun (c : Array Value) (v0 v1 v2 v3 : Value) => detach_any T.size T (Nat.le_refl _) hsz hsh (fun b => S b ∧ b < w.heap.size) w.heap.size (w.heap.size + 2) w.heap.size 0 c 24 v0 v1 v2 v3)
  obtain ⟨k, n, s, l⟩ := T
  obtain ⟨a, cap, rfl, hs, hl⟩ := hv.out
  obtain ⟨W3, hW3⟩ : ∃ W3, ((w.alloc (.cells #[.int .i64 k, .int .i64 n, .string s, .slice a l.length cap] 24)).alloc (.cells #[.int .i64 0, .int .i64 0, .string ⟨#[]⟩, .slice none 0 0] 24)).alloc
      (.cells #[.func (.func 52) #[] #[.pointer (some ⟨w.heap.size + 1 + 1, 0, none⟩)]] 57) = W3 := ⟨_, rfl⟩
  have hz3 : W3.heap.size = w.heap.size + 3 := by rw [← hW3]; simp
  have hb3 : Below w.heap.size w W3 := by rw [← hW3]; exact (((Below.refl _ w).alloc (Nat.le_refl _) _).alloc (by simp) _).alloc (by simp; omega) _
  have hp3 : W3.heap[w.heap.size]? = some (.cells #[.int .i64 k, .int .i64 n, .string s, .slice a l.length cap] 24) := by rw [← hW3]; exact old_block (new_block1 _ _ _) _
  have hr3 : W3.heap[w.heap.size + 1]? = some (.cells #[.int .i64 0, .int .i64 0, .string ⟨#[]⟩, .slice none 0 0] 24) := by rw [← hW3]; exact old_block (new_block2 _ _ _) _
  have hf3 : W3.cell? ⟨w.heap.size + 2, 0, none⟩ = some (.func (.func 52) #[] #[.pointer (some ⟨w.heap.size + 2, 0, none⟩)]) := by
    have := new_block3 w (.cells #[.int .i64 k, .int .i64 n, .string s, .slice a l.length cap] 24) (.cells #[.int .i64 0, .int .i64 0, .string ⟨#[]⟩, .slice none 0 0] 24)
      (.cells #[.func (.func 52) #[] #[.pointer (some ⟨w.heap.size + 1 + 1, 0, none⟩)]] 57)
    rw [hW3] at this
    simp [World.cell?, this]
  have key := Hid.mk (hd.out #[.int .i64 k, .int .i64 n, .string s, .slice a l.length cap] _ _ _ _ W3 (fun b h => h.2) (Nat.le_refl _) (by omega) (by omega) (by omega) hf3 hp3 ⟨rfl, rfl, rfl, rfl⟩ (hv.below hb3))
  have hf3' : W3.cell? ⟨w.heap.size + 1 + 1, 0, none⟩ = some (.func (.func 52) #[] #[.pointer (some ⟨w.heap.size + 1 + 1, 0, none⟩)]) := hf3
  clear hv hl hv0 hd hf3
  go_enter Try.func48, Try.ntmps48
  go_wp2_with (go_at_call 52; refine key.out.mono ?_; rintro e w4 ⟨⟨v, rfl⟩, hdn⟩; obtain ⟨v0, v1, v2, v3, g0, g1, g2, g3, hL⟩ := hdn.term; have e4 := (hdn.other (w.heap.size + 1) (by omega) (by omega)).trans hr3; obtain ⟨⟨q0, q1, q2, q3⟩, f0, f1, f2, f3⟩ := kept4 e4 (Below.refl _ _); obtain ⟨k4, n4, s4, a4, m4, p4, hvv⟩ : ∃ k4 n4 s4 a4 m4 p4, Value.agg #[v0, v1, v2, v3] = .agg #[.int .i64 k4, .int .i64 n4, .string s4, .slice a4 m4 p4] := (by obtain ⟨a4, p4, h4, _⟩ := hL.out; exact ⟨_, _, _, _, _, _, h4⟩); simp only [Value.agg.injEq, Array.mk.injEq, List.cons.injEq, and_true] at hvv; obtain ⟨rfl, rfl, rfl, rfl⟩ := hvv)
  have hb4 : Below w.heap.size w w4 := hb3.trans (hdn.below (Nat.le_refl _) (by omega))
  refine ret_stored rfl rfl rfl q0 q1 q2 q3 ⟨⟨_, rfl, ?_⟩, Below.set4 hb4 (Nat.le_succ _)⟩
  refine hL.move (fun b hb => by omega) (fun b o v hb hc => ?_) _ _
  have hbb : W3.heap.size ≤ b := hb
  rw [World.cell?_of_block (w := w4) (a := ⟨b, o, none⟩) (set4_heap _ _ _ _ _ _ _ (by show b ≠ w.heap.size + 1; omega))]
  exact hc

end Go.Proofs.Ytabcekeeekbdiaa
