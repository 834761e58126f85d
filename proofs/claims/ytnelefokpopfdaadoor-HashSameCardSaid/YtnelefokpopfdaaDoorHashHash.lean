/-
  A term's hash, as the program tells it.
-/
import Derived.Test.YtnelefokpopfdaaDoorHashAll
namespace Go.Proofs.YtnelefokpopfdaaDoor
open Go.RowKit Go.Deep

attribute [local go_sem] Oper.semAt_some

theorem mixT_snoc (h : Int) (pre : List UInt8) (x : UInt8) : mixT h (pre ++ [x]) = mix1 (mixT h pre) x := by simp [mixT]

/-- What makes a mix a hash. -/
def foldH (q : Int) : Int :=
  bits .xor .u32 (bits .xor .u32 q (q / 65536) * 2146121005 % 4294967296) (bits .xor .u32 q (q / 65536) * 2146121005 % 4294967296 / 32768)
def hashI (T : Tm) : Int := foldH (mixT 2166136261 T.bytes)

set_option maxHeartbeats 4000000 in
set_option maxRecDepth 100000 in
theorem hash_in (T : Tm) (hfit : T.fits = true) (S : Nat → Prop) (v : Value) (w : World) (hv : Lies w S T v) (hS : ∀ b, S b → b < w.heap.size) :
    Calls Tryd.prog 10 #[v] w fun e w' => e = .returned (.int .u32 (hashI T)) ∧ Below w.heap.size w w' := by
  refine (callsIn_wide (n := 9)).1 ?_
  have hT : ∃ T0, T0 = T := ⟨_, rfl⟩
  obtain ⟨T0, hT0⟩ := hT
  obtain ⟨k, nn, s, li⟩ := T
  obtain ⟨a, cap, rfl, hs, hl⟩ := hv.out
  rw [← hT0] at hv hfit ⊢
  clear hT0 hl
  refine callsIn_of_wp_marks Tryd.func10 rfl trivial ?_ rfl
  simp only [Tryd.ntmps10, List.size_toArray, List.length_cons, List.length_nil, Nat.reduceAdd, Nat.reduceSub, Array.replicate_succ, Array.replicate_zero, List.push_toArray, List.append_toArray, List.nil_append, List.cons_append]
  gi_wp2_with (refine ⟨trivial, ?_⟩; gi_at_call 24; refine (each_in _ _ _ _ _ _ _ _).mono ?_; rintro e w' ⟨rfl, rfl⟩)
  obtain ⟨w3, hw3⟩ : ∃ w3, ((w.alloc (.cells #[.int .i64 k, .int .i64 nn, .string s, .slice a li.length cap] 24)).alloc (.cells #[.int .u32 2166136261] 33)).alloc (.cells #[.int .i64 k, .int .i64 nn, .string s, .slice a li.length cap] 24) = w3 := ⟨_, rfl⟩
  rw [hw3]
  have hz3 : w3.heap.size = w.heap.size + 3 := by rw [← hw3]; simp
  have hb3 : Below w.heap.size w w3 := by rw [← hw3]; exact (((Below.refl _ w).alloc (Nat.le_refl _) _).alloc (by simp) _).alloc (by simp; omega) _
  have hbox : w3.heap[w.heap.size + 2]? = some (.cells #[.int .i64 k, .int .i64 nn, .string s, .slice a li.length cap] 24) := by rw [← hw3]; exact new_block3 _ _ _ _
  have hlb : Boxed w3 (w.heap.size + 1) 33 (.int .u32 (mixT 2166136261 [])) := by
    rw [← hw3]
    exact (Below.heap_alloc _ _ _ (by simp)).trans (new_block2 _ _ _)
  refine wpIn_range_rows (C := Row8) not8_loop not8_deferred rfl (by omega) (gf := 33) (lb := #[.pointer (some ⟨w.heap.size + 2, 0, none⟩)]) (by simp [Act.eval]) trivial (enters_of Tryd.func33 (by kernel_rfl) rfl)
    (each_yields _ w.heap.size (w.heap.size + 2) S T0 hfit k nn s a li.length cap w3 (by omega) hS (hv.below hb3) hbox) (by omega) (fun _ => rfl)
    (fun pre W => Boxed W (w.heap.size + 1) 33 (.int .u32 (mixT 2166136261 pre)) ∧ Below w.heap.size w W) (fun _ _ _ => False)
    (fun ys A B' ⟨hv, hb⟩ hl => ⟨(hl.low.block _ (by omega)).trans hv, hb.trans (hl.low.mono (by omega))⟩) (fun _ _ _ _ hs _ => hs) ⟨hlb, hb3⟩ ?round ?done ?stop
  case round =>
    rintro l pre x W rfl ⟨hv, hb⟩ hlen hzW
    gi_wp2
    refine ⟨Below.refl _ _, fun W2 hoth hz2 ⟨hv, hb2⟩ => ?_⟩
    have hc := hv.cell
    have hf := hv.frozen
    have hsz2 := hb2.size
    obtain ⟨hq0, hq1⟩ := mixT_range 2166136261 pre (by omega) (by omega)
    have hst := Hid.mk (mixT_snoc 2166136261 pre x)
    have hmx := Hid.mk (fun w1 => mixed_any (mixT 2166136261 pre) hq0 hq1 x w1)
    have hset := Hid.mk (fun q : Value => hv.set q)
    generalize mixT 2166136261 pre = q at hc hmx hst hq0 hq1
    clear hz2 hoth hv
    gi_wp2_with (refine ⟨trivial, ?_⟩; gi_at_call 25; refine (CallsIn.inRound _ (callsIn_wide.2 (hmx.out _))).mono ?_; rintro e w' ⟨rfl, rfl⟩)
    refine ⟨SparesC.setCell W2 (p := ⟨w.heap.size + 1, 0, none⟩) (Nat.le_succ _) (by show w.heap.size + 1 < w3.heap.size; omega) _, ?_, hb2.setCell (p := ⟨w.heap.size + 1, 0, none⟩) (Nat.le_succ _) _⟩
    rw [hst.out]
    exact hset.out _
  case done =>
    rintro D ys W hD rfl ⟨hv, hb⟩ hK
    have hc := hv.cell
    have hf := hv.frozen
    obtain ⟨hq0, hq1⟩ := mixT_range 2166136261 T0.bytes (by omega) (by omega)
    have hh : Hid (hashI T0 = foldH (mixT 2166136261 T0.bytes)) := Hid.mk rfl
    generalize mixT 2166136261 T0.bytes = q at hc hq0 hq1 hh
    clear hv
    gi_wp2
    have hbs : ∀ u v, Below w.heap.size w ((W.setCell ⟨w.heap.size + 1, 0, none⟩ u).setCell ⟨w.heap.size + 1, 0, none⟩ v) := fun u v => (hb.setCell (p := ⟨w.heap.size + 1, 0, none⟩) (Nat.le_succ _) u).setCell (p := ⟨w.heap.size + 1, 0, none⟩) (Nat.le_succ _) v
    have hKs : ∀ u v, ((W.setCell ⟨w.heap.size + 1, 0, none⟩ u).setCell ⟨w.heap.size + 1, 0, none⟩ v).heap[D]? = some (.deferred (some [])) := fun u v => by
      rw [Below.heap_setCell _ _ _ _ (by show D ≠ w.heap.size + 1; omega), Below.heap_setCell _ _ _ _ (by show D ≠ w.heap.size + 1; omega)]
      exact hK
    refine ⟨by simp, .inl ⟨_, _, rfl, run_takeDeferred (hKs _ _), ?_⟩⟩
    refine ⟨_, results_tmp rfl _ _ _, ?_, (hbs _ _).trans (below_putObj _ _ _ (by omega))⟩
    rw [hh.out]
    rfl
  case stop =>
    rintro D c pre W _ _ h _
    exact h.elim

end Go.Proofs.YtnelefokpopfdaaDoor
