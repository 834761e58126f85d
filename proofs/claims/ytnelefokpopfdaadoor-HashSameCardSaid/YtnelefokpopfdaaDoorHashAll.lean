/-
  A term's bytes, and its hash, as the program tells them.
-/
import Derived.Test.YtnelefokpopfdaaDoorHashInto
import Derived.Test.YtnelefokpopfdaaDoorHashMixP
import Derived.RangeFuncBox
import Derived.Maps.AppendAt
import Derived.OwnWalkIn
namespace Go.Proofs.YtnelefokpopfdaaDoor
open Go.RowKit Go.Deep

attribute [local go_sem] Oper.semAt_some

theorem each_in (n : Nat) (k nn : Int) (s : ByteArray) (a : Option Addr) (len cap : Nat) (w : World) :
    CallsIn Fence.wide n Tryd.prog 24 #[.agg #[.int .i64 k, .int .i64 nn, .string s, .slice a len cap]] w fun e w' =>
      e = .returned (.func (.func 33) #[] #[.pointer (some ⟨w.heap.size, 0, none⟩)]) ∧ w' = w.alloc (.cells #[.int .i64 k, .int .i64 nn, .string s, .slice a len cap] 24) := by
  refine callsIn_of_wp Tryd.func24 rfl trivial ?_ rfl
  simp only [Tryd.ntmps24, List.size_toArray, List.length_cons, List.length_nil, Nat.reduceAdd, Nat.reduceSub, Array.replicate_succ, Array.replicate_zero, List.push_toArray, List.append_toArray, List.nil_append, List.cons_append]
  gi_wp2
  go_ret
  exact ⟨rfl, rfl⟩

set_option maxHeartbeats 1000000 in
theorem each_yields (n n₀ Bt : Nat) (S : Nat → Prop) (T : Tm) (hfit : T.fits = true) (k nn : Int) (s : ByteArray) (a : Option Addr) (len cap : Nat) (w : World) (hn : n₀ ≤ w.heap.size) (hS : ∀ b, S b → b < n₀)
    (hv : Lies w S T (.agg #[.int .i64 k, .int .i64 nn, .string s, .slice a len cap])) (hbox : w.heap[Bt]? = some (.cells #[.int .i64 k, .int .i64 nn, .string s, .slice a len cap] 24)) :
    YieldsC Row8 Fence.wide n Tryd.prog 33 #[.pointer (some ⟨Bt, 0, none⟩)] (fun x : UInt8 => #[.int .u8 x.toNat]) n₀ (fun ys => ys = T.bytes) (fun _ => True) T.bytes.length w := by
  intro l J Jx W hW hJ hJx hY h0
  have hbW := (hW.block Bt (Array.getElem?_eq_some_iff.1 hbox).1).trans hbox
  obtain ⟨⟨g0, g1, g2, g3⟩, f0, f1, f2, f3⟩ := kept4 hbW (Below.refl _ _)
  have hc := hinto_in l n₀ W.heap.size T.bytes.length S J Jx (Nat.le_trans hn hW.size) hJ hS (fun m pre x W1 hj hz hl => yield_wide m (hY pre x W1 hj hz hl)) T.size T (Nat.le_refl _) hfit (n - 1) _ [] W (hv.below hW) (Nat.le_refl _) h0 (by simp)
  refine callsIn_of_wp Tryd.func33 rfl trivial ?_ rfl
  simp only [Tryd.ntmps33, List.size_toArray, List.length_cons, List.length_nil, Nat.reduceAdd, Nat.reduceSub, Array.replicate_succ, Array.replicate_zero, List.push_toArray, List.append_toArray, List.nil_append, List.cons_append]
  gi_wp2_with (refine ⟨trivial, (fun h => (by cases h)), ?_⟩; gi_at_call 34; refine hc.mono ?_; clear hc; rintro e W1 (⟨rfl, hj, _⟩ | ⟨rfl, ys, hj⟩))
  · go_end0
    exact ⟨⟨_, rfl⟩, .inl ⟨_, rfl, by simpa using hj⟩⟩
  · go_end0
    exact ⟨⟨_, rfl⟩, .inr ⟨ys, trivial, hj⟩⟩

theorem row8_lt {w : World} {base : Nat} {v : Value} {n : Nat} {xs : List Value} (h : w.ownsRow base 5 1 v n xs) : v = .slice none 0 0 ∨ ∃ g cap cur, v = .slice (some ⟨g, 0, none⟩) n cap ∧ base ≤ g ∧ w.heap[g]? = some (.cells cur 5 (0, 0)) := by
  rcases h.2 with ⟨h, _⟩ | ⟨g, cap, cur, h1, h2, h3, _⟩
  · exact Or.inl h
  · exact Or.inr ⟨g, cap, cur, h1, h2, h3⟩
/-- What a slice of bytes owns it owns behind the iterator's steps. -/
theorem owns_leaves {w w' : World} {base B : Nat} {v : Value} {n : Nat} {xs : List Value} (h : w.ownsRow base 5 1 v n xs) (hl : Leaves Row8 B w w') : w'.ownsRow base 5 1 v n xs := by
  refine ⟨h.1, ?_⟩
  rcases h.2 with h2 | ⟨g, cap, cur, h1, h2, h3, h4⟩
  · exact Or.inl h2
  · exact Or.inr ⟨g, cap, cur, h1, h2, hl.rows g _ h3 ⟨_, _, rfl⟩, h4⟩
/-- The bytes that a slice owns. -/
theorem owns_byt {w : World} {base : Nat} {bs : List UInt8} {v : Value} (h : w.ownsRow base 5 1 v bs.length (bs.map fun b => .int .u8 b.toNat)) : ∃ a cap, v = .slice a bs.length cap ∧ Byt w (fun b => base ≤ b) bs a cap := by
  rcases h.2 with ⟨h1, h2⟩ | ⟨g, cap, cur, h1, h2, h3, h4, h5, h6, h7⟩
  · obtain rfl := List.eq_nil_of_length_eq_zero h2
    exact ⟨none, 0, h1, Nat.le_refl _, by omega, Or.inl ⟨rfl, rfl, rfl⟩⟩
  · refine ⟨some ⟨g, 0, none⟩, cap, h1, h4, by unfold maxLen at h5; omega, Or.inr ⟨_, rfl, fun _ => ⟨h2, rfl⟩, fun j hj => ?_⟩⟩
    show w.cell? ⟨g, 0 + j, none⟩ = _
    rw [Nat.zero_add, cell_of_row w g j _ _ _ h3]
    have hx : (bs.map fun b => Value.int .u8 b.toNat)[j]? = some (.int .u8 bs[j].toNat) := by rw [List.getElem?_map, List.getElem?_eq_getElem hj]; rfl
    rw [← h7, List.getElem?_take_of_lt (by omega)] at hx
    simpa using hx

theorem spares_appended {W w1 : World} {n₀ B : Nat} {v : Value} {n : Nat} {xs : List Value} {tmp : Obj} (hown : W.ownsRow n₀ 5 1 v n xs) (hn : n₀ ≤ W.heap.size) (hgrow : (W.alloc tmp).grownBy w1 v.ownBlock) : SparesC Row8 n₀ B W w1 := by
  have hr := row8_lt hown
  refine ⟨((Below.refl n₀ W).alloc hn tmp).grown hgrow (by simp; omega) fun j ej => ?_, fun k o _ hk hc => ?_⟩
  · rcases hr with rfl | ⟨g, cap, cur, rfl, hb, _⟩
    · simp [Value.ownBlock] at ej
    · obtain rfl : g = j := by simpa [Value.ownBlock] using ej
      exact hb
  · have hlt := (Array.getElem?_eq_some_iff.1 hk).1
    refine ((hgrow.block k (by simp; omega) fun e => ?_).trans (Below.heap_alloc _ _ _ hlt)).trans hk
    rcases hr with rfl | ⟨g, cap, cur, rfl, hb, hg⟩
    · simp [Value.ownBlock] at e
    · obtain rfl : k = g := by simpa [Value.ownBlock] using e
      rw [hg] at hk
      cases hk
      exact hc ⟨_, _, rfl⟩

theorem byteInfo9 : (Tryd.prog.info? 5).map (fun i => (i.zero, i.size, i.bytes)) = some (some (.int .u8 0), 1, 1) := by kernel_rfl

set_option maxHeartbeats 4000000 in
set_option maxRecDepth 100000 in
theorem hbytes_in (T : Tm) (hfit : T.fits = true) (hsz : T.bytes.length ≤ 1000000000) (S : Nat → Prop) (v : Value) (w : World) (hv : Lies w S T v) (hS : ∀ b, S b → b < w.heap.size) :
    Calls Tryd.prog 9 #[v] w fun e w' => (∃ a cap, e = .returned (.slice a T.bytes.length cap) ∧ Byt w' (fun b => w.heap.size ≤ b) T.bytes a cap) ∧ Below w.heap.size w w' := by
  refine (callsIn_wide (n := 9)).1 ?_
  have hT : ∃ T0, T0 = T := ⟨_, rfl⟩
  obtain ⟨T0, hT0⟩ := hT
  obtain ⟨k, nn, s, li⟩ := T
  obtain ⟨a, cap, rfl, hs, hl⟩ := hv.out
  rw [← hT0] at hv hfit hsz ⊢
  clear hT0 hl
  obtain ⟨i0, hi, hz0, hz1, hz2'⟩ := info_parts byteInfo9
  refine callsIn_of_wp_marks Tryd.func9 rfl trivial ?_ rfl
  simp only [Tryd.ntmps9, List.size_toArray, List.length_cons, List.length_nil, Nat.reduceAdd, Nat.reduceSub, Array.replicate_succ, Array.replicate_zero, List.push_toArray, List.append_toArray, List.nil_append, List.cons_append]
  gi_wp2_with (refine ⟨trivial, ?_⟩; gi_at_call 24; refine (each_in _ _ _ _ _ _ _ _).mono ?_; rintro e w' ⟨rfl, rfl⟩)
  obtain ⟨w3, hw3⟩ : ∃ w3, ((w.alloc (.cells #[.int .i64 k, .int .i64 nn, .string s, .slice a li.length cap] 24)).alloc (.cells #[.slice none 0 0] 31)).alloc (.cells #[.int .i64 k, .int .i64 nn, .string s, .slice a li.length cap] 24) = w3 := ⟨_, rfl⟩
  rw [hw3]
  have hz3 : w3.heap.size = w.heap.size + 3 := by rw [← hw3]; simp
  have hb3 : Below w.heap.size w w3 := by rw [← hw3]; exact (((Below.refl _ w).alloc (Nat.le_refl _) _).alloc (by simp) _).alloc (by simp; omega) _
  have hbox : w3.heap[w.heap.size + 2]? = some (.cells #[.int .i64 k, .int .i64 nn, .string s, .slice a li.length cap] 24) := by rw [← hw3]; exact new_block3 _ _ _ _
  have hlb : Boxed w3 (w.heap.size + 1) 31 (.slice none 0 0) := by
    rw [← hw3]
    exact (Below.heap_alloc _ _ _ (by simp)).trans (new_block2 _ _ _)
  refine wpIn_range_rows (C := Row8) not8_loop not8_deferred rfl (by omega) (gf := 33) (lb := #[.pointer (some ⟨w.heap.size + 2, 0, none⟩)]) (by simp [Act.eval]) trivial (enters_of Tryd.func33 (by kernel_rfl) rfl)
    (each_yields _ w.heap.size (w.heap.size + 2) S T0 hfit k nn s a li.length cap w3 (by omega) hS (hv.below hb3) hbox) (by omega) (fun _ => rfl)
    (fun pre W => (∃ v, Boxed W (w.heap.size + 1) 31 v ∧ W.ownsRow w.heap.size 5 1 v pre.length (pre.map fun b => .int .u8 b.toNat)) ∧ Below w.heap.size w W) (fun _ _ _ => False)
    (fun ys A B' ⟨⟨v, hv, ho⟩, hb⟩ hl => ⟨⟨v, (hl.low.block _ (by omega)).trans hv, owns_leaves ho hl⟩, hb.trans (hl.low.mono (by omega))⟩) (fun _ _ _ _ hs _ => hs) ⟨⟨_, hlb, World.ownsRow_nil _ _ _ _⟩, hb3⟩ ?round ?done ?stop
  case round =>
    rintro l pre x W rfl ⟨⟨v, hv, hrow⟩, hb⟩ hlen hzW
    gi_wp2
    refine ⟨Below.refl _ _, fun W2 hoth hz2 ⟨⟨v, hv, hrow⟩, hb2⟩ => ?_⟩
    have hc := hv.cell
    have hsz2 := hb2.size
    have hbytes : pre.length < 1000000000 := by omega
    clear hz2 hoth
    gi_wp2_with (gi_at_builtin; refine wpListIn_append_own _ rfl _ _ 31 rfl w.heap.size 5 i0 (.int .u8 0) 1 1 Tryd.underlying31 hi hz0 hz1 hz2' rfl (by decide) _ _ _ rfl (hrow.alloc _) ⟨W2.heap.size, 0, none⟩ 1 1 [.int .u8 x.toNat] rfl rfl (cell_one_new _ _ _) (by simp [Value.oneCell']) (by unfold maxLen; omega) (by omega) (by simp; omega) ?_; intro v' w1 hown' hgrow _; obtain ⟨g', cap', rfl⟩ := ownsRow_succ hown'; obtain ⟨hv1, hv2, hr2, hk2, hb4⟩ := hv.appended (by decide) hrow hsz2 (by omega) hown' hgrow; have hc1 := hv1.cell; have hf1 := hv1.frozen; have hsa := spares_appended (B := w3.heap.size) hrow hsz2 hgrow)
    refine ⟨hsa.trans (SparesC.setCell w1 (p := ⟨w.heap.size + 1, 0, none⟩) (Nat.le_succ _) (by show w.heap.size + 1 < w3.heap.size; omega) _), ⟨_, hv2, ?_⟩, hb2.trans hb4⟩
    simpa using hr2
  case done =>
    rintro D ys W hD rfl ⟨⟨v, hv, hrow⟩, hb⟩ hK
    have hc := hv.cell
    have hrow' : (W.putObj D (.deferred none)).ownsRow w.heap.size 5 1 v T0.bytes.length (T0.bytes.map fun b => .int .u8 b.toNat) := ownsRow_putObj hrow _ hK rfl
    obtain ⟨a2, cap2, rfl, hbyt⟩ := owns_byt hrow'
    have hbyt := Hid.mk hbyt
    clear hrow hrow'
    gi_wp2
    refine ⟨by simp, .inl ⟨_, _, rfl, run_takeDeferred hK, ?_⟩⟩
    exact ⟨_, results_tmp rfl _ _ _, ⟨a2, cap2, rfl, hbyt.out⟩, hb.trans (below_putObj _ _ _ (by omega))⟩
  case stop =>
    rintro D c pre W _ _ h _
    exact h.elim

end Go.Proofs.YtnelefokpopfdaaDoor
