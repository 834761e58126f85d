/-
  The chapter's examples, as every statement of the layer calls them.
-/
import Derived.Test.YtnelefokpopfdaaDoorHashAll
import Derived.Test.YtnelefokpopfdaaDoorHashKit
import Derived.Test.YtnelefokpopfdaaDoorHashBits
import Derived.Test.YtnelefokpopfdaaDoorOrdBase
namespace Go.Proofs.YtnelefokpopfdaaDoor
open Go.RowKit Go.Deep

theorem bytesI_any (T : Tm) (hfit : T.fits = true) (hsz : T.bytes.length ≤ 1000000000) (S : Nat → Prop) (v : Value) (w : World) (hv : Lies w S T v) :
    Calls Tryd.prog 9 #[v] w fun e w' => (∃ a cap, e = .returned (.slice a T.bytes.length cap) ∧ Byt w' (fun b => w.heap.size ≤ b) T.bytes a cap) ∧ Below w.heap.size w w' :=
  hbytes_in T hfit hsz _ v w hv.inside (fun _ h => h.2)
theorem bytesLit_any (T : Tm) (bs : List UInt8) (n : Nat) (hT : T.fits = true) (hb : T.bytes = bs) (hn : bs.length = n) (h9 : n ≤ 1000000) (S : Nat → Prop) (v : Value) (w : World) (hv : Lies w S T v) :
    Calls Tryd.prog 9 #[v] w fun e w' => (∃ a cap, e = .returned (.slice a n cap) ∧ Byt w' (fun b => w.heap.size ≤ b) bs a cap) ∧ Below w.heap.size w w' := by
  subst hb
  subst hn
  exact bytesI_any T hT (by omega) S v w hv
theorem sameLit_any (bs : List UInt8) (n : Nat) (hn : bs.length = n) (S S' : Nat → Prop) (a a' : Option Addr) (cap cap' : Nat) (w : World) (hb : Byt w S bs a cap) (hc : Byt w S' bs a' cap') :
    Calls Tryd.prog 8 #[.slice a n cap, .slice a' n cap'] w fun e w' => e = .returned (.bool true) ∧ w = w' := by
  subst hn
  have := sameBytes_any bs bs S S' a a' cap cap' w hb hc
  rwa [beq_self_eq_true] at this
/-- A row that is laid out. -/
theorem byt_lit {w : World} {nb : Nat} {S : Nat → Prop} (bs : List UInt8) {t : TypeId} {fr : Nat × Nat} {c : Array Value} (h : w.heap[nb]? = some (.cells c t fr)) (hc : c = (bs.map enc8).toArray) (hS : S nb) {cap : Nat} (h1 : bs.length ≤ cap) (h2 : cap ≤ 9223372036854775807) : Byt w S bs (some ⟨nb, 0, none⟩) cap := by
  subst hc
  exact byt_of h (fun j hj => by rw [List.getElem?_map, List.getElem?_eq_getElem hj]; rfl) hS h1 h2
theorem byt_nil (w : World) (S : Nat → Prop) : Byt w S [] none 0 := ⟨Nat.le_refl _, by omega, Or.inl ⟨rfl, rfl, rfl⟩⟩
theorem mixLit_any (h r : Int) (bs : List UInt8) (n : Nat) (hr : mixT h bs = r) (hn : bs.length = n) (h0 : 0 ≤ h) (h1 : h < 4294967296) (S : Nat → Prop) (a : Option Addr) (cap : Nat) (w : World) (hb : Byt w S bs a cap) :
    Calls Tryd.prog 27 #[.int .u32 h, .slice a n cap] w fun e w' => e = .returned (.int .u32 r) ∧ w = w' := by
  subst hn
  subst hr
  exact mix_any h h0 h1 bs S a cap w hb
theorem bucketLit_any (h : Nat) (hi n r e0 : Int) (hh : h < 4294967296) (he : (h : Int) = hi) (hn0 : -9223372036854775808 ≤ n) (hn1 : n ≤ 9223372036854775807) (hr : bktV h n = r) (hE : bktE n = e0) (w : World) :
    Calls Tryd.prog 11 #[.int .u32 hi, .int .i64 n] w fun e w' => e = .returned (.tuple #[.int .i64 r, .int .i64 e0]) ∧ w = w' := by
  subst hr
  subst hE
  subst he
  exact bucket_any h hh n hn0 hn1 w

theorem num5_bytes : (Tm.num 5).bytes = [1, 5, 0, 0, 0, 0, 0, 0, 0] := by kernel_rfl
theorem num5_fits : (Tm.num 5).fits = true := by kernel_rfl

set_option maxHeartbeats 800000 in
theorem awake_any (x0 : World) : Calls Tryd.prog 17 #[] x0 fun e w' => e = .returned (.bool true) ∧ Below x0.heap.size x0 w' := by
  go_enter Tryd.func17, Tryd.ntmps17
  go_wp2_with (first
    | (go_at_call 11; refine (bucketLit_any 7 7 5 3 0 (by omega) rfl (by omega) (by omega) (by kernel_rfl) (by kernel_rfl) _).mono ?_; rintro e x1 ⟨rfl, rfl⟩)
    | (go_at_call 15; refine (num_any _ _).mono ?_; rintro e x1 ⟨rfl, hb1⟩)
    | (go_at_call 9; refine (bytesLit_any (.num 5) [1, 5, 0, 0, 0, 0, 0, 0, 0] 9 num5_fits num5_bytes rfl (by omega) (fun _ => True) _ _ (num_is _ _ 5 (by omega) (by omega))).mono ?_; rintro e x2 ⟨⟨a1, c1, rfl, hB⟩, hb2⟩)
    | (go_at_call 8; refine (sameLit_any [1, 5, 0, 0, 0, 0, 0, 0, 0] 9 rfl _ (fun _ => True) _ _ _ _ _ (hB.below ((Below.refl _ _).alloc (Nat.le_refl _) _)) (byt_lit [1, 5, 0, 0, 0, 0, 0, 0, 0] (new_block x2 _) (by kernel_rfl) trivial (by decide) (by decide))).mono ?_; rintro e x3 ⟨rfl, rfl⟩)
    | (go_at_call 27; have g := m1; refine (mixLit_any 0 16777619 [1] 1 (by kernel_rfl) rfl (by omega) (by omega) (fun _ => True) _ _ _ (byt_lit [1] (new_block2 x2 _ _) (by kernel_rfl) trivial (by decide) (by decide))).mono ?_; rintro e x5 ⟨rfl, rfl⟩)
    | (go_at_call 27; refine (mixLit_any 2166136261 2166136261 [] 0 (by kernel_rfl) rfl (by omega) (by omega) (fun _ => True) _ _ _ (byt_nil _ _)).mono ?_; rintro e x4 ⟨rfl, rfl⟩; have m1 := True.intro))
  go_ret
  exact ⟨rfl, (((Up.refl x0).call hb1).call hb2).alloc.alloc.out⟩

end Go.Proofs.YtnelefokpopfdaaDoor
