/-
  NARROWER THAN 'FOR EVERY INPUT', by the rows' own cells (each row's printed sentence says how): HeapNone: laid · HeapKnown: laid · HeapCollects: loops, laid.
  DERIVED. THE GIVEN ROWS OF THIS SEAT. 3 by the template 'for every input the law returns true; each argument reads behind the call as it read before'; 0 by the template 'total and deterministic' (their statements: YtaiiicmldogjoaaDoorTotals.lean).
  GIVEN WITH THE SEED: the statements are not yours to turn. If you find one false, say at which input.
  Laid BY PROGRAM, IN A SANDBOX (cutbox-rows.mjs): the forced cells as the released guide's own fill.sh prints them over the translation 2e913b1d3d39aaef… (all of the seat's roots in one cut). By AI agents, Wed Nov 11 2026. No macro, syntax, notation, axiom, sorry.
-/
import Derived.Test.YtaiiicmldogjoaaDoorChecked
import GoSem.Claim
import GoSem.ClaimJoined
import GoSem.ClaimMapViews
import Derived.JoinedTies
import Derived.KernelRfl
namespace Go.Proofs.YtaiiicmldogjoaaDoor
/- THE CELL 'sum', in the pinned program and in every row, IS THE sha256 OF THE DUMP (.gsa) THAT YtaiiicmldogjoaaDoorProg.lean LOADS. Nothing in Lean hashes anything: it is a label: what it is worth is what the hold of that sum in a sandbox is worth. -/
noncomputable def Tryd.pinned : Pinned := { name := "ytaiiicmldogjoaadoor", sum := "2e913b1d3d39aaefde5de330f450c0687b7b7f47751716da22e16cdf56559231", checked := Tryd.checked }
namespace Rows
def none {H : Type} : Left H := { results := [], args := [] }

/- WHAT THE LISTED PACKAGE-LEVEL VARIABLES READ AS WHEN THE CALL BEGINS. Each datum BY PROGRAM (the guide's laid-datum.mjs) off the statement by which the dump's own 'gosem.cut.vars' lays the variable. In a bare row this is a premise. The card (YtaiiicmldogjoaaDoorCards.lean) ties it to the program's text. -/
def laid_tenure_word_numbers {H : Type} : DataW H := .agg [.agg [.lit (.int .i64 0), .lit (.int .i64 0)], .agg [.lit (.int .i64 (-576460752303423488)), .lit (.int .i64 576460752303423487)], .agg [.lit (.int .i64 0), .lit (.int .i64 1073741824)], .agg [.lit (.int .i64 0), .lit (.int .i64 1073741824)], .agg [.lit (.int .i64 0), .lit (.int .i64 1073741824)], .agg [.lit (.int .i64 0), .lit (.int .i64 1073741824)], .agg [.lit (.int .i64 0), .lit (.int .i64 1073741824)], .agg [.lit (.int .i64 0), .lit (.int .i64 1073741824)], .agg [.lit (.int .i64 0), .lit (.int .i64 0)], .agg [.lit (.int .i64 0), .lit (.int .i64 1073741824)], .agg [.lit (.int .i64 0), .lit (.int .i64 64)], .agg [.lit (.int .i64 0), .lit (.int .i64 137438953536)]]
def laid_tenure_term_shapes {H : Type} : DataW H := .agg [.agg [.lit (.int .i64 0), .lit (.int .i64 0), .lit (.int .i64 0), .lit (.int .i64 0), .lit (.int .i64 0), .lit (.int .i64 0)], .agg [.lit (.int .i64 (-576460752303423488)), .lit (.int .i64 576460752303423487), .lit (.int .i64 0), .lit (.int .i64 0), .lit (.int .i64 0), .lit (.int .i64 1)], .agg [.lit (.int .i64 0), .lit (.int .i64 0), .lit (.int .i64 64), .lit (.int .i64 0), .lit (.int .i64 0), .lit (.int .i64 1)], .agg [.lit (.int .i64 0), .lit (.int .i64 1073741824), .lit (.int .i64 0), .lit (.int .i64 0), .lit (.int .i64 0), .lit (.int .i64 1)], .agg [.lit (.int .i64 0), .lit (.int .i64 1073741824), .lit (.int .i64 0), .lit (.int .i64 0), .lit (.int .i64 0), .lit (.int .i64 1)], .agg [.lit (.int .i64 0), .lit (.int .i64 1073741824), .lit (.int .i64 0), .lit (.int .i64 0), .lit (.int .i64 64), .lit (.int .i64 2)], .agg [.lit (.int .i64 0), .lit (.int .i64 1073741824), .lit (.int .i64 0), .lit (.int .i64 0), .lit (.int .i64 0), .lit (.int .i64 1)], .agg [.lit (.int .i64 0), .lit (.int .i64 0), .lit (.int .i64 0), .lit (.int .i64 0), .lit (.int .i64 64), .lit (.int .i64 2)], .agg [.lit (.int .i64 0), .lit (.int .i64 0), .lit (.int .i64 0), .lit (.int .i64 0), .lit (.int .i64 0), .lit (.int .i64 1)], .agg [.lit (.int .i64 0), .lit (.int .i64 0), .lit (.int .i64 0), .lit (.int .i64 2), .lit (.int .i64 2), .lit (.int .i64 1)]]

/-- 'tenurelaw09.HeapNone': WHATEVER THE INPUT: true; the input reads as it did. -/
def heapNoneSpec : ChangeSpec := { name := "heapNone", fn := fun _ => fun
  | [d1, d2] => { results := [.lit (.bool true)], args := [d1, d2] }
  | _ => none }
def heapNoneRow : OpenClaim := { program := "ytaiiicmldogjoaadoor", sum := "2e913b1d3d39aaefde5de330f450c0687b7b7f47751716da22e16cdf56559231", func := "tenure/tenurelaw09.HeapNone", spec := "heapNone", unfollowed := true, recurses := true, named := ["tenure/term.shapes", "tenure/word.numbers"], apart := false, laid := [("tenure/word.numbers", laid_tenure_word_numbers), ("tenure/term.shapes", laid_tenure_term_shapes)] }
def HeapNoneSaid : Prop := heapNoneRow.holds Tryd.pinned (OpenSpec.ofChange heapNoneSpec)

/-- ITS FALSE NEIGHBOUR: 'it returns false'. Refute it at one input. -/
def heapNoneWrong : ChangeSpec := { name := "heapNone", fn := fun _ => fun
  | [d1, d2] => { results := [.lit (.bool false)], args := [d1, d2] }
  | _ => none }
def HeapNoneWrongFalsely : Prop := heapNoneRow.holds Tryd.pinned (OpenSpec.ofChange heapNoneWrong)

/-- 'tenurelaw09.HeapKnown': WHATEVER THE INPUT: true; the input reads as it did. -/
def heapKnownSpec : ChangeSpec := { name := "heapKnown", fn := fun _ => fun
  | [] => { results := [.lit (.bool true)], args := [] }
  | _ => none }
def heapKnownRow : OpenClaim := { program := "ytaiiicmldogjoaadoor", sum := "2e913b1d3d39aaefde5de330f450c0687b7b7f47751716da22e16cdf56559231", func := "tenure/tenurelaw09.HeapKnown", spec := "heapKnown", unfollowed := true, recurses := true, named := ["tenure/term.shapes", "tenure/word.numbers"], apart := false, laid := [("tenure/word.numbers", laid_tenure_word_numbers), ("tenure/term.shapes", laid_tenure_term_shapes)] }
def HeapKnownSaid : Prop := heapKnownRow.holds Tryd.pinned (OpenSpec.ofChange heapKnownSpec)

/-- ITS FALSE NEIGHBOUR: 'it returns false'. Refute it at one input. -/
def heapKnownWrong : ChangeSpec := { name := "heapKnown", fn := fun _ => fun
  | [] => { results := [.lit (.bool false)], args := [] }
  | _ => none }
def HeapKnownWrongFalsely : Prop := heapKnownRow.holds Tryd.pinned (OpenSpec.ofChange heapKnownWrong)

/-- 'tenurelaw09.HeapCollects': WHATEVER THE INPUT: true; the input reads as it did. -/
def heapCollectsSpec : ChangeSpec := { name := "heapCollects", fn := fun _ => fun
  | [d1, d2, d3] => { results := [.lit (.bool true)], args := [d1, d2, d3] }
  | _ => none }
def heapCollectsRow : OpenClaim := { program := "ytaiiicmldogjoaadoor", sum := "2e913b1d3d39aaefde5de330f450c0687b7b7f47751716da22e16cdf56559231", func := "tenure/tenurelaw09.HeapCollects", spec := "heapCollects", unfollowed := true, recurses := true, named := ["tenure/term.shapes", "tenure/word.numbers"], loops := true, apart := false, laid := [("tenure/word.numbers", laid_tenure_word_numbers), ("tenure/term.shapes", laid_tenure_term_shapes)] }
def HeapCollectsSaid : Prop := heapCollectsRow.holds Tryd.pinned (OpenSpec.ofChange heapCollectsSpec)

/-- ITS FALSE NEIGHBOUR: 'it returns false'. Refute it at one input. -/
def heapCollectsWrong : ChangeSpec := { name := "heapCollects", fn := fun _ => fun
  | [d1, d2, d3] => { results := [.lit (.bool false)], args := [d1, d2, d3] }
  | _ => none }
def HeapCollectsWrongFalsely : Prop := heapCollectsRow.holds Tryd.pinned (OpenSpec.ofChange heapCollectsWrong)

/- THE SECOND FORM. 'bulk': how many values and letters a reading holds, each counted each time it is reached (what is shared counts as often as it is met; a slice's spare places count too). A statement '..UptoSaid' is the law's where the arguments, and the package variables that the reading takes, are together of bulk at most 1048576: NARROWER than '..Said'. Prove '..Said' where nothing that the law and all that it calls make is longer than what came in: it says more and counts as full. Else prove '..UptoSaid'. A law counts once. -/
mutual
def uptoBulk {H : Type} : DataW H → Nat
  | .lit (.string bytes) => bytes.length + 1
  | .lit _ => 1
  | .nil => 1
  | .ptr d => uptoBulk d + 1
  | .slice elems spare => uptoBulkAll elems + uptoBulkAll spare + 1
  | .agg parts => uptoBulkAll parts + 1
  | .iface _ d => uptoBulk d + 1
  | .map entries => uptoBulkEntries entries + 1
  | .held _ => 1
def uptoBulkAll {H : Type} : List (DataW H) → Nat
  | [] => 0
  | d :: r => uptoBulk d + uptoBulkAll r
def uptoBulkEntries {H : Type} : List (Lit × DataW H) → Nat
  | [] => 0
  | x :: r => uptoBulkEntry x + uptoBulkEntries r
def uptoBulkEntry {H : Type} : Lit × DataW H → Nat
  | (.string bytes, d) => bytes.length + uptoBulk d + 1
  | (_, d) => uptoBulk d + 1
 end
def uptoSmall : (H : Type) → List (DataW H) → Bool := fun _ ds => decide (uptoBulkAll ds ≤ 1048576)
def OpenSpec.upto (s : _root_.Go.ChangeSpec) : _root_.Go.OpenSpec := { _root_.Go.OpenSpec.ofChange s with cond := some uptoSmall }

/-- 'tenurelaw09.HeapNone', WHERE WHAT IT READS IS OF BULK AT MOST 1048576: true; the input reads as it did. -/
def heapNoneUptoRow : OpenClaim := { program := "ytaiiicmldogjoaadoor", sum := "2e913b1d3d39aaefde5de330f450c0687b7b7f47751716da22e16cdf56559231", func := "tenure/tenurelaw09.HeapNone", spec := "heapNone", unfollowed := true, recurses := true, named := ["tenure/term.shapes", "tenure/word.numbers"], apart := false, laid := [("tenure/word.numbers", laid_tenure_word_numbers), ("tenure/term.shapes", laid_tenure_term_shapes)], narrowed := true }
def HeapNoneUptoSaid : Prop := heapNoneUptoRow.holds Tryd.pinned (OpenSpec.upto heapNoneSpec)

/-- 'tenurelaw09.HeapKnown', WHERE WHAT IT READS IS OF BULK AT MOST 1048576: true; the input reads as it did. -/
def heapKnownUptoRow : OpenClaim := { program := "ytaiiicmldogjoaadoor", sum := "2e913b1d3d39aaefde5de330f450c0687b7b7f47751716da22e16cdf56559231", func := "tenure/tenurelaw09.HeapKnown", spec := "heapKnown", unfollowed := true, recurses := true, named := ["tenure/term.shapes", "tenure/word.numbers"], apart := false, laid := [("tenure/word.numbers", laid_tenure_word_numbers), ("tenure/term.shapes", laid_tenure_term_shapes)], narrowed := true }
def HeapKnownUptoSaid : Prop := heapKnownUptoRow.holds Tryd.pinned (OpenSpec.upto heapKnownSpec)

/-- 'tenurelaw09.HeapCollects', WHERE WHAT IT READS IS OF BULK AT MOST 1048576: true; the input reads as it did. -/
def heapCollectsUptoRow : OpenClaim := { program := "ytaiiicmldogjoaadoor", sum := "2e913b1d3d39aaefde5de330f450c0687b7b7f47751716da22e16cdf56559231", func := "tenure/tenurelaw09.HeapCollects", spec := "heapCollects", unfollowed := true, recurses := true, named := ["tenure/term.shapes", "tenure/word.numbers"], loops := true, apart := false, laid := [("tenure/word.numbers", laid_tenure_word_numbers), ("tenure/term.shapes", laid_tenure_term_shapes)], narrowed := true }
def HeapCollectsUptoSaid : Prop := heapCollectsUptoRow.holds Tryd.pinned (OpenSpec.upto heapCollectsSpec)

end Rows
end Go.Proofs.YtaiiicmldogjoaaDoor
