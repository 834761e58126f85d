/-
  NARROWER THAN 'FOR EVERY INPUT', by the rows' own cells (each row's printed sentence says how): TreeScript: loops, laid · TreeNone: loops, laid · TreeKnown: laid · TreeHolds: loops, laid · TreeRows: laid.
  DERIVED. THE GIVEN ROWS OF THIS SEAT. 5 by the template 'for every input the law returns true; each argument reads behind the call as it read before'; 0 by the template 'total and deterministic' (their statements: YteklhipcojioaaaDoorTotals.lean).
  GIVEN WITH THE SEED: the statements are not yours to turn. If you find one false, say at which input.
  Laid BY PROGRAM, IN A SANDBOX (cutbox-rows.mjs): the forced cells as the released guide's own fill.sh prints them over the translation 3d7c934a882a1475… (all of the seat's roots in one cut). By AI agents, Wed Nov 11 2026. No macro, syntax, notation, axiom, sorry.
-/
import Derived.Test.YteklhipcojioaaaDoorChecked
import GoSem.Claim
import GoSem.ClaimJoined
import GoSem.ClaimMapViews
import Derived.JoinedTies
import Derived.KernelRfl
namespace Go.Proofs.YteklhipcojioaaaDoor
/- THE CELL 'sum', in the pinned program and in every row, IS THE sha256 OF THE DUMP (.gsa) THAT YteklhipcojioaaaDoorProg.lean LOADS. Nothing in Lean hashes anything: it is a label: what it is worth is what the hold of that sum in a sandbox is worth. -/
noncomputable def Tryd.pinned : Pinned := { name := "yteklhipcojioaaadoor", sum := "3d7c934a882a14750cd7c00946d2f9a2af7b16b79eccc6d0aff38d3c2e63501f", checked := Tryd.checked }
namespace Rows
def none {H : Type} : Left H := { results := [], args := [] }

/- WHAT THE LISTED PACKAGE-LEVEL VARIABLES READ AS WHEN THE CALL BEGINS. Each datum BY PROGRAM (the guide's laid-datum.mjs) off the statement by which the dump's own 'gosem.cut.vars' lays the variable. In a bare row this is a premise. The card (YteklhipcojioaaaDoorCards.lean) ties it to the program's text. -/
def laid_tenure_term_shapes {H : Type} : DataW H := .agg [.agg [.lit (.int .i64 0), .lit (.int .i64 0), .lit (.int .i64 0), .lit (.int .i64 0), .lit (.int .i64 0), .lit (.int .i64 0)], .agg [.lit (.int .i64 (-576460752303423488)), .lit (.int .i64 576460752303423487), .lit (.int .i64 0), .lit (.int .i64 0), .lit (.int .i64 0), .lit (.int .i64 1)], .agg [.lit (.int .i64 0), .lit (.int .i64 0), .lit (.int .i64 64), .lit (.int .i64 0), .lit (.int .i64 0), .lit (.int .i64 1)], .agg [.lit (.int .i64 0), .lit (.int .i64 1073741824), .lit (.int .i64 0), .lit (.int .i64 0), .lit (.int .i64 0), .lit (.int .i64 1)], .agg [.lit (.int .i64 0), .lit (.int .i64 1073741824), .lit (.int .i64 0), .lit (.int .i64 0), .lit (.int .i64 0), .lit (.int .i64 1)], .agg [.lit (.int .i64 0), .lit (.int .i64 1073741824), .lit (.int .i64 0), .lit (.int .i64 0), .lit (.int .i64 64), .lit (.int .i64 2)], .agg [.lit (.int .i64 0), .lit (.int .i64 1073741824), .lit (.int .i64 0), .lit (.int .i64 0), .lit (.int .i64 0), .lit (.int .i64 1)], .agg [.lit (.int .i64 0), .lit (.int .i64 0), .lit (.int .i64 0), .lit (.int .i64 0), .lit (.int .i64 64), .lit (.int .i64 2)], .agg [.lit (.int .i64 0), .lit (.int .i64 0), .lit (.int .i64 0), .lit (.int .i64 0), .lit (.int .i64 0), .lit (.int .i64 1)], .agg [.lit (.int .i64 0), .lit (.int .i64 0), .lit (.int .i64 0), .lit (.int .i64 2), .lit (.int .i64 2), .lit (.int .i64 1)]]

/-- 'tenurelaw11.TreeScript': WHATEVER THE INPUT: true; the input reads as it did. -/
def treeScriptSpec : ChangeSpec := { name := "treeScript", fn := fun _ => fun
  | [d] => { results := [.lit (.bool true)], args := [d] }
  | _ => none }
def treeScriptRow : OpenClaim := { program := "yteklhipcojioaaadoor", sum := "3d7c934a882a14750cd7c00946d2f9a2af7b16b79eccc6d0aff38d3c2e63501f", func := "tenure/tenurelaw11.TreeScript", spec := "treeScript", unfollowed := true, recurses := true, named := ["tenure/term.shapes"], loops := true, apart := false, laid := [("tenure/term.shapes", laid_tenure_term_shapes)] }
def TreeScriptSaid : Prop := treeScriptRow.holds Tryd.pinned (OpenSpec.ofChange treeScriptSpec)

/-- ITS FALSE NEIGHBOUR: 'it returns false'. Refute it at one input. -/
def treeScriptWrong : ChangeSpec := { name := "treeScript", fn := fun _ => fun
  | [d] => { results := [.lit (.bool false)], args := [d] }
  | _ => none }
def TreeScriptWrongFalsely : Prop := treeScriptRow.holds Tryd.pinned (OpenSpec.ofChange treeScriptWrong)

/-- 'tenurelaw11.TreeNone': WHATEVER THE INPUT: true; the input reads as it did. -/
def treeNoneSpec : ChangeSpec := { name := "treeNone", fn := fun _ => fun
  | [d] => { results := [.lit (.bool true)], args := [d] }
  | _ => none }
def treeNoneRow : OpenClaim := { program := "yteklhipcojioaaadoor", sum := "3d7c934a882a14750cd7c00946d2f9a2af7b16b79eccc6d0aff38d3c2e63501f", func := "tenure/tenurelaw11.TreeNone", spec := "treeNone", unfollowed := true, recurses := true, named := ["tenure/term.shapes"], loops := true, apart := false, laid := [("tenure/term.shapes", laid_tenure_term_shapes)] }
def TreeNoneSaid : Prop := treeNoneRow.holds Tryd.pinned (OpenSpec.ofChange treeNoneSpec)

/-- ITS FALSE NEIGHBOUR: 'it returns false'. Refute it at one input. -/
def treeNoneWrong : ChangeSpec := { name := "treeNone", fn := fun _ => fun
  | [d] => { results := [.lit (.bool false)], args := [d] }
  | _ => none }
def TreeNoneWrongFalsely : Prop := treeNoneRow.holds Tryd.pinned (OpenSpec.ofChange treeNoneWrong)

/-- 'tenurelaw11.TreeKnown': WHATEVER THE INPUT: true; the input reads as it did. -/
def treeKnownSpec : ChangeSpec := { name := "treeKnown", fn := fun _ => fun
  | [] => { results := [.lit (.bool true)], args := [] }
  | _ => none }
def treeKnownRow : OpenClaim := { program := "yteklhipcojioaaadoor", sum := "3d7c934a882a14750cd7c00946d2f9a2af7b16b79eccc6d0aff38d3c2e63501f", func := "tenure/tenurelaw11.TreeKnown", spec := "treeKnown", unfollowed := true, recurses := true, named := ["tenure/term.shapes"], apart := false, laid := [("tenure/term.shapes", laid_tenure_term_shapes)] }
def TreeKnownSaid : Prop := treeKnownRow.holds Tryd.pinned (OpenSpec.ofChange treeKnownSpec)

/-- ITS FALSE NEIGHBOUR: 'it returns false'. Refute it at one input. -/
def treeKnownWrong : ChangeSpec := { name := "treeKnown", fn := fun _ => fun
  | [] => { results := [.lit (.bool false)], args := [] }
  | _ => none }
def TreeKnownWrongFalsely : Prop := treeKnownRow.holds Tryd.pinned (OpenSpec.ofChange treeKnownWrong)

/-- 'tenurelaw11.TreeHolds': WHATEVER THE INPUT: true; the input reads as it did. -/
def treeHoldsSpec : ChangeSpec := { name := "treeHolds", fn := fun _ => fun
  | [d1, d2] => { results := [.lit (.bool true)], args := [d1, d2] }
  | _ => none }
def treeHoldsRow : OpenClaim := { program := "yteklhipcojioaaadoor", sum := "3d7c934a882a14750cd7c00946d2f9a2af7b16b79eccc6d0aff38d3c2e63501f", func := "tenure/tenurelaw11.TreeHolds", spec := "treeHolds", unfollowed := true, recurses := true, named := ["tenure/term.shapes"], loops := true, apart := false, laid := [("tenure/term.shapes", laid_tenure_term_shapes)] }
def TreeHoldsSaid : Prop := treeHoldsRow.holds Tryd.pinned (OpenSpec.ofChange treeHoldsSpec)

/-- ITS FALSE NEIGHBOUR: 'it returns false'. Refute it at one input. -/
def treeHoldsWrong : ChangeSpec := { name := "treeHolds", fn := fun _ => fun
  | [d1, d2] => { results := [.lit (.bool false)], args := [d1, d2] }
  | _ => none }
def TreeHoldsWrongFalsely : Prop := treeHoldsRow.holds Tryd.pinned (OpenSpec.ofChange treeHoldsWrong)

/-- 'tenurelaw11.TreeRows': WHATEVER THE INPUT: true; the input reads as it did. -/
def treeRowsSpec : ChangeSpec := { name := "treeRows", fn := fun _ => fun
  | [d1, d2, d3] => { results := [.lit (.bool true)], args := [d1, d2, d3] }
  | _ => none }
def treeRowsRow : OpenClaim := { program := "yteklhipcojioaaadoor", sum := "3d7c934a882a14750cd7c00946d2f9a2af7b16b79eccc6d0aff38d3c2e63501f", func := "tenure/tenurelaw11.TreeRows", spec := "treeRows", unfollowed := true, recurses := true, named := ["tenure/term.shapes"], apart := false, laid := [("tenure/term.shapes", laid_tenure_term_shapes)] }
def TreeRowsSaid : Prop := treeRowsRow.holds Tryd.pinned (OpenSpec.ofChange treeRowsSpec)

/-- ITS FALSE NEIGHBOUR: 'it returns false'. Refute it at one input. -/
def treeRowsWrong : ChangeSpec := { name := "treeRows", fn := fun _ => fun
  | [d1, d2, d3] => { results := [.lit (.bool false)], args := [d1, d2, d3] }
  | _ => none }
def TreeRowsWrongFalsely : Prop := treeRowsRow.holds Tryd.pinned (OpenSpec.ofChange treeRowsWrong)

/- THE SECOND FORM. 'bulk': how many values and letters a reading holds, each counted each time it is reached (what is shared counts as often as it is met; a slice's spare places count too). A statement '..UptoSaid' is the law's where the arguments, and the package variables that the reading takes, are together of bulk at most 1048576: NARROWER than '..Said'. Prove '..Said' where nothing that the law and all that it calls make is longer than what came in: it says more and counts as full. Else prove '..UptoSaid'. A law counts once. -/
mutual
def uptoBulk {H : Type} : DataW H → Nat
  | .lit (.string bytes) => bytes.length + 1
  | .lit _ => 1
  | .nil => 1
  | .ptr d => uptoBulk d + 1
  | .slice elems spare => uptoBulkAll elems + uptoBulkAll spare + 1
  | .agg parts => uptoBulkAll parts + 1
  | .iface _ d => uptoBulk d + 1
  | .map entries => uptoBulkEntries entries + 1
  | .held _ => 1
def uptoBulkAll {H : Type} : List (DataW H) → Nat
  | [] => 0
  | d :: r => uptoBulk d + uptoBulkAll r
def uptoBulkEntries {H : Type} : List (Lit × DataW H) → Nat
  | [] => 0
  | x :: r => uptoBulkEntry x + uptoBulkEntries r
def uptoBulkEntry {H : Type} : Lit × DataW H → Nat
  | (.string bytes, d) => bytes.length + uptoBulk d + 1
  | (_, d) => uptoBulk d + 1
 end
def uptoSmall : (H : Type) → List (DataW H) → Bool := fun _ ds => decide (uptoBulkAll ds ≤ 1048576)
def OpenSpec.upto (s : _root_.Go.ChangeSpec) : _root_.Go.OpenSpec := { _root_.Go.OpenSpec.ofChange s with cond := some uptoSmall }

/-- 'tenurelaw11.TreeScript', WHERE WHAT IT READS IS OF BULK AT MOST 1048576: true; the input reads as it did. -/
def treeScriptUptoRow : OpenClaim := { program := "yteklhipcojioaaadoor", sum := "3d7c934a882a14750cd7c00946d2f9a2af7b16b79eccc6d0aff38d3c2e63501f", func := "tenure/tenurelaw11.TreeScript", spec := "treeScript", unfollowed := true, recurses := true, named := ["tenure/term.shapes"], loops := true, apart := false, laid := [("tenure/term.shapes", laid_tenure_term_shapes)], narrowed := true }
def TreeScriptUptoSaid : Prop := treeScriptUptoRow.holds Tryd.pinned (OpenSpec.upto treeScriptSpec)

/-- 'tenurelaw11.TreeNone', WHERE WHAT IT READS IS OF BULK AT MOST 1048576: true; the input reads as it did. -/
def treeNoneUptoRow : OpenClaim := { program := "yteklhipcojioaaadoor", sum := "3d7c934a882a14750cd7c00946d2f9a2af7b16b79eccc6d0aff38d3c2e63501f", func := "tenure/tenurelaw11.TreeNone", spec := "treeNone", unfollowed := true, recurses := true, named := ["tenure/term.shapes"], loops := true, apart := false, laid := [("tenure/term.shapes", laid_tenure_term_shapes)], narrowed := true }
def TreeNoneUptoSaid : Prop := treeNoneUptoRow.holds Tryd.pinned (OpenSpec.upto treeNoneSpec)

/-- 'tenurelaw11.TreeKnown', WHERE WHAT IT READS IS OF BULK AT MOST 1048576: true; the input reads as it did. -/
def treeKnownUptoRow : OpenClaim := { program := "yteklhipcojioaaadoor", sum := "3d7c934a882a14750cd7c00946d2f9a2af7b16b79eccc6d0aff38d3c2e63501f", func := "tenure/tenurelaw11.TreeKnown", spec := "treeKnown", unfollowed := true, recurses := true, named := ["tenure/term.shapes"], apart := false, laid := [("tenure/term.shapes", laid_tenure_term_shapes)], narrowed := true }
def TreeKnownUptoSaid : Prop := treeKnownUptoRow.holds Tryd.pinned (OpenSpec.upto treeKnownSpec)

/-- 'tenurelaw11.TreeHolds', WHERE WHAT IT READS IS OF BULK AT MOST 1048576: true; the input reads as it did. -/
def treeHoldsUptoRow : OpenClaim := { program := "yteklhipcojioaaadoor", sum := "3d7c934a882a14750cd7c00946d2f9a2af7b16b79eccc6d0aff38d3c2e63501f", func := "tenure/tenurelaw11.TreeHolds", spec := "treeHolds", unfollowed := true, recurses := true, named := ["tenure/term.shapes"], loops := true, apart := false, laid := [("tenure/term.shapes", laid_tenure_term_shapes)], narrowed := true }
def TreeHoldsUptoSaid : Prop := treeHoldsUptoRow.holds Tryd.pinned (OpenSpec.upto treeHoldsSpec)

/-- 'tenurelaw11.TreeRows', WHERE WHAT IT READS IS OF BULK AT MOST 1048576: true; the input reads as it did. -/
def treeRowsUptoRow : OpenClaim := { program := "yteklhipcojioaaadoor", sum := "3d7c934a882a14750cd7c00946d2f9a2af7b16b79eccc6d0aff38d3c2e63501f", func := "tenure/tenurelaw11.TreeRows", spec := "treeRows", unfollowed := true, recurses := true, named := ["tenure/term.shapes"], apart := false, laid := [("tenure/term.shapes", laid_tenure_term_shapes)], narrowed := true }
def TreeRowsUptoSaid : Prop := treeRowsUptoRow.holds Tryd.pinned (OpenSpec.upto treeRowsSpec)

end Rows
end Go.Proofs.YteklhipcojioaaaDoor
