/-
  NARROWER THAN 'FOR EVERY INPUT', by the rows' own cells (each row's printed sentence says how): WordPacks: laid · WordUnpacks: laid · WordKnown: laid · WordBack: laid · WordApart: laid.
  DERIVED. THE GIVEN ROWS OF THIS SEAT. 5 by the template 'for every input the law returns true; each argument reads behind the call as it read before'; 0 by the template 'total and deterministic' (their statements: YtblhpmnchnpejaaDoorTotals.lean).
  GIVEN WITH THE SEED: the statements are not yours to turn. If you find one false, say at which input.
  Laid BY PROGRAM, IN A SANDBOX (cutbox-rows.mjs): the forced cells as the released guide's own fill.sh prints them over the translation 2f98eebd02b9ad7f… (all of the seat's roots in one cut). By AI agents, Wed Nov 11 2026. No macro, syntax, notation, axiom, sorry.
-/
import Derived.Test.YtblhpmnchnpejaaDoorChecked
import GoSem.Claim
import GoSem.ClaimJoined
import GoSem.ClaimMapViews
import Derived.JoinedTies
import Derived.KernelRfl
namespace Go.Proofs.YtblhpmnchnpejaaDoor
/- THE CELL 'sum', in the pinned program and in every row, IS THE sha256 OF THE DUMP (.gsa) THAT YtblhpmnchnpejaaDoorProg.lean LOADS. Nothing in Lean hashes anything: it is a label: what it is worth is what the hold of that sum in a sandbox is worth. -/
noncomputable def Tryd.pinned : Pinned := { name := "ytblhpmnchnpejaadoor", sum := "2f98eebd02b9ad7f3585a2d5ba0a673cdd92ffcf91c9d54f302a4de7f9f579b1", checked := Tryd.checked }
namespace Rows
def none {H : Type} : Left H := { results := [], args := [] }

/- WHAT THE LISTED PACKAGE-LEVEL VARIABLES READ AS WHEN THE CALL BEGINS. Each datum BY PROGRAM (the guide's laid-datum.mjs) off the statement by which the dump's own 'gosem.cut.vars' lays the variable. In a bare row this is a premise. The card (YtblhpmnchnpejaaDoorCards.lean) ties it to the program's text. -/
def laid_tenure_word_numbers {H : Type} : DataW H := .agg [.agg [.lit (.int .i64 0), .lit (.int .i64 0)], .agg [.lit (.int .i64 (-576460752303423488)), .lit (.int .i64 576460752303423487)], .agg [.lit (.int .i64 0), .lit (.int .i64 1073741824)], .agg [.lit (.int .i64 0), .lit (.int .i64 1073741824)], .agg [.lit (.int .i64 0), .lit (.int .i64 1073741824)], .agg [.lit (.int .i64 0), .lit (.int .i64 1073741824)], .agg [.lit (.int .i64 0), .lit (.int .i64 1073741824)], .agg [.lit (.int .i64 0), .lit (.int .i64 1073741824)], .agg [.lit (.int .i64 0), .lit (.int .i64 0)], .agg [.lit (.int .i64 0), .lit (.int .i64 1073741824)], .agg [.lit (.int .i64 0), .lit (.int .i64 64)], .agg [.lit (.int .i64 0), .lit (.int .i64 137438953536)]]

/-- 'tenurelaw01.WordPacks': WHATEVER THE INPUT: true; the input reads as it did. -/
def wordPacksSpec : ChangeSpec := { name := "wordPacks", fn := fun _ => fun
  | [d1, d2] => { results := [.lit (.bool true)], args := [d1, d2] }
  | _ => none }
def wordPacksRow : OpenClaim := { program := "ytblhpmnchnpejaadoor", sum := "2f98eebd02b9ad7f3585a2d5ba0a673cdd92ffcf91c9d54f302a4de7f9f579b1", func := "tenure/tenurelaw01.WordPacks", spec := "wordPacks", named := ["tenure/word.numbers"], apart := false, laid := [("tenure/word.numbers", laid_tenure_word_numbers)] }
def WordPacksSaid : Prop := wordPacksRow.holds Tryd.pinned (OpenSpec.ofChange wordPacksSpec)

/-- ITS FALSE NEIGHBOUR: 'it returns false'. Refute it at one input. -/
def wordPacksWrong : ChangeSpec := { name := "wordPacks", fn := fun _ => fun
  | [d1, d2] => { results := [.lit (.bool false)], args := [d1, d2] }
  | _ => none }
def WordPacksWrongFalsely : Prop := wordPacksRow.holds Tryd.pinned (OpenSpec.ofChange wordPacksWrong)

/-- 'tenurelaw01.WordUnpacks': WHATEVER THE INPUT: true; the input reads as it did. -/
def wordUnpacksSpec : ChangeSpec := { name := "wordUnpacks", fn := fun _ => fun
  | [d] => { results := [.lit (.bool true)], args := [d] }
  | _ => none }
def wordUnpacksRow : OpenClaim := { program := "ytblhpmnchnpejaadoor", sum := "2f98eebd02b9ad7f3585a2d5ba0a673cdd92ffcf91c9d54f302a4de7f9f579b1", func := "tenure/tenurelaw01.WordUnpacks", spec := "wordUnpacks", named := ["tenure/word.numbers"], apart := false, laid := [("tenure/word.numbers", laid_tenure_word_numbers)] }
def WordUnpacksSaid : Prop := wordUnpacksRow.holds Tryd.pinned (OpenSpec.ofChange wordUnpacksSpec)

/-- ITS FALSE NEIGHBOUR: 'it returns false'. Refute it at one input. -/
def wordUnpacksWrong : ChangeSpec := { name := "wordUnpacks", fn := fun _ => fun
  | [d] => { results := [.lit (.bool false)], args := [d] }
  | _ => none }
def WordUnpacksWrongFalsely : Prop := wordUnpacksRow.holds Tryd.pinned (OpenSpec.ofChange wordUnpacksWrong)

/-- 'tenurelaw01.WordKnown': WHATEVER THE INPUT: true; the input reads as it did. -/
def wordKnownSpec : ChangeSpec := { name := "wordKnown", fn := fun _ => fun
  | [] => { results := [.lit (.bool true)], args := [] }
  | _ => none }
def wordKnownRow : OpenClaim := { program := "ytblhpmnchnpejaadoor", sum := "2f98eebd02b9ad7f3585a2d5ba0a673cdd92ffcf91c9d54f302a4de7f9f579b1", func := "tenure/tenurelaw01.WordKnown", spec := "wordKnown", named := ["tenure/word.numbers"], apart := false, laid := [("tenure/word.numbers", laid_tenure_word_numbers)] }
def WordKnownSaid : Prop := wordKnownRow.holds Tryd.pinned (OpenSpec.ofChange wordKnownSpec)

/-- ITS FALSE NEIGHBOUR: 'it returns false'. Refute it at one input. -/
def wordKnownWrong : ChangeSpec := { name := "wordKnown", fn := fun _ => fun
  | [] => { results := [.lit (.bool false)], args := [] }
  | _ => none }
def WordKnownWrongFalsely : Prop := wordKnownRow.holds Tryd.pinned (OpenSpec.ofChange wordKnownWrong)

/-- 'tenurelaw01.WordBack': WHATEVER THE INPUT: true; the input reads as it did. -/
def wordBackSpec : ChangeSpec := { name := "wordBack", fn := fun _ => fun
  | [d1, d2, d3] => { results := [.lit (.bool true)], args := [d1, d2, d3] }
  | _ => none }
def wordBackRow : OpenClaim := { program := "ytblhpmnchnpejaadoor", sum := "2f98eebd02b9ad7f3585a2d5ba0a673cdd92ffcf91c9d54f302a4de7f9f579b1", func := "tenure/tenurelaw01.WordBack", spec := "wordBack", named := ["tenure/word.numbers"], apart := false, laid := [("tenure/word.numbers", laid_tenure_word_numbers)] }
def WordBackSaid : Prop := wordBackRow.holds Tryd.pinned (OpenSpec.ofChange wordBackSpec)

/-- ITS FALSE NEIGHBOUR: 'it returns false'. Refute it at one input. -/
def wordBackWrong : ChangeSpec := { name := "wordBack", fn := fun _ => fun
  | [d1, d2, d3] => { results := [.lit (.bool false)], args := [d1, d2, d3] }
  | _ => none }
def WordBackWrongFalsely : Prop := wordBackRow.holds Tryd.pinned (OpenSpec.ofChange wordBackWrong)

/-- 'tenurelaw01.WordApart': WHATEVER THE INPUT: true; the input reads as it did. -/
def wordApartSpec : ChangeSpec := { name := "wordApart", fn := fun _ => fun
  | [d1, d2, d3, d4] => { results := [.lit (.bool true)], args := [d1, d2, d3, d4] }
  | _ => none }
def wordApartRow : OpenClaim := { program := "ytblhpmnchnpejaadoor", sum := "2f98eebd02b9ad7f3585a2d5ba0a673cdd92ffcf91c9d54f302a4de7f9f579b1", func := "tenure/tenurelaw01.WordApart", spec := "wordApart", named := ["tenure/word.numbers"], apart := false, laid := [("tenure/word.numbers", laid_tenure_word_numbers)] }
def WordApartSaid : Prop := wordApartRow.holds Tryd.pinned (OpenSpec.ofChange wordApartSpec)

/-- ITS FALSE NEIGHBOUR: 'it returns false'. Refute it at one input. -/
def wordApartWrong : ChangeSpec := { name := "wordApart", fn := fun _ => fun
  | [d1, d2, d3, d4] => { results := [.lit (.bool false)], args := [d1, d2, d3, d4] }
  | _ => none }
def WordApartWrongFalsely : Prop := wordApartRow.holds Tryd.pinned (OpenSpec.ofChange wordApartWrong)

/- THE SECOND FORM. 'bulk': how many values and letters a reading holds, each counted each time it is reached (what is shared counts as often as it is met; a slice's spare places count too). A statement '..UptoSaid' is the law's where the arguments, and the package variables that the reading takes, are together of bulk at most 1048576: NARROWER than '..Said'. Prove '..Said' where nothing that the law and all that it calls make is longer than what came in: it says more and counts as full. Else prove '..UptoSaid'. A law counts once. -/
mutual
def uptoBulk {H : Type} : DataW H → Nat
  | .lit (.string bytes) => bytes.length + 1
  | .lit _ => 1
  | .nil => 1
  | .ptr d => uptoBulk d + 1
  | .slice elems spare => uptoBulkAll elems + uptoBulkAll spare + 1
  | .agg parts => uptoBulkAll parts + 1
  | .iface _ d => uptoBulk d + 1
  | .map entries => uptoBulkEntries entries + 1
  | .held _ => 1
def uptoBulkAll {H : Type} : List (DataW H) → Nat
  | [] => 0
  | d :: r => uptoBulk d + uptoBulkAll r
def uptoBulkEntries {H : Type} : List (Lit × DataW H) → Nat
  | [] => 0
  | x :: r => uptoBulkEntry x + uptoBulkEntries r
def uptoBulkEntry {H : Type} : Lit × DataW H → Nat
  | (.string bytes, d) => bytes.length + uptoBulk d + 1
  | (_, d) => uptoBulk d + 1
 end
def uptoSmall : (H : Type) → List (DataW H) → Bool := fun _ ds => decide (uptoBulkAll ds ≤ 1048576)
def OpenSpec.upto (s : _root_.Go.ChangeSpec) : _root_.Go.OpenSpec := { _root_.Go.OpenSpec.ofChange s with cond := some uptoSmall }

/-- 'tenurelaw01.WordPacks', WHERE WHAT IT READS IS OF BULK AT MOST 1048576: true; the input reads as it did. -/
def wordPacksUptoRow : OpenClaim := { program := "ytblhpmnchnpejaadoor", sum := "2f98eebd02b9ad7f3585a2d5ba0a673cdd92ffcf91c9d54f302a4de7f9f579b1", func := "tenure/tenurelaw01.WordPacks", spec := "wordPacks", named := ["tenure/word.numbers"], apart := false, laid := [("tenure/word.numbers", laid_tenure_word_numbers)], narrowed := true }
def WordPacksUptoSaid : Prop := wordPacksUptoRow.holds Tryd.pinned (OpenSpec.upto wordPacksSpec)

/-- 'tenurelaw01.WordUnpacks', WHERE WHAT IT READS IS OF BULK AT MOST 1048576: true; the input reads as it did. -/
def wordUnpacksUptoRow : OpenClaim := { program := "ytblhpmnchnpejaadoor", sum := "2f98eebd02b9ad7f3585a2d5ba0a673cdd92ffcf91c9d54f302a4de7f9f579b1", func := "tenure/tenurelaw01.WordUnpacks", spec := "wordUnpacks", named := ["tenure/word.numbers"], apart := false, laid := [("tenure/word.numbers", laid_tenure_word_numbers)], narrowed := true }
def WordUnpacksUptoSaid : Prop := wordUnpacksUptoRow.holds Tryd.pinned (OpenSpec.upto wordUnpacksSpec)

/-- 'tenurelaw01.WordKnown', WHERE WHAT IT READS IS OF BULK AT MOST 1048576: true; the input reads as it did. -/
def wordKnownUptoRow : OpenClaim := { program := "ytblhpmnchnpejaadoor", sum := "2f98eebd02b9ad7f3585a2d5ba0a673cdd92ffcf91c9d54f302a4de7f9f579b1", func := "tenure/tenurelaw01.WordKnown", spec := "wordKnown", named := ["tenure/word.numbers"], apart := false, laid := [("tenure/word.numbers", laid_tenure_word_numbers)], narrowed := true }
def WordKnownUptoSaid : Prop := wordKnownUptoRow.holds Tryd.pinned (OpenSpec.upto wordKnownSpec)

/-- 'tenurelaw01.WordBack', WHERE WHAT IT READS IS OF BULK AT MOST 1048576: true; the input reads as it did. -/
def wordBackUptoRow : OpenClaim := { program := "ytblhpmnchnpejaadoor", sum := "2f98eebd02b9ad7f3585a2d5ba0a673cdd92ffcf91c9d54f302a4de7f9f579b1", func := "tenure/tenurelaw01.WordBack", spec := "wordBack", named := ["tenure/word.numbers"], apart := false, laid := [("tenure/word.numbers", laid_tenure_word_numbers)], narrowed := true }
def WordBackUptoSaid : Prop := wordBackUptoRow.holds Tryd.pinned (OpenSpec.upto wordBackSpec)

/-- 'tenurelaw01.WordApart', WHERE WHAT IT READS IS OF BULK AT MOST 1048576: true; the input reads as it did. -/
def wordApartUptoRow : OpenClaim := { program := "ytblhpmnchnpejaadoor", sum := "2f98eebd02b9ad7f3585a2d5ba0a673cdd92ffcf91c9d54f302a4de7f9f579b1", func := "tenure/tenurelaw01.WordApart", spec := "wordApart", named := ["tenure/word.numbers"], apart := false, laid := [("tenure/word.numbers", laid_tenure_word_numbers)], narrowed := true }
def WordApartUptoSaid : Prop := wordApartUptoRow.holds Tryd.pinned (OpenSpec.upto wordApartSpec)

end Rows
end Go.Proofs.YtblhpmnchnpejaaDoor
