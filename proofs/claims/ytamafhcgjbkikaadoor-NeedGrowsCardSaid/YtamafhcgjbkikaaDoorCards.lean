/-
  DERIVED. GIVEN WITH THE SEED: THE CARDS: each row of YtamafhcgjbkikaaDoorRows.lean that lists a variable, with what it lists TIED to the program's text (the seventh form; the later family's looks); each row that meets fmt, with fmt's text TOLD by the authors' own Lean function (tested against real Go, not proved from fmt's source: count such statements apart). THE CARD IS WHAT COUNTS. Prove the row's statement (the work); the ties are given (YtamafhcgjbkikaaDoorTie.lean); close each card by the builder's one call (the guide's Derived/Test/ToyasCard.lean, 'card_holds'). Laid BY PROGRAM, IN A SANDBOX (cutbox-door.mjs). By AI agents, Wed Nov 11 2026. No macro, syntax, notation, axiom, sorry.
-/
import Derived.Test.YtamafhcgjbkikaaDoorRows
import GoSem.ClaimSeven
namespace Go.Proofs.YtamafhcgjbkikaaDoor
namespace Rows

/-- THE TIED CARD OF 'tenurelaw13.NeedTells'. -/
def needTellsCard : Claim7 := { stood := { row := needTellsRow, standIns := [], harness := (true, "9cf68a2e42192737bcf861e968f98afa5df4e2cbb657d7c56d809971cef9413d"), looks := false }, kinds := [], alts := [], laidByText := true, laidKinds := [.data, .data], laidTests := true, laidLooks := .later }
def NeedTellsCardSaid : Prop := Claim7.holds Tryd.pinned (.plain (OpenSpec.ofChange needTellsSpec)) needTellsCard

/-- THE TIED CARD OF 'tenurelaw13.NeedSums'. -/
def needSumsCard : Claim7 := { stood := { row := needSumsRow, standIns := [], harness := (true, "9cf68a2e42192737bcf861e968f98afa5df4e2cbb657d7c56d809971cef9413d"), looks := false }, kinds := [], alts := [], laidByText := true, laidKinds := [.data, .data], laidTests := true, laidLooks := .later }
def NeedSumsCardSaid : Prop := Claim7.holds Tryd.pinned (.plain (OpenSpec.ofChange needSumsSpec)) needSumsCard

/-- THE TIED CARD OF 'tenurelaw13.NeedKnown'. -/
def needKnownCard : Claim7 := { stood := { row := needKnownRow, standIns := [], harness := (true, "9cf68a2e42192737bcf861e968f98afa5df4e2cbb657d7c56d809971cef9413d"), looks := false }, kinds := [], alts := [], laidByText := true, laidKinds := [.data, .data], laidTests := true, laidLooks := .later }
def NeedKnownCardSaid : Prop := Claim7.holds Tryd.pinned (.plain (OpenSpec.ofChange needKnownSpec)) needKnownCard

/-- THE TIED CARD OF 'tenurelaw13.NeedGrows'. -/
def needGrowsCard : Claim7 := { stood := { row := needGrowsRow, standIns := [], harness := (true, "9cf68a2e42192737bcf861e968f98afa5df4e2cbb657d7c56d809971cef9413d"), looks := false }, kinds := [], alts := [], laidByText := true, laidKinds := [.data, .data], laidTests := true, laidLooks := .later }
def NeedGrowsCardSaid : Prop := Claim7.holds Tryd.pinned (.plain (OpenSpec.ofChange needGrowsSpec)) needGrowsCard

/-- THE SECOND FORM's CARD OF 'tenurelaw13.NeedTells'. -/
def needTellsUptoCard : Claim7 := { stood := { row := needTellsUptoRow, standIns := [], harness := (true, "9cf68a2e42192737bcf861e968f98afa5df4e2cbb657d7c56d809971cef9413d"), looks := false }, kinds := [], alts := [], laidByText := true, laidKinds := [.data, .data], laidTests := true, laidLooks := .later }
def NeedTellsUptoCardSaid : Prop := Claim7.holds Tryd.pinned (.plain (OpenSpec.upto needTellsSpec)) needTellsUptoCard

/-- THE SECOND FORM's CARD OF 'tenurelaw13.NeedSums'. -/
def needSumsUptoCard : Claim7 := { stood := { row := needSumsUptoRow, standIns := [], harness := (true, "9cf68a2e42192737bcf861e968f98afa5df4e2cbb657d7c56d809971cef9413d"), looks := false }, kinds := [], alts := [], laidByText := true, laidKinds := [.data, .data], laidTests := true, laidLooks := .later }
def NeedSumsUptoCardSaid : Prop := Claim7.holds Tryd.pinned (.plain (OpenSpec.upto needSumsSpec)) needSumsUptoCard

/-- THE SECOND FORM's CARD OF 'tenurelaw13.NeedKnown'. -/
def needKnownUptoCard : Claim7 := { stood := { row := needKnownUptoRow, standIns := [], harness := (true, "9cf68a2e42192737bcf861e968f98afa5df4e2cbb657d7c56d809971cef9413d"), looks := false }, kinds := [], alts := [], laidByText := true, laidKinds := [.data, .data], laidTests := true, laidLooks := .later }
def NeedKnownUptoCardSaid : Prop := Claim7.holds Tryd.pinned (.plain (OpenSpec.upto needKnownSpec)) needKnownUptoCard

/-- THE SECOND FORM's CARD OF 'tenurelaw13.NeedGrows'. -/
def needGrowsUptoCard : Claim7 := { stood := { row := needGrowsUptoRow, standIns := [], harness := (true, "9cf68a2e42192737bcf861e968f98afa5df4e2cbb657d7c56d809971cef9413d"), looks := false }, kinds := [], alts := [], laidByText := true, laidKinds := [.data, .data], laidTests := true, laidLooks := .later }
def NeedGrowsUptoCardSaid : Prop := Claim7.holds Tryd.pinned (.plain (OpenSpec.upto needGrowsSpec)) needGrowsUptoCard
end Rows
end Go.Proofs.YtamafhcgjbkikaaDoor
