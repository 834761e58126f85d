/-
  DERIVED. GIVEN WITH THE SEED: THE CARDS: each row of YtnpnbonodkpkdaaDoorRows.lean that lists a variable, with what it lists TIED to the program's text (the seventh form; the later family's looks); each row that meets fmt, with fmt's text TOLD by the authors' own Lean function (tested against real Go, not proved from fmt's source: count such statements apart). THE CARD IS WHAT COUNTS. Prove the row's statement (the work); the ties are given (YtnpnbonodkpkdaaDoorTie.lean); close each card by the builder's one call (the guide's Derived/Test/ToyasCard.lean, 'card_holds'). Laid BY PROGRAM, IN A SANDBOX (cutbox-door.mjs). By AI agents, Wed Nov 11 2026. No macro, syntax, notation, axiom, sorry.
-/
import Derived.Test.YtnpnbonodkpkdaaDoorRows
import GoSem.ClaimSeven
namespace Go.Proofs.YtnpnbonodkpkdaaDoor
namespace Rows

/-- THE TIED CARD OF 'tenurelaw02.TermChecks'. -/
def termChecksCard : Claim7 := { stood := { row := termChecksRow, standIns := [], harness := (true, "7730f8e065ef1467ae807d230cde63e4aee2e40309b1156c72ef1f504fda4351"), looks := false }, kinds := [], alts := [], laidByText := true, laidKinds := [.data], laidTests := true, laidLooks := .later }
def TermChecksCardSaid : Prop := Claim7.holds Tryd.pinned (.plain (OpenSpec.ofChange termChecksSpec)) termChecksCard

/-- THE TIED CARD OF 'tenurelaw02.TermLong'. -/
def termLongCard : Claim7 := { stood := { row := termLongRow, standIns := [], harness := (true, "7730f8e065ef1467ae807d230cde63e4aee2e40309b1156c72ef1f504fda4351"), looks := false }, kinds := [], alts := [], laidByText := true, laidKinds := [.data], laidTests := true, laidLooks := .later }
def TermLongCardSaid : Prop := Claim7.holds Tryd.pinned (.plain (OpenSpec.ofChange termLongSpec)) termLongCard

/-- THE TIED CARD OF 'tenurelaw02.TermMakes'. -/
def termMakesCard : Claim7 := { stood := { row := termMakesRow, standIns := [], harness := (true, "7730f8e065ef1467ae807d230cde63e4aee2e40309b1156c72ef1f504fda4351"), looks := false }, kinds := [], alts := [], laidByText := true, laidKinds := [.data], laidTests := true, laidLooks := .later }
def TermMakesCardSaid : Prop := Claim7.holds Tryd.pinned (.plain (OpenSpec.ofChange termMakesSpec)) termMakesCard

/-- THE TIED CARD OF 'tenurelaw02.TermKnown'. -/
def termKnownCard : Claim7 := { stood := { row := termKnownRow, standIns := [], harness := (true, "7730f8e065ef1467ae807d230cde63e4aee2e40309b1156c72ef1f504fda4351"), looks := false }, kinds := [], alts := [], laidByText := true, laidKinds := [.data], laidTests := true, laidLooks := .later }
def TermKnownCardSaid : Prop := Claim7.holds Tryd.pinned (.plain (OpenSpec.ofChange termKnownSpec)) termKnownCard

/-- THE TIED CARD OF 'tenurelaw02.TermLists'. -/
def termListsCard : Claim7 := { stood := { row := termListsRow, standIns := [], harness := (true, "7730f8e065ef1467ae807d230cde63e4aee2e40309b1156c72ef1f504fda4351"), looks := false }, kinds := [], alts := [], laidByText := true, laidKinds := [.data], laidTests := true, laidLooks := .later }
def TermListsCardSaid : Prop := Claim7.holds Tryd.pinned (.plain (OpenSpec.ofChange termListsSpec)) termListsCard

/-- THE TIED CARD OF 'tenurelaw02.TermCopies'. -/
def termCopiesCard : Claim7 := { stood := { row := termCopiesRow, standIns := [], harness := (true, "7730f8e065ef1467ae807d230cde63e4aee2e40309b1156c72ef1f504fda4351"), looks := false }, kinds := [], alts := [], laidByText := true, laidKinds := [.data], laidTests := true, laidLooks := .later }
def TermCopiesCardSaid : Prop := Claim7.holds Tryd.pinned (.plain (OpenSpec.ofChange termCopiesSpec)) termCopiesCard

/-- THE SECOND FORM's CARD OF 'tenurelaw02.TermChecks'. -/
def termChecksUptoCard : Claim7 := { stood := { row := termChecksUptoRow, standIns := [], harness := (true, "7730f8e065ef1467ae807d230cde63e4aee2e40309b1156c72ef1f504fda4351"), looks := false }, kinds := [], alts := [], laidByText := true, laidKinds := [.data], laidTests := true, laidLooks := .later }
def TermChecksUptoCardSaid : Prop := Claim7.holds Tryd.pinned (.plain (OpenSpec.upto termChecksSpec)) termChecksUptoCard

/-- THE SECOND FORM's CARD OF 'tenurelaw02.TermLong'. -/
def termLongUptoCard : Claim7 := { stood := { row := termLongUptoRow, standIns := [], harness := (true, "7730f8e065ef1467ae807d230cde63e4aee2e40309b1156c72ef1f504fda4351"), looks := false }, kinds := [], alts := [], laidByText := true, laidKinds := [.data], laidTests := true, laidLooks := .later }
def TermLongUptoCardSaid : Prop := Claim7.holds Tryd.pinned (.plain (OpenSpec.upto termLongSpec)) termLongUptoCard

/-- THE SECOND FORM's CARD OF 'tenurelaw02.TermMakes'. -/
def termMakesUptoCard : Claim7 := { stood := { row := termMakesUptoRow, standIns := [], harness := (true, "7730f8e065ef1467ae807d230cde63e4aee2e40309b1156c72ef1f504fda4351"), looks := false }, kinds := [], alts := [], laidByText := true, laidKinds := [.data], laidTests := true, laidLooks := .later }
def TermMakesUptoCardSaid : Prop := Claim7.holds Tryd.pinned (.plain (OpenSpec.upto termMakesSpec)) termMakesUptoCard

/-- THE SECOND FORM's CARD OF 'tenurelaw02.TermKnown'. -/
def termKnownUptoCard : Claim7 := { stood := { row := termKnownUptoRow, standIns := [], harness := (true, "7730f8e065ef1467ae807d230cde63e4aee2e40309b1156c72ef1f504fda4351"), looks := false }, kinds := [], alts := [], laidByText := true, laidKinds := [.data], laidTests := true, laidLooks := .later }
def TermKnownUptoCardSaid : Prop := Claim7.holds Tryd.pinned (.plain (OpenSpec.upto termKnownSpec)) termKnownUptoCard

/-- THE SECOND FORM's CARD OF 'tenurelaw02.TermLists'. -/
def termListsUptoCard : Claim7 := { stood := { row := termListsUptoRow, standIns := [], harness := (true, "7730f8e065ef1467ae807d230cde63e4aee2e40309b1156c72ef1f504fda4351"), looks := false }, kinds := [], alts := [], laidByText := true, laidKinds := [.data], laidTests := true, laidLooks := .later }
def TermListsUptoCardSaid : Prop := Claim7.holds Tryd.pinned (.plain (OpenSpec.upto termListsSpec)) termListsUptoCard

/-- THE SECOND FORM's CARD OF 'tenurelaw02.TermCopies'. -/
def termCopiesUptoCard : Claim7 := { stood := { row := termCopiesUptoRow, standIns := [], harness := (true, "7730f8e065ef1467ae807d230cde63e4aee2e40309b1156c72ef1f504fda4351"), looks := false }, kinds := [], alts := [], laidByText := true, laidKinds := [.data], laidTests := true, laidLooks := .later }
def TermCopiesUptoCardSaid : Prop := Claim7.holds Tryd.pinned (.plain (OpenSpec.upto termCopiesSpec)) termCopiesUptoCard
end Rows
end Go.Proofs.YtnpnbonodkpkdaaDoor
