/-
  DERIVED. GIVEN WITH THE SEED: THE CARDS: each row of YthkjdcmlalgphaaDoorRows.lean that lists a variable, with what it lists TIED to the program's text (the seventh form; the later family's looks); each row that meets fmt, with fmt's text TOLD by the authors' own Lean function (tested against real Go, not proved from fmt's source: count such statements apart). THE CARD IS WHAT COUNTS. Prove the row's statement (the work); the ties are given (YthkjdcmlalgphaaDoorTie.lean); close each card by the builder's one call (the guide's Derived/Test/ToyasCard.lean, 'card_holds'). Laid BY PROGRAM, IN A SANDBOX (cutbox-door.mjs). By AI agents, Wed Nov 11 2026. No macro, syntax, notation, axiom, sorry.
-/
import Derived.Test.YthkjdcmlalgphaaDoorRows
import GoSem.ClaimSeven
namespace Go.Proofs.YthkjdcmlalgphaaDoor
namespace Rows

/-- THE TIED CARD OF 'tenurelaw07.FlatWrites'. -/
def flatWritesCard : Claim7 := { stood := { row := flatWritesRow, standIns := [], harness := (true, "d7b0c9b2cfe902f03ff8fdc11c4deab01dbf610a5f960987e4436496c5ed9a7a"), looks := false }, kinds := [], alts := [], laidByText := true, laidKinds := [.data, .data], laidTests := true, laidLooks := .later }
def FlatWritesCardSaid : Prop := Claim7.holds Tryd.pinned (.plain (OpenSpec.ofChange flatWritesSpec)) flatWritesCard

/-- THE TIED CARD OF 'tenurelaw07.FlatReads'. -/
def flatReadsCard : Claim7 := { stood := { row := flatReadsRow, standIns := [], harness := (true, "d7b0c9b2cfe902f03ff8fdc11c4deab01dbf610a5f960987e4436496c5ed9a7a"), looks := false }, kinds := [], alts := [], laidByText := true, laidKinds := [.data, .data], laidTests := true, laidLooks := .later }
def FlatReadsCardSaid : Prop := Claim7.holds Tryd.pinned (.plain (OpenSpec.ofChange flatReadsSpec)) flatReadsCard

/-- THE TIED CARD OF 'tenurelaw07.FlatNone'. -/
def flatNoneCard : Claim7 := { stood := { row := flatNoneRow, standIns := [], harness := (true, "d7b0c9b2cfe902f03ff8fdc11c4deab01dbf610a5f960987e4436496c5ed9a7a"), looks := false }, kinds := [], alts := [], laidByText := true, laidKinds := [.data, .data], laidTests := true, laidLooks := .later }
def FlatNoneCardSaid : Prop := Claim7.holds Tryd.pinned (.plain (OpenSpec.ofChange flatNoneSpec)) flatNoneCard

/-- THE TIED CARD OF 'tenurelaw07.FlatKnown'. -/
def flatKnownCard : Claim7 := { stood := { row := flatKnownRow, standIns := [], harness := (true, "d7b0c9b2cfe902f03ff8fdc11c4deab01dbf610a5f960987e4436496c5ed9a7a"), looks := false }, kinds := [], alts := [], laidByText := true, laidKinds := [.data, .data], laidTests := true, laidLooks := .later }
def FlatKnownCardSaid : Prop := Claim7.holds Tryd.pinned (.plain (OpenSpec.ofChange flatKnownSpec)) flatKnownCard

/-- THE TIED CARD OF 'tenurelaw07.FlatBack'. -/
def flatBackCard : Claim7 := { stood := { row := flatBackRow, standIns := [], harness := (true, "d7b0c9b2cfe902f03ff8fdc11c4deab01dbf610a5f960987e4436496c5ed9a7a"), looks := false }, kinds := [], alts := [], laidByText := true, laidKinds := [.data, .data], laidTests := true, laidLooks := .later }
def FlatBackCardSaid : Prop := Claim7.holds Tryd.pinned (.plain (OpenSpec.ofChange flatBackSpec)) flatBackCard

/-- THE SECOND FORM's CARD OF 'tenurelaw07.FlatWrites'. -/
def flatWritesUptoCard : Claim7 := { stood := { row := flatWritesUptoRow, standIns := [], harness := (true, "d7b0c9b2cfe902f03ff8fdc11c4deab01dbf610a5f960987e4436496c5ed9a7a"), looks := false }, kinds := [], alts := [], laidByText := true, laidKinds := [.data, .data], laidTests := true, laidLooks := .later }
def FlatWritesUptoCardSaid : Prop := Claim7.holds Tryd.pinned (.plain (OpenSpec.upto flatWritesSpec)) flatWritesUptoCard

/-- THE SECOND FORM's CARD OF 'tenurelaw07.FlatReads'. -/
def flatReadsUptoCard : Claim7 := { stood := { row := flatReadsUptoRow, standIns := [], harness := (true, "d7b0c9b2cfe902f03ff8fdc11c4deab01dbf610a5f960987e4436496c5ed9a7a"), looks := false }, kinds := [], alts := [], laidByText := true, laidKinds := [.data, .data], laidTests := true, laidLooks := .later }
def FlatReadsUptoCardSaid : Prop := Claim7.holds Tryd.pinned (.plain (OpenSpec.upto flatReadsSpec)) flatReadsUptoCard

/-- THE SECOND FORM's CARD OF 'tenurelaw07.FlatNone'. -/
def flatNoneUptoCard : Claim7 := { stood := { row := flatNoneUptoRow, standIns := [], harness := (true, "d7b0c9b2cfe902f03ff8fdc11c4deab01dbf610a5f960987e4436496c5ed9a7a"), looks := false }, kinds := [], alts := [], laidByText := true, laidKinds := [.data, .data], laidTests := true, laidLooks := .later }
def FlatNoneUptoCardSaid : Prop := Claim7.holds Tryd.pinned (.plain (OpenSpec.upto flatNoneSpec)) flatNoneUptoCard

/-- THE SECOND FORM's CARD OF 'tenurelaw07.FlatKnown'. -/
def flatKnownUptoCard : Claim7 := { stood := { row := flatKnownUptoRow, standIns := [], harness := (true, "d7b0c9b2cfe902f03ff8fdc11c4deab01dbf610a5f960987e4436496c5ed9a7a"), looks := false }, kinds := [], alts := [], laidByText := true, laidKinds := [.data, .data], laidTests := true, laidLooks := .later }
def FlatKnownUptoCardSaid : Prop := Claim7.holds Tryd.pinned (.plain (OpenSpec.upto flatKnownSpec)) flatKnownUptoCard

/-- THE SECOND FORM's CARD OF 'tenurelaw07.FlatBack'. -/
def flatBackUptoCard : Claim7 := { stood := { row := flatBackUptoRow, standIns := [], harness := (true, "d7b0c9b2cfe902f03ff8fdc11c4deab01dbf610a5f960987e4436496c5ed9a7a"), looks := false }, kinds := [], alts := [], laidByText := true, laidKinds := [.data, .data], laidTests := true, laidLooks := .later }
def FlatBackUptoCardSaid : Prop := Claim7.holds Tryd.pinned (.plain (OpenSpec.upto flatBackSpec)) flatBackUptoCard
end Rows
end Go.Proofs.YthkjdcmlalgphaaDoor
