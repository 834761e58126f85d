/-
  DERIVED. GIVEN WITH THE SEED: THE CARDS: each row of YtaiiicmldogjoaaDoorRows.lean that lists a variable, with what it lists TIED to the program's text (the seventh form; the later family's looks); each row that meets fmt, with fmt's text TOLD by the authors' own Lean function (tested against real Go, not proved from fmt's source: count such statements apart). THE CARD IS WHAT COUNTS. Prove the row's statement (the work); the ties are given (YtaiiicmldogjoaaDoorTie.lean); close each card by the builder's one call (the guide's Derived/Test/ToyasCard.lean, 'card_holds'). Laid BY PROGRAM, IN A SANDBOX (cutbox-door.mjs). By AI agents, Wed Nov 11 2026. No macro, syntax, notation, axiom, sorry.
-/
import Derived.Test.YtaiiicmldogjoaaDoorRows
import GoSem.ClaimSeven
namespace Go.Proofs.YtaiiicmldogjoaaDoor
namespace Rows

/-- THE TIED CARD OF 'tenurelaw09.HeapNone'. -/
def heapNoneCard : Claim7 := { stood := { row := heapNoneRow, standIns := [], harness := (true, "409f5a013bdbd9213eeae9005fec0cf48ef3cebe79ebd3fef42a793a3959362f"), looks := false }, kinds := [], alts := [], laidByText := true, laidKinds := [.data, .data], laidTests := true, laidLooks := .later }
def HeapNoneCardSaid : Prop := Claim7.holds Tryd.pinned (.plain (OpenSpec.ofChange heapNoneSpec)) heapNoneCard

/-- THE TIED CARD OF 'tenurelaw09.HeapKnown'. -/
def heapKnownCard : Claim7 := { stood := { row := heapKnownRow, standIns := [], harness := (true, "409f5a013bdbd9213eeae9005fec0cf48ef3cebe79ebd3fef42a793a3959362f"), looks := false }, kinds := [], alts := [], laidByText := true, laidKinds := [.data, .data], laidTests := true, laidLooks := .later }
def HeapKnownCardSaid : Prop := Claim7.holds Tryd.pinned (.plain (OpenSpec.ofChange heapKnownSpec)) heapKnownCard

/-- THE TIED CARD OF 'tenurelaw09.HeapCollects'. -/
def heapCollectsCard : Claim7 := { stood := { row := heapCollectsRow, standIns := [], harness := (true, "409f5a013bdbd9213eeae9005fec0cf48ef3cebe79ebd3fef42a793a3959362f"), looks := false }, kinds := [], alts := [], laidByText := true, laidKinds := [.data, .data], laidTests := true, laidLooks := .later }
def HeapCollectsCardSaid : Prop := Claim7.holds Tryd.pinned (.plain (OpenSpec.ofChange heapCollectsSpec)) heapCollectsCard

/-- THE SECOND FORM's CARD OF 'tenurelaw09.HeapNone'. -/
def heapNoneUptoCard : Claim7 := { stood := { row := heapNoneUptoRow, standIns := [], harness := (true, "409f5a013bdbd9213eeae9005fec0cf48ef3cebe79ebd3fef42a793a3959362f"), looks := false }, kinds := [], alts := [], laidByText := true, laidKinds := [.data, .data], laidTests := true, laidLooks := .later }
def HeapNoneUptoCardSaid : Prop := Claim7.holds Tryd.pinned (.plain (OpenSpec.upto heapNoneSpec)) heapNoneUptoCard

/-- THE SECOND FORM's CARD OF 'tenurelaw09.HeapKnown'. -/
def heapKnownUptoCard : Claim7 := { stood := { row := heapKnownUptoRow, standIns := [], harness := (true, "409f5a013bdbd9213eeae9005fec0cf48ef3cebe79ebd3fef42a793a3959362f"), looks := false }, kinds := [], alts := [], laidByText := true, laidKinds := [.data, .data], laidTests := true, laidLooks := .later }
def HeapKnownUptoCardSaid : Prop := Claim7.holds Tryd.pinned (.plain (OpenSpec.upto heapKnownSpec)) heapKnownUptoCard

/-- THE SECOND FORM's CARD OF 'tenurelaw09.HeapCollects'. -/
def heapCollectsUptoCard : Claim7 := { stood := { row := heapCollectsUptoRow, standIns := [], harness := (true, "409f5a013bdbd9213eeae9005fec0cf48ef3cebe79ebd3fef42a793a3959362f"), looks := false }, kinds := [], alts := [], laidByText := true, laidKinds := [.data, .data], laidTests := true, laidLooks := .later }
def HeapCollectsUptoCardSaid : Prop := Claim7.holds Tryd.pinned (.plain (OpenSpec.upto heapCollectsSpec)) heapCollectsUptoCard
end Rows
end Go.Proofs.YtaiiicmldogjoaaDoor
