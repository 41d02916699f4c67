/-
  DERIVED. GIVEN WITH THE SEED: THE CARDS: each row of YtgmmfpdekefamaaGreatDoorRows.lean that lists a variable, with what it lists TIED to the program's text (the seventh form; the later family's looks); each row that meets fmt, with fmt's text TOLD by the authors' own Lean function (tested against real Go, not proved from fmt's source: count such statements apart). THE CARD IS WHAT COUNTS. Prove the row's statement (the work); the ties are given (YtgmmfpdekefamaaGreatDoorTie.lean); close each card by the builder's one call (the guide's Derived/Test/ToyasCard.lean, 'card_holds'). Laid BY PROGRAM, IN A SANDBOX (cutbox-door.mjs). By AI agents, Wed Nov 11 2026. No macro, syntax, notation, axiom, sorry.
-/
import Derived.Test.YtgmmfpdekefamaaGreatDoorRows
import GoSem.ClaimSeven
namespace Go.Proofs.YtgmmfpdekefamaaGreatDoor
namespace Rows

/-- THE TIED CARD OF 'grammarsmithlaw3.ActionWritten'. -/
def actionWrittenCard : Claim7 := { stood := { row := actionWrittenRow, standIns := [], harness := (true, "311eb7d86cbaf3fe49749116c382d22fe95da12bfe80c05503c5ecc2e3aed444"), looks := true }, kinds := [], alts := [], laidByText := true, laidKinds := [.data, .data, .data, .data, .handle, .sentinel, .sentinel, .sentinel, .sentinel, .sentinel, .sentinel, .sentinel, .pinned], laidTests := true, laidLooks := .later }
def ActionWrittenCardSaid : Prop := Claim7.holds Tryz.pinned (.plain (OpenSpec.ofChange actionWrittenSpec)) actionWrittenCard

/-- THE TIED CARD OF 'grammarsmithlaw3.ActionTyped'. -/
def actionTypedCard : Claim7 := { stood := { row := actionTypedRow, standIns := [], harness := (true, "311eb7d86cbaf3fe49749116c382d22fe95da12bfe80c05503c5ecc2e3aed444"), looks := true }, kinds := [], alts := [], laidByText := true, laidKinds := [.data, .handle, .sentinel, .sentinel, .sentinel, .sentinel, .sentinel, .sentinel, .sentinel, .pinned], laidTests := true, laidLooks := .later }
def ActionTypedCardSaid : Prop := Claim7.holds Tryz.pinned (.plain (OpenSpec.ofChange actionTypedSpec)) actionTypedCard

/-- THE TIED CARD OF 'grammarsmithlaw3.ActionRuns'. -/
def actionRunsCard : Claim7 := { stood := { row := actionRunsRow, standIns := [], harness := (true, "311eb7d86cbaf3fe49749116c382d22fe95da12bfe80c05503c5ecc2e3aed444"), looks := true }, kinds := [], alts := [], laidByText := true, laidKinds := [.data, .data, .data, .data, .sentinel, .sentinel, .sentinel, .sentinel, .sentinel, .sentinel, .pinned], laidTests := true, laidLooks := .later }
def ActionRunsCardSaid : Prop := Claim7.holds Tryz.pinned (.plain (OpenSpec.ofChange actionRunsSpec)) actionRunsCard

/-- THE SECOND FORM's CARD OF 'grammarsmithlaw3.ActionWritten'. -/
def actionWrittenUptoCard : Claim7 := { stood := { row := actionWrittenUptoRow, standIns := [], harness := (true, "311eb7d86cbaf3fe49749116c382d22fe95da12bfe80c05503c5ecc2e3aed444"), looks := true }, kinds := [], alts := [], laidByText := true, laidKinds := [.data, .data, .data, .data, .handle, .sentinel, .sentinel, .sentinel, .sentinel, .sentinel, .sentinel, .sentinel, .pinned], laidTests := true, laidLooks := .later }
def ActionWrittenUptoCardSaid : Prop := Claim7.holds Tryz.pinned (.plain (OpenSpec.upto actionWrittenSpec)) actionWrittenUptoCard

/-- THE SECOND FORM's CARD OF 'grammarsmithlaw3.ActionTyped'. -/
def actionTypedUptoCard : Claim7 := { stood := { row := actionTypedUptoRow, standIns := [], harness := (true, "311eb7d86cbaf3fe49749116c382d22fe95da12bfe80c05503c5ecc2e3aed444"), looks := true }, kinds := [], alts := [], laidByText := true, laidKinds := [.data, .handle, .sentinel, .sentinel, .sentinel, .sentinel, .sentinel, .sentinel, .sentinel, .pinned], laidTests := true, laidLooks := .later }
def ActionTypedUptoCardSaid : Prop := Claim7.holds Tryz.pinned (.plain (OpenSpec.upto actionTypedSpec)) actionTypedUptoCard

/-- THE SECOND FORM's CARD OF 'grammarsmithlaw3.ActionRuns'. -/
def actionRunsUptoCard : Claim7 := { stood := { row := actionRunsUptoRow, standIns := [], harness := (true, "311eb7d86cbaf3fe49749116c382d22fe95da12bfe80c05503c5ecc2e3aed444"), looks := true }, kinds := [], alts := [], laidByText := true, laidKinds := [.data, .data, .data, .data, .sentinel, .sentinel, .sentinel, .sentinel, .sentinel, .sentinel, .pinned], laidTests := true, laidLooks := .later }
def ActionRunsUptoCardSaid : Prop := Claim7.holds Tryz.pinned (.plain (OpenSpec.upto actionRunsSpec)) actionRunsUptoCard
end Rows
end Go.Proofs.YtgmmfpdekefamaaGreatDoor
