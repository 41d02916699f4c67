/-
  DERIVED. GIVEN WITH THE SEED: THE CARDS: each row of YtbjohedenfindaaGreatDoorRows.lean that lists a variable, with what it lists TIED to the program's text (the seventh form; the later family's looks); each row that meets fmt, with fmt's text TOLD by the authors' own Lean function (tested against real Go, not proved from fmt's source: count such statements apart). THE CARD IS WHAT COUNTS. Prove the row's statement (the work); the ties are given (YtbjohedenfindaaGreatDoorTie.lean); close each card by the builder's one call (the guide's Derived/Test/ToyasCard.lean, 'card_holds'). Laid BY PROGRAM, IN A SANDBOX (cutbox-door.mjs). By AI agents, Wed Nov 11 2026. No macro, syntax, notation, axiom, sorry.
-/
import Derived.Test.YtbjohedenfindaaGreatDoorRows
import GoSem.ClaimSeven
namespace Go.Proofs.YtbjohedenfindaaGreatDoor
namespace Rows

/-- THE TIED CARD OF 'grammarsmithlaw1.PatternRead'. -/
def patternReadCard : Claim7 := { stood := { row := patternReadRow, standIns := [], harness := (true, "c7fd1bd0ae2736e99fcadaa042ee6cba3ed954c3aea351f275eea9c60403a16d"), looks := true }, kinds := [], alts := [], laidByText := true, laidKinds := [.data, .data, .data, .data, .handle, .sentinel, .sentinel, .sentinel, .sentinel, .sentinel, .sentinel, .sentinel, .sentinel, .sentinel, .pinned], laidTests := true, laidLooks := .later }
def PatternReadCardSaid : Prop := Claim7.holds Tryz.pinned (.plain (OpenSpec.ofChange patternReadSpec)) patternReadCard

/-- THE TIED CARD OF 'grammarsmithlaw1.PatternWritten'. -/
def patternWrittenCard : Claim7 := { stood := { row := patternWrittenRow, standIns := [], harness := (true, "c7fd1bd0ae2736e99fcadaa042ee6cba3ed954c3aea351f275eea9c60403a16d"), looks := true }, kinds := [], alts := [], laidByText := true, laidKinds := [.data, .data, .data, .handle, .sentinel, .sentinel, .sentinel, .sentinel, .sentinel, .sentinel, .sentinel], laidTests := true, laidLooks := .later }
def PatternWrittenCardSaid : Prop := Claim7.holds Tryz.pinned (.plain (OpenSpec.ofChange patternWrittenSpec)) patternWrittenCard

/-- THE TIED CARD OF 'grammarsmithlaw1.PatternMeans'. -/
def patternMeansCard : Claim7 := { stood := { row := patternMeansRow, standIns := [], harness := (true, "c7fd1bd0ae2736e99fcadaa042ee6cba3ed954c3aea351f275eea9c60403a16d"), looks := true }, kinds := [], alts := [], laidByText := true, laidKinds := [.data, .data, .data, .data, .sentinel, .sentinel, .sentinel, .sentinel, .pinned], laidTests := true, laidLooks := .later }
def PatternMeansCardSaid : Prop := Claim7.holds Tryz.pinned (.plain (OpenSpec.ofChange patternMeansSpec)) patternMeansCard

/-- THE TIED CARD OF 'grammarsmithlaw1.PatternBack'. -/
def patternBackCard : Claim7 := { stood := { row := patternBackRow, standIns := [], harness := (true, "c7fd1bd0ae2736e99fcadaa042ee6cba3ed954c3aea351f275eea9c60403a16d"), looks := true }, kinds := [], alts := [], laidByText := true, laidKinds := [.data, .data, .data, .data, .sentinel, .sentinel, .sentinel, .sentinel, .pinned], laidTests := true, laidLooks := .later }
def PatternBackCardSaid : Prop := Claim7.holds Tryz.pinned (.plain (OpenSpec.ofChange patternBackSpec)) patternBackCard

/-- THE SECOND FORM's CARD OF 'grammarsmithlaw1.PatternRead'. -/
def patternReadUptoCard : Claim7 := { stood := { row := patternReadUptoRow, standIns := [], harness := (true, "c7fd1bd0ae2736e99fcadaa042ee6cba3ed954c3aea351f275eea9c60403a16d"), looks := true }, kinds := [], alts := [], laidByText := true, laidKinds := [.data, .data, .data, .data, .handle, .sentinel, .sentinel, .sentinel, .sentinel, .sentinel, .sentinel, .sentinel, .sentinel, .sentinel, .pinned], laidTests := true, laidLooks := .later }
def PatternReadUptoCardSaid : Prop := Claim7.holds Tryz.pinned (.plain (OpenSpec.upto patternReadSpec)) patternReadUptoCard

/-- THE SECOND FORM's CARD OF 'grammarsmithlaw1.PatternWritten'. -/
def patternWrittenUptoCard : Claim7 := { stood := { row := patternWrittenUptoRow, standIns := [], harness := (true, "c7fd1bd0ae2736e99fcadaa042ee6cba3ed954c3aea351f275eea9c60403a16d"), looks := true }, kinds := [], alts := [], laidByText := true, laidKinds := [.data, .data, .data, .handle, .sentinel, .sentinel, .sentinel, .sentinel, .sentinel, .sentinel, .sentinel], laidTests := true, laidLooks := .later }
def PatternWrittenUptoCardSaid : Prop := Claim7.holds Tryz.pinned (.plain (OpenSpec.upto patternWrittenSpec)) patternWrittenUptoCard

/-- THE SECOND FORM's CARD OF 'grammarsmithlaw1.PatternMeans'. -/
def patternMeansUptoCard : Claim7 := { stood := { row := patternMeansUptoRow, standIns := [], harness := (true, "c7fd1bd0ae2736e99fcadaa042ee6cba3ed954c3aea351f275eea9c60403a16d"), looks := true }, kinds := [], alts := [], laidByText := true, laidKinds := [.data, .data, .data, .data, .sentinel, .sentinel, .sentinel, .sentinel, .pinned], laidTests := true, laidLooks := .later }
def PatternMeansUptoCardSaid : Prop := Claim7.holds Tryz.pinned (.plain (OpenSpec.upto patternMeansSpec)) patternMeansUptoCard

/-- THE SECOND FORM's CARD OF 'grammarsmithlaw1.PatternBack'. -/
def patternBackUptoCard : Claim7 := { stood := { row := patternBackUptoRow, standIns := [], harness := (true, "c7fd1bd0ae2736e99fcadaa042ee6cba3ed954c3aea351f275eea9c60403a16d"), looks := true }, kinds := [], alts := [], laidByText := true, laidKinds := [.data, .data, .data, .data, .sentinel, .sentinel, .sentinel, .sentinel, .pinned], laidTests := true, laidLooks := .later }
def PatternBackUptoCardSaid : Prop := Claim7.holds Tryz.pinned (.plain (OpenSpec.upto patternBackSpec)) patternBackUptoCard
end Rows
end Go.Proofs.YtbjohedenfindaaGreatDoor
