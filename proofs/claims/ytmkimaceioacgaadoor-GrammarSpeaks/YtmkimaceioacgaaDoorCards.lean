/-
  DERIVED. GIVEN WITH THE SEED: THE CARDS: each row of YtmkimaceioacgaaDoorRows.lean that lists a variable, with what it lists TIED to the program's text (the seventh form; the later family's looks); each row that meets fmt, with fmt's text TOLD by the authors' own Lean function (tested against real Go, not proved from fmt's source: count such statements apart). THE CARD IS WHAT COUNTS. Prove the row's statement (the work); the ties are given (YtmkimaceioacgaaDoorTie.lean); close each card by the builder's one call (the guide's Derived/Test/ToyasCard.lean, 'card_holds'). Laid BY PROGRAM, IN A SANDBOX (cutbox-door.mjs). By AI agents, Wed Nov 11 2026. No macro, syntax, notation, axiom, sorry.
-/
import Derived.Test.YtmkimaceioacgaaDoorRows
import GoSem.ClaimSeven
namespace Go.Proofs.YtmkimaceioacgaaDoor
namespace Rows

/-- THE TIED CARD OF 'grammarsmithlaw2.GrammarSpeaks'. -/
def grammarSpeaksCard : Claim7 := { stood := { row := grammarSpeaksRow, standIns := [], harness := (true, "8af0a070e5a53d626a9e98c4a6bc74dc27ddc8429d88492a96ce3b5fd3511925"), looks := false }, kinds := [], alts := [], laidByText := true, laidKinds := [.data], laidTests := true, laidLooks := .later }
def GrammarSpeaksCardSaid : Prop := Claim7.holds Tryd.pinned (.plain (OpenSpec.ofChange grammarSpeaksSpec)) grammarSpeaksCard

/-- THE SECOND FORM's CARD OF 'grammarsmithlaw2.GrammarSpeaks'. -/
def grammarSpeaksUptoCard : Claim7 := { stood := { row := grammarSpeaksUptoRow, standIns := [], harness := (true, "8af0a070e5a53d626a9e98c4a6bc74dc27ddc8429d88492a96ce3b5fd3511925"), looks := false }, kinds := [], alts := [], laidByText := true, laidKinds := [.data], laidTests := true, laidLooks := .later }
def GrammarSpeaksUptoCardSaid : Prop := Claim7.holds Tryd.pinned (.plain (OpenSpec.upto grammarSpeaksSpec)) grammarSpeaksUptoCard
end Rows
end Go.Proofs.YtmkimaceioacgaaDoor
