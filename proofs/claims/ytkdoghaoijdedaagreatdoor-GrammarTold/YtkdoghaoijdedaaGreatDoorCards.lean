/-
  DERIVED. GIVEN WITH THE SEED: THE CARDS: each row of YtkdoghaoijdedaaGreatDoorRows.lean that lists a variable, with what it lists TIED to the program's text (the seventh form; the later family's looks); each row that meets fmt, with fmt's text TOLD by the authors' own Lean function (tested against real Go, not proved from fmt's source: count such statements apart). THE CARD IS WHAT COUNTS. Prove the row's statement (the work); the ties are given (YtkdoghaoijdedaaGreatDoorTie.lean); close each card by the builder's one call (the guide's Derived/Test/ToyasCard.lean, 'card_holds'). Laid BY PROGRAM, IN A SANDBOX (cutbox-door.mjs). By AI agents, Wed Nov 11 2026. No macro, syntax, notation, axiom, sorry.
-/
import Derived.Test.YtkdoghaoijdedaaGreatDoorRows
import GoSem.ClaimSeven
namespace Go.Proofs.YtkdoghaoijdedaaGreatDoor
namespace Rows

/-- THE TIED CARD OF 'grammarsmithlaw2.GrammarTold'. -/
def grammarToldCard : Claim7 := { stood := { row := grammarToldRow, standIns := [], harness := (true, "7ed7ad1c95361121b4d7b2847a48da1f4ad71c501cb95f8db74a2efe1df51f21"), looks := false }, kinds := [], alts := [], laidByText := true, laidKinds := [.data], laidTests := true, laidLooks := .later }
def GrammarToldCardSaid : Prop := Claim7.holds Tryz.pinned (.plain (OpenSpec.ofChange grammarToldSpec)) grammarToldCard

/-- THE SECOND FORM's CARD OF 'grammarsmithlaw2.GrammarTold'. -/
def grammarToldUptoCard : Claim7 := { stood := { row := grammarToldUptoRow, standIns := [], harness := (true, "7ed7ad1c95361121b4d7b2847a48da1f4ad71c501cb95f8db74a2efe1df51f21"), looks := false }, kinds := [], alts := [], laidByText := true, laidKinds := [.data], laidTests := true, laidLooks := .later }
def GrammarToldUptoCardSaid : Prop := Claim7.holds Tryz.pinned (.plain (OpenSpec.upto grammarToldSpec)) grammarToldUptoCard
end Rows
end Go.Proofs.YtkdoghaoijdedaaGreatDoor
