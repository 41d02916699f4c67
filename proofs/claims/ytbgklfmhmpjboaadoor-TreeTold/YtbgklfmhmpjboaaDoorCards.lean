/-
  DERIVED. GIVEN WITH THE SEED: THE CARDS: each row of YtbgklfmhmpjboaaDoorRows.lean that lists a variable, with what it lists TIED to the program's text (the seventh form; the later family's looks); each row that meets fmt, with fmt's text TOLD by the authors' own Lean function (tested against real Go, not proved from fmt's source: count such statements apart). THE CARD IS WHAT COUNTS. Prove the row's statement (the work); the ties are given (YtbgklfmhmpjboaaDoorTie.lean); close each card by the builder's one call (the guide's Derived/Test/ToyasCard.lean, 'card_holds'). Laid BY PROGRAM, IN A SANDBOX (cutbox-door.mjs). By AI agents, Wed Nov 11 2026. No macro, syntax, notation, axiom, sorry.
-/
import Derived.Test.YtbgklfmhmpjboaaDoorRows
import GoSem.ClaimSeven
namespace Go.Proofs.YtbgklfmhmpjboaaDoor
namespace Rows

/-- THE TIED CARD OF 'grammarsmithlaw2.TreeTold'. -/
def treeToldCard : Claim7 := { stood := { row := treeToldRow, standIns := [], harness := (true, "ee303dd42c95832a5797633fea995f68826118e98028e2f8bcf1921ff160636a"), looks := false }, kinds := [], alts := [], laidByText := true, laidKinds := [.data, .data, .data], laidTests := true, laidLooks := .later }
def TreeToldCardSaid : Prop := Claim7.holds Tryd.pinned (.plain (OpenSpec.ofChange treeToldSpec)) treeToldCard

/-- THE SECOND FORM's CARD OF 'grammarsmithlaw2.TreeTold'. -/
def treeToldUptoCard : Claim7 := { stood := { row := treeToldUptoRow, standIns := [], harness := (true, "ee303dd42c95832a5797633fea995f68826118e98028e2f8bcf1921ff160636a"), looks := false }, kinds := [], alts := [], laidByText := true, laidKinds := [.data, .data, .data], laidTests := true, laidLooks := .later }
def TreeToldUptoCardSaid : Prop := Claim7.holds Tryd.pinned (.plain (OpenSpec.upto treeToldSpec)) treeToldUptoCard
end Rows
end Go.Proofs.YtbgklfmhmpjboaaDoor
