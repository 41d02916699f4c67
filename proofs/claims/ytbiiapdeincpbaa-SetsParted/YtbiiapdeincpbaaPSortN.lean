import Derived.Test.YtbiiapdeincpbaaPSort
import Derived.Shelf.SlSortCmp.NoneTotal
namespace Go.Proofs.Ytbiiapdeincpbaa
open Go.Shelf Go.RowKit Go.Lib Go.Sort
set_option linter.unusedVariables false
set_option maxRecDepth 100000

theorem sort_none (a : Option Addr) (c : Nat) (fv : Value) (w : World) : Calls Try.prog 60 #[.slice a 0 c, fv] w fun e w' => e = .returned (.tuple #[]) ∧ w' = w := by
  have := AnyF.slices_SortFunc_none Try.sortEdge a c fv w
  change Calls Try.prog 60 _ _ _ at this
  exact this


end Go.Proofs.Ytbiiapdeincpbaa
