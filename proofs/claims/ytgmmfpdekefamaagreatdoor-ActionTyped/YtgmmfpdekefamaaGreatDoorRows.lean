/-
  NARROWER THAN 'FOR EVERY INPUT', by the rows' own cells (each row's printed sentence says how): ActionWritten: laid · ActionTyped: laid · ActionRuns: laid.
  DERIVED. THE GIVEN ROWS OF THIS SEAT. 3 by the template 'for every input the law returns true; each argument reads behind the call as it read before'; 0 by the template 'total and deterministic' (their statements: YtgmmfpdekefamaaGreatDoorTotals.lean).
  GIVEN WITH THE SEED: the statements are not yours to turn. If you find one false, say at which input.
  Laid BY PROGRAM, IN A SANDBOX (cutbox-rows.mjs): the forced cells as the released guide's own fill.sh prints them over the translation 672d11b0cbae09ba… (all of the seat's roots in one cut). By AI agents, Wed Nov 11 2026. No macro, syntax, notation, axiom, sorry.
-/
import Derived.Test.YtgmmfpdekefamaaGreatDoorChecked
import GoSem.PinnedTables
import GoSem.Claim
import GoSem.ClaimJoined
import GoSem.ClaimMapViews
import Derived.JoinedTies
import Derived.KernelRfl
namespace Go.Proofs.YtgmmfpdekefamaaGreatDoor
/- THE CELL 'sum', in the pinned program and in every row, IS THE sha256 OF THE DUMP (.gsa) THAT YtgmmfpdekefamaaGreatDoorProg.lean LOADS. Nothing in Lean hashes anything: it is a label: what it is worth is what the hold of that sum in a sandbox is worth. -/
noncomputable def Tryz.pinned : Pinned := { name := "ytgmmfpdekefamaagreatdoor", sum := "672d11b0cbae09ba693abc99fecd445c17d42cf3c84c3200bcbbe9fe78d6e19e", checked := Tryz.checked }
namespace Rows
def none {H : Type} : Left H := { results := [], args := [] }

/- WHAT THE LISTED PACKAGE-LEVEL VARIABLES READ AS WHEN THE CALL BEGINS. Each datum BY PROGRAM (the guide's laid-datum.mjs) off the statement by which the dump's own 'gosem.cut.vars' lays the variable. In a bare row this is a premise. The card (YtgmmfpdekefamaaGreatDoorCards.lean) ties it to the program's text. -/
def laid_math_bits_deBruijn32tab {H : Type} : DataW H := .agg [.lit (.int .u8 0), .lit (.int .u8 1), .lit (.int .u8 28), .lit (.int .u8 2), .lit (.int .u8 29), .lit (.int .u8 14), .lit (.int .u8 24), .lit (.int .u8 3), .lit (.int .u8 30), .lit (.int .u8 22), .lit (.int .u8 20), .lit (.int .u8 15), .lit (.int .u8 25), .lit (.int .u8 17), .lit (.int .u8 4), .lit (.int .u8 8), .lit (.int .u8 31), .lit (.int .u8 27), .lit (.int .u8 13), .lit (.int .u8 23), .lit (.int .u8 21), .lit (.int .u8 19), .lit (.int .u8 16), .lit (.int .u8 7), .lit (.int .u8 26), .lit (.int .u8 12), .lit (.int .u8 18), .lit (.int .u8 6), .lit (.int .u8 11), .lit (.int .u8 5), .lit (.int .u8 10), .lit (.int .u8 9)]
def laid_math_bits_deBruijn64tab {H : Type} : DataW H := .agg [.lit (.int .u8 0), .lit (.int .u8 1), .lit (.int .u8 56), .lit (.int .u8 2), .lit (.int .u8 57), .lit (.int .u8 49), .lit (.int .u8 28), .lit (.int .u8 3), .lit (.int .u8 61), .lit (.int .u8 58), .lit (.int .u8 42), .lit (.int .u8 50), .lit (.int .u8 38), .lit (.int .u8 29), .lit (.int .u8 17), .lit (.int .u8 4), .lit (.int .u8 62), .lit (.int .u8 47), .lit (.int .u8 59), .lit (.int .u8 36), .lit (.int .u8 45), .lit (.int .u8 43), .lit (.int .u8 51), .lit (.int .u8 22), .lit (.int .u8 53), .lit (.int .u8 39), .lit (.int .u8 33), .lit (.int .u8 30), .lit (.int .u8 24), .lit (.int .u8 18), .lit (.int .u8 12), .lit (.int .u8 5), .lit (.int .u8 63), .lit (.int .u8 55), .lit (.int .u8 48), .lit (.int .u8 27), .lit (.int .u8 60), .lit (.int .u8 41), .lit (.int .u8 37), .lit (.int .u8 16), .lit (.int .u8 46), .lit (.int .u8 35), .lit (.int .u8 44), .lit (.int .u8 21), .lit (.int .u8 52), .lit (.int .u8 32), .lit (.int .u8 23), .lit (.int .u8 11), .lit (.int .u8 54), .lit (.int .u8 26), .lit (.int .u8 40), .lit (.int .u8 15), .lit (.int .u8 34), .lit (.int .u8 20), .lit (.int .u8 31), .lit (.int .u8 10), .lit (.int .u8 25), .lit (.int .u8 14), .lit (.int .u8 19), .lit (.int .u8 9), .lit (.int .u8 13), .lit (.int .u8 8), .lit (.int .u8 7), .lit (.int .u8 6)]
def laid_internal_strconv_uint64pow10 {H : Type} : DataW H := .agg [.lit (.int .u64 1), .lit (.int .u64 10), .lit (.int .u64 100), .lit (.int .u64 1000), .lit (.int .u64 10000), .lit (.int .u64 100000), .lit (.int .u64 1000000), .lit (.int .u64 10000000), .lit (.int .u64 100000000), .lit (.int .u64 1000000000), .lit (.int .u64 10000000000), .lit (.int .u64 100000000000), .lit (.int .u64 1000000000000), .lit (.int .u64 10000000000000), .lit (.int .u64 100000000000000), .lit (.int .u64 1000000000000000), .lit (.int .u64 10000000000000000), .lit (.int .u64 100000000000000000), .lit (.int .u64 1000000000000000000), .lit (.int .u64 10000000000000000000)]
def laid_unicode_utf8_acceptRanges {H : Type} : DataW H := .agg [.agg [.lit (.int .u8 128), .lit (.int .u8 191)], .agg [.lit (.int .u8 160), .lit (.int .u8 191)], .agg [.lit (.int .u8 128), .lit (.int .u8 159)], .agg [.lit (.int .u8 144), .lit (.int .u8 191)], .agg [.lit (.int .u8 128), .lit (.int .u8 143)], .agg [.lit (.int .u8 0), .lit (.int .u8 0)], .agg [.lit (.int .u8 0), .lit (.int .u8 0)], .agg [.lit (.int .u8 0), .lit (.int .u8 0)], .agg [.lit (.int .u8 0), .lit (.int .u8 0)], .agg [.lit (.int .u8 0), .lit (.int .u8 0)], .agg [.lit (.int .u8 0), .lit (.int .u8 0)], .agg [.lit (.int .u8 0), .lit (.int .u8 0)], .agg [.lit (.int .u8 0), .lit (.int .u8 0)], .agg [.lit (.int .u8 0), .lit (.int .u8 0)], .agg [.lit (.int .u8 0), .lit (.int .u8 0)], .agg [.lit (.int .u8 0), .lit (.int .u8 0)]]
def laid_errors_errorType {H : Type} : DataW H := .iface "internal/reflectlite.rtype" (.agg [.ptr (.lit (.string [101, 114, 114, 111, 114]))])
def laid_grammarsmith_api_ErrSyntax {H : Type} : DataW H := .iface "*errors.errorString" (.ptr (.agg [.lit (.string [110, 111, 116, 32, 111, 102, 32, 116, 104, 101, 32, 102, 111, 114, 109, 32, 97, 115, 107, 101, 100])]))
def laid_grammarsmith_api_ErrBound {H : Type} : DataW H := .iface "*errors.errorString" (.ptr (.agg [.lit (.string [109, 111, 114, 101, 32, 116, 104, 97, 110, 32, 109, 97, 121, 32, 98, 101])]))
def laid_grammarsmith_api_ErrRule {H : Type} : DataW H := .iface "*errors.errorString" (.ptr (.agg [.lit (.string [97, 32, 114, 117, 108, 101, 32, 116, 104, 97, 116, 32, 99, 97, 110, 32, 110, 111, 116, 32, 115, 116, 97, 110, 100])]))
def laid_grammarsmith_api_ErrName {H : Type} : DataW H := .iface "*errors.errorString" (.ptr (.agg [.lit (.string [97, 32, 110, 97, 109, 101, 32, 116, 104, 97, 116, 32, 105, 115, 32, 110, 111, 110, 101, 44, 32, 111, 114, 32, 105, 115, 32, 116, 104, 101, 114, 101, 32, 97, 108, 114, 101, 97, 100, 121])]))
def laid_grammarsmith_api_ErrType {H : Type} : DataW H := .iface "*errors.errorString" (.ptr (.agg [.lit (.string [97, 32, 118, 97, 108, 117, 101, 32, 111, 102, 32, 97, 110, 111, 116, 104, 101, 114, 32, 116, 121, 112, 101])]))
def laid_grammarsmith_api_ErrConflict {H : Type} : DataW H := .iface "*errors.errorString" (.ptr (.agg [.lit (.string [97, 110, 32, 97, 99, 116, 105, 111, 110, 32, 105, 115, 32, 110, 111, 116, 32, 100, 101, 99, 105, 100, 101, 100])]))
def laid_grammarsmith_api_ErrEnd {H : Type} : DataW H := .iface "*errors.errorString" (.ptr (.agg [.lit (.string [110, 111, 32, 115, 101, 110, 116, 101, 110, 99, 101])]))
/-- One of Go's own tables, pinned by name: the form's constant. -/
def laid_unicode_utf8_first : DataW Unit := Go.Pinned.utf8First
def laid_strconv_ErrRange {H : Type} : DataW H := .iface "*errors.errorString" (.ptr (.agg [.lit (.string [118, 97, 108, 117, 101, 32, 111, 117, 116, 32, 111, 102, 32, 114, 97, 110, 103, 101])]))
def laid_strconv_ErrSyntax {H : Type} : DataW H := .iface "*errors.errorString" (.ptr (.agg [.lit (.string [105, 110, 118, 97, 108, 105, 100, 32, 115, 121, 110, 116, 97, 120])]))

/-- 'grammarsmithlaw3.ActionWritten': WHATEVER THE INPUT: true; the input reads as it did. -/
def actionWrittenSpec : ChangeSpec := { name := "actionWritten", fn := fun _ => fun
  | [d] => { results := [.lit (.bool true)], args := [d] }
  | _ => none }
def actionWrittenRow : OpenClaim := { program := "ytgmmfpdekefamaagreatdoor", sum := "672d11b0cbae09ba693abc99fecd445c17d42cf3c84c3200bcbbe9fe78d6e19e", func := "grammarsmith/grammarsmithlaw3.ActionWritten", spec := "actionWritten", inPlace := ["internal/abi.NoEscape", "internal/bytealg.MakeNoZero", "internal/reflectlite.ValueOf", "(internal/reflectlite.Value).Type", "(internal/reflectlite.Value).IsNil", "internal/reflectlite.TypeOf", "(internal/reflectlite.Value).Elem", "(internal/reflectlite.Value).Set"], unfollowed := true, recurses := true, named := ["grammarsmith/api.ErrSyntax", "unicode/utf8.first", "unicode/utf8.acceptRanges", "grammarsmith/api.ErrBound", "internal/strconv.uint64pow10", "math/bits.deBruijn32tab", "math/bits.deBruijn64tab", "grammarsmith/api.ErrRule", "grammarsmith/api.ErrName", "grammarsmith/api.ErrType", "grammarsmith/api.ErrConflict", "grammarsmith/api.ErrEnd", "errors.errorType"], plainKeys := false, apart := false, laid := [("math/bits.deBruijn32tab", laid_math_bits_deBruijn32tab), ("math/bits.deBruijn64tab", laid_math_bits_deBruijn64tab), ("internal/strconv.uint64pow10", laid_internal_strconv_uint64pow10), ("unicode/utf8.acceptRanges", laid_unicode_utf8_acceptRanges), ("errors.errorType", laid_errors_errorType), ("grammarsmith/api.ErrSyntax", laid_grammarsmith_api_ErrSyntax), ("grammarsmith/api.ErrBound", laid_grammarsmith_api_ErrBound), ("grammarsmith/api.ErrRule", laid_grammarsmith_api_ErrRule), ("grammarsmith/api.ErrName", laid_grammarsmith_api_ErrName), ("grammarsmith/api.ErrType", laid_grammarsmith_api_ErrType), ("grammarsmith/api.ErrConflict", laid_grammarsmith_api_ErrConflict), ("grammarsmith/api.ErrEnd", laid_grammarsmith_api_ErrEnd), ("unicode/utf8.first", laid_unicode_utf8_first)] }
def ActionWrittenSaid : Prop := actionWrittenRow.holds Tryz.pinned (OpenSpec.ofChange actionWrittenSpec)

/-- ITS FALSE NEIGHBOUR: 'it returns false'. Refute it at one input. -/
def actionWrittenWrong : ChangeSpec := { name := "actionWritten", fn := fun _ => fun
  | [d] => { results := [.lit (.bool false)], args := [d] }
  | _ => none }
def ActionWrittenWrongFalsely : Prop := actionWrittenRow.holds Tryz.pinned (OpenSpec.ofChange actionWrittenWrong)

/-- 'grammarsmithlaw3.ActionTyped': WHATEVER THE INPUT: true; the input reads as it did. -/
def actionTypedSpec : ChangeSpec := { name := "actionTyped", fn := fun _ => fun
  | [d1, d2] => { results := [.lit (.bool true)], args := [d1, d2] }
  | _ => none }
def actionTypedRow : OpenClaim := { program := "ytgmmfpdekefamaagreatdoor", sum := "672d11b0cbae09ba693abc99fecd445c17d42cf3c84c3200bcbbe9fe78d6e19e", func := "grammarsmith/grammarsmithlaw3.ActionTyped", spec := "actionTyped", inPlace := ["internal/reflectlite.ValueOf", "(internal/reflectlite.Value).Type", "(internal/reflectlite.Value).IsNil", "internal/reflectlite.TypeOf", "(internal/reflectlite.Value).Elem", "(internal/reflectlite.Value).Set"], unfollowed := true, recurses := true, named := ["grammarsmith/api.ErrBound", "grammarsmith/api.ErrSyntax", "unicode/utf8.first", "unicode/utf8.acceptRanges", "grammarsmith/api.ErrName", "grammarsmith/api.ErrType", "grammarsmith/api.ErrRule", "grammarsmith/api.ErrConflict", "grammarsmith/api.ErrEnd", "errors.errorType"], plainKeys := false, apart := false, laid := [("unicode/utf8.acceptRanges", laid_unicode_utf8_acceptRanges), ("errors.errorType", laid_errors_errorType), ("grammarsmith/api.ErrSyntax", laid_grammarsmith_api_ErrSyntax), ("grammarsmith/api.ErrBound", laid_grammarsmith_api_ErrBound), ("grammarsmith/api.ErrRule", laid_grammarsmith_api_ErrRule), ("grammarsmith/api.ErrName", laid_grammarsmith_api_ErrName), ("grammarsmith/api.ErrType", laid_grammarsmith_api_ErrType), ("grammarsmith/api.ErrConflict", laid_grammarsmith_api_ErrConflict), ("grammarsmith/api.ErrEnd", laid_grammarsmith_api_ErrEnd), ("unicode/utf8.first", laid_unicode_utf8_first)] }
def ActionTypedSaid : Prop := actionTypedRow.holds Tryz.pinned (OpenSpec.ofChange actionTypedSpec)

/-- ITS FALSE NEIGHBOUR: 'it returns false'. Refute it at one input. -/
def actionTypedWrong : ChangeSpec := { name := "actionTyped", fn := fun _ => fun
  | [d1, d2] => { results := [.lit (.bool false)], args := [d1, d2] }
  | _ => none }
def ActionTypedWrongFalsely : Prop := actionTypedRow.holds Tryz.pinned (OpenSpec.ofChange actionTypedWrong)

/-- 'grammarsmithlaw3.ActionRuns': WHATEVER THE INPUT: true; the input reads as it did. -/
def actionRunsSpec : ChangeSpec := { name := "actionRuns", fn := fun _ => fun
  | [d1, d2, d3] => { results := [.lit (.bool true)], args := [d1, d2, d3] }
  | _ => none }
def actionRunsRow : OpenClaim := { program := "ytgmmfpdekefamaagreatdoor", sum := "672d11b0cbae09ba693abc99fecd445c17d42cf3c84c3200bcbbe9fe78d6e19e", func := "grammarsmith/grammarsmithlaw3.ActionRuns", spec := "actionRuns", inPlace := ["internal/abi.NoEscape", "internal/bytealg.MakeNoZero"], unfollowed := true, recurses := true, named := ["grammarsmith/api.ErrBound", "grammarsmith/api.ErrSyntax", "grammarsmith/api.ErrName", "grammarsmith/api.ErrType", "unicode/utf8.first", "unicode/utf8.acceptRanges", "internal/strconv.uint64pow10", "math/bits.deBruijn32tab", "math/bits.deBruijn64tab", "strconv.ErrSyntax", "strconv.ErrRange"], plainKeys := false, apart := false, laid := [("math/bits.deBruijn32tab", laid_math_bits_deBruijn32tab), ("math/bits.deBruijn64tab", laid_math_bits_deBruijn64tab), ("internal/strconv.uint64pow10", laid_internal_strconv_uint64pow10), ("unicode/utf8.acceptRanges", laid_unicode_utf8_acceptRanges), ("grammarsmith/api.ErrSyntax", laid_grammarsmith_api_ErrSyntax), ("grammarsmith/api.ErrBound", laid_grammarsmith_api_ErrBound), ("grammarsmith/api.ErrName", laid_grammarsmith_api_ErrName), ("grammarsmith/api.ErrType", laid_grammarsmith_api_ErrType), ("strconv.ErrRange", laid_strconv_ErrRange), ("strconv.ErrSyntax", laid_strconv_ErrSyntax), ("unicode/utf8.first", laid_unicode_utf8_first)] }
def ActionRunsSaid : Prop := actionRunsRow.holds Tryz.pinned (OpenSpec.ofChange actionRunsSpec)

/-- ITS FALSE NEIGHBOUR: 'it returns false'. Refute it at one input. -/
def actionRunsWrong : ChangeSpec := { name := "actionRuns", fn := fun _ => fun
  | [d1, d2, d3] => { results := [.lit (.bool false)], args := [d1, d2, d3] }
  | _ => none }
def ActionRunsWrongFalsely : Prop := actionRunsRow.holds Tryz.pinned (OpenSpec.ofChange actionRunsWrong)

/- THE SECOND FORM. 'bulk': how many values and letters a reading holds, each counted each time it is reached (what is shared counts as often as it is met; a slice's spare places count too). A statement '..UptoSaid' is the law's where the arguments, and the package variables that the reading takes, are together of bulk at most 1048576: NARROWER than '..Said'. Prove '..Said' where nothing that the law and all that it calls make is longer than what came in: it says more and counts as full. Else prove '..UptoSaid'. A law counts once. -/
mutual
def uptoBulk {H : Type} : DataW H → Nat
  | .lit (.string bytes) => bytes.length + 1
  | .lit _ => 1
  | .nil => 1
  | .ptr d => uptoBulk d + 1
  | .slice elems spare => uptoBulkAll elems + uptoBulkAll spare + 1
  | .agg parts => uptoBulkAll parts + 1
  | .iface _ d => uptoBulk d + 1
  | .map entries => uptoBulkEntries entries + 1
  | .held _ => 1
def uptoBulkAll {H : Type} : List (DataW H) → Nat
  | [] => 0
  | d :: r => uptoBulk d + uptoBulkAll r
def uptoBulkEntries {H : Type} : List (Lit × DataW H) → Nat
  | [] => 0
  | x :: r => uptoBulkEntry x + uptoBulkEntries r
def uptoBulkEntry {H : Type} : Lit × DataW H → Nat
  | (.string bytes, d) => bytes.length + uptoBulk d + 1
  | (_, d) => uptoBulk d + 1
 end
def uptoSmall : (H : Type) → List (DataW H) → Bool := fun _ ds => decide (uptoBulkAll ds ≤ 1048576)
def OpenSpec.upto (s : _root_.Go.ChangeSpec) : _root_.Go.OpenSpec := { _root_.Go.OpenSpec.ofChange s with cond := some uptoSmall }

/-- 'grammarsmithlaw3.ActionWritten', WHERE WHAT IT READS IS OF BULK AT MOST 1048576: true; the input reads as it did. -/
def actionWrittenUptoRow : OpenClaim := { program := "ytgmmfpdekefamaagreatdoor", sum := "672d11b0cbae09ba693abc99fecd445c17d42cf3c84c3200bcbbe9fe78d6e19e", func := "grammarsmith/grammarsmithlaw3.ActionWritten", spec := "actionWritten", inPlace := ["internal/abi.NoEscape", "internal/bytealg.MakeNoZero", "internal/reflectlite.ValueOf", "(internal/reflectlite.Value).Type", "(internal/reflectlite.Value).IsNil", "internal/reflectlite.TypeOf", "(internal/reflectlite.Value).Elem", "(internal/reflectlite.Value).Set"], unfollowed := true, recurses := true, named := ["grammarsmith/api.ErrSyntax", "unicode/utf8.first", "unicode/utf8.acceptRanges", "grammarsmith/api.ErrBound", "internal/strconv.uint64pow10", "math/bits.deBruijn32tab", "math/bits.deBruijn64tab", "grammarsmith/api.ErrRule", "grammarsmith/api.ErrName", "grammarsmith/api.ErrType", "grammarsmith/api.ErrConflict", "grammarsmith/api.ErrEnd", "errors.errorType"], plainKeys := false, apart := false, laid := [("math/bits.deBruijn32tab", laid_math_bits_deBruijn32tab), ("math/bits.deBruijn64tab", laid_math_bits_deBruijn64tab), ("internal/strconv.uint64pow10", laid_internal_strconv_uint64pow10), ("unicode/utf8.acceptRanges", laid_unicode_utf8_acceptRanges), ("errors.errorType", laid_errors_errorType), ("grammarsmith/api.ErrSyntax", laid_grammarsmith_api_ErrSyntax), ("grammarsmith/api.ErrBound", laid_grammarsmith_api_ErrBound), ("grammarsmith/api.ErrRule", laid_grammarsmith_api_ErrRule), ("grammarsmith/api.ErrName", laid_grammarsmith_api_ErrName), ("grammarsmith/api.ErrType", laid_grammarsmith_api_ErrType), ("grammarsmith/api.ErrConflict", laid_grammarsmith_api_ErrConflict), ("grammarsmith/api.ErrEnd", laid_grammarsmith_api_ErrEnd), ("unicode/utf8.first", laid_unicode_utf8_first)], narrowed := true }
def ActionWrittenUptoSaid : Prop := actionWrittenUptoRow.holds Tryz.pinned (OpenSpec.upto actionWrittenSpec)

/-- 'grammarsmithlaw3.ActionTyped', WHERE WHAT IT READS IS OF BULK AT MOST 1048576: true; the input reads as it did. -/
def actionTypedUptoRow : OpenClaim := { program := "ytgmmfpdekefamaagreatdoor", sum := "672d11b0cbae09ba693abc99fecd445c17d42cf3c84c3200bcbbe9fe78d6e19e", func := "grammarsmith/grammarsmithlaw3.ActionTyped", spec := "actionTyped", inPlace := ["internal/reflectlite.ValueOf", "(internal/reflectlite.Value).Type", "(internal/reflectlite.Value).IsNil", "internal/reflectlite.TypeOf", "(internal/reflectlite.Value).Elem", "(internal/reflectlite.Value).Set"], unfollowed := true, recurses := true, named := ["grammarsmith/api.ErrBound", "grammarsmith/api.ErrSyntax", "unicode/utf8.first", "unicode/utf8.acceptRanges", "grammarsmith/api.ErrName", "grammarsmith/api.ErrType", "grammarsmith/api.ErrRule", "grammarsmith/api.ErrConflict", "grammarsmith/api.ErrEnd", "errors.errorType"], plainKeys := false, apart := false, laid := [("unicode/utf8.acceptRanges", laid_unicode_utf8_acceptRanges), ("errors.errorType", laid_errors_errorType), ("grammarsmith/api.ErrSyntax", laid_grammarsmith_api_ErrSyntax), ("grammarsmith/api.ErrBound", laid_grammarsmith_api_ErrBound), ("grammarsmith/api.ErrRule", laid_grammarsmith_api_ErrRule), ("grammarsmith/api.ErrName", laid_grammarsmith_api_ErrName), ("grammarsmith/api.ErrType", laid_grammarsmith_api_ErrType), ("grammarsmith/api.ErrConflict", laid_grammarsmith_api_ErrConflict), ("grammarsmith/api.ErrEnd", laid_grammarsmith_api_ErrEnd), ("unicode/utf8.first", laid_unicode_utf8_first)], narrowed := true }
def ActionTypedUptoSaid : Prop := actionTypedUptoRow.holds Tryz.pinned (OpenSpec.upto actionTypedSpec)

/-- 'grammarsmithlaw3.ActionRuns', WHERE WHAT IT READS IS OF BULK AT MOST 1048576: true; the input reads as it did. -/
def actionRunsUptoRow : OpenClaim := { program := "ytgmmfpdekefamaagreatdoor", sum := "672d11b0cbae09ba693abc99fecd445c17d42cf3c84c3200bcbbe9fe78d6e19e", func := "grammarsmith/grammarsmithlaw3.ActionRuns", spec := "actionRuns", inPlace := ["internal/abi.NoEscape", "internal/bytealg.MakeNoZero"], unfollowed := true, recurses := true, named := ["grammarsmith/api.ErrBound", "grammarsmith/api.ErrSyntax", "grammarsmith/api.ErrName", "grammarsmith/api.ErrType", "unicode/utf8.first", "unicode/utf8.acceptRanges", "internal/strconv.uint64pow10", "math/bits.deBruijn32tab", "math/bits.deBruijn64tab", "strconv.ErrSyntax", "strconv.ErrRange"], plainKeys := false, apart := false, laid := [("math/bits.deBruijn32tab", laid_math_bits_deBruijn32tab), ("math/bits.deBruijn64tab", laid_math_bits_deBruijn64tab), ("internal/strconv.uint64pow10", laid_internal_strconv_uint64pow10), ("unicode/utf8.acceptRanges", laid_unicode_utf8_acceptRanges), ("grammarsmith/api.ErrSyntax", laid_grammarsmith_api_ErrSyntax), ("grammarsmith/api.ErrBound", laid_grammarsmith_api_ErrBound), ("grammarsmith/api.ErrName", laid_grammarsmith_api_ErrName), ("grammarsmith/api.ErrType", laid_grammarsmith_api_ErrType), ("strconv.ErrRange", laid_strconv_ErrRange), ("strconv.ErrSyntax", laid_strconv_ErrSyntax), ("unicode/utf8.first", laid_unicode_utf8_first)], narrowed := true }
def ActionRunsUptoSaid : Prop := actionRunsUptoRow.holds Tryz.pinned (OpenSpec.upto actionRunsSpec)

end Rows
end Go.Proofs.YtgmmfpdekefamaaGreatDoor
