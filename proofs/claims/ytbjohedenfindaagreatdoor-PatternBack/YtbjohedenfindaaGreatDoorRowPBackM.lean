/- What is written of a pattern that was read is read again as it was: the law PatternBack returns true for any text. Above the law's own bound (2,000 bytes) it says true by itself. The row of the card and the card. -/
import Derived.Test.YtbjohedenfindaaGreatDoorRows
import Derived.Test.YtbjohedenfindaaGreatDoorTie
import Derived.Test.YtbjohedenfindaaGreatDoorCards
import Derived.Test.YtbjohedenfindaaGreatDoorPb44
import Derived.Deep.DeepHandedRow
import Derived.Deep.DeepWitnessRowRef
import Derived.Lib.LaidIn
import Derived.Lib.LaidU8
import Derived.Shelf.Vars
import Derived.ProofKit
import Derived.SizedLaws
import Derived.LaidLaws
import Derived.SevenTiedAt
import Derived.OpenShut
import Derived.ShutString
namespace Go.Proofs.YtbjohedenfindaaGreatDoor
open Go.ChangeShapes Go.WideShapes Go.ChangeAt Go.RowKit
open Go.ChangeMaps (open_string shut_string)
set_option linter.unusedVariables false
set_option maxRecDepth 100000

theorem pback_own : ownKnob Tryz.prog.godebug = none := by kernel_rfl

/-- the cells of a table -/
def flatDB : Nat → DataW Unit → List Value
  | 0, _ => []
  | n + 1, .lit (.int k z) => [.int k z]
  | n + 1, .agg l => l.flatMap (flatDB n)
  | _, _ => []
/-- a world that meets the condition -/
def pbackHeap (h : Array Obj) : Array Obj :=
  let put : Array Obj → Nat → Array Value → Array Obj := fun h k v => h.modify k fun
    | .cells _ t frozen => .cells v t frozen
    | o => o
  put (put (put (put (put (put (put (put (put h 0 #[.iface 259 (.pointer (some ⟨21, 0, none⟩))]) 1 #[.iface 259 (.pointer (some ⟨21 + 1, 0, none⟩))]) 15 #[.iface 259 (.pointer (some ⟨21 + 2, 0, none⟩))]) 14 #[.iface 259 (.pointer (some ⟨21 + 3, 0, none⟩))])
    12 (flatDB 3 Rows.laid_math_bits_deBruijn32tab).toArray) 13 (flatDB 3 Rows.laid_math_bits_deBruijn64tab).toArray) 11 (flatDB 3 Rows.laid_internal_strconv_uint64pow10).toArray) 9 (flatDB 3 Rows.laid_unicode_utf8_acceptRanges).toArray) 8 (flatDB 3 Rows.laid_unicode_utf8_first).toArray
def pbackBlocks : Array Obj := #[.cells #[.string ⟨#[110, 111, 116, 32, 111, 102, 32, 116, 104, 101, 32, 102, 111, 114, 109, 32, 97, 115, 107, 101, 100]⟩] 261, .cells #[.string ⟨#[109, 111, 114, 101, 32, 116, 104, 97, 110, 32, 109, 97, 121, 32, 98, 101]⟩] 261, .cells #[.string ⟨#[118, 97, 108, 117, 101, 32, 111, 117, 116, 32, 111, 102, 32, 114, 97, 110, 103, 101]⟩] 261, .cells #[.string ⟨#[105, 110, 118, 97, 108, 105, 100, 32, 115, 121, 110, 116, 97, 120]⟩] 261]

theorem pback_met (os : Os) (args : Array Value) : laidMet Tryz.prog Rows.patternBackRow.laid (({ World.holding Tryz.prog os ⟨pbackBlocks, #[], []⟩ with heap := pbackHeap (World.holding Tryz.prog os ⟨pbackBlocks, #[], []⟩).heap } : World).forCall (fun _ _ => 0) ⟨#[], args, []⟩).memory :=
  (LaidIn.of_run [12, 13, 11, 9, 0, 21, 1, 21 + 1, 15, 21 + 2, 14, 21 + 3, 8] 8 (by kernel_rfl) (by kernel_rfl) (by kernel_rfl) (by kernel_rfl)).met

theorem pback_row (os : Os) {H : Type} (enc : TypeId × Value → H) :
    (OpenSpec.ofChange Rows.patternBackSpec).preRow enc Tryz.prog Tryz.f6 Rows.patternBackRow.domain false Rows.patternBackRow.laid (({ World.holding Tryz.prog os ⟨pbackBlocks, #[], []⟩ with heap := pbackHeap (World.holding Tryz.prog os ⟨pbackBlocks, #[], []⟩).heap } : World).forCall (fun _ _ => 0) ⟨#[], #[.string ⟨#[]⟩], []⟩).memory #[.string ⟨#[]⟩] := by
  have hw : (DataW.whole enc Tryz.prog (({ World.holding Tryz.prog os ⟨pbackBlocks, #[], []⟩ with heap := pbackHeap (World.holding Tryz.prog os ⟨pbackBlocks, #[], []⟩).heap } : World).forCall (fun _ _ => 0) ⟨#[], #[.string ⟨#[]⟩], []⟩).memory Tryz.f6.params.toList (OpenSpec.ofChange Rows.patternBackSpec).vars false #[Value.string ⟨#[]⟩].toList 8).map (fun x => (x.1, x.2.1)) =
      some ([.lit (.string [])], []) := by kernel_rfl
  obtain ⟨⟨x1, x2, x3⟩, hx, hx1⟩ := Option.map_eq_some_iff.1 hw
  simp only [Prod.mk.injEq] at hx1
  obtain ⟨rfl, rfl⟩ := hx1
  exact OpenSpec.preRow_of_cond 8 hx (by kernel_rfl) (fun k hk => by cases hk) (by kernel_rfl) (pback_met os _)

theorem iface_of_readsB {W : World} {n : String} {g : Nat} {nm : String} {d : DataW Unit} (hn : Tryz.prog.globalNamed n = some g) (ht : (Tryz.prog.globals[g]?).map (·.type) = some 24) (h : Lib.VarReads Tryz.prog W n (.iface nm d)) : ∃ te pe, W.cell? ⟨g, 0, none⟩ = some (.iface te pe) := by
  obtain ⟨g', t, cs, fuel, p, hg, hty, hvar, hd⟩ := h
  obtain rfl := Option.some.inj (hn.symm.trans hg)
  obtain rfl := Option.some.inj (ht.symm.trans hty)
  obtain ⟨f1, u, v, hcs, _, _⟩ := iface_of_trod Tryz.underlying24 hd
  have := World.var?_cell hg hvar 0
  rw [← Array.getElem?_toList, hcs] at this
  exact ⟨u, v, this⟩

theorem laidV_ofB {W : World} (hL : laidMet Tryz.prog Rows.patternBackRow.laid W) (hS : W.ShapedOpen Tryz.prog) : LaidV W where
  syn := iface_of_readsB (by kernel_rfl) (by kernel_rfl) (Lib.laidMet.reads hL (n := "grammarsmith/api.ErrSyntax") (d := Rows.laid_grammarsmith_api_ErrSyntax) (.tail _ (.tail _ (.tail _ (.tail _ (.head _))))))
  bnd := iface_of_readsB (by kernel_rfl) (by kernel_rfl) (Lib.laidMet.reads hL (n := "grammarsmith/api.ErrBound") (d := Rows.laid_grammarsmith_api_ErrBound) (.tail _ (.tail _ (.tail _ (.tail _ (.tail _ (.head _)))))))
  nrng := iface_of_readsB (by kernel_rfl) (by kernel_rfl) (Lib.laidMet.reads hL (n := "strconv.ErrRange") (d := Rows.laid_strconv_ErrRange) (.tail _ (.tail _ (.tail _ (.tail _ (.tail _ (.tail _ (.head _))))))))
  nsyn := iface_of_readsB (by kernel_rfl) (by kernel_rfl) (Lib.laidMet.reads hL (n := "strconv.ErrSyntax") (d := Rows.laid_strconv_ErrSyntax) (.tail _ (.tail _ (.tail _ (.tail _ (.tail _ (.tail _ (.tail _ (.head _)))))))))
  mlen := cell_of_shapedOpen_int (zero := #[.int .i64 0]) hS (by decide) (by kernel_rfl) (by kernel_rfl) (by kernel_rfl) (by kernel_rfl) Tryz.underlying3
  tabs := by
    have h3 : Lib.VarReads Tryz.prog W "unicode/utf8.first" Rows.laid_unicode_utf8_first := Lib.laidMet.reads hL (.tail _ (.tail _ (.tail _ (.tail _ (.tail _ (.tail _ (.tail _ (.tail _ (.head _)))))))))
    have h4 : Lib.VarReads Tryz.prog W "unicode/utf8.acceptRanges" Rows.laid_unicode_utf8_acceptRanges := Lib.laidMet.reads hL (.tail _ (.tail _ (.tail _ (.head _))))
    have e3 : Rows.laid_unicode_utf8_first = Lib.firstData := by kernel_rfl
    have e4 : Rows.laid_unicode_utf8_acceptRanges = Lib.acceptData := by kernel_rfl
    rw [e3] at h3
    rw [e4] at h4
    exact utf8Tabs_of_reads (ρ := Tryz.lays197_ren) { Tryz.lays197 with } ⟨by kernel_rfl, by kernel_rfl, by kernel_rfl, by kernel_rfl, by kernel_rfl, by kernel_rfl, by kernel_rfl⟩ h3 h4

theorem cell_db64 {W : World} (hL : laidMet Tryz.prog Rows.patternBackRow.laid W) : W.cell? ⟨13, 15, none⟩ = some (.int .u8 4) := by
  have h : Lib.VarReads Tryz.prog W "math/bits.deBruijn64tab" Rows.laid_math_bits_deBruijn64tab := Lib.laidMet.reads hL (.tail _ (.head _))
  have e : Rows.laid_math_bits_deBruijn64tab (H := Unit) = Lib.tabData .u8 [0, 1, 56, 2, 57, 49, 28, 3, 61, 58, 42, 50, 38, 29, 17, 4, 62, 47, 59, 36, 45, 43, 51, 22, 53, 39, 33, 30, 24, 18, 12, 5, 63, 55, 48, 27, 60, 41, 37, 16, 46, 35, 44, 21, 52, 32, 23, 11, 54, 26, 40, 15, 34, 20, 31, 10, 25, 14, 19, 9, 13, 8, 7, 6] := by kernel_rfl
  rw [e] at h
  obtain ⟨g, t, cs, fuel, p, hg, hty, hvar, hd⟩ := h
  obtain rfl := Option.some.inj ((show Tryz.prog.globalNamed "math/bits.deBruijn64tab" = some 13 by kernel_rfl).symm.trans hg)
  obtain rfl := Option.some.inj ((show (Tryz.prog.globals[13]?).map (·.type) = some 232 by kernel_rfl).symm.trans hty)
  have hcs := Lib.cells_of_tab Tryz.underlying232 Tryz.underlying5 (by kernel_rfl) (by kernel_rfl) hd
  have := World.var?_cell hg hvar 15
  rw [this, ← Array.getElem?_toList, hcs]
  rfl

theorem law_pback_all {w : World} (hV : LaidV w) (hdb : w.cell? ⟨13, 15, none⟩ = some (.int .u8 4)) (h16 : 16 ≤ w.heap.size) (s : ByteArray) :
    Calls Tryz.prog 6 #[.string s] w fun e w' => e = .returned (.bool true) ∧ Below w.heap.size w w' := by
  by_cases h1 : 2000 < s.size
  · exact law_pback_long (lib_of hV) ⟨h16, fun _ _ => rfl⟩ s h1
  · exact law_pback (lib_of hV) ⟨h16, fun _ _ => rfl⟩ s (by omega) hdb h16

set_option maxHeartbeats 2000000 in
theorem pback_lifted (os : Os) (started : os.Started) (H : Type) (enc : TypeId × Value → H) (F : Stop.Interp) :
    ReturnsInHanded {} Tryz.checked os 6 .any ((OpenSpec.ofChange Rows.patternBackSpec).preRow enc Tryz.prog Tryz.f6 Rows.patternBackRow.domain false Rows.patternBackRow.laid) (((OpenSpec.ofChange Rows.patternBackSpec).at F).post enc Tryz.prog Tryz.f6 false true false false) := by
  refine returnsInHanded_of_row (C := Tryz.checked) (s := OpenSpec.ofChange Rows.patternBackSpec) pback_own started (by kernel_rfl) Tryz.func6
    (witness_row_atRef (enc := enc) (C := Tryz.checked) false ({ World.holding Tryz.prog os ⟨pbackBlocks, #[], []⟩ with heap := pbackHeap (World.holding Tryz.prog os ⟨pbackBlocks, #[], []⟩).heap } : World) #[.string ⟨#[]⟩] rfl (by kernel_rfl) (by kernel_rfl) (by kernel_rfl) (pback_row os enc)) ?_
  intro W base args ds gs before hval0 hW hcnd0 _ _ hL hS _
  have hval : ∀ (j : Nat) t v, Tryz.f6.params[j]? = some t → args[j]? = some v → Value.okWide Tryz.prog W .any base t v := hval0
  have hW' := hW
  obtain ⟨p, q, hA0, hV0, rfl, _, _⟩ := hW
  have hA : DataW.TrodAll enc Tryz.prog W 0 (fun _ => true) true Tryz.f6.params.toList args.toList ds p := hA0
  rw [Tryz.params6] at hA hval
  obtain ⟨v0, vs0, d0, ds0, p0, q0, hargs, rfl, rfl, h0, r0⟩ := trodAll_cons hA
  obtain ⟨rfl, rfl, rfl⟩ := trodAll_nil r0
  obtain rfl : args = #[v0] := by cases args; simp_all
  obtain ⟨rfl, rfl⟩ := trodVars_none hV0
  obtain ⟨a0, rfl, rfl, rfl, w0⟩ := open_string Tryz.underlying9 (hval 0 9 v0 rfl rfl) h0
  clear hA0 hV0 hval0
  have hV : LaidV W := laidV_ofB hL hS
  have h16 : 16 ≤ W.heap.size := by
    obtain ⟨te, pe, hc⟩ := hV.nrng
    have := Lib.lt_of_cell hc
    exact this
  refine (law_pback_all hV (cell_db64 hL) h16 a0).mono fun e W' ⟨he, bel⟩ => ?_
  subst he
  exact ⟨_, rfl, _, _, _, [], [], [], hW', trodAll_mk1 (shut_bool Tryz.underlying4 _), (trodAll_cons_mk (shut_string Tryz.underlying9 w0) trodAll_mk0), rfl, bel.frame _, fun h => by cases h⟩

theorem pback_row_holds : Rows.PatternBackSaid :=
  OpenClaim.holds_of_cond 6 Tryz.f6 rfl rfl rfl rfl rfl rfl rfl ⟨rfl, rfl, rfl, rfl, rfl⟩ rfl rfl rfl rfl rfl (by kernel_rfl) Tryz.func6 (by kernel_rfl)
    (of_decide_eq_true (by kernel_rfl)) (by unfold Func.isWrapper; rw [if_neg (of_decide_eq_false (by kernel_rfl))]; exact ⟨rfl, rfl⟩)
    (fun os started H enc _ F0 => by rw [OpenClaim.pre_eq_preRow]; exact pback_lifted os started H enc F0)

theorem pback_card_holds : Rows.PatternBackCardSaid :=
  Claim7.holds_tied_plain_at .later [] [.data, .data, .data, .data, .sentinel, .sentinel, .sentinel, .sentinel, .pinned] true (true, "c7fd1bd0ae2736e99fcadaa042ee6cba3ed954c3aea351f275eea9c60403a16d") true
    pback_row_holds (fun _ h => by cases h) (by kernel_rfl) (fun _ h => by cases h) patternBack_row_tie rfl ⟨rfl, rfl⟩ (by kernel_rfl) rfl
    (fun f fn hf hfn => by
      obtain rfl : f = 6 := Option.some.inj ((show Tryz.prog.funcNamed "grammarsmith/grammarsmithlaw1.PatternBack" = some 6 by kernel_rfl).symm.trans hf) |>.symm
      obtain rfl : fn = Tryz.f6 := (Option.some.inj (Tryz.func6.symm.trans hfn)).symm
      exact ⟨by kernel_rfl, fun j t ht => by
        rw [Tryz.params6] at ht
        have h9 : t = 9 := by
          rcases j with _ | j
          · simpa using ht.symm
          · simp at ht
        subst h9
        exact (show Tryz.prog.wantsStandIn 9 = false by kernel_rfl)⟩)
    (by kernel_rfl)

end Go.Proofs.YtbjohedenfindaaGreatDoor
