/- Whether any text is one for which any pattern stands: the program answers as the document does: the law PatternMeans returns true for any two texts. Above the law's own bounds (2,000 bytes, 40 bytes, a weight of 24), and where the document's reader gives no pattern, it says true by itself. The row lists the two errors of package api, and the tables and errors of Go's library that are read, as the program's text lays them; the card ties them to it. -/
import Derived.Test.YtbjohedenfindaaGreatDoorRows
import Derived.Test.YtbjohedenfindaaGreatDoorTie
import Derived.Test.YtbjohedenfindaaGreatDoorCards
import Derived.Test.YtbjohedenfindaaGreatDoorMg47
import Derived.Deep.DeepHandedRow
import Derived.Deep.DeepWitnessRowRef
import Derived.Lib.LaidIn
import Derived.Lib.LaidU8
import Derived.Shelf.Vars
import Derived.ProofKit
import Derived.SizedLaws
import Derived.LaidLaws
import Derived.SevenTiedAt
import Derived.OpenShut
import Derived.ShutString
namespace Go.Proofs.YtbjohedenfindaaGreatDoor
open Go.ChangeShapes Go.WideShapes Go.ChangeAt Go.RowKit
open Go.ChangeMaps (open_string shut_string)
set_option linter.unusedVariables false
set_option maxRecDepth 100000

theorem means_own : ownKnob Tryz.prog.godebug = none := by kernel_rfl

/-- the cells of a table -/
def flatD : Nat → DataW Unit → List Value
  | 0, _ => []
  | n + 1, .lit (.int k z) => [.int k z]
  | n + 1, .agg l => l.flatMap (flatD n)
  | _, _ => []
/-- a world that meets the condition -/
def meansHeap (h : Array Obj) : Array Obj :=
  let put : Array Obj → Nat → Array Value → Array Obj := fun h k v => h.modify k fun
    | .cells _ t frozen => .cells v t frozen
    | o => o
  put (put (put (put (put (put (put (put (put h 0 #[.iface 259 (.pointer (some ⟨21, 0, none⟩))]) 1 #[.iface 259 (.pointer (some ⟨21 + 1, 0, none⟩))]) 15 #[.iface 259 (.pointer (some ⟨21 + 2, 0, none⟩))]) 14 #[.iface 259 (.pointer (some ⟨21 + 3, 0, none⟩))])
    12 (flatD 3 Rows.laid_math_bits_deBruijn32tab).toArray) 13 (flatD 3 Rows.laid_math_bits_deBruijn64tab).toArray) 11 (flatD 3 Rows.laid_internal_strconv_uint64pow10).toArray) 9 (flatD 3 Rows.laid_unicode_utf8_acceptRanges).toArray) 8 (flatD 3 Rows.laid_unicode_utf8_first).toArray
def meansBlocks : Array Obj := #[.cells #[.string ⟨#[110, 111, 116, 32, 111, 102, 32, 116, 104, 101, 32, 102, 111, 114, 109, 32, 97, 115, 107, 101, 100]⟩] 261, .cells #[.string ⟨#[109, 111, 114, 101, 32, 116, 104, 97, 110, 32, 109, 97, 121, 32, 98, 101]⟩] 261, .cells #[.string ⟨#[118, 97, 108, 117, 101, 32, 111, 117, 116, 32, 111, 102, 32, 114, 97, 110, 103, 101]⟩] 261, .cells #[.string ⟨#[105, 110, 118, 97, 108, 105, 100, 32, 115, 121, 110, 116, 97, 120]⟩] 261]

theorem means_met (os : Os) (args : Array Value) : laidMet Tryz.prog Rows.patternMeansRow.laid (({ World.holding Tryz.prog os ⟨meansBlocks, #[], []⟩ with heap := meansHeap (World.holding Tryz.prog os ⟨meansBlocks, #[], []⟩).heap } : World).forCall (fun _ _ => 0) ⟨#[], args, []⟩).memory :=
  (LaidIn.of_run [12, 13, 11, 9, 0, 21, 1, 21 + 1, 15, 21 + 2, 14, 21 + 3, 8] 8 (by kernel_rfl) (by kernel_rfl) (by kernel_rfl) (by kernel_rfl)).met

theorem means_row (os : Os) {H : Type} (enc : TypeId × Value → H) :
    (OpenSpec.ofChange Rows.patternMeansSpec).preRow enc Tryz.prog Tryz.f5 Rows.patternMeansRow.domain false Rows.patternMeansRow.laid (({ World.holding Tryz.prog os ⟨meansBlocks, #[], []⟩ with heap := meansHeap (World.holding Tryz.prog os ⟨meansBlocks, #[], []⟩).heap } : World).forCall (fun _ _ => 0) ⟨#[], #[.string ⟨#[]⟩, .string ⟨#[]⟩], []⟩).memory #[.string ⟨#[]⟩, .string ⟨#[]⟩] := by
  have hw : (DataW.whole enc Tryz.prog (({ World.holding Tryz.prog os ⟨meansBlocks, #[], []⟩ with heap := meansHeap (World.holding Tryz.prog os ⟨meansBlocks, #[], []⟩).heap } : World).forCall (fun _ _ => 0) ⟨#[], #[.string ⟨#[]⟩, .string ⟨#[]⟩], []⟩).memory Tryz.f5.params.toList (OpenSpec.ofChange Rows.patternMeansSpec).vars false #[Value.string ⟨#[]⟩, Value.string ⟨#[]⟩].toList 8).map (fun x => (x.1, x.2.1)) =
      some ([.lit (.string []), .lit (.string [])], []) := by kernel_rfl
  obtain ⟨⟨x1, x2, x3⟩, hx, hx1⟩ := Option.map_eq_some_iff.1 hw
  simp only [Prod.mk.injEq] at hx1
  obtain ⟨rfl, rfl⟩ := hx1
  exact OpenSpec.preRow_of_cond 8 hx (by kernel_rfl) (fun k hk => by cases hk) (by kernel_rfl) (means_met os _)

theorem iface_of_reads {W : World} {n : String} {g : Nat} {nm : String} {d : DataW Unit} (hn : Tryz.prog.globalNamed n = some g) (ht : (Tryz.prog.globals[g]?).map (·.type) = some 24) (h : Lib.VarReads Tryz.prog W n (.iface nm d)) : ∃ te pe, W.cell? ⟨g, 0, none⟩ = some (.iface te pe) := by
  obtain ⟨g', t, cs, fuel, p, hg, hty, hvar, hd⟩ := h
  obtain rfl := Option.some.inj (hn.symm.trans hg)
  obtain rfl := Option.some.inj (ht.symm.trans hty)
  obtain ⟨f1, u, v, hcs, _, _⟩ := iface_of_trod Tryz.underlying24 hd
  have := World.var?_cell hg hvar 0
  rw [← Array.getElem?_toList, hcs] at this
  exact ⟨u, v, this⟩

theorem laidV_of {W : World} (hL : laidMet Tryz.prog Rows.patternMeansRow.laid W) (hS : W.ShapedOpen Tryz.prog) : LaidV W where
  syn := iface_of_reads (by kernel_rfl) (by kernel_rfl) (Lib.laidMet.reads hL (n := "grammarsmith/api.ErrSyntax") (d := Rows.laid_grammarsmith_api_ErrSyntax) (.tail _ (.tail _ (.tail _ (.tail _ (.head _))))))
  bnd := iface_of_reads (by kernel_rfl) (by kernel_rfl) (Lib.laidMet.reads hL (n := "grammarsmith/api.ErrBound") (d := Rows.laid_grammarsmith_api_ErrBound) (.tail _ (.tail _ (.tail _ (.tail _ (.tail _ (.head _)))))))
  nrng := iface_of_reads (by kernel_rfl) (by kernel_rfl) (Lib.laidMet.reads hL (n := "strconv.ErrRange") (d := Rows.laid_strconv_ErrRange) (.tail _ (.tail _ (.tail _ (.tail _ (.tail _ (.tail _ (.head _))))))))
  nsyn := iface_of_reads (by kernel_rfl) (by kernel_rfl) (Lib.laidMet.reads hL (n := "strconv.ErrSyntax") (d := Rows.laid_strconv_ErrSyntax) (.tail _ (.tail _ (.tail _ (.tail _ (.tail _ (.tail _ (.tail _ (.head _)))))))))
  mlen := cell_of_shapedOpen_int (zero := #[.int .i64 0]) hS (by decide) (by kernel_rfl) (by kernel_rfl) (by kernel_rfl) (by kernel_rfl) Tryz.underlying3
  tabs := by
    have h3 : Lib.VarReads Tryz.prog W "unicode/utf8.first" Rows.laid_unicode_utf8_first := Lib.laidMet.reads hL (.tail _ (.tail _ (.tail _ (.tail _ (.tail _ (.tail _ (.tail _ (.tail _ (.head _)))))))))
    have h4 : Lib.VarReads Tryz.prog W "unicode/utf8.acceptRanges" Rows.laid_unicode_utf8_acceptRanges := Lib.laidMet.reads hL (.tail _ (.tail _ (.tail _ (.head _))))
    have e3 : Rows.laid_unicode_utf8_first = Lib.firstData := by kernel_rfl
    have e4 : Rows.laid_unicode_utf8_acceptRanges = Lib.acceptData := by kernel_rfl
    rw [e3] at h3
    rw [e4] at h4
    exact utf8Tabs_of_reads (ρ := Tryz.lays197_ren) { Tryz.lays197 with } ⟨by kernel_rfl, by kernel_rfl, by kernel_rfl, by kernel_rfl, by kernel_rfl, by kernel_rfl, by kernel_rfl⟩ h3 h4

theorem law_means_any {w : World} (hV : LaidV w) (h16 : 16 ≤ w.heap.size) (s t : ByteArray) :
    Calls Tryz.prog 5 #[.string s, .string t] w fun e w' => e = .returned (.bool true) ∧ Below w.heap.size w w' := by
  by_cases h1 : 2000 < s.size
  · exact law_means_long s t w h1
  · by_cases h2 : 40 < t.size
    · exact law_means_text s t w (by omega) h2
    · exact law_means (lib_of hV) ⟨h16, fun _ _ => rfl⟩ s t (by omega) (by omega)

set_option maxHeartbeats 2000000 in
theorem means_lifted (os : Os) (started : os.Started) (H : Type) (enc : TypeId × Value → H) (F : Stop.Interp) :
    ReturnsInHanded {} Tryz.checked os 5 .any ((OpenSpec.ofChange Rows.patternMeansSpec).preRow enc Tryz.prog Tryz.f5 Rows.patternMeansRow.domain false Rows.patternMeansRow.laid) (((OpenSpec.ofChange Rows.patternMeansSpec).at F).post enc Tryz.prog Tryz.f5 false true false false) := by
  refine returnsInHanded_of_row (C := Tryz.checked) (s := OpenSpec.ofChange Rows.patternMeansSpec) means_own started (by kernel_rfl) Tryz.func5
    (witness_row_atRef (enc := enc) (C := Tryz.checked) false ({ World.holding Tryz.prog os ⟨meansBlocks, #[], []⟩ with heap := meansHeap (World.holding Tryz.prog os ⟨meansBlocks, #[], []⟩).heap } : World) #[.string ⟨#[]⟩, .string ⟨#[]⟩] rfl (by kernel_rfl) (by kernel_rfl) (by kernel_rfl) (means_row os enc)) ?_
  intro W base args ds gs before hval0 hW hcnd0 _ _ hL hS _
  have hval : ∀ (j : Nat) t v, Tryz.f5.params[j]? = some t → args[j]? = some v → Value.okWide Tryz.prog W .any base t v := hval0
  have hW' := hW
  obtain ⟨p, q, hA0, hV0, rfl, _, _⟩ := hW
  have hA : DataW.TrodAll enc Tryz.prog W 0 (fun _ => true) true Tryz.f5.params.toList args.toList ds p := hA0
  rw [Tryz.params5] at hA hval
  obtain ⟨v0, vs0, d0, ds0, p0, q0, hargs, rfl, rfl, h0, r0⟩ := trodAll_cons hA
  obtain ⟨v1, vs1, d1, ds1, p1, q1, rfl, rfl, rfl, h1, r1⟩ := trodAll_cons r0
  obtain ⟨rfl, rfl, rfl⟩ := trodAll_nil r1
  obtain rfl : args = #[v0, v1] := by cases args; simp_all
  obtain ⟨rfl, rfl⟩ := trodVars_none hV0
  obtain ⟨a0, rfl, rfl, rfl, w0⟩ := open_string Tryz.underlying9 (hval 0 9 v0 rfl rfl) h0
  obtain ⟨a1, rfl, rfl, rfl, w1⟩ := open_string Tryz.underlying9 (hval 1 9 v1 rfl rfl) h1
  clear hA0 hV0 hval0
  have hV : LaidV W := laidV_of hL hS
  have h16 : 16 ≤ W.heap.size := by
    obtain ⟨te, pe, hc⟩ := hV.nrng
    have := Lib.lt_of_cell hc
    exact this
  refine (law_means_any hV h16 a0 a1).mono fun e W' ⟨he, bel⟩ => ?_
  subst he
  exact ⟨_, rfl, _, _, _, [], [], [], hW', trodAll_mk1 (shut_bool Tryz.underlying4 _), (trodAll_cons_mk (shut_string Tryz.underlying9 w0) (trodAll_cons_mk (shut_string Tryz.underlying9 w1) trodAll_mk0)), rfl, bel.frame _, fun h => by cases h⟩

theorem means_row_holds : Rows.PatternMeansSaid :=
  OpenClaim.holds_of_cond 5 Tryz.f5 rfl rfl rfl rfl rfl rfl rfl ⟨rfl, rfl, rfl, rfl, rfl⟩ rfl rfl rfl rfl rfl (by kernel_rfl) Tryz.func5 (by kernel_rfl)
    (of_decide_eq_true (by kernel_rfl)) (by unfold Func.isWrapper; rw [if_neg (of_decide_eq_false (by kernel_rfl))]; exact ⟨rfl, rfl⟩)
    (fun os started H enc _ F0 => by rw [OpenClaim.pre_eq_preRow]; exact means_lifted os started H enc F0)

theorem means_card_holds : Rows.PatternMeansCardSaid :=
  Claim7.holds_tied_plain_at .later [] [.data, .data, .data, .data, .sentinel, .sentinel, .sentinel, .sentinel, .pinned] true (true, "c7fd1bd0ae2736e99fcadaa042ee6cba3ed954c3aea351f275eea9c60403a16d") true
    means_row_holds (fun _ h => by cases h) (by kernel_rfl) (fun _ h => by cases h) patternMeans_row_tie rfl ⟨rfl, rfl⟩ (by kernel_rfl) rfl
    (fun f fn hf hfn => by
      obtain rfl : f = 5 := Option.some.inj ((show Tryz.prog.funcNamed "grammarsmith/grammarsmithlaw1.PatternMeans" = some 5 by kernel_rfl).symm.trans hf) |>.symm
      obtain rfl : fn = Tryz.f5 := (Option.some.inj (Tryz.func5.symm.trans hfn)).symm
      exact ⟨by kernel_rfl, fun j t ht => by
        rw [Tryz.params5] at ht
        have h9 : t = 9 := by
          rcases j with _ | _ | j
          · simpa using ht.symm
          · simpa using ht.symm
          · simp at ht
        subst h9
        exact (show Tryz.prog.wantsStandIn 9 = false by kernel_rfl)⟩)
    (by kernel_rfl)

end Go.Proofs.YtbjohedenfindaaGreatDoor
