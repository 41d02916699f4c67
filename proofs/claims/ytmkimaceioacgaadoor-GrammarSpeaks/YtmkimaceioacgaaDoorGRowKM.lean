/- The law GrammarSpeaks returns true for every grammar: the shortest sentence that the program tells of a valid grammar's Start is as long as it says, its name lives, it begins as First says, and it is a sentence by the document; where none is told, Start does not live or its shortest sentence has more than 1000 terminals. Above the law's own bounds (8 terminals, 8 names, 14 productions of 5 symbols, 8 levels) it says true by itself; sentences of more than 12 terminals are not asked of the document. The table of math/bits is as the program's text lays it (the card's tie). -/
import Derived.Test.YtmkimaceioacgaaDoorRows
import Derived.Test.YtmkimaceioacgaaDoorTie
import Derived.Test.YtmkimaceioacgaaDoorCards
import Derived.Test.YtmkimaceioacgaaDoorGk47
import Derived.Deep.DeepHandedRow
import Derived.Deep.DeepWitnessRowRef
import Derived.Deep.SlicePairs
import Derived.Lib.LaidIn
import Derived.Lib.LaidTab
import Derived.Lib.LaidU8
import Derived.Shelf.Vars
import Derived.WalkKit
import Derived.ProofKit
import Derived.SizedLaws
import Derived.LaidLaws
import Derived.SevenTiedAt
import Derived.OpenShut
import Derived.ChangeOld
import Derived.ChangeSame
import Derived.Below
namespace Go.Proofs.YtmkimaceioacgaaDoor
open Go.ChangeShapes Go.WideShapes Go.ChangeAt Go.RowKit
set_option linter.unusedVariables false
set_option maxRecDepth 100000

theorem gk_own : ownKnob Tryd.prog.godebug = none := by kernel_rfl
theorem gk_laidOut : laidOutB Tryd.prog = true := by kernel_rfl
theorem cell_blkG {w : World} {b o : Nat} {v : Value} (h : w.cell? ⟨b, o, none⟩ = some v) : b < w.heap.size := by
  rcases Nat.lt_or_ge b w.heap.size with h' | h'
  · exact h'
  · simp [World.cell?, Array.getElem?_eq_none h'] at h
theorem addr_addG (b off j : Nat) : (⟨b, off, none⟩ : Addr).add j = ⟨b, off + j, none⟩ := by
  unfold Addr.add
  split <;> simp_all
theorem i64_of_wf {n : Int} (h : (Lit.int .i64 n).wf = true) : I64 n := by
  simp [Lit.wf, IntKind.min, IntKind.max, IntKind.signed, IntKind.bits] at h
  unfold I64
  omega

set_option maxRecDepth 100000 in
theorem ints_of_one {H : Type} {enc : TypeId × Value → H} {W : World} {fuel : Nat} {v : Value} {x : DataW H × List MemPlace}
    (hf : DataW.trod enc Tryd.prog W 0 (fun _ => true) true fuel 23 [v] = some x) : ∃ l : List Int, IntsR W v l ∧ ∀ z ∈ l, I64 z := by
  have hc1 : Tryd.prog.cellsOf 3 = 1 := by kernel_rfl
  rcases open_ints Tryd.underlying23 Tryd.underlying3 hc1 hf with ⟨hcs, _⟩ | ⟨a, len, cap, zs, hcs, _, hl, _, hzl, _, hcell, hwf⟩
  · simp at hcs
    subst hcs
    exact ⟨[], ⟨none, 0, rfl, by simp, .inl rfl⟩, fun z hz => by simp at hz⟩
  · simp at hcs
    subst hcs
    have hzl' : zs.length = cap := by simpa using hzl
    have htl : (zs.take len).length = len := by rw [List.length_take]; omega
    refine ⟨zs.take len, ?_, fun z hz => i64_of_wf (hwf z (List.mem_of_mem_take hz))⟩
    by_cases hn : len = 0
    · subst hn
      exact ⟨some a, cap, by simp, by simp, .inl (by simp)⟩
    · obtain ⟨b, off, spot⟩ := a
      have h0 := hcell 0 (by omega)
      have hspot : spot = none := by simpa [Addr.add] using World.cell?_spot h0
      subst hspot
      refine ⟨_, cap, by rw [htl], by rw [htl]; simpa using hl, .inr ⟨b, off, rfl, ?_, fun j hj => ?_⟩⟩
      · rw [addr_addG] at h0
        exact cell_blkG h0
      · rw [htl] at hj
        have h1 := hcell j (by omega)
        rw [addr_addG] at h1
        rw [h1]
        simp [List.getD, List.getElem?_take_of_lt hj]

set_option maxRecDepth 100000 in
theorem prods_of_one {H : Type} {enc : TypeId × Value → H} {W : World} {fuel : Nat} {v : Value} {x : DataW H × List MemPlace}
    (hf : DataW.trod enc Tryd.prog W 0 (fun _ => true) true fuel 22 [v] = some x) : ∃ ps : List PdR, PdsM W v ps ∧ ∀ p ∈ ps, ∀ z ∈ p.right, I64 z := by
  have hc3 : Tryd.prog.cellsOf 38 = 3 := by kernel_rfl
  rcases Deep.open_slice Tryd.underlying22 hf with ⟨hcs, _⟩ | ⟨a, len, cap, m, n, D, Pl, hcs, _, hl, _, hmm, _, hx⟩
  · simp at hcs
    subst hcs
    exact ⟨[], ⟨none, 0, rfl, .inl rfl⟩, fun p hp => by simp at hp⟩
  · simp at hcs
    subst hcs
    have hmn : len ≤ m := by rw [hmm]; simpa using hl
    have each : ∀ i, ∃ q : PdR × Value, i < len → W.cell? (a.add (i * 3)) = some (.int .i64 q.1.left) ∧ W.cell? (a.add (i * 3 + 1)) = some q.2 ∧ W.cell? (a.add (i * 3 + 2)) = some (.int .i64 q.1.level) ∧ IntsR W q.2 q.1.right ∧ ∀ z ∈ q.1.right, I64 z := fun i => by
      by_cases hi : i < len
      · obtain ⟨cs', h1, h2⟩ := hx i (by omega)
        rw [hc3] at h1
        obtain ⟨_, hlen, hcell⟩ := World.cells?_some h1
        obtain ⟨xs, k, hk, hxy, _, hxl, hff⟩ := DataW.trod_struct Tryd.underlying38 h2
        match xs, hxl, cs', hlen with
        | [y0, y1, y2], _, [v0, v1, v2], _ =>
          have g0 := hff 0 _ rfl
          have g1 := hff 1 _ rfl
          have g2 := hff 2 _ rfl
          have c1 : Tryd.prog.cellsOf 3 = 1 := by kernel_rfl
          have c2 : Tryd.prog.cellsOf 23 = 1 := by kernel_rfl
          simp [c1, c2] at g0 g1 g2
          obtain ⟨z0, e0, _, _⟩ := DataW.trod_int Tryd.underlying3 g0
          obtain ⟨z2, e2, _, _⟩ := DataW.trod_int Tryd.underlying3 g2
          obtain ⟨l, hl1, hl2⟩ := ints_of_one g1
          simp at e0 e2
          have d0 := hcell 0 (by omega)
          have d1 := hcell 1 (by omega)
          have d2 := hcell 2 (by omega)
          rw [Deep.add_add] at d0 d1 d2
          exact ⟨(⟨z0, l, z2⟩, v1), fun _ => ⟨by simpa [e0] using d0, by simpa using d1, by simpa [e2] using d2, hl1, hl2⟩⟩
      · exact ⟨(noPd, .nilFunc), fun h => absurd h hi⟩
    obtain ⟨F, hF⟩ := Classical.axiomOfChoice each
    have hg : ∀ j, j < len → ((List.range len).map fun i => (F i).1).getD j noPd = (F j).1 := fun j hj => by simp [hj]
    refine ⟨(List.range len).map fun i => (F i).1, ?_, fun p hp => ?_⟩
    · by_cases hn : len = 0
      · subst hn
        exact ⟨some a, cap, by simp, .inl rfl⟩
      · obtain ⟨b, off, spot⟩ := a
        have h0 := (hF 0 (by omega)).1
        have hspot : spot = none := by simpa [Addr.add] using World.cell?_spot h0
        subst hspot
        refine ⟨_, cap, by simp, .inr ⟨b, off, rfl, ?_, fun j hj => ?_⟩⟩
        · rw [addr_addG] at h0
          exact cell_blkG h0
        · have hj' : j < len := by simpa using hj
          rw [hg j hj']
          obtain ⟨x0, x1, x2, x3, _⟩ := hF j hj'
          rw [addr_addG] at x0 x1 x2
          exact ⟨(F j).2, x0, by rw [Nat.add_assoc]; exact x1, by rw [Nat.add_assoc]; exact x2, x3⟩
    · obtain ⟨i, hi, rfl⟩ := List.mem_map.1 hp
      exact (hF i (List.mem_range.1 hi)).2.2.2.2

theorem six {α : Type} : ∀ (l : List α), l.length = 6 → ∃ a b c d e f, l = [a, b, c, d, e, f] := by
  intro l h
  obtain ⟨a, l, rfl⟩ := List.exists_cons_of_length_pos (l := l) (by omega)
  obtain ⟨b, l, rfl⟩ := List.exists_cons_of_length_pos (l := l) (by simp at h; omega)
  obtain ⟨c, l, rfl⟩ := List.exists_cons_of_length_pos (l := l) (by simp at h; omega)
  obtain ⟨d, l, rfl⟩ := List.exists_cons_of_length_pos (l := l) (by simp at h; omega)
  obtain ⟨e, l, rfl⟩ := List.exists_cons_of_length_pos (l := l) (by simp at h; omega)
  obtain ⟨f, l, rfl⟩ := List.exists_cons_of_length_pos (l := l) (by simp at h; omega)
  obtain rfl : l = [] := by simpa using h
  exact ⟨a, b, c, d, e, f, rfl⟩
set_option maxRecDepth 100000 in
theorem gram_of_one {H : Type} {enc : TypeId × Value → H} {W : World} {fuel : Nat} {cl : List Value} {x : DataW H × List MemPlace} (hcl : cl.length = 6)
    (hf : DataW.trod enc Tryd.prog W 0 (fun _ => true) true fuel 25 cl = some x) : ∃ (g : Gm) (pv lv sv : Value), cl.toArray = gvs g pv lv sv ∧ GrM W g pv lv sv ∧ WfG g := by
  obtain ⟨xs, k, hk, hxy, _, hxl, hff⟩ := DataW.trod_struct Tryd.underlying25 hf
  obtain ⟨u0, u1, u2, u3, u4, u5, rfl⟩ := six cl hcl
  have hxl' : xs.length = 6 := hxl
  obtain ⟨y0, y1, y2, y3, y4, y5, rfl⟩ := six xs hxl'
  clear hf hcl hxl hxl' hxy
  have g0 := hff 0 _ rfl
  have g1 := hff 1 _ rfl
  have g2 := hff 2 _ rfl
  have g3 := hff 3 _ rfl
  have g4 := hff 4 _ rfl
  have g5 := hff 5 _ rfl
  clear hff
  have c1 : Tryd.prog.cellsOf 3 = 1 := by kernel_rfl
  have c2 : Tryd.prog.cellsOf 23 = 1 := by kernel_rfl
  have c3 : Tryd.prog.cellsOf 22 = 1 := by kernel_rfl
  simp [c1, c2, c3] at g0 g1 g2 g3 g4 g5
  obtain ⟨z0, e0, _, _⟩ := DataW.trod_int Tryd.underlying3 g0
  obtain ⟨z1, e1, _, _⟩ := DataW.trod_int Tryd.underlying3 g1
  obtain ⟨z2, e2, _, _⟩ := DataW.trod_int Tryd.underlying3 g2
  obtain ⟨ps, hps1, hps2⟩ := prods_of_one g3
  obtain ⟨ls, hls1, _⟩ := ints_of_one g4
  obtain ⟨ss, hss1, _⟩ := ints_of_one g5
  simp at e0 e1 e2
  exact ⟨⟨z0, z1, z2, ps, ls, ss⟩, u3, u4, u5, by rw [e0, e1, e2]; rfl, ⟨hps1, hls1, hss1⟩, hps2⟩

/-- the cells of a table -/
def flatG : Nat → DataW Unit → List Value
  | 0, _ => []
  | n + 1, .lit (.int k z) => [.int k z]
  | n + 1, .agg l => l.flatMap (flatG n)
  | _, _ => []
/-- a world that meets the condition -/
def gkHeap (h : Array Obj) : Array Obj :=
  h.modify 0 fun
    | .cells _ t frozen => .cells (flatG 3 Rows.laid_math_bits_deBruijn64tab).toArray t frozen
    | o => o
theorem gk_met (os : Os) (args : Array Value) : laidMet Tryd.prog Rows.grammarSpeaksRow.laid (({ World.holding Tryd.prog os ⟨#[], #[], []⟩ with heap := gkHeap (World.holding Tryd.prog os ⟨#[], #[], []⟩).heap } : World).forCall (fun _ _ => 0) ⟨#[], args, []⟩).memory :=
  (LaidIn.of_run [0] 8 (by kernel_rfl) (by kernel_rfl) (by kernel_rfl) (by kernel_rfl)).met
theorem gk_row (os : Os) {H : Type} (enc : TypeId × Value → H) :
    (OpenSpec.ofChange Rows.grammarSpeaksSpec).preRow enc Tryd.prog Tryd.f3 Rows.grammarSpeaksRow.domain false Rows.grammarSpeaksRow.laid (({ World.holding Tryd.prog os ⟨#[], #[], []⟩ with heap := gkHeap (World.holding Tryd.prog os ⟨#[], #[], []⟩).heap } : World).forCall (fun _ _ => 0) ⟨#[], #[.agg #[.int .i64 0, .int .i64 0, .int .i64 0, .slice none 0 0, .slice none 0 0, .slice none 0 0]], []⟩).memory #[.agg #[.int .i64 0, .int .i64 0, .int .i64 0, .slice none 0 0, .slice none 0 0, .slice none 0 0]] := by
  have hw : (DataW.whole enc Tryd.prog (({ World.holding Tryd.prog os ⟨#[], #[], []⟩ with heap := gkHeap (World.holding Tryd.prog os ⟨#[], #[], []⟩).heap } : World).forCall (fun _ _ => 0) ⟨#[], #[.agg #[.int .i64 0, .int .i64 0, .int .i64 0, .slice none 0 0, .slice none 0 0, .slice none 0 0]], []⟩).memory Tryd.f3.params.toList (OpenSpec.ofChange Rows.grammarSpeaksSpec).vars false #[Value.agg #[.int .i64 0, .int .i64 0, .int .i64 0, .slice none 0 0, .slice none 0 0, .slice none 0 0]].toList 8).map (fun x => (x.1, x.2.1)) =
      some ([.agg [.lit (.int .i64 0), .lit (.int .i64 0), .lit (.int .i64 0), .nil, .nil, .nil]], []) := by kernel_rfl
  obtain ⟨⟨x1, x2, x3⟩, hx, hx1⟩ := Option.map_eq_some_iff.1 hw
  simp only [Prod.mk.injEq] at hx1
  obtain ⟨rfl, rfl⟩ := hx1
  exact OpenSpec.preRow_of_cond 8 hx (by kernel_rfl) (fun k hk => by cases hk) (by kernel_rfl) (gk_met os _)

theorem tab_of_laid {W : World} (hL : laidMet Tryd.prog Rows.grammarSpeaksRow.laid W) : TabAt 0 Lib.deBruijn64tab W ∧ 0 < W.heap.size := by
  have h : Lib.VarReads Tryd.prog W "math/bits.deBruijn64tab" Rows.laid_math_bits_deBruijn64tab := Lib.laidMet.reads hL (.head _)
  have e : Rows.laid_math_bits_deBruijn64tab (H := Unit) = Lib.tabData .u8 (Lib.deBruijn64tab.map fun (n : Nat) => (n : Int)) := by kernel_rfl
  rw [e] at h
  obtain ⟨g, t, cs, fuel, p, hg, hty, hvar, hd⟩ := h
  obtain rfl := Option.some.inj ((show Tryd.prog.globalNamed "math/bits.deBruijn64tab" = some 0 by kernel_rfl).symm.trans hg)
  obtain rfl := Option.some.inj ((show (Tryd.prog.globals[0]?).map (·.type) = some 114 by kernel_rfl).symm.trans hty)
  have hcs := Lib.cells_of_tab Tryd.underlying114 Tryd.underlying5 (by kernel_rfl) (by kernel_rfl) hd
  have hT : TabAt 0 Lib.deBruijn64tab W := fun j hj => by
    have := World.var?_cell hg hvar j
    rw [this, ← Array.getElem?_toList, hcs]
    simp [List.getD, hj]
  have h0 := hT 0 (by decide)
  exact ⟨hT, cell_blkG h0⟩

theorem head_start {g : Gm} (h : gOkB g = true) : 0 ≤ g.start ∧ g.start < g.names := by
  unfold gOkB at h
  simp only [Bool.and_eq_true] at h
  have hh : HeadG g := of_decide_eq_true h.1
  obtain ⟨a1, a2, a3, a4, a5, a6, a7, a8, a9⟩ := hh
  omega

theorem speak_any (g : Gm) (pv lv sv : Value) (w : World) (h : GrM w g pv lv sv) (hwf : WfG g) (hGl : 0 < w.heap.size) (hTb : TabAt 0 Lib.deBruijn64tab w) :
    Calls Tryd.prog 3 #[gv g pv lv sv] w fun e w' => e = .returned (.bool true) ∧ Below w.heap.size w w' := by
  cases hs : smallG g
  · exact lawk_no g pv lv sv w h hwf (.inl hs)
  · cases hy : gOkB g
    · exact lawk_no g pv lv sv w h hwf (.inr ⟨hs, hy⟩)
    · obtain ⟨N, hN, hN1, hG, h3, ht0, ht1⟩ := gok_M g hy hwf
      obtain ⟨hst0, hst1⟩ := head_start hy
      have hsm := hs
      unfold smallG at hsm
      simp only [Bool.and_eq_true, decide_eq_true_eq] at hsm
      obtain ⟨⟨⟨⟨⟨m1, m2⟩, _⟩, _⟩, _⟩, _⟩ := hsm
      obtain ⟨t, nm, s, ps, ls, ss⟩ := g
      simp only at hN hG h3 ht0 ht1 hst0 hst1 m1 m2
      subst hN
      obtain ⟨T, rfl⟩ : ∃ T : Nat, t = (T : Int) := ⟨t.toNat, by omega⟩
      obtain ⟨st, rfl⟩ : ∃ st : Nat, s = (st : Int) := ⟨s.toNat, by omega⟩
      exact lawk_yes T st N ps ls ss pv lv sv w hG hN1 (by omega) (by omega) (by omega) (fun q hq k hk => h3 _ (by simp [List.getD, hq]) _ (getD_memI _ k hk)) (fun p hp x hx => by have := h3 p hp x hx; omega) h hwf hs hy hGl hTb

set_option maxHeartbeats 2000000 in
theorem gk_lifted (os : Os) (started : os.Started) (H : Type) (enc : TypeId × Value → H) (F : Stop.Interp) :
    ReturnsInHanded {} Tryd.checked os 3 .any ((OpenSpec.ofChange Rows.grammarSpeaksSpec).preRow enc Tryd.prog Tryd.f3 Rows.grammarSpeaksRow.domain false Rows.grammarSpeaksRow.laid) (((OpenSpec.ofChange Rows.grammarSpeaksSpec).at F).post enc Tryd.prog Tryd.f3 false true false false) := by
  refine returnsInHanded_of_row (C := Tryd.checked) (s := OpenSpec.ofChange Rows.grammarSpeaksSpec) gk_own started (by kernel_rfl) Tryd.func3
    (witness_row_atRef (enc := enc) (C := Tryd.checked) false ({ World.holding Tryd.prog os ⟨#[], #[], []⟩ with heap := gkHeap (World.holding Tryd.prog os ⟨#[], #[], []⟩).heap } : World) #[.agg #[.int .i64 0, .int .i64 0, .int .i64 0, .slice none 0 0, .slice none 0 0, .slice none 0 0]] rfl (by kernel_rfl) (by kernel_rfl) (by kernel_rfl) (gk_row os enc)) ?_
  intro W base args ds gs before hval0 hW hcnd0 _ hz hL hS _
  have hval : ∀ (j : Nat) t v, Tryd.f3.params[j]? = some t → args[j]? = some v → Value.okWide Tryd.prog W .any base t v := hval0
  have hW' := hW
  obtain ⟨p, q, hA0, hV0, rfl, _, _⟩ := hW
  have hA : DataW.TrodAll enc Tryd.prog W 0 (fun _ => true) true Tryd.f3.params.toList args.toList ds p := hA0
  rw [Tryd.params3] at hA hval
  obtain ⟨v0, vs0, d0, ds0, p0, q0, hargs, rfl, rfl, h0, r0⟩ := trodAll_cons hA
  obtain ⟨rfl, rfl, rfl⟩ := trodAll_nil r0
  obtain rfl : args = #[v0] := by cases args; simp_all
  obtain ⟨rfl, rfl⟩ := trodVars_none hV0
  obtain ⟨cs, rfl, hcs⟩ := okWide_struct Tryd.underlying25 (hval 0 25 v0 rfl rfl)
  have hc6 : Tryd.prog.cellsOf 25 = 6 := by kernel_rfl
  rw [hc6] at hcs
  have k0 := h0
  have lt0 : ∀ x ∈ p0, x.block < W.heap.size := by obtain ⟨m, hm⟩ := k0; exact DataW.trod_lt m _ _ _ hm
  obtain ⟨g, pv, lv, sv, hgv, hGr, hWf⟩ : ∃ (g : Gm) (pv lv sv : Value), cs = gvs g pv lv sv ∧ GrM W g pv lv sv ∧ WfG g := by
    obtain ⟨fuel, hf⟩ := h0
    obtain ⟨cl⟩ := cs
    exact gram_of_one (by simpa using hcs) (by simpa [Value.cells] using hf)
  clear hA0 hV0 hval0
  subst hgv
  have hLaw : Calls Tryd.prog 3 #[.agg (gvs g pv lv sv)] W fun e w' => e = .returned (.bool true) ∧ Below W.heap.size W w' := speak_any g pv lv sv W hGr hWf (tab_of_laid hL).2 (tab_of_laid hL).1
  refine hLaw.mono fun e W' ⟨he, bel⟩ => ?_
  subst he
  exact ⟨_, rfl, _, _, _, [], _, [], hW', trodAll_mk1 (shut_bool Tryd.underlying4 _), (trodAll_cons_mk (Below.trod gk_laidOut (by kernel_rfl) (of_decide_eq_true (by kernel_rfl)) k0 bel lt0) trodAll_mk0), rfl, bel.frame _, fun h => by cases h⟩

theorem gk_row_holds : Rows.GrammarSpeaksSaid :=
  OpenClaim.holds_of_cond 3 Tryd.f3 rfl rfl rfl rfl rfl rfl rfl ⟨rfl, rfl, rfl, rfl, rfl⟩ rfl rfl rfl rfl rfl (by kernel_rfl) Tryd.func3 (by kernel_rfl)
    (of_decide_eq_true (by kernel_rfl)) (by unfold Func.isWrapper; rw [if_neg (of_decide_eq_false (by kernel_rfl))]; exact ⟨rfl, rfl⟩)
    (fun os started H enc _ F0 => by rw [OpenClaim.pre_eq_preRow]; exact gk_lifted os started H enc F0)

theorem gk_card_holds : Rows.GrammarSpeaksCardSaid :=
  Claim7.holds_tied_plain_at .later [] _ _ _ _
    gk_row_holds (fun _ h => by cases h) (by kernel_rfl) (fun _ h => by cases h) grammarSpeaks_row_tie rfl ⟨rfl, rfl⟩ (by kernel_rfl) rfl
    (fun f fn hf hfn => by
      obtain rfl : f = 3 := Option.some.inj ((show Tryd.prog.funcNamed "grammarsmith/grammarsmithlaw2.GrammarSpeaks" = some 3 by kernel_rfl).symm.trans hf) |>.symm
      obtain rfl : fn = Tryd.f3 := (Option.some.inj (Tryd.func3.symm.trans hfn)).symm
      exact ⟨by kernel_rfl, fun j t ht => by
        rw [Tryd.params3] at ht
        have h9 : t = 25 := by
          rcases j with _ | j
          · simpa using ht.symm
          · simp at ht
        subst h9
        exact (show Tryd.prog.wantsStandIn 25 = false by kernel_rfl)⟩)
    (by kernel_rfl)

end Go.Proofs.YtmkimaceioacgaaDoor
