/- Whether any pattern is valid, and that the text of a valid one tells it: the law PatternWritten returns true for every list of parts of at most 1,048,576 values in all (the second form's own bound). The row of the card and the card. -/
import Derived.Test.YtbjohedenfindaaGreatDoorRows
import Derived.Test.YtbjohedenfindaaGreatDoorTie
import Derived.Test.YtbjohedenfindaaGreatDoorCards
import Derived.Test.YtbjohedenfindaaGreatDoorPw47
import Derived.Deep.DeepHandedRow
import Derived.Deep.DeepWitnessRowRef
import Derived.Deep.SlicePairs
import Derived.Lib.LaidIn
import Derived.Lib.LaidU8
import Derived.Shelf.Vars
import Derived.ProofKit
import Derived.SizedLaws
import Derived.LaidLaws
import Derived.LaidHandle
import Derived.LaidSub
import Derived.Stop.Joined
import Derived.SevenTiedAt
import Derived.OpenShut
import Derived.ChangeSame
import Derived.Below
namespace Go.Proofs.YtbjohedenfindaaGreatDoor
open Go.ChangeShapes Go.WideShapes Go.ChangeAt Go.RowKit
set_option linter.unusedVariables false
set_option maxRecDepth 100000

theorem wr_own : ownKnob Tryz.prog.godebug = none := by kernel_rfl
theorem wr_laidOut : laidOutB Tryz.prog = true := by kernel_rfl

/-! ## the argument -/
theorem bulk_one {H : Type} (d : DataW H) : 1 ≤ Rows.uptoBulk d := by
  cases d with
  | lit l => cases l <;> simp [Rows.uptoBulk]
  | nil => simp [Rows.uptoBulk]
  | ptr d => simp [Rows.uptoBulk]
  | slice elems spare => simp [Rows.uptoBulk]
  | agg parts => simp [Rows.uptoBulk]
  | iface t d => simp [Rows.uptoBulk]
  | map entries => simp [Rows.uptoBulk]
  | held h => simp [Rows.uptoBulk]
theorem bulk_part {H : Type} {d : DataW H} : ∀ {l : List (DataW H)}, d ∈ l → Rows.uptoBulk d ≤ Rows.uptoBulkAll l
  | [], h => by cases h
  | x :: r, h => by
    simp only [Rows.uptoBulkAll]
    rcases List.mem_cons.1 h with rfl | h
    · omega
    · have := bulk_part h; omega
theorem bulk_len {H : Type} : ∀ (l : List (DataW H)), l.length ≤ Rows.uptoBulkAll l
  | [] => by simp [Rows.uptoBulkAll]
  | x :: r => by have := bulk_one x; have := bulk_len r; simp only [Rows.uptoBulkAll, List.length_cons]; omega
theorem bulk_slice {H : Type} (es sp : List (DataW H)) : es.length ≤ Rows.uptoBulk (.slice es sp) ∧ Rows.uptoBulkAll es ≤ Rows.uptoBulk (.slice es sp) := by
  have := bulk_len es
  simp only [Rows.uptoBulk]
  omega

theorem cell_blkV {w : World} {b o : Nat} {v : Value} (h : w.cell? ⟨b, o, none⟩ = some v) : b < w.heap.size := by
  rcases Nat.lt_or_ge b w.heap.size with h' | h'
  · exact h'
  · simp [World.cell?, Array.getElem?_eq_none h'] at h
theorem addr_addV (b off j : Nat) : (⟨b, off, none⟩ : Addr).add j = ⟨b, off + j, none⟩ := by
  unfold Addr.add
  split <;> simp_all

theorem rngs_of_oneV {H : Type} {enc : TypeId × Value → H} {W : World} {fuel : Nat} {v : Value} {x : DataW H × List MemPlace}
    (hf : DataW.trod enc Tryz.prog W 0 (fun _ => true) true fuel 33 [v] = some x) : ∃ l : List Rg, Rngs W v l ∧ l.length ≤ Rows.uptoBulk x.1 := by
  rcases Deep.open_slice_pairs Tryz.underlying33 Tryz.underlying101 (by kernel_rfl) rfl rfl (by kernel_rfl) (by kernel_rfl) hf with ⟨hcs, _⟩ | ⟨ad, n, c, m, k, V0, V1, D0, D1, P0, P1, hcs, _, hl, _, hm, rfl, hall⟩
  · simp at hcs
    subst hcs
    exact ⟨[], .inl ⟨rfl, none, 0, rfl⟩, by simp⟩
  · simp at hcs
    subst hcs
    have hmn : n ≤ m := by rw [hm]; simpa using hl
    refine ⟨(List.range n).map fun i => (intOf (V0 i), intOf (V1 i)), ?_, ?_⟩
    · by_cases hn : n = 0
      · subst hn
        exact .inl ⟨rfl, _, _, rfl⟩
      · obtain ⟨b, off, spot⟩ := ad
        have h0 := (hall 0 (by omega)).1
        have hspot : spot = none := by simpa [Addr.add] using World.cell?_spot h0
        subst hspot
        refine .inr ⟨b, off, c, by simp, ?_, fun j hj => ?_⟩
        · rw [addr_addV] at h0
          exact cell_blkV h0
        · have hj' : j < n := by simpa using hj
          obtain ⟨c0, c1, t0, t1⟩ := hall j (by omega)
          obtain ⟨z0, e0, _, _⟩ := DataW.trod_int Tryz.underlying3 t0
          obtain ⟨z1, e1, _, _⟩ := DataW.trod_int Tryz.underlying3 t1
          simp at e0 e1
          rw [addr_addV] at c0 c1
          have g0 : ((List.range n).map fun i => (intOf (V0 i), intOf (V1 i))).getD j (0, 0) = (intOf (V0 j), intOf (V1 j)) := by simp [hj']
          rw [g0, c0, e0, show off + j * 2 + 1 = off + (j * 2 + 1) by omega, c1, e1]
          simp [intOf]
    · have := (bulk_slice ((List.range n).map fun i => DataW.agg [D0 i, D1 i]) ((List.range (m - n)).map fun j => DataW.agg [D0 (n + j), D1 (n + j)])).1
      simpa using this

theorem ints_of_oneV {H : Type} {enc : TypeId × Value → H} {W : World} {fuel : Nat} {v : Value} {x : DataW H × List MemPlace}
    (hf : DataW.trod enc Tryz.prog W 0 (fun _ => true) true fuel 34 [v] = some x) : ∃ l : List Int, IntsR W v l ∧ l.length ≤ Rows.uptoBulk x.1 := by
  have hc1 : Tryz.prog.cellsOf 3 = 1 := by kernel_rfl
  rcases Deep.open_slice Tryz.underlying34 hf with ⟨hcs, _⟩ | ⟨a, len, cap, m, n, D, Pl, hcs, _, hl, _, hmm, rfl, hx⟩
  · simp at hcs
    subst hcs
    exact ⟨[], ⟨none, 0, rfl, .inl rfl⟩, by simp⟩
  · simp at hcs
    subst hcs
    have hmn : len ≤ m := by rw [hmm]; simpa using hl
    have each : ∀ i, ∃ q : Int, i < len → W.cell? (a.add i) = some (.int .i64 q) := fun i => by
      by_cases hi : i < len
      · obtain ⟨cs', h1, h2⟩ := hx i (by omega)
        rw [hc1] at h1
        obtain ⟨_, hlen, hcell⟩ := World.cells?_some h1
        obtain ⟨z, e, _, _⟩ := DataW.trod_int Tryz.underlying3 h2
        subst e
        have d0 := hcell 0 (by omega)
        rw [Deep.add_add] at d0
        exact ⟨z, fun _ => by simpa using d0⟩
      · exact ⟨0, fun h => absurd h hi⟩
    obtain ⟨F, hF⟩ := Classical.axiomOfChoice each
    refine ⟨(List.range len).map F, ⟨some a, cap, by simp, ?_⟩, ?_⟩
    · by_cases hn : len = 0
      · subst hn
        exact .inl rfl
      · obtain ⟨b, off, spot⟩ := a
        have h0 := hF 0 (by omega)
        have hspot : spot = none := by simpa [Addr.add] using World.cell?_spot h0
        subst hspot
        refine .inr ⟨b, off, rfl, ?_, fun j hj => ?_⟩
        · rw [addr_addV] at h0
          exact cell_blkV h0
        · have hj' : j < len := by simpa using hj
          have g0 : ((List.range len).map F).getD j 0 = F j := by simp [hj']
          rw [g0, ← addr_addV]
          exact hF j hj'
    · have := (bulk_slice ((List.range len).map D) ((List.range (m - len)).map fun j => D (len + j))).1
      simpa using this

theorem parts_of_oneV {H : Type} {enc : TypeId × Value → H} {W : World} {fuel : Nat} {v : Value} {x : DataW H × List MemPlace}
    (hf : DataW.trod enc Tryz.prog W 0 (fun _ => true) true fuel 32 [v] = some x) (hB : Rows.uptoBulk x.1 ≤ 1048576) : ∃ ps : List PartP, PartsR W v ps ∧ ∀ p ∈ ps, p.set.length ≤ 1048576 ∧ p.kids.length ≤ 1048576 := by
  have hc5 : Tryz.prog.cellsOf 36 = 5 := by kernel_rfl
  have hci : Tryz.prog.cellsOf 3 = 1 := by kernel_rfl
  have hcr : Tryz.prog.cellsOf 33 = 1 := by kernel_rfl
  have hck : Tryz.prog.cellsOf 34 = 1 := by kernel_rfl
  rcases Deep.open_slice Tryz.underlying32 hf with ⟨hcs, _⟩ | ⟨a, len, cap, m, n, D, Pl, hcs, _, hl, _, hmm, rfl, hx⟩
  · simp at hcs
    subst hcs
    exact ⟨[], ⟨none, 0, rfl, .inl rfl⟩, by simp⟩
  · simp at hcs
    subst hcs
    have hmn : len ≤ m := by rw [hmm]; simpa using hl
    have hBD : ∀ i, i < len → Rows.uptoBulk (D i) ≤ 1048576 := fun i hi => by
      have h1 := (bulk_slice ((List.range len).map D) ((List.range (m - len)).map fun j => D (len + j))).2
      have h2 := bulk_part (d := D i) (l := (List.range len).map D) (List.mem_map_of_mem (List.mem_range.2 hi))
      have h3 : Rows.uptoBulk (DataW.slice ((List.range len).map D) ((List.range (m - len)).map fun j => D (len + j))) ≤ 1048576 := hB
      omega
    have each : ∀ i, ∃ q : PartP, i < len → (q.set.length ≤ 1048576 ∧ q.kids.length ≤ 1048576) ∧ W.cell? (a.add (i * 5)) = some (.int .i64 q.kind) ∧ W.cell? (a.add (i * 5 + 1)) = some (.int .i64 q.mn) ∧ W.cell? (a.add (i * 5 + 2)) = some (.int .i64 q.mx) ∧ ∃ sv kv, W.cell? (a.add (i * 5 + 3)) = some sv ∧ W.cell? (a.add (i * 5 + 4)) = some kv ∧ Rngs W sv q.set ∧ IntsR W kv q.kids := fun i => by
      by_cases hi : i < len
      · obtain ⟨cs', h1, h2⟩ := hx i (by omega)
        rw [hc5] at h1
        obtain ⟨_, hlen, hcell⟩ := World.cells?_some h1
        obtain ⟨xs, k, hk, hxy, _, hxl, hff⟩ := DataW.trod_struct Tryz.underlying36 h2
        match xs, hxl, cs', hlen with
        | [y0, y1, y2, y3, y4], _, [v0, v1, v2, v3, v4], _ =>
          have g0 := hff 0 _ rfl
          have g1 := hff 1 _ rfl
          have g2 := hff 2 _ rfl
          have g3 := hff 3 _ rfl
          have g4 := hff 4 _ rfl
          simp [hci] at g0 g1 g2
          simp [hcr] at g3
          simp [hck] at g4
          obtain ⟨z0, e0, _, _⟩ := DataW.trod_int Tryz.underlying3 g0
          obtain ⟨z1, e1, _, _⟩ := DataW.trod_int Tryz.underlying3 g1
          obtain ⟨z2, e2, _, _⟩ := DataW.trod_int Tryz.underlying3 g2
          simp at e0 e1 e2
          obtain ⟨ls, hls, hls2⟩ := rngs_of_oneV g3
          obtain ⟨lk, hlk, hlk2⟩ := ints_of_oneV g4
          have d0 := hcell 0 (by omega)
          have d1 := hcell 1 (by omega)
          have d2 := hcell 2 (by omega)
          have d3 := hcell 3 (by omega)
          have d4 := hcell 4 (by omega)
          rw [Deep.add_add] at d0 d1 d2 d3 d4
          have hDi : D i = .agg [y0.1, y1.1, y2.1, y3.1, y4.1] := by
            have := congrArg Prod.fst hxy
            simpa using this
          have hb := hBD i hi
          rw [hDi] at hb
          simp only [Rows.uptoBulk, Rows.uptoBulkAll] at hb
          exact ⟨⟨z0, z1, z2, ls, lk⟩, fun _ => ⟨⟨by show ls.length ≤ _; omega, by show lk.length ≤ _; omega⟩, by simpa [e0] using d0, by simpa [e1] using d1, by simpa [e2] using d2, v3, v4, by simpa using d3, by simpa using d4, hls, hlk⟩⟩
      · exact ⟨noPart, fun h => absurd h hi⟩
    obtain ⟨F, hF⟩ := Classical.axiomOfChoice each
    refine ⟨(List.range len).map F, ⟨some a, cap, by simp, ?_⟩, fun p hp => ?_⟩
    · by_cases hn : len = 0
      · subst hn
        exact .inl rfl
      · obtain ⟨b, off, spot⟩ := a
        have h0 := (hF 0 (by omega)).2.1
        have hspot : spot = none := by simpa [Addr.add] using World.cell?_spot h0
        subst hspot
        refine .inr ⟨b, off, rfl, ?_, fun j hj => ?_⟩
        · rw [addr_addV] at h0
          exact cell_blkV h0
        · have hj' : j < len := by simpa using hj
          have g0 : ((List.range len).map F).getD j noPart = F j := by simp [hj']
          rw [g0]
          obtain ⟨_, x0, x1, x2, sv, kv, x3, x4, x5, x6⟩ := hF j hj'
          rw [addr_addV] at x0 x1 x2 x3 x4
          exact ⟨sv, kv, x0, by rw [Nat.add_assoc]; exact x1, by rw [Nat.add_assoc]; exact x2, by rw [Nat.add_assoc]; exact x3, by rw [Nat.add_assoc]; exact x4, x5, x6⟩
    · obtain ⟨i, hi, rfl⟩ := List.mem_map.1 hp
      exact (hF i (List.mem_range.1 hi)).1

/-! ## the errors -/
theorem Tryz.w_et : Tryz.prog.globalNamed "errors.errorType" = some 7 := by kernel_rfl
theorem Tryz.w_rt : (Tryz.prog.cutTypes.find? (·.1 == "internal/reflectlite.rtype")).map (·.2) = some 156 := by kernel_rfl
theorem Tryz.w_oneRow : ((List.range 290).filter fun t => Tryz.prog.rowNamed t [101, 114, 114, 111, 114]) = [24] := by kernel_rfl
theorem Tryz.w_size : Tryz.prog.types.size = 290 := by kernel_rfl
theorem Tryz.w_cellsErr : Tryz.prog.cellsOf 261 = 1 := by kernel_rfl
theorem Tryz.w_cellsStr : Tryz.prog.cellsOf 9 = 1 := by kernel_rfl
theorem Tryz.w_star : "*" ++ "errors.errorString" = "*errors.errorString" := by decide
theorem Tryz.w_rowErr (u : TypeId) (h : Tryz.prog.typeName? 3 u = some "*errors.errorString") : u = 259 :=
  typeName_ptr_named (nm := "errors.errorString") (by rw [Tryz.w_star]; kernel_rfl) (by kernel_rfl) (by decide) u (by rw [Tryz.w_star]; exact h)
theorem Tryz.w_g0 : Tryz.prog.globalNamed "grammarsmith/api.ErrSyntax" = some 0 := by kernel_rfl
theorem Tryz.w_gt0 : (Tryz.prog.globals[0]?).map (·.type) = some 24 := by kernel_rfl
theorem Tryz.w_g1 : Tryz.prog.globalNamed "grammarsmith/api.ErrBound" = some 1 := by kernel_rfl
theorem Tryz.w_gt1 : (Tryz.prog.globals[1]?).map (·.type) = some 24 := by kernel_rfl
theorem Tryz.w_g2 : Tryz.prog.globalNamed "grammarsmith/api.ErrRule" = some 2 := by kernel_rfl
theorem Tryz.w_gt2 : (Tryz.prog.globals[2]?).map (·.type) = some 24 := by kernel_rfl
theorem Tryz.w_g3 : Tryz.prog.globalNamed "grammarsmith/api.ErrName" = some 3 := by kernel_rfl
theorem Tryz.w_gt3 : (Tryz.prog.globals[3]?).map (·.type) = some 24 := by kernel_rfl
theorem Tryz.w_g4 : Tryz.prog.globalNamed "grammarsmith/api.ErrType" = some 4 := by kernel_rfl
theorem Tryz.w_gt4 : (Tryz.prog.globals[4]?).map (·.type) = some 24 := by kernel_rfl
theorem Tryz.w_g5 : Tryz.prog.globalNamed "grammarsmith/api.ErrConflict" = some 5 := by kernel_rfl
theorem Tryz.w_gt5 : (Tryz.prog.globals[5]?).map (·.type) = some 24 := by kernel_rfl
theorem Tryz.w_g6 : Tryz.prog.globalNamed "grammarsmith/api.ErrEnd" = some 6 := by kernel_rfl
theorem Tryz.w_gt6 : (Tryz.prog.globals[6]?).map (·.type) = some 24 := by kernel_rfl

theorem handle_of_laidV {W : World} (h : laidMetH Tryz.prog Rows.patternWrittenUptoRow.laid W) : W.cell? ⟨7, 0, none⟩ = some (.iface 156 (.agg #[.pointer (some ⟨16, 24, none⟩)])) := by
  have h' : laidMet Tryz.prog (Rows.patternWrittenUptoRow.laid.filter fun x => x.2.handleName?.isNone) W ∧ handlesMet Tryz.prog [("errors.errorType", Rows.laid_errors_errorType)] W := h
  obtain ⟨name, u, ty, e1, e2, e3, e4, e5⟩ := h'.2 _ (List.mem_singleton.2 rfl)
  have en : name = [101, 114, 114, 111, 114] := (Option.some.inj e1).symm
  subst en
  obtain rfl := Option.some.inj (Tryz.w_rt.symm.trans e2)
  have hm : ty ∈ (List.range 290).filter fun t => Tryz.prog.rowNamed t [101, 114, 114, 111, 114] := List.mem_filter.2 ⟨List.mem_range.2 (by rw [← Tryz.w_size]; exact e3), e4⟩
  rw [Tryz.w_oneRow] at hm
  obtain rfl := List.mem_singleton.1 hm
  have hh : typeHandle Tryz.prog 24 = .pointer (some ⟨16, 24, none⟩) := by kernel_rfl
  rw [hh] at e5
  simpa using World.var?_cell Tryz.w_et e5 0

theorem errs_of_laidV {W : World} (h : laidMetH Tryz.prog Rows.patternWrittenUptoRow.laid W) : ∃ a, Errs W a := by
  have hty := handle_of_laidV h
  have h' : laidMet Tryz.prog [("math/bits.deBruijn32tab", Rows.laid_math_bits_deBruijn32tab), ("math/bits.deBruijn64tab", Rows.laid_math_bits_deBruijn64tab), ("internal/strconv.uint64pow10", Rows.laid_internal_strconv_uint64pow10), ("grammarsmith/api.ErrSyntax", Rows.laid_grammarsmith_api_ErrSyntax), ("grammarsmith/api.ErrBound", Rows.laid_grammarsmith_api_ErrBound), ("grammarsmith/api.ErrRule", Rows.laid_grammarsmith_api_ErrRule), ("grammarsmith/api.ErrName", Rows.laid_grammarsmith_api_ErrName), ("grammarsmith/api.ErrType", Rows.laid_grammarsmith_api_ErrType), ("grammarsmith/api.ErrConflict", Rows.laid_grammarsmith_api_ErrConflict), ("grammarsmith/api.ErrEnd", Rows.laid_grammarsmith_api_ErrEnd)] W ∧ handlesMet Tryz.prog [("errors.errorType", Rows.laid_errors_errorType)] W := h
  obtain ⟨ps, ⟨gA, tA, csA, fA, pA, qA, hgA, htA, hvA, hdA, ⟨gB, tB, csB, fB, pB, qB, hgB, htB, hvB, hdB, ⟨gC, tC, csC, fC, pC, qC, hgC, htC, hvC, hdC, ⟨g0, t0, cs0, f0, p0, q0, hg0, ht0, hv0, hd0, ⟨g1, t1, cs1, f1, p1, q1, hg1, ht1, hv1, hd1, ⟨g2, t2, cs2, f2, p2, q2, hg2, ht2, hv2, hd2, ⟨g3, t3, cs3, f3, p3, q3, hg3, ht3, hv3, hd3, ⟨g4, t4, cs4, f4, p4, q4, hg4, ht4, hv4, hd4, ⟨g5, t5, cs5, f5, p5, q5, hg5, ht5, hv5, hd5, ⟨g6, t6, cs6, f6, p6, q6, hg6, ht6, hv6, hd6, hq, e6⟩, e5⟩, e4⟩, e3⟩, e2⟩, e1⟩, e0⟩, eC⟩, eB⟩, eA⟩, hnd, hrows⟩ := h'.1
  obtain rfl := Option.some.inj (Tryz.w_g0.symm.trans hg0)
  obtain rfl := Option.some.inj (Tryz.w_gt0.symm.trans ht0)
  obtain rfl := Option.some.inj (Tryz.w_g1.symm.trans hg1)
  obtain rfl := Option.some.inj (Tryz.w_gt1.symm.trans ht1)
  obtain rfl := Option.some.inj (Tryz.w_g2.symm.trans hg2)
  obtain rfl := Option.some.inj (Tryz.w_gt2.symm.trans ht2)
  obtain rfl := Option.some.inj (Tryz.w_g3.symm.trans hg3)
  obtain rfl := Option.some.inj (Tryz.w_gt3.symm.trans ht3)
  obtain rfl := Option.some.inj (Tryz.w_g4.symm.trans hg4)
  obtain rfl := Option.some.inj (Tryz.w_gt4.symm.trans ht4)
  obtain rfl := Option.some.inj (Tryz.w_g5.symm.trans hg5)
  obtain rfl := Option.some.inj (Tryz.w_gt5.symm.trans ht5)
  obtain rfl := Option.some.inj (Tryz.w_g6.symm.trans hg6)
  obtain rfl := Option.some.inj (Tryz.w_gt6.symm.trans ht6)
  have hq' : q6 = [] := hq
  subst hq'
  subst e6
  subst e5
  subst e4
  subst e3
  subst e2
  subst e1
  subst e0
  subst eC
  subst eB
  subst eA
  obtain ⟨l0⟩ := cs0
  obtain ⟨l1⟩ := cs1
  obtain ⟨l2⟩ := cs2
  obtain ⟨l3⟩ := cs3
  obtain ⟨l4⟩ := cs4
  obtain ⟨l5⟩ := cs5
  obtain ⟨l6⟩ := cs6
  have ok0 : ∀ u v, l0 = [.iface u v] → Value.okWide Tryz.prog W .any 0 u v := fun u v e => by
    subst e
    exact (hrows 0 0 (by simp [MemPlace.row])).2 u v (by simpa using World.var?_cell hg0 hv0 0)
  have ok1 : ∀ u v, l1 = [.iface u v] → Value.okWide Tryz.prog W .any 0 u v := fun u v e => by
    subst e
    exact (hrows 1 0 (by simp [MemPlace.row])).2 u v (by simpa using World.var?_cell hg1 hv1 0)
  have ok2 : ∀ u v, l2 = [.iface u v] → Value.okWide Tryz.prog W .any 0 u v := fun u v e => by
    subst e
    exact (hrows 2 0 (by simp [MemPlace.row])).2 u v (by simpa using World.var?_cell hg2 hv2 0)
  have ok3 : ∀ u v, l3 = [.iface u v] → Value.okWide Tryz.prog W .any 0 u v := fun u v e => by
    subst e
    exact (hrows 3 0 (by simp [MemPlace.row])).2 u v (by simpa using World.var?_cell hg3 hv3 0)
  have ok4 : ∀ u v, l4 = [.iface u v] → Value.okWide Tryz.prog W .any 0 u v := fun u v e => by
    subst e
    exact (hrows 4 0 (by simp [MemPlace.row])).2 u v (by simpa using World.var?_cell hg4 hv4 0)
  have ok5 : ∀ u v, l5 = [.iface u v] → Value.okWide Tryz.prog W .any 0 u v := fun u v e => by
    subst e
    exact (hrows 5 0 (by simp [MemPlace.row])).2 u v (by simpa using World.var?_cell hg5 hv5 0)
  have ok6 : ∀ u v, l6 = [.iface u v] → Value.okWide Tryz.prog W .any 0 u v := fun u v e => by
    subst e
    exact (hrows 6 0 (by simp [MemPlace.row])).2 u v (by simpa using World.var?_cell hg6 hv6 0)
  obtain ⟨a0, s0, rfl, hc0, hs0, hz0, rfl⟩ := errorString_of_trod Tryz.underlying24 Tryz.w_rowErr Tryz.underlying259 Tryz.underlying261 rfl rfl Tryz.underlying9 Tryz.w_cellsErr Tryz.w_cellsStr hd0 ok0
  obtain ⟨a1, s1, rfl, hc1, hs1, hz1, rfl⟩ := errorString_of_trod Tryz.underlying24 Tryz.w_rowErr Tryz.underlying259 Tryz.underlying261 rfl rfl Tryz.underlying9 Tryz.w_cellsErr Tryz.w_cellsStr hd1 ok1
  obtain ⟨a2, s2, rfl, hc2, hs2, hz2, rfl⟩ := errorString_of_trod Tryz.underlying24 Tryz.w_rowErr Tryz.underlying259 Tryz.underlying261 rfl rfl Tryz.underlying9 Tryz.w_cellsErr Tryz.w_cellsStr hd2 ok2
  obtain ⟨a3, s3, rfl, hc3, hs3, hz3, rfl⟩ := errorString_of_trod Tryz.underlying24 Tryz.w_rowErr Tryz.underlying259 Tryz.underlying261 rfl rfl Tryz.underlying9 Tryz.w_cellsErr Tryz.w_cellsStr hd3 ok3
  obtain ⟨a4, s4, rfl, hc4, hs4, hz4, rfl⟩ := errorString_of_trod Tryz.underlying24 Tryz.w_rowErr Tryz.underlying259 Tryz.underlying261 rfl rfl Tryz.underlying9 Tryz.w_cellsErr Tryz.w_cellsStr hd4 ok4
  obtain ⟨a5, s5, rfl, hc5, hs5, hz5, rfl⟩ := errorString_of_trod Tryz.underlying24 Tryz.w_rowErr Tryz.underlying259 Tryz.underlying261 rfl rfl Tryz.underlying9 Tryz.w_cellsErr Tryz.w_cellsStr hd5 ok5
  obtain ⟨a6, s6, rfl, hc6, hs6, hz6, rfl⟩ := errorString_of_trod Tryz.underlying24 Tryz.w_rowErr Tryz.underlying259 Tryz.underlying261 rfl rfl Tryz.underlying9 Tryz.w_cellsErr Tryz.w_cellsStr hd6 ok6
  obtain ⟨c0, t0, hb0⟩ := (hrows a0.block a0.off (by simp [MemPlace.row])).1
  obtain ⟨c1, t1, hb1⟩ := (hrows a1.block a1.off (by simp [MemPlace.row])).1
  obtain ⟨c2, t2, hb2⟩ := (hrows a2.block a2.off (by simp [MemPlace.row])).1
  obtain ⟨c3, t3, hb3⟩ := (hrows a3.block a3.off (by simp [MemPlace.row])).1
  obtain ⟨c4, t4, hb4⟩ := (hrows a4.block a4.off (by simp [MemPlace.row])).1
  obtain ⟨c5, t5, hb5⟩ := (hrows a5.block a5.off (by simp [MemPlace.row])).1
  obtain ⟨c6, t6, hb6⟩ := (hrows a6.block a6.off (by simp [MemPlace.row])).1
  have hx0 : W.cell? ⟨0, 0, none⟩ = some (.iface 259 (.pointer (some a0))) := by simpa using World.var?_cell hg0 hv0 0
  have hx1 : W.cell? ⟨1, 0, none⟩ = some (.iface 259 (.pointer (some a1))) := by simpa using World.var?_cell hg1 hv1 0
  have hx2 : W.cell? ⟨2, 0, none⟩ = some (.iface 259 (.pointer (some a2))) := by simpa using World.var?_cell hg2 hv2 0
  have hx3 : W.cell? ⟨3, 0, none⟩ = some (.iface 259 (.pointer (some a3))) := by simpa using World.var?_cell hg3 hv3 0
  have hx4 : W.cell? ⟨4, 0, none⟩ = some (.iface 259 (.pointer (some a4))) := by simpa using World.var?_cell hg4 hv4 0
  have hx5 : W.cell? ⟨5, 0, none⟩ = some (.iface 259 (.pointer (some a5))) := by simpa using World.var?_cell hg5 hv5 0
  have hx6 : W.cell? ⟨6, 0, none⟩ = some (.iface 259 (.pointer (some a6))) := by simpa using World.var?_cell hg6 hv6 0
  have n01 : a0 ≠ a1 := by rintro rfl; simp [MemPlace.row, List.nodup_append] at hnd
  have n02 : a0 ≠ a2 := by rintro rfl; simp [MemPlace.row, List.nodup_append] at hnd
  have n03 : a0 ≠ a3 := by rintro rfl; simp [MemPlace.row, List.nodup_append] at hnd
  have n04 : a0 ≠ a4 := by rintro rfl; simp [MemPlace.row, List.nodup_append] at hnd
  have n05 : a0 ≠ a5 := by rintro rfl; simp [MemPlace.row, List.nodup_append] at hnd
  have n06 : a0 ≠ a6 := by rintro rfl; simp [MemPlace.row, List.nodup_append] at hnd
  have n12 : a1 ≠ a2 := by rintro rfl; simp [MemPlace.row, List.nodup_append] at hnd
  have n13 : a1 ≠ a3 := by rintro rfl; simp [MemPlace.row, List.nodup_append] at hnd
  have n14 : a1 ≠ a4 := by rintro rfl; simp [MemPlace.row, List.nodup_append] at hnd
  have n15 : a1 ≠ a5 := by rintro rfl; simp [MemPlace.row, List.nodup_append] at hnd
  have n16 : a1 ≠ a6 := by rintro rfl; simp [MemPlace.row, List.nodup_append] at hnd
  have n23 : a2 ≠ a3 := by rintro rfl; simp [MemPlace.row, List.nodup_append] at hnd
  have n24 : a2 ≠ a4 := by rintro rfl; simp [MemPlace.row, List.nodup_append] at hnd
  have n25 : a2 ≠ a5 := by rintro rfl; simp [MemPlace.row, List.nodup_append] at hnd
  have n26 : a2 ≠ a6 := by rintro rfl; simp [MemPlace.row, List.nodup_append] at hnd
  have n34 : a3 ≠ a4 := by rintro rfl; simp [MemPlace.row, List.nodup_append] at hnd
  have n35 : a3 ≠ a5 := by rintro rfl; simp [MemPlace.row, List.nodup_append] at hnd
  have n36 : a3 ≠ a6 := by rintro rfl; simp [MemPlace.row, List.nodup_append] at hnd
  have n45 : a4 ≠ a5 := by rintro rfl; simp [MemPlace.row, List.nodup_append] at hnd
  have n46 : a4 ≠ a6 := by rintro rfl; simp [MemPlace.row, List.nodup_append] at hnd
  have n56 : a5 ≠ a6 := by rintro rfl; simp [MemPlace.row, List.nodup_append] at hnd
  clear hnd hrows
  refine ⟨fun | 0 => a0 | 1 => a1 | 2 => a2 | 3 => a3 | 4 => a4 | 5 => a5 | _ => a6, ?_, ?_, ?_, hty⟩
  · intro j hj
    match j, hj with
    | 0, _ => exact hx0
    | 1, _ => exact hx1
    | 2, _ => exact hx2
    | 3, _ => exact hx3
    | 4, _ => exact hx4
    | 5, _ => exact hx5
    | 6, _ => exact hx6
  · intro j hj
    match j, hj with
    | 0, _ => exact ⟨c0, t0, hb0⟩
    | 1, _ => exact ⟨c1, t1, hb1⟩
    | 2, _ => exact ⟨c2, t2, hb2⟩
    | 3, _ => exact ⟨c3, t3, hb3⟩
    | 4, _ => exact ⟨c4, t4, hb4⟩
    | 5, _ => exact ⟨c5, t5, hb5⟩
    | 6, _ => exact ⟨c6, t6, hb6⟩
  · intro i j hi hj hne
    match i, j, hi, hj, hne with
    | 0, 0, _, _, h => exact absurd rfl h
    | 0, 1, _, _, _ => exact n01
    | 0, 2, _, _, _ => exact n02
    | 0, 3, _, _, _ => exact n03
    | 0, 4, _, _, _ => exact n04
    | 0, 5, _, _, _ => exact n05
    | 0, 6, _, _, _ => exact n06
    | 1, 0, _, _, _ => exact n01.symm
    | 1, 1, _, _, h => exact absurd rfl h
    | 1, 2, _, _, _ => exact n12
    | 1, 3, _, _, _ => exact n13
    | 1, 4, _, _, _ => exact n14
    | 1, 5, _, _, _ => exact n15
    | 1, 6, _, _, _ => exact n16
    | 2, 0, _, _, _ => exact n02.symm
    | 2, 1, _, _, _ => exact n12.symm
    | 2, 2, _, _, h => exact absurd rfl h
    | 2, 3, _, _, _ => exact n23
    | 2, 4, _, _, _ => exact n24
    | 2, 5, _, _, _ => exact n25
    | 2, 6, _, _, _ => exact n26
    | 3, 0, _, _, _ => exact n03.symm
    | 3, 1, _, _, _ => exact n13.symm
    | 3, 2, _, _, _ => exact n23.symm
    | 3, 3, _, _, h => exact absurd rfl h
    | 3, 4, _, _, _ => exact n34
    | 3, 5, _, _, _ => exact n35
    | 3, 6, _, _, _ => exact n36
    | 4, 0, _, _, _ => exact n04.symm
    | 4, 1, _, _, _ => exact n14.symm
    | 4, 2, _, _, _ => exact n24.symm
    | 4, 3, _, _, _ => exact n34.symm
    | 4, 4, _, _, h => exact absurd rfl h
    | 4, 5, _, _, _ => exact n45
    | 4, 6, _, _, _ => exact n46
    | 5, 0, _, _, _ => exact n05.symm
    | 5, 1, _, _, _ => exact n15.symm
    | 5, 2, _, _, _ => exact n25.symm
    | 5, 3, _, _, _ => exact n35.symm
    | 5, 4, _, _, _ => exact n45.symm
    | 5, 5, _, _, h => exact absurd rfl h
    | 5, 6, _, _, _ => exact n56
    | 6, 0, _, _, _ => exact n06.symm
    | 6, 1, _, _, _ => exact n16.symm
    | 6, 2, _, _, _ => exact n26.symm
    | 6, 3, _, _, _ => exact n36.symm
    | 6, 4, _, _, _ => exact n46.symm
    | 6, 5, _, _, _ => exact n56.symm
    | 6, 6, _, _, h => exact absurd rfl h


/-- the cells of a table -/
def flatDBV : Nat → DataW Unit → List Value
  | 0, _ => []
  | n + 1, .lit (.int k z) => [.int k z]
  | n + 1, .agg l => l.flatMap (flatDBV n)
  | _, _ => []
/-- a world that meets the condition -/
def wrHeap (h : Array Obj) : Array Obj :=
  let put : Array Obj → Nat → Array Value → Array Obj := fun h k v => h.modify k fun
    | .cells _ t frozen => .cells v t frozen
    | o => o
  put (put (put (put (put (put (put (put (put (put (put h 0 #[.iface 259 (.pointer (some ⟨21, 0, none⟩))]) 1 #[.iface 259 (.pointer (some ⟨21 + 1, 0, none⟩))]) 2 #[.iface 259 (.pointer (some ⟨21 + 2, 0, none⟩))]) 3 #[.iface 259 (.pointer (some ⟨21 + 3, 0, none⟩))]) 4 #[.iface 259 (.pointer (some ⟨21 + 4, 0, none⟩))]) 5 #[.iface 259 (.pointer (some ⟨21 + 5, 0, none⟩))]) 6 #[.iface 259 (.pointer (some ⟨21 + 6, 0, none⟩))])
    7 #[.iface 156 (.agg #[.pointer (some ⟨16, 24, none⟩)])]) 12 (flatDBV 3 Rows.laid_math_bits_deBruijn32tab).toArray) 13 (flatDBV 3 Rows.laid_math_bits_deBruijn64tab).toArray) 11 (flatDBV 3 Rows.laid_internal_strconv_uint64pow10).toArray
def wrBlocks : Array Obj := #[.cells #[.string ⟨#[110, 111, 116, 32, 111, 102, 32, 116, 104, 101, 32, 102, 111, 114, 109, 32, 97, 115, 107, 101, 100]⟩] 261, .cells #[.string ⟨#[109, 111, 114, 101, 32, 116, 104, 97, 110, 32, 109, 97, 121, 32, 98, 101]⟩] 261, .cells #[.string ⟨#[97, 32, 114, 117, 108, 101, 32, 116, 104, 97, 116, 32, 99, 97, 110, 32, 110, 111, 116, 32, 115, 116, 97, 110, 100]⟩] 261, .cells #[.string ⟨#[97, 32, 110, 97, 109, 101, 32, 116, 104, 97, 116, 32, 105, 115, 32, 110, 111, 110, 101, 44, 32, 111, 114, 32, 105, 115, 32, 116, 104, 101, 114, 101, 32, 97, 108, 114, 101, 97, 100, 121]⟩] 261, .cells #[.string ⟨#[97, 32, 118, 97, 108, 117, 101, 32, 111, 102, 32, 97, 110, 111, 116, 104, 101, 114, 32, 116, 121, 112, 101]⟩] 261, .cells #[.string ⟨#[97, 110, 32, 97, 99, 116, 105, 111, 110, 32, 105, 115, 32, 110, 111, 116, 32, 100, 101, 99, 105, 100, 101, 100]⟩] 261, .cells #[.string ⟨#[110, 111, 32, 115, 101, 110, 116, 101, 110, 99, 101]⟩] 261]

theorem wr_met (os : Os) (args : Array Value) : laidMetH Tryz.prog Rows.patternWrittenUptoRow.laid (({ World.holding Tryz.prog os ⟨wrBlocks, #[], []⟩ with heap := wrHeap (World.holding Tryz.prog os ⟨wrBlocks, #[], []⟩).heap } : World).forCall (fun _ _ => 0) ⟨#[], args, []⟩).memory :=
  laidMetH_of_parts (LaidIn.of_run [12, 13, 11, 0, 21, 1, 21 + 1, 2, 21 + 2, 3, 21 + 3, 4, 21 + 4, 5, 21 + 5, 6, 21 + 6] 8 (by kernel_rfl) (by kernel_rfl) (by kernel_rfl) (by kernel_rfl)).met (by kernel_rfl)

theorem wr_row (os : Os) {H : Type} (enc : TypeId × Value → H) :
    (Rows.OpenSpec.upto Rows.patternWrittenSpec).preRow enc Tryz.prog Tryz.f4 Rows.patternWrittenUptoRow.domain false Rows.patternWrittenUptoRow.laid (({ World.holding Tryz.prog os ⟨wrBlocks, #[], []⟩ with heap := wrHeap (World.holding Tryz.prog os ⟨wrBlocks, #[], []⟩).heap } : World).forCall (fun _ _ => 0) ⟨#[], #[.slice none 0 0], []⟩).memory #[.slice none 0 0] := by
  have hw : (DataW.whole enc Tryz.prog (({ World.holding Tryz.prog os ⟨wrBlocks, #[], []⟩ with heap := wrHeap (World.holding Tryz.prog os ⟨wrBlocks, #[], []⟩).heap } : World).forCall (fun _ _ => 0) ⟨#[], #[.slice none 0 0], []⟩).memory Tryz.f4.params.toList (Rows.OpenSpec.upto Rows.patternWrittenSpec).vars false #[Value.slice none 0 0].toList 8).map (fun x => (x.1, x.2.1)) =
      some ([.nil], []) := by kernel_rfl
  obtain ⟨⟨x1, x2, x3⟩, hx, hx1⟩ := Option.map_eq_some_iff.1 hw
  simp only [Prod.mk.injEq] at hx1
  obtain ⟨rfl, rfl⟩ := hx1
  exact OpenSpec.preRow_of_cond 8 hx (by kernel_rfl) (fun k hk => by cases hk; kernel_rfl) (by kernel_rfl) (wr_met os _)

theorem cell_db64V {W : World} (hL0 : laidMetH Tryz.prog Rows.patternWrittenUptoRow.laid W) : W.cell? ⟨13, 15, none⟩ = some (.int .u8 4) := by
  have hL := (laidMetH_iff.1 hL0).1
  have h : Lib.VarReads Tryz.prog W "math/bits.deBruijn64tab" Rows.laid_math_bits_deBruijn64tab := Lib.laidMet.reads hL (by
    show _ ∈ [("math/bits.deBruijn32tab", Rows.laid_math_bits_deBruijn32tab), ("math/bits.deBruijn64tab", Rows.laid_math_bits_deBruijn64tab), ("internal/strconv.uint64pow10", Rows.laid_internal_strconv_uint64pow10), ("grammarsmith/api.ErrSyntax", Rows.laid_grammarsmith_api_ErrSyntax), ("grammarsmith/api.ErrBound", Rows.laid_grammarsmith_api_ErrBound), ("grammarsmith/api.ErrRule", Rows.laid_grammarsmith_api_ErrRule), ("grammarsmith/api.ErrName", Rows.laid_grammarsmith_api_ErrName), ("grammarsmith/api.ErrType", Rows.laid_grammarsmith_api_ErrType), ("grammarsmith/api.ErrConflict", Rows.laid_grammarsmith_api_ErrConflict), ("grammarsmith/api.ErrEnd", Rows.laid_grammarsmith_api_ErrEnd)]
    exact .tail _ (.head _))
  have e : Rows.laid_math_bits_deBruijn64tab (H := Unit) = Lib.tabData .u8 [0, 1, 56, 2, 57, 49, 28, 3, 61, 58, 42, 50, 38, 29, 17, 4, 62, 47, 59, 36, 45, 43, 51, 22, 53, 39, 33, 30, 24, 18, 12, 5, 63, 55, 48, 27, 60, 41, 37, 16, 46, 35, 44, 21, 52, 32, 23, 11, 54, 26, 40, 15, 34, 20, 31, 10, 25, 14, 19, 9, 13, 8, 7, 6] := by kernel_rfl
  rw [e] at h
  obtain ⟨g, t, cs, fuel, p, hg, hty, hvar, hd⟩ := h
  obtain rfl := Option.some.inj ((show Tryz.prog.globalNamed "math/bits.deBruijn64tab" = some 13 by kernel_rfl).symm.trans hg)
  obtain rfl := Option.some.inj ((show (Tryz.prog.globals[13]?).map (·.type) = some 232 by kernel_rfl).symm.trans hty)
  have hcs := Lib.cells_of_tab Tryz.underlying232 Tryz.underlying5 (by kernel_rfl) (by kernel_rfl) hd
  have := World.var?_cell hg hvar 15
  rw [this, ← Array.getElem?_toList, hcs]
  rfl

set_option maxHeartbeats 2000000 in
theorem wr_lifted (os : Os) (started : os.Started) (H : Type) (enc : TypeId × Value → H) (F : Stop.Interp) :
    ReturnsInHanded {} Tryz.checked os 4 .any ((Rows.OpenSpec.upto Rows.patternWrittenSpec).preRow enc Tryz.prog Tryz.f4 Rows.patternWrittenUptoRow.domain false Rows.patternWrittenUptoRow.laid) (((Rows.OpenSpec.upto Rows.patternWrittenSpec).at F).post enc Tryz.prog Tryz.f4 false true false false) := by
  refine returnsInHanded_of_row (C := Tryz.checked) (s := Rows.OpenSpec.upto Rows.patternWrittenSpec) wr_own started (by kernel_rfl) Tryz.func4
    (witness_row_atRef (enc := enc) (C := Tryz.checked) false ({ World.holding Tryz.prog os ⟨wrBlocks, #[], []⟩ with heap := wrHeap (World.holding Tryz.prog os ⟨wrBlocks, #[], []⟩).heap } : World) #[.slice none 0 0] rfl (by kernel_rfl) (by kernel_rfl) (by kernel_rfl) (wr_row os enc)) ?_
  intro W base args ds gs before hval0 hW hcnd0 hcond _ hL hS _
  have hval : ∀ (j : Nat) t v, Tryz.f4.params[j]? = some t → args[j]? = some v → Value.okWide Tryz.prog W .any base t v := hval0
  have hW' := hW
  obtain ⟨p, q, hA0, hV0, rfl, _, _⟩ := hW
  have hA : DataW.TrodAll enc Tryz.prog W 0 (fun _ => true) true Tryz.f4.params.toList args.toList ds p := hA0
  rw [Tryz.params4] at hA hval
  obtain ⟨v0, vs0, d0, ds0, p0, q0, hargs, rfl, rfl, h0, r0⟩ := trodAll_cons hA
  obtain ⟨rfl, rfl, rfl⟩ := trodAll_nil r0
  obtain rfl : args = #[v0] := by cases args; simp_all
  obtain ⟨rfl, rfl⟩ := trodVars_none hV0
  obtain ⟨a0, n0, c0, rfl⟩ := okWide_slice Tryz.underlying32 (hval 0 32 v0 rfl rfl)
  have k0 := h0
  have lt0 : ∀ x ∈ p0, x.block < W.heap.size := by obtain ⟨m, hm⟩ := k0; exact DataW.trod_lt m _ _ _ hm
  have hbulk : Rows.uptoBulk d0 ≤ 1048576 := by
    have h := of_decide_eq_true (hcond _ rfl)
    simp only [List.append_nil, Rows.uptoBulkAll] at h
    omega
  obtain ⟨ps, hPs, hsz⟩ : ∃ ps : List PartP, PartsR W (.slice a0 n0 c0) ps ∧ ∀ p ∈ ps, p.set.length ≤ 1048576 ∧ p.kids.length ≤ 1048576 := by
    obtain ⟨fuel, hf⟩ := h0
    exact parts_of_oneV (x := (d0, p0)) (by simpa [Value.cells] using hf) hbulk
  clear hA0 hV0 hval0 h0
  obtain ⟨a, hE⟩ := errs_of_laidV hL
  have hdb := cell_db64V hL
  have h16 : 16 ≤ W.heap.size := by
    obtain ⟨cs, hh, _⟩ := hS.1 15 #[.nilIface] 24 (by decide) (by kernel_rfl)
    exact (Array.getElem?_eq_some_iff.1 hh).1
  have HL : LawW W W a := ⟨⟨⟨_, _, hE.cell 0 (by omega)⟩, ⟨_, _, hE.cell 1 (by omega)⟩⟩, ⟨h16, fun _ _ => rfl⟩, hE, hdb, h16⟩
  refine (law_written HL hPs hsz).mono fun e W' ⟨he, bel⟩ => ?_
  subst he
  exact ⟨_, rfl, _, _, _, [], _, [], hW', trodAll_mk1 (shut_bool Tryz.underlying4 _), (trodAll_cons_mk (Below.trod wr_laidOut (by kernel_rfl) (of_decide_eq_true (by kernel_rfl)) k0 bel lt0) trodAll_mk0), rfl, bel.frame _, fun h => by cases h⟩

theorem wr_row_holds : Rows.PatternWrittenUptoSaid :=
  OpenClaim.holds_of_cond 4 Tryz.f4 rfl rfl rfl rfl rfl rfl rfl ⟨rfl, rfl, rfl, rfl, rfl⟩ rfl rfl rfl rfl rfl (by kernel_rfl) Tryz.func4 (by kernel_rfl)
    (of_decide_eq_true (by kernel_rfl)) (by unfold Func.isWrapper; rw [if_neg (of_decide_eq_false (by kernel_rfl))]; exact ⟨rfl, rfl⟩)
    (fun os started H enc _ F0 => by rw [OpenClaim.pre_eq_preRow]; exact wr_lifted os started H enc F0)

theorem wr_card_holds : Rows.PatternWrittenUptoCardSaid :=
  Claim7.holds_tied_plain_at .later [] _ _ _ _
    wr_row_holds (fun _ h => by cases h) (by kernel_rfl) (fun _ h => by cases h) patternWrittenUpto_row_tie rfl ⟨rfl, rfl⟩ (by kernel_rfl) rfl
    (fun f fn hf hfn => by
      obtain rfl : f = 4 := Option.some.inj ((show Tryz.prog.funcNamed "grammarsmith/grammarsmithlaw1.PatternWritten" = some 4 by kernel_rfl).symm.trans hf) |>.symm
      obtain rfl : fn = Tryz.f4 := (Option.some.inj (Tryz.func4.symm.trans hfn)).symm
      exact ⟨by kernel_rfl, fun j t ht => by
        rw [Tryz.params4] at ht
        have h9 : t = 32 := by
          rcases j with _ | j
          · simpa using ht.symm
          · simp at ht
        subst h9
        exact (show Tryz.prog.wantsStandIn 32 = false by kernel_rfl)⟩)
    (by kernel_rfl)

end Go.Proofs.YtbjohedenfindaaGreatDoor
