/- The type of any text's expression beside arguments of some types, or the error: the law ActionTyped returns true for every text and every list of numbers: what the program's reader and checker say is what the document's say. Nothing narrows it but that the package's tables and errors are as the program's text lays them (the card ties that, to the pruned copy that the seat names); of texts above 3,000 bytes, of more than 20 arguments, and of texts that are no valid expression it says nothing of the program. -/
import Derived.Test.YtgmmfpdekefamaaGreatDoorRows
import Derived.Test.YtgmmfpdekefamaaGreatDoorTie
import Derived.Test.YtgmmfpdekefamaaGreatDoorCards
import Derived.Test.YtgmmfpdekefamaaGreatDoorAt46
import Derived.Deep.DeepHandedRow
import Derived.Deep.DeepWitnessRowRef
import Derived.Deep.SlicePairs
import Derived.Lib.LaidIn
import Derived.Lib.LaidU8
import Derived.Lib.LaidU8T
import Derived.Shelf.Vars
import Derived.ProofKit
import Derived.SizedLaws
import Derived.LaidLaws
import Derived.LaidHandle
import Derived.LaidSub
import Derived.Stop.Joined
import Derived.SevenTiedAt
import Derived.OpenShut
import Derived.ChangeSame
import Derived.Below
namespace Go.Proofs.YtgmmfpdekefamaaGreatDoor
open Go.ChangeShapes Go.WideShapes Go.ChangeAt Go.RowKit
set_option linter.unusedVariables false
set_option maxRecDepth 100000

theorem aty_own : ownKnob Tryz.prog.godebug = none := by kernel_rfl
theorem aty_laidOut : laidOutB Tryz.prog = true := by kernel_rfl

/-! ## the argument -/
theorem cell_blkT {w : World} {b o : Nat} {v : Value} (h : w.cell? ⟨b, o, none⟩ = some v) : b < w.heap.size := by
 rcases Nat.lt_or_ge b w.heap.size with h' | h'
 ·exact h'
 ·simp [World.cell?, Array.getElem?_eq_none h'] at h
theorem addr_addT (b off j : Nat) : (⟨b, off, none⟩ : Addr).add j = ⟨b, off + j, none⟩ := by
 unfold Addr.add
 split <;> simp_all
theorem rng_of_wf {n : Int} (h : (Lit.int .i64 n).wf = true) : -9223372036854775808 ≤ n ∧ n ≤ 9223372036854775807 := by
 simp [Lit.wf, IntKind.min, IntKind.max, IntKind.signed, IntKind.bits] at h
 omega
/-- no weight of a datum is more than a reading may hold -/
def Light {H : Type} (t : TypeId) (d : DataW H) : Prop := ∀ n ∈ d.weights Tryz.prog t, n ≤ reachBytes
theorem ints_of_oneT {H : Type} {enc : TypeId × Value → H} {W : World} {fuel : Nat} {v : Value} {x : DataW H × List MemPlace}
  (hf : DataW.trod enc Tryz.prog W 0 (fun _ => true) true fuel 37 [v] = some x) : ∃ l : List Int, IntsR W v l ∧ (∀ z ∈ l, -9223372036854775808 ≤ z ∧ z ≤ 9223372036854775807) ∧ (Light 37 x.1 → l.length * 8 ≤ 140737488351232) := by
 have hc1 : Tryz.prog.cellsOf 3 = 1 := by kernel_rfl
 have hby : Tryz.prog.bytesOf 3 = 8 := by kernel_rfl
 rcases Deep.open_slice Tryz.underlying37 hf with ⟨hcs, _⟩ | ⟨a, len, cap, m, n, D, Pl, hcs, _, hl, _, hmm, rfl, hx⟩
 ·simp at hcs
  subst hcs
  exact ⟨[], ⟨none, 0, rfl, by simp, .inl rfl⟩, fun z hz => by simp at hz, fun _ => by simp⟩
 ·simp at hcs
  subst hcs
  have hmn : len ≤ m := by rw [hmm]; simpa using hl
  have each : ∀ i, ∃ q : Int, i < len → W.cell? (a.add i) = some (.int .i64 q) ∧ (-9223372036854775808 ≤ q ∧ q ≤ 9223372036854775807) := fun i => by
   by_cases hi : i < len
   ·obtain ⟨cs', h1, h2⟩ := hx i (by omega)
    rw [hc1] at h1
    obtain ⟨_, hlen, hcell⟩ := World.cells?_some h1
    obtain ⟨z, e, _, hz⟩ := DataW.trod_int Tryz.underlying3 h2
    subst e
    have d0 := hcell 0 (by omega)
    rw [Deep.add_add] at d0
    exact ⟨z, fun _ => ⟨by simpa using d0, rng_of_wf hz⟩⟩
   ·exact ⟨0, fun h => absurd h hi⟩
  obtain ⟨F, hF⟩ := Classical.axiomOfChoice each
  refine ⟨(List.range len).map F, ⟨some a, cap, by simp, by simpa using hl, ?_⟩, ?_, ?_⟩
  ·by_cases hn : len = 0
   ·subst hn
    exact .inl rfl
   ·obtain ⟨b, off, spot⟩ := a
    have h0 := (hF 0 (by omega)).1
    have hspot : spot = none := by simpa [Addr.add] using World.cell?_spot h0
    subst hspot
    refine .inr ⟨b, off, rfl, ?_, fun j hj => ?_⟩
    ·rw [addr_addT] at h0
     exact cell_blkT h0
    ·have hj' : j < len := by simpa using hj
     have g0 : ((List.range len).map F).getD j 0 = F j := by simp [hj']
     rw [g0, ← addr_addT]
     exact (hF j hj').1
  ·intro z hz
   obtain ⟨i, hi, rfl⟩ := List.mem_map.1 hz
   exact (hF i (List.mem_range.1 hi)).2
  ·intro hL
   have := hL (((List.range len).map D).length + ((List.range (m - len)).map fun j => D (len + j)).length |> (· * Tryz.prog.bytesOf 3)) (by simp [DataW.weights, Tryz.underlying37])
   rw [hby] at this
   simp at this ⊢
   unfold reachBytes at this
   omega


/-! ## the errors -/
theorem Tryz.w_et : Tryz.prog.globalNamed "errors.errorType" = some 7 := by kernel_rfl
theorem Tryz.w_rt : (Tryz.prog.cutTypes.find? (·.1 == "internal/reflectlite.rtype")).map (·.2) = some 234 := by kernel_rfl
theorem Tryz.w_oneRow : ((List.range 331).filter fun t => Tryz.prog.rowNamed t [101, 114, 114, 111, 114]) = [28] := by kernel_rfl
theorem Tryz.w_size : Tryz.prog.types.size = 331 := by kernel_rfl
theorem Tryz.w_cellsErr : Tryz.prog.cellsOf 296 = 1 := by kernel_rfl
theorem Tryz.w_cellsStr : Tryz.prog.cellsOf 9 = 1 := by kernel_rfl
theorem Tryz.w_star : "*" ++ "errors.errorString" = "*errors.errorString" := by decide
theorem Tryz.w_rowErr (u : TypeId) (h : Tryz.prog.typeName? 3 u = some "*errors.errorString") : u = 294 :=
 typeName_ptr_named (nm := "errors.errorString") (by rw [Tryz.w_star]; kernel_rfl) (by kernel_rfl) (by decide) u (by rw [Tryz.w_star]; exact h)
theorem Tryz.w_g0 : Tryz.prog.globalNamed "grammarsmith/api.ErrSyntax" = some 0 := by kernel_rfl
theorem Tryz.w_gt0 : (Tryz.prog.globals[0]?).map (·.type) = some 28 := by kernel_rfl
theorem Tryz.w_g1 : Tryz.prog.globalNamed "grammarsmith/api.ErrBound" = some 1 := by kernel_rfl
theorem Tryz.w_gt1 : (Tryz.prog.globals[1]?).map (·.type) = some 28 := by kernel_rfl
theorem Tryz.w_g2 : Tryz.prog.globalNamed "grammarsmith/api.ErrRule" = some 2 := by kernel_rfl
theorem Tryz.w_gt2 : (Tryz.prog.globals[2]?).map (·.type) = some 28 := by kernel_rfl
theorem Tryz.w_g3 : Tryz.prog.globalNamed "grammarsmith/api.ErrName" = some 3 := by kernel_rfl
theorem Tryz.w_gt3 : (Tryz.prog.globals[3]?).map (·.type) = some 28 := by kernel_rfl
theorem Tryz.w_g4 : Tryz.prog.globalNamed "grammarsmith/api.ErrType" = some 4 := by kernel_rfl
theorem Tryz.w_gt4 : (Tryz.prog.globals[4]?).map (·.type) = some 28 := by kernel_rfl
theorem Tryz.w_g5 : Tryz.prog.globalNamed "grammarsmith/api.ErrConflict" = some 5 := by kernel_rfl
theorem Tryz.w_gt5 : (Tryz.prog.globals[5]?).map (·.type) = some 28 := by kernel_rfl
theorem Tryz.w_g6 : Tryz.prog.globalNamed "grammarsmith/api.ErrEnd" = some 6 := by kernel_rfl
theorem Tryz.w_gt6 : (Tryz.prog.globals[6]?).map (·.type) = some 28 := by kernel_rfl

theorem handle_of_laidA {W : World} (h : laidMetH Tryz.prog Rows.actionTypedRow.laid W) : W.cell? ⟨7, 0, none⟩ = some (.iface 234 (.agg #[.pointer (some ⟨16, 28, none⟩)])) := by
 have h' : laidMet Tryz.prog (Rows.actionTypedRow.laid.filter fun x => x.2.handleName?.isNone) W ∧ handlesMet Tryz.prog [("errors.errorType", Rows.laid_errors_errorType)] W := h
 obtain ⟨name, u, ty, e1, e2, e3, e4, e5⟩ := h'.2 _ (List.mem_singleton.2 rfl)
 have en : name = [101, 114, 114, 111, 114] := (Option.some.inj e1).symm
 subst en
 obtain rfl := Option.some.inj (Tryz.w_rt.symm.trans e2)
 have hm : ty ∈ (List.range 331).filter fun t => Tryz.prog.rowNamed t [101, 114, 114, 111, 114] := List.mem_filter.2 ⟨List.mem_range.2 (by rw [← Tryz.w_size]; exact e3), e4⟩
 rw [Tryz.w_oneRow] at hm
 obtain rfl := List.mem_singleton.1 hm
 have hh : typeHandle Tryz.prog 28 = .pointer (some ⟨16, 28, none⟩) := by kernel_rfl
 rw [hh] at e5
 simpa using World.var?_cell Tryz.w_et e5 0

set_option maxHeartbeats 4000000 in
theorem errs_of_laidA {W : World} (h : laidMetH Tryz.prog Rows.actionTypedRow.laid W) : ∃ a, Errs W a := by
 have hty := handle_of_laidA h
 have h' : laidMet Tryz.prog [("unicode/utf8.acceptRanges", Rows.laid_unicode_utf8_acceptRanges), ("grammarsmith/api.ErrSyntax", Rows.laid_grammarsmith_api_ErrSyntax), ("grammarsmith/api.ErrBound", Rows.laid_grammarsmith_api_ErrBound), ("grammarsmith/api.ErrRule", Rows.laid_grammarsmith_api_ErrRule), ("grammarsmith/api.ErrName", Rows.laid_grammarsmith_api_ErrName), ("grammarsmith/api.ErrType", Rows.laid_grammarsmith_api_ErrType), ("grammarsmith/api.ErrConflict", Rows.laid_grammarsmith_api_ErrConflict), ("grammarsmith/api.ErrEnd", Rows.laid_grammarsmith_api_ErrEnd), ("unicode/utf8.first", Rows.laid_unicode_utf8_first)] W ∧ handlesMet Tryz.prog [("errors.errorType", Rows.laid_errors_errorType)] W := h
 obtain ⟨ps, ⟨gA, tA, csA, fA, pA, qA, hgA, htA, hvA, hdA, ⟨g0, t0, cs0, f0, p0, q0, hg0, ht0, hv0, hd0, ⟨g1, t1, cs1, f1, p1, q1, hg1, ht1, hv1, hd1, ⟨g2, t2, cs2, f2, p2, q2, hg2, ht2, hv2, hd2, ⟨g3, t3, cs3, f3, p3, q3, hg3, ht3, hv3, hd3, ⟨g4, t4, cs4, f4, p4, q4, hg4, ht4, hv4, hd4, ⟨g5, t5, cs5, f5, p5, q5, hg5, ht5, hv5, hd5, ⟨g6, t6, cs6, f6, p6, q6, hg6, ht6, hv6, hd6, ⟨gF, tF, csF, fF, pF, qF, hgF, htF, hvF, hdF, hq, eF⟩, e6⟩, e5⟩, e4⟩, e3⟩, e2⟩, e1⟩, e0⟩, eA⟩, hnd, hrows⟩ := h'.1
 obtain rfl := Option.some.inj (Tryz.w_g0.symm.trans hg0)
 obtain rfl := Option.some.inj (Tryz.w_gt0.symm.trans ht0)
 obtain rfl := Option.some.inj (Tryz.w_g1.symm.trans hg1)
 obtain rfl := Option.some.inj (Tryz.w_gt1.symm.trans ht1)
 obtain rfl := Option.some.inj (Tryz.w_g2.symm.trans hg2)
 obtain rfl := Option.some.inj (Tryz.w_gt2.symm.trans ht2)
 obtain rfl := Option.some.inj (Tryz.w_g3.symm.trans hg3)
 obtain rfl := Option.some.inj (Tryz.w_gt3.symm.trans ht3)
 obtain rfl := Option.some.inj (Tryz.w_g4.symm.trans hg4)
 obtain rfl := Option.some.inj (Tryz.w_gt4.symm.trans ht4)
 obtain rfl := Option.some.inj (Tryz.w_g5.symm.trans hg5)
 obtain rfl := Option.some.inj (Tryz.w_gt5.symm.trans ht5)
 obtain rfl := Option.some.inj (Tryz.w_g6.symm.trans hg6)
 obtain rfl := Option.some.inj (Tryz.w_gt6.symm.trans ht6)
 have hq' : qF = [] := hq
 subst hq'
 subst eF
 subst e6
 subst e5
 subst e4
 subst e3
 subst e2
 subst e1
 subst e0
 subst eA
 obtain ⟨l0⟩ := cs0
 obtain ⟨l1⟩ := cs1
 obtain ⟨l2⟩ := cs2
 obtain ⟨l3⟩ := cs3
 obtain ⟨l4⟩ := cs4
 obtain ⟨l5⟩ := cs5
 obtain ⟨l6⟩ := cs6
 have ok0 : ∀ u v, l0 = [.iface u v] → Value.okWide Tryz.prog W .any 0 u v := fun u v e => by
  subst e
  exact (hrows 0 0 (by simp [MemPlace.row])).2 u v (by simpa using World.var?_cell hg0 hv0 0)
 have ok1 : ∀ u v, l1 = [.iface u v] → Value.okWide Tryz.prog W .any 0 u v := fun u v e => by
  subst e
  exact (hrows 1 0 (by simp [MemPlace.row])).2 u v (by simpa using World.var?_cell hg1 hv1 0)
 have ok2 : ∀ u v, l2 = [.iface u v] → Value.okWide Tryz.prog W .any 0 u v := fun u v e => by
  subst e
  exact (hrows 2 0 (by simp [MemPlace.row])).2 u v (by simpa using World.var?_cell hg2 hv2 0)
 have ok3 : ∀ u v, l3 = [.iface u v] → Value.okWide Tryz.prog W .any 0 u v := fun u v e => by
  subst e
  exact (hrows 3 0 (by simp [MemPlace.row])).2 u v (by simpa using World.var?_cell hg3 hv3 0)
 have ok4 : ∀ u v, l4 = [.iface u v] → Value.okWide Tryz.prog W .any 0 u v := fun u v e => by
  subst e
  exact (hrows 4 0 (by simp [MemPlace.row])).2 u v (by simpa using World.var?_cell hg4 hv4 0)
 have ok5 : ∀ u v, l5 = [.iface u v] → Value.okWide Tryz.prog W .any 0 u v := fun u v e => by
  subst e
  exact (hrows 5 0 (by simp [MemPlace.row])).2 u v (by simpa using World.var?_cell hg5 hv5 0)
 have ok6 : ∀ u v, l6 = [.iface u v] → Value.okWide Tryz.prog W .any 0 u v := fun u v e => by
  subst e
  exact (hrows 6 0 (by simp [MemPlace.row])).2 u v (by simpa using World.var?_cell hg6 hv6 0)
 obtain ⟨a0, s0, rfl, hc0, hs0, hz0, rfl⟩ := errorString_of_trod Tryz.underlying28 Tryz.w_rowErr Tryz.underlying294 Tryz.underlying296 rfl rfl Tryz.underlying9 Tryz.w_cellsErr Tryz.w_cellsStr hd0 ok0
 obtain ⟨a1, s1, rfl, hc1, hs1, hz1, rfl⟩ := errorString_of_trod Tryz.underlying28 Tryz.w_rowErr Tryz.underlying294 Tryz.underlying296 rfl rfl Tryz.underlying9 Tryz.w_cellsErr Tryz.w_cellsStr hd1 ok1
 obtain ⟨a2, s2, rfl, hc2, hs2, hz2, rfl⟩ := errorString_of_trod Tryz.underlying28 Tryz.w_rowErr Tryz.underlying294 Tryz.underlying296 rfl rfl Tryz.underlying9 Tryz.w_cellsErr Tryz.w_cellsStr hd2 ok2
 obtain ⟨a3, s3, rfl, hc3, hs3, hz3, rfl⟩ := errorString_of_trod Tryz.underlying28 Tryz.w_rowErr Tryz.underlying294 Tryz.underlying296 rfl rfl Tryz.underlying9 Tryz.w_cellsErr Tryz.w_cellsStr hd3 ok3
 obtain ⟨a4, s4, rfl, hc4, hs4, hz4, rfl⟩ := errorString_of_trod Tryz.underlying28 Tryz.w_rowErr Tryz.underlying294 Tryz.underlying296 rfl rfl Tryz.underlying9 Tryz.w_cellsErr Tryz.w_cellsStr hd4 ok4
 obtain ⟨a5, s5, rfl, hc5, hs5, hz5, rfl⟩ := errorString_of_trod Tryz.underlying28 Tryz.w_rowErr Tryz.underlying294 Tryz.underlying296 rfl rfl Tryz.underlying9 Tryz.w_cellsErr Tryz.w_cellsStr hd5 ok5
 obtain ⟨a6, s6, rfl, hc6, hs6, hz6, rfl⟩ := errorString_of_trod Tryz.underlying28 Tryz.w_rowErr Tryz.underlying294 Tryz.underlying296 rfl rfl Tryz.underlying9 Tryz.w_cellsErr Tryz.w_cellsStr hd6 ok6
 obtain ⟨c0, t0, hb0⟩ := (hrows a0.block a0.off (by simp [MemPlace.row])).1
 obtain ⟨c1, t1, hb1⟩ := (hrows a1.block a1.off (by simp [MemPlace.row])).1
 obtain ⟨c2, t2, hb2⟩ := (hrows a2.block a2.off (by simp [MemPlace.row])).1
 obtain ⟨c3, t3, hb3⟩ := (hrows a3.block a3.off (by simp [MemPlace.row])).1
 obtain ⟨c4, t4, hb4⟩ := (hrows a4.block a4.off (by simp [MemPlace.row])).1
 obtain ⟨c5, t5, hb5⟩ := (hrows a5.block a5.off (by simp [MemPlace.row])).1
 obtain ⟨c6, t6, hb6⟩ := (hrows a6.block a6.off (by simp [MemPlace.row])).1
 have hx0 : W.cell? ⟨0, 0, none⟩ = some (.iface 294 (.pointer (some a0))) := by simpa using World.var?_cell hg0 hv0 0
 have hx1 : W.cell? ⟨1, 0, none⟩ = some (.iface 294 (.pointer (some a1))) := by simpa using World.var?_cell hg1 hv1 0
 have hx2 : W.cell? ⟨2, 0, none⟩ = some (.iface 294 (.pointer (some a2))) := by simpa using World.var?_cell hg2 hv2 0
 have hx3 : W.cell? ⟨3, 0, none⟩ = some (.iface 294 (.pointer (some a3))) := by simpa using World.var?_cell hg3 hv3 0
 have hx4 : W.cell? ⟨4, 0, none⟩ = some (.iface 294 (.pointer (some a4))) := by simpa using World.var?_cell hg4 hv4 0
 have hx5 : W.cell? ⟨5, 0, none⟩ = some (.iface 294 (.pointer (some a5))) := by simpa using World.var?_cell hg5 hv5 0
 have hx6 : W.cell? ⟨6, 0, none⟩ = some (.iface 294 (.pointer (some a6))) := by simpa using World.var?_cell hg6 hv6 0
 have n01 : a0 ≠ a1 := by rintro rfl; simp [MemPlace.row, List.nodup_append] at hnd
 have n02 : a0 ≠ a2 := by rintro rfl; simp [MemPlace.row, List.nodup_append] at hnd
 have n03 : a0 ≠ a3 := by rintro rfl; simp [MemPlace.row, List.nodup_append] at hnd
 have n04 : a0 ≠ a4 := by rintro rfl; simp [MemPlace.row, List.nodup_append] at hnd
 have n05 : a0 ≠ a5 := by rintro rfl; simp [MemPlace.row, List.nodup_append] at hnd
 have n06 : a0 ≠ a6 := by rintro rfl; simp [MemPlace.row, List.nodup_append] at hnd
 have n12 : a1 ≠ a2 := by rintro rfl; simp [MemPlace.row, List.nodup_append] at hnd
 have n13 : a1 ≠ a3 := by rintro rfl; simp [MemPlace.row, List.nodup_append] at hnd
 have n14 : a1 ≠ a4 := by rintro rfl; simp [MemPlace.row, List.nodup_append] at hnd
 have n15 : a1 ≠ a5 := by rintro rfl; simp [MemPlace.row, List.nodup_append] at hnd
 have n16 : a1 ≠ a6 := by rintro rfl; simp [MemPlace.row, List.nodup_append] at hnd
 have n23 : a2 ≠ a3 := by rintro rfl; simp [MemPlace.row, List.nodup_append] at hnd
 have n24 : a2 ≠ a4 := by rintro rfl; simp [MemPlace.row, List.nodup_append] at hnd
 have n25 : a2 ≠ a5 := by rintro rfl; simp [MemPlace.row, List.nodup_append] at hnd
 have n26 : a2 ≠ a6 := by rintro rfl; simp [MemPlace.row, List.nodup_append] at hnd
 have n34 : a3 ≠ a4 := by rintro rfl; simp [MemPlace.row, List.nodup_append] at hnd
 have n35 : a3 ≠ a5 := by rintro rfl; simp [MemPlace.row, List.nodup_append] at hnd
 have n36 : a3 ≠ a6 := by rintro rfl; simp [MemPlace.row, List.nodup_append] at hnd
 have n45 : a4 ≠ a5 := by rintro rfl; simp [MemPlace.row, List.nodup_append] at hnd
 have n46 : a4 ≠ a6 := by rintro rfl; simp [MemPlace.row, List.nodup_append] at hnd
 have n56 : a5 ≠ a6 := by rintro rfl; simp [MemPlace.row, List.nodup_append] at hnd
 clear hnd hrows
 refine ⟨fun | 0 => a0 | 1 => a1 | 2 => a2 | 3 => a3 | 4 => a4 | 5 => a5 | _ => a6, ?_, ?_, ?_, hty⟩
 ·intro j hj
  match j, hj with
  | 0, _ => exact hx0
  | 1, _ => exact hx1
  | 2, _ => exact hx2
  | 3, _ => exact hx3
  | 4, _ => exact hx4
  | 5, _ => exact hx5
  | 6, _ => exact hx6
 ·intro j hj
  match j, hj with
  | 0, _ => exact ⟨c0, t0, hb0⟩
  | 1, _ => exact ⟨c1, t1, hb1⟩
  | 2, _ => exact ⟨c2, t2, hb2⟩
  | 3, _ => exact ⟨c3, t3, hb3⟩
  | 4, _ => exact ⟨c4, t4, hb4⟩
  | 5, _ => exact ⟨c5, t5, hb5⟩
  | 6, _ => exact ⟨c6, t6, hb6⟩
 ·intro i j hi hj hne
  match i, j, hi, hj, hne with
  | 0, 0, _, _, h => exact absurd rfl h
  | 0, 1, _, _, _ => exact n01
  | 0, 2, _, _, _ => exact n02
  | 0, 3, _, _, _ => exact n03
  | 0, 4, _, _, _ => exact n04
  | 0, 5, _, _, _ => exact n05
  | 0, 6, _, _, _ => exact n06
  | 1, 0, _, _, _ => exact n01.symm
  | 1, 1, _, _, h => exact absurd rfl h
  | 1, 2, _, _, _ => exact n12
  | 1, 3, _, _, _ => exact n13
  | 1, 4, _, _, _ => exact n14
  | 1, 5, _, _, _ => exact n15
  | 1, 6, _, _, _ => exact n16
  | 2, 0, _, _, _ => exact n02.symm
  | 2, 1, _, _, _ => exact n12.symm
  | 2, 2, _, _, h => exact absurd rfl h
  | 2, 3, _, _, _ => exact n23
  | 2, 4, _, _, _ => exact n24
  | 2, 5, _, _, _ => exact n25
  | 2, 6, _, _, _ => exact n26
  | 3, 0, _, _, _ => exact n03.symm
  | 3, 1, _, _, _ => exact n13.symm
  | 3, 2, _, _, _ => exact n23.symm
  | 3, 3, _, _, h => exact absurd rfl h
  | 3, 4, _, _, _ => exact n34
  | 3, 5, _, _, _ => exact n35
  | 3, 6, _, _, _ => exact n36
  | 4, 0, _, _, _ => exact n04.symm
  | 4, 1, _, _, _ => exact n14.symm
  | 4, 2, _, _, _ => exact n24.symm
  | 4, 3, _, _, _ => exact n34.symm
  | 4, 4, _, _, h => exact absurd rfl h
  | 4, 5, _, _, _ => exact n45
  | 4, 6, _, _, _ => exact n46
  | 5, 0, _, _, _ => exact n05.symm
  | 5, 1, _, _, _ => exact n15.symm
  | 5, 2, _, _, _ => exact n25.symm
  | 5, 3, _, _, _ => exact n35.symm
  | 5, 4, _, _, _ => exact n45.symm
  | 5, 5, _, _, h => exact absurd rfl h
  | 5, 6, _, _, _ => exact n56
  | 6, 0, _, _, _ => exact n06.symm
  | 6, 1, _, _, _ => exact n16.symm
  | 6, 2, _, _, _ => exact n26.symm
  | 6, 3, _, _, _ => exact n36.symm
  | 6, 4, _, _, _ => exact n46.symm
  | 6, 5, _, _, _ => exact n56.symm
  | 6, 6, _, _, h => exact absurd rfl h


/-- the cells of a table -/
def flatA : Nat → DataW Unit → List Value
 | 0, _ => []
 | n + 1, .lit (.int k z) => [.int k z]
 | n + 1, .agg l => l.flatMap (flatA n)
 | _, _ => []
/-- a world that meets the condition -/
def atyHeap (h : Array Obj) : Array Obj :=
 let put : Array Obj → Nat → Array Value → Array Obj := fun h k v => h.modify k fun
  | .cells _ t frozen => .cells v t frozen
  | o => o
 put (put (put (put (put (put (put (put (put (put h 0 #[.iface 294 (.pointer (some ⟨21, 0, none⟩))]) 1 #[.iface 294 (.pointer (some ⟨21 + 1, 0, none⟩))]) 2 #[.iface 294 (.pointer (some ⟨21 + 2, 0, none⟩))]) 3 #[.iface 294 (.pointer (some ⟨21 + 3, 0, none⟩))]) 4 #[.iface 294 (.pointer (some ⟨21 + 4, 0, none⟩))]) 5 #[.iface 294 (.pointer (some ⟨21 + 5, 0, none⟩))]) 6 #[.iface 294 (.pointer (some ⟨21 + 6, 0, none⟩))])
  7 #[.iface 234 (.agg #[.pointer (some ⟨16, 28, none⟩)])]) 9 (flatA 3 Rows.laid_unicode_utf8_acceptRanges).toArray) 8 (flatA 3 Rows.laid_unicode_utf8_first).toArray
def atyBlocks : Array Obj := #[.cells #[.string ⟨#[110, 111, 116, 32, 111, 102, 32, 116, 104, 101, 32, 102, 111, 114, 109, 32, 97, 115, 107, 101, 100]⟩] 296, .cells #[.string ⟨#[109, 111, 114, 101, 32, 116, 104, 97, 110, 32, 109, 97, 121, 32, 98, 101]⟩] 296, .cells #[.string ⟨#[97, 32, 114, 117, 108, 101, 32, 116, 104, 97, 116, 32, 99, 97, 110, 32, 110, 111, 116, 32, 115, 116, 97, 110, 100]⟩] 296, .cells #[.string ⟨#[97, 32, 110, 97, 109, 101, 32, 116, 104, 97, 116, 32, 105, 115, 32, 110, 111, 110, 101, 44, 32, 111, 114, 32, 105, 115, 32, 116, 104, 101, 114, 101, 32, 97, 108, 114, 101, 97, 100, 121]⟩] 296, .cells #[.string ⟨#[97, 32, 118, 97, 108, 117, 101, 32, 111, 102, 32, 97, 110, 111, 116, 104, 101, 114, 32, 116, 121, 112, 101]⟩] 296, .cells #[.string ⟨#[97, 110, 32, 97, 99, 116, 105, 111, 110, 32, 105, 115, 32, 110, 111, 116, 32, 100, 101, 99, 105, 100, 101, 100]⟩] 296, .cells #[.string ⟨#[110, 111, 32, 115, 101, 110, 116, 101, 110, 99, 101]⟩] 296]

theorem aty_met (os : Os) (args : Array Value) : laidMetH Tryz.prog Rows.actionTypedRow.laid (({ World.holding Tryz.prog os ⟨atyBlocks, #[], []⟩ with heap := atyHeap (World.holding Tryz.prog os ⟨atyBlocks, #[], []⟩).heap } : World).forCall (fun _ _ => 0) ⟨#[], args, []⟩).memory :=
 laidMetH_of_parts (LaidIn.of_run [9, 0, 21, 1, 21 + 1, 2, 21 + 2, 3, 21 + 3, 4, 21 + 4, 5, 21 + 5, 6, 21 + 6, 8] 8 (by kernel_rfl) (by kernel_rfl) (by kernel_rfl) (by kernel_rfl)).met (by kernel_rfl)

theorem aty_row (os : Os) {H : Type} (enc : TypeId × Value → H) :
  (OpenSpec.ofChange Rows.actionTypedSpec).preRow enc Tryz.prog Tryz.f4 Rows.actionTypedRow.domain false Rows.actionTypedRow.laid (({ World.holding Tryz.prog os ⟨atyBlocks, #[], []⟩ with heap := atyHeap (World.holding Tryz.prog os ⟨atyBlocks, #[], []⟩).heap } : World).forCall (fun _ _ => 0) ⟨#[], #[.string ⟨#[]⟩, .slice none 0 0], []⟩).memory #[.string ⟨#[]⟩, .slice none 0 0] := by
 have hw : (DataW.whole enc Tryz.prog (({ World.holding Tryz.prog os ⟨atyBlocks, #[], []⟩ with heap := atyHeap (World.holding Tryz.prog os ⟨atyBlocks, #[], []⟩).heap } : World).forCall (fun _ _ => 0) ⟨#[], #[.string ⟨#[]⟩, .slice none 0 0], []⟩).memory Tryz.f4.params.toList (OpenSpec.ofChange Rows.actionTypedSpec).vars false #[Value.string ⟨#[]⟩, Value.slice none 0 0].toList 8).map (fun x => (x.1, x.2.1)) =
   some ([.lit (.string []), .nil], []) := by kernel_rfl
 obtain ⟨⟨x1, x2, x3⟩, hx, hx1⟩ := Option.map_eq_some_iff.1 hw
 simp only [Prod.mk.injEq] at hx1
 obtain ⟨rfl, rfl⟩ := hx1
 exact OpenSpec.preRow_of_cond 8 hx (by kernel_rfl) (fun k hk => by cases hk) (by kernel_rfl) (aty_met os _)

theorem reads_of_laid {W : World} (hL0 : laidMetH Tryz.prog Rows.actionTypedRow.laid W) : laidMet Tryz.prog [("unicode/utf8.acceptRanges", Rows.laid_unicode_utf8_acceptRanges), ("grammarsmith/api.ErrSyntax", Rows.laid_grammarsmith_api_ErrSyntax), ("grammarsmith/api.ErrBound", Rows.laid_grammarsmith_api_ErrBound), ("grammarsmith/api.ErrRule", Rows.laid_grammarsmith_api_ErrRule), ("grammarsmith/api.ErrName", Rows.laid_grammarsmith_api_ErrName), ("grammarsmith/api.ErrType", Rows.laid_grammarsmith_api_ErrType), ("grammarsmith/api.ErrConflict", Rows.laid_grammarsmith_api_ErrConflict), ("grammarsmith/api.ErrEnd", Rows.laid_grammarsmith_api_ErrEnd), ("unicode/utf8.first", Rows.laid_unicode_utf8_first)] W := (laidMetH_iff.1 hL0).1
theorem utf_of_laid {W : World} (hL : laidMet Tryz.prog [("unicode/utf8.acceptRanges", Rows.laid_unicode_utf8_acceptRanges), ("grammarsmith/api.ErrSyntax", Rows.laid_grammarsmith_api_ErrSyntax), ("grammarsmith/api.ErrBound", Rows.laid_grammarsmith_api_ErrBound), ("grammarsmith/api.ErrRule", Rows.laid_grammarsmith_api_ErrRule), ("grammarsmith/api.ErrName", Rows.laid_grammarsmith_api_ErrName), ("grammarsmith/api.ErrType", Rows.laid_grammarsmith_api_ErrType), ("grammarsmith/api.ErrConflict", Rows.laid_grammarsmith_api_ErrConflict), ("grammarsmith/api.ErrEnd", Rows.laid_grammarsmith_api_ErrEnd), ("unicode/utf8.first", Rows.laid_unicode_utf8_first)] W) : Lib.Utf8Tabs (Tryz.laysValid_ren.g 3) (Tryz.laysValid_ren.g 4) W := by
 have h3 : Lib.VarReads Tryz.prog W "unicode/utf8.first" Rows.laid_unicode_utf8_first := Lib.laidMet.reads hL (.tail _ (.tail _ (.tail _ (.tail _ (.tail _ (.tail _ (.tail _ (.tail _ (.head _)))))))))
 have h4 : Lib.VarReads Tryz.prog W "unicode/utf8.acceptRanges" Rows.laid_unicode_utf8_acceptRanges := Lib.laidMet.reads hL (.head _)
 have e3 : Rows.laid_unicode_utf8_first = Lib.firstData := by kernel_rfl
 have e4 : Rows.laid_unicode_utf8_acceptRanges = Lib.acceptData := by kernel_rfl
 rw [e3] at h3
 rw [e4] at h4
 exact utf8Tabs_of_readsT (ρ := Tryz.laysValid_ren) (U8Types.of196 Tryz.laysValid) ⟨by kernel_rfl, by kernel_rfl, by kernel_rfl, by kernel_rfl, by kernel_rfl, by kernel_rfl, by kernel_rfl⟩ h3 h4
theorem utfd_of_laid {W : World} (hL : laidMet Tryz.prog [("unicode/utf8.acceptRanges", Rows.laid_unicode_utf8_acceptRanges), ("grammarsmith/api.ErrSyntax", Rows.laid_grammarsmith_api_ErrSyntax), ("grammarsmith/api.ErrBound", Rows.laid_grammarsmith_api_ErrBound), ("grammarsmith/api.ErrRule", Rows.laid_grammarsmith_api_ErrRule), ("grammarsmith/api.ErrName", Rows.laid_grammarsmith_api_ErrName), ("grammarsmith/api.ErrType", Rows.laid_grammarsmith_api_ErrType), ("grammarsmith/api.ErrConflict", Rows.laid_grammarsmith_api_ErrConflict), ("grammarsmith/api.ErrEnd", Rows.laid_grammarsmith_api_ErrEnd), ("unicode/utf8.first", Rows.laid_unicode_utf8_first)] W) : Lib.Utf8Tabs (Tryz.laysDec_ren.g 3) (Tryz.laysDec_ren.g 4) W := by
 have h3 : Lib.VarReads Tryz.prog W "unicode/utf8.first" Rows.laid_unicode_utf8_first := Lib.laidMet.reads hL (.tail _ (.tail _ (.tail _ (.tail _ (.tail _ (.tail _ (.tail _ (.tail _ (.head _)))))))))
 have h4 : Lib.VarReads Tryz.prog W "unicode/utf8.acceptRanges" Rows.laid_unicode_utf8_acceptRanges := Lib.laidMet.reads hL (.head _)
 have e3 : Rows.laid_unicode_utf8_first = Lib.firstData := by kernel_rfl
 have e4 : Rows.laid_unicode_utf8_acceptRanges = Lib.acceptData := by kernel_rfl
 rw [e3] at h3
 rw [e4] at h4
 exact utf8Tabs_of_readsT (ρ := Tryz.laysDec_ren) { Tryz.laysDec with } ⟨by kernel_rfl, by kernel_rfl, by kernel_rfl, by kernel_rfl, by kernel_rfl, by kernel_rfl, by kernel_rfl⟩ h3 h4
theorem vd_of_utf {w : World} (h : Lib.Utf8Tabs (Tryz.laysValid_ren.g 3) (Tryz.laysValid_ren.g 4) w) : VdC w := fun w1 hb text hs => by
 have := Any.utf8_ValidString Tryz.laysValid text w1 (by omega) (Utf8Tabs_below h hb)
 refine Calls.mono this ?_
 rintro e w' ⟨h1, h2⟩
 exact ⟨by rw [h1, whole_validD], h2⟩
theorem big_of_shape {W : World} (hS : W.ShapedOpen Tryz.prog) : 16 ≤ W.heap.size := by
 have h0 : (((begin Tryz.prog (fun _ _ => 0) default).world.heap[15]?).bind Obj.row?).isSome = true := by kernel_rfl
 obtain ⟨⟨z, t⟩, h1⟩ := Option.isSome_iff_exists.1 h0
 obtain ⟨cs, hh, _⟩ := hS.1 15 z t (of_decide_eq_true (by kernel_rfl)) h1
 exact (Array.getElem?_eq_some_iff.1 hh).1

set_option maxHeartbeats 2000000 in
theorem aty_lifted (os : Os) (started : os.Started) (H : Type) (enc : TypeId × Value → H) (F : Stop.Interp) :
  ReturnsInHanded {} Tryz.checked os 4 .any ((OpenSpec.ofChange Rows.actionTypedSpec).preRow enc Tryz.prog Tryz.f4 Rows.actionTypedRow.domain false Rows.actionTypedRow.laid) (((OpenSpec.ofChange Rows.actionTypedSpec).at F).post enc Tryz.prog Tryz.f4 false true false false) := by
 refine returnsInHanded_of_row (C := Tryz.checked) (s := OpenSpec.ofChange Rows.actionTypedSpec) aty_own started (by kernel_rfl) Tryz.func4
  (witness_row_atRef (enc := enc) (C := Tryz.checked) false ({ World.holding Tryz.prog os ⟨atyBlocks, #[], []⟩ with heap := atyHeap (World.holding Tryz.prog os ⟨atyBlocks, #[], []⟩).heap } : World) #[.string ⟨#[]⟩, .slice none 0 0] rfl (by kernel_rfl) (by kernel_rfl) (by kernel_rfl) (aty_row os enc)) ?_
 intro W base args ds gs before hval0 hW hcnd0 _ hz hL hS _
 have hval : ∀ (j : Nat) t v, Tryz.f4.params[j]? = some t → args[j]? = some v → Value.okWide Tryz.prog W .any base t v := hval0
 have hW' := hW
 obtain ⟨p, q, hA0, hV0, rfl, _, _⟩ := hW
 have hA : DataW.TrodAll enc Tryz.prog W 0 (fun _ => true) true Tryz.f4.params.toList args.toList ds p := hA0
 rw [Tryz.params4] at hA hval
 obtain ⟨v0, vs0, d0, ds0, p0, q0, hargs, rfl, rfl, h0, r0⟩ := trodAll_cons hA
 obtain ⟨v1, vs1, d1, ds1, p1, q1, rfl, rfl, rfl, h1, r1⟩ := trodAll_cons r0
 obtain ⟨rfl, rfl, rfl⟩ := trodAll_nil r1
 obtain rfl : args = #[v0, v1] := by cases args; simp_all
 obtain ⟨rfl, rfl⟩ := trodVars_none hV0
 obtain ⟨s0, rfl, rfl, rfl, w0⟩ := Go.ChangeMaps.open_string Tryz.underlying9 (hval 0 9 v0 rfl rfl) h0
 obtain ⟨a1, n1, c1, rfl⟩ := okWide_slice Tryz.underlying37 (hval 1 37 v1 rfl rfl)
 have k1 := h1
 have lt1 : ∀ x ∈ p1, x.block < W.heap.size := by obtain ⟨m, hm⟩ := k1; exact DataW.trod_lt m _ _ _ hm
 obtain ⟨inp, hIn, _⟩ : ∃ l : List Int, IntsR W (.slice a1 n1 c1) l ∧ (∀ z ∈ l, -9223372036854775808 ≤ z ∧ z ≤ 9223372036854775807) ∧ (Light 37 d1 → l.length * 8 ≤ 140737488351232) := by
  obtain ⟨fuel, hf⟩ := h1
  exact ints_of_oneT (x := (d1, p1)) (by simpa [Value.cells] using hf)
 clear hA0 hV0 hval0 h1
 obtain ⟨a, hE⟩ := errs_of_laidA hL
 have HL : LawT W a := ⟨vd_of_utf (utf_of_laid (reads_of_laid hL)), hE, big_of_shape hS⟩
 refine (law_typed HL (utfd_of_laid (reads_of_laid hL)) (s := s0) hIn).mono fun e W' ⟨he, bel⟩ => ?_
 subst he
 exact ⟨_, rfl, _, _, _, [], _, [], hW', trodAll_mk1 (shut_bool Tryz.underlying4 _), (trodAll_cons_mk (Go.ChangeMaps.shut_string Tryz.underlying9 w0) (trodAll_cons_mk (Below.trod aty_laidOut (by kernel_rfl) (of_decide_eq_true (by kernel_rfl)) k1 bel lt1) trodAll_mk0)), rfl, bel.frame _, fun h => by cases h⟩

theorem aty_row_holds : Rows.ActionTypedSaid :=
 OpenClaim.holds_of_cond 4 Tryz.f4 rfl rfl rfl rfl rfl rfl rfl ⟨rfl, rfl, rfl, rfl, rfl⟩ rfl rfl rfl rfl rfl (by kernel_rfl) Tryz.func4 (by kernel_rfl)
  (of_decide_eq_true (by kernel_rfl)) (by unfold Func.isWrapper; rw [if_neg (of_decide_eq_false (by kernel_rfl))]; exact ⟨rfl, rfl⟩)
  (fun os started H enc _ F0 => by rw [OpenClaim.pre_eq_preRow]; exact aty_lifted os started H enc F0)

theorem aty_card_holds : Rows.ActionTypedCardSaid :=
 Claim7.holds_tied_plain_at .later [] _ _ _ _
  aty_row_holds (fun _ h => by cases h) (by kernel_rfl) (fun _ h => by cases h) actionTyped_row_tie rfl ⟨rfl, rfl⟩ (by kernel_rfl) rfl
  (fun f fn hf hfn => by
   obtain rfl : f = 4 := Option.some.inj ((show Tryz.prog.funcNamed "grammarsmith/grammarsmithlaw3.ActionTyped" = some 4 by kernel_rfl).symm.trans hf) |>.symm
   obtain rfl : fn = Tryz.f4 := (Option.some.inj (Tryz.func4.symm.trans hfn)).symm
   exact ⟨by kernel_rfl, fun j t ht => by
    rw [Tryz.params4] at ht
    have h9 : t = 9 ∨ t = 37 := by
     rcases j with _ | _ | j
     ·exact .inl (by simpa using ht.symm)
     ·exact .inr (by simpa using ht.symm)
     ·simp at ht
    rcases h9 with rfl | rfl
    ·exact (show Tryz.prog.wantsStandIn 9 = false by kernel_rfl)
    ·exact (show Tryz.prog.wantsStandIn 37 = false by kernel_rfl)⟩)
  (by kernel_rfl)

end Go.Proofs.YtgmmfpdekefamaaGreatDoor
