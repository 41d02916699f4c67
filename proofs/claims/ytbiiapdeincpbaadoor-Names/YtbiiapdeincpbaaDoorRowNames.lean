/- Each constant and each error of package api has the number that the document gives it: the law Names returns true. The row lists the seven errors and the package errors' own variable as the program's text lays them; the card ties them to it. -/
import Derived.Test.YtbiiapdeincpbaaDoorRows
import Derived.Test.YtbiiapdeincpbaaDoorTie
import Derived.Test.YtbiiapdeincpbaaDoorCards
import Derived.Test.YtbiiapdeincpbaaDoorLawNames
import Derived.ChangeSame
import Derived.ChangeVars
import Derived.JoinedOf
import Derived.RowKit
import Derived.RowKitTokens
import Derived.LaidLaws
import Derived.LaidHandle
import Derived.Stop.Joined
import Derived.Below
import Derived.SevenTiedAt
namespace Go.Proofs.YtbiiapdeincpbaaDoor
open Go.ChangeShapes Go.WideShapes Go.RowKit
set_option linter.unusedVariables false
set_option maxRecDepth 100000

theorem Tryd.own : ownKnob Tryd.prog.godebug = none := by kernel_rfl
theorem Tryd.et : Tryd.prog.globalNamed "errors.errorType" = some 7 := by kernel_rfl
theorem Tryd.rt : (Tryd.prog.cutTypes.find? (·.1 == "internal/reflectlite.rtype")).map (·.2) = some 49 := by kernel_rfl
theorem Tryd.oneRow : ((List.range 97).filter fun t => Tryd.prog.rowNamed t [101, 114, 114, 111, 114]) = [23] := by kernel_rfl
theorem Tryd.size : Tryd.prog.types.size = 97 := by kernel_rfl
theorem Tryd.cellsErr : Tryd.prog.cellsOf 85 = 1 := by kernel_rfl
theorem Tryd.cellsStr : Tryd.prog.cellsOf 9 = 1 := by kernel_rfl
theorem Tryd.star : "*" ++ "errors.errorString" = "*errors.errorString" := by decide
theorem Tryd.rowErr (u : TypeId) (h : Tryd.prog.typeName? 3 u = some "*errors.errorString") : u = 63 :=
  typeName_ptr_named (nm := "errors.errorString") (by rw [Tryd.star]; kernel_rfl) (by kernel_rfl) (by decide) u (by rw [Tryd.star]; exact h)
theorem Tryd.g0 : Tryd.prog.globalNamed "grammarsmith/api.ErrSyntax" = some 0 := by kernel_rfl
theorem Tryd.gt0 : (Tryd.prog.globals[0]?).map (·.type) = some 23 := by kernel_rfl
theorem Tryd.g1 : Tryd.prog.globalNamed "grammarsmith/api.ErrBound" = some 1 := by kernel_rfl
theorem Tryd.gt1 : (Tryd.prog.globals[1]?).map (·.type) = some 23 := by kernel_rfl
theorem Tryd.g2 : Tryd.prog.globalNamed "grammarsmith/api.ErrRule" = some 2 := by kernel_rfl
theorem Tryd.gt2 : (Tryd.prog.globals[2]?).map (·.type) = some 23 := by kernel_rfl
theorem Tryd.g3 : Tryd.prog.globalNamed "grammarsmith/api.ErrName" = some 3 := by kernel_rfl
theorem Tryd.gt3 : (Tryd.prog.globals[3]?).map (·.type) = some 23 := by kernel_rfl
theorem Tryd.g4 : Tryd.prog.globalNamed "grammarsmith/api.ErrType" = some 4 := by kernel_rfl
theorem Tryd.gt4 : (Tryd.prog.globals[4]?).map (·.type) = some 23 := by kernel_rfl
theorem Tryd.g5 : Tryd.prog.globalNamed "grammarsmith/api.ErrConflict" = some 5 := by kernel_rfl
theorem Tryd.gt5 : (Tryd.prog.globals[5]?).map (·.type) = some 23 := by kernel_rfl
theorem Tryd.g6 : Tryd.prog.globalNamed "grammarsmith/api.ErrEnd" = some 6 := by kernel_rfl
theorem Tryd.gt6 : (Tryd.prog.globals[6]?).map (·.type) = some 23 := by kernel_rfl

theorem handle_of_laid {W : World} (h : laidMetH Tryd.prog Rows.namesRow.laid W) : W.cell? ⟨7, 0, none⟩ = some (.iface 49 (.agg #[.pointer (some ⟨8, 23, none⟩)])) := by
  have h' : laidMet Tryd.prog (Rows.namesRow.laid.filter fun x => x.2.handleName?.isNone) W ∧ handlesMet Tryd.prog [("errors.errorType", Rows.laid_errors_errorType)] W := h
  obtain ⟨name, u, ty, e1, e2, e3, e4, e5⟩ := h'.2 _ (List.mem_singleton.2 rfl)
  have en : name = [101, 114, 114, 111, 114] := (Option.some.inj e1).symm
  subst en
  obtain rfl := Option.some.inj (Tryd.rt.symm.trans e2)
  have hm : ty ∈ (List.range 97).filter fun t => Tryd.prog.rowNamed t [101, 114, 114, 111, 114] := List.mem_filter.2 ⟨List.mem_range.2 (by rw [← Tryd.size]; exact e3), e4⟩
  rw [Tryd.oneRow] at hm
  obtain rfl := List.mem_singleton.1 hm
  have hh : typeHandle Tryd.prog 23 = .pointer (some ⟨8, 23, none⟩) := by kernel_rfl
  rw [hh] at e5
  simpa using World.var?_cell Tryd.et e5 0

theorem errs_of_laid {W : World} (h : laidMetH Tryd.prog Rows.namesRow.laid W) : ∃ a, Errs W a := by
  have hty := handle_of_laid h
  have h' : laidMet Tryd.prog [("grammarsmith/api.ErrSyntax", Rows.laid_grammarsmith_api_ErrSyntax), ("grammarsmith/api.ErrBound", Rows.laid_grammarsmith_api_ErrBound), ("grammarsmith/api.ErrRule", Rows.laid_grammarsmith_api_ErrRule), ("grammarsmith/api.ErrName", Rows.laid_grammarsmith_api_ErrName), ("grammarsmith/api.ErrType", Rows.laid_grammarsmith_api_ErrType), ("grammarsmith/api.ErrConflict", Rows.laid_grammarsmith_api_ErrConflict), ("grammarsmith/api.ErrEnd", Rows.laid_grammarsmith_api_ErrEnd)] W ∧ handlesMet Tryd.prog [("errors.errorType", Rows.laid_errors_errorType)] W := h
  obtain ⟨ps, ⟨g0, t0, cs0, f0, p0, q0, hg0, ht0, hv0, hd0, ⟨g1, t1, cs1, f1, p1, q1, hg1, ht1, hv1, hd1, ⟨g2, t2, cs2, f2, p2, q2, hg2, ht2, hv2, hd2, ⟨g3, t3, cs3, f3, p3, q3, hg3, ht3, hv3, hd3, ⟨g4, t4, cs4, f4, p4, q4, hg4, ht4, hv4, hd4, ⟨g5, t5, cs5, f5, p5, q5, hg5, ht5, hv5, hd5, ⟨g6, t6, cs6, f6, p6, q6, hg6, ht6, hv6, hd6, hq, e6⟩, e5⟩, e4⟩, e3⟩, e2⟩, e1⟩, e0⟩, hnd, hrows⟩ := h'.1
  obtain rfl := Option.some.inj (Tryd.g0.symm.trans hg0)
  obtain rfl := Option.some.inj (Tryd.gt0.symm.trans ht0)
  obtain rfl := Option.some.inj (Tryd.g1.symm.trans hg1)
  obtain rfl := Option.some.inj (Tryd.gt1.symm.trans ht1)
  obtain rfl := Option.some.inj (Tryd.g2.symm.trans hg2)
  obtain rfl := Option.some.inj (Tryd.gt2.symm.trans ht2)
  obtain rfl := Option.some.inj (Tryd.g3.symm.trans hg3)
  obtain rfl := Option.some.inj (Tryd.gt3.symm.trans ht3)
  obtain rfl := Option.some.inj (Tryd.g4.symm.trans hg4)
  obtain rfl := Option.some.inj (Tryd.gt4.symm.trans ht4)
  obtain rfl := Option.some.inj (Tryd.g5.symm.trans hg5)
  obtain rfl := Option.some.inj (Tryd.gt5.symm.trans ht5)
  obtain rfl := Option.some.inj (Tryd.g6.symm.trans hg6)
  obtain rfl := Option.some.inj (Tryd.gt6.symm.trans ht6)
  have hq' : q6 = [] := hq
  subst hq'
  subst e6
  subst e5
  subst e4
  subst e3
  subst e2
  subst e1
  subst e0
  obtain ⟨l0⟩ := cs0
  obtain ⟨l1⟩ := cs1
  obtain ⟨l2⟩ := cs2
  obtain ⟨l3⟩ := cs3
  obtain ⟨l4⟩ := cs4
  obtain ⟨l5⟩ := cs5
  obtain ⟨l6⟩ := cs6
  have ok0 : ∀ u v, l0 = [.iface u v] → Value.okWide Tryd.prog W .any 0 u v := fun u v e => by
    subst e
    exact (hrows 0 0 (by simp [MemPlace.row])).2 u v (by simpa using World.var?_cell hg0 hv0 0)
  have ok1 : ∀ u v, l1 = [.iface u v] → Value.okWide Tryd.prog W .any 0 u v := fun u v e => by
    subst e
    exact (hrows 1 0 (by simp [MemPlace.row])).2 u v (by simpa using World.var?_cell hg1 hv1 0)
  have ok2 : ∀ u v, l2 = [.iface u v] → Value.okWide Tryd.prog W .any 0 u v := fun u v e => by
    subst e
    exact (hrows 2 0 (by simp [MemPlace.row])).2 u v (by simpa using World.var?_cell hg2 hv2 0)
  have ok3 : ∀ u v, l3 = [.iface u v] → Value.okWide Tryd.prog W .any 0 u v := fun u v e => by
    subst e
    exact (hrows 3 0 (by simp [MemPlace.row])).2 u v (by simpa using World.var?_cell hg3 hv3 0)
  have ok4 : ∀ u v, l4 = [.iface u v] → Value.okWide Tryd.prog W .any 0 u v := fun u v e => by
    subst e
    exact (hrows 4 0 (by simp [MemPlace.row])).2 u v (by simpa using World.var?_cell hg4 hv4 0)
  have ok5 : ∀ u v, l5 = [.iface u v] → Value.okWide Tryd.prog W .any 0 u v := fun u v e => by
    subst e
    exact (hrows 5 0 (by simp [MemPlace.row])).2 u v (by simpa using World.var?_cell hg5 hv5 0)
  have ok6 : ∀ u v, l6 = [.iface u v] → Value.okWide Tryd.prog W .any 0 u v := fun u v e => by
    subst e
    exact (hrows 6 0 (by simp [MemPlace.row])).2 u v (by simpa using World.var?_cell hg6 hv6 0)
  obtain ⟨a0, s0, rfl, hc0, hs0, hz0, rfl⟩ := errorString_of_trod Tryd.underlying23 Tryd.rowErr Tryd.underlying63 Tryd.underlying85 rfl rfl Tryd.underlying9 Tryd.cellsErr Tryd.cellsStr hd0 ok0
  obtain ⟨a1, s1, rfl, hc1, hs1, hz1, rfl⟩ := errorString_of_trod Tryd.underlying23 Tryd.rowErr Tryd.underlying63 Tryd.underlying85 rfl rfl Tryd.underlying9 Tryd.cellsErr Tryd.cellsStr hd1 ok1
  obtain ⟨a2, s2, rfl, hc2, hs2, hz2, rfl⟩ := errorString_of_trod Tryd.underlying23 Tryd.rowErr Tryd.underlying63 Tryd.underlying85 rfl rfl Tryd.underlying9 Tryd.cellsErr Tryd.cellsStr hd2 ok2
  obtain ⟨a3, s3, rfl, hc3, hs3, hz3, rfl⟩ := errorString_of_trod Tryd.underlying23 Tryd.rowErr Tryd.underlying63 Tryd.underlying85 rfl rfl Tryd.underlying9 Tryd.cellsErr Tryd.cellsStr hd3 ok3
  obtain ⟨a4, s4, rfl, hc4, hs4, hz4, rfl⟩ := errorString_of_trod Tryd.underlying23 Tryd.rowErr Tryd.underlying63 Tryd.underlying85 rfl rfl Tryd.underlying9 Tryd.cellsErr Tryd.cellsStr hd4 ok4
  obtain ⟨a5, s5, rfl, hc5, hs5, hz5, rfl⟩ := errorString_of_trod Tryd.underlying23 Tryd.rowErr Tryd.underlying63 Tryd.underlying85 rfl rfl Tryd.underlying9 Tryd.cellsErr Tryd.cellsStr hd5 ok5
  obtain ⟨a6, s6, rfl, hc6, hs6, hz6, rfl⟩ := errorString_of_trod Tryd.underlying23 Tryd.rowErr Tryd.underlying63 Tryd.underlying85 rfl rfl Tryd.underlying9 Tryd.cellsErr Tryd.cellsStr hd6 ok6
  obtain ⟨c0, t0, hb0⟩ := (hrows a0.block a0.off (by simp [MemPlace.row])).1
  obtain ⟨c1, t1, hb1⟩ := (hrows a1.block a1.off (by simp [MemPlace.row])).1
  obtain ⟨c2, t2, hb2⟩ := (hrows a2.block a2.off (by simp [MemPlace.row])).1
  obtain ⟨c3, t3, hb3⟩ := (hrows a3.block a3.off (by simp [MemPlace.row])).1
  obtain ⟨c4, t4, hb4⟩ := (hrows a4.block a4.off (by simp [MemPlace.row])).1
  obtain ⟨c5, t5, hb5⟩ := (hrows a5.block a5.off (by simp [MemPlace.row])).1
  obtain ⟨c6, t6, hb6⟩ := (hrows a6.block a6.off (by simp [MemPlace.row])).1
  have hx0 : W.cell? ⟨0, 0, none⟩ = some (.iface 63 (.pointer (some a0))) := by simpa using World.var?_cell hg0 hv0 0
  have hx1 : W.cell? ⟨1, 0, none⟩ = some (.iface 63 (.pointer (some a1))) := by simpa using World.var?_cell hg1 hv1 0
  have hx2 : W.cell? ⟨2, 0, none⟩ = some (.iface 63 (.pointer (some a2))) := by simpa using World.var?_cell hg2 hv2 0
  have hx3 : W.cell? ⟨3, 0, none⟩ = some (.iface 63 (.pointer (some a3))) := by simpa using World.var?_cell hg3 hv3 0
  have hx4 : W.cell? ⟨4, 0, none⟩ = some (.iface 63 (.pointer (some a4))) := by simpa using World.var?_cell hg4 hv4 0
  have hx5 : W.cell? ⟨5, 0, none⟩ = some (.iface 63 (.pointer (some a5))) := by simpa using World.var?_cell hg5 hv5 0
  have hx6 : W.cell? ⟨6, 0, none⟩ = some (.iface 63 (.pointer (some a6))) := by simpa using World.var?_cell hg6 hv6 0
  have n01 : a0 ≠ a1 := by rintro rfl; simp [MemPlace.row] at hnd
  have n02 : a0 ≠ a2 := by rintro rfl; simp [MemPlace.row] at hnd
  have n03 : a0 ≠ a3 := by rintro rfl; simp [MemPlace.row] at hnd
  have n04 : a0 ≠ a4 := by rintro rfl; simp [MemPlace.row] at hnd
  have n05 : a0 ≠ a5 := by rintro rfl; simp [MemPlace.row] at hnd
  have n06 : a0 ≠ a6 := by rintro rfl; simp [MemPlace.row] at hnd
  have n12 : a1 ≠ a2 := by rintro rfl; simp [MemPlace.row] at hnd
  have n13 : a1 ≠ a3 := by rintro rfl; simp [MemPlace.row] at hnd
  have n14 : a1 ≠ a4 := by rintro rfl; simp [MemPlace.row] at hnd
  have n15 : a1 ≠ a5 := by rintro rfl; simp [MemPlace.row] at hnd
  have n16 : a1 ≠ a6 := by rintro rfl; simp [MemPlace.row] at hnd
  have n23 : a2 ≠ a3 := by rintro rfl; simp [MemPlace.row] at hnd
  have n24 : a2 ≠ a4 := by rintro rfl; simp [MemPlace.row] at hnd
  have n25 : a2 ≠ a5 := by rintro rfl; simp [MemPlace.row] at hnd
  have n26 : a2 ≠ a6 := by rintro rfl; simp [MemPlace.row] at hnd
  have n34 : a3 ≠ a4 := by rintro rfl; simp [MemPlace.row] at hnd
  have n35 : a3 ≠ a5 := by rintro rfl; simp [MemPlace.row] at hnd
  have n36 : a3 ≠ a6 := by rintro rfl; simp [MemPlace.row] at hnd
  have n45 : a4 ≠ a5 := by rintro rfl; simp [MemPlace.row] at hnd
  have n46 : a4 ≠ a6 := by rintro rfl; simp [MemPlace.row] at hnd
  have n56 : a5 ≠ a6 := by rintro rfl; simp [MemPlace.row] at hnd
  clear hnd hrows
  refine ⟨fun | 0 => a0 | 1 => a1 | 2 => a2 | 3 => a3 | 4 => a4 | 5 => a5 | _ => a6, ?_, ?_, ?_, hty⟩
  · intro j hj
    match j, hj with
    | 0, _ => exact hx0
    | 1, _ => exact hx1
    | 2, _ => exact hx2
    | 3, _ => exact hx3
    | 4, _ => exact hx4
    | 5, _ => exact hx5
    | 6, _ => exact hx6
  · intro j hj
    match j, hj with
    | 0, _ => exact ⟨c0, t0, hb0⟩
    | 1, _ => exact ⟨c1, t1, hb1⟩
    | 2, _ => exact ⟨c2, t2, hb2⟩
    | 3, _ => exact ⟨c3, t3, hb3⟩
    | 4, _ => exact ⟨c4, t4, hb4⟩
    | 5, _ => exact ⟨c5, t5, hb5⟩
    | 6, _ => exact ⟨c6, t6, hb6⟩
  · intro i j hi hj hne
    match i, j, hi, hj, hne with
    | 0, 0, _, _, h => exact absurd rfl h
    | 0, 1, _, _, _ => exact n01
    | 0, 2, _, _, _ => exact n02
    | 0, 3, _, _, _ => exact n03
    | 0, 4, _, _, _ => exact n04
    | 0, 5, _, _, _ => exact n05
    | 0, 6, _, _, _ => exact n06
    | 1, 0, _, _, _ => exact n01.symm
    | 1, 1, _, _, h => exact absurd rfl h
    | 1, 2, _, _, _ => exact n12
    | 1, 3, _, _, _ => exact n13
    | 1, 4, _, _, _ => exact n14
    | 1, 5, _, _, _ => exact n15
    | 1, 6, _, _, _ => exact n16
    | 2, 0, _, _, _ => exact n02.symm
    | 2, 1, _, _, _ => exact n12.symm
    | 2, 2, _, _, h => exact absurd rfl h
    | 2, 3, _, _, _ => exact n23
    | 2, 4, _, _, _ => exact n24
    | 2, 5, _, _, _ => exact n25
    | 2, 6, _, _, _ => exact n26
    | 3, 0, _, _, _ => exact n03.symm
    | 3, 1, _, _, _ => exact n13.symm
    | 3, 2, _, _, _ => exact n23.symm
    | 3, 3, _, _, h => exact absurd rfl h
    | 3, 4, _, _, _ => exact n34
    | 3, 5, _, _, _ => exact n35
    | 3, 6, _, _, _ => exact n36
    | 4, 0, _, _, _ => exact n04.symm
    | 4, 1, _, _, _ => exact n14.symm
    | 4, 2, _, _, _ => exact n24.symm
    | 4, 3, _, _, _ => exact n34.symm
    | 4, 4, _, _, h => exact absurd rfl h
    | 4, 5, _, _, _ => exact n45
    | 4, 6, _, _, _ => exact n46
    | 5, 0, _, _, _ => exact n05.symm
    | 5, 1, _, _, _ => exact n15.symm
    | 5, 2, _, _, _ => exact n25.symm
    | 5, 3, _, _, _ => exact n35.symm
    | 5, 4, _, _, _ => exact n45.symm
    | 5, 5, _, _, h => exact absurd rfl h
    | 5, 6, _, _, _ => exact n56
    | 6, 0, _, _, _ => exact n06.symm
    | 6, 1, _, _, _ => exact n16.symm
    | 6, 2, _, _, _ => exact n26.symm
    | 6, 3, _, _, _ => exact n36.symm
    | 6, 4, _, _, _ => exact n46.symm
    | 6, 5, _, _, _ => exact n56.symm
    | 6, 6, _, _, h => exact absurd rfl h

/-- A world that meets the condition. -/
def laidHeap (low : Nat) (h : Array Obj) : Array Obj :=
  let put : Array Obj → Nat → Value → Array Obj := fun h k v => h.modify k fun
    | .cells _ t frozen => .cells #[v] t frozen
    | o => o
  put (put (put (put (put (put (put (put h 0 (.iface 63 (.pointer (some ⟨low, 0, none⟩)))) 1 (.iface 63 (.pointer (some ⟨low + 1, 0, none⟩)))) 2 (.iface 63 (.pointer (some ⟨low + 2, 0, none⟩)))) 3 (.iface 63 (.pointer (some ⟨low + 3, 0, none⟩)))) 4 (.iface 63 (.pointer (some ⟨low + 4, 0, none⟩)))) 5 (.iface 63 (.pointer (some ⟨low + 5, 0, none⟩)))) 6 (.iface 63 (.pointer (some ⟨low + 6, 0, none⟩)))) 7 (.iface 49 (.agg #[.pointer (some ⟨8, 23, none⟩)]))
def laidBlocks : Array Obj := #[.cells #[.string ⟨#[110, 111, 116, 32, 111, 102, 32, 116, 104, 101, 32, 102, 111, 114, 109, 32, 97, 115, 107, 101, 100]⟩] 85, .cells #[.string ⟨#[109, 111, 114, 101, 32, 116, 104, 97, 110, 32, 109, 97, 121, 32, 98, 101]⟩] 85, .cells #[.string ⟨#[97, 32, 114, 117, 108, 101, 32, 116, 104, 97, 116, 32, 99, 97, 110, 32, 110, 111, 116, 32, 115, 116, 97, 110, 100]⟩] 85, .cells #[.string ⟨#[97, 32, 110, 97, 109, 101, 32, 116, 104, 97, 116, 32, 105, 115, 32, 110, 111, 110, 101, 44, 32, 111, 114, 32, 105, 115, 32, 116, 104, 101, 114, 101, 32, 97, 108, 114, 101, 97, 100, 121]⟩] 85, .cells #[.string ⟨#[97, 32, 118, 97, 108, 117, 101, 32, 111, 102, 32, 97, 110, 111, 116, 104, 101, 114, 32, 116, 121, 112, 101]⟩] 85, .cells #[.string ⟨#[97, 110, 32, 97, 99, 116, 105, 111, 110, 32, 105, 115, 32, 110, 111, 116, 32, 100, 101, 99, 105, 100, 101, 100]⟩] 85, .cells #[.string ⟨#[110, 111, 32, 115, 101, 110, 116, 101, 110, 99, 101]⟩] 85]

theorem laidWorld_met (os : Os) (args : Array Value) : laidMetH Tryd.prog Rows.namesRow.laid (World.forCall { World.holding Tryd.prog os ⟨laidBlocks, #[], []⟩ with heap := laidHeap 13 (World.holding Tryd.prog os ⟨laidBlocks, #[], []⟩).heap } (fun _ _ => 0) ⟨#[], args, []⟩).memory :=
  laidMetH_of_parts (laidMet_of_run (ps := [.cell 0 0, .cell (13 + 0) 0, .cell 1 0, .cell (13 + 1) 0, .cell 2 0, .cell (13 + 2) 0, .cell 3 0, .cell (13 + 3) 0, .cell 4 0, .cell (13 + 4) 0, .cell 5 0, .cell (13 + 5) 0, .cell 6 0, .cell (13 + 6) 0]) 8 (by kernel_rfl) (by kernel_rfl) (by kernel_rfl)) (by kernel_rfl)

theorem names_lifted (os : Os) (started : os.Started) (H : Type) (enc : TypeId × Value → H) :
    ReturnsInHanded {} Tryd.checked os 3 .any (fun w args => (Rows.namesSpec.pre enc Tryd.prog Tryd.f3 [] false w args ∧ laidMetH Tryd.prog Rows.namesRow.laid w) ∧ sizedMet enc Tryd.prog Tryd.f3 (OpenSpec.ofChange Rows.namesSpec) false w args)
      (Rows.namesSpec.post enc Tryd.prog Tryd.f3 false true false false) := by
  refine returnsInHanded_of_change_and (C := Tryd.checked) (X := fun w _ => laidMetH Tryd.prog Rows.namesRow.laid w) (fun _ _ _ hh h => h.of_heap hh) Tryd.own started (by kernel_rfl) Tryd.func3
    (ChangeSpec.witness_at (enc := enc) (C := Tryd.checked) (os := os) (X := fun w _ => laidMetH Tryd.prog Rows.namesRow.laid w) false { World.holding Tryd.prog os ⟨laidBlocks, #[], []⟩ with heap := laidHeap 13 (World.holding Tryd.prog os ⟨laidBlocks, #[], []⟩).heap } #[] 8 rfl (by kernel_rfl) (by kernel_rfl) (by kernel_rfl) (by kernel_rfl) (by kernel_rfl) (laidWorld_met os _)) ?_
  intro W base args ds gs before hval0 hW _ _ hL _
  have hW' := hW
  obtain ⟨p, q, hA0, hV0, rfl, hfz, hnd⟩ := hW
  have hA : DataW.TrodAll enc Tryd.prog W 0 (fun _ => true) true Tryd.f3.params.toList args.toList ds p := hA0
  rw [Tryd.params3] at hA
  obtain ⟨hargs, rfl, rfl⟩ := trodAll_nil hA
  obtain rfl : args = #[] := by cases args; simp_all
  obtain ⟨rfl, rfl⟩ := trodVars_none hV0
  obtain ⟨a, hE⟩ := errs_of_laid hL
  refine (law_names W a hE).mono fun e W' ⟨he, bel⟩ => ?_
  subst he
  exact ⟨_, rfl, _, _, _, [], [], [], hW', trodAll_mk1 (shut_bool Tryd.underlying4 _), trodAll_mk0, rfl, bel.frame _, fun h => by cases h⟩

theorem names_row_holds : Rows.NamesSaid :=
  OpenClaim.holds_of_wide 3 Tryd.f3 rfl rfl rfl rfl rfl rfl rfl ⟨rfl, rfl, rfl, rfl, rfl⟩ rfl rfl rfl rfl rfl (by kernel_rfl) Tryd.func3 (by kernel_rfl)
    (of_decide_eq_true (by kernel_rfl)) (by unfold Func.isWrapper; rw [if_neg (of_decide_eq_false (by kernel_rfl))]; exact ⟨rfl, rfl⟩)
    (fun os started H enc _ => names_lifted os started H enc)

theorem names_card_holds : Rows.NamesCardSaid :=
  Claim7.holds_tied_plain_at .later [] [.handle, .sentinel, .sentinel, .sentinel, .sentinel, .sentinel, .sentinel, .sentinel] true (true, "f6feb11b80feaf821d964d904fd2a082afa7ab743abf70a3fcf724a296451b2d") true
    names_row_holds (fun _ h => by cases h) (by kernel_rfl) (fun _ h => by cases h) names_row_tie rfl ⟨rfl, rfl⟩ (by kernel_rfl) rfl
    (fun f fn hf hfn => by
      obtain rfl : f = 3 := Option.some.inj ((show Tryd.prog.funcNamed "grammarsmith/grammarsmithlaw1.Names" = some 3 by kernel_rfl).symm.trans hf) |>.symm
      obtain rfl : fn = Tryd.f3 := (Option.some.inj (Tryd.func3.symm.trans hfn)).symm
      exact ⟨by kernel_rfl, fun j t ht => by
        rw [Tryd.params3] at ht
        simp at ht⟩)
    (by kernel_rfl)

end Go.Proofs.YtbiiapdeincpbaaDoor
