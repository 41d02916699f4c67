/- With any grammar, any table and any terminals, whether the table fits, the tree or the error, and what may stand next are as the document says: the law ParseAny returns true for every grammar, every table and every list of terminals. Nothing narrows it but that the package's errors and the package errors' own variable are as the program's text lays them (the card ties that); above the law's own bounds (8 terminals, 8 names, 14 productions of 5 symbols, 60 states, 12 terminals given) the law says true by itself. -/
import Derived.Test.YtdihdnhofgjhnaaDoorRows
import Derived.Test.YtdihdnhofgjhnaaDoorTie
import Derived.Test.YtdihdnhofgjhnaaDoorCards
import Derived.Test.YtdihdnhofgjhnaaDoorPy40
import Derived.Deep.SlicePairs
import Derived.ChangeSame
import Derived.ChangeVars
import Derived.JoinedOf
import Derived.RowKit
import Derived.RowKitTokens
import Derived.LaidLaws
import Derived.LaidHandle
import Derived.Stop.Joined
import Derived.Below
import Derived.SevenTiedAt
import Derived.ProofKit
import Derived.SizedLaws
import Derived.OpenShut
import Derived.ChangeOld
namespace Go.Proofs.YtdihdnhofgjhnaaDoor
open Go.ChangeShapes Go.WideShapes Go.RowKit
set_option linter.unusedVariables false
set_option maxRecDepth 100000

theorem Tryd.own : ownKnob Tryd.prog.godebug = none := by kernel_rfl
theorem Tryd.et : Tryd.prog.globalNamed "errors.errorType" = some 7 := by kernel_rfl
theorem Tryd.rt : (Tryd.prog.cutTypes.find? (·.1 == "internal/reflectlite.rtype")).map (·.2) = some 116 := by kernel_rfl
theorem Tryd.oneRow : ((List.range 173).filter fun t => Tryd.prog.rowNamed t [101, 114, 114, 111, 114]) = [36] := by kernel_rfl
theorem Tryd.size : Tryd.prog.types.size = 173 := by kernel_rfl
theorem Tryd.cellsErr : Tryd.prog.cellsOf 161 = 1 := by kernel_rfl
theorem Tryd.cellsStr : Tryd.prog.cellsOf 9 = 1 := by kernel_rfl
theorem Tryd.star : "*" ++ "errors.errorString" = "*errors.errorString" := by decide
theorem Tryd.rowErr (u : TypeId) (h : Tryd.prog.typeName? 3 u = some "*errors.errorString") : u = 137 :=
  typeName_ptr_named (nm := "errors.errorString") (by rw [Tryd.star]; kernel_rfl) (by kernel_rfl) (by decide) u (by rw [Tryd.star]; exact h)
theorem Tryd.g0 : Tryd.prog.globalNamed "grammarsmith/api.ErrSyntax" = some 0 := by kernel_rfl
theorem Tryd.gt0 : (Tryd.prog.globals[0]?).map (·.type) = some 36 := by kernel_rfl
theorem Tryd.g1 : Tryd.prog.globalNamed "grammarsmith/api.ErrBound" = some 1 := by kernel_rfl
theorem Tryd.gt1 : (Tryd.prog.globals[1]?).map (·.type) = some 36 := by kernel_rfl
theorem Tryd.g2 : Tryd.prog.globalNamed "grammarsmith/api.ErrRule" = some 2 := by kernel_rfl
theorem Tryd.gt2 : (Tryd.prog.globals[2]?).map (·.type) = some 36 := by kernel_rfl
theorem Tryd.g3 : Tryd.prog.globalNamed "grammarsmith/api.ErrName" = some 3 := by kernel_rfl
theorem Tryd.gt3 : (Tryd.prog.globals[3]?).map (·.type) = some 36 := by kernel_rfl
theorem Tryd.g4 : Tryd.prog.globalNamed "grammarsmith/api.ErrType" = some 4 := by kernel_rfl
theorem Tryd.gt4 : (Tryd.prog.globals[4]?).map (·.type) = some 36 := by kernel_rfl
theorem Tryd.g5 : Tryd.prog.globalNamed "grammarsmith/api.ErrConflict" = some 5 := by kernel_rfl
theorem Tryd.gt5 : (Tryd.prog.globals[5]?).map (·.type) = some 36 := by kernel_rfl
theorem Tryd.g6 : Tryd.prog.globalNamed "grammarsmith/api.ErrEnd" = some 6 := by kernel_rfl
theorem Tryd.gt6 : (Tryd.prog.globals[6]?).map (·.type) = some 36 := by kernel_rfl

theorem handle_of_laid {W : World} (h : laidMetH Tryd.prog Rows.parseAnyRow.laid W) : W.cell? ⟨7, 0, none⟩ = some (.iface 116 (.agg #[.pointer (some ⟨8, 36, none⟩)])) := by
  have h' : laidMet Tryd.prog (Rows.parseAnyRow.laid.filter fun x => x.2.handleName?.isNone) W ∧ handlesMet Tryd.prog [("errors.errorType", Rows.laid_errors_errorType)] W := h
  obtain ⟨name, u, ty, e1, e2, e3, e4, e5⟩ := h'.2 _ (List.mem_singleton.2 rfl)
  have en : name = [101, 114, 114, 111, 114] := (Option.some.inj e1).symm
  subst en
  obtain rfl := Option.some.inj (Tryd.rt.symm.trans e2)
  have hm : ty ∈ (List.range 173).filter fun t => Tryd.prog.rowNamed t [101, 114, 114, 111, 114] := List.mem_filter.2 ⟨List.mem_range.2 (by rw [← Tryd.size]; exact e3), e4⟩
  rw [Tryd.oneRow] at hm
  obtain rfl := List.mem_singleton.1 hm
  have hh : typeHandle Tryd.prog 36 = .pointer (some ⟨8, 36, none⟩) := by kernel_rfl
  rw [hh] at e5
  simpa using World.var?_cell Tryd.et e5 0

theorem errs_of_laid {W : World} (h : laidMetH Tryd.prog Rows.parseAnyRow.laid W) : ∃ a, Errs W a := by
  have hty := handle_of_laid h
  have h' : laidMet Tryd.prog [("grammarsmith/api.ErrSyntax", Rows.laid_grammarsmith_api_ErrSyntax), ("grammarsmith/api.ErrBound", Rows.laid_grammarsmith_api_ErrBound), ("grammarsmith/api.ErrRule", Rows.laid_grammarsmith_api_ErrRule), ("grammarsmith/api.ErrName", Rows.laid_grammarsmith_api_ErrName), ("grammarsmith/api.ErrType", Rows.laid_grammarsmith_api_ErrType), ("grammarsmith/api.ErrConflict", Rows.laid_grammarsmith_api_ErrConflict), ("grammarsmith/api.ErrEnd", Rows.laid_grammarsmith_api_ErrEnd)] W ∧ handlesMet Tryd.prog [("errors.errorType", Rows.laid_errors_errorType)] W := h
  obtain ⟨ps, ⟨g0, t0, cs0, f0, p0, q0, hg0, ht0, hv0, hd0, ⟨g1, t1, cs1, f1, p1, q1, hg1, ht1, hv1, hd1, ⟨g2, t2, cs2, f2, p2, q2, hg2, ht2, hv2, hd2, ⟨g3, t3, cs3, f3, p3, q3, hg3, ht3, hv3, hd3, ⟨g4, t4, cs4, f4, p4, q4, hg4, ht4, hv4, hd4, ⟨g5, t5, cs5, f5, p5, q5, hg5, ht5, hv5, hd5, ⟨g6, t6, cs6, f6, p6, q6, hg6, ht6, hv6, hd6, hq, e6⟩, e5⟩, e4⟩, e3⟩, e2⟩, e1⟩, e0⟩, hnd, hrows⟩ := h'.1
  obtain rfl := Option.some.inj (Tryd.g0.symm.trans hg0)
  obtain rfl := Option.some.inj (Tryd.gt0.symm.trans ht0)
  obtain rfl := Option.some.inj (Tryd.g1.symm.trans hg1)
  obtain rfl := Option.some.inj (Tryd.gt1.symm.trans ht1)
  obtain rfl := Option.some.inj (Tryd.g2.symm.trans hg2)
  obtain rfl := Option.some.inj (Tryd.gt2.symm.trans ht2)
  obtain rfl := Option.some.inj (Tryd.g3.symm.trans hg3)
  obtain rfl := Option.some.inj (Tryd.gt3.symm.trans ht3)
  obtain rfl := Option.some.inj (Tryd.g4.symm.trans hg4)
  obtain rfl := Option.some.inj (Tryd.gt4.symm.trans ht4)
  obtain rfl := Option.some.inj (Tryd.g5.symm.trans hg5)
  obtain rfl := Option.some.inj (Tryd.gt5.symm.trans ht5)
  obtain rfl := Option.some.inj (Tryd.g6.symm.trans hg6)
  obtain rfl := Option.some.inj (Tryd.gt6.symm.trans ht6)
  have hq' : q6 = [] := hq
  subst hq'
  subst e6
  subst e5
  subst e4
  subst e3
  subst e2
  subst e1
  subst e0
  obtain ⟨l0⟩ := cs0
  obtain ⟨l1⟩ := cs1
  obtain ⟨l2⟩ := cs2
  obtain ⟨l3⟩ := cs3
  obtain ⟨l4⟩ := cs4
  obtain ⟨l5⟩ := cs5
  obtain ⟨l6⟩ := cs6
  have ok0 : ∀ u v, l0 = [.iface u v] → Value.okWide Tryd.prog W .any 0 u v := fun u v e => by
    subst e
    exact (hrows 0 0 (by simp [MemPlace.row])).2 u v (by simpa using World.var?_cell hg0 hv0 0)
  have ok1 : ∀ u v, l1 = [.iface u v] → Value.okWide Tryd.prog W .any 0 u v := fun u v e => by
    subst e
    exact (hrows 1 0 (by simp [MemPlace.row])).2 u v (by simpa using World.var?_cell hg1 hv1 0)
  have ok2 : ∀ u v, l2 = [.iface u v] → Value.okWide Tryd.prog W .any 0 u v := fun u v e => by
    subst e
    exact (hrows 2 0 (by simp [MemPlace.row])).2 u v (by simpa using World.var?_cell hg2 hv2 0)
  have ok3 : ∀ u v, l3 = [.iface u v] → Value.okWide Tryd.prog W .any 0 u v := fun u v e => by
    subst e
    exact (hrows 3 0 (by simp [MemPlace.row])).2 u v (by simpa using World.var?_cell hg3 hv3 0)
  have ok4 : ∀ u v, l4 = [.iface u v] → Value.okWide Tryd.prog W .any 0 u v := fun u v e => by
    subst e
    exact (hrows 4 0 (by simp [MemPlace.row])).2 u v (by simpa using World.var?_cell hg4 hv4 0)
  have ok5 : ∀ u v, l5 = [.iface u v] → Value.okWide Tryd.prog W .any 0 u v := fun u v e => by
    subst e
    exact (hrows 5 0 (by simp [MemPlace.row])).2 u v (by simpa using World.var?_cell hg5 hv5 0)
  have ok6 : ∀ u v, l6 = [.iface u v] → Value.okWide Tryd.prog W .any 0 u v := fun u v e => by
    subst e
    exact (hrows 6 0 (by simp [MemPlace.row])).2 u v (by simpa using World.var?_cell hg6 hv6 0)
  obtain ⟨a0, s0, rfl, hc0, hs0, hz0, rfl⟩ := errorString_of_trod Tryd.underlying36 Tryd.rowErr Tryd.underlying137 Tryd.underlying161 rfl rfl Tryd.underlying9 Tryd.cellsErr Tryd.cellsStr hd0 ok0
  obtain ⟨a1, s1, rfl, hc1, hs1, hz1, rfl⟩ := errorString_of_trod Tryd.underlying36 Tryd.rowErr Tryd.underlying137 Tryd.underlying161 rfl rfl Tryd.underlying9 Tryd.cellsErr Tryd.cellsStr hd1 ok1
  obtain ⟨a2, s2, rfl, hc2, hs2, hz2, rfl⟩ := errorString_of_trod Tryd.underlying36 Tryd.rowErr Tryd.underlying137 Tryd.underlying161 rfl rfl Tryd.underlying9 Tryd.cellsErr Tryd.cellsStr hd2 ok2
  obtain ⟨a3, s3, rfl, hc3, hs3, hz3, rfl⟩ := errorString_of_trod Tryd.underlying36 Tryd.rowErr Tryd.underlying137 Tryd.underlying161 rfl rfl Tryd.underlying9 Tryd.cellsErr Tryd.cellsStr hd3 ok3
  obtain ⟨a4, s4, rfl, hc4, hs4, hz4, rfl⟩ := errorString_of_trod Tryd.underlying36 Tryd.rowErr Tryd.underlying137 Tryd.underlying161 rfl rfl Tryd.underlying9 Tryd.cellsErr Tryd.cellsStr hd4 ok4
  obtain ⟨a5, s5, rfl, hc5, hs5, hz5, rfl⟩ := errorString_of_trod Tryd.underlying36 Tryd.rowErr Tryd.underlying137 Tryd.underlying161 rfl rfl Tryd.underlying9 Tryd.cellsErr Tryd.cellsStr hd5 ok5
  obtain ⟨a6, s6, rfl, hc6, hs6, hz6, rfl⟩ := errorString_of_trod Tryd.underlying36 Tryd.rowErr Tryd.underlying137 Tryd.underlying161 rfl rfl Tryd.underlying9 Tryd.cellsErr Tryd.cellsStr hd6 ok6
  obtain ⟨c0, t0, hb0⟩ := (hrows a0.block a0.off (by simp [MemPlace.row])).1
  obtain ⟨c1, t1, hb1⟩ := (hrows a1.block a1.off (by simp [MemPlace.row])).1
  obtain ⟨c2, t2, hb2⟩ := (hrows a2.block a2.off (by simp [MemPlace.row])).1
  obtain ⟨c3, t3, hb3⟩ := (hrows a3.block a3.off (by simp [MemPlace.row])).1
  obtain ⟨c4, t4, hb4⟩ := (hrows a4.block a4.off (by simp [MemPlace.row])).1
  obtain ⟨c5, t5, hb5⟩ := (hrows a5.block a5.off (by simp [MemPlace.row])).1
  obtain ⟨c6, t6, hb6⟩ := (hrows a6.block a6.off (by simp [MemPlace.row])).1
  have hx0 : W.cell? ⟨0, 0, none⟩ = some (.iface 137 (.pointer (some a0))) := by simpa using World.var?_cell hg0 hv0 0
  have hx1 : W.cell? ⟨1, 0, none⟩ = some (.iface 137 (.pointer (some a1))) := by simpa using World.var?_cell hg1 hv1 0
  have hx2 : W.cell? ⟨2, 0, none⟩ = some (.iface 137 (.pointer (some a2))) := by simpa using World.var?_cell hg2 hv2 0
  have hx3 : W.cell? ⟨3, 0, none⟩ = some (.iface 137 (.pointer (some a3))) := by simpa using World.var?_cell hg3 hv3 0
  have hx4 : W.cell? ⟨4, 0, none⟩ = some (.iface 137 (.pointer (some a4))) := by simpa using World.var?_cell hg4 hv4 0
  have hx5 : W.cell? ⟨5, 0, none⟩ = some (.iface 137 (.pointer (some a5))) := by simpa using World.var?_cell hg5 hv5 0
  have hx6 : W.cell? ⟨6, 0, none⟩ = some (.iface 137 (.pointer (some a6))) := by simpa using World.var?_cell hg6 hv6 0
  have n01 : a0 ≠ a1 := by rintro rfl; simp [MemPlace.row] at hnd
  have n02 : a0 ≠ a2 := by rintro rfl; simp [MemPlace.row] at hnd
  have n03 : a0 ≠ a3 := by rintro rfl; simp [MemPlace.row] at hnd
  have n04 : a0 ≠ a4 := by rintro rfl; simp [MemPlace.row] at hnd
  have n05 : a0 ≠ a5 := by rintro rfl; simp [MemPlace.row] at hnd
  have n06 : a0 ≠ a6 := by rintro rfl; simp [MemPlace.row] at hnd
  have n12 : a1 ≠ a2 := by rintro rfl; simp [MemPlace.row] at hnd
  have n13 : a1 ≠ a3 := by rintro rfl; simp [MemPlace.row] at hnd
  have n14 : a1 ≠ a4 := by rintro rfl; simp [MemPlace.row] at hnd
  have n15 : a1 ≠ a5 := by rintro rfl; simp [MemPlace.row] at hnd
  have n16 : a1 ≠ a6 := by rintro rfl; simp [MemPlace.row] at hnd
  have n23 : a2 ≠ a3 := by rintro rfl; simp [MemPlace.row] at hnd
  have n24 : a2 ≠ a4 := by rintro rfl; simp [MemPlace.row] at hnd
  have n25 : a2 ≠ a5 := by rintro rfl; simp [MemPlace.row] at hnd
  have n26 : a2 ≠ a6 := by rintro rfl; simp [MemPlace.row] at hnd
  have n34 : a3 ≠ a4 := by rintro rfl; simp [MemPlace.row] at hnd
  have n35 : a3 ≠ a5 := by rintro rfl; simp [MemPlace.row] at hnd
  have n36 : a3 ≠ a6 := by rintro rfl; simp [MemPlace.row] at hnd
  have n45 : a4 ≠ a5 := by rintro rfl; simp [MemPlace.row] at hnd
  have n46 : a4 ≠ a6 := by rintro rfl; simp [MemPlace.row] at hnd
  have n56 : a5 ≠ a6 := by rintro rfl; simp [MemPlace.row] at hnd
  clear hnd hrows
  refine ⟨fun | 0 => a0 | 1 => a1 | 2 => a2 | 3 => a3 | 4 => a4 | 5 => a5 | _ => a6, ?_, ?_, ?_, hty⟩
  · intro j hj
    match j, hj with
    | 0, _ => exact hx0
    | 1, _ => exact hx1
    | 2, _ => exact hx2
    | 3, _ => exact hx3
    | 4, _ => exact hx4
    | 5, _ => exact hx5
    | 6, _ => exact hx6
  · intro j hj
    match j, hj with
    | 0, _ => exact ⟨c0, t0, hb0⟩
    | 1, _ => exact ⟨c1, t1, hb1⟩
    | 2, _ => exact ⟨c2, t2, hb2⟩
    | 3, _ => exact ⟨c3, t3, hb3⟩
    | 4, _ => exact ⟨c4, t4, hb4⟩
    | 5, _ => exact ⟨c5, t5, hb5⟩
    | 6, _ => exact ⟨c6, t6, hb6⟩
  · intro i j hi hj hne
    match i, j, hi, hj, hne with
    | 0, 0, _, _, h => exact absurd rfl h
    | 0, 1, _, _, _ => exact n01
    | 0, 2, _, _, _ => exact n02
    | 0, 3, _, _, _ => exact n03
    | 0, 4, _, _, _ => exact n04
    | 0, 5, _, _, _ => exact n05
    | 0, 6, _, _, _ => exact n06
    | 1, 0, _, _, _ => exact n01.symm
    | 1, 1, _, _, h => exact absurd rfl h
    | 1, 2, _, _, _ => exact n12
    | 1, 3, _, _, _ => exact n13
    | 1, 4, _, _, _ => exact n14
    | 1, 5, _, _, _ => exact n15
    | 1, 6, _, _, _ => exact n16
    | 2, 0, _, _, _ => exact n02.symm
    | 2, 1, _, _, _ => exact n12.symm
    | 2, 2, _, _, h => exact absurd rfl h
    | 2, 3, _, _, _ => exact n23
    | 2, 4, _, _, _ => exact n24
    | 2, 5, _, _, _ => exact n25
    | 2, 6, _, _, _ => exact n26
    | 3, 0, _, _, _ => exact n03.symm
    | 3, 1, _, _, _ => exact n13.symm
    | 3, 2, _, _, _ => exact n23.symm
    | 3, 3, _, _, h => exact absurd rfl h
    | 3, 4, _, _, _ => exact n34
    | 3, 5, _, _, _ => exact n35
    | 3, 6, _, _, _ => exact n36
    | 4, 0, _, _, _ => exact n04.symm
    | 4, 1, _, _, _ => exact n14.symm
    | 4, 2, _, _, _ => exact n24.symm
    | 4, 3, _, _, _ => exact n34.symm
    | 4, 4, _, _, h => exact absurd rfl h
    | 4, 5, _, _, _ => exact n45
    | 4, 6, _, _, _ => exact n46
    | 5, 0, _, _, _ => exact n05.symm
    | 5, 1, _, _, _ => exact n15.symm
    | 5, 2, _, _, _ => exact n25.symm
    | 5, 3, _, _, _ => exact n35.symm
    | 5, 4, _, _, _ => exact n45.symm
    | 5, 5, _, _, h => exact absurd rfl h
    | 5, 6, _, _, _ => exact n56
    | 6, 0, _, _, _ => exact n06.symm
    | 6, 1, _, _, _ => exact n16.symm
    | 6, 2, _, _, _ => exact n26.symm
    | 6, 3, _, _, _ => exact n36.symm
    | 6, 4, _, _, _ => exact n46.symm
    | 6, 5, _, _, _ => exact n56.symm
    | 6, 6, _, _, h => exact absurd rfl h

/-- A world that meets the condition. -/
def laidHeap (low : Nat) (h : Array Obj) : Array Obj :=
  let put : Array Obj → Nat → Value → Array Obj := fun h k v => h.modify k fun
    | .cells _ t frozen => .cells #[v] t frozen
    | o => o
  put (put (put (put (put (put (put (put h 0 (.iface 137 (.pointer (some ⟨low, 0, none⟩)))) 1 (.iface 137 (.pointer (some ⟨low + 1, 0, none⟩)))) 2 (.iface 137 (.pointer (some ⟨low + 2, 0, none⟩)))) 3 (.iface 137 (.pointer (some ⟨low + 3, 0, none⟩)))) 4 (.iface 137 (.pointer (some ⟨low + 4, 0, none⟩)))) 5 (.iface 137 (.pointer (some ⟨low + 5, 0, none⟩)))) 6 (.iface 137 (.pointer (some ⟨low + 6, 0, none⟩)))) 7 (.iface 116 (.agg #[.pointer (some ⟨8, 36, none⟩)]))
def laidBlocks : Array Obj := #[.cells #[.string ⟨#[110, 111, 116, 32, 111, 102, 32, 116, 104, 101, 32, 102, 111, 114, 109, 32, 97, 115, 107, 101, 100]⟩] 161, .cells #[.string ⟨#[109, 111, 114, 101, 32, 116, 104, 97, 110, 32, 109, 97, 121, 32, 98, 101]⟩] 161, .cells #[.string ⟨#[97, 32, 114, 117, 108, 101, 32, 116, 104, 97, 116, 32, 99, 97, 110, 32, 110, 111, 116, 32, 115, 116, 97, 110, 100]⟩] 161, .cells #[.string ⟨#[97, 32, 110, 97, 109, 101, 32, 116, 104, 97, 116, 32, 105, 115, 32, 110, 111, 110, 101, 44, 32, 111, 114, 32, 105, 115, 32, 116, 104, 101, 114, 101, 32, 97, 108, 114, 101, 97, 100, 121]⟩] 161, .cells #[.string ⟨#[97, 32, 118, 97, 108, 117, 101, 32, 111, 102, 32, 97, 110, 111, 116, 104, 101, 114, 32, 116, 121, 112, 101]⟩] 161, .cells #[.string ⟨#[97, 110, 32, 97, 99, 116, 105, 111, 110, 32, 105, 115, 32, 110, 111, 116, 32, 100, 101, 99, 105, 100, 101, 100]⟩] 161, .cells #[.string ⟨#[110, 111, 32, 115, 101, 110, 116, 101, 110, 99, 101]⟩] 161]

theorem laidWorld_met (os : Os) (args : Array Value) : laidMetH Tryd.prog Rows.parseAnyRow.laid (World.forCall { World.holding Tryd.prog os ⟨laidBlocks, #[], []⟩ with heap := laidHeap 13 (World.holding Tryd.prog os ⟨laidBlocks, #[], []⟩).heap } (fun _ _ => 0) ⟨#[], args, []⟩).memory :=
  laidMetH_of_parts (laidMet_of_run (ps := [.cell 0 0, .cell (13 + 0) 0, .cell 1 0, .cell (13 + 1) 0, .cell 2 0, .cell (13 + 2) 0, .cell 3 0, .cell (13 + 3) 0, .cell 4 0, .cell (13 + 4) 0, .cell 5 0, .cell (13 + 5) 0, .cell 6 0, .cell (13 + 6) 0]) 8 (by kernel_rfl) (by kernel_rfl) (by kernel_rfl)) (by kernel_rfl)

theorem cell_blkT {w : World} {b o : Nat} {v : Value} (h : w.cell? ⟨b, o, none⟩ = some v) : b < w.heap.size := by
  rcases Nat.lt_or_ge b w.heap.size with h' | h'
  · exact h'
  · simp [World.cell?, Array.getElem?_eq_none h'] at h
theorem addr_addT (b off j : Nat) : (⟨b, off, none⟩ : Addr).add j = ⟨b, off + j, none⟩ := by
  unfold Addr.add
  split <;> simp_all
theorem rng_of_wf {n : Int} (h : (Lit.int .i64 n).wf = true) : -9223372036854775808 ≤ n ∧ n ≤ 9223372036854775807 := by
  simp [Lit.wf, IntKind.min, IntKind.max, IntKind.signed, IntKind.bits] at h
  omega
/-- no weight of a datum is more than a reading may hold -/
def Light {H : Type} (t : TypeId) (d : DataW H) : Prop := ∀ n ∈ d.weights Tryd.prog t, n ≤ reachBytes
theorem weightsAll_mem {H : Type} {P : Program} {e : TypeId} {d : DataW H} {n : Nat} : ∀ {l : List (DataW H)}, d ∈ l → n ∈ d.weights P e → n ∈ DataW.weightsAll P e l
  | [], h, _ => by simp at h
  | x :: l, h, hn => by
    rw [DataW.weightsAll]
    rcases List.mem_cons.1 h with rfl | h
    · exact List.mem_append_left _ hn
    · exact List.mem_append_right _ (weightsAll_mem h hn)

theorem ints_of_oneT {H : Type} {enc : TypeId × Value → H} {W : World} {fuel : Nat} {v : Value} {x : DataW H × List MemPlace}
    (hf : DataW.trod enc Tryd.prog W 0 (fun _ => true) true fuel 23 [v] = some x) : ∃ l : List Int, IntsR W v l ∧ (∀ z ∈ l, -9223372036854775808 ≤ z ∧ z ≤ 9223372036854775807) ∧ (Light 23 x.1 → l.length * 8 ≤ 140737488351232) := by
  have hc1 : Tryd.prog.cellsOf 3 = 1 := by kernel_rfl
  have hby : Tryd.prog.bytesOf 3 = 8 := by kernel_rfl
  rcases Deep.open_slice Tryd.underlying23 hf with ⟨hcs, _⟩ | ⟨a, len, cap, m, n, D, Pl, hcs, _, hl, _, hmm, rfl, hx⟩
  · simp at hcs
    subst hcs
    exact ⟨[], ⟨none, 0, rfl, by simp, .inl rfl⟩, fun z hz => by simp at hz, fun _ => by simp⟩
  · simp at hcs
    subst hcs
    have hmn : len ≤ m := by rw [hmm]; simpa using hl
    have each : ∀ i, ∃ q : Int, i < len → W.cell? (a.add i) = some (.int .i64 q) ∧ (-9223372036854775808 ≤ q ∧ q ≤ 9223372036854775807) := fun i => by
      by_cases hi : i < len
      · obtain ⟨cs', h1, h2⟩ := hx i (by omega)
        rw [hc1] at h1
        obtain ⟨_, hlen, hcell⟩ := World.cells?_some h1
        obtain ⟨z, e, _, hz⟩ := DataW.trod_int Tryd.underlying3 h2
        subst e
        have d0 := hcell 0 (by omega)
        rw [Deep.add_add] at d0
        exact ⟨z, fun _ => ⟨by simpa using d0, rng_of_wf hz⟩⟩
      · exact ⟨0, fun h => absurd h hi⟩
    obtain ⟨F, hF⟩ := Classical.axiomOfChoice each
    refine ⟨(List.range len).map F, ⟨some a, cap, by simp, by simpa using hl, ?_⟩, ?_, ?_⟩
    · by_cases hn : len = 0
      · subst hn
        exact .inl rfl
      · obtain ⟨b, off, spot⟩ := a
        have h0 := (hF 0 (by omega)).1
        have hspot : spot = none := by simpa [Addr.add] using World.cell?_spot h0
        subst hspot
        refine .inr ⟨b, off, rfl, ?_, fun j hj => ?_⟩
        · rw [addr_addT] at h0
          exact cell_blkT h0
        · have hj' : j < len := by simpa using hj
          have g0 : ((List.range len).map F).getD j 0 = F j := by simp [hj']
          rw [g0, ← addr_addT]
          exact (hF j hj').1
    · intro z hz
      obtain ⟨i, hi, rfl⟩ := List.mem_map.1 hz
      exact (hF i (List.mem_range.1 hi)).2
    · intro hL
      have := hL (((List.range len).map D).length + ((List.range (m - len)).map fun j => D (len + j)).length |> (· * Tryd.prog.bytesOf 3)) (by simp [DataW.weights, Tryd.underlying23])
      rw [hby] at this
      simp at this ⊢
      unfold reachBytes at this
      omega

set_option maxRecDepth 100000 in
theorem prods_of_oneT {H : Type} {enc : TypeId × Value → H} {W : World} {fuel : Nat} {v : Value} {x : DataW H × List MemPlace}
    (hf : DataW.trod enc Tryd.prog W 0 (fun _ => true) true fuel 22 [v] = some x) : ∃ ps : List PdR, PdsM W v ps ∧ ∀ p ∈ ps, ∀ z ∈ p.right, I64 z := by
  have hc3 : Tryd.prog.cellsOf 49 = 3 := by kernel_rfl
  rcases Deep.open_slice Tryd.underlying22 hf with ⟨hcs, _⟩ | ⟨a, len, cap, m, n, D, Pl, hcs, _, hl, _, hmm, _, hx⟩
  · simp at hcs
    subst hcs
    exact ⟨[], ⟨none, 0, rfl, .inl rfl⟩, fun p hp => by simp at hp⟩
  · simp at hcs
    subst hcs
    have hmn : len ≤ m := by rw [hmm]; simpa using hl
    have each : ∀ i, ∃ q : PdR × Value, i < len → W.cell? (a.add (i * 3)) = some (.int .i64 q.1.left) ∧ W.cell? (a.add (i * 3 + 1)) = some q.2 ∧ W.cell? (a.add (i * 3 + 2)) = some (.int .i64 q.1.level) ∧ IntsR W q.2 q.1.right ∧ ∀ z ∈ q.1.right, I64 z := fun i => by
      by_cases hi : i < len
      · obtain ⟨cs', h1, h2⟩ := hx i (by omega)
        rw [hc3] at h1
        obtain ⟨_, hlen, hcell⟩ := World.cells?_some h1
        obtain ⟨xs, k, hk, hxy, _, hxl, hff⟩ := DataW.trod_struct Tryd.underlying49 h2
        match xs, hxl, cs', hlen with
        | [y0, y1, y2], _, [v0, v1, v2], _ =>
          have g0 := hff 0 _ rfl
          have g1 := hff 1 _ rfl
          have g2 := hff 2 _ rfl
          have c1 : Tryd.prog.cellsOf 3 = 1 := by kernel_rfl
          have c2 : Tryd.prog.cellsOf 23 = 1 := by kernel_rfl
          simp [c1, c2] at g0 g1 g2
          obtain ⟨z0, e0, _, _⟩ := DataW.trod_int Tryd.underlying3 g0
          obtain ⟨z2, e2, _, _⟩ := DataW.trod_int Tryd.underlying3 g2
          obtain ⟨l, hl1, hl2, _⟩ := ints_of_oneT g1
          simp at e0 e2
          have d0 := hcell 0 (by omega)
          have d1 := hcell 1 (by omega)
          have d2 := hcell 2 (by omega)
          rw [Deep.add_add] at d0 d1 d2
          exact ⟨(⟨z0, l, z2⟩, v1), fun _ => ⟨by simpa [e0] using d0, by simpa using d1, by simpa [e2] using d2, hl1, hl2⟩⟩
      · exact ⟨(noPd, .nilFunc), fun h => absurd h hi⟩
    obtain ⟨F, hF⟩ := Classical.axiomOfChoice each
    have hg : ∀ j, j < len → ((List.range len).map fun i => (F i).1).getD j noPd = (F j).1 := fun j hj => by simp [hj]
    refine ⟨(List.range len).map fun i => (F i).1, ?_, fun p hp => ?_⟩
    · by_cases hn : len = 0
      · subst hn
        exact ⟨some a, cap, by simp, .inl rfl⟩
      · obtain ⟨b, off, spot⟩ := a
        have h0 := (hF 0 (by omega)).1
        have hspot : spot = none := by simpa [Addr.add] using World.cell?_spot h0
        subst hspot
        refine ⟨_, cap, by simp, .inr ⟨b, off, rfl, ?_, fun j hj => ?_⟩⟩
        · rw [addr_addT] at h0
          exact cell_blkT h0
        · have hj' : j < len := by simpa using hj
          rw [hg j hj']
          obtain ⟨x0, x1, x2, x3, _⟩ := hF j hj'
          rw [addr_addT] at x0 x1 x2
          exact ⟨(F j).2, x0, by rw [Nat.add_assoc]; exact x1, by rw [Nat.add_assoc]; exact x2, x3⟩
    · obtain ⟨i, hi, rfl⟩ := List.mem_map.1 hp
      exact (hF i (List.mem_range.1 hi)).2.2.2.2

theorem sixT {α : Type} : ∀ (l : List α), l.length = 6 → ∃ a b c d e f, l = [a, b, c, d, e, f] := by
  intro l h
  obtain ⟨a, l, rfl⟩ := List.exists_cons_of_length_pos (l := l) (by omega)
  obtain ⟨b, l, rfl⟩ := List.exists_cons_of_length_pos (l := l) (by simp at h; omega)
  obtain ⟨c, l, rfl⟩ := List.exists_cons_of_length_pos (l := l) (by simp at h; omega)
  obtain ⟨d, l, rfl⟩ := List.exists_cons_of_length_pos (l := l) (by simp at h; omega)
  obtain ⟨e, l, rfl⟩ := List.exists_cons_of_length_pos (l := l) (by simp at h; omega)
  obtain ⟨f, l, rfl⟩ := List.exists_cons_of_length_pos (l := l) (by simp at h; omega)
  obtain rfl : l = [] := by simpa using h
  exact ⟨a, b, c, d, e, f, rfl⟩
set_option maxRecDepth 100000 in
theorem gram_of_oneT {H : Type} {enc : TypeId × Value → H} {W : World} {fuel : Nat} {cl : List Value} {x : DataW H × List MemPlace} (hcl : cl.length = 6)
    (hf : DataW.trod enc Tryd.prog W 0 (fun _ => true) true fuel 25 cl = some x) : ∃ (g : Gm) (pv lv sv : Value), cl.toArray = gvs g pv lv sv ∧ GrM W g pv lv sv ∧ WfG g := by
  obtain ⟨xs, k, hk, hxy, _, hxl, hff⟩ := DataW.trod_struct Tryd.underlying25 hf
  obtain ⟨u0, u1, u2, u3, u4, u5, rfl⟩ := sixT cl hcl
  have hxl' : xs.length = 6 := hxl
  obtain ⟨y0, y1, y2, y3, y4, y5, rfl⟩ := sixT xs hxl'
  clear hf hcl hxl hxl' hxy
  have g0 := hff 0 _ rfl
  have g1 := hff 1 _ rfl
  have g2 := hff 2 _ rfl
  have g3 := hff 3 _ rfl
  have g4 := hff 4 _ rfl
  have g5 := hff 5 _ rfl
  clear hff
  have c1 : Tryd.prog.cellsOf 3 = 1 := by kernel_rfl
  have c2 : Tryd.prog.cellsOf 23 = 1 := by kernel_rfl
  have c3 : Tryd.prog.cellsOf 22 = 1 := by kernel_rfl
  simp [c1, c2, c3] at g0 g1 g2 g3 g4 g5
  obtain ⟨z0, e0, _, _⟩ := DataW.trod_int Tryd.underlying3 g0
  obtain ⟨z1, e1, _, _⟩ := DataW.trod_int Tryd.underlying3 g1
  obtain ⟨z2, e2, _, _⟩ := DataW.trod_int Tryd.underlying3 g2
  obtain ⟨ps, hps1, hps2⟩ := prods_of_oneT g3
  obtain ⟨ls, hls1, _, _⟩ := ints_of_oneT g4
  obtain ⟨ss, hss1, _, _⟩ := ints_of_oneT g5
  simp at e0 e1 e2
  exact ⟨⟨z0, z1, z2, ps, ls, ss⟩, u3, u4, u5, by rw [e0, e1, e2]; rfl, ⟨hps1, hls1, hss1⟩, hps2⟩



theorem acts_of_oneT {H : Type} {enc : TypeId × Value → H} {W : World} {fuel : Nat} {v : Value} {x : DataW H × List MemPlace}
    (hf : DataW.trod enc Tryd.prog W 0 (fun _ => true) true fuel 50 [v] = some x) : ∃ l : List Ac, AcsM W v l := by
  have hc2 : Tryd.prog.cellsOf 53 = 2 := by kernel_rfl
  rcases Deep.open_slice Tryd.underlying50 hf with ⟨hcs, _⟩ | ⟨a, len, cap, m, n, D, Pl, hcs, _, hl, _, hmm, _, hx⟩
  · simp at hcs
    subst hcs
    exact ⟨[], none, 0, rfl, .inl rfl⟩
  · simp at hcs
    subst hcs
    have hmn : len ≤ m := by rw [hmm]; simpa using hl
    have each : ∀ i, ∃ q : Ac, i < len → W.cell? (a.add (i * 2)) = some (.int .i64 q.kind) ∧ W.cell? (a.add (i * 2 + 1)) = some (.int .i64 q.to) := fun i => by
      by_cases hi : i < len
      · obtain ⟨cs', h1, h2⟩ := hx i (by omega)
        rw [hc2] at h1
        obtain ⟨_, hlen, hcell⟩ := World.cells?_some h1
        obtain ⟨xs, k, hk, hxy, _, hxl, hff⟩ := DataW.trod_struct Tryd.underlying53 h2
        match xs, hxl, cs', hlen with
        | [y0, y1], _, [v0, v1], _ =>
          have g0 := hff 0 _ rfl
          have g1 := hff 1 _ rfl
          have c1 : Tryd.prog.cellsOf 3 = 1 := by kernel_rfl
          simp [c1] at g0 g1
          obtain ⟨z0, e0, _, _⟩ := DataW.trod_int Tryd.underlying3 g0
          obtain ⟨z1, e1, _, _⟩ := DataW.trod_int Tryd.underlying3 g1
          simp at e0 e1
          have d0 := hcell 0 (by omega)
          have d1 := hcell 1 (by omega)
          rw [Deep.add_add] at d0 d1
          exact ⟨⟨z0, z1⟩, fun _ => ⟨by simpa [e0] using d0, by simpa [e1] using d1⟩⟩
      · exact ⟨noAc, fun h => absurd h hi⟩
    obtain ⟨F, hF⟩ := Classical.axiomOfChoice each
    have hg : ∀ j, j < len → ((List.range len).map F).getD j noAc = F j := fun j hj => by simp [hj]
    refine ⟨(List.range len).map F, ?_⟩
    by_cases hn : len = 0
    · subst hn
      exact ⟨some a, cap, by simp, .inl rfl⟩
    · obtain ⟨b, off, spot⟩ := a
      have h0 := (hF 0 (by omega)).1
      have hspot : spot = none := by simpa [Addr.add] using World.cell?_spot h0
      subst hspot
      refine ⟨_, cap, by simp, .inr ⟨b, off, rfl, ?_, fun j hj => ?_⟩⟩
      · rw [addr_addT] at h0
        exact cell_blkT h0
      · have hj' : j < len := by simpa using hj
        rw [hg j hj']
        obtain ⟨x0, x1⟩ := hF j hj'
        rw [addr_addT] at x0 x1
        exact ⟨x0, by rw [Nat.add_assoc]; exact x1⟩
theorem rows_of_oneT {α : Type} {H : Type} {enc : TypeId × Value → H} {W : World} {fuel : Nat} {v : Value} {x : DataW H × List MemPlace} {T E : TypeId} (R : World → Value → List α → Prop) (hu : Tryd.prog.underlying T = some (.slice E)) (hc1 : Tryd.prog.cellsOf E = 1)
    (hone : ∀ (fuel : Nat) (u : Value) (y : DataW H × List MemPlace), DataW.trod enc Tryd.prog W 0 (fun _ => true) true fuel E [u] = some y → ∃ l : List α, R W u l)
    (hf : DataW.trod enc Tryd.prog W 0 (fun _ => true) true fuel T [v] = some x) : ∃ ll : List (List α), RowsM R W v ll := by
  rcases Deep.open_slice hu hf with ⟨hcs, _⟩ | ⟨a, len, cap, m, n, D, Pl, hcs, _, hl, _, hmm, _, hx⟩
  · simp at hcs
    subst hcs
    exact ⟨[], none, 0, rfl, .inl rfl⟩
  · simp at hcs
    subst hcs
    have hmn : len ≤ m := by rw [hmm]; simpa using hl
    have each : ∀ i, ∃ q : List α × Value, i < len → W.cell? (a.add i) = some q.2 ∧ R W q.2 q.1 := fun i => by
      by_cases hi : i < len
      · obtain ⟨cs', h1, h2⟩ := hx i (by omega)
        rw [hc1] at h1
        obtain ⟨_, hlen, hcell⟩ := World.cells?_some h1
        match cs', hlen with
        | [v0], _ =>
          obtain ⟨l, hl⟩ := hone _ v0 _ h2
          have d0 := hcell 0 (by omega)
          rw [Deep.add_add] at d0
          exact ⟨(l, v0), fun _ => ⟨by simpa using d0, hl⟩⟩
      · exact ⟨([], .nilFunc), fun h => absurd h hi⟩
    obtain ⟨F, hF⟩ := Classical.axiomOfChoice each
    have hg : ∀ j, j < len → ((List.range len).map fun i => (F i).1).getD j [] = (F j).1 := fun j hj => by simp [hj]
    refine ⟨(List.range len).map fun i => (F i).1, ?_⟩
    by_cases hn : len = 0
    · subst hn
      exact ⟨some a, cap, by simp, .inl rfl⟩
    · obtain ⟨b, off, spot⟩ := a
      have h0 := (hF 0 (by omega)).1
      have hspot : spot = none := by simpa [Addr.add] using World.cell?_spot h0
      subst hspot
      refine ⟨_, cap, by simp, .inr ⟨b, off, rfl, ?_, fun j hj => ?_⟩⟩
      · rw [addr_addT] at h0
        exact cell_blkT h0
      · have hj' : j < len := by simpa using hj
        rw [hg j hj']
        obtain ⟨x0, x1⟩ := hF j hj'
        rw [addr_addT] at x0
        exact ⟨(F j).2, x0, x1⟩
theorem threeT {α : Type} : ∀ (l : List α), l.length = 3 → ∃ a b c, l = [a, b, c] := by
  intro l h
  obtain ⟨a, l, rfl⟩ := List.exists_cons_of_length_pos (l := l) (by omega)
  obtain ⟨b, l, rfl⟩ := List.exists_cons_of_length_pos (l := l) (by simp at h; omega)
  obtain ⟨c, l, rfl⟩ := List.exists_cons_of_length_pos (l := l) (by simp at h; omega)
  obtain rfl : l = [] := by simpa using h
  exact ⟨a, b, c, rfl⟩
theorem table_of_oneT {H : Type} {enc : TypeId × Value → H} {W : World} {fuel : Nat} {cl : List Value} {x : DataW H × List MemPlace} (hcl : cl.length = 3)
    (hf : DataW.trod enc Tryd.prog W 0 (fun _ => true) true fuel 30 cl = some x) : ∃ (tb : Tb) (av ov cv : Value), cl.toArray = tvs av ov cv ∧ TbM W tb av ov cv := by
  obtain ⟨xs, k, hk, hxy, _, hxl, hff⟩ := DataW.trod_struct Tryd.underlying30 hf
  obtain ⟨u0, u1, u2, rfl⟩ := threeT cl hcl
  have hxl' : xs.length = 3 := hxl
  obtain ⟨y0, y1, y2, rfl⟩ := threeT xs hxl'
  clear hf hcl hxl hxl' hxy
  have g0 := hff 0 _ rfl
  have g1 := hff 1 _ rfl
  have g2 := hff 2 _ rfl
  clear hff
  have c1 : Tryd.prog.cellsOf 26 = 1 := by kernel_rfl
  have c2 : Tryd.prog.cellsOf 27 = 1 := by kernel_rfl
  have c3 : Tryd.prog.cellsOf 28 = 1 := by kernel_rfl
  simp [c1, c2, c3] at g0 g1 g2
  obtain ⟨al, hal⟩ := rows_of_oneT AcsM Tryd.underlying26 (by kernel_rfl) (fun _ _ _ h => acts_of_oneT h) g0
  obtain ⟨ol, hol⟩ := rows_of_oneT IntsR Tryd.underlying27 (by kernel_rfl) (fun _ _ _ h => by obtain ⟨l, h1, _⟩ := ints_of_oneT h; exact ⟨l, h1⟩) g1
  refine ⟨⟨al, ol⟩, u0, u1, u2, rfl, ⟨hal, hol, ?_⟩⟩
  rcases Deep.open_slice Tryd.underlying28 g2 with ⟨hcs, _⟩ | ⟨a, len, cap, m, n, D, Pl, hcs, _⟩
  · simp at hcs
    exact ⟨none, 0, 0, hcs⟩
  · simp at hcs
    exact ⟨_, _, _, hcs⟩

theorem pa_laidOut : laidOutB Tryd.prog = true := by kernel_rfl
set_option maxHeartbeats 2000000 in
theorem pa_lifted (os : Os) (started : os.Started) (H : Type) (enc : TypeId × Value → H) :
    ReturnsInHanded {} Tryd.checked os 3 .any (fun w args => (Rows.parseAnySpec.pre enc Tryd.prog Tryd.f3 [] false w args ∧ laidMetH Tryd.prog Rows.parseAnyRow.laid w) ∧ sizedMet enc Tryd.prog Tryd.f3 (OpenSpec.ofChange Rows.parseAnySpec) false w args)
      (Rows.parseAnySpec.post enc Tryd.prog Tryd.f3 false true false false) := by
  refine returnsInHanded_of_change_and (C := Tryd.checked) (X := fun w _ => laidMetH Tryd.prog Rows.parseAnyRow.laid w) (fun _ _ _ hh h => h.of_heap hh) Tryd.own started (by kernel_rfl) Tryd.func3
    (ChangeSpec.witness_at (enc := enc) (C := Tryd.checked) (os := os) (X := fun w _ => laidMetH Tryd.prog Rows.parseAnyRow.laid w) false { World.holding Tryd.prog os ⟨laidBlocks, #[], []⟩ with heap := laidHeap 13 (World.holding Tryd.prog os ⟨laidBlocks, #[], []⟩).heap } #[.agg #[.int .i64 0, .int .i64 0, .int .i64 0, .slice none 0 0, .slice none 0 0, .slice none 0 0], .agg #[.slice none 0 0, .slice none 0 0, .slice none 0 0], .slice none 0 0] 8 rfl (by kernel_rfl) (by kernel_rfl) (by kernel_rfl) (by kernel_rfl) (by kernel_rfl) (laidWorld_met os _)) ?_
  intro W base args ds gs before hval0 hW _ _ hL _
  have hval : ∀ (j : Nat) t v, Tryd.f3.params[j]? = some t → args[j]? = some v → Value.okWide Tryd.prog W .any base t v := hval0
  have hW' := hW
  obtain ⟨p, q, hA0, hV0, rfl, hfz, hnd⟩ := hW
  have hA : DataW.TrodAll enc Tryd.prog W 0 (fun _ => true) true Tryd.f3.params.toList args.toList ds p := hA0
  rw [Tryd.params3] at hA hval
  obtain ⟨v0, vs0, d0, ds0, p0, q0, hargs, rfl, rfl, h0, r0⟩ := trodAll_cons hA
  obtain ⟨v1, vs1, d1, ds1, p1, q1, rfl, rfl, rfl, h1, r1⟩ := trodAll_cons r0
  obtain ⟨v2, vs2, d2, ds2, p2, q2, rfl, rfl, rfl, h2, r2⟩ := trodAll_cons r1
  obtain ⟨rfl, rfl, rfl⟩ := trodAll_nil r2
  obtain rfl : args = #[v0, v1, v2] := by cases args; simp_all
  obtain ⟨rfl, rfl⟩ := trodVars_none hV0
  obtain ⟨cs, rfl, hcs⟩ := okWide_struct Tryd.underlying25 (hval 0 25 v0 rfl rfl)
  have hc6 : Tryd.prog.cellsOf 25 = 6 := by kernel_rfl
  rw [hc6] at hcs
  obtain ⟨ct, rfl, hct⟩ := okWide_struct Tryd.underlying30 (hval 1 30 v1 rfl rfl)
  have hc3 : Tryd.prog.cellsOf 30 = 3 := by kernel_rfl
  rw [hc3] at hct
  obtain ⟨a2, n2, c2, rfl⟩ := okWide_slice Tryd.underlying23 (hval 2 23 v2 rfl rfl)
  have k0 := h0
  have k1 := h1
  have k2 := h2
  have lt0 : ∀ x ∈ p0, x.block < W.heap.size := by obtain ⟨m, hm⟩ := k0; exact DataW.trod_lt m _ _ _ hm
  have lt1 : ∀ x ∈ p1, x.block < W.heap.size := by obtain ⟨m, hm⟩ := k1; exact DataW.trod_lt m _ _ _ hm
  have lt2 : ∀ x ∈ p2, x.block < W.heap.size := by obtain ⟨m, hm⟩ := k2; exact DataW.trod_lt m _ _ _ hm
  obtain ⟨g, pv, lv, sv, hgv, hGr, hWf⟩ : ∃ (g : Gm) (pv lv sv : Value), cs = gvs g pv lv sv ∧ GrM W g pv lv sv ∧ WfG g := by
    obtain ⟨fuel, hf⟩ := h0
    obtain ⟨cl⟩ := cs
    exact gram_of_oneT (by simpa using hcs) (by simpa [Value.cells] using hf)
  obtain ⟨tb, av, ov, cv, htv, hTb⟩ : ∃ (tb : Tb) (av ov cv : Value), ct = tvs av ov cv ∧ TbM W tb av ov cv := by
    obtain ⟨fuel, hf⟩ := h1
    obtain ⟨cl⟩ := ct
    exact table_of_oneT (by simpa using hct) (by simpa [Value.cells] using hf)
  obtain ⟨inp, hIn, _⟩ : ∃ l : List Int, IntsR W (.slice a2 n2 c2) l ∧ (∀ z ∈ l, -9223372036854775808 ≤ z ∧ z ≤ 9223372036854775807) ∧ (Light 23 d2 → l.length * 8 ≤ 140737488351232) := by
    obtain ⟨fuel, hf⟩ := h2
    exact ints_of_oneT (x := (d2, p2)) (by simpa [Value.cells] using hf)
  clear hA0 hV0 hval0
  subst hgv
  subst htv
  obtain ⟨a, hE⟩ := errs_of_laid hL
  have hLaw : Calls Tryd.prog 3 #[.agg (gvs g pv lv sv), .agg (tvs av ov cv), .slice a2 n2 c2] W fun e w' => e = .returned (.bool true) ∧ Below W.heap.size W w' := law_all ⟨g, pv, lv, sv, av, ov, cv, .slice a2 n2 c2⟩ tb inp a W hGr hTb hIn hWf hE
  refine hLaw.mono fun e W' ⟨he, bel⟩ => ?_
  subst he
  exact ⟨_, rfl, _, _, _, [], _, [], hW', trodAll_mk1 (shut_bool Tryd.underlying4 _), (trodAll_cons_mk (Below.trod pa_laidOut (by kernel_rfl) (of_decide_eq_true (by kernel_rfl)) k0 bel lt0) (trodAll_cons_mk (Below.trod pa_laidOut (by kernel_rfl) (of_decide_eq_true (by kernel_rfl)) k1 bel lt1) (trodAll_cons_mk (Below.trod pa_laidOut (by kernel_rfl) (of_decide_eq_true (by kernel_rfl)) k2 bel lt2) trodAll_mk0))), rfl, bel.frame _, fun h => by cases h⟩

theorem pa_row_holds : Rows.ParseAnySaid :=
  OpenClaim.holds_of_wide 3 Tryd.f3 rfl rfl rfl rfl rfl rfl rfl ⟨rfl, rfl, rfl, rfl, rfl⟩ rfl rfl rfl rfl rfl (by kernel_rfl) Tryd.func3 (by kernel_rfl)
    (of_decide_eq_true (by kernel_rfl)) (by unfold Func.isWrapper; rw [if_neg (of_decide_eq_false (by kernel_rfl))]; exact ⟨rfl, rfl⟩)
    (fun os started H enc _ => pa_lifted os started H enc)

theorem pa_card_holds : Rows.ParseAnyCardSaid :=
  Claim7.holds_tied_plain_at .later [] _ _ _ _
    pa_row_holds (fun _ h => by cases h) (by kernel_rfl) (fun _ h => by cases h) parseAny_row_tie rfl ⟨rfl, rfl⟩ (by kernel_rfl) rfl
    (fun f fn hf hfn => by
      obtain rfl : f = 3 := Option.some.inj ((show Tryd.prog.funcNamed "grammarsmith/grammarsmithlaw2.ParseAny" = some 3 by kernel_rfl).symm.trans hf) |>.symm
      obtain rfl : fn = Tryd.f3 := (Option.some.inj (Tryd.func3.symm.trans hfn)).symm
      exact ⟨by kernel_rfl, fun j t ht => by
        rw [Tryd.params3] at ht
        have h9 : t = 25 ∨ t = 30 ∨ t = 23 := by
          rcases j with _ | _ | _ | j
          · exact .inl (by simpa using ht.symm)
          · exact .inr (.inl (by simpa using ht.symm))
          · exact .inr (.inr (by simpa using ht.symm))
          · simp at ht
        rcases h9 with rfl | rfl | rfl
        · exact (show Tryd.prog.wantsStandIn 25 = false by kernel_rfl)
        · exact (show Tryd.prog.wantsStandIn 30 = false by kernel_rfl)
        · exact (show Tryd.prog.wantsStandIn 23 = false by kernel_rfl)⟩)
    (by kernel_rfl)

end Go.Proofs.YtdihdnhofgjhnaaDoor
