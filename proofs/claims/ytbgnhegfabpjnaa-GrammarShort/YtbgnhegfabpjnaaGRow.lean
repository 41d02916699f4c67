/- Rows of numbers that fill a block. -/
import Derived.Test.YtbgnhegfabpjnaaGMem
import Derived.Laws.MakeOwn
namespace Go.Proofs.Ytbgnhegfabpjnaa
open Go.RowKit
set_option linter.unusedVariables false
set_option maxRecDepth 100000

theorem Try.infoInt : (Try.prog.info? 3).map (fun i => (i.zero, i.size, i.bytes)) = some (some (.int .i64 0), 1, 8) := by kernel_rfl
theorem infoParts {o : Option TypeInfo} {z : Option Value} {n b : Nat} (h : o.map (fun i => (i.zero, i.size, i.bytes)) = some (z, n, b)) : ∃ i, o = some i ∧ i.zero = z ∧ i.size = n ∧ i.bytes = b := by
  cases o with
  | none => simp at h
  | some i => simp at h; exact ⟨i, rfl, h.1, h.2.1, h.2.2⟩
def intsA (l : List Int) : Array Value := (l.map fun z => Value.int .i64 z).toArray
theorem intsA_get (l : List Int) (j : Nat) (h : j < l.length) : (intsA l)[j]? = some (.int .i64 (l.getD j 0)) := by simp [intsA, h]
theorem intsA_set (l : List Int) (j : Nat) (x : Int) : (intsA l).setIfInBounds j (.int .i64 x) = intsA (l.set j x) := by simp [intsA, List.map_set]
theorem zerosA (m : Nat) : madeCells (Value.int .i64 0).cells m = intsA (List.replicate m 0) := by
  apply Array.ext
  · simp [madeCells, intsA]
  · intro i h1 h2
    simp [madeCells, intsA, Value.cells, Nat.mod_one]
theorem makeInts (m : Nat) (hm : m ≤ 1000000) (W : World) : (Instr.makeSlice 23 (.int .i64 m) (.int .i64 m)).run Try.prog W = .ok (.slice (some ⟨W.heap.size, 0, none⟩) m m) (W.alloc (.cells (intsA (List.replicate m 0)) 3)) := by
  obtain ⟨i0, hi, hz0, hz1, hz2⟩ := infoParts Try.infoInt
  have := run_make W 23 3 i0 (.int .i64 0) Try.underlying23 hi hz0 .i64 .i64 m m (by omega) (by omega) (by rw [hz2]; omega) (by omega)
  rw [this, hz1, zerosA]
  simp
/-- a row of numbers that fills a block -/
def Row (w : World) (D : Nat) (L : List Int) : Prop := w.heap[D]? = some (.cells (intsA L) 3 (0, 0))
theorem Row.cell {w : World} {D : Nat} {L : List Int} (h : Row w D L) {j : Nat} (hj : j < L.length) : w.cell? ⟨D, j, none⟩ = some (.int .i64 (L.getD j 0)) := by
  unfold Row at h
  simp only [World.cell?, h]
  exact intsA_get L j hj
theorem Row.lt {w : World} {D : Nat} {L : List Int} (h : Row w D L) : D < w.heap.size := (Array.getElem?_eq_some_iff.1 h).1
theorem heap_setC (w : World) (b o : Nat) (cs : Array Value) (t : TypeId) (u : Value) (h : w.heap[b]? = some (.cells cs t (0, 0))) : (w.setCell ⟨b, o, none⟩ u).heap[b]? = some (.cells (cs.setIfInBounds o u) t (0, 0)) := by
  simp [World.setCell, Array.getElem?_modify, h]
theorem Row.set {w : World} {D : Nat} {L : List Int} (h : Row w D L) (j : Nat) (x : Int) : Row (w.setCell ⟨D, j, none⟩ (.int .i64 x)) D (L.set j x) := by
  unfold Row at *
  rw [heap_setC _ _ _ _ _ _ h, intsA_set]
theorem Row.ints {w : World} {D : Nat} {L : List Int} (h : Row w D L) : IntsR w (.slice (some ⟨D, 0, none⟩) L.length L.length) L :=
  ⟨_, _, rfl, .inr ⟨D, 0, rfl, h.lt, fun j hj => by rw [Nat.zero_add]; exact h.cell hj⟩⟩

end Go.Proofs.Ytbgnhegfabpjnaa
