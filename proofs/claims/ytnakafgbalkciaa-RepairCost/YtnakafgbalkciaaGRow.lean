/- Rows of numbers that fill a block. -/
import Derived.Test.YtnakafgbalkciaaGMem
import Derived.Laws.MakeOwn
namespace Go.Proofs.Ytnakafgbalkciaa
open Go.RowKit
set_option linter.unusedVariables false
set_option maxRecDepth 100000

theorem Try.infoInt : (Try.prog.info? 3).map (fun i => (i.zero, i.size, i.bytes)) = some (some (.int .i64 0), 1, 8) := by kernel_rfl
theorem infoParts {o : Option TypeInfo} {z : Option Value} {n b : Nat} (h : o.map (fun i => (i.zero, i.size, i.bytes)) = some (z, n, b)) : ∃ i, o = some i ∧ i.zero = z ∧ i.size = n ∧ i.bytes = b := by
  cases o with
  | none => simp at h
  | some i => simp at h; exact ⟨i, rfl, h.1, h.2.1, h.2.2⟩
def intsA (l : List Int) : Array Value := (l.map fun z => Value.int .i64 z).toArray
theorem intsA_get (l : List Int) (j : Nat) (h : j < l.length) : (intsA l)[j]? = some (.int .i64 (l.getD j 0)) := by simp [intsA, h]
theorem intsA_set (l : List Int) (j : Nat) (x : Int) : (intsA l).setIfInBounds j (.int .i64 x) = intsA (l.set j x) := by simp [intsA, List.map_set]
theorem zerosA (m : Nat) : madeCells (Value.int .i64 0).cells m = intsA (List.replicate m 0) := by
  apply Array.ext
  · simp [madeCells, intsA]
  · intro i h1 h2
    simp [madeCells, intsA, Value.cells, Nat.mod_one]
theorem makeInts (m : Nat) (hm : m ≤ 1000000) (W : World) : (Instr.makeSlice 22 (.int .i64 m) (.int .i64 m)).run Try.prog W = .ok (.slice (some ⟨W.heap.size, 0, none⟩) m m) (W.alloc (.cells (intsA (List.replicate m 0)) 3)) := by
  obtain ⟨i0, hi, hz0, hz1, hz2⟩ := infoParts Try.infoInt
  have := run_make W 22 3 i0 (.int .i64 0) Try.underlying22 hi hz0 .i64 .i64 m m (by omega) (by omega) (by rw [hz2]; omega) (by omega)
  rw [this, hz1, zerosA]
  simp
/-- a row of numbers that fills a block -/
def Row (w : World) (D : Nat) (L : List Int) : Prop := w.heap[D]? = some (.cells (intsA L) 3 (0, 0))
theorem Row.cell {w : World} {D : Nat} {L : List Int} (h : Row w D L) {j : Nat} (hj : j < L.length) : w.cell? ⟨D, j, none⟩ = some (.int .i64 (L.getD j 0)) := by
  unfold Row at h
  simp only [World.cell?, h]
  exact intsA_get L j hj
theorem Row.lt {w : World} {D : Nat} {L : List Int} (h : Row w D L) : D < w.heap.size := (Array.getElem?_eq_some_iff.1 h).1
theorem Row.fz {w : World} {D : Nat} {L : List Int} (h : Row w D L) (j : Nat) : w.frozen? ⟨D, j, none⟩ = false := by
  unfold Row at h
  simp [World.frozen?, h]
theorem heap_setC (w : World) (b o : Nat) (cs : Array Value) (t : TypeId) (u : Value) (h : w.heap[b]? = some (.cells cs t (0, 0))) : (w.setCell ⟨b, o, none⟩ u).heap[b]? = some (.cells (cs.setIfInBounds o u) t (0, 0)) := by
  simp [World.setCell, Array.getElem?_modify, h]
theorem Row.set {w : World} {D : Nat} {L : List Int} (h : Row w D L) (j : Nat) (x : Int) : Row (w.setCell ⟨D, j, none⟩ (.int .i64 x)) D (L.set j x) := by
  unfold Row at *
  rw [heap_setC _ _ _ _ _ _ h, intsA_set]
theorem below_set {B : Nat} {w w' : World} (h : Below B w w') {D : Nat} (hD : B ≤ D) (o : Nat) (v : Value) : Below B w (w'.setCell ⟨D, o, none⟩ v) :=
  ⟨h.os, h.tape, h.output, by simpa using h.size, fun k hk => (Below.heap_setCell _ _ _ _ (by simp; omega)).trans (h.block k hk)⟩
theorem Row.ints {w : World} {D : Nat} {L : List Int} (h : Row w D L) : IntsR w (.slice (some ⟨D, 0, none⟩) L.length L.length) L :=
  ⟨_, _, rfl, .inr ⟨D, 0, rfl, h.lt, fun j hj => by rw [Nat.zero_add]; exact h.cell hj⟩⟩

/-- the productions of a name -/
def ownL (ps : List PdR) (n : Nat) : List PdR := ps.filter fun p => decide (p.left = (n : Int))
def PdOk (N : Nat) (p : PdR) : Prop := 0 ≤ p.left ∧ p.left < N ∧ p.right.length ≤ 20 ∧ ∀ j, j < p.right.length → -(N : Int) ≤ p.right.getD j 0

/-- the productions of each name in memory, by a variable -/
def OwnM (w : World) (O N : Nat) (own : Nat → List PdR) : Prop :=
  ∃ D, O < w.heap.size ∧ D < w.heap.size ∧ w.cell? ⟨O, 0, none⟩ = some (.slice (some ⟨D, 0, none⟩) N N) ∧ ∀ n, n < N → ∃ v, w.cell? ⟨D, n, none⟩ = some v ∧ PdsM w v (own n)
theorem OwnM.below {w w' : World} {O N : Nat} {own : Nat → List PdR} (h : OwnM w O N own) (hb : Below w.heap.size w w') : OwnM w' O N own := by
  obtain ⟨D, h1, h2, h3, h4⟩ := h
  refine ⟨D, Nat.lt_of_lt_of_le h1 hb.size, Nat.lt_of_lt_of_le h2 hb.size, (hb.cell (p := ⟨O, 0, none⟩) h1).trans h3, fun n hn => ?_⟩
  obtain ⟨v, h5, h6⟩ := h4 n hn
  exact ⟨v, (hb.cell (p := ⟨D, n, none⟩) h2).trans h5, h6.below hb⟩

end Go.Proofs.Ytnakafgbalkciaa
