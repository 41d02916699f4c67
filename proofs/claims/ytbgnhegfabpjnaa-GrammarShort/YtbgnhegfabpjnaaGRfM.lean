/- The document's shortest sentences in memory. -/
import Derived.Test.YtbgnhegfabpjnaaGRfP
import Derived.Test.YtbgnhegfabpjnaaGOwn
namespace Go.Proofs.Ytbgnhegfabpjnaa
open Go.RowKit
set_option linter.unusedVariables false
set_option maxRecDepth 100000

theorem Try.infoInts : (Try.prog.info? 23).map (fun i => (i.zero, i.size, i.bytes)) = some (some (.slice none 0 0), 1, 24) := by kernel_rfl
theorem Try.infoBool : (Try.prog.info? 4).map (fun i => (i.zero, i.size, i.bytes)) = some (some (.bool false), 1, 1) := by kernel_rfl
theorem falsesA (m : Nat) : madeCells (Value.bool false).cells m = (Array.replicate m (Value.bool false)) := by
  apply Array.ext
  · simp [madeCells, Value.cells]
  · intro i h1 h2
    simp [madeCells, Value.cells, Nat.mod_one]
theorem makeRows (m : Nat) (hm : m ≤ 1000000) (W : World) : (Instr.makeSlice 39 (.int .i64 m) (.int .i64 m)).run Try.prog W = .ok (.slice (some ⟨W.heap.size, 0, none⟩) m m) (W.alloc (.cells (Array.replicate m (Value.slice none 0 0)) 23)) := by
  obtain ⟨i0, hi, hz0, hz1, hz2⟩ := infoParts Try.infoInts
  have := run_make W 39 23 i0 (.slice none 0 0) Try.underlying39 hi hz0 .i64 .i64 m m (by omega) (by omega) (by rw [hz2]; omega) (by omega)
  rw [this, hz1, nilsS]
  simp
theorem makeBools (m : Nat) (hm : m ≤ 1000000) (W : World) : (Instr.makeSlice 40 (.int .i64 m) (.int .i64 m)).run Try.prog W = .ok (.slice (some ⟨W.heap.size, 0, none⟩) m m) (W.alloc (.cells (Array.replicate m (Value.bool false)) 4)) := by
  obtain ⟨i0, hi, hz0, hz1, hz2⟩ := infoParts Try.infoBool
  have := run_make W 40 4 i0 (.bool false) Try.underlying40 hi hz0 .i64 .i64 m m (by omega) (by omega) (by rw [hz2]; omega) (by omega)
  rw [this, hz1, falsesA]
  simp
/-- numbers in memory, not in two blocks -/
def IntsN (w : World) (X Y : Nat) (v : Value) (l : List Int) : Prop := ∃ a c, v = .slice a l.length c ∧ ((v = .slice none 0 0 ∧ l = []) ∨ ∃ g off, a = some ⟨g, off, none⟩ ∧ g < w.heap.size ∧ g ≠ X ∧ g ≠ Y ∧ ∀ j, j < l.length → w.cell? ⟨g, off + j, none⟩ = some (.int .i64 (l.getD j 0)))
theorem IntsN.ints {w : World} {X Y : Nat} {v : Value} {l : List Int} (h : IntsN w X Y v l) : IntsR w v l := by
  obtain ⟨a, c, e, h2⟩ := h
  exact ⟨a, c, e, h2.imp (fun h => h.2) fun ⟨g, off, e1, h3, _, _, h5⟩ => ⟨g, off, e1, h3, h5⟩⟩
theorem IntsN.kept {w w' : World} {X Y : Nat} {v : Value} {l : List Int} (h : IntsN w X Y v l) (hs : w.heap.size ≤ w'.heap.size) (hk : ∀ k, k < w.heap.size → k ≠ X → k ≠ Y → w'.heap[k]? = w.heap[k]?) : IntsN w' X Y v l := by
  obtain ⟨a, c, e, h2⟩ := h
  refine ⟨a, c, e, h2.imp id fun ⟨g, off, e1, h3, h4, h5, h6⟩ => ⟨g, off, e1, Nat.lt_of_lt_of_le h3 hs, h4, h5, fun j hj => ?_⟩⟩
  have := h6 j hj
  simp only [World.cell?] at this ⊢
  rw [hk g h3 h4 h5]; exact this
theorem OwnI.ints {w : World} {B X Y : Nat} {v : Value} {l : List Int} (h : OwnI w B v l) (hX : X < B) (hY : Y < B) : IntsN w X Y v l := by
  rcases h.2 with ⟨e, h0⟩ | ⟨g, cap, cur, e, hB, hg, hcap, _⟩
  · exact ⟨none, 0, by rw [e, h0], .inl ⟨e, List.eq_nil_of_length_eq_zero h0⟩⟩
  · subst e
    refine ⟨_, _, rfl, .inr ⟨g, 0, rfl, (Array.getElem?_eq_some_iff.1 hg).1, by omega, by omega, fun j hj => ?_⟩⟩
    unfold OwnI at h
    rw [Nat.zero_add, h.cellAt j (by omega)]
    simp [List.getD, hj]
structure BsM (w : World) (X Y N : Nat) (F : List (Option (List Int))) (vs : List Value) : Prop where
  rowB : RowV w X 23 vs
  rowH : RowV w Y 4 (F.map fun o => Value.bool o.isSome)
  vl : vs.length = N
  fl : F.length = N
  at_ : ∀ n, n < N → IntsN w X Y (vs.getD n .nilFunc) ((factU F n).getD [])
theorem BsM.below {w w' : World} {X Y N : Nat} {F : List (Option (List Int))} {vs : List Value} (h : BsM w X Y N F vs) (hb : Below w.heap.size w w') : BsM w' X Y N F vs :=
  ⟨(hb.block X h.rowB.lt).trans h.rowB, (hb.block Y h.rowH.lt).trans h.rowH, h.vl, h.fl, fun n hn => (h.at_ n hn).kept hb.size fun k hk _ _ => hb.block k hk⟩
theorem BsM.cB {w : World} {X Y N : Nat} {F : List (Option (List Int))} {vs : List Value} (h : BsM w X Y N F vs) {n : Nat} (hn : n < N) : w.cell? ⟨X, n, none⟩ = some (vs.getD n .nilFunc) := by
  rw [h.rowB.cell]
  have := h.vl
  simp [List.getD, show n < vs.length by omega]
theorem BsM.cH {w : World} {X Y N : Nat} {F : List (Option (List Int))} {vs : List Value} (h : BsM w X Y N F vs) {n : Nat} (hn : n < N) : w.cell? ⟨Y, n, none⟩ = some (.bool (factU F n).isSome) := by
  rw [h.rowH.cell]
  have := h.fl
  unfold factU
  simp [List.getD, show n < F.length by omega]
theorem BsM.start {W : World} {N : Nat} : BsM ((W.alloc (.cells (Array.replicate N (Value.slice none 0 0)) 23)).alloc (.cells (Array.replicate N (Value.bool false)) 4)) W.heap.size (W.heap.size + 1) N (List.replicate N none) (List.replicate N (Value.slice none 0 0)) := by
  have hs := alloc_size W (.cells (Array.replicate N (Value.slice none 0 0)) 23)
  refine ⟨?_, ?_, by simp, by simp, fun n hn => ?_⟩
  · refine (Below.heap_alloc _ _ _ (by rw [hs]; omega)).trans ?_
    show (W.heap.push _)[W.heap.size]? = some (.cells (List.replicate N (Value.slice none 0 0)).toArray 23 (0, 0))
    rw [List.toArray_replicate]
    exact Array.getElem?_push_size
  · show ((W.alloc (.cells (Array.replicate N (Value.slice none 0 0)) 23)).heap.push _)[W.heap.size + 1]? = _
    rw [← hs, Array.getElem?_push_size]
    simp [List.map_replicate, List.toArray_replicate]
  · have e1 : (List.replicate N (Value.slice none 0 0)).getD n .nilFunc = .slice none 0 0 := by simp [List.getD, hn]
    have e2 : factU (List.replicate N none) n = none := by unfold factU; simp [List.getD, hn]
    rw [e1, e2]
    exact ⟨none, 0, rfl, .inl ⟨rfl, rfl⟩⟩
/-- a better one is stored -/
theorem BsM.set {w : World} {X Y N lf : Nat} {F : List (Option (List Int))} {vs : List Value} {v : Value} {l : List Int} (h : BsM w X Y N F vs) (hXY : X ≠ Y) (hlf : lf < N) (hv : IntsN w X Y v l) : BsM ((w.setCell ⟨X, lf, none⟩ v).setCell ⟨Y, lf, none⟩ (.bool true)) X Y N (F.set lf (some l)) (vs.set lf v) := by
  have hsz : ((w.setCell ⟨X, lf, none⟩ v).setCell ⟨Y, lf, none⟩ (.bool true)).heap.size = w.heap.size := by simp
  have hk : ∀ k, k < w.heap.size → k ≠ X → k ≠ Y → ((w.setCell ⟨X, lf, none⟩ v).setCell ⟨Y, lf, none⟩ (.bool true)).heap[k]? = w.heap[k]? := fun k _ h1 h2 => (Below.heap_setCell _ _ _ _ (by simpa using h2)).trans (Below.heap_setCell _ _ _ _ (by simpa using h1))
  refine ⟨?_, ?_, by simp [h.vl], by simp [h.fl], fun n hn => ?_⟩
  · show _ = _
    rw [Below.heap_setCell _ _ _ _ (by simpa using hXY)]
    exact h.rowB.set lf v
  · have h1 : RowV (w.setCell ⟨X, lf, none⟩ v) Y 4 (F.map fun o => Value.bool o.isSome) := (Below.heap_setCell _ _ _ _ (by simpa using Ne.symm hXY)).trans h.rowH
    have h2 := h1.set lf (.bool true)
    rw [List.map_set]
    exact h2
  · rw [factU_set h.fl hlf]
    by_cases e : n = lf
    · subst e
      rw [if_pos rfl, getD_set_eq _ _ _ _ (by rw [h.vl]; exact hn)]
      exact hv.kept (by rw [hsz]; exact Nat.le_refl _) hk
    · rw [if_neg e, getD_set_ne _ _ _ _ _ (Ne.symm e)]
      exact (h.at_ n hn).kept (by rw [hsz]; exact Nat.le_refl _) hk

end Go.Proofs.Ytbgnhegfabpjnaa
