/- The program: links: new ones. -/
import Derived.Test.YtbgnhegfabpjnaaGNum
import Derived.Maps.OwnSet
import Derived.MapViews
namespace Go.Proofs.Ytbgnhegfabpjnaa
open Go.RowKit
set_option linter.unusedVariables false
set_option maxRecDepth 100000

/-- values that fill a block -/
def RowV (w : World) (D : Nat) (ty : TypeId) (vs : List Value) : Prop := w.heap[D]? = some (.cells vs.toArray ty (0, 0))
theorem RowV.cell {w : World} {D : Nat} {ty : TypeId} {vs : List Value} (h : RowV w D ty vs) (j : Nat) : w.cell? ⟨D, j, none⟩ = vs[j]? := by
  unfold RowV at h
  simp [World.cell?, h]
theorem RowV.lt {w : World} {D : Nat} {ty : TypeId} {vs : List Value} (h : RowV w D ty vs) : D < w.heap.size := (Array.getElem?_eq_some_iff.1 h).1
theorem RowV.fz {w : World} {D : Nat} {ty : TypeId} {vs : List Value} (h : RowV w D ty vs) (j : Nat) : w.frozen? ⟨D, j, none⟩ = false := by
  unfold RowV at h
  simp [World.frozen?, h]
theorem RowV.set {w : World} {D : Nat} {ty : TypeId} {vs : List Value} (h : RowV w D ty vs) (j : Nat) (x : Value) : RowV (w.setCell ⟨D, j, none⟩ x) D ty (vs.set j x) := by
  unfold RowV at *
  rw [heap_setC _ _ _ _ _ _ h]
  simp
theorem Try.infoMap : (Try.prog.info? 62).map (fun i => (i.zero, i.size, i.bytes)) = some (some (.map none), 1, 8) := by kernel_rfl
theorem nilsA (m : Nat) : madeCells (Value.map none).cells m = (Array.replicate m (Value.map none)) := by
  apply Array.ext
  · simp [madeCells, Value.cells]
  · intro i h1 h2
    simp [madeCells, Value.cells, Nat.mod_one]
theorem makeLinks (m : Nat) (hm : m ≤ 1000000) (W : World) : (Instr.makeSlice 45 (.int .i64 m) (.int .i64 m)).run Try.prog W = .ok (.slice (some ⟨W.heap.size, 0, none⟩) m m) (W.alloc (.cells (Array.replicate m (Value.map none)) 62)) := by
  obtain ⟨i0, hi, hz0, hz1, hz2⟩ := infoParts Try.infoMap
  have := run_make W 45 62 i0 (.map none) Try.underlying45 hi hz0 .i64 .i64 m m (by omega) (by omega) (by rw [hz2]; omega) (by omega)
  rw [this, hz1, nilsA]
  simp

/-- so many new maps, one behind the other -/
structure NewM (w : World) (D N k : Nat) (vs : List Value) : Prop where
  row : RowV w D 62 vs
  len : vs.length = N
  at_ : ∀ j, j < k → vs[j]? = some (.map (some (D + 1 + j))) ∧ w.heap[D + 1 + j]? = some (.map #[] 0)
  size : w.heap.size = D + 1 + k

set_option maxHeartbeats 4000000 in
theorem newLinks_any (N : Nat) (hN : N ≤ 300) (w : World) :
    Calls Try.prog 40 #[.int .i64 N] w fun e w' => e = .returned (.slice (some ⟨w.heap.size, 0, none⟩) N N) ∧ (∃ vs, NewM w' w.heap.size N N vs) ∧ Below w.heap.size w w' := by
  have hmm := @run_makeMap Try.prog
  have hmk := makeLinks N (by omega)
  have HN0 : Hid (NewM (w.alloc (.cells (Array.replicate N (Value.map none)) 62)) w.heap.size N 0 (List.replicate N (Value.map none))) := by
    refine ⟨?_, by simp, fun j hj => by omega, alloc_size _ _⟩
    show (w.heap.push _)[w.heap.size]? = some (.cells (List.replicate N (Value.map none)).toArray 62 (0, 0))
    rw [List.toArray_replicate]
    exact Array.getElem?_push_size
  have hb0 := alloc_below w (.cells (Array.replicate N (Value.map none)) 62)
  go_enter Try.func40, Try.ntmps40
  go_wp2
  clear hmk
  generalize w.alloc (.cells (Array.replicate N (Value.map none)) 62) = w1 at *
  go_loopw [9] (fun i wr => ∃ (k : Nat) (vs : List Value), k ≤ N ∧ i = .int .i64 k ∧ Hid (NewM wr w.heap.size N k vs) ∧ Below w.heap.size w wr) (fun i _ => N - (intOf i).toNat)
  case atStart => exact ⟨0, _, Nat.zero_le _, rfl, HN0, hb0⟩
  case round =>
    obtain ⟨k, vs, hk, rfl, HM, hbw⟩ := hrel
    have hDlt := HM.out.row.lt
    by_cases hlt : k < N
    · have hss : (wr.setCell ⟨w.heap.size, k, none⟩ (.map (some wr.heap.size))).heap.size = wr.heap.size := by simp
      have HA : Hid (NewM ((wr.setCell ⟨w.heap.size, k, none⟩ (.map (some wr.heap.size))).alloc (.map #[] 0)) w.heap.size N (k + 1) (vs.set k (.map (some wr.heap.size)))) := by
        obtain ⟨m1, m2, m3, m4⟩ := HM.out
        refine ⟨(Below.heap_alloc _ _ _ (by rw [hss]; exact hDlt)).trans (m1.set k _), by simp [m2], fun j hj => ?_, ?_⟩
        · by_cases e : j = k
          · subst e
            refine ⟨by simp [m2, hlt, m4], ?_⟩
            have h9 : ∀ W : World, (W.alloc (.map #[] 0)).heap[W.heap.size]? = some (.map #[] 0) := fun W => by
              show (W.heap.push _)[W.heap.size]? = _
              exact Array.getElem?_push_size
            have h8 := h9 (wr.setCell ⟨w.heap.size, j, none⟩ (.map (some wr.heap.size)))
            rw [hss] at h8
            rw [← m4]
            exact h8
          · obtain ⟨h1, h2⟩ := m3 j (by omega)
            refine ⟨by rw [List.getElem?_set_ne (Ne.symm e)]; exact h1, ?_⟩
            rw [Below.heap_alloc _ _ _ (by rw [hss]; omega), Below.heap_setCell _ _ _ _ (by simp; omega)]
            exact h2
        · rw [alloc_size, hss]
          omega
      have hb2 : Below w.heap.size w ((wr.setCell ⟨w.heap.size, k, none⟩ (.map (some wr.heap.size))).alloc (.map #[] 0)) := (below_set hbw (Nat.le_refl _) k _).trans ((alloc_below _ _).mono (by rw [hss]; exact hbw.size))
      clear hss
      have hrow : RowV (wr.alloc (.map #[] 0)) w.heap.size 62 vs := (Below.heap_alloc _ _ _ hDlt).trans HM.out.row
      obtain ⟨old, hold⟩ : ∃ old, vs[k]? = some old := ⟨vs[k]'(by rw [HM.out.len]; exact hlt), by simp⟩
      have cD : (wr.alloc (.map #[] 0)).cell? ⟨w.heap.size, k, none⟩ = some old := (hrow.cell k).trans hold
      have fz := hrow.fz k
      have hDlt2 := hrow.lt
      clear hrow hold HM
      go_wp2
      go_roundw
      case rel => exact ⟨k + 1, _, by omega, by go_num, HA, hb2⟩
      case measure => simp [intOf]; omega
    · obtain rfl : k = N := by omega
      go_wp2
      go_ret
      exact ⟨rfl, ⟨vs, HM.out⟩, hbw⟩

end Go.Proofs.Ytbgnhegfabpjnaa
