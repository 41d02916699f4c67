/- Texts of the proof, put together: GOpr. -/
import Derived.Test.YtmkimaceioacgaaDoorGk39
import Derived.Deep.Cut
namespace Go.Proofs.YtmkimaceioacgaaDoor
open Go.RowKit
set_option linter.unusedVariables false
set_option maxRecDepth 100000

def opC (p : Nat × Bool) : List Value := [.int .u64 p.1, .int .u64 0, .int .u64 0, .int .u64 0, .int .u64 0, .bool p.2]
def opsL (L : List (Nat × Bool)) : List Value := L.flatMap opC
theorem opsL_len (L : List (Nat × Bool)) : (opsL L).length = L.length * 6 := by
  induction L with
  | nil => rfl
  | cons m L ih => unfold opsL at *; rw [List.flatMap_cons, List.length_append, ih]; simp [opC]; omega
theorem opsL_get : ∀ (L : List (Nat × Bool)) (j k : Nat), j < L.length → k < 6 → (opsL L)[j * 6 + k]? = (opC (L.getD j (0, false)))[k]?
  | [], j, k, h, _ => by simp at h
  | m :: L, 0, k, _, hk => by
    unfold opsL
    rw [List.flatMap_cons, Nat.zero_mul, Nat.zero_add, List.getElem?_append_left (by simpa [opC] using hk)]
    rfl
  | m :: L, j + 1, k, h, hk => by
    have ih := opsL_get L j k (by simpa using h) hk
    unfold opsL at *
    rw [List.flatMap_cons, List.getElem?_append_right (by simp [opC]; omega)]
    rw [show (j + 1) * 6 + k - (opC m).length = j * 6 + k by simp [opC]; omega, ih]
    rfl
theorem opsL_set : ∀ (L : List (Nat × Bool)) (j m : Nat) (b : Bool), j < L.length → opsL (L.set j (m, b)) = ((((((opsL L).set (j * 6) (.int .u64 m)).set (j * 6 + 1) (.int .u64 0)).set (j * 6 + 2) (.int .u64 0)).set (j * 6 + 3) (.int .u64 0)).set (j * 6 + 4) (.int .u64 0)).set (j * 6 + 5) (.bool b)
  | [], j, m, b, h => by simp at h
  | x :: L, 0, m, b, _ => by
    unfold opsL
    rw [List.set_cons_zero, List.flatMap_cons, List.flatMap_cons]
    rfl
  | x :: L, j + 1, m, b, h => by
    have ih := opsL_set L j m b (by simpa using h)
    unfold opsL at *
    rw [List.set_cons_succ, List.flatMap_cons, List.flatMap_cons, ih]
    have e : ∀ (l : List Value) (k : Nat) (v : Value), (opC x ++ l).set ((j + 1) * 6 + k) v = opC x ++ l.set (j * 6 + k) v := fun l k v => by
      rw [List.set_append_right _ _ (by simp [opC]; omega)]
      congr 2
      simp [opC]
      omega
    have e0 := e (L.flatMap opC) 0 (.int .u64 m)
    simp only [Nat.add_zero] at e0
    rw [e0, e, e, e, e, e]
/-- a row of them that fills a block -/
def RowO (w : World) (D : Nat) (L : List (Nat × Bool)) : Prop := w.heap[D]? = some (.cells (opsL L).toArray 81 (0, 0))
def factQ (L : List (Nat × Bool)) (n : Nat) : Nat × Bool := L.getD n (0, false)
theorem factQ_set {N : Nat} {L : List (Nat × Bool)} (hl : L.length = N) {n : Nat} (hn : n < N) (a : Nat × Bool) (m : Nat) : factQ (L.set n a) m = if m = n then a else factQ L m := by
  unfold factQ
  by_cases e : m = n
  · rw [if_pos e, e]; simp [List.getD, hl, hn]
  · rw [if_neg e]
    simp only [List.getD]
    rw [List.getElem?_set_ne (Ne.symm e)]
theorem RowO.lt {w : World} {D : Nat} {L : List (Nat × Bool)} (h : RowO w D L) : D < w.heap.size := (Array.getElem?_eq_some_iff.1 h).1
theorem RowO.cell {w : World} {D : Nat} {L : List (Nat × Bool)} (h : RowO w D L) {j k : Nat} (hj : j < L.length) (hk : k < 6) : w.cell? ⟨D, j * 6 + k, none⟩ = (opC (factQ L j))[k]? := by
  unfold RowO at h
  have := opsL_get L j k hj hk
  simp only [World.cell?, h]
  rw [show factQ L j = L.getD j (0, false) from rfl, ← this]
  simp
theorem RowO.c0 {w : World} {D : Nat} {L : List (Nat × Bool)} (h : RowO w D L) {j : Nat} (hj : j < L.length) : w.cell? ⟨D, j * 6, none⟩ = some (.int .u64 (factQ L j).1) := by
  have := h.cell hj (k := 0) (by omega)
  rw [Nat.add_zero] at this
  exact this
theorem RowO.ck {w : World} {D : Nat} {L : List (Nat × Bool)} (h : RowO w D L) {j k : Nat} (hj : j < L.length) (hk : 1 ≤ k) (hk5 : k < 5) : w.cell? ⟨D, j * 6 + k, none⟩ = some (.int .u64 0) := by
  have := h.cell hj (k := k) (by omega)
  rcases k with _ | _ | _ | _ | _ | k
  · omega
  · exact this
  · exact this
  · exact this
  · exact this
  · omega
theorem RowO.c5 {w : World} {D : Nat} {L : List (Nat × Bool)} (h : RowO w D L) {j : Nat} (hj : j < L.length) : w.cell? ⟨D, j * 6 + 5, none⟩ = some (.bool (factQ L j).2) := h.cell hj (k := 5) (by omega)
theorem RowO.fz {w : World} {D : Nat} {L : List (Nat × Bool)} (h : RowO w D L) (j : Nat) : w.frozen? ⟨D, j, none⟩ = false := by
  unfold RowO at h
  simp [World.frozen?, h]
/-- six cells written in a row -/
def fillQ (w : World) (B o m' : Nat) (b' : Bool) : World := (fillO w B o m').setCell ⟨B, o + 5, none⟩ (.bool b')
theorem RowO.fill {w : World} {D : Nat} {L : List (Nat × Bool)} (h : RowO w D L) {j : Nat} (hj : j < L.length) (m : Nat) (b : Bool) : RowO (fillQ w D (j * 6) m b) D (L.set j (m, b)) := by
  unfold RowO at *
  unfold fillQ fillO
  rw [heap_setC _ _ _ _ _ _ (heap_setC _ _ _ _ _ _ (heap_setC _ _ _ _ _ _ (heap_setC _ _ _ _ _ _ (heap_setC _ _ _ _ _ _ (heap_setC _ _ _ _ _ _ h))))), opsL_set L j m b hj]
  simp
theorem fillQ_below {K : Nat} {w w' : World} (h : Below K w w') {B : Nat} (hB : K ≤ B) (o m' : Nat) (b' : Bool) : Below K w (fillQ w' B o m' b') := below_set (fillO_below h hB o m') hB (o + 5) _
theorem RowO.below {w w' : World} {D : Nat} {L : List (Nat × Bool)} (h : RowO w D L) (hb : Below w.heap.size w w') : RowO w' D L := (hb.block D h.lt).trans h
theorem Tryd.infoOp : (Tryd.prog.info? 81).map (fun i => (i.zero, i.size, i.bytes)) = some (some (.agg #[.int .u64 0, .int .u64 0, .int .u64 0, .int .u64 0, .int .u64 0, .bool false]), 6, 48) := by kernel_rfl
theorem made6 (m : Nat) : madeCells #[.int .u64 0, .int .u64 0, .int .u64 0, .int .u64 0, .int .u64 0, .bool false] (m * 6) = (opsL (List.replicate m (0, false))).toArray := by
  apply Array.ext
  · simp [madeCells, opsL_len]
  · intro i h1 h2
    have hi : i < m * 6 := by simpa [madeCells] using h1
    have hq : i / 6 < m := by omega
    have hg := opsL_get (List.replicate m (0, false)) (i / 6) (i % 6) (by simpa using hq) (by omega)
    rw [show i / 6 * 6 + i % 6 = i by omega] at hg
    have he : (List.replicate m ((0 : Nat), false)).getD (i / 6) (0, false) = (0, false) := by simp [List.getD, hq]
    rw [he] at hg
    have hr : (opsL (List.replicate m (0, false))).toArray[i]? = (opC (0, false))[i % 6]? := by simpa using hg
    have : i % 6 = 0 ∨ i % 6 = 1 ∨ i % 6 = 2 ∨ i % 6 = 3 ∨ i % 6 = 4 ∨ i % 6 = 5 := by omega
    have hr2 : some ((opsL (List.replicate m (0, false))).toArray[i]'h2) = (opC (0, false))[i % 6]? := by rw [← hr, Array.getElem?_eq_getElem h2]
    rcases this with e | e | e | e | e | e <;> rw [e] at hr2 <;> simp [madeCells, e, opC] at hr2 ⊢ <;> exact hr2.symm
theorem makeOps (m : Nat) (hm : m ≤ 1000000) (W : World) : (Instr.makeSlice 82 (.int .i64 m) (.int .i64 m)).run Tryd.prog W = .ok (.slice (some ⟨W.heap.size, 0, none⟩) m m) (W.alloc (.cells (opsL (List.replicate m (0, false))).toArray 81)) := by
  obtain ⟨i0, hi, hz0, hz1, hz2⟩ := infoParts Tryd.infoOp
  have := run_make W 82 81 i0 (.agg #[.int .u64 0, .int .u64 0, .int .u64 0, .int .u64 0, .int .u64 0, .bool false]) Tryd.underlying82 hi hz0 .i64 .i64 m m (by omega) (by omega) (by rw [hz2]; omega) (by omega)
  rw [this, hz1]
  have e : madeCells (Value.agg #[.int .u64 0, .int .u64 0, .int .u64 0, .int .u64 0, .int .u64 0, .bool false]).cells ((m : Int).toNat * 6) = (opsL (List.replicate m (0, false))).toArray := by
    rw [Int.toNat_natCast]
    exact made6 _
  rw [e]
  simp

end Go.Proofs.YtmkimaceioacgaaDoor
