/- The document's Cost. -/
import Derived.Test.YtnakafgbalkciaaCDoc
import Derived.StillTailTactics
namespace Go.Proofs.Ytnakafgbalkciaa
open Go.RowKit
set_option linter.unusedVariables false
set_option maxRecDepth 100000

theorem wrap_d64 (n : Int) (h0 : -9223372036854775808 ≤ n) (h1 : n ≤ 9223372036854775807) : IntKind.i64.wrap n = n := by
  simp [IntKind.wrap, IntKind.bits, IntKind.signed]
  split <;> omega
theorem Try.infoInts : (Try.prog.info? 22).map (fun i => (i.zero, i.size, i.bytes)) = some (some (.slice none 0 0), 1, 24) := by kernel_rfl
/-- rows of rows that are nowhere yet, or at a block -/
def sliA (l : List Value) : Array Value := l.toArray
theorem nilsA (m : Nat) : madeCells (Value.slice none 0 0).cells m = sliA (List.replicate m (.slice none 0 0)) := by
  apply Array.ext
  · simp [madeCells, sliA]
  · intro i h1 h2
    simp [madeCells, sliA, Value.cells, Nat.mod_one]
theorem makeRows (m : Nat) (hm : m ≤ 1000000) (W : World) : (Instr.makeSlice 31 (.int .i64 m) (.int .i64 m)).run Try.prog W = .ok (.slice (some ⟨W.heap.size, 0, none⟩) m m) (W.alloc (.cells (sliA (List.replicate m (.slice none 0 0))) 22)) := by
  obtain ⟨i0, hi, hz0, hz1, hz2⟩ := infoParts Try.infoInts
  have := run_make W 31 22 i0 (.slice none 0 0) Try.underlying31 hi hz0 .i64 .i64 m m (by omega) (by omega) (by rw [hz2]; omega) (by omega)
  rw [this, hz1, nilsA]
  simp
def RowV (w : World) (D : Nat) (L : List Value) : Prop := w.heap[D]? = some (.cells (sliA L) 22 (0, 0))
theorem RowV.cell {w : World} {D : Nat} {L : List Value} (h : RowV w D L) {j : Nat} {v : Value} (hj : L[j]? = some v) : w.cell? ⟨D, j, none⟩ = some v := by
  unfold RowV at h
  simp only [World.cell?, h]
  simpa [sliA] using hj
theorem RowV.lt {w : World} {D : Nat} {L : List Value} (h : RowV w D L) : D < w.heap.size := (Array.getElem?_eq_some_iff.1 h).1
theorem RowV.fz {w : World} {D : Nat} {L : List Value} (h : RowV w D L) (j : Nat) : w.frozen? ⟨D, j, none⟩ = false := by
  unfold RowV at h
  simp [World.frozen?, h]
theorem RowV.set {w : World} {D : Nat} {L : List Value} (h : RowV w D L) (j : Nat) (x : Value) : RowV (w.setCell ⟨D, j, none⟩ x) D (L.set j x) := by
  unfold RowV at *
  rw [heap_setC _ _ _ _ _ _ h]
  simp [sliA]
/-- the whole table: rows from i on are filled; row i from k on -/
structure TbI (P L : Int → Int) (fr to : List Int) (D : Nat) (i k : Nat) (bl : Nat → Nat) (RL : List Value) (wr : World) : Prop where
  rows : RowV wr D RL
  len : RL.length = fr.length + 1
  at_ : ∀ j, i ≤ j → j ≤ fr.length → RL[j]? = some (.slice (some ⟨bl j, 0, none⟩) (to.length + 1) (to.length + 1))
  ne : ∀ j, i ≤ j → j ≤ fr.length → D < bl j
  inj : ∀ j j', i ≤ j → j < j' → j' ≤ fr.length → bl j' < bl j
  cells : ∀ j, i ≤ j → j ≤ fr.length → ∃ O, Row wr (bl j) O ∧ O.length = to.length + 1 ∧ (∀ m, (i < j ∨ k ≤ m) → m ≤ to.length → O.getD m 0 = dist P L (fr.drop j) (to.drop m)) ∧ (j = i → ∀ m, m < k → O.getD m 0 = 0)
theorem Row.other {w : World} {D : Nat} {L : List Int} (h : Row w D L) {B o : Nat} {v : Value} (hne : D ≠ B) : Row (w.setCell ⟨B, o, none⟩ v) D L := by
  unfold Row at *
  rw [Below.heap_setCell _ _ _ _ (by simpa using hne)]
  exact h
theorem RowV.other {w : World} {D : Nat} {L : List Value} (h : RowV w D L) {B o : Nat} {v : Value} (hne : D ≠ B) : RowV (w.setCell ⟨B, o, none⟩ v) D L := by
  unfold RowV at *
  rw [Below.heap_setCell _ _ _ _ (by simpa using hne)]
  exact h
theorem Row.drew {w : World} {D : Nat} {L : List Int} (h : Row w D L) : Row w.drew D L := h
theorem RowV.drew {w : World} {D : Nat} {L : List Value} (h : RowV w D L) : RowV w.drew D L := h
theorem TbI.drew {P L : Int → Int} {fr to : List Int} {D i k : Nat} {bl : Nat → Nat} {RL : List Value} {wr : World} (h : TbI P L fr to D i k bl RL wr) : TbI P L fr to D i k bl RL wr.drew := ⟨h.rows, h.len, h.at_, h.ne, h.inj, h.cells⟩
theorem TbI.drewN {P L : Int → Int} {fr to : List Int} {D i k : Nat} {bl : Nat → Nat} {RL : List Value} {wr : World} (h : TbI P L fr to D i k bl RL wr) (n : Nat) : TbI P L fr to D i k bl RL (wr.drewN n) := ⟨h.rows, h.len, h.at_, h.ne, h.inj, h.cells⟩
/-- one place more is known -/
theorem TbI.keep {P L : Int → Int} {fr to : List Int} {D i k : Nat} {bl : Nat → Nat} {RL : List Value} {wr : World} (h : TbI P L fr to D i (k + 1) bl RL wr) (hz : dist P L (fr.drop i) (to.drop k) = 0) : TbI P L fr to D i k bl RL wr := by
  refine ⟨h.rows, h.len, h.at_, h.ne, h.inj, fun j h1 h2 => ?_⟩
  obtain ⟨O, a1, a2, a3, a4⟩ := h.cells j h1 h2
  refine ⟨O, a1, a2, fun m hm hm2 => ?_, fun e m hm => a4 e m (by omega)⟩
  by_cases e : i < j ∨ k + 1 ≤ m
  · exact a3 m e hm2
  · obtain rfl : j = i := by omega
    obtain rfl : m = k := by omega
    rw [a4 rfl m (by omega), hz]
theorem TbI.put {P L : Int → Int} {fr to : List Int} {D i k : Nat} {bl : Nat → Nat} {RL : List Value} {wr : World} (h : TbI P L fr to D i (k + 1) bl RL wr) (hi : i ≤ fr.length) (hk : k ≤ to.length) {v : Int} (hz : v = dist P L (fr.drop i) (to.drop k)) : TbI P L fr to D i k bl RL (wr.setCell ⟨bl i, k, none⟩ (.int .i64 v)) := by
  refine ⟨h.rows.other (Nat.ne_of_lt (h.ne i (Nat.le_refl _) hi)), h.len, h.at_, h.ne, h.inj, fun j h1 h2 => ?_⟩
  obtain ⟨O, a1, a2, a3, a4⟩ := h.cells j h1 h2
  by_cases e : j = i
  · subst e
    refine ⟨O.set k v, a1.set k v, by rw [List.length_set]; exact a2, fun m hm hm2 => ?_, fun _ m hm => ?_⟩
    · by_cases e2 : m = k
      · subst e2
        rw [← hz]
        simp [List.getD, show m < O.length by omega]
      · rw [← a3 m (by omega) hm2]
        simp [List.getD, List.getElem?_set_ne (show k ≠ m from fun e' => e2 e'.symm)]
    · have h9 := a4 rfl m (by omega)
      simpa [List.getD, List.getElem?_set_ne (show k ≠ m by omega)] using h9
  · have := h.inj i j (Nat.le_refl _) (by omega) h2
    exact ⟨O, a1.other (by omega), a2, fun m hm hm2 => a3 m (.inl (by omega)) hm2, fun e' => absurd e' e⟩
/-- the place was written once already -/
theorem TbI.again {P L : Int → Int} {fr to : List Int} {D i k : Nat} {bl : Nat → Nat} {RL : List Value} {wr : World} (h : TbI P L fr to D i (k + 1) bl RL wr) (hi : i ≤ fr.length) (hk : k ≤ to.length) {u v : Int} (hz : v = dist P L (fr.drop i) (to.drop k)) : TbI P L fr to D i k bl RL ((wr.setCell ⟨bl i, k, none⟩ (.int .i64 u)).drew.setCell ⟨bl i, k, none⟩ (.int .i64 v)) := by
  refine ⟨(h.rows.other (Nat.ne_of_lt (h.ne i (Nat.le_refl _) hi))).drew.other (Nat.ne_of_lt (h.ne i (Nat.le_refl _) hi)), h.len, h.at_, h.ne, h.inj, fun j h1 h2 => ?_⟩
  obtain ⟨O, a1, a2, a3, a4⟩ := h.cells j h1 h2
  by_cases e : j = i
  · subst e
    refine ⟨O.set k v, ?_, by rw [List.length_set]; exact a2, fun m hm hm2 => ?_, fun _ m hm => ?_⟩
    · have h9 := (a1.set k u).drew.set k v
      rw [List.set_set] at h9
      exact h9
    · by_cases e2 : m = k
      · subst e2
        rw [← hz]
        simp [List.getD, show m < O.length by omega]
      · rw [← a3 m (by omega) hm2]
        simp [List.getD, List.getElem?_set_ne (show k ≠ m from fun e' => e2 e'.symm)]
    · have h9 := a4 rfl m (by omega)
      simpa [List.getD, List.getElem?_set_ne (show k ≠ m by omega)] using h9
  · have := h.inj i j (Nat.le_refl _) (by omega) h2
    exact ⟨O, (a1.other (by omega)).drew.other (by omega), a2, fun m hm hm2 => a3 m (.inl (by omega)) hm2, fun e' => absurd e' e⟩
/-- a new row -/
theorem TbI.open {P L : Int → Int} {fr to : List Int} {D i : Nat} {bl : Nat → Nat} {RL : List Value} {wr : World} (h : TbI P L fr to D (i + 1) 0 bl RL wr) (hi : i ≤ fr.length) (hD : D < wr.heap.size) :
    TbI P L fr to D i (to.length + 1) (fun j => if j = i then wr.heap.size else bl j) (RL.set i (.slice (some ⟨wr.heap.size, 0, none⟩) (to.length + 1) (to.length + 1))) ((wr.setCell ⟨D, i, none⟩ (.slice (some ⟨wr.heap.size, 0, none⟩) (to.length + 1) (to.length + 1))).alloc (.cells (intsA (List.replicate (to.length + 1) 0)) 3)) := by
  have hsz : (wr.setCell ⟨D, i, none⟩ (.slice (some ⟨wr.heap.size, 0, none⟩) (to.length + 1) (to.length + 1))).heap.size = wr.heap.size := by simp
  have hA := alloc_below (wr.setCell ⟨D, i, none⟩ (.slice (some ⟨wr.heap.size, 0, none⟩) (to.length + 1) (to.length + 1))) (.cells (intsA (List.replicate (to.length + 1) 0)) 3)
  rw [hsz] at hA
  have hlt : ∀ j, i + 1 ≤ j → j ≤ fr.length → bl j < wr.heap.size := fun j h1 h2 => by
    obtain ⟨O, a1, _⟩ := h.cells j h1 h2
    exact a1.lt
  refine ⟨?_, by rw [List.length_set]; exact h.len, fun j h1 h2 => ?_, fun j h1 h2 => ?_, fun j j' h1 h2 h3 => ?_, fun j h1 h2 => ?_⟩
  · have h9 := h.rows.set i (.slice (some ⟨wr.heap.size, 0, none⟩) (to.length + 1) (to.length + 1))
    unfold RowV at h9 ⊢
    rw [hA.block D hD]
    exact h9
  · by_cases e : j = i
    · subst e
      simp [h.len, show j < fr.length + 1 by omega]
    · rw [List.getElem?_set_ne (fun e' => e e'.symm), if_neg e]
      exact h.at_ j (by omega) h2
  · by_cases e : j = i
    · simp only [if_pos e]; exact hD
    · simp only [if_neg e]; exact h.ne j (by omega) h2
  · simp only [if_neg (show ¬ j' = i by omega)]
    by_cases e : j = i
    · simp only [if_pos e]; exact hlt j' (by omega) h3
    · simp only [if_neg e]; exact h.inj j j' (by omega) h2 h3
  · by_cases e : j = i
    · subst e
      simp only [if_true]
      refine ⟨List.replicate (to.length + 1) 0, ?_, by simp, fun m hm hm2 => by omega, fun _ m hm => by simp [List.getD, hm]⟩
      have h9 := Array.getElem?_push_size (xs := (wr.setCell ⟨D, j, none⟩ (.slice (some ⟨wr.heap.size, 0, none⟩) (to.length + 1) (to.length + 1))).heap) (x := Obj.cells (intsA (List.replicate (to.length + 1) 0)) 3)
      rw [hsz] at h9
      exact h9
    · simp only [if_neg e]
      obtain ⟨O, a1, a2, a3, a4⟩ := h.cells j (by omega) h2
      refine ⟨O, ?_, a2, fun m hm hm2 => a3 m (by omega) hm2, fun e' => absurd e' e⟩
      have h9 := a1.other (B := D) (o := i) (v := .slice (some ⟨wr.heap.size, 0, none⟩) (to.length + 1) (to.length + 1)) (by have := h.ne j (by omega) h2; omega)
      unfold Row at h9 ⊢
      rw [hA.block _ (hlt j (by omega) h2)]
      exact h9
theorem TbI.start (P L : Int → Int) (fr to : List Int) (D : Nat) (wr : World) (h : RowV wr D (List.replicate (fr.length + 1) (.slice none 0 0))) : TbI P L fr to D (fr.length + 1) 0 (fun _ => 0) (List.replicate (fr.length + 1) (.slice none 0 0)) wr :=
  ⟨h, by simp, fun j h1 h2 => by omega, fun j h1 h2 => by omega, fun j j' h1 h2 h3 => by omega, fun j h1 h2 => by omega⟩
/-- what a place holds -/
theorem TbI.get {P L : Int → Int} {fr to : List Int} {D i k : Nat} {bl : Nat → Nat} {RL : List Value} {wr : World} (h : TbI P L fr to D i k bl RL wr) {j m : Nat} (h1 : i ≤ j) (h2 : j ≤ fr.length) (hm : i < j ∨ k ≤ m) (hm2 : m ≤ to.length) :
    wr.cell? ⟨D, j, none⟩ = some (.slice (some ⟨bl j, 0, none⟩) (to.length + 1) (to.length + 1)) ∧ bl j < wr.heap.size ∧ wr.cell? ⟨bl j, m, none⟩ = some (.int .i64 (dist P L (fr.drop j) (to.drop m))) := by
  obtain ⟨O, a1, a2, a3, a4⟩ := h.cells j h1 h2
  refine ⟨h.rows.cell (h.at_ j h1 h2), a1.lt, ?_⟩
  rw [← a3 m hm hm2]
  exact a1.cell (by omega)
theorem TbI.slot {P L : Int → Int} {fr to : List Int} {D i k : Nat} {bl : Nat → Nat} {RL : List Value} {wr : World} (h : TbI P L fr to D i k bl RL wr) (h2 : i ≤ fr.length) {m : Nat} (hm2 : m ≤ to.length) :
    wr.cell? ⟨D, i, none⟩ = some (.slice (some ⟨bl i, 0, none⟩) (to.length + 1) (to.length + 1)) ∧ bl i < wr.heap.size ∧ (∃ z, wr.cell? ⟨bl i, m, none⟩ = some (.int .i64 z)) ∧ wr.frozen? ⟨bl i, m, none⟩ = false ∧ D < bl i := by
  obtain ⟨O, a1, a2, a3, a4⟩ := h.cells i (Nat.le_refl _) h2
  exact ⟨h.rows.cell (h.at_ i (Nat.le_refl _) h2), a1.lt, ⟨_, a1.cell (j := m) (by omega)⟩, a1.fz m, h.ne i (Nat.le_refl _) h2⟩
/-- a place written, what is read behind it -/
structure AfT (W : World) (D i k bi bi1 m : Nat) (u v : Int) : Prop where
  c : W.cell? ⟨bi, k, none⟩ = some (.int .i64 u)
  f : W.frozen? ⟨bi, k, none⟩ = false
  s : W.cell? ⟨D, i, none⟩ = some (.slice (some ⟨bi, 0, none⟩) m m)
  s1 : W.cell? ⟨D, i + 1, none⟩ = some (.slice (some ⟨bi1, 0, none⟩) m m)
  c1 : W.cell? ⟨bi1, k + 1, none⟩ = some (.int .i64 v)
  l1 : D < W.heap.size
  l2 : bi < W.heap.size
  l3 : bi1 < W.heap.size
theorem TbI.after {P L : Int → Int} {fr to : List Int} {D i k : Nat} {bl : Nat → Nat} {RL : List Value} {wr : World} (h : TbI P L fr to D i (k + 1) bl RL wr) (hi : i < fr.length) (hk : k < to.length) (u : Int) :
    AfT (wr.setCell ⟨bl i, k, none⟩ (.int .i64 u)).drew D i k (bl i) (bl (i + 1)) (to.length + 1) u (dist P L (fr.drop (i + 1)) (to.drop (k + 1))) := by
  obtain ⟨O, a1, a2, a3, a4⟩ := h.cells i (Nat.le_refl _) (by omega)
  obtain ⟨O1, b1, b2, b3, b4⟩ := h.cells (i + 1) (by omega) (by omega)
  have hne := h.inj i (i + 1) (Nat.le_refl _) (by omega) (by omega)
  have hD := h.ne i (Nat.le_refl _) (by omega)
  have hR := (h.rows.other (B := bl i) (o := k) (v := .int .i64 u) (by omega)).drew
  have r1 := (a1.set k u).drew
  have r2 := (b1.other (B := bl i) (o := k) (v := .int .i64 u) (by omega)).drew
  refine ⟨?_, r1.fz k, hR.cell (h.at_ i (Nat.le_refl _) (by omega)), hR.cell (h.at_ (i + 1) (by omega) (by omega)), ?_, hR.lt, r1.lt, r2.lt⟩
  · rw [r1.cell (j := k) (by rw [List.length_set]; omega)]
    simp [List.getD, show k < O.length by omega]
  · rw [r2.cell (j := k + 1) (by omega), b3 (k + 1) (.inl (by omega)) (by omega)]

end Go.Proofs.Ytnakafgbalkciaa
