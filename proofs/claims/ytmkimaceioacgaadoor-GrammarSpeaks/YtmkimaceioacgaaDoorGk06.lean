/- Texts of the proof, put together: GHvC, GNum, GLnk, GAdd. -/
import Derived.Test.YtmkimaceioacgaaDoorGk05
import Derived.Test.YtmkimaceioacgaaDoorGk04
import Derived.Maps.OwnSet
import Derived.MapViews
namespace Go.Proofs.YtmkimaceioacgaaDoor
open Go.RowKit
set_option linter.unusedVariables false
set_option maxRecDepth 100000

/-- a variable that holds a row of bools, one that holds a bool -/
structure VarB (w : World) (A B N : Nat) (L : List Bool) : Prop where
  lt : A < w.heap.size
  cell : w.cell? ⟨A, 0, none⟩ = some (.slice (some ⟨B, 0, none⟩) N N)
  row : RowB w B L
structure VarF (w : World) (A : Nat) (b : Bool) : Prop where
  lt : A < w.heap.size
  cell : w.cell? ⟨A, 0, none⟩ = some (.bool b)
theorem RowB.below {w w' : World} {B : Nat} {L : List Bool} (h : RowB w B L) (hb : Below w.heap.size w w') : RowB w' B L := (hb.block B h.lt).trans h
theorem VarB.below {w w' : World} {A B N : Nat} {L : List Bool} (h : VarB w A B N L) (hb : Below w.heap.size w w') : VarB w' A B N L :=
  ⟨Nat.lt_of_lt_of_le h.lt hb.size, (hb.cell (p := ⟨A, 0, none⟩) h.lt).trans h.cell, h.row.below hb⟩
theorem VarF.below {w w' : World} {A : Nat} {b : Bool} (h : VarF w A b) (hb : Below w.heap.size w w') : VarF w' A b :=
  ⟨Nat.lt_of_lt_of_le h.lt hb.size, (hb.cell (p := ⟨A, 0, none⟩) h.lt).trans h.cell⟩

set_option maxHeartbeats 2000000 in
theorem haveCC_any (N : Nat) (hN : N ≤ 300) (p : PdR) (rv : Value) (L : List Bool) (leaf : Bool) (A B C : Nat) (w : World) (hr : SymsL N p.right) (hL : L.length = N) (hrv : IntsR w rv p.right) (hA : VarB w A B N L) (hC : VarF w C leaf) :
    Calls Tryd.prog 41 #[pdv p rv, .pointer (some ⟨A, 0, none⟩), .pointer (some ⟨C, 0, none⟩)] w fun e w' => e = .returned (.bool (hasB leaf (factB L) p.right)) ∧ Below w.heap.size w w' := by
  have hP0 := alloc_below w (.cells #[.int .i64 p.left, rv, .int .i64 p.level] 38)
  have hA1 := hA.below hP0
  have hC1 := hC.below hP0
  have HCa := rowHas_any N hN p.right L leaf rv B (w.alloc (.cells #[.int .i64 p.left, rv, .int .i64 p.level] 38)) hr hL (hrv.below hP0) hA1.row
  obtain ⟨p0, p1, p2⟩ := box3_cells w (.int .i64 p.left) rv (.int .i64 p.level) 38
  have hps := alloc_size w (.cells #[.int .i64 p.left, rv, .int .i64 p.level] 38)
  have hlt : w.heap.size < (w.alloc (.cells #[.int .i64 p.left, rv, .int .i64 p.level] 38)).heap.size := by omega
  obtain ⟨a0, a1, _⟩ := hA1
  obtain ⟨c0, c1⟩ := hC1
  obtain ⟨ra, rc, rfl⟩ := hrv.slice
  clear hrv hr hA hC hps
  unfold pdv
  generalize hasB leaf (factB L) p.right = bb at *
  obtain ⟨left, right, level⟩ := p
  simp only at *
  go_enter Tryd.func41, Tryd.ntmps41
  go_wp2_with fail
  refine HCa.mono ?_
  rintro e w1 ⟨rfl, rfl⟩
  go_wp2
  go_ret
  exact ⟨rfl, hP0⟩

/-- what the productions of a name say -/
def anyB (leaf : Bool) (f : Nat → Bool) (l : List PdR) : Bool := l.any fun p => hasB leaf f p.right
theorem anyB_says (leaf : Bool) (f : Nat → Bool) (ps : List PdR) (hl : ∀ p ∈ ps, 0 ≤ p.left) (n : Nat) : anyB leaf f (ownL ps n) = saysB leaf (prsS ps) f n := by
  rw [Bool.eq_iff_iff, saysB_iff]
  unfold anyB ownL
  rw [List.any_eq_true]
  constructor
  · rintro ⟨p, hp, h⟩
    obtain ⟨h1, h2⟩ := List.mem_filter.1 hp
    have h3 : p.left = (n : Int) := by simpa using h2
    exact ⟨prS p, List.mem_map.2 ⟨p, h1, rfl⟩, by show p.left.toNat = n; omega, h⟩
  · rintro ⟨q, hq, h1, h2⟩
    obtain ⟨p, hp, rfl⟩ := List.mem_map.1 hq
    have h3 := hl p hp
    have h4 : p.left.toNat = n := h1
    refine ⟨p, List.mem_filter.2 ⟨hp, ?_⟩, h2⟩
    simp; omega

set_option maxHeartbeats 2000000 in
theorem haveC_any (N : Nat) (hN : N ≤ 300) (own : Nat → List PdR) (L : List Bool) (leaf : Bool) (B n O C : Nat) (hn : n < N) (w : World) (hol : (own n).length ≤ 400) (hsy : ∀ p ∈ own n, SymsL N p.right) (hL : L.length = N) (hv : RowB w B L) (hO : OwnM w O N own) (hC : VarF w C leaf) :
    Calls Tryd.prog 40 #[.slice (some ⟨B, 0, none⟩) N N, .int .i64 n, .pointer (some ⟨O, 0, none⟩), .pointer (some ⟨C, 0, none⟩)] w fun e w' => e = .returned (.bool (anyB leaf (factB L) (own n))) ∧ Below w.heap.size w w' := by
  have hP0 := alloc_below w (.cells #[.slice (some ⟨B, 0, none⟩) N N] 31)
  have hP1 := alloc_size w (.cells #[.slice (some ⟨B, 0, none⟩) N N] 31)
  have hPc : (w.alloc (.cells #[.slice (some ⟨B, 0, none⟩) N N] 31)).cell? ⟨w.heap.size, 0, none⟩ = some (.slice (some ⟨B, 0, none⟩) N N) := by
    have h : (w.alloc (.cells #[.slice (some ⟨B, 0, none⟩) N N] 31)).heap[w.heap.size]? = some (.cells #[.slice (some ⟨B, 0, none⟩) N N] 31) := by
      show (w.heap.push _)[w.heap.size]? = _
      exact Array.getElem?_push_size
    simp only [World.cell?, h]; rfl
  have hV : VarB (w.alloc (.cells #[.slice (some ⟨B, 0, none⟩) N N] 31)) w.heap.size B N L := ⟨by omega, hPc, hv.below hP0⟩
  obtain ⟨D, hOl, hDl, cO, hown⟩ := hO.below hP0
  obtain ⟨ov, cD, hov⟩ := hown n hn
  have hCq := containsQ_any 41 (fun args w => by kernel_rfl) (.pointer (some ⟨w.heap.size, 0, none⟩)) (.pointer (some ⟨C, 0, none⟩)) ov (fun p => hasB leaf (factB L) p.right) (own n) (w.alloc (.cells #[.slice (some ⟨B, 0, none⟩) N N] 31)) (by omega) hov (fun w' p rv hp hb hr => haveCC_any N hN p rv L leaf w.heap.size B C w' (hsy p hp) hL hr (hV.below hb) ((hC.below hP0).below hb))
  have HCq : Hid (Calls Tryd.prog 27 #[ov, .func (.func 41) #[] #[.pointer (some ⟨w.heap.size, 0, none⟩), .pointer (some ⟨C, 0, none⟩)]] (w.alloc (.cells #[.slice (some ⟨B, 0, none⟩) N N] 31)) fun e w' => e = .returned (.bool (anyB leaf (factB L) (own n))) ∧ Below (w.alloc (.cells #[.slice (some ⟨B, 0, none⟩) N N] 31)).heap.size (w.alloc (.cells #[.slice (some ⟨B, 0, none⟩) N N] 31)) w') := hCq
  obtain ⟨oa, oc, rfl⟩ := hov.slice
  clear hCq hov hown hO hC hsy hV hPc
  generalize anyB leaf (factB L) (own n) = bb at *
  go_enter Tryd.func40, Tryd.ntmps40
  go_wp2_with fail
  refine HCq.out.mono ?_
  rintro e w1 ⟨rfl, hb⟩
  have hb2 := hP0.trans (hb.mono hP0.size)
  clear HCq hb
  go_wp2
  go_ret
  exact ⟨rfl, hb2⟩

end Go.Proofs.YtmkimaceioacgaaDoor

namespace Go.Proofs.YtmkimaceioacgaaDoor
open Go.RowKit
set_option linter.unusedVariables false
set_option maxRecDepth 100000

def numsL (N : Nat) : List Int := (List.range N).map fun n : Nat => (n : Int)
theorem numsL_len (N : Nat) : (numsL N).length = N := by simp [numsL]

set_option maxHeartbeats 2000000 in
theorem firstNumbers_any (N : Nat) (hN : N ≤ 300) (w : World) :
    Calls Tryd.prog 56 #[.int .i64 N] w fun e w' => e = .returned (.slice (some ⟨w.heap.size, 0, none⟩) N N) ∧ Row w' w.heap.size (numsL N) ∧ w'.heap.size = w.heap.size + 1 ∧ Below w.heap.size w w' := by
  have hmk := makeInts N (by omega)
  have HR0 : Hid (Row (w.alloc (.cells (intsA (List.replicate N 0)) 3)) w.heap.size (List.replicate N 0)) := by
    show (w.alloc _).heap[w.heap.size]? = _
    show (w.heap.push _)[w.heap.size]? = _
    exact Array.getElem?_push_size
  have hb0 := alloc_below w (.cells (intsA (List.replicate N 0)) 3)
  have hs0 := alloc_size w (.cells (intsA (List.replicate N 0)) 3)
  go_enter Tryd.func56, Tryd.ntmps56
  go_wp2
  clear hmk
  generalize w.alloc (.cells (intsA (List.replicate N 0)) 3) = w1 at *
  have HS0 : Hid (w1.heap.size = w.heap.size + 1) := hs0
  clear hs0
  go_loopw [9] (fun i wr => ∃ (k : Nat) (L : List Int), k ≤ N ∧ i = .int .i64 k ∧ Hid (Row wr w.heap.size L) ∧ Hid (L.length = N) ∧ Hid (∀ j, j < k → L.getD j 0 = j) ∧ Hid (wr.heap.size = w.heap.size + 1) ∧ Below w.heap.size w wr) (fun i _ => N - (intOf i).toNat)
  case atStart => exact ⟨0, List.replicate N 0, Nat.zero_le _, rfl, HR0, (by show _ = _; simp), (fun j hj => by omega), HS0, hb0⟩
  case round =>
    obtain ⟨k, L, hk, rfl, HR, HL, HA, HS, hbw⟩ := hrel
    have hDlt := HR.out.lt
    by_cases hlt : k < N
    · have cD := HR.out.cell (j := k) (by rw [HL.out]; exact hlt)
      have fz := HR.out.fz k
      have HR2 : Hid (Row (wr.setCell ⟨w.heap.size, k, none⟩ (.int .i64 (k : Int))) w.heap.size (L.set k (k : Int))) := HR.out.set k (k : Int)
      have HA2 : Hid (∀ j, j < k + 1 → (L.set k (k : Int)).getD j 0 = j) := fun j hj => by
        by_cases e : j = k
        · subst e; simp [List.getD, HL.out, hlt]
        · have := HA.out j (by omega)
          simp only [List.getD] at *
          rw [List.getElem?_set_ne (Ne.symm e)]; exact this
      have HL2 : Hid ((L.set k (k : Int)).length = N) := by show _ = _; rw [List.length_set]; exact HL.out
      have hb2 := below_set hbw (Nat.le_refl _) k (.int .i64 (k : Int))
      have HS2 : Hid ((wr.setCell ⟨w.heap.size, k, none⟩ (.int .i64 (k : Int))).heap.size = w.heap.size + 1) := by
        show _ = _
        rw [← HS.out]; simp
      generalize L.getD k 0 = old at *
      clear HR HA HL HS
      go_wp2
      go_roundw
      case rel => exact ⟨k + 1, _, by omega, by go_num, HR2, HL2, HA2, HS2, hb2⟩
      case measure => simp [intOf]; omega
    · have HE : Hid (L = numsL N) := by
        show _ = _
        apply List.ext_getElem
        · rw [HL.out, numsL_len]
        · intro j h1 h2
          have := HA.out j (by rw [HL.out] at h1; omega)
          simp [List.getD, h1] at this
          simp [numsL, this]
      clear HA HL
      go_wp2
      go_ret
      exact ⟨rfl, by rw [← HE.out]; exact HR.out, HS.out, hbw⟩

end Go.Proofs.YtmkimaceioacgaaDoor

namespace Go.Proofs.YtmkimaceioacgaaDoor
open Go.RowKit
set_option linter.unusedVariables false
set_option maxRecDepth 100000

/-- values that fill a block -/
def RowV (w : World) (D : Nat) (ty : TypeId) (vs : List Value) : Prop := w.heap[D]? = some (.cells vs.toArray ty (0, 0))
theorem RowV.cell {w : World} {D : Nat} {ty : TypeId} {vs : List Value} (h : RowV w D ty vs) (j : Nat) : w.cell? ⟨D, j, none⟩ = vs[j]? := by
  unfold RowV at h
  simp [World.cell?, h]
theorem RowV.lt {w : World} {D : Nat} {ty : TypeId} {vs : List Value} (h : RowV w D ty vs) : D < w.heap.size := (Array.getElem?_eq_some_iff.1 h).1
theorem RowV.fz {w : World} {D : Nat} {ty : TypeId} {vs : List Value} (h : RowV w D ty vs) (j : Nat) : w.frozen? ⟨D, j, none⟩ = false := by
  unfold RowV at h
  simp [World.frozen?, h]
theorem RowV.set {w : World} {D : Nat} {ty : TypeId} {vs : List Value} (h : RowV w D ty vs) (j : Nat) (x : Value) : RowV (w.setCell ⟨D, j, none⟩ x) D ty (vs.set j x) := by
  unfold RowV at *
  rw [heap_setC _ _ _ _ _ _ h]
  simp
theorem Tryd.infoMap : (Tryd.prog.info? 92).map (fun i => (i.zero, i.size, i.bytes)) = some (some (.map none), 1, 8) := by kernel_rfl
theorem nilsA (m : Nat) : madeCells (Value.map none).cells m = (Array.replicate m (Value.map none)) := by
  apply Array.ext
  · simp [madeCells, Value.cells]
  · intro i h1 h2
    simp [madeCells, Value.cells, Nat.mod_one]
theorem makeLinks (m : Nat) (hm : m ≤ 1000000) (W : World) : (Instr.makeSlice 62 (.int .i64 m) (.int .i64 m)).run Tryd.prog W = .ok (.slice (some ⟨W.heap.size, 0, none⟩) m m) (W.alloc (.cells (Array.replicate m (Value.map none)) 92)) := by
  obtain ⟨i0, hi, hz0, hz1, hz2⟩ := infoParts Tryd.infoMap
  have := run_make W 62 92 i0 (.map none) Tryd.underlying62 hi hz0 .i64 .i64 m m (by omega) (by omega) (by rw [hz2]; omega) (by omega)
  rw [this, hz1, nilsA]
  simp

/-- so many new maps, one behind the other -/
structure NewM (w : World) (D N k : Nat) (vs : List Value) : Prop where
  row : RowV w D 92 vs
  len : vs.length = N
  at_ : ∀ j, j < k → vs[j]? = some (.map (some (D + 1 + j))) ∧ w.heap[D + 1 + j]? = some (.map #[] 0)
  size : w.heap.size = D + 1 + k

set_option maxHeartbeats 4000000 in
theorem newLinks_any (N : Nat) (hN : N ≤ 300) (w : World) :
    Calls Tryd.prog 59 #[.int .i64 N] w fun e w' => e = .returned (.slice (some ⟨w.heap.size, 0, none⟩) N N) ∧ (∃ vs, NewM w' w.heap.size N N vs) ∧ Below w.heap.size w w' := by
  have hmm := @run_makeMap Tryd.prog
  have hmk := makeLinks N (by omega)
  have HN0 : Hid (NewM (w.alloc (.cells (Array.replicate N (Value.map none)) 92)) w.heap.size N 0 (List.replicate N (Value.map none))) := by
    refine ⟨?_, by simp, fun j hj => by omega, alloc_size _ _⟩
    show (w.heap.push _)[w.heap.size]? = some (.cells (List.replicate N (Value.map none)).toArray 92 (0, 0))
    rw [List.toArray_replicate]
    exact Array.getElem?_push_size
  have hb0 := alloc_below w (.cells (Array.replicate N (Value.map none)) 92)
  go_enter Tryd.func59, Tryd.ntmps59
  go_wp2
  clear hmk
  generalize w.alloc (.cells (Array.replicate N (Value.map none)) 92) = w1 at *
  go_loopw [9] (fun i wr => ∃ (k : Nat) (vs : List Value), k ≤ N ∧ i = .int .i64 k ∧ Hid (NewM wr w.heap.size N k vs) ∧ Below w.heap.size w wr) (fun i _ => N - (intOf i).toNat)
  case atStart => exact ⟨0, _, Nat.zero_le _, rfl, HN0, hb0⟩
  case round =>
    obtain ⟨k, vs, hk, rfl, HM, hbw⟩ := hrel
    have hDlt := HM.out.row.lt
    by_cases hlt : k < N
    · have hss : (wr.setCell ⟨w.heap.size, k, none⟩ (.map (some wr.heap.size))).heap.size = wr.heap.size := by simp
      have HA : Hid (NewM ((wr.setCell ⟨w.heap.size, k, none⟩ (.map (some wr.heap.size))).alloc (.map #[] 0)) w.heap.size N (k + 1) (vs.set k (.map (some wr.heap.size)))) := by
        obtain ⟨m1, m2, m3, m4⟩ := HM.out
        refine ⟨(Below.heap_alloc _ _ _ (by rw [hss]; exact hDlt)).trans (m1.set k _), by simp [m2], fun j hj => ?_, ?_⟩
        · by_cases e : j = k
          · subst e
            refine ⟨by simp [m2, hlt, m4], ?_⟩
            have h9 : ∀ W : World, (W.alloc (.map #[] 0)).heap[W.heap.size]? = some (.map #[] 0) := fun W => by
              show (W.heap.push _)[W.heap.size]? = _
              exact Array.getElem?_push_size
            have h8 := h9 (wr.setCell ⟨w.heap.size, j, none⟩ (.map (some wr.heap.size)))
            rw [hss] at h8
            rw [← m4]
            exact h8
          · obtain ⟨h1, h2⟩ := m3 j (by omega)
            refine ⟨by rw [List.getElem?_set_ne (Ne.symm e)]; exact h1, ?_⟩
            rw [Below.heap_alloc _ _ _ (by rw [hss]; omega), Below.heap_setCell _ _ _ _ (by simp; omega)]
            exact h2
        · rw [alloc_size, hss]
          omega
      have hb2 : Below w.heap.size w ((wr.setCell ⟨w.heap.size, k, none⟩ (.map (some wr.heap.size))).alloc (.map #[] 0)) := (below_set hbw (Nat.le_refl _) k _).trans ((alloc_below _ _).mono (by rw [hss]; exact hbw.size))
      clear hss
      have hrow : RowV (wr.alloc (.map #[] 0)) w.heap.size 92 vs := (Below.heap_alloc _ _ _ hDlt).trans HM.out.row
      obtain ⟨old, hold⟩ : ∃ old, vs[k]? = some old := ⟨vs[k]'(by rw [HM.out.len]; exact hlt), by simp⟩
      have cD : (wr.alloc (.map #[] 0)).cell? ⟨w.heap.size, k, none⟩ = some old := (hrow.cell k).trans hold
      have fz := hrow.fz k
      have hDlt2 := hrow.lt
      clear hrow hold HM
      go_wp2
      go_roundw
      case rel => exact ⟨k + 1, _, by omega, by go_num, HA, hb2⟩
      case measure => simp [intOf]; omega
    · obtain rfl : k = N := by omega
      go_wp2
      go_ret
      exact ⟨rfl, ⟨vs, HM.out⟩, hbw⟩

end Go.Proofs.YtmkimaceioacgaaDoor

namespace Go.Proofs.YtmkimaceioacgaaDoor
open Go.RowKit
open Go.Maps (Keyed)
set_option linter.unusedVariables false
set_option maxRecDepth 100000

theorem Tryd.lawIntG : Keyed Tryd.prog 3 := Maps.int_keyed Tryd.underlying3
theorem Tryd.zeroIntG (w : World) : (zeroValue 3).run Tryd.prog w = .ok (.int .i64 0) w := by kernel_rfl
/-- a map whose keys are these numbers -/
def KeysM (w : World) (M n : Nat) (r : Nat → Prop) : Prop := ∃ D : DataW Unit, w.ownsMap Tryd.prog 3 (plainElem Tryd.prog 3) M n D ∧ Maps.IsMap D ∧ ∀ kl, Maps.has D kl = true ↔ ∃ k : Nat, kl = .int .i64 k ∧ r k
theorem keyOf_nat (k : Nat) (hk : k ≤ 1000000) : keyOf Tryd.prog 3 (.int .i64 (k : Int)) = some (.int .i64 (k : Int)) := Maps.keyOf_int_mk Tryd.underlying3 (WalkArith.wf_i64 (by omega))
theorem wrap64_range (c : Int) : -9223372036854775808 ≤ wrap64 c ∧ wrap64 c ≤ 9223372036854775807 := by
  unfold wrap64
  omega
theorem KeysM.new {w : World} {M : Nat} (h : w.heap[M]? = some (.map #[] 0)) : KeysM w M 0 fun _ => False := by
  have hf : w.ownsMap (H := Unit) Tryd.prog 3 (plainElem Tryd.prog 3) M 0 (.map []) := by
    obtain ⟨es, cl, h1, h2⟩ := World.ownsMap_made (H := Unit) w Tryd.prog 3 (plainElem Tryd.prog 3)
    rw [heap_alloc_new] at h1
    simp at h1
    obtain ⟨rfl, rfl⟩ := h1
    exact ⟨_, _, h, h2⟩
  exact ⟨_, hf, ⟨[], rfl⟩, fun kl => ⟨fun e => (by cases e), fun ⟨_, _, e⟩ => e.elim⟩⟩

set_option maxHeartbeats 1000000 in
theorem add_walk (D N f t M : Nat) (hf : f < N) (c z : Int) (hz : wrap64 (c + 1) = z) (w w' : World) (hD : D < w.heap.size) (cD : w.cell? ⟨D, f, none⟩ = some (.map (some M)))
    (hlook : (Instr.lookup 92 (.map (some M)) (.int .i64 t) false).run Tryd.prog w = .ok (.int .i64 c) w)
    (hup : (Instr.mapUpdate 92 (.map (some M)) (.int .i64 t) (.int .i64 z)).run Tryd.prog w = .ok () w') :
    Calls Tryd.prog 61 #[.slice (some ⟨D, 0, none⟩) N N, .int .i64 f, .int .i64 t] w fun e w2 => e = .returned (.tuple #[]) ∧ w2 = w' := by
  go_enter Tryd.func61, Tryd.ntmps61
  go_wp2
  go_end0
  exact ⟨rfl, rfl⟩

/-- links in memory: the maps lie apart -/
structure LinksM (w : World) (D N : Nat) (mp cnt : Nat → Nat) (r : Nat → Nat → Prop) : Prop where
  lt : D < w.heap.size
  cell : ∀ n, n < N → w.cell? ⟨D, n, none⟩ = some (.map (some (mp n)))
  keys : ∀ n, n < N → KeysM w (mp n) (cnt n) (r n)
  inj : ∀ n m, n < N → m < N → mp n = mp m → n = m
  ne : ∀ n, n < N → mp n ≠ D
theorem KeysM.block {w w' : World} {M n : Nat} {r : Nat → Prop} (h : KeysM w M n r) (hb : w'.heap[M]? = w.heap[M]?) : KeysM w' M n r := by
  obtain ⟨D, ⟨es, cl, h1, h2⟩, h3, h4⟩ := h
  exact ⟨D, ⟨es, cl, hb.trans h1, h2⟩, h3, h4⟩
theorem KeysM.lt {w : World} {M n : Nat} {r : Nat → Prop} (h : KeysM w M n r) : M < w.heap.size := by
  obtain ⟨D, ⟨es, cl, h1, h2⟩, h3, h4⟩ := h
  exact (Array.getElem?_eq_some_iff.1 h1).1
theorem LinksM.new {w : World} {D N : Nat} {vs : List Value} (h : NewM w D N N vs) : LinksM w D N (fun n => D + 1 + n) (fun _ => 0) fun _ _ => False :=
  ⟨h.row.lt, fun n hn => (h.row.cell n).trans (h.at_ n hn).1, fun n hn => KeysM.new (h.at_ n hn).2, fun n m _ _ e => by have e2 : D + 1 + n = D + 1 + m := e; omega, fun n _ => by show D + 1 + n ≠ D; omega⟩
/-- .. with one more -/
def addR (r : Nat → Nat → Prop) (f t : Nat) : Nat → Nat → Prop := fun n k => r n k ∨ (n = f ∧ k = t)

theorem add_any {w : World} {D N : Nat} {mp cnt : Nat → Nat} {r : Nat → Nat → Prop} (h : LinksM w D N mp cnt r) (f t : Nat) (hf : f < N) (ht : t ≤ 1000000) (hc : cnt f ≤ 1000000000) :
    Calls Tryd.prog 61 #[.slice (some ⟨D, 0, none⟩) N N, .int .i64 f, .int .i64 t] w fun e w' => e = .returned (.tuple #[]) ∧ LinksM w' D N mp (fun n => if n = f then cnt n + 1 else cnt n) (addR r f t) ∧ w.grownBy w' (some (mp f)) := by
  obtain ⟨Dm, hown, him, hk⟩ := h.keys f hf
  obtain ⟨c, hrun, hat, hwc⟩ := hown.lookup_int Tryd.lawIntG Tryd.underlying92 Tryd.underlying3 (Tryd.zeroIntG _) (keyOf_nat t ht)
  have hr := wrap64_range (c + 1)
  obtain ⟨w', hup, hown', hturn⟩ := hown.store Tryd.lawIntG Tryd.underlying92 (by unfold maxLen; omega) (val := .int .i64 (wrap64 (c + 1))) (keyOf_nat t ht) (plainElem_int Tryd.underlying3 (WalkArith.wf_i64 (by omega)))
  have hg := hturn.grown
  have hblk : ∀ k, k < w.heap.size → k ≠ mp f → w'.heap[k]? = w.heap[k]? := fun k hk1 hk2 => hg.block k hk1 (fun e => hk2 (by simpa using e))
  refine (add_walk D N f t (mp f) hf c _ rfl w w' h.lt (h.cell f hf) hrun hup).mono ?_
  rintro e w2 ⟨rfl, rfl⟩
  refine ⟨rfl, ⟨Nat.lt_of_lt_of_le h.lt hg.size, fun n hn => ?_, fun n hn => ?_, h.inj, h.ne⟩, hg⟩
  · have hb := hblk D h.lt (Ne.symm (h.ne f hf))
    have := h.cell n hn
    simp only [World.cell?] at this ⊢
    rw [hb]; exact this
  · by_cases e : n = f
    · subst e
      simp only [if_true]
      refine ⟨_, hown', ?_, fun kl => ?_⟩
      · obtain ⟨es, rfl⟩ := him; exact ⟨_, rfl⟩
      · by_cases ek : kl = .int .i64 (t : Int)
        · subst ek
          rw [Maps.has_put_same him (show WideAt.IsKeyLit (.int .i64 (t : Int)) from trivial)]
          exact ⟨fun _ => ⟨t, rfl, .inr ⟨rfl, rfl⟩⟩, fun _ => rfl⟩
        · rw [Maps.has_put_other ek, hk kl]
          constructor
          · rintro ⟨k, e1, e2⟩; exact ⟨k, e1, .inl e2⟩
          · rintro ⟨k, e1, e2 | ⟨_, e2⟩⟩
            · exact ⟨k, e1, e2⟩
            · subst e2; exact absurd e1 ek
    · simp only [if_neg e]
      have h1 := (h.keys n hn).block (hblk (mp n) (h.keys n hn).lt fun e' => e (h.inj n f hn hf e'))
      obtain ⟨D1, a1, a2, a3⟩ := h1
      refine ⟨D1, a1, a2, fun kl => (a3 kl).trans ?_⟩
      constructor
      · rintro ⟨k, e1, e2⟩; exact ⟨k, e1, .inl e2⟩
      · rintro ⟨k, e1, e2 | ⟨e2, _⟩⟩
        · exact ⟨k, e1, e2⟩
        · exact absurd e2 e

end Go.Proofs.YtmkimaceioacgaaDoor
