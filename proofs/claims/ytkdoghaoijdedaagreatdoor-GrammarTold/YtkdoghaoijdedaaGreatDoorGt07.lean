/- Texts of the proof, put together: GRwB, GHav, GHvC, GNum, GLnk. -/
import Derived.Test.YtkdoghaoijdedaaGreatDoorGt06
import Derived.Test.YtkdoghaoijdedaaGreatDoorGt04
import Derived.Maps.OwnSet
import Derived.MapViews
namespace Go.Proofs.YtkdoghaoijdedaaGreatDoor
open Go.RowKit
set_option linter.unusedVariables false
set_option maxRecDepth 100000

def boolsA (l : List Bool) : Array Value := (l.map fun z => Value.bool z).toArray
/-- a row of bools that fills a block -/
def RowB (w : World) (D : Nat) (L : List Bool) : Prop := w.heap[D]? = some (.cells (boolsA L) 4 (0, 0))
theorem RowB.cell {w : World} {D : Nat} {L : List Bool} (h : RowB w D L) {j : Nat} (hj : j < L.length) : w.cell? ⟨D, j, none⟩ = some (.bool (factB L j)) := by
  unfold RowB at h
  simp [World.cell?, h, boolsA, factB, List.getD, hj]
theorem RowB.lt {w : World} {D : Nat} {L : List Bool} (h : RowB w D L) : D < w.heap.size := (Array.getElem?_eq_some_iff.1 h).1
theorem RowB.fz {w : World} {D : Nat} {L : List Bool} (h : RowB w D L) (j : Nat) : w.frozen? ⟨D, j, none⟩ = false := by
  unfold RowB at h
  simp [World.frozen?, h]
theorem RowB.set {w : World} {D : Nat} {L : List Bool} (h : RowB w D L) (j : Nat) (x : Bool) : RowB (w.setCell ⟨D, j, none⟩ (.bool x)) D (L.set j x) := by
  unfold RowB at *
  rw [heap_setC _ _ _ _ _ _ h]
  simp [boolsA, List.map_set]
theorem Tryz.infoBoolT : (Tryz.prog.info? 4).map (fun i => (i.zero, i.size, i.bytes)) = some (some (.bool false), 1, 1) := by kernel_rfl
theorem falsesT (m : Nat) : madeCells (Value.bool false).cells m = boolsA (List.replicate m false) := by
  apply Array.ext
  · simp [madeCells, Value.cells, boolsA]
  · intro i h1 h2
    simp [madeCells, Value.cells, Nat.mod_one, boolsA]
theorem makeBoolsT (m : Nat) (hm : m ≤ 1000000) (W : World) : (Instr.makeSlice 27 (.int .i64 m) (.int .i64 m)).run Tryz.prog W = .ok (.slice (some ⟨W.heap.size, 0, none⟩) m m) (W.alloc (.cells (boolsA (List.replicate m false)) 4)) := by
  obtain ⟨i0, hi, hz0, hz1, hz2⟩ := infoParts Tryz.infoBoolT
  have := run_make W 27 4 i0 (.bool false) Tryz.underlying27 hi hz0 .i64 .i64 m m (by omega) (by omega) (by rw [hz2]; omega) (by omega)
  rw [this, hz1, falsesT]
  simp

end Go.Proofs.YtkdoghaoijdedaaGreatDoor

namespace Go.Proofs.YtkdoghaoijdedaaGreatDoor
open Go.RowKit
set_option linter.unusedVariables false
set_option maxRecDepth 100000

theorem hasB_drop (leaf : Bool) (f : Nat → Bool) (r : List Int) (k : Nat) (hk : k < r.length) : hasB leaf f (r.drop k) = ((if r.getD k 0 < 0 then f (-1 - r.getD k 0).toNat else leaf) && hasB leaf f (r.drop (k + 1))) := by
  have e : r.getD k 0 = r[k] := by simp [List.getD, hk]
  rw [e, List.drop_eq_getElem_cons hk]
  rfl

set_option maxHeartbeats 4000000 in
theorem rowHas_any (N : Nat) (hN : N ≤ 300) (r : List Int) (L : List Bool) (leaf : Bool) (rv : Value) (B : Nat) (w : World) (hr : SymsL N r) (hL : L.length = N) (hrv : IntsR w rv r) (hv : RowB w B L) :
    Calls Tryz.prog 48 #[rv, .slice (some ⟨B, 0, none⟩) N N, .bool leaf] w fun e w' => e = .returned (.bool (hasB leaf (factB L) r)) ∧ w' = w := by
  obtain ⟨ra, rc, rfl⟩ := hrv.slice
  have HRV : Hid (IntsR w (.slice ra r.length rc) r) := hrv
  have HV : Hid (RowB w B L) := hv
  have HL : Hid (L.length = N) := hL
  have HSY : Hid (SymsL N r) := hr
  have hrl := hr.1
  have hBl := hv.lt
  clear hrv hv hL hr
  generalize hR : hasB leaf (factB L) r = R at *
  have HR : Hid (hasB leaf (factB L) r = R) := hR
  clear hR
  have hN0 := nameOf_any
  go_enter Tryz.func48, Tryz.ntmps48
  go_wp2
  go_loopw [13] (fun i wr => ∃ (k : Nat), k ≤ r.length ∧ i = .int .i64 k ∧ Hid (R = hasB leaf (factB L) (r.drop k)) ∧ wr = w) (fun i _ => r.length - (intOf i).toNat)
  case atStart => exact ⟨0, Nat.zero_le _, rfl, (by show _ = _; rw [List.drop_zero, HR.out]), rfl⟩
  case round =>
    obtain ⟨k, hk, rfl, HZ, hwe⟩ := hrel
    subst hwe
    by_cases hlt : k < r.length
    · obtain ⟨b, off, rfl, hb, hc⟩ := HRV.out.at hlt
      obtain ⟨hs1, hs2⟩ := HSY.out.2 k hlt
      have HT : Hid (R = _) := HZ.out.trans (hasB_drop leaf (factB L) r k hlt)
      generalize r.getD k 0 = sy at *
      have hC := hN0 sy hs2
      clear hN0
      by_cases hs : sy < 0
      · obtain ⟨q, hq⟩ : ∃ q : Nat, -1 - sy = (q : Int) := ⟨(-1 - sy).toNat, by omega⟩
        have hqN : q < N := by omega
        have d1 : decide (sy < 0) = true := decide_eq_true hs
        rw [d1, hq] at hC
        have hqn : (-1 - sy).toNat = q := by omega
        rw [if_pos hs, hqn] at HT
        have hc2 := HV.out.cell (j := q) (by rw [HL.out]; exact hqN)
        clear hq hqn hs d1 hs1 hs2
        generalize factB L q = x at *
        cases x with
        | false =>
          have HE : Hid (R = false) := by rw [Bool.false_and] at HT; exact HT.out
          go_wp2_with fail
          refine (hC _).mono ?_
          rintro e w1 ⟨rfl, rfl⟩
          go_wp2
          go_ret
          exact ⟨by rw [HE.out]; rfl, rfl⟩
        | true =>
          have HE : Hid (R = hasB leaf (factB L) (r.drop (k + 1))) := by rw [Bool.true_and] at HT; exact HT.out
          clear HT
          go_wp2_with fail
          refine (hC _).mono ?_
          rintro e w1 ⟨rfl, rfl⟩
          go_wp2
          go_roundw
          case rel => exact ⟨k + 1, by omega, by go_num, HE, trivial⟩
          case measure => simp [intOf]; omega
      · have d1 : decide (sy < 0) = false := decide_eq_false hs
        rw [d1] at hC
        rw [if_neg hs] at HT
        clear hs hs1 hs2 d1
        cases leaf with
        | false =>
          have HE : Hid (R = false) := by rw [Bool.false_and] at HT; exact HT.out
          go_wp2_with fail
          refine (hC _).mono ?_
          rintro e w1 ⟨rfl, rfl⟩
          go_wp2
          go_ret
          exact ⟨by rw [HE.out]; rfl, rfl⟩
        | true =>
          have HE : Hid (R = hasB true (factB L) (r.drop (k + 1))) := by rw [Bool.true_and] at HT; exact HT.out
          clear HT
          go_wp2_with fail
          refine (hC _).mono ?_
          rintro e w1 ⟨rfl, rfl⟩
          go_wp2
          go_roundw
          case rel => exact ⟨k + 1, by omega, by go_num, HE, trivial⟩
          case measure => simp [intOf]; omega
    · have HE : Hid (R = true) := by
        show _ = _
        rw [HZ.out, List.drop_eq_nil_of_le (by omega)]; rfl
      clear hN0
      go_wp2
      go_ret
      exact ⟨by rw [HE.out]; rfl, rfl⟩

end Go.Proofs.YtkdoghaoijdedaaGreatDoor

namespace Go.Proofs.YtkdoghaoijdedaaGreatDoor
open Go.RowKit
set_option linter.unusedVariables false
set_option maxRecDepth 100000

/-- a variable that holds a row of bools, one that holds a bool -/
structure VarB (w : World) (A B N : Nat) (L : List Bool) : Prop where
  lt : A < w.heap.size
  cell : w.cell? ⟨A, 0, none⟩ = some (.slice (some ⟨B, 0, none⟩) N N)
  row : RowB w B L
structure VarF (w : World) (A : Nat) (b : Bool) : Prop where
  lt : A < w.heap.size
  cell : w.cell? ⟨A, 0, none⟩ = some (.bool b)
theorem RowB.below {w w' : World} {B : Nat} {L : List Bool} (h : RowB w B L) (hb : Below w.heap.size w w') : RowB w' B L := (hb.block B h.lt).trans h
theorem VarB.below {w w' : World} {A B N : Nat} {L : List Bool} (h : VarB w A B N L) (hb : Below w.heap.size w w') : VarB w' A B N L :=
  ⟨Nat.lt_of_lt_of_le h.lt hb.size, (hb.cell (p := ⟨A, 0, none⟩) h.lt).trans h.cell, h.row.below hb⟩
theorem VarF.below {w w' : World} {A : Nat} {b : Bool} (h : VarF w A b) (hb : Below w.heap.size w w') : VarF w' A b :=
  ⟨Nat.lt_of_lt_of_le h.lt hb.size, (hb.cell (p := ⟨A, 0, none⟩) h.lt).trans h.cell⟩

set_option maxHeartbeats 2000000 in
theorem haveCC_any (N : Nat) (hN : N ≤ 300) (p : PdR) (rv : Value) (L : List Bool) (leaf : Bool) (A B C : Nat) (w : World) (hr : SymsL N p.right) (hL : L.length = N) (hrv : IntsR w rv p.right) (hA : VarB w A B N L) (hC : VarF w C leaf) :
    Calls Tryz.prog 47 #[pdv p rv, .pointer (some ⟨A, 0, none⟩), .pointer (some ⟨C, 0, none⟩)] w fun e w' => e = .returned (.bool (hasB leaf (factB L) p.right)) ∧ Below w.heap.size w w' := by
  have hP0 := alloc_below w (.cells #[.int .i64 p.left, rv, .int .i64 p.level] 34)
  have hA1 := hA.below hP0
  have hC1 := hC.below hP0
  have HCa := rowHas_any N hN p.right L leaf rv B (w.alloc (.cells #[.int .i64 p.left, rv, .int .i64 p.level] 34)) hr hL (hrv.below hP0) hA1.row
  obtain ⟨p0, p1, p2⟩ := box3_cells w (.int .i64 p.left) rv (.int .i64 p.level) 34
  have hps := alloc_size w (.cells #[.int .i64 p.left, rv, .int .i64 p.level] 34)
  have hlt : w.heap.size < (w.alloc (.cells #[.int .i64 p.left, rv, .int .i64 p.level] 34)).heap.size := by omega
  obtain ⟨a0, a1, _⟩ := hA1
  obtain ⟨c0, c1⟩ := hC1
  obtain ⟨ra, rc, rfl⟩ := hrv.slice
  clear hrv hr hA hC hps
  unfold pdv
  generalize hasB leaf (factB L) p.right = bb at *
  obtain ⟨left, right, level⟩ := p
  simp only at *
  go_enter Tryz.func47, Tryz.ntmps47
  go_wp2_with fail
  refine HCa.mono ?_
  rintro e w1 ⟨rfl, rfl⟩
  go_wp2
  go_ret
  exact ⟨rfl, hP0⟩

/-- what the productions of a name say -/
def anyB (leaf : Bool) (f : Nat → Bool) (l : List PdR) : Bool := l.any fun p => hasB leaf f p.right
theorem anyB_says (leaf : Bool) (f : Nat → Bool) (ps : List PdR) (hl : ∀ p ∈ ps, 0 ≤ p.left) (n : Nat) : anyB leaf f (ownL ps n) = saysB leaf (prsS ps) f n := by
  rw [Bool.eq_iff_iff, saysB_iff]
  unfold anyB ownL
  rw [List.any_eq_true]
  constructor
  · rintro ⟨p, hp, h⟩
    obtain ⟨h1, h2⟩ := List.mem_filter.1 hp
    have h3 : p.left = (n : Int) := by simpa using h2
    exact ⟨prS p, List.mem_map.2 ⟨p, h1, rfl⟩, by show p.left.toNat = n; omega, h⟩
  · rintro ⟨q, hq, h1, h2⟩
    obtain ⟨p, hp, rfl⟩ := List.mem_map.1 hq
    have h3 := hl p hp
    have h4 : p.left.toNat = n := h1
    refine ⟨p, List.mem_filter.2 ⟨hp, ?_⟩, h2⟩
    simp; omega

set_option maxHeartbeats 2000000 in
theorem haveC_any (N : Nat) (hN : N ≤ 300) (own : Nat → List PdR) (L : List Bool) (leaf : Bool) (B n O C : Nat) (hn : n < N) (w : World) (hol : (own n).length ≤ 400) (hsy : ∀ p ∈ own n, SymsL N p.right) (hL : L.length = N) (hv : RowB w B L) (hO : OwnM w O N own) (hC : VarF w C leaf) :
    Calls Tryz.prog 46 #[.slice (some ⟨B, 0, none⟩) N N, .int .i64 n, .pointer (some ⟨O, 0, none⟩), .pointer (some ⟨C, 0, none⟩)] w fun e w' => e = .returned (.bool (anyB leaf (factB L) (own n))) ∧ Below w.heap.size w w' := by
  have hP0 := alloc_below w (.cells #[.slice (some ⟨B, 0, none⟩) N N] 27)
  have hP1 := alloc_size w (.cells #[.slice (some ⟨B, 0, none⟩) N N] 27)
  have hPc : (w.alloc (.cells #[.slice (some ⟨B, 0, none⟩) N N] 27)).cell? ⟨w.heap.size, 0, none⟩ = some (.slice (some ⟨B, 0, none⟩) N N) := by
    have h : (w.alloc (.cells #[.slice (some ⟨B, 0, none⟩) N N] 27)).heap[w.heap.size]? = some (.cells #[.slice (some ⟨B, 0, none⟩) N N] 27) := by
      show (w.heap.push _)[w.heap.size]? = _
      exact Array.getElem?_push_size
    simp only [World.cell?, h]; rfl
  have hV : VarB (w.alloc (.cells #[.slice (some ⟨B, 0, none⟩) N N] 27)) w.heap.size B N L := ⟨by omega, hPc, hv.below hP0⟩
  obtain ⟨D, hOl, hDl, cO, hown⟩ := hO.below hP0
  obtain ⟨ov, cD, hov⟩ := hown n hn
  have hCq := containsQ_any 47 (fun args w => by kernel_rfl) (.pointer (some ⟨w.heap.size, 0, none⟩)) (.pointer (some ⟨C, 0, none⟩)) ov (fun p => hasB leaf (factB L) p.right) (own n) (w.alloc (.cells #[.slice (some ⟨B, 0, none⟩) N N] 27)) (by omega) hov (fun w' p rv hp hb hr => haveCC_any N hN p rv L leaf w.heap.size B C w' (hsy p hp) hL hr (hV.below hb) ((hC.below hP0).below hb))
  have HCq : Hid (Calls Tryz.prog 40 #[ov, .func (.func 47) #[] #[.pointer (some ⟨w.heap.size, 0, none⟩), .pointer (some ⟨C, 0, none⟩)]] (w.alloc (.cells #[.slice (some ⟨B, 0, none⟩) N N] 27)) fun e w' => e = .returned (.bool (anyB leaf (factB L) (own n))) ∧ Below (w.alloc (.cells #[.slice (some ⟨B, 0, none⟩) N N] 27)).heap.size (w.alloc (.cells #[.slice (some ⟨B, 0, none⟩) N N] 27)) w') := hCq
  obtain ⟨oa, oc, rfl⟩ := hov.slice
  clear hCq hov hown hO hC hsy hV hPc
  generalize anyB leaf (factB L) (own n) = bb at *
  go_enter Tryz.func46, Tryz.ntmps46
  go_wp2_with fail
  refine HCq.out.mono ?_
  rintro e w1 ⟨rfl, hb⟩
  have hb2 := hP0.trans (hb.mono hP0.size)
  clear HCq hb
  go_wp2
  go_ret
  exact ⟨rfl, hb2⟩

end Go.Proofs.YtkdoghaoijdedaaGreatDoor

namespace Go.Proofs.YtkdoghaoijdedaaGreatDoor
open Go.RowKit
set_option linter.unusedVariables false
set_option maxRecDepth 100000

def numsL (N : Nat) : List Int := (List.range N).map fun n : Nat => (n : Int)
theorem numsL_len (N : Nat) : (numsL N).length = N := by simp [numsL]

set_option maxHeartbeats 2000000 in
theorem firstNumbers_any (N : Nat) (hN : N ≤ 300) (w : World) :
    Calls Tryz.prog 68 #[.int .i64 N] w fun e w' => e = .returned (.slice (some ⟨w.heap.size, 0, none⟩) N N) ∧ Row w' w.heap.size (numsL N) ∧ w'.heap.size = w.heap.size + 1 ∧ Below w.heap.size w w' := by
  have hmk := makeInts N (by omega)
  have HR0 : Hid (Row (w.alloc (.cells (intsA (List.replicate N 0)) 3)) w.heap.size (List.replicate N 0)) := by
    show (w.alloc _).heap[w.heap.size]? = _
    show (w.heap.push _)[w.heap.size]? = _
    exact Array.getElem?_push_size
  have hb0 := alloc_below w (.cells (intsA (List.replicate N 0)) 3)
  have hs0 := alloc_size w (.cells (intsA (List.replicate N 0)) 3)
  go_enter Tryz.func68, Tryz.ntmps68
  go_wp2
  clear hmk
  generalize w.alloc (.cells (intsA (List.replicate N 0)) 3) = w1 at *
  have HS0 : Hid (w1.heap.size = w.heap.size + 1) := hs0
  clear hs0
  go_loopw [9] (fun i wr => ∃ (k : Nat) (L : List Int), k ≤ N ∧ i = .int .i64 k ∧ Hid (Row wr w.heap.size L) ∧ Hid (L.length = N) ∧ Hid (∀ j, j < k → L.getD j 0 = j) ∧ Hid (wr.heap.size = w.heap.size + 1) ∧ Below w.heap.size w wr) (fun i _ => N - (intOf i).toNat)
  case atStart => exact ⟨0, List.replicate N 0, Nat.zero_le _, rfl, HR0, (by show _ = _; simp), (fun j hj => by omega), HS0, hb0⟩
  case round =>
    obtain ⟨k, L, hk, rfl, HR, HL, HA, HS, hbw⟩ := hrel
    have hDlt := HR.out.lt
    by_cases hlt : k < N
    · have cD := HR.out.cell (j := k) (by rw [HL.out]; exact hlt)
      have fz := HR.out.fz k
      have HR2 : Hid (Row (wr.setCell ⟨w.heap.size, k, none⟩ (.int .i64 (k : Int))) w.heap.size (L.set k (k : Int))) := HR.out.set k (k : Int)
      have HA2 : Hid (∀ j, j < k + 1 → (L.set k (k : Int)).getD j 0 = j) := fun j hj => by
        by_cases e : j = k
        · subst e; simp [List.getD, HL.out, hlt]
        · have := HA.out j (by omega)
          simp only [List.getD] at *
          rw [List.getElem?_set_ne (Ne.symm e)]; exact this
      have HL2 : Hid ((L.set k (k : Int)).length = N) := by show _ = _; rw [List.length_set]; exact HL.out
      have hb2 := below_set hbw (Nat.le_refl _) k (.int .i64 (k : Int))
      have HS2 : Hid ((wr.setCell ⟨w.heap.size, k, none⟩ (.int .i64 (k : Int))).heap.size = w.heap.size + 1) := by
        show _ = _
        rw [← HS.out]; simp
      generalize L.getD k 0 = old at *
      clear HR HA HL HS
      go_wp2
      go_roundw
      case rel => exact ⟨k + 1, _, by omega, by go_num, HR2, HL2, HA2, HS2, hb2⟩
      case measure => simp [intOf]; omega
    · have HE : Hid (L = numsL N) := by
        show _ = _
        apply List.ext_getElem
        · rw [HL.out, numsL_len]
        · intro j h1 h2
          have := HA.out j (by rw [HL.out] at h1; omega)
          simp [List.getD, h1] at this
          simp [numsL, this]
      clear HA HL
      go_wp2
      go_ret
      exact ⟨rfl, by rw [← HE.out]; exact HR.out, HS.out, hbw⟩

end Go.Proofs.YtkdoghaoijdedaaGreatDoor

namespace Go.Proofs.YtkdoghaoijdedaaGreatDoor
open Go.RowKit
set_option linter.unusedVariables false
set_option maxRecDepth 100000

/-- values that fill a block -/
def RowV (w : World) (D : Nat) (ty : TypeId) (vs : List Value) : Prop := w.heap[D]? = some (.cells vs.toArray ty (0, 0))
theorem RowV.cell {w : World} {D : Nat} {ty : TypeId} {vs : List Value} (h : RowV w D ty vs) (j : Nat) : w.cell? ⟨D, j, none⟩ = vs[j]? := by
  unfold RowV at h
  simp [World.cell?, h]
theorem RowV.lt {w : World} {D : Nat} {ty : TypeId} {vs : List Value} (h : RowV w D ty vs) : D < w.heap.size := (Array.getElem?_eq_some_iff.1 h).1
theorem RowV.fz {w : World} {D : Nat} {ty : TypeId} {vs : List Value} (h : RowV w D ty vs) (j : Nat) : w.frozen? ⟨D, j, none⟩ = false := by
  unfold RowV at h
  simp [World.frozen?, h]
theorem RowV.set {w : World} {D : Nat} {ty : TypeId} {vs : List Value} (h : RowV w D ty vs) (j : Nat) (x : Value) : RowV (w.setCell ⟨D, j, none⟩ x) D ty (vs.set j x) := by
  unfold RowV at *
  rw [heap_setC _ _ _ _ _ _ h]
  simp
theorem Tryz.infoMap : (Tryz.prog.info? 65).map (fun i => (i.zero, i.size, i.bytes)) = some (some (.map none), 1, 8) := by kernel_rfl
theorem nilsA (m : Nat) : madeCells (Value.map none).cells m = (Array.replicate m (Value.map none)) := by
  apply Array.ext
  · simp [madeCells, Value.cells]
  · intro i h1 h2
    simp [madeCells, Value.cells, Nat.mod_one]
theorem makeLinks (m : Nat) (hm : m ≤ 1000000) (W : World) : (Instr.makeSlice 56 (.int .i64 m) (.int .i64 m)).run Tryz.prog W = .ok (.slice (some ⟨W.heap.size, 0, none⟩) m m) (W.alloc (.cells (Array.replicate m (Value.map none)) 65)) := by
  obtain ⟨i0, hi, hz0, hz1, hz2⟩ := infoParts Tryz.infoMap
  have := run_make W 56 65 i0 (.map none) Tryz.underlying56 hi hz0 .i64 .i64 m m (by omega) (by omega) (by rw [hz2]; omega) (by omega)
  rw [this, hz1, nilsA]
  simp

/-- so many new maps, one behind the other -/
structure NewM (w : World) (D N k : Nat) (vs : List Value) : Prop where
  row : RowV w D 65 vs
  len : vs.length = N
  at_ : ∀ j, j < k → vs[j]? = some (.map (some (D + 1 + j))) ∧ w.heap[D + 1 + j]? = some (.map #[] 0)
  size : w.heap.size = D + 1 + k

set_option maxHeartbeats 4000000 in
theorem newLinks_any (N : Nat) (hN : N ≤ 300) (w : World) :
    Calls Tryz.prog 71 #[.int .i64 N] w fun e w' => e = .returned (.slice (some ⟨w.heap.size, 0, none⟩) N N) ∧ (∃ vs, NewM w' w.heap.size N N vs) ∧ Below w.heap.size w w' := by
  have hmm := @run_makeMap Tryz.prog
  have hmk := makeLinks N (by omega)
  have HN0 : Hid (NewM (w.alloc (.cells (Array.replicate N (Value.map none)) 65)) w.heap.size N 0 (List.replicate N (Value.map none))) := by
    refine ⟨?_, by simp, fun j hj => by omega, alloc_size _ _⟩
    show (w.heap.push _)[w.heap.size]? = some (.cells (List.replicate N (Value.map none)).toArray 65 (0, 0))
    rw [List.toArray_replicate]
    exact Array.getElem?_push_size
  have hb0 := alloc_below w (.cells (Array.replicate N (Value.map none)) 65)
  go_enter Tryz.func71, Tryz.ntmps71
  go_wp2
  clear hmk
  generalize w.alloc (.cells (Array.replicate N (Value.map none)) 65) = w1 at *
  go_loopw [9] (fun i wr => ∃ (k : Nat) (vs : List Value), k ≤ N ∧ i = .int .i64 k ∧ Hid (NewM wr w.heap.size N k vs) ∧ Below w.heap.size w wr) (fun i _ => N - (intOf i).toNat)
  case atStart => exact ⟨0, _, Nat.zero_le _, rfl, HN0, hb0⟩
  case round =>
    obtain ⟨k, vs, hk, rfl, HM, hbw⟩ := hrel
    have hDlt := HM.out.row.lt
    by_cases hlt : k < N
    · have hss : (wr.setCell ⟨w.heap.size, k, none⟩ (.map (some wr.heap.size))).heap.size = wr.heap.size := by simp
      have HA : Hid (NewM ((wr.setCell ⟨w.heap.size, k, none⟩ (.map (some wr.heap.size))).alloc (.map #[] 0)) w.heap.size N (k + 1) (vs.set k (.map (some wr.heap.size)))) := by
        obtain ⟨m1, m2, m3, m4⟩ := HM.out
        refine ⟨(Below.heap_alloc _ _ _ (by rw [hss]; exact hDlt)).trans (m1.set k _), by simp [m2], fun j hj => ?_, ?_⟩
        · by_cases e : j = k
          · subst e
            refine ⟨by simp [m2, hlt, m4], ?_⟩
            have h9 : ∀ W : World, (W.alloc (.map #[] 0)).heap[W.heap.size]? = some (.map #[] 0) := fun W => by
              show (W.heap.push _)[W.heap.size]? = _
              exact Array.getElem?_push_size
            have h8 := h9 (wr.setCell ⟨w.heap.size, j, none⟩ (.map (some wr.heap.size)))
            rw [hss] at h8
            rw [← m4]
            exact h8
          · obtain ⟨h1, h2⟩ := m3 j (by omega)
            refine ⟨by rw [List.getElem?_set_ne (Ne.symm e)]; exact h1, ?_⟩
            rw [Below.heap_alloc _ _ _ (by rw [hss]; omega), Below.heap_setCell _ _ _ _ (by simp; omega)]
            exact h2
        · rw [alloc_size, hss]
          omega
      have hb2 : Below w.heap.size w ((wr.setCell ⟨w.heap.size, k, none⟩ (.map (some wr.heap.size))).alloc (.map #[] 0)) := (below_set hbw (Nat.le_refl _) k _).trans ((alloc_below _ _).mono (by rw [hss]; exact hbw.size))
      clear hss
      have hrow : RowV (wr.alloc (.map #[] 0)) w.heap.size 65 vs := (Below.heap_alloc _ _ _ hDlt).trans HM.out.row
      obtain ⟨old, hold⟩ : ∃ old, vs[k]? = some old := ⟨vs[k]'(by rw [HM.out.len]; exact hlt), by simp⟩
      have cD : (wr.alloc (.map #[] 0)).cell? ⟨w.heap.size, k, none⟩ = some old := (hrow.cell k).trans hold
      have fz := hrow.fz k
      have hDlt2 := hrow.lt
      clear hrow hold HM
      go_wp2
      go_roundw
      case rel => exact ⟨k + 1, _, by omega, by go_num, HA, hb2⟩
      case measure => simp [intOf]; omega
    · obtain rfl : k = N := by omega
      go_wp2
      go_ret
      exact ⟨rfl, ⟨vs, HM.out⟩, hbw⟩

end Go.Proofs.YtkdoghaoijdedaaGreatDoor
