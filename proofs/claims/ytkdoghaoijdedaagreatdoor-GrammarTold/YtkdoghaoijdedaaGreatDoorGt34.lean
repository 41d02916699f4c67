/- Texts of the proof, put together: GLlp, GTbM, GPop. -/
import Derived.Test.YtkdoghaoijdedaaGreatDoorGt33
import Derived.Test.YtkdoghaoijdedaaGreatDoorGt20
import Derived.Test.YtkdoghaoijdedaaGreatDoorGt25
import Derived.Test.YtkdoghaoijdedaaGreatDoorGt18
import Derived.Test.YtkdoghaoijdedaaGreatDoorGt32
import Derived.Deep.Cut
import Derived.Deep.RegionWith
namespace Go.Proofs.YtkdoghaoijdedaaGreatDoor
open Go.RowKit
set_option linter.unusedVariables false
set_option maxRecDepth 100000

def nilA (m : Nat) : Array Value := (List.replicate m (Value.slice none 0 0)).toArray
theorem nilsI (m : Nat) : madeCells (Value.slice none 0 0).cells m = nilA m := by
  unfold nilA
  apply Array.ext
  · simp [madeCells, Value.cells]
  · intro i h1 h2
    simp [madeCells, Value.cells, Nat.mod_one]
theorem makeIntss (m : Nat) (hm : m ≤ 1000000) (W : World) : (Instr.makeSlice 29 (.int .i64 m) (.int .i64 m)).run Tryz.prog W = .ok (.slice (some ⟨W.heap.size, 0, none⟩) m m) (W.alloc (.cells (nilA m) 23)) := by
  obtain ⟨i0, hi, hz0, hz1, hz2⟩ := infoParts Tryz.infoInts
  have := run_make W 29 23 i0 (.slice none 0 0) Tryz.underlying29 hi hz0 .i64 .i64 m m (by omega) (by omega) (by rw [hz2]; omega) (by omega)
  rw [this, hz1, nilsI]
  simp
/-- a row of rows that fills a block -/
def RowVi (w : World) (D : Nat) (vs : List Value) : Prop := w.heap[D]? = some (.cells vs.toArray 23 (0, 0))
theorem RowVi.lt {w : World} {D : Nat} {vs : List Value} (h : RowVi w D vs) : D < w.heap.size := (Array.getElem?_eq_some_iff.1 h).1
theorem RowVi.fz {w : World} {D : Nat} {vs : List Value} (h : RowVi w D vs) (j : Nat) : w.frozen? ⟨D, j, none⟩ = false := by
  unfold RowVi at h
  simp [World.frozen?, h]
theorem RowVi.cell {w : World} {D : Nat} {vs : List Value} (h : RowVi w D vs) {j : Nat} (hj : j < vs.length) : w.cell? ⟨D, j, none⟩ = some (vs.getD j (.slice none 0 0)) := by
  unfold RowVi at h
  simp [World.cell?, h, List.getD, hj]
theorem RowVi.set {w : World} {D : Nat} {vs : List Value} (h : RowVi w D vs) (j : Nat) (x : Value) : RowVi (w.setCell ⟨D, j, none⟩ x) D (vs.set j x) := by
  unfold RowVi at *
  rw [heap_setC _ _ _ _ _ _ h]
  simp
/-- rows of numbers on their way -/
structure LpO (w wr : World) (D : Nat) (f : Nat → List Int) (vs : List Value) (k : Nat) : Prop where
  row : RowVi wr D vs
  done : ∀ j, j < k → OwnI wr w.heap.size (vs.getD j (.slice none 0 0)) (f j)
theorem LpO.step {w wr w' : World} {D k : Nat} {f : Nat → List Int} {vs : List Value} (h : LpO w wr D f vs k) (hk : k < vs.length) (hb : Below wr.heap.size wr w') {v : Value} (hv : OwnI w' w.heap.size v (f k)) : LpO w (w'.setCell ⟨D, k, none⟩ v) D f (vs.set k v) (k + 1) := by
  have hr : RowVi w' D vs := (hb.block D h.row.lt).trans h.row
  have hkp : ∀ u l, OwnI w' w.heap.size u l → OwnI (w'.setCell ⟨D, k, none⟩ v) w.heap.size u l := fun u l hu => by
    refine World.ownsRow.kept hu (set_grown w' D k v) ?_
    rcases hu.2 with ⟨e, h0⟩ | ⟨g, cap, cur, e, hB, hg, hcap, _⟩
    · rw [e]; exact .inl rfl
    · refine .inr ?_
      rw [e]
      intro he
      have : g = D := by simpa [Value.ownBlock] using he
      unfold RowVi at hr
      rw [this, hr] at hg
      simp at hg
  refine ⟨hr.set k v, fun j hj => ?_⟩
  by_cases e : j = k
  · subst e
    rw [show (vs.set j v).getD j (.slice none 0 0) = v by simp [List.getD, hk]]
    exact hkp _ _ hv
  · rw [show (vs.set k v).getD j (.slice none 0 0) = vs.getD j (.slice none 0 0) by simp only [List.getD]; rw [List.getElem?_set_ne (Ne.symm e)]]
    exact hkp _ _ (own_belowI (h.done j (by omega)) hb)
theorem LpO.final {w wr : World} {D N : Nat} {f : Nat → List Int} {vs : List Value} (h : LpO w wr D f vs N) (hl : vs.length = N) : LssM wr (.slice (some ⟨D, 0, none⟩) N N) ((List.range N).map f) := by
  refine ⟨_, _, by simp; rfl, .inr ⟨D, 0, rfl, h.row.lt, fun j hj => ?_⟩⟩
  have hj' : j < N := by simpa using hj
  refine ⟨_, by rw [Nat.zero_add]; exact h.row.cell (by omega), ?_⟩
  rw [show ((List.range N).map f).getD j [] = f j by simp [List.getD, hj']]
  exact (h.done j hj').intsR

set_option maxHeartbeats 8000000 in
theorem listsOf_any (N B : Nat) (L : List Nat) (w : World) (hN : N ≤ 300) (hL : L.length = N) (hlt : ∀ n, factM L n < 512) (hv : RowM w B L) (hG : 0 < w.heap.size) (hT : TabAt 0 Lib.deBruijn64tab w) :
    Calls Tryz.prog 27 #[.slice (some ⟨B, 0, none⟩) N N] w fun e w' => ∃ v, e = .returned v ∧ LssM w' v ((List.range N).map fun n => bitsZ (factM L n)) ∧ Below w.heap.size w w' := by
  have hmk := makeIntss N (by omega) w
  have hA := alloc_below w (.cells (nilA N) 23)
  have HR0 : Hid (LpO w (w.alloc (.cells (nilA N) 23)) w.heap.size (fun n => bitsZ (factM L n)) (List.replicate N (Value.slice none 0 0)) 0) := ⟨alloc_at _ _, fun j hj => by omega⟩
  have HV : Hid (RowM w B L) := hv
  have HL : Hid (L.length = N) := hL
  have HML : Hid (∀ wx k, Below w.heap.size w wx → Calls Tryz.prog 57 #[mkV (factM L k)] wx fun e w' => ∃ v, e = .returned v ∧ OwnI w' (wx.heap.size + 1) v (bitsZ (factM L k)) ∧ Below wx.heap.size wx w') := fun wx k hb => mlist_any (factM L k) (hlt k) wx (Nat.lt_of_lt_of_le hG hb.size) (tab_below hT hG hb)
  clear hv hL hlt hG hT
  unfold mkV mkA at HML
  go_enter Tryz.func27, Tryz.ntmps27
  go_wp2
  clear hmk
  generalize w.alloc (.cells (nilA N) 23) = w1 at *
  go_loopw [11] (fun iv wr => ∃ (k : Nat) (vs : List Value), k ≤ N ∧ iv = .int .i64 k ∧ Hid (LpO w wr w.heap.size (fun n => bitsZ (factM L n)) vs k) ∧ Hid (vs.length = N) ∧ Below w.heap.size w wr) (fun iv _ => N - (intOf iv).toNat)
  case atStart => exact ⟨0, _, Nat.zero_le _, rfl, HR0, (by show _ = _; simp), hA⟩
  case round =>
    clear HR0 hA
    obtain ⟨k, vs, hk, rfl, HR, HVL, hbw⟩ := hrel
    by_cases hlt : k < N
    · have hV := HV.out.below hbw
      have hkL : k < L.length := by rw [HL.out]; exact hlt
      have c0 := hV.c0 hkL
      have c1 := hV.ck hkL (k := 1) (by omega) (by omega)
      have c2 := hV.ck hkL (k := 2) (by omega) (by omega)
      have c3 := hV.ck hkL (k := 3) (by omega) (by omega)
      have c4 := hV.ck hkL (k := 4) (by omega) (by omega)
      have lV := hV.lt
      have hA := alloc_below wr (.cells #[.int .u64 (factM L k), .int .u64 0, .int .u64 0, .int .u64 0, .int .u64 0] 64)
      have hAs := alloc_size wr (.cells #[.int .u64 (factM L k), .int .u64 0, .int .u64 0, .int .u64 0, .int .u64 0] 64)
      have hX : BoxM (wr.alloc (.cells #[.int .u64 (factM L k), .int .u64 0, .int .u64 0, .int .u64 0, .int .u64 0] 64)) wr.heap.size (factM L k) := alloc_at _ _
      have x0 := hX.c0
      have x1 := hX.c1
      have x2 := hX.c2
      have x3 := hX.c3
      have x4 := hX.c4
      have x5 := hX.lt
      have hbA : Below w.heap.size w (wr.alloc (.cells #[.int .u64 (factM L k), .int .u64 0, .int .u64 0, .int .u64 0, .int .u64 0] 64)) := hbw.trans (hA.mono hbw.size)
      have hC := HML.out _ k hbA
      have HSTP : Hid (∀ w7 v, Below (wr.alloc (.cells #[.int .u64 (factM L k), .int .u64 0, .int .u64 0, .int .u64 0, .int .u64 0] 64)).heap.size (wr.alloc (.cells #[.int .u64 (factM L k), .int .u64 0, .int .u64 0, .int .u64 0, .int .u64 0] 64)) w7 → OwnI w7 ((wr.alloc (.cells #[.int .u64 (factM L k), .int .u64 0, .int .u64 0, .int .u64 0, .int .u64 0] 64)).heap.size + 1) v (bitsZ (factM L k)) → LpO w (w7.setCell ⟨w.heap.size, k, none⟩ v) w.heap.size (fun n => bitsZ (factM L n)) (vs.set k v) (k + 1) ∧ Below w.heap.size w (w7.setCell ⟨w.heap.size, k, none⟩ v) ∧ w7.frozen? ⟨w.heap.size, k, none⟩ = false ∧ w7.cell? ⟨w.heap.size, k, none⟩ = some (vs.getD k (.slice none 0 0)) ∧ w.heap.size < w7.heap.size) := fun w7 v h7 ho => by
        have h8 : Below wr.heap.size wr w7 := hA.trans (h7.mono (by omega))
        have h9 : RowVi w7 w.heap.size vs := (h8.block _ HR.out.row.lt).trans HR.out.row
        exact ⟨HR.out.step (by rw [HVL.out]; exact hlt) h8 (own_mono ho (by have := hbw.size; omega)), below_set (hbw.trans (h8.mono hbw.size)) (Nat.le_refl _) _ _, h9.fz k, h9.cell (by rw [HVL.out]; exact hlt), h9.lt⟩
      have HVL2 : Hid (∀ v, (vs.set k v).length = N) := fun v => by rw [List.length_set]; exact HVL.out
      clear hV hX hA hbA HR
      generalize factM L k = fm at *
      go_wp2_with fail
      refine hC.mono ?_
      rintro e w7 ⟨v, rfl, ho7, hb7⟩
      obtain ⟨s1, s2, s3, s4, s5⟩ := HSTP.out w7 v hb7 ho7
      have S1 : Hid (LpO w (w7.setCell ⟨w.heap.size, k, none⟩ v) w.heap.size (fun n => bitsZ (factM L n)) (vs.set k v) (k + 1)) := s1
      obtain ⟨va, vc, hve⟩ := ho7.slice
      subst hve
      clear hC HSTP s1 ho7 hb7 c0 c1 c2 c3 c4 lV x0 x1 x2 x3 x4 x5 hAs
      go_wp2
      go_roundw
      case rel => exact ⟨k + 1, _, by omega, by go_num, S1, HVL2.out _, s2⟩
      case measure => simp [intOf]; omega
    · obtain rfl : k = N := by omega
      have HE : Hid (LssM wr (.slice (some ⟨w.heap.size, 0, none⟩) k k) ((List.range k).map fun n => bitsZ (factM L n))) := HR.out.final HVL.out
      clear HR
      go_wp2
      go_ret
      exact ⟨_, rfl, HE.out, hbw⟩

end Go.Proofs.YtkdoghaoijdedaaGreatDoor

namespace Go.Proofs.YtkdoghaoijdedaaGreatDoor
open Go.RowKit
set_option linter.unusedVariables false

theorem TabM.setT {w : World} {D n m : Nat} {bl : Nat → Nat} {LL : Nat → List Bool} (h : TabM w D n m bl LL) {i k : Nat} (hi : i < n) (b : Bool) : TabM (w.setCell ⟨bl i, k, none⟩ (.bool b)) D n m bl (setT LL i k b) := h.set hi b
/-- a production in a variable -/
def BoxP (w : World) (b : Nat) (lf : Int) (rv : Value) (lv : Int) : Prop := w.heap[b]? = some (.cells #[.int .i64 lf, rv, .int .i64 lv] 34 (0, 0))
theorem BoxP.lt {w : World} {b : Nat} {lf lv : Int} {rv : Value} (h : BoxP w b lf rv lv) : b < w.heap.size := (Array.getElem?_eq_some_iff.1 h).1
theorem BoxP.c0 {w : World} {b : Nat} {lf lv : Int} {rv : Value} (h : BoxP w b lf rv lv) : w.cell? ⟨b, 0, none⟩ = some (.int .i64 lf) := by unfold BoxP at h; simp only [World.cell?, h]; rfl
theorem BoxP.c1 {w : World} {b : Nat} {lf lv : Int} {rv : Value} (h : BoxP w b lf rv lv) : w.cell? ⟨b, 1, none⟩ = some rv := by unfold BoxP at h; simp only [World.cell?, h]; rfl
theorem BoxP.c2 {w : World} {b : Nat} {lf lv : Int} {rv : Value} (h : BoxP w b lf rv lv) : w.cell? ⟨b, 2, none⟩ = some (.int .i64 lv) := by unfold BoxP at h; simp only [World.cell?, h]; rfl
theorem BoxP.other {w : World} {b B o : Nat} {lf lv : Int} {rv v : Value} (h : BoxP w b lf rv lv) (hne : b ≠ B) : BoxP (w.setCell ⟨B, o, none⟩ v) b lf rv lv := by
  unfold BoxP at *
  rw [Below.heap_setCell _ _ _ _ (by simpa using hne)]
  exact h
theorem BoxP.drew {w : World} {b : Nat} {lf lv : Int} {rv : Value} (h : BoxP w b lf rv lv) : BoxP w.drew b lf rv lv := h
theorem BoxP.below {w w' : World} {b : Nat} {lf lv : Int} {rv : Value} (h : BoxP w b lf rv lv) {K : Nat} (hB : b < K) (hb : Below K w w') : BoxP w' b lf rv lv := (hb.block b hB).trans h
theorem TabM.bl_lt {w : World} {D n m : Nat} {bl : Nat → Nat} {LL : Nat → List Bool} (h : TabM w D n m bl LL) {j : Nat} (hj : j < n) : bl j < w.heap.size := (h.row j hj).lt

end Go.Proofs.YtkdoghaoijdedaaGreatDoor

namespace Go.Proofs.YtkdoghaoijdedaaGreatDoor
open Go.RowKit
set_option linter.unusedVariables false
set_option maxRecDepth 100000

theorem Tryz.infoOps : (Tryz.prog.info? 72).map (fun i => (i.zero, i.size, i.bytes)) = some (some (.slice none 0 0), 1, 24) := by kernel_rfl
theorem makeOpss (m : Nat) (hm : m ≤ 1000000) (W : World) : (Instr.makeSlice 90 (.int .i64 m) (.int .i64 m)).run Tryz.prog W = .ok (.slice (some ⟨W.heap.size, 0, none⟩) m m) (W.alloc (.cells (nilA m) 72)) := by
  obtain ⟨i0, hi, hz0, hz1, hz2⟩ := infoParts Tryz.infoOps
  have := run_make W 90 72 i0 (.slice none 0 0) Tryz.underlying90 hi hz0 .i64 .i64 m m (by omega) (by omega) (by rw [hz2]; omega) (by omega)
  rw [this, hz1, nilsI]
  simp
/-- a row of rows of openings -/
def RowVo (w : World) (D : Nat) (vs : List Value) : Prop := w.heap[D]? = some (.cells vs.toArray 72 (0, 0))
theorem RowVo.lt {w : World} {D : Nat} {vs : List Value} (h : RowVo w D vs) : D < w.heap.size := (Array.getElem?_eq_some_iff.1 h).1
theorem RowVo.fz {w : World} {D : Nat} {vs : List Value} (h : RowVo w D vs) (j : Nat) : w.frozen? ⟨D, j, none⟩ = false := by
  unfold RowVo at h
  simp [World.frozen?, h]
theorem RowVo.cell {w : World} {D : Nat} {vs : List Value} (h : RowVo w D vs) {j : Nat} (hj : j < vs.length) : w.cell? ⟨D, j, none⟩ = some (vs.getD j (.slice none 0 0)) := by
  unfold RowVo at h
  simp [World.cell?, h, List.getD, hj]
theorem RowVo.set {w : World} {D : Nat} {vs : List Value} (h : RowVo w D vs) (j : Nat) (x : Value) : RowVo (w.setCell ⟨D, j, none⟩ x) D (vs.set j x) := by
  unfold RowVo at *
  rw [heap_setC _ _ _ _ _ _ h]
  simp
theorem RowO.other {w : World} {D : Nat} {L : List (Nat × Bool)} (h : RowO w D L) {B o : Nat} {v : Value} (hne : D ≠ B) : RowO (w.setCell ⟨B, o, none⟩ v) D L := by
  unfold RowO at *
  rw [Below.heap_setCell _ _ _ _ (by simpa using hne)]
  exact h
/-- how the rest of a production begins, in memory -/
def OpR (w : World) (D : Nat) (f : Nat → Nat) (e : Nat → Bool) (r : List Int) (v : Value) : Prop := ∃ b O, v = .slice (some ⟨b, 0, none⟩) (r.length + 1) (r.length + 1) ∧ b ≠ D ∧ RowO w b O ∧ O.length = r.length + 1 ∧ ∀ i, i ≤ r.length → factQ O i = opnS f e (r.drop i)
structure PoO (w : World) (D : Nat) (f : Nat → Nat) (e : Nat → Bool) (ps : List PdR) (vs : List Value) (k : Nat) : Prop where
  row : RowVo w D vs
  done : ∀ j, j < k → OpR w D f e (ps.getD j noPd).right (vs.getD j (.slice none 0 0))
theorem OpR.below {w w' : World} {D : Nat} {f : Nat → Nat} {e : Nat → Bool} {r : List Int} {v : Value} (h : OpR w D f e r v) (hb : Below w.heap.size w w') : OpR w' D f e r v := by
  obtain ⟨b, O, h1, h2, h3, h4⟩ := h
  exact ⟨b, O, h1, h2, h3.below hb, h4⟩
theorem PoO.below {w w' : World} {D : Nat} {f : Nat → Nat} {e : Nat → Bool} {ps : List PdR} {vs : List Value} {k : Nat} (h : PoO w D f e ps vs k) (hb : Below w.heap.size w w') : PoO w' D f e ps vs k :=
  ⟨(hb.block D h.row.lt).trans h.row, fun j hj => (h.done j hj).below hb⟩
theorem PoO.step {w w' : World} {D : Nat} {f : Nat → Nat} {e : Nat → Bool} {ps : List PdR} {vs : List Value} {k : Nat} (h : PoO w D f e ps vs k) (hk : k < vs.length) (hb : Below w.heap.size w w') {v : Value} (hv : OpR w' D f e (ps.getD k noPd).right v) : PoO (w'.setCell ⟨D, k, none⟩ v) D f e ps (vs.set k v) (k + 1) := by
  have h' := h.below hb
  have hkp : ∀ r u, OpR w' D f e r u → OpR (w'.setCell ⟨D, k, none⟩ v) D f e r u := fun r u ⟨b, O, h1, h2, h3, h4⟩ => ⟨b, O, h1, h2, h3.other h2, h4⟩
  refine ⟨h'.row.set k v, fun j hj => ?_⟩
  by_cases e1 : j = k
  · subst e1
    rw [show (vs.set j v).getD j (.slice none 0 0) = v by simp [List.getD, hk]]
    exact hkp _ _ hv
  · rw [show (vs.set k v).getD j (.slice none 0 0) = vs.getD j (.slice none 0 0) by simp only [List.getD]; rw [List.getElem?_set_ne (Ne.symm e1)]]
    exact hkp _ _ (h'.done j (by omega))
/-- what 'firsts' says -/
structure FsOk (N : Nat) (ps : List PdR) (L : List Nat) : Prop where
  len : L.length = N
  lt : ∀ n, factM L n < 512
  bit : ∀ n, n < N → ∀ i, ((factM L n).testBit i = true ↔ fstP N ps n i)
  liv : ∀ n, n < N → hgtB true (prsS ps) N n = true → factM L n ≠ 0 ∨ hgtB false (prsS ps) N n = true
/-- behind the first statement -/
structure PrF (w0 wx : World) (N : Nat) (ps : List PdR) (FB EB : Nat) (L : List Nat) (E : List Bool) : Prop where
  fr : RowM wx FB L
  fs : FsOk N ps L
  er : RowB wx EB E
  el : E.length = N
  ef : factB E = hgtB false (prsS ps) N
  bl : Below w0.heap.size w0 wx

set_option maxHeartbeats 16000000 in
theorem prodOp_any (T : Nat) (t s : Int) (N : Nat) (ps : List PdR) (ls ss : List Int) (pv lv sv : Value) (w : World) (hN1 : 1 ≤ N) (hN8 : N ≤ 8) (hT8 : T ≤ 8) (hTr : TrmP T ps) (hG : GOkM N ps) (h : PdsM w pv ps) :
    Calls Tryz.prog 79 #[gv ⟨t, N, s, ps, ls, ss⟩ pv lv sv] w fun e w' => ∃ D L vs, e = .returned (.slice (some ⟨D, 0, none⟩) ps.length ps.length) ∧ PoO w' D (factM L) (hgtB false (prsS ps) N) ps vs ps.length ∧ vs.length = ps.length ∧ FsOk N ps L ∧ Below w.heap.size w w' := by
  have hB0 := boxG_below w ⟨t, N, s, ps, ls, ss⟩ pv lv sv
  have hB1 := boxG_size w ⟨t, N, s, ps, ls, ss⟩ pv lv sv
  have hB2 := boxG_box w ⟨t, N, s, ps, ls, ss⟩ pv lv sv
  have HFS : Hid (∀ w', Below w.heap.size w w' → _) := fun w' (hb : Below w.heap.size w w') => firsts_any t s N ps ls ss pv lv sv w' hN1 hN8 T hT8 hTr hG (h.below hb)
  have HHT : Hid (∀ w', Below w.heap.size w w' → _) := fun w' (hb : Below w.heap.size w w') => haveTrees_any false t s N ps ls ss pv lv sv w' hG (h.below hb)
  obtain ⟨pa, pc, rfl⟩ := h.slice
  have HP : Hid (PdsM w (.slice pa ps.length pc) ps) := h
  have HBX : Hid (∀ w', Below (boxG w ⟨t, N, s, ps, ls, ss⟩ (.slice pa ps.length pc) lv sv).heap.size (boxG w ⟨t, N, s, ps, ls, ss⟩ (.slice pa ps.length pc) lv sv) w' → BoxG w' w.heap.size ⟨t, N, s, ps, ls, ss⟩ (.slice pa ps.length pc) lv sv) := fun w' hb => hB2.below (by omega) hb
  clear h
  unfold gv gvs at HFS HHT
  unfold boxG gvs at hB0 hB1 hB2 HBX
  unfold gv gvs
  simp only at *
  obtain ⟨q0, q1, q2, q3, q4, q5, q6⟩ := hB2
  simp only at q0 q1 q2 q3 q4 q5 q6
  have hpl := hG.len
  go_enter Tryz.func79, Tryz.ntmps79
  go_upto_region 1 with fail
  generalize w.alloc (.cells #[.int .i64 t, .int .i64 N, .int .i64 s, .slice pa ps.length pc, lv, sv] 25) = w0 at *
  have HD : Hid (∀ m w5, Below (w0.drewN m).heap.size (w0.drewN m) w5 → Below w0.heap.size w0 w5) := fun m w5 hb => ⟨hb.os, hb.tape, hb.output, hb.size, hb.block⟩
  have HW : Hid (∀ w5, Below w0.heap.size w0 w5 → Below w.heap.size w w5) := fun w5 hb => hB0.trans (hb.mono (by omega))
  go_cut [3, 4] (fun s3 s4 wx => ∃ FB L EB E, s3 = .slice (some ⟨FB, 0, none⟩) N N ∧ s4 = .slice (some ⟨EB, 0, none⟩) N N ∧ Hid (PrF w0 wx N ps FB EB L E))
  case first =>
    go_region_with (first
      | (go_at_call 28; refine (HFS.out _ (below_drewG hB0 _)).mono ?_; rintro e w5 ⟨B1, L1, rfl, r1, l1, t1, f1, v1, b1, hb5⟩; have hb6 := HD.out _ _ hb5; have q := HBX.out w5 hb6; obtain ⟨q0, q1, q2, q3, q4, q5, q6⟩ := q; clear hb5)
      | (go_at_call 24; refine (HHT.out _ (HW.out _ hb6)).mono ?_; rintro e w7 ⟨B2, L2, rfl, r2, l2, f2, b2, hb7⟩))
    all_goals
      have hb9 : Below w0.heap.size w0 w7 := hb6.trans (hb7.mono hb6.size)
      have HPF : Hid (PrF w0 w7 N ps B1 B2 L1 L2) := ⟨r1.below hb7, ⟨l1, t1, f1, v1⟩, r2, l2, funext f2, hb9⟩
      clear q0 q1 q2 q3 q4 q5 q6 r1 r2 l1 l2 f1 f2 b1 b2 v1 t1 hb6 hb7 hb9
      try go_simp
      try go_wp2_with fail
      go_meet
      case rel => exact ⟨_, _, _, _, rfl, rfl, HPF⟩
  case rest =>
    clear q0 q1 q2 q3 q4 q5 q6 HFS HHT HD
    obtain ⟨FB, L, EB, E, rfl, rfl, HPF⟩ := hcut
    have hb9 := HPF.out.bl
    have hbW := HW.out _ hb9
    obtain ⟨q0, q1, q2, q3, q4, q5, q6⟩ := HBX.out wc hb9
    simp only at q0 q1 q2 q3 q4 q5 q6
    have hmk := makeOpss ps.length (by omega) wc
    have hA := alloc_below wc (.cells (nilA ps.length) 72)
    have hAs := alloc_size wc (.cells (nilA ps.length) 72)
    have HR0 : Hid (PoO (wc.alloc (.cells (nilA ps.length) 72)) wc.heap.size (factM L) (hgtB false (prsS ps) N) ps (List.replicate ps.length (Value.slice none 0 0)) 0) := ⟨alloc_at _ _, fun j hj => by omega⟩
    obtain ⟨q0', q1', q2', q3', q4', q5', q6'⟩ := HBX.out _ (hb9.trans (hA.mono hb9.size))
    simp only at q0' q1' q2' q3' q4' q5' q6'
    have hb10 : Below wc.heap.size wc (wc.alloc (.cells (nilA ps.length) 72)) := hA
    have HFO : Hid (FsOk N ps L) := HPF.out.fs
    have HRO : Hid (∀ wx rv k, Below wc.heap.size wc wx → k < ps.length → IntsR wx rv (ps.getD k noPd).right → Calls Tryz.prog 59 #[rv, .slice (some ⟨FB, 0, none⟩) N N, .slice (some ⟨EB, 0, none⟩) N N] wx fun e w' => e = .returned (.slice (some ⟨wx.heap.size, 0, none⟩) ((ps.getD k noPd).right.length + 1) ((ps.getD k noPd).right.length + 1)) ∧ (wc.heap.size < wx.heap.size → OpR w' wc.heap.size (factM L) (hgtB false (prsS ps) N) (ps.getD k noPd).right (.slice (some ⟨wx.heap.size, 0, none⟩) ((ps.getD k noPd).right.length + 1) ((ps.getD k noPd).right.length + 1))) ∧ Below wx.heap.size wx w') := fun wx rv k hx hk hr => by
      have hm : ps.getD k noPd ∈ ps := by simp [List.getD, hk]
      refine (rowOp_any N _ rv L E FB EB wx (by omega) (hG.mem hm).2 (fun j hj => by have := hTr k hk j hj; omega) HPF.out.fs.len HPF.out.fs.lt HPF.out.el hr (HPF.out.fr.below hx) (HPF.out.er.below hx)).mono ?_
      rintro e w' ⟨Ol, rfl, hro, hlen, hfq, hb⟩
      refine ⟨rfl, fun hlt => ⟨_, Ol, rfl, by omega, hro, hlen, ?_⟩, hb⟩
      rw [← HPF.out.ef]
      exact hfq
    clear hA HPF
    go_wp2
    clear hmk q0 q1 q2 q3 q4 q5 q6 q0' q1' q2' q3' q4' q5' q6' hAs
    generalize wc.alloc (.cells (nilA ps.length) 72) = w8 at *
    go_loopw [19] (fun i wr => ∃ (k : Nat) (vs : List Value), k ≤ ps.length ∧ i = .int .i64 k ∧ Hid (PoO wr wc.heap.size (factM L) (hgtB false (prsS ps) N) ps vs k) ∧ Hid (vs.length = ps.length) ∧ Below wc.heap.size wc wr) (fun i _ => ps.length - (intOf i).toNat)
    case atStart => exact ⟨0, _, Nat.zero_le _, rfl, HR0, (by show _ = _; simp), hb10⟩
    case round =>
      clear HR0 hb10
      obtain ⟨k, vs, hk, rfl, HO, HVL, hbw⟩ := hrel
      by_cases hlt : k < ps.length
      · have hbx := hbW.trans (hbw.mono hbW.size)
        obtain ⟨b, off, rv, rfl, hb0, hpd0⟩ := HP.out.at hlt
        have hb := Nat.lt_of_lt_of_le hb0 hbx.size
        have hpd := hpd0.below hb0 hbx
        obtain ⟨c0, c1, c2, hrr⟩ := hpd
        have hrl : (ps.getD k noPd).right.length ≤ 20 := (hG.mem (p := ps.getD k noPd) (by simp [List.getD, hlt])).2.1
        have hRO := fun wx hx hr => HRO.out wx rv k hx hlt hr
        have HSTP : Hid (∀ w5 v, Below wr.heap.size wr w5 → OpR w5 wc.heap.size (factM L) (hgtB false (prsS ps) N) (ps.getD k noPd).right v → PoO (w5.setCell ⟨wc.heap.size, k, none⟩ v) wc.heap.size (factM L) (hgtB false (prsS ps) N) ps (vs.set k v) (k + 1) ∧ Below wc.heap.size wc (w5.setCell ⟨wc.heap.size, k, none⟩ v) ∧ w5.frozen? ⟨wc.heap.size, k, none⟩ = false ∧ w5.cell? ⟨wc.heap.size, k, none⟩ = some (vs.getD k (.slice none 0 0)) ∧ wc.heap.size < w5.heap.size) := fun w5 v h5 hv => by
          have hr5 : RowVo w5 wc.heap.size vs := (h5.block _ HO.out.row.lt).trans HO.out.row
          exact ⟨HO.out.step (by rw [HVL.out]; exact hlt) h5 hv, below_set (hbw.trans (h5.mono hbw.size)) (Nat.le_refl _) _ _, hr5.fz k, hr5.cell (by rw [HVL.out]; exact hlt), hr5.lt⟩
        have HVL2 : Hid (∀ v, (vs.set k v).length = ps.length) := fun v => by show _ = _; rw [List.length_set]; exact HVL.out
        have hlt2 : wc.heap.size < wr.heap.size := HO.out.row.lt
        generalize (ps.getD k noPd).right = R at *
        generalize (ps.getD k noPd).left = lf at *
        generalize (ps.getD k noPd).level = plv at *
        obtain ⟨ra, rc, rfl⟩ := hrr.slice
        have hA := alloc_below wr (.cells #[.int .i64 lf, .slice ra R.length rc, .int .i64 plv] 34)
        have hAs := alloc_size wr (.cells #[.int .i64 lf, .slice ra R.length rc, .int .i64 plv] 34)
        obtain ⟨d0, d1, d2⟩ := box3_cells wr (.int .i64 lf) (.slice ra R.length rc) (.int .i64 plv) 34
        have hCa := hRO (wr.alloc (.cells #[.int .i64 lf, .slice ra R.length rc, .int .i64 plv] 34)) (hbw.trans (hA.mono hbw.size)) (hrr.below hA)
        rw [hAs] at hCa
        have HA : Hid (Below wr.heap.size wr (wr.alloc (.cells #[.int .i64 lf, .slice ra R.length rc, .int .i64 plv] 34))) := hA
        have HAS : Hid ((wr.alloc (.cells #[.int .i64 lf, .slice ra R.length rc, .int .i64 plv] 34)).heap.size = wr.heap.size + 1) := hAs
        clear hRO hpd0 hb0 hrr HO hA
        go_wp2_with fail
        refine hCa.mono ?_
        rintro e w5 ⟨rfl, hop, hb5⟩
        have h5 : Below wr.heap.size wr w5 := HA.out.trans (hb5.mono (Nat.le_succ _))
        obtain ⟨s1, s2, s3, s4, s5⟩ := HSTP.out w5 _ h5 (hop (by omega))
        have S1 : Hid _ := s1
        have S2 : Hid _ := s2
        clear hCa hop hb5 h5 HSTP c0 c1 c2 d0 d1 d2 HA HAS hAs s1 s2 hb
        go_wp2
        go_roundw
        case rel => exact ⟨k + 1, _, by omega, by go_num, S1, HVL2.out _, S2.out⟩
        case measure => simp [intOf]; omega
      · obtain rfl : k = ps.length := by omega
        have hbx := hbW.trans (hbw.mono hbW.size)
        go_wp2
        go_ret
        exact ⟨wc.heap.size, L, vs, rfl, HO.out, HVL.out, HFO.out, hbx⟩

end Go.Proofs.YtkdoghaoijdedaaGreatDoor
