/- Texts of the proof, put together: GOpn. -/
import Derived.Test.YtmkimaceioacgaaDoorGk16
import Derived.Test.YtmkimaceioacgaaDoorGk08
namespace Go.Proofs.YtmkimaceioacgaaDoor
open Go.RowKit
set_option linter.unusedVariables false
set_option maxRecDepth 100000

def opA (m : Nat) (b : Bool) : Array Value := #[.int .u64 m, .int .u64 0, .int .u64 0, .int .u64 0, .int .u64 0, .bool b]
def opV (m : Nat) (b : Bool) : Value := .agg (opA m b)
/-- one in a variable -/
def BoxO (w : World) (B m : Nat) (b : Bool) : Prop := w.heap[B]? = some (.cells (opA m b) 81 (0, 0))
theorem BoxO.lt {w : World} {B m : Nat} {b : Bool} (h : BoxO w B m b) : B < w.heap.size := (Array.getElem?_eq_some_iff.1 h).1
theorem BoxO.c0 {w : World} {B m : Nat} {b : Bool} (h : BoxO w B m b) : w.cell? ⟨B, 0, none⟩ = some (.int .u64 m) := by unfold BoxO at h; simp only [World.cell?, h]; rfl
theorem BoxO.c1 {w : World} {B m : Nat} {b : Bool} (h : BoxO w B m b) : w.cell? ⟨B, 1, none⟩ = some (.int .u64 0) := by unfold BoxO at h; simp only [World.cell?, h]; rfl
theorem BoxO.c2 {w : World} {B m : Nat} {b : Bool} (h : BoxO w B m b) : w.cell? ⟨B, 2, none⟩ = some (.int .u64 0) := by unfold BoxO at h; simp only [World.cell?, h]; rfl
theorem BoxO.c3 {w : World} {B m : Nat} {b : Bool} (h : BoxO w B m b) : w.cell? ⟨B, 3, none⟩ = some (.int .u64 0) := by unfold BoxO at h; simp only [World.cell?, h]; rfl
theorem BoxO.c4 {w : World} {B m : Nat} {b : Bool} (h : BoxO w B m b) : w.cell? ⟨B, 4, none⟩ = some (.int .u64 0) := by unfold BoxO at h; simp only [World.cell?, h]; rfl
theorem BoxO.c5 {w : World} {B m : Nat} {b : Bool} (h : BoxO w B m b) : w.cell? ⟨B, 5, none⟩ = some (.bool b) := by unfold BoxO at h; simp only [World.cell?, h]; rfl
theorem BoxO.fz {w : World} {B m : Nat} {b : Bool} (h : BoxO w B m b) (j : Nat) : w.frozen? ⟨B, j, none⟩ = false := by unfold BoxO at h; simp [World.frozen?, h]
theorem BoxO.below {w w' : World} {B m : Nat} {b : Bool} (h : BoxO w B m b) {K : Nat} (hB : B < K) (hb : Below K w w') : BoxO w' B m b := (hb.block B hB).trans h
theorem BoxM.below {w w' : World} {B m : Nat} (h : BoxM w B m) {K : Nat} (hB : B < K) (hb : Below K w w') : BoxM w' B m := (hb.block B hB).trans h
/-- all six cells written -/
def fillP (w : World) (B m' : Nat) (b' : Bool) : World := (fillM w B m').setCell ⟨B, 5, none⟩ (.bool b')
theorem BoxO.fill {w : World} {B m : Nat} {b : Bool} (h : BoxO w B m b) (m' : Nat) (b' : Bool) : BoxO (fillP w B m' b') B m' b' := by
  unfold BoxO at *
  unfold fillP fillM
  rw [heap_setC _ _ _ _ _ _ (heap_setC _ _ _ _ _ _ (heap_setC _ _ _ _ _ _ (heap_setC _ _ _ _ _ _ (heap_setC _ _ _ _ _ _ (heap_setC _ _ _ _ _ _ h)))))]
  rfl
theorem fillP_below {K : Nat} {w w' : World} (h : Below K w w') {B : Nat} (hB : K ≤ B) (m' : Nat) (b' : Bool) : Below K w (fillP w' B m' b') := below_set (fill_below h hB m') hB 5 _
/-- three new blocks -/
theorem boxes2 (w : World) (o1 o2 : Obj) : ((w.alloc o1).alloc o2).heap[w.heap.size]? = some o1 ∧ ((w.alloc o1).alloc o2).heap[w.heap.size + 1]? = some o2 ∧ ((w.alloc o1).alloc o2).heap.size = w.heap.size + 1 + 1 ∧ Below w.heap.size w ((w.alloc o1).alloc o2) := by
  have hs := alloc_size w o1
  have hs2 := alloc_size (w.alloc o1) o2
  have hb := alloc_below w o1
  have hb2 := alloc_below (w.alloc o1) o2
  refine ⟨(hb2.block _ (by omega)).trans (alloc_at w o1), ?_, by omega, hb.trans (hb2.mono (by omega))⟩
  rw [← hs]; exact alloc_at _ _
theorem boxes3 (w : World) (o1 o2 o3 : Obj) : (((w.alloc o1).alloc o2).alloc o3).heap[w.heap.size]? = some o1 ∧ (((w.alloc o1).alloc o2).alloc o3).heap[w.heap.size + 1]? = some o2 ∧ (((w.alloc o1).alloc o2).alloc o3).heap[w.heap.size + 1 + 1]? = some o3 ∧ (((w.alloc o1).alloc o2).alloc o3).heap.size = w.heap.size + 1 + 1 + 1 ∧ Below w.heap.size w (((w.alloc o1).alloc o2).alloc o3) := by
  obtain ⟨h1, h2, h3, h4⟩ := boxes2 w o1 o2
  have hs := alloc_size ((w.alloc o1).alloc o2) o3
  have hb := alloc_below ((w.alloc o1).alloc o2) o3
  refine ⟨(hb.block _ (by omega)).trans h1, (hb.block _ (by omega)).trans h2, ?_, by omega, h4.trans (hb.mono (by omega))⟩
  rw [← h3]; exact alloc_at _ _

set_option maxHeartbeats 4000000 in
theorem then_any (m l : Nat) (b : Bool) (hm : m < 512) (hl : l < 512) (w : World) : Calls Tryd.prog 77 #[opV m b, mkV l] w fun e w' => e = .returned (mkV (if b then m ||| l else m)) ∧ Below w.heap.size w w' := by
  have hX := boxes3 w (.cells (opA m b) 81) (.cells (mkA l) 76) (.cells (mkA 0) 76)
  unfold mkV opV
  unfold mkA opA at *
  rw [show (((0 : Nat) : Int)) = 0 from rfl] at hX
  obtain ⟨h1, h2, h3, h4, hb⟩ := hX
  have HO : Hid (BoxO (((w.alloc (.cells #[.int .u64 m, .int .u64 0, .int .u64 0, .int .u64 0, .int .u64 0, .bool b] 81)).alloc (.cells #[.int .u64 l, .int .u64 0, .int .u64 0, .int .u64 0, .int .u64 0] 76)).alloc (.cells #[.int .u64 0, .int .u64 0, .int .u64 0, .int .u64 0, .int .u64 0] 76)) w.heap.size m b) := h1
  have HL : Hid (BoxM (((w.alloc (.cells #[.int .u64 m, .int .u64 0, .int .u64 0, .int .u64 0, .int .u64 0, .bool b] 81)).alloc (.cells #[.int .u64 l, .int .u64 0, .int .u64 0, .int .u64 0, .int .u64 0] 76)).alloc (.cells #[.int .u64 0, .int .u64 0, .int .u64 0, .int .u64 0, .int .u64 0] 76)) (w.heap.size + 1) l) := h2
  have HR : Hid (BoxM (((w.alloc (.cells #[.int .u64 m, .int .u64 0, .int .u64 0, .int .u64 0, .int .u64 0, .bool b] 81)).alloc (.cells #[.int .u64 l, .int .u64 0, .int .u64 0, .int .u64 0, .int .u64 0] 76)).alloc (.cells #[.int .u64 0, .int .u64 0, .int .u64 0, .int .u64 0, .int .u64 0] 76)) (w.heap.size + 1 + 1) 0) := h3
  have HS : Hid ((((w.alloc (.cells #[.int .u64 m, .int .u64 0, .int .u64 0, .int .u64 0, .int .u64 0, .bool b] 81)).alloc (.cells #[.int .u64 l, .int .u64 0, .int .u64 0, .int .u64 0, .int .u64 0] 76)).alloc (.cells #[.int .u64 0, .int .u64 0, .int .u64 0, .int .u64 0, .int .u64 0] 76)).heap.size = w.heap.size + 1 + 1 + 1) := h4
  clear h1 h2 h3 h4
  have HJ : Hid (∀ wx, Calls Tryd.prog 46 #[.agg #[.int .u64 m, .int .u64 0, .int .u64 0, .int .u64 0, .int .u64 0], .agg #[.int .u64 l, .int .u64 0, .int .u64 0, .int .u64 0, .int .u64 0]] wx fun e w' => e = .returned (.agg #[.int .u64 ((m ||| l : Nat) : Int), .int .u64 0, .int .u64 0, .int .u64 0, .int .u64 0]) ∧ Below wx.heap.size wx w') := fun wx => join_any m l hm hl wx
  generalize m ||| l = j at *
  go_enter Tryd.func77, Tryd.ntmps77
  have a0 := HO.out.c0
  have a1 := HO.out.c1
  have a2 := HO.out.c2
  have a3 := HO.out.c3
  have a4 := HO.out.c4
  have a5 := HO.out.c5
  have la := HO.out.lt
  have b0 := HL.out.c0
  have b1 := HL.out.c1
  have b2 := HL.out.c2
  have b3 := HL.out.c3
  have b4 := HL.out.c4
  have lb := HL.out.lt
  cases b with
  | true =>
    go_wp2_with fail
    refine (HJ.out _).mono ?_
    rintro e w2 ⟨rfl, hb2⟩
    have HR2 : Hid (BoxM w2 (w.heap.size + 1 + 1) 0) := HR.out.below (by rw [HS.out]; omega) hb2
    have hbw : Below w.heap.size w w2 := hb.trans (hb2.mono (by rw [HS.out]; omega))
    clear a0 a1 a2 a3 a4 a5 la b0 b1 b2 b3 b4 lb HJ HO HL HR hb2 hb HS
    have r0 := HR2.out.c0
    have r1 := HR2.out.c1
    have r2 := HR2.out.c2
    have r3 := HR2.out.c3
    have r4 := HR2.out.c4
    have g0 := HR2.out.fz 0
    have g1 := HR2.out.fz 1
    have g2 := HR2.out.fz 2
    have g3 := HR2.out.fz 3
    have g4 := HR2.out.fz 4
    have lr := HR2.out.lt
    go_wp2
    have HF : Hid (BoxM (fillM w2 (w.heap.size + 1 + 1) j) (w.heap.size + 1 + 1) j) := HR2.out.fill _
    have hbF := fill_below hbw (show w.heap.size ≤ w.heap.size + 1 + 1 by omega) j
    have HX : Hid (((((w2.setCell ⟨w.heap.size + 1 + 1, 0, none⟩ (.int .u64 (j : Int))).setCell ⟨w.heap.size + 1 + 1, 1, none⟩ (.int .u64 0)).setCell ⟨w.heap.size + 1 + 1, 2, none⟩ (.int .u64 0)).setCell ⟨w.heap.size + 1 + 1, 3, none⟩ (.int .u64 0)).setCell ⟨w.heap.size + 1 + 1, 4, none⟩ (.int .u64 0) = fillM w2 (w.heap.size + 1 + 1) j) := by show _ = _; unfold fillM; rfl
    rw [HX.out]
    clear HX
    generalize fillM w2 (w.heap.size + 1 + 1) j = W9 at *
    have z0 := HF.out.c0
    have z1 := HF.out.c1
    have z2 := HF.out.c2
    have z3 := HF.out.c3
    have z4 := HF.out.c4
    refine bodyPost_ret (v := .agg #[.int .u64 (j : Int), .int .u64 0, .int .u64 0, .int .u64 0, .int .u64 0]) ?_ rfl ?_
    · simp [results, go_sem, z0, z1, z2, z3, z4]
    · exact ⟨by simp, hbF⟩
  | false =>
    obtain ⟨_, _, k3, _, k5⟩ := boxes3 w (.cells #[.int .u64 m, .int .u64 0, .int .u64 0, .int .u64 0, .int .u64 0, .bool false] 81) (.cells #[.int .u64 l, .int .u64 0, .int .u64 0, .int .u64 0, .int .u64 0] 76) (.cells #[.int .u64 m, .int .u64 0, .int .u64 0, .int .u64 0, .int .u64 0] 76)
    have HK : Hid (BoxM _ (w.heap.size + 1 + 1) m) := k3
    go_wp2_with fail
    clear a0 a1 a2 a3 a4 a5 la b0 b1 b2 b3 b4 lb HJ HO HL HR hb HS k3
    generalize ((w.alloc (.cells #[.int .u64 m, .int .u64 0, .int .u64 0, .int .u64 0, .int .u64 0, .bool false] 81)).alloc (.cells #[.int .u64 l, .int .u64 0, .int .u64 0, .int .u64 0, .int .u64 0] 76)).alloc (.cells #[.int .u64 m, .int .u64 0, .int .u64 0, .int .u64 0, .int .u64 0] 76) = w2 at *
    have z0 := HK.out.c0
    have z1 := HK.out.c1
    have z2 := HK.out.c2
    have z3 := HK.out.c3
    have z4 := HK.out.c4
    refine bodyPost_ret (v := .agg #[.int .u64 (m : Int), .int .u64 0, .int .u64 0, .int .u64 0, .int .u64 0]) ?_ rfl ?_
    · simp [results, go_sem, z0, z1, z2, z3, z4]
    · exact ⟨by simp, k5⟩

/-- whether a row has none of both -/
theorem Tryd.opUnder : Tryd.prog.underlying 81 = some (.struct (Tryd.prog.fieldsOf 81)) := by kernel_rfl
theorem Tryd.opFields : (Tryd.prog.fieldsOf 81).toList.map (fun f => (f.name, f.type, f.offset)) = [("Terms", 76, 0), ("Empty", 4, 5)] := by kernel_rfl
theorem Tryd.opHeld : Tryd.prog.stoodInHeld 81 = false := by kernel_rfl
theorem Tryd.szMset (h : 76 < Tryd.prog.types.size) : (Tryd.prog.types[76]'h).size = 5 := by
  have h2 : (Tryd.prog.types[76]?).map (·.size) = some 5 := by kernel_rfl
  rw [Array.getElem?_eq_getElem h] at h2
  simpa using h2
theorem partT (m : Nat) (b : Bool) (w : World) : (part 76 (opA m b) 0).run Tryd.prog w = .ok (.agg (mkA m)) w := by
  simp [part, isAgg, run_underlying Tryd.underlying76, go_sem, opA, mkA]
theorem partE (m : Nat) (b : Bool) (w : World) : (part 4 (opA m b) 5).run Tryd.prog w = .ok (.bool b) w := by
  simp [part, isAgg, run_underlying Tryd.underlying4, go_sem, opA]
theorem eqO (m : Nat) (b : Bool) (w : World) : (binOp .eql 81 (.agg (opA m b)) (.agg (opA 0 false))).run Tryd.prog w = .ok (.bool (m == 0 && !b)) w := by
  rw [run_eql_struct, run_equalIn_struct w 9999 81 _ _ Tryd.opUnder Tryd.opHeld]
  have hf := Tryd.opFields
  generalize (Tryd.prog.fieldsOf 81).toList = fs at *
  obtain ⟨f1, f2, rfl⟩ : ∃ f1 f2, fs = [f1, f2] := by
    rcases fs with _ | ⟨f1, _ | ⟨f2, _ | ⟨f3, fs⟩⟩⟩
    · simp at hf
    · simp at hf
    · exact ⟨f1, f2, rfl⟩
    · simp at hf
  obtain ⟨⟨n1, t1, o1⟩, n2, t2, o2⟩ : (f1.name = "Terms" ∧ f1.type = 76 ∧ f1.offset = 0) ∧ (f2.name = "Empty" ∧ f2.type = 4 ∧ f2.offset = 5) := by simpa using hf
  have h1 := partT m b w
  have h2 := partT 0 false w
  have h3 := partE m b w
  have h4 := partE 0 false w
  have h5 := eqM_in 9997 m 0 w
  have h6 := run_equalIn_bool (P := Tryd.prog) w 9998 4 b false Tryd.underlying4
  simp only [Op.eqFields, n1, n2, t1, t2, o1, o2]
  by_cases hm : m = 0
  · subst hm
    simp [h1, h2, h3, h4, h5, h6, Result.andThen]
    cases b <;> rfl
  · have hm' : (m == 0) = false := by rw [beq_eq_false_iff_ne]; exact hm
    simp [h1, h2, h5, hm', Result.andThen]

end Go.Proofs.YtmkimaceioacgaaDoor
