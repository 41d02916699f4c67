/- Texts of the proof, put together: GOpp. -/
import Derived.Test.YtmkimaceioacgaaDoorGk38
import Derived.Test.YtmkimaceioacgaaDoorGk19
import Derived.Deep.RegionHeld3
namespace Go.Proofs.YtmkimaceioacgaaDoor
open Go.RowKit
set_option linter.unusedVariables false
set_option maxRecDepth 100000

theorem Tryd.opGuard : Tryd.prog.eqGuardType Tryd.prog.depth 81 = false := by kernel_rfl

set_option maxHeartbeats 4000000 in
theorem put_none (s : Int) (v1 v2 : Value) (w : World) : Calls Tryd.prog 69 #[opV 0 false, .int .i64 s, v1, v2] w fun e w' => e = .returned (opV 0 false) ∧ Below w.heap.size w w' := by
  have hE : ∀ W, (binOp .eql 81 (.agg #[.int .u64 0, .int .u64 0, .int .u64 0, .int .u64 0, .int .u64 0, .bool false]) (.agg #[.int .u64 0, .int .u64 0, .int .u64 0, .int .u64 0, .int .u64 0, .bool false])).run Tryd.prog W = .ok (.bool true) W := fun W => eqO 0 false W
  have hg := Tryd.opGuard
  obtain ⟨k1, k2, _, k5⟩ := boxes2 w (.cells #[.int .u64 0, .int .u64 0, .int .u64 0, .int .u64 0, .int .u64 0, .bool false] 81) (.cells #[.int .u64 0, .int .u64 0, .int .u64 0, .int .u64 0, .int .u64 0, .bool false] 81)
  have HK : Hid (BoxO _ w.heap.size 0 false) := k1
  have HR : Hid (BoxO _ (w.heap.size + 1) 0 false) := k2
  unfold opV
  unfold opA
  rw [show (((0 : Nat) : Int)) = 0 from rfl]
  have a0 := HK.out.c0
  have a1 := HK.out.c1
  have a2 := HK.out.c2
  have a3 := HK.out.c3
  have a4 := HK.out.c4
  have a5 := HK.out.c5
  have la := HK.out.lt
  clear k1 k2
  go_enter Tryd.func69, Tryd.ntmps69
  go_wp2
  clear a0 a1 a2 a3 a4 a5 la hE hg HK
  generalize (w.alloc (.cells #[.int .u64 0, .int .u64 0, .int .u64 0, .int .u64 0, .int .u64 0, .bool false] 81)).alloc (.cells #[.int .u64 0, .int .u64 0, .int .u64 0, .int .u64 0, .int .u64 0, .bool false] 81) = w2 at *
  have z0 := HR.out.c0
  have z1 := HR.out.c1
  have z2 := HR.out.c2
  have z3 := HR.out.c3
  have z4 := HR.out.c4
  have z5 := HR.out.c5
  rw [show (((0 : Nat) : Int)) = 0 from rfl] at *
  refine bodyPost_ret (v := .agg #[.int .u64 0, .int .u64 0, .int .u64 0, .int .u64 0, .int .u64 0, .bool false]) ?_ rfl ?_
  · simp [results, go_sem, z0, z1, z2, z3, z4, z5]
  · exact ⟨rfl, k5⟩

set_option maxHeartbeats 4000000 in
theorem put_term (m : Nat) (b : Bool) (hmb : (m == 0 && !b) = false) (s : Nat) (hs : s ≤ 8) (v1 v2 : Value) (w : World) : Calls Tryd.prog 69 #[opV m b, .int .i64 s, v1, v2] w fun e w' => e = .returned (opV (2 ^ s) false) ∧ Below w.heap.size w w' := by
  have hE := eqO m b
  rw [hmb] at hE
  have hg := Tryd.opGuard
  obtain ⟨k1, k2, k3, k5⟩ := boxes2 w (.cells (opA m b) 81) (.cells (opA 0 false) 81)
  have HN : Hid (∀ wx, Calls Tryd.prog 60 #[.int .i64 s] wx _) := fun wx => nameOf_any (s : Int) (by unfold I64; omega) wx
  rw [show decide ((s : Int) < 0) = false from decide_eq_false (by omega)] at HN
  have HO : Hid (∀ wx, Calls Tryd.prog 76 #[.int .i64 s] wx _) := fun wx => mof_any s hs wx
  generalize 2 ^ s = p at *
  unfold mkV mkA at HO
  unfold opV
  unfold opA at *
  rw [show (((0 : Nat) : Int)) = 0 from rfl] at *
  have HK : Hid (BoxO _ w.heap.size m b) := k1
  have HR : Hid (BoxO _ (w.heap.size + 1) 0 false) := k2
  have HS : Hid (((w.alloc (.cells #[.int .u64 m, .int .u64 0, .int .u64 0, .int .u64 0, .int .u64 0, .bool b] 81)).alloc (.cells #[.int .u64 0, .int .u64 0, .int .u64 0, .int .u64 0, .int .u64 0, .bool false] 81)).heap.size = w.heap.size + 1 + 1) := k3
  have a0 := HK.out.c0
  have a1 := HK.out.c1
  have a2 := HK.out.c2
  have a3 := HK.out.c3
  have a4 := HK.out.c4
  have a5 := HK.out.c5
  have la := HK.out.lt
  clear k1 k2 k3 hmb
  go_enter Tryd.func69, Tryd.ntmps69
  go_wp2_with fail
  refine (HN.out _).mono ?_
  rintro e w1 ⟨rfl, rfl⟩
  clear a0 a1 a2 a3 a4 a5 la hE hg HN HK
  generalize (w.alloc (.cells #[.int .u64 m, .int .u64 0, .int .u64 0, .int .u64 0, .int .u64 0, .bool b] 81)).alloc (.cells #[.int .u64 0, .int .u64 0, .int .u64 0, .int .u64 0, .int .u64 0, .bool false] 81) = w2 at *
  go_wp2_with fail
  refine (HO.out _).mono ?_
  rintro e w3 ⟨rfl, hb3⟩
  have HR3 : Hid (BoxO w3 (w.heap.size + 1) 0 false) := HR.out.below (by rw [HS.out]; omega) hb3
  have hb : Below w.heap.size w w3 := k5.trans (hb3.mono (by rw [HS.out]; omega))
  clear HO hb3 HR HS k5
  have r0 := HR3.out.c0
  have r1 := HR3.out.c1
  have r2 := HR3.out.c2
  have r3 := HR3.out.c3
  have r4 := HR3.out.c4
  have r5 := HR3.out.c5
  have g0 := HR3.out.fz 0
  have g1 := HR3.out.fz 1
  have g2 := HR3.out.fz 2
  have g3 := HR3.out.fz 3
  have g4 := HR3.out.fz 4
  have g5 := HR3.out.fz 5
  have lr := HR3.out.lt
  go_wp2
  have HF : Hid (BoxO (fillP w3 (w.heap.size + 1) p false) (w.heap.size + 1) p false) := HR3.out.fill _ _
  have hbF := fillP_below hb (Nat.le_succ _) p false
  have HX : Hid ((((((w3.setCell ⟨w.heap.size + 1, 0, none⟩ (.int .u64 (p : Int))).setCell ⟨w.heap.size + 1, 1, none⟩ (.int .u64 0)).setCell ⟨w.heap.size + 1, 2, none⟩ (.int .u64 0)).setCell ⟨w.heap.size + 1, 3, none⟩ (.int .u64 0)).setCell ⟨w.heap.size + 1, 4, none⟩ (.int .u64 0)).setCell ⟨w.heap.size + 1, 5, none⟩ (.bool false) = fillP w3 (w.heap.size + 1) p false) := by show _ = _; unfold fillP fillM; rfl
  rw [HX.out]
  clear HX
  generalize fillP w3 (w.heap.size + 1) p false = W9 at *
  have z0 := HF.out.c0
  have z1 := HF.out.c1
  have z2 := HF.out.c2
  have z3 := HF.out.c3
  have z4 := HF.out.c4
  have z5 := HF.out.c5
  refine bodyPost_ret (v := .agg #[.int .u64 (p : Int), .int .u64 0, .int .u64 0, .int .u64 0, .int .u64 0, .bool false]) ?_ rfl ?_
  · simp [results, go_sem, z0, z1, z2, z3, z4, z5]
  · exact ⟨rfl, hbF⟩

theorem fillP_keeps (w : World) (B m : Nat) (b : Bool) (D : Nat) (h : D ≠ B) : (fillP w B m b).heap[D]? = w.heap[D]? := by
  unfold fillP fillM
  rw [Below.heap_setCell _ _ _ _ (by simpa using h), Below.heap_setCell _ _ _ _ (by simpa using h), Below.heap_setCell _ _ _ _ (by simpa using h), Below.heap_setCell _ _ _ _ (by simpa using h), Below.heap_setCell _ _ _ _ (by simpa using h), Below.heap_setCell _ _ _ _ (by simpa using h)]

set_option maxHeartbeats 4000000 in
theorem put_name (m : Nat) (b : Bool) (hm : m < 512) (hmb : (m == 0 && !b) = false) (s : Int) (n N : Nat) (hs : -1 - s = (n : Int)) (hnN : n < N) (hN : N ≤ 300) (FB EB f : Nat) (e : Bool) (hf : f < 512) (w : World)
    (hv : w.cell? ⟨FB, n * 5, none⟩ = some (.int .u64 f) ∧ w.cell? ⟨FB, n * 5 + 1, none⟩ = some (.int .u64 0) ∧ w.cell? ⟨FB, n * 5 + 2, none⟩ = some (.int .u64 0) ∧ w.cell? ⟨FB, n * 5 + 3, none⟩ = some (.int .u64 0) ∧ w.cell? ⟨FB, n * 5 + 4, none⟩ = some (.int .u64 0) ∧ FB < w.heap.size) (he : w.cell? ⟨EB, n, none⟩ = some (.bool e) ∧ EB < w.heap.size) :
    Calls Tryd.prog 69 #[opV m b, .int .i64 s, .slice (some ⟨FB, 0, none⟩) N N, .slice (some ⟨EB, 0, none⟩) N N] w fun e' w' => e' = .returned (opV (if e then f ||| m else f) (e && b)) ∧ Below w.heap.size w w' := by
  have hE := eqO m b
  rw [hmb] at hE
  have hg := Tryd.opGuard
  obtain ⟨k1, k2, k3, k5⟩ := boxes2 w (.cells (opA m b) 81) (.cells (opA 0 false) 81)
  have HN : Hid (∀ wx, Calls Tryd.prog 60 #[.int .i64 s] wx _) := fun wx => nameOf_any s (by unfold I64; omega) wx
  rw [show decide (s < 0) = true from decide_eq_true (by omega), hs] at HN
  have HT : Hid (∀ wx, Calls Tryd.prog 77 #[opV f e, mkV m] wx _) := fun wx => then_any f m e hf hm wx
  generalize (if e then f ||| m else f) = p at *
  obtain ⟨v0, v1, v2, v3, v4, v5⟩ := hv
  obtain ⟨e0, e1⟩ := he
  have HV : Hid (∀ wx, Below w.heap.size w wx → (wx.cell? ⟨FB, n * 5, none⟩ = some (.int .u64 f) ∧ wx.cell? ⟨FB, n * 5 + 1, none⟩ = some (.int .u64 0) ∧ wx.cell? ⟨FB, n * 5 + 2, none⟩ = some (.int .u64 0) ∧ wx.cell? ⟨FB, n * 5 + 3, none⟩ = some (.int .u64 0) ∧ wx.cell? ⟨FB, n * 5 + 4, none⟩ = some (.int .u64 0)) ∧ wx.cell? ⟨EB, n, none⟩ = some (.bool e)) := fun wx hx =>
    ⟨⟨(hx.cell (p := ⟨FB, n * 5, none⟩) v5).trans v0, (hx.cell (p := ⟨FB, n * 5 + 1, none⟩) v5).trans v1, (hx.cell (p := ⟨FB, n * 5 + 2, none⟩) v5).trans v2, (hx.cell (p := ⟨FB, n * 5 + 3, none⟩) v5).trans v3, (hx.cell (p := ⟨FB, n * 5 + 4, none⟩) v5).trans v4⟩, (hx.cell (p := ⟨EB, n, none⟩) e1).trans e0⟩
  clear v0 v1 v2 v3 v4 e0
  unfold mkV mkA opV at HT
  unfold opV
  unfold opA at *
  rw [show (((0 : Nat) : Int)) = 0 from rfl] at *
  have HK : Hid (BoxO _ w.heap.size m b) := k1
  have HR : Hid (BoxO _ (w.heap.size + 1) 0 false) := k2
  have HS : Hid (((w.alloc (.cells #[.int .u64 m, .int .u64 0, .int .u64 0, .int .u64 0, .int .u64 0, .bool b] 81)).alloc (.cells #[.int .u64 0, .int .u64 0, .int .u64 0, .int .u64 0, .int .u64 0, .bool false] 81)).heap.size = w.heap.size + 1 + 1) := k3
  have a0 := HK.out.c0
  have a1 := HK.out.c1
  have a2 := HK.out.c2
  have a3 := HK.out.c3
  have a4 := HK.out.c4
  have a5 := HK.out.c5
  have la := HK.out.lt
  clear k1 k2 k3 hmb
  go_enter Tryd.func69, Tryd.ntmps69
  go_wp2_with fail
  refine (HN.out _).mono ?_
  rintro e w1 ⟨rfl, rfl⟩
  clear a0 a1 a2 a3 a4 a5 la hE hg HN hs
  generalize (w.alloc (.cells #[.int .u64 m, .int .u64 0, .int .u64 0, .int .u64 0, .int .u64 0, .bool b] 81)).alloc (.cells #[.int .u64 0, .int .u64 0, .int .u64 0, .int .u64 0, .int .u64 0, .bool false] 81) = w2 at *
  obtain ⟨⟨x0, x1, x2, x3, x4⟩, y0⟩ := HV.out w2 k5
  have x5 : FB < w2.heap.size := by rw [HS.out]; omega
  have y1 : EB < w2.heap.size := by rw [HS.out]; omega
  have HA : Hid (BoxO (w2.alloc (.cells #[.int .u64 f, .int .u64 0, .int .u64 0, .int .u64 0, .int .u64 0, .bool e] 81)).drew w2.heap.size f e) := alloc_at _ _
  have hbA := alloc_below w2 (.cells #[.int .u64 f, .int .u64 0, .int .u64 0, .int .u64 0, .int .u64 0, .bool e] 81)
  have hsA := alloc_size w2 (.cells #[.int .u64 f, .int .u64 0, .int .u64 0, .int .u64 0, .int .u64 0, .bool e] 81)
  have HK2 : Hid (BoxO (w2.alloc (.cells #[.int .u64 f, .int .u64 0, .int .u64 0, .int .u64 0, .int .u64 0, .bool e] 81)).drew w.heap.size m b) := HK.out.below HK.out.lt (below_drewG hbA 1)
  have HR2 : Hid (BoxO (w2.alloc (.cells #[.int .u64 f, .int .u64 0, .int .u64 0, .int .u64 0, .int .u64 0, .bool e] 81)).drew (w.heap.size + 1) 0 false) := HR.out.below HR.out.lt (below_drewG hbA 1)
  have hb4 : Below w.heap.size w (w2.alloc (.cells #[.int .u64 f, .int .u64 0, .int .u64 0, .int .u64 0, .int .u64 0, .bool e] 81)).drew := below_drewG (k5.trans (hbA.mono (by rw [HS.out]; omega))) 1
  have HS2 : Hid ((w2.alloc (.cells #[.int .u64 f, .int .u64 0, .int .u64 0, .int .u64 0, .int .u64 0, .bool e] 81)).drew.heap.size = w2.heap.size + 1) := hsA
  clear hsA hbA
  go_wp2_with fail
  go_region
  clear x0 x1 x2 x3 x4 x5 y0 y1 HV HK HR k5
  generalize (w2.alloc (.cells #[.int .u64 f, .int .u64 0, .int .u64 0, .int .u64 0, .int .u64 0, .bool e] 81)).drew = W at *
  have HW : Hid (∀ w5, Below W.heap.size W w5 → BoxO w5 w2.heap.size f e ∧ BoxO w5 w.heap.size m b ∧ BoxO w5 (w.heap.size + 1) 0 false ∧ Below w.heap.size w w5) := fun w5 h5 => ⟨HA.out.below HA.out.lt h5, HK2.out.below HK2.out.lt h5, HR2.out.below HR2.out.lt h5, hb4.trans (h5.mono (by rw [HS2.out, HS.out]; omega))⟩
  have HD : Hid (∀ d w5, Below (W.drewN d).heap.size (W.drewN d) w5 → Below W.heap.size W w5) := fun d w5 hb => ⟨hb.os, hb.tape, hb.output, hb.size, hb.block⟩
  have a0 := HA.out.c0
  have a1 := HA.out.c1
  have a2 := HA.out.c2
  have a3 := HA.out.c3
  have a4 := HA.out.c4
  have a5 := HA.out.c5
  have la := HA.out.lt
  have d0 := HK2.out.c0
  have d1 := HK2.out.c1
  have d2 := HK2.out.c2
  have d3 := HK2.out.c3
  have d4 := HK2.out.c4
  have d5 := HK2.out.c5
  have ld := HK2.out.lt
  clear HA HK2 HR2 HS2 hb4
  have key : ∀ W9 : World, Hid (BoxO W9 (w.heap.size + 1) 0 false) → Below w.heap.size w W9 → Hid (BoxO (fillP W9 (w.heap.size + 1) p (e && b)) (w.heap.size + 1) p (e && b)) ∧ Below w.heap.size w (fillP W9 (w.heap.size + 1) p (e && b)) := fun W9 h1 h2 => ⟨h1.out.fill _ _, fillP_below h2 (Nat.le_succ _) _ _⟩
  have KEY : Hid (∀ W9 : World, Hid (BoxO W9 (w.heap.size + 1) 0 false) → Below w.heap.size w W9 → Hid (BoxO (fillP W9 (w.heap.size + 1) p (e && b)) (w.heap.size + 1) p (e && b)) ∧ Below w.heap.size w (fillP W9 (w.heap.size + 1) p (e && b))) := key
  clear key
  cases e with
  | true =>
    go_wp2_with fail
    go_region_with (go_at_call 77; refine (HT.out _).mono ?_; rintro e w4 ⟨rfl, hb4⟩; have hb5 := HD.out _ _ hb4; obtain ⟨t1, t2, t3, t4⟩ := HW.out w4 hb5; have a0 := t1.c0; have a5 := t1.c5; have la := t1.lt; have d5 := t2.c5; have ld := t2.lt; have r0 := t3.c0; have r1 := t3.c1; have r2 := t3.c2; have r3 := t3.c3; have r4 := t3.c4; have r5 := t3.c5; have g0 := t3.fz 0; have g1 := t3.fz 1; have g2 := t3.fz 2; have g3 := t3.fz 3; have g4 := t3.fz 4; have g5 := t3.fz 5; have lr := t3.lt; clear hb4 t1 t2 )
    all_goals
      have T3 : Hid (BoxO w4 (w.heap.size + 1) 0 false) := t3
      obtain ⟨HF, hbF⟩ := KEY.out w4 T3 t4
      have HX : Hid ((((((w4.setCell ⟨w.heap.size + 1, 0, none⟩ (.int .u64 (p : Int))).setCell ⟨w.heap.size + 1, 1, none⟩ (.int .u64 0)).setCell ⟨w.heap.size + 1, 2, none⟩ (.int .u64 0)).setCell ⟨w.heap.size + 1, 3, none⟩ (.int .u64 0)).setCell ⟨w.heap.size + 1, 4, none⟩ (.int .u64 0)).setCell ⟨w.heap.size + 1, 5, none⟩ (.bool b) = fillP w4 (w.heap.size + 1) p b) := by show _ = _; unfold fillP fillM; rfl
      simp only [Bool.true_and] at HF hbF
      first | rw [HX.out] | skip
      clear HX
      generalize fillP w4 (w.heap.size + 1) p b = W9 at *
      have z0 := HF.out.c0
      have z1 := HF.out.c1
      have z2 := HF.out.c2
      have z3 := HF.out.c3
      have z4 := HF.out.c4
      have z5 := HF.out.c5
      clear a0 a1 a2 a3 a4 a5 la d0 d1 d2 d3 d4 d5 ld r0 r1 r2 r3 r4 r5 g0 g1 g2 g3 g4 g5 lr HT HW HD KEY T3
      try go_wp2
      refine bodyPost_ret (v := .agg #[.int .u64 (p : Int), .int .u64 0, .int .u64 0, .int .u64 0, .int .u64 0, .bool b]) ?_ rfl ?_
      · simp [results, go_sem, z0, z1, z2, z3, z4, z5]
      · exact ⟨by simp, hbF⟩
  | false =>
    have HSS : Hid (∀ w5, BoxO w5 w2.heap.size f false → BoxO w5 w.heap.size m b → (w5.cell? ⟨w2.heap.size, 0, none⟩ = some (.int .u64 f) ∧ w5.cell? ⟨w2.heap.size, 1, none⟩ = some (.int .u64 0) ∧ w5.cell? ⟨w2.heap.size, 2, none⟩ = some (.int .u64 0) ∧ w5.cell? ⟨w2.heap.size, 3, none⟩ = some (.int .u64 0) ∧ w5.cell? ⟨w2.heap.size, 4, none⟩ = some (.int .u64 0) ∧ w5.cell? ⟨w2.heap.size, 5, none⟩ = some (.bool false)) ∧ w5.cell? ⟨w.heap.size, 0, none⟩ = some (.int .u64 m) ∧ w5.cell? ⟨w.heap.size, 1, none⟩ = some (.int .u64 0) ∧ w5.cell? ⟨w.heap.size, 2, none⟩ = some (.int .u64 0) ∧ w5.cell? ⟨w.heap.size, 3, none⟩ = some (.int .u64 0) ∧ w5.cell? ⟨w.heap.size, 4, none⟩ = some (.int .u64 0)) := fun w5 h1 h2 => ⟨⟨h1.c0, h1.c1, h1.c2, h1.c3, h1.c4, h1.c5⟩, h2.c0, h2.c1, h2.c2, h2.c3, h2.c4⟩
    have hW0 := HW.out W (Below.refl _ _)
    have HBO : Hid (∀ w5, BoxO w5 w2.heap.size f false → BoxO w5 w.heap.size m b → BoxO (fillP w5 (w.heap.size + 1) p false) w2.heap.size f false ∧ BoxO (fillP w5 (w.heap.size + 1) p false) w.heap.size m b) := fun w5 h1 h2 => ⟨(fillP_keeps w5 _ p false _ (by rw [HS.out]; omega)).trans h1, (fillP_keeps w5 _ p false _ (by omega)).trans h2⟩
    go_wp2_with fail
    refine wp_region_held_drew (S := fun w' => (w'.cell? ⟨w2.heap.size, 0, none⟩ = some (.int .u64 f) ∧ w'.cell? ⟨w2.heap.size, 1, none⟩ = some (.int .u64 0) ∧ w'.cell? ⟨w2.heap.size, 2, none⟩ = some (.int .u64 0) ∧ w'.cell? ⟨w2.heap.size, 3, none⟩ = some (.int .u64 0) ∧ w'.cell? ⟨w2.heap.size, 4, none⟩ = some (.int .u64 0) ∧ w'.cell? ⟨w2.heap.size, 5, none⟩ = some (.bool false)) ∧ w'.cell? ⟨w.heap.size, 0, none⟩ = some (.int .u64 m) ∧ w'.cell? ⟨w.heap.size, 1, none⟩ = some (.int .u64 0) ∧ w'.cell? ⟨w.heap.size, 2, none⟩ = some (.int .u64 0) ∧ w'.cell? ⟨w.heap.size, 3, none⟩ = some (.int .u64 0) ∧ w'.cell? ⟨w.heap.size, 4, none⟩ = some (.int .u64 0)) (by kernel_rfl) (HSS.out W hW0.1 hW0.2.1) (fun hHeld => ?_)
    refine wpAnyH_take (i := 0) (v := ?_) rfl (by kernel_rfl) (by kernel_rfl) (by kernel_rfl) (fun _ _ _ h => h) (Or.inl ⟨by rfl, ?_⟩) (by assumption) ?_
    rotate_left
    · (intro w hSw; (try dsimp only at hSw); go_simp; first | done | with_reducible rfl)
    simp only [Act.put, List.getElem_toArray, List.getElem_cons_zero, List.setIfInBounds_toArray, List.set_cons_zero, List.set_cons_succ]
    refine wpAnyH_take (i := 1) (v := ?_) rfl (by kernel_rfl) (by kernel_rfl) (by kernel_rfl) (fun _ _ _ h => h) (Or.inl ⟨by rfl, ?_⟩) (by assumption) ?_
    rotate_left
    · (intro w hSw; (try dsimp only at hSw); go_simp; first | done | with_reducible rfl)
    simp only [Act.put, List.getElem_toArray, List.getElem_cons_succ, List.getElem_cons_zero, List.setIfInBounds_toArray, List.set_cons_zero, List.set_cons_succ]
    refine wpAnyH_take (i := 2) (v := ?_) rfl (by kernel_rfl) (by kernel_rfl) (by kernel_rfl) (fun _ _ _ h => h) (Or.inl ⟨by rfl, ?_⟩) (by assumption) ?_
    rotate_left
    · (intro w hSw; (try dsimp only at hSw); go_simp; first | done | with_reducible rfl)
    simp only [Act.put, List.getElem_toArray, List.getElem_cons_succ, List.getElem_cons_zero, List.setIfInBounds_toArray, List.set_cons_zero, List.set_cons_succ]
    refine wpAnyH_take (i := 4) (v := ?_) rfl (by kernel_rfl) (by kernel_rfl) (by kernel_rfl) (fun _ _ _ h => h) (Or.inl ⟨by rfl, ?_⟩) (by assumption) ?_
    rotate_left
    · (intro w hSw; (try dsimp only at hSw); go_simp; first | done | with_reducible rfl)
    simp only [Act.put, List.getElem_toArray, List.getElem_cons_succ, List.getElem_cons_zero, List.setIfInBounds_toArray, List.set_cons_zero, List.set_cons_succ]
    refine wpAnyH_take (i := 5) (v := ?_) rfl (by kernel_rfl) (by kernel_rfl) (by kernel_rfl) (fun _ _ _ h => h) (Or.inl ⟨by rfl, ?_⟩) (by assumption) ?_
    rotate_left
    · (intro w hSw; (try dsimp only at hSw); go_simp; first | done | with_reducible rfl)
    simp only [Act.put, List.getElem_toArray, List.getElem_cons_succ, List.getElem_cons_zero, List.setIfInBounds_toArray, List.set_cons_zero, List.set_cons_succ]
    refine wpAnyH_ready (rs := [3]) (by kernel_rfl) (by simp) ?_
    refine AllReadyH.cons rfl (fun K hK => ?_) AllReadyH.nil
    go_simp
    go_wp2_with (go_at_call 77; refine (HT.out _).mono ?_; rintro e w4 ⟨rfl, hb4⟩)
    refine hK.out _ _ (HSS.out w4 (HW.out w4 (HD.out 1 w4 hb4)).1 (HW.out w4 (HD.out 1 w4 hb4)).2.1) (fun hHeld => ?_)
    clear hK K
    refine wpAnyH_take (i := 6) (v := ?_) rfl (by kernel_rfl) (by kernel_rfl) (by kernel_rfl) (fun _ _ _ h => h) (Or.inl ⟨by rfl, ?_⟩) (by assumption) ?_
    rotate_left
    · (intro w hSw; (try dsimp only at hSw); go_simp; first | done | with_reducible rfl)
    simp only [Act.put, List.getElem_toArray, List.getElem_cons_succ, List.getElem_cons_zero, List.setIfInBounds_toArray, List.set_cons_zero, List.set_cons_succ]
    refine wpAnyH_take (i := 7) (v := undef) rfl (by kernel_rfl) (by kernel_rfl) (by kernel_rfl) (fun _ _ _ h => h) (Or.inr ⟨by kernel_rfl, rfl⟩) (by assumption) ?_
    simp only [Act.put, List.getElem_toArray, List.getElem_cons_succ, List.getElem_cons_zero, List.setIfInBounds_toArray, List.set_cons_zero, List.set_cons_succ]
    refine wpAnyH_take (i := 8) (v := undef) rfl (by kernel_rfl) (by kernel_rfl) (by kernel_rfl) (fun _ _ _ h => h) (Or.inr ⟨by kernel_rfl, rfl⟩) (by assumption) ?_
    simp only [Act.put, List.getElem_toArray, List.getElem_cons_succ, List.getElem_cons_zero, List.setIfInBounds_toArray, List.set_cons_zero, List.set_cons_succ]
    refine wpAnyH_take (i := 9) (v := ?_) rfl (by kernel_rfl) (by kernel_rfl) (by kernel_rfl) (fun _ _ _ h => h) (Or.inl ⟨by rfl, ?_⟩) (by assumption) ?_
    rotate_left
    · (intro w hSw; (try dsimp only at hSw); go_simp; first | done | with_reducible rfl)
    simp only [Act.put, List.getElem_toArray, List.getElem_cons_succ, List.getElem_cons_zero, List.setIfInBounds_toArray, List.set_cons_zero, List.set_cons_succ]
    refine wpAnyH_take (i := 10) (v := ?_) rfl (by kernel_rfl) (by kernel_rfl) (by kernel_rfl) (fun _ _ _ h => h) (Or.inl ⟨by rfl, ?_⟩) (by assumption) ?_
    rotate_left
    · (intro w hSw; (try dsimp only at hSw); go_simp; first | done | with_reducible rfl)
    simp only [Act.put, List.getElem_toArray, List.getElem_cons_succ, List.getElem_cons_zero, List.setIfInBounds_toArray, List.set_cons_zero, List.set_cons_succ]
    obtain ⟨t1, t2, t3, t4⟩ := HW.out w4 (HD.out 1 w4 hb4)
    have r0 := t3.c0
    have r1 := t3.c1
    have r2 := t3.c2
    have r3 := t3.c3
    have r4 := t3.c4
    have r5 := t3.c5
    have g0 := t3.fz 0
    have g1 := t3.fz 1
    have g2 := t3.fz 2
    have g3 := t3.fz 3
    have g4 := t3.fz 4
    have g5 := t3.fz 5
    have lr := t3.lt
    refine wpAnyH_ready (rs := [11]) (by kernel_rfl) (by simp) ?_
    refine AllReadyH.cons rfl (fun K hK => ?_) AllReadyH.nil
    go_simp
    have T3 : Hid (BoxO w4 (w.heap.size + 1) 0 false) := t3
    obtain ⟨HF, hbF⟩ := KEY.out w4 T3 t4
    simp only [Bool.false_and] at HF hbF
    obtain ⟨u1, u2⟩ := HBO.out w4 t1 t2
    have HX : Hid ((((((w4.setCell ⟨w.heap.size + 1, 0, none⟩ (.int .u64 (p : Int))).setCell ⟨w.heap.size + 1, 1, none⟩ (.int .u64 0)).setCell ⟨w.heap.size + 1, 2, none⟩ (.int .u64 0)).setCell ⟨w.heap.size + 1, 3, none⟩ (.int .u64 0)).setCell ⟨w.heap.size + 1, 4, none⟩ (.int .u64 0)).setCell ⟨w.heap.size + 1, 5, none⟩ (.bool false) = fillP w4 (w.heap.size + 1) p false) := by show _ = _; unfold fillP fillM; rfl
    rw [HX.out]
    refine hK.out _ _ (HSS.out _ u1 u2) (fun hHeld2 => ?_)
    clear hK K HX
    refine wpAnyH_done (by kernel_rfl) ?_ _
    generalize fillP w4 (w.heap.size + 1) p false = W9 at *
    have z0 := HF.out.c0
    have z1 := HF.out.c1
    have z2 := HF.out.c2
    have z3 := HF.out.c3
    have z4 := HF.out.c4
    have z5 := HF.out.c5
    clear a0 a1 a2 a3 a4 a5 la d0 d1 d2 d3 d4 d5 ld r0 r1 r2 r3 r4 r5 g0 g1 g2 g3 g4 g5 lr HT HW HD KEY T3
    try go_wp2
    refine bodyPost_ret (v := .agg #[.int .u64 (p : Int), .int .u64 0, .int .u64 0, .int .u64 0, .int .u64 0, .bool false]) ?_ rfl ?_
    · simp [results, go_sem, z0, z1, z2, z3, z4, z5]
    · exact ⟨by simp, hbF⟩

end Go.Proofs.YtmkimaceioacgaaDoor
