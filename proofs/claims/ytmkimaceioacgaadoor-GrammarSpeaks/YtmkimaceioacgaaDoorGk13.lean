/- Texts of the proof, put together: GMk, GMkJ. -/
import Derived.Test.YtmkimaceioacgaaDoorGk05
import Derived.StillTailTactics
import Derived.Laws.Bits64b
namespace Go.Proofs.YtmkimaceioacgaaDoor
open Go.RowKit
set_option linter.unusedVariables false
set_option maxRecDepth 100000

/-- a set: its numbers are the bits -/
def mkA (m : Nat) : Array Value := #[.int .u64 m, .int .u64 0, .int .u64 0, .int .u64 0, .int .u64 0]
def mkV (m : Nat) : Value := .agg (mkA m)
theorem mk_or {m i : Nat} (hm : m < 512) (hi : i ≤ 8) : m ||| 2 ^ i < 512 := Nat.or_lt_two_pow (n := 9) hm (Nat.pow_lt_pow_right (by omega) (by omega))
theorem mk_join {m i : Nat} (hm : m < 512) (hi : i < 512) : m ||| i < 512 := Nat.or_lt_two_pow (n := 9) hm hi
theorem alloc_at (w : World) (o : Obj) : (w.alloc o).heap[w.heap.size]? = some o := by
  show (w.heap.push _)[w.heap.size]? = _
  exact Array.getElem?_push_size

theorem mk_bit {m i : Nat} (hm : m < 512) (hi : i ≤ 8) : (bits BinOp.and IntKind.u64 ((m : Int) / 2 ^ i) 1 == 1) = m.testBit i := by
  have e1 : (m : Int) / 2 ^ i = ((m / 2 ^ i : Nat) : Int) := by simp
  have hlt : m / 2 ^ i < 18446744073709551616 := Nat.lt_of_le_of_lt (Nat.div_le_self _ _) (by omega)
  have := bits_and_u64_nat (m / 2 ^ i) 1 hlt (by omega)
  rw [e1, show (1 : Int) = ((1 : Nat) : Int) from rfl, this, Nat.and_one_is_mod, Nat.testBit_eq_decide_div_mod_eq]
  rw [Bool.eq_iff_iff]
  simp
  omega
theorem mk_set {m i : Nat} (hm : m < 512) (hi : i ≤ 8) : bits BinOp.or IntKind.u64 (m : Int) (IntKind.u64.wrap (2 ^ i)) = ((m ||| 2 ^ i : Nat) : Int) := by
  have h2 : 2 ^ i < 512 := Nat.pow_lt_pow_right (n := 9) (by omega) (by omega)
  have e1 : IntKind.u64.wrap (2 ^ i) = ((2 ^ i : Nat) : Int) := by
    rw [show ((2 : Int) ^ i) = ((2 ^ i : Nat) : Int) by simp]
    rw [IntKind.wrap_u64]
    generalize 2 ^ i = p at *
    omega
  rw [e1]
  exact bits_or_u64_nat m (2 ^ i) (by omega) (by omega)
/-- a set in a variable -/
def BoxM (w : World) (B m : Nat) : Prop := w.heap[B]? = some (.cells (mkA m) 76 (0, 0))
theorem BoxM.lt {w : World} {B m : Nat} (h : BoxM w B m) : B < w.heap.size := (Array.getElem?_eq_some_iff.1 h).1
theorem BoxM.c0 {w : World} {B m : Nat} (h : BoxM w B m) : w.cell? ⟨B, 0, none⟩ = some (.int .u64 m) := by unfold BoxM at h; simp only [World.cell?, h]; rfl
theorem BoxM.c1 {w : World} {B m : Nat} (h : BoxM w B m) : w.cell? ⟨B, 1, none⟩ = some (.int .u64 0) := by unfold BoxM at h; simp only [World.cell?, h]; rfl
theorem BoxM.c2 {w : World} {B m : Nat} (h : BoxM w B m) : w.cell? ⟨B, 2, none⟩ = some (.int .u64 0) := by unfold BoxM at h; simp only [World.cell?, h]; rfl
theorem BoxM.c3 {w : World} {B m : Nat} (h : BoxM w B m) : w.cell? ⟨B, 3, none⟩ = some (.int .u64 0) := by unfold BoxM at h; simp only [World.cell?, h]; rfl
theorem BoxM.c4 {w : World} {B m : Nat} (h : BoxM w B m) : w.cell? ⟨B, 4, none⟩ = some (.int .u64 0) := by unfold BoxM at h; simp only [World.cell?, h]; rfl
theorem BoxM.fz {w : World} {B m : Nat} (h : BoxM w B m) (j : Nat) : w.frozen? ⟨B, j, none⟩ = false := by unfold BoxM at h; simp [World.frozen?, h]
theorem BoxM.set {w : World} {B m : Nat} (h : BoxM w B m) (m' : Nat) : BoxM (w.setCell ⟨B, 0, none⟩ (.int .u64 m')) B m' := by
  unfold BoxM at *
  rw [heap_setC _ _ _ _ _ _ h]
  rfl
/-- all five words written -/
def fillM (w : World) (B m' : Nat) : World := ((((w.setCell ⟨B, 0, none⟩ (.int .u64 m')).setCell ⟨B, 1, none⟩ (.int .u64 0)).setCell ⟨B, 2, none⟩ (.int .u64 0)).setCell ⟨B, 3, none⟩ (.int .u64 0)).setCell ⟨B, 4, none⟩ (.int .u64 0)
theorem BoxM.drew {w : World} {B m : Nat} (h : BoxM w B m) : BoxM w.drew B m := h
theorem BoxM.fill {w : World} {B m : Nat} (h : BoxM w B m) (m' : Nat) : BoxM (fillM w B m') B m' := by
  unfold BoxM at *
  unfold fillM
  rw [heap_setC _ _ _ _ _ _ (heap_setC _ _ _ _ _ _ (heap_setC _ _ _ _ _ _ (heap_setC _ _ _ _ _ _ (heap_setC _ _ _ _ _ _ h))))]
  rfl
theorem BoxM.other {w : World} {D m : Nat} (h : BoxM w D m) {B o : Nat} {v : Value} (hne : D ≠ B) : BoxM (w.setCell ⟨B, o, none⟩ v) D m := by
  unfold BoxM at *
  rw [Below.heap_setCell _ _ _ _ (by simpa using hne)]
  exact h
theorem fill_below {K : Nat} {w w' : World} (h : Below K w w') {B : Nat} (hB : K ≤ B) (m' : Nat) : Below K w (fillM w' B m') :=
  below_set (below_set (below_set (below_set (below_set h hB 0 _) hB 1 _) hB 2 _) hB 3 _) hB 4 _

set_option maxHeartbeats 1000000 in
theorem fits_any (i : Nat) (hi : i ≤ 8) (w : World) : Calls Tryd.prog 97 #[.int .i64 i] w fun e w' => e = .returned (.bool true) ∧ w' = w := by
  have d1 : decide ((i : Int) ≥ 0) = true := decide_eq_true (by omega)
  have d2 : decide ((i : Int) ≤ 300) = true := decide_eq_true (by omega)
  go_enter Tryd.func97, Tryd.ntmps97
  go_wp2
  go_ret
  exact ⟨by simp, rfl⟩

set_option maxHeartbeats 4000000 in
theorem with_any (m i : Nat) (hm : m < 512) (hi : i ≤ 8) (w : World) : Calls Tryd.prog 91 #[mkV m, .int .i64 i] w fun e w' => e = .returned (mkV (m ||| 2 ^ i)) ∧ Below w.heap.size w w' := by
  have hA := alloc_at w (.cells (mkA m) 76)
  have hs := alloc_size w (.cells (mkA m) 76)
  have hB0 := alloc_below w (.cells (mkA m) 76)
  have hA2 := alloc_at (w.alloc (.cells (mkA m) 76)) (.cells (mkA 0) 76)
  have hs2 := alloc_size (w.alloc (.cells (mkA m) 76)) (.cells (mkA 0) 76)
  have hB2 := alloc_below (w.alloc (.cells (mkA m) 76)) (.cells (mkA 0) 76)
  have hA1 := (hB2.block w.heap.size (by omega)).trans hA
  have hC := fits_any i hi ((w.alloc (.cells (mkA m) 76)).alloc (.cells (mkA 0) 76))
  have e1 : (i : Int).tdiv 64 = 0 := Int.tdiv_eq_zero_of_lt (by omega) (by omega)
  have e2 : (i : Int).tmod 64 = (i : Int) := Int.tmod_eq_of_lt (by omega) (by omega)
  unfold mkV
  unfold mkA at *
  go_enter Tryd.func91, Tryd.ntmps91
  go_wp2_with fail
  refine hC.mono ?_
  rintro e w2 ⟨rfl, rfl⟩
  clear hC
  go_wp2
  have HQ : Hid (BoxM ((w.alloc (.cells #[.int .u64 m, .int .u64 0, .int .u64 0, .int .u64 0, .int .u64 0] 76)).alloc (.cells #[.int .u64 ((0 : Nat) : Int), .int .u64 0, .int .u64 0, .int .u64 0, .int .u64 0] 76)) w.heap.size m) := hA1
  have HR : Hid (BoxM ((w.alloc (.cells #[.int .u64 m, .int .u64 0, .int .u64 0, .int .u64 0, .int .u64 0] 76)).alloc (.cells #[.int .u64 ((0 : Nat) : Int), .int .u64 0, .int .u64 0, .int .u64 0, .int .u64 0] 76)) (w.heap.size + 1) 0) := by rw [hs] at hA2; exact hA2
  have hb : Below w.heap.size w ((w.alloc (.cells #[.int .u64 m, .int .u64 0, .int .u64 0, .int .u64 0, .int .u64 0] 76)).alloc (.cells #[.int .u64 ((0 : Nat) : Int), .int .u64 0, .int .u64 0, .int .u64 0, .int .u64 0] 76)) := hB0.trans (hB2.mono (by omega))
  clear hA hA1 hA2 hs hs2 hB0 hB2
  rw [show (((0 : Nat) : Int)) = 0 from rfl] at HQ HR hb
  generalize (w.alloc (.cells #[.int .u64 m, .int .u64 0, .int .u64 0, .int .u64 0, .int .u64 0] 76)).alloc (.cells #[.int .u64 0, .int .u64 0, .int .u64 0, .int .u64 0, .int .u64 0] 76) = W at *
  have c0 := HQ.out.c0
  have f0 := HQ.out.fz 0
  have l0 := HQ.out.lt
  have e3 := mk_set hm hi
  have c1 := HQ.out.c1
  have c2 := HQ.out.c2
  have c3 := HQ.out.c3
  have c4 := HQ.out.c4
  have r0 := HR.out.c0
  have r1 := HR.out.c1
  have r2 := HR.out.c2
  have r3 := HR.out.c3
  have r4 := HR.out.c4
  have g0 := HR.out.fz 0
  have g1 := HR.out.fz 1
  have g2 := HR.out.fz 2
  have g3 := HR.out.fz 3
  have g4 := HR.out.fz 4
  have lr := HR.out.lt
  have w0 : IntKind.i64.wrap 0 = 0 := by decide
  have wi : IntKind.i64.wrap (i : Int) = (i : Int) := by rw [IntKind.wrap_i64]; omega
  go_still_tail 9, (show Tryd.prog.follows .mixedOrders = true by kernel_rfl)
  go_wp2
  have HF : Hid (BoxM (fillM (W.setCell ⟨w.heap.size, 0, none⟩ (.int .u64 ((m ||| 2 ^ i : Nat) : Int))) (w.heap.size + 1) (m ||| 2 ^ i)).drew (w.heap.size + 1) (m ||| 2 ^ i)) := ((HR.out.other (by omega)).fill _).drew
  have hbF : Below w.heap.size w (fillM (W.setCell ⟨w.heap.size, 0, none⟩ (.int .u64 ((m ||| 2 ^ i : Nat) : Int))) (w.heap.size + 1) (m ||| 2 ^ i)).drew := below_drewG (fill_below (below_set hb (Nat.le_refl _) 0 _) (Nat.le_succ _) _) 1
  have HX : Hid (((((((W.setCell ⟨w.heap.size, 0, none⟩ (.int .u64 ((m ||| 2 ^ i : Nat) : Int))).setCell ⟨w.heap.size + 1, 0, none⟩ (.int .u64 ((m ||| 2 ^ i : Nat) : Int))).setCell ⟨w.heap.size + 1, 1, none⟩ (.int .u64 0)).setCell ⟨w.heap.size + 1, 2, none⟩ (.int .u64 0)).setCell ⟨w.heap.size + 1, 3, none⟩ (.int .u64 0)).setCell ⟨w.heap.size + 1, 4, none⟩ (.int .u64 0)).drew = (fillM (W.setCell ⟨w.heap.size, 0, none⟩ (.int .u64 ((m ||| 2 ^ i : Nat) : Int))) (w.heap.size + 1) (m ||| 2 ^ i)).drew) := by show _ = _; unfold fillM; rfl
  rw [HX.out]
  clear HX
  generalize (fillM (W.setCell ⟨w.heap.size, 0, none⟩ (.int .u64 ((m ||| 2 ^ i : Nat) : Int))) (w.heap.size + 1) (m ||| 2 ^ i)).drew = W9 at *
  have z0 := HF.out.c0
  have z1 := HF.out.c1
  have z2 := HF.out.c2
  have z3 := HF.out.c3
  have z4 := HF.out.c4
  refine bodyPost_ret (v := .agg #[.int .u64 ((m ||| 2 ^ i : Nat) : Int), .int .u64 0, .int .u64 0, .int .u64 0, .int .u64 0]) ?_ rfl ?_
  · simp [results, go_sem, z0, z1, z2, z3, z4]
  · exact ⟨rfl, hbF⟩

set_option maxHeartbeats 4000000 in
theorem mof_any (i : Nat) (hi : i ≤ 8) (w : World) : Calls Tryd.prog 76 #[.int .i64 i] w fun e w' => e = .returned (mkV (2 ^ i)) ∧ Below w.heap.size w w' := by
  have hB0 := alloc_below w (.cells (mkA 0) 76)
  have hA := alloc_at w (.cells (mkA 0) 76)
  have hs := alloc_size w (.cells (mkA 0) 76)
  have hC := with_any 0 i (by omega) hi (w.alloc (.cells (mkA 0) 76))
  rw [Nat.zero_or] at hC
  obtain ⟨p, hp⟩ : ∃ p, p = 2 ^ i := ⟨_, rfl⟩
  rw [← hp] at hC ⊢
  clear hp
  unfold mkV at *
  unfold mkA at *
  rw [show (((0 : Nat) : Int)) = 0 from rfl] at hC hB0 hA hs
  have HA : Hid (BoxM (w.alloc (.cells #[.int .u64 0, .int .u64 0, .int .u64 0, .int .u64 0, .int .u64 0] 76)) w.heap.size 0) := hA
  clear hA
  have HS : Hid ((w.alloc (.cells #[.int .u64 0, .int .u64 0, .int .u64 0, .int .u64 0, .int .u64 0] 76)).heap.size = w.heap.size + 1) := hs
  clear hs
  go_enter Tryd.func76, Tryd.ntmps76
  go_wp2_with fail
  refine hC.mono ?_
  rintro e w2 ⟨rfl, hb2⟩
  have HR : Hid (BoxM w2 w.heap.size 0) := (hb2.block w.heap.size (by rw [HS.out]; omega)).trans HA.out
  have hb : Below w.heap.size w w2 := hB0.trans (hb2.mono (by rw [HS.out]; omega))
  clear hC hb2 hB0
  have r0 := HR.out.c0
  have r1 := HR.out.c1
  have r2 := HR.out.c2
  have r3 := HR.out.c3
  have r4 := HR.out.c4
  have g0 := HR.out.fz 0
  have g1 := HR.out.fz 1
  have g2 := HR.out.fz 2
  have g3 := HR.out.fz 3
  have g4 := HR.out.fz 4
  have lr := HR.out.lt
  go_wp2
  have HF : Hid (BoxM (fillM w2 w.heap.size p) w.heap.size p) := HR.out.fill _
  have hbF := fill_below hb (Nat.le_refl _) p
  have HX : Hid (((((w2.setCell ⟨w.heap.size, 0, none⟩ (.int .u64 ((p : Nat) : Int))).setCell ⟨w.heap.size, 1, none⟩ (.int .u64 0)).setCell ⟨w.heap.size, 2, none⟩ (.int .u64 0)).setCell ⟨w.heap.size, 3, none⟩ (.int .u64 0)).setCell ⟨w.heap.size, 4, none⟩ (.int .u64 0) = fillM w2 w.heap.size p) := by show _ = _; unfold fillM; rfl
  rw [HX.out]
  clear HX
  generalize fillM w2 w.heap.size p = W9 at *
  have z0 := HF.out.c0
  have z1 := HF.out.c1
  have z2 := HF.out.c2
  have z3 := HF.out.c3
  have z4 := HF.out.c4
  refine bodyPost_ret (v := .agg #[.int .u64 ((p : Nat) : Int), .int .u64 0, .int .u64 0, .int .u64 0, .int .u64 0]) ?_ rfl ?_
  · simp [results, go_sem, z0, z1, z2, z3, z4]
  · exact ⟨by first | rfl | simp, hbF⟩

end Go.Proofs.YtmkimaceioacgaaDoor

namespace Go.Proofs.YtmkimaceioacgaaDoor
open Go.RowKit
set_option linter.unusedVariables false
set_option maxRecDepth 100000

theorem BoxM.keep {w : World} {B m : Nat} (h : BoxM w B m) {k : Nat} (hk : 1 ≤ k) (hk5 : k < 5) : BoxM (w.setCell ⟨B, k, none⟩ (.int .u64 0)) B m := by
  unfold BoxM at *
  rw [heap_setC _ _ _ _ _ _ h]
  rcases k with _ | _ | _ | _ | _ | k
  · omega
  · rfl
  · rfl
  · rfl
  · rfl
  · omega
theorem Tryd.szU64 (h : 74 < Tryd.prog.types.size) : (Tryd.prog.types[74]'h).size = 1 := by
  have h2 : (Tryd.prog.types[74]?).map (·.size) = some 1 := by kernel_rfl
  rw [Array.getElem?_eq_getElem h] at h2
  simpa using h2
set_option linter.unusedSimpArgs false in
theorem idxM (n k : Nat) (hk : k < 5) (w : World) : (Instr.index 76 (.agg (mkA n)) (.int .i64 k)).run Tryd.prog w = .ok (if k = 0 then .int .u64 n else .int .u64 0) w := by
  have hsz := Tryd.szU64
  rcases k with _ | _ | _ | _ | _ | k
  · simp [Instr.index, run_underlying Tryd.underlying76, asIntOf, go_sem, mkA, hsz]
  · simp [Instr.index, run_underlying Tryd.underlying76, asIntOf, go_sem, mkA, hsz]
  · simp [Instr.index, run_underlying Tryd.underlying76, asIntOf, go_sem, mkA, hsz]
  · simp [Instr.index, run_underlying Tryd.underlying76, asIntOf, go_sem, mkA, hsz]
  · simp [Instr.index, run_underlying Tryd.underlying76, asIntOf, go_sem, mkA, hsz]
  · omega
theorem bits00 : bits BinOp.or IntKind.u64 0 0 = 0 := by decide

set_option maxHeartbeats 4000000 in
theorem join_any (m n : Nat) (hm : m < 512) (hn : n < 512) (w : World) : Calls Tryd.prog 46 #[mkV m, mkV n] w fun e w' => e = .returned (mkV (m ||| n)) ∧ Below w.heap.size w w' := by
  have hA := alloc_at w (.cells (mkA m) 76)
  have hs := alloc_size w (.cells (mkA m) 76)
  have hB := alloc_below w (.cells (mkA m) 76)
  have hA2 := alloc_at (w.alloc (.cells (mkA m) 76)) (.cells (mkA n) 76)
  have hs2 := alloc_size (w.alloc (.cells (mkA m) 76)) (.cells (mkA n) 76)
  have hB2 := alloc_below (w.alloc (.cells (mkA m) 76)) (.cells (mkA n) 76)
  have hA3 := alloc_at ((w.alloc (.cells (mkA m) 76)).alloc (.cells (mkA n) 76)) (.cells (mkA 0) 76)
  have hs3 := alloc_size ((w.alloc (.cells (mkA m) 76)).alloc (.cells (mkA n) 76)) (.cells (mkA 0) 76)
  have hB3 := alloc_below ((w.alloc (.cells (mkA m) 76)).alloc (.cells (mkA n) 76)) (.cells (mkA 0) 76)
  have HQ : Hid (BoxM (((w.alloc (.cells (mkA m) 76)).alloc (.cells (mkA n) 76)).alloc (.cells (mkA 0) 76)) w.heap.size m) := (hB3.block _ (by omega)).trans ((hB2.block _ (by omega)).trans hA)
  have HO : Hid (BoxM (((w.alloc (.cells (mkA m) 76)).alloc (.cells (mkA n) 76)).alloc (.cells (mkA 0) 76)) (w.heap.size + 1) n) := by
    rw [← hs]
    exact (hB3.block _ (by omega)).trans hA2
  have HR : Hid (BoxM (((w.alloc (.cells (mkA m) 76)).alloc (.cells (mkA n) 76)).alloc (.cells (mkA 0) 76)) (w.heap.size + 1 + 1) 0) := by
    rw [← hs, ← hs2]
    exact hA3
  have hb : Below w.heap.size w (((w.alloc (.cells (mkA m) 76)).alloc (.cells (mkA n) 76)).alloc (.cells (mkA 0) 76)) := (hB.trans (hB2.mono (by omega))).trans (hB3.mono (by omega))
  clear hA hs hB hA2 hs2 hB2 hA3 hs3 hB3
  have e3 : bits BinOp.or IntKind.u64 (m : Int) (n : Int) = ((m ||| n : Nat) : Int) := bits_or_u64_nat m n (by omega) (by omega)
  have e4 := bits00
  have hsz := Tryd.szU64
  unfold mkV
  unfold mkA at *
  rw [show (((0 : Nat) : Int)) = 0 from rfl] at HQ HR HO hb
  have o0 := HO.out.c0
  have o1 := HO.out.c1
  have o2 := HO.out.c2
  have o3 := HO.out.c3
  have o4 := HO.out.c4
  have lo := HO.out.lt
  go_enter Tryd.func46, Tryd.ntmps46
  go_wp2
  clear o0 o1 o2 o3 o4 lo HO
  generalize ((w.alloc (.cells #[.int .u64 m, .int .u64 0, .int .u64 0, .int .u64 0, .int .u64 0] 76)).alloc (.cells #[.int .u64 n, .int .u64 0, .int .u64 0, .int .u64 0, .int .u64 0] 76)).alloc (.cells #[.int .u64 0, .int .u64 0, .int .u64 0, .int .u64 0, .int .u64 0] 76) = W at *
  have hx0 : ∀ w, (Instr.index 76 (.agg #[.int .u64 n, .int .u64 0, .int .u64 0, .int .u64 0, .int .u64 0]) (.int .i64 0)).run Tryd.prog w = .ok (.int .u64 n) w := fun w => idxM n 0 (by omega) w
  have hx1 : ∀ w, (Instr.index 76 (.agg #[.int .u64 n, .int .u64 0, .int .u64 0, .int .u64 0, .int .u64 0]) (.int .i64 1)).run Tryd.prog w = .ok (.int .u64 0) w := fun w => idxM n 1 (by omega) w
  have hx2 : ∀ w, (Instr.index 76 (.agg #[.int .u64 n, .int .u64 0, .int .u64 0, .int .u64 0, .int .u64 0]) (.int .i64 2)).run Tryd.prog w = .ok (.int .u64 0) w := fun w => idxM n 2 (by omega) w
  have hx3 : ∀ w, (Instr.index 76 (.agg #[.int .u64 n, .int .u64 0, .int .u64 0, .int .u64 0, .int .u64 0]) (.int .i64 3)).run Tryd.prog w = .ok (.int .u64 0) w := fun w => idxM n 3 (by omega) w
  have hx4 : ∀ w, (Instr.index 76 (.agg #[.int .u64 n, .int .u64 0, .int .u64 0, .int .u64 0, .int .u64 0]) (.int .i64 4)).run Tryd.prog w = .ok (.int .u64 0) w := fun w => idxM n 4 (by omega) w
  go_loopw [8] (fun iv wr => ∃ z : Int, 0 ≤ z ∧ z ≤ 5 ∧ iv = .int .i64 z ∧ Hid (BoxM wr w.heap.size (if z = 0 then m else m ||| n)) ∧ Hid (BoxM wr (w.heap.size + 1 + 1) 0) ∧ Below w.heap.size w wr) (fun iv _ => 5 - (intOf iv).toNat)
  case atStart => exact ⟨0, by omega, by omega, rfl, HQ, HR, hb⟩
  case round =>
    clear HQ HR hb
    obtain ⟨z, hz0, hz5, rfl, HQ, HR, hb⟩ := hrel
    have lq := HQ.out.lt
    have hz : z = 0 ∨ z = 1 ∨ z = 2 ∨ z = 3 ∨ z = 4 ∨ z = 5 := by omega
    clear hz0 hz5
    rcases hz with rfl | rfl | rfl | rfl | rfl | rfl
    · rw [if_pos rfl] at HQ
      have c0 := HQ.out.c0
      have f0 := HQ.out.fz 0
      have HQ2 : Hid (BoxM (wr.setCell ⟨w.heap.size, 0, none⟩ (.int .u64 ((m ||| n : Nat) : Int))) w.heap.size (m ||| n)) := HQ.out.set _
      have HR2 : Hid (BoxM (wr.setCell ⟨w.heap.size, 0, none⟩ (.int .u64 ((m ||| n : Nat) : Int))) (w.heap.size + 1 + 1) 0) := HR.out.other (by omega)
      have hb2 := below_set hb (Nat.le_refl w.heap.size) 0 (.int .u64 ((m ||| n : Nat) : Int))
      clear HQ HR
      go_wp2
      go_roundw
      case rel => exact ⟨1, by omega, by omega, by first | rfl | go_num, HQ2, HR2, hb2⟩
      case measure => simp [intOf]
    · rw [if_neg (by omega)] at HQ
      have c0 := HQ.out.c1
      have f0 := HQ.out.fz 1
      have HQ2 : Hid (BoxM (wr.setCell ⟨w.heap.size, 1, none⟩ (.int .u64 0)) w.heap.size (m ||| n)) := HQ.out.keep (by omega) (by omega)
      have HR2 : Hid (BoxM (wr.setCell ⟨w.heap.size, 1, none⟩ (.int .u64 0)) (w.heap.size + 1 + 1) 0) := HR.out.other (by omega)
      have hb2 := below_set hb (Nat.le_refl w.heap.size) 1 (.int .u64 0)
      clear HQ HR
      go_wp2
      go_roundw
      case rel => exact ⟨2, by omega, by omega, by first | rfl | go_num, HQ2, HR2, hb2⟩
      case measure => simp [intOf]
    · rw [if_neg (by omega)] at HQ
      have c0 := HQ.out.c2
      have f0 := HQ.out.fz 2
      have HQ2 : Hid (BoxM (wr.setCell ⟨w.heap.size, 2, none⟩ (.int .u64 0)) w.heap.size (m ||| n)) := HQ.out.keep (by omega) (by omega)
      have HR2 : Hid (BoxM (wr.setCell ⟨w.heap.size, 2, none⟩ (.int .u64 0)) (w.heap.size + 1 + 1) 0) := HR.out.other (by omega)
      have hb2 := below_set hb (Nat.le_refl w.heap.size) 2 (.int .u64 0)
      clear HQ HR
      go_wp2
      go_roundw
      case rel => exact ⟨3, by omega, by omega, by first | rfl | go_num, HQ2, HR2, hb2⟩
      case measure => simp [intOf]
    · rw [if_neg (by omega)] at HQ
      have c0 := HQ.out.c3
      have f0 := HQ.out.fz 3
      have HQ2 : Hid (BoxM (wr.setCell ⟨w.heap.size, 3, none⟩ (.int .u64 0)) w.heap.size (m ||| n)) := HQ.out.keep (by omega) (by omega)
      have HR2 : Hid (BoxM (wr.setCell ⟨w.heap.size, 3, none⟩ (.int .u64 0)) (w.heap.size + 1 + 1) 0) := HR.out.other (by omega)
      have hb2 := below_set hb (Nat.le_refl w.heap.size) 3 (.int .u64 0)
      clear HQ HR
      go_wp2
      go_roundw
      case rel => exact ⟨4, by omega, by omega, by first | rfl | go_num, HQ2, HR2, hb2⟩
      case measure => simp [intOf]
    · rw [if_neg (by omega)] at HQ
      have c0 := HQ.out.c4
      have f0 := HQ.out.fz 4
      have HQ2 : Hid (BoxM (wr.setCell ⟨w.heap.size, 4, none⟩ (.int .u64 0)) w.heap.size (m ||| n)) := HQ.out.keep (by omega) (by omega)
      have HR2 : Hid (BoxM (wr.setCell ⟨w.heap.size, 4, none⟩ (.int .u64 0)) (w.heap.size + 1 + 1) 0) := HR.out.other (by omega)
      have hb2 := below_set hb (Nat.le_refl w.heap.size) 4 (.int .u64 0)
      clear HQ HR
      go_wp2
      go_roundw
      case rel => exact ⟨5, by omega, by omega, by first | rfl | go_num, HQ2, HR2, hb2⟩
      case measure => simp [intOf]
    · rw [if_neg (by omega)] at HQ
      have c0 := HQ.out.c0
      have c1 := HQ.out.c1
      have c2 := HQ.out.c2
      have c3 := HQ.out.c3
      have c4 := HQ.out.c4
      have r0 := HR.out.c0
      have r1 := HR.out.c1
      have r2 := HR.out.c2
      have r3 := HR.out.c3
      have r4 := HR.out.c4
      have g0 := HR.out.fz 0
      have g1 := HR.out.fz 1
      have g2 := HR.out.fz 2
      have g3 := HR.out.fz 3
      have g4 := HR.out.fz 4
      have lr := HR.out.lt
      clear e3 hx0 hx1 hx2 hx3 hx4
      obtain ⟨p, hp⟩ : ∃ p, p = m ||| n := ⟨_, rfl⟩
      have HP : Hid (p = m ||| n) := hp
      rw [← hp] at c0
      clear hp
      go_wp2
      have HF : Hid (BoxM (fillM wr (w.heap.size + 1 + 1) p) (w.heap.size + 1 + 1) p) := HR.out.fill _
      have hbF := fill_below hb (show w.heap.size ≤ w.heap.size + 1 + 1 by omega) p
      have HX : Hid (((((wr.setCell ⟨w.heap.size + 1 + 1, 0, none⟩ (.int .u64 (p : Int))).setCell ⟨w.heap.size + 1 + 1, 1, none⟩ (.int .u64 0)).setCell ⟨w.heap.size + 1 + 1, 2, none⟩ (.int .u64 0)).setCell ⟨w.heap.size + 1 + 1, 3, none⟩ (.int .u64 0)).setCell ⟨w.heap.size + 1 + 1, 4, none⟩ (.int .u64 0) = fillM wr (w.heap.size + 1 + 1) p) := by show _ = _; unfold fillM; rfl
      rw [HX.out]
      clear HX
      generalize fillM wr (w.heap.size + 1 + 1) p = W9 at *
      have z0 := HF.out.c0
      have z1 := HF.out.c1
      have z2 := HF.out.c2
      have z3 := HF.out.c3
      have z4 := HF.out.c4
      refine bodyPost_ret (v := .agg #[.int .u64 (p : Int), .int .u64 0, .int .u64 0, .int .u64 0, .int .u64 0]) ?_ rfl ?_
      · simp [results, go_sem, z0, z1, z2, z3, z4]
      · exact ⟨by rw [HP.out], hbF⟩

end Go.Proofs.YtmkimaceioacgaaDoor
