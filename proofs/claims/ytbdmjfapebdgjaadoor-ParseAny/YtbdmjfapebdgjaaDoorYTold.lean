/- The law: is an error told as it should; Parse and Next where the table does not fit. -/
import Derived.Test.YtbdmjfapebdgjaaDoorCode
import Derived.Test.YtbdmjfapebdgjaaDoorYPnz
import Derived.Test.YtbdmjfapebdgjaaDoorYSam
namespace Go.Proofs.YtbdmjfapebdgjaaDoor
open Go.RowKit
set_option linter.unusedVariables false
set_option maxRecDepth 100000

theorem errs_g {w : World} {a : Nat → Addr} (h : Errs w a) : ErG w (a 1) (a 2) (a 6) := ⟨h.cell 1 (by omega), h.cell 2 (by omega), h.cell 6 (by omega)⟩
theorem errV_at (a : Nat → Addr) (c : Int) (h : c ≠ 0) : ∃ i, i < 7 ∧ errV (a 1) (a 2) (a 6) c = errE (a i) := by
  unfold errV
  rw [if_neg h]
  split
  · exact ⟨1, by omega, rfl⟩
  · split
    · exact ⟨2, by omega, rfl⟩
    · exact ⟨6, by omega, rfl⟩

set_option maxHeartbeats 4000000 in
theorem told_nil (z : Int) (w : World) : Calls Tryd.prog 12 #[.nilIface, .nilIface, .int .i64 z] w fun e w' => e = .returned (.bool true) ∧ Below w.heap.size w w' := by
  go_enter Tryd.func12, Tryd.ntmps12
  go_wp2_with (go_at_call 10; refine (code_nil _).mono ?_; rintro e w' ⟨rfl, rfl⟩)
  go_ret
  exact ⟨rfl, Below.refl _ _⟩

set_option maxHeartbeats 4000000 in
theorem told_flt (w : World) (a : Nat → Addr) (h : Errs w a) (i : Nat) (hi : i < 7) (fb : Nat) (z : Int) (h1 : w.cell? ⟨fb, 0, none⟩ = some (.iface 136 (.pointer (some (a i))))) (h2 : w.cell? ⟨fb, 1, none⟩ = some (.int .i64 z)) :
    Calls Tryd.prog 12 #[.iface 67 (.pointer (some ⟨fb, 0, none⟩)), .iface 136 (.pointer (some (a i))), .int .i64 z] w fun e w' => e = .returned (.bool true) ∧ Below w.heap.size w w' := by
  have HC : Hid (Calls Tryd.prog 10 #[.iface 67 (.pointer (some ⟨fb, 0, none⟩))] w fun e w' => e = .returned (.tuple #[.int .i64 ((i : Int) + 1), .int .i64 z]) ∧ Below w.heap.size w w') := code_fault w a h i hi fb z h1 h2
  have HD : Hid (∀ w', Below w.heap.size w w' → Calls Tryd.prog 10 #[.iface 136 (.pointer (some (a i)))] w' fun e w'' => e = .returned (.tuple #[.int .i64 ((i : Int) + 1), .int .i64 (-1)]) ∧ Below w'.heap.size w' w'') := fun w' hb => code_err w' a (h.below hb (Nat.le_refl _)) i hi
  clear h h1 h2
  go_enter Tryd.func12, Tryd.ntmps12
  go_wp2_with fail
  go_at_call 10
  refine HC.out.mono ?_
  rintro e w1 ⟨rfl, hb1⟩
  have HB1 : Hid (Below w.heap.size w w1) := hb1
  clear hb1 HC
  go_wp2_with fail
  go_at_call 10
  refine (HD.out w1 HB1.out).mono ?_
  rintro e w2 ⟨rfl, hb2⟩
  have HB2 : Hid (Below w.heap.size w w2) := HB1.out.trans (hb2.mono HB1.out.size)
  clear hb2 HD
  have hne : ¬ ((i : Int) + 1 = 0) := by omega
  go_wp2_with fail
  go_ret
  exact ⟨rfl, HB2.out⟩

set_option maxHeartbeats 4000000 in
theorem pparse_not (c : PC) (tb : Tb) (inp : List Int) (ay : Addr) (w : World) (hf : fitsB c.g tb = false) (hG : GrM w c.g c.pv c.lv c.sv) (hT : TbM w tb c.av c.ov c.cv) (hwf : WfG c.g) (hs : w.cell? ⟨0, 0, none⟩ = some (.iface 136 (.pointer (some ay)))) :
    Calls Tryd.prog 8 #[gv c.g c.pv c.lv c.sv, tvv c.av c.ov c.cv, c.iv] w fun e w' => e = .returned (.tuple #[.pointer none, .iface 136 (.pointer (some ay))]) ∧ Below w.heap.size w w' := by
  obtain ⟨hB0, hBX, hBT⟩ := boxT_all w c.g c.pv c.lv c.sv c.av c.ov c.cv
  have HFi : Hid (∀ w', Below w.heap.size w w' → Calls Tryd.prog 7 #[gv c.g c.pv c.lv c.sv, tvv c.av c.ov c.cv] w' fun e w'' => e = .returned (.bool false) ∧ Below w'.heap.size w' w'') := fun w' hb => by
    have h := pfits_any c.g c.pv c.lv c.sv tb c.av c.ov c.cv w' (hG.below hb) hwf (hT.below hb)
    rw [hf] at h
    exact h
  have HES : Hid (∀ w', Below w.heap.size w w' → w'.cell? ⟨0, 0, none⟩ = some (.iface 136 (.pointer (some ay)))) := fun w' hb => (hb.cell (p := ⟨0, 0, none⟩) (lt_of_cellY hs)).trans hs
  clear hf hG hT hwf hs
  have HB0 : Hid (Below w.heap.size w (boxT w c.g c.pv c.lv c.sv c.av c.ov c.cv)) := hB0
  unfold gv gvs tvv tvs at *
  have HWB : Hid ((w.alloc (.cells #[.int .i64 c.g.terms, .int .i64 c.g.names, .int .i64 c.g.start, c.pv, c.lv, c.sv] 25)).alloc (.cells #[c.av, c.ov, c.cv] 30) = boxT w c.g c.pv c.lv c.sv c.av c.ov c.cv) := rfl
  generalize boxT w c.g c.pv c.lv c.sv c.av c.ov c.cv = W1 at *
  obtain ⟨q0, q1, q2, q3, q4, q5, q6⟩ := hBX
  obtain ⟨t0, t1, t2, t3⟩ := hBT
  clear hB0
  go_enter Tryd.func8, Tryd.ntmps8
  go_upto_region 1 with fail
  rw [HWB.out]
  go_wp2_with fail
  go_at_call 7
  refine (HFi.out _ HB0.out).mono ?_
  rintro e w2 ⟨rfl, hb2⟩
  have HB2 : Hid (Below w.heap.size w w2) := HB0.out.trans (hb2.mono HB0.out.size)
  have hs := HES.out w2 HB2.out
  clear q0 q1 q2 q3 q4 q5 q6 t0 t1 t2 t3 hb2 HB0 HWB HFi HES
  go_wp2_with fail
  go_quiet (fail)
  go_wp2_with fail
  go_ret2
  exact ⟨rfl, below_drewG HB2.out _⟩

set_option maxHeartbeats 4000000 in
theorem pnext_not (c : PC) (tb : Tb) (w : World) (hf : fitsB c.g tb = false) (hG : GrM w c.g c.pv c.lv c.sv) (hT : TbM w tb c.av c.ov c.cv) (hwf : WfG c.g) :
    Calls Tryd.prog 9 #[gv c.g c.pv c.lv c.sv, tvv c.av c.ov c.cv, c.iv] w fun e w' => e = .returned (.slice none 0 0) ∧ Below w.heap.size w w' := by
  obtain ⟨hB0, hBX, hBT⟩ := boxT_all w c.g c.pv c.lv c.sv c.av c.ov c.cv
  have HFi : Hid (∀ w', Below w.heap.size w w' → Calls Tryd.prog 7 #[gv c.g c.pv c.lv c.sv, tvv c.av c.ov c.cv] w' fun e w'' => e = .returned (.bool false) ∧ Below w'.heap.size w' w'') := fun w' hb => by
    have h := pfits_any c.g c.pv c.lv c.sv tb c.av c.ov c.cv w' (hG.below hb) hwf (hT.below hb)
    rw [hf] at h
    exact h
  clear hf hG hT hwf
  have HB0 : Hid (Below w.heap.size w (boxT w c.g c.pv c.lv c.sv c.av c.ov c.cv)) := hB0
  unfold gv gvs tvv tvs at *
  have HWB : Hid ((w.alloc (.cells #[.int .i64 c.g.terms, .int .i64 c.g.names, .int .i64 c.g.start, c.pv, c.lv, c.sv] 25)).alloc (.cells #[c.av, c.ov, c.cv] 30) = boxT w c.g c.pv c.lv c.sv c.av c.ov c.cv) := rfl
  generalize boxT w c.g c.pv c.lv c.sv c.av c.ov c.cv = W1 at *
  obtain ⟨q0, q1, q2, q3, q4, q5, q6⟩ := hBX
  obtain ⟨t0, t1, t2, t3⟩ := hBT
  clear hB0
  go_enter Tryd.func9, Tryd.ntmps9
  go_upto_region 1 with fail
  rw [HWB.out]
  go_wp2_with fail
  go_at_call 7
  refine (HFi.out _ HB0.out).mono ?_
  rintro e w2 ⟨rfl, hb2⟩
  have HB2 : Hid (Below w.heap.size w w2) := HB0.out.trans (hb2.mono HB0.out.size)
  clear q0 q1 q2 q3 q4 q5 q6 t0 t1 t2 t3 hb2 HB0 HWB HFi
  go_wp2_with fail
  go_ret
  exact ⟨rfl, HB2.out⟩

end Go.Proofs.YtbdmjfapebdgjaaDoor
