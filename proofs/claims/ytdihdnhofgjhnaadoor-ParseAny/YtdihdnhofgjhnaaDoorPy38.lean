/- Texts of the proof, put together: YTold, YTab. -/
import Derived.Test.YtdihdnhofgjhnaaDoorPy04
import Derived.Test.YtdihdnhofgjhnaaDoorPy36
import Derived.Test.YtdihdnhofgjhnaaDoorPy37
import Derived.Test.YtdihdnhofgjhnaaDoorPy14
namespace Go.Proofs.YtdihdnhofgjhnaaDoor
open Go.RowKit
set_option linter.unusedVariables false
set_option maxRecDepth 100000

theorem errs_g {w : World} {a : Nat → Addr} (h : Errs w a) : ErG w (a 1) (a 2) (a 6) := ⟨h.cell 1 (by omega), h.cell 2 (by omega), h.cell 6 (by omega)⟩
theorem errV_at (a : Nat → Addr) (c : Int) (h : c ≠ 0) : ∃ i, i < 7 ∧ errV (a 1) (a 2) (a 6) c = errE (a i) := by
  unfold errV
  rw [if_neg h]
  split
  · exact ⟨1, by omega, rfl⟩
  · split
    · exact ⟨2, by omega, rfl⟩
    · exact ⟨6, by omega, rfl⟩

set_option maxHeartbeats 4000000 in
theorem told_nil (z : Int) (w : World) : Calls Tryd.prog 12 #[.nilIface, .nilIface, .int .i64 z] w fun e w' => e = .returned (.bool true) ∧ Below w.heap.size w w' := by
  go_enter Tryd.func12, Tryd.ntmps12
  go_wp2_with (go_at_call 10; refine (code_nil _).mono ?_; rintro e w' ⟨rfl, rfl⟩)
  go_ret
  exact ⟨rfl, Below.refl _ _⟩

set_option maxHeartbeats 4000000 in
theorem told_flt (w : World) (a : Nat → Addr) (h : Errs w a) (i : Nat) (hi : i < 7) (fb : Nat) (z : Int) (h1 : w.cell? ⟨fb, 0, none⟩ = some (.iface 137 (.pointer (some (a i))))) (h2 : w.cell? ⟨fb, 1, none⟩ = some (.int .i64 z)) :
    Calls Tryd.prog 12 #[.iface 66 (.pointer (some ⟨fb, 0, none⟩)), .iface 137 (.pointer (some (a i))), .int .i64 z] w fun e w' => e = .returned (.bool true) ∧ Below w.heap.size w w' := by
  have HC : Hid (Calls Tryd.prog 10 #[.iface 66 (.pointer (some ⟨fb, 0, none⟩))] w fun e w' => e = .returned (.tuple #[.int .i64 ((i : Int) + 1), .int .i64 z]) ∧ Below w.heap.size w w') := code_fault w a h i hi fb z h1 h2
  have HD : Hid (∀ w', Below w.heap.size w w' → Calls Tryd.prog 10 #[.iface 137 (.pointer (some (a i)))] w' fun e w'' => e = .returned (.tuple #[.int .i64 ((i : Int) + 1), .int .i64 (-1)]) ∧ Below w'.heap.size w' w'') := fun w' hb => code_err w' a (h.below hb (Nat.le_refl _)) i hi
  clear h h1 h2
  go_enter Tryd.func12, Tryd.ntmps12
  go_wp2_with fail
  go_at_call 10
  refine HC.out.mono ?_
  rintro e w1 ⟨rfl, hb1⟩
  have HB1 : Hid (Below w.heap.size w w1) := hb1
  clear hb1 HC
  go_wp2_with fail
  go_at_call 10
  refine (HD.out w1 HB1.out).mono ?_
  rintro e w2 ⟨rfl, hb2⟩
  have HB2 : Hid (Below w.heap.size w w2) := HB1.out.trans (hb2.mono HB1.out.size)
  clear hb2 HD
  have hne : ¬ ((i : Int) + 1 = 0) := by omega
  go_wp2_with fail
  go_ret
  exact ⟨rfl, HB2.out⟩

set_option maxHeartbeats 4000000 in
theorem pparse_not (c : PC) (tb : Tb) (inp : List Int) (ay : Addr) (w : World) (hf : fitsB c.g tb = false) (hG : GrM w c.g c.pv c.lv c.sv) (hT : TbM w tb c.av c.ov c.cv) (hwf : WfG c.g) (hs : w.cell? ⟨0, 0, none⟩ = some (.iface 137 (.pointer (some ay)))) :
    Calls Tryd.prog 8 #[gv c.g c.pv c.lv c.sv, tvv c.av c.ov c.cv, c.iv] w fun e w' => e = .returned (.tuple #[.pointer none, .iface 137 (.pointer (some ay))]) ∧ Below w.heap.size w w' := by
  obtain ⟨hB0, hBX, hBT⟩ := boxT_all w c.g c.pv c.lv c.sv c.av c.ov c.cv
  have HFi : Hid (∀ w', Below w.heap.size w w' → Calls Tryd.prog 7 #[gv c.g c.pv c.lv c.sv, tvv c.av c.ov c.cv] w' fun e w'' => e = .returned (.bool false) ∧ Below w'.heap.size w' w'') := fun w' hb => by
    have h := pfits_any c.g c.pv c.lv c.sv tb c.av c.ov c.cv w' (hG.below hb) hwf (hT.below hb)
    rw [hf] at h
    exact h
  have HES : Hid (∀ w', Below w.heap.size w w' → w'.cell? ⟨0, 0, none⟩ = some (.iface 137 (.pointer (some ay)))) := fun w' hb => (hb.cell (p := ⟨0, 0, none⟩) (lt_of_cellY hs)).trans hs
  clear hf hG hT hwf hs
  have HB0 : Hid (Below w.heap.size w (boxT w c.g c.pv c.lv c.sv c.av c.ov c.cv)) := hB0
  unfold gv gvs tvv tvs at *
  have HWB : Hid ((w.alloc (.cells #[.int .i64 c.g.terms, .int .i64 c.g.names, .int .i64 c.g.start, c.pv, c.lv, c.sv] 25)).alloc (.cells #[c.av, c.ov, c.cv] 30) = boxT w c.g c.pv c.lv c.sv c.av c.ov c.cv) := rfl
  generalize boxT w c.g c.pv c.lv c.sv c.av c.ov c.cv = W1 at *
  obtain ⟨q0, q1, q2, q3, q4, q5, q6⟩ := hBX
  obtain ⟨t0, t1, t2, t3⟩ := hBT
  clear hB0
  go_enter Tryd.func8, Tryd.ntmps8
  go_upto_region 1 with fail
  rw [HWB.out]
  go_wp2_with fail
  go_at_call 7
  refine (HFi.out _ HB0.out).mono ?_
  rintro e w2 ⟨rfl, hb2⟩
  have HB2 : Hid (Below w.heap.size w w2) := HB0.out.trans (hb2.mono HB0.out.size)
  have hs := HES.out w2 HB2.out
  clear q0 q1 q2 q3 q4 q5 q6 t0 t1 t2 t3 hb2 HB0 HWB HFi HES
  go_wp2_with fail
  go_quiet (fail)
  go_wp2_with fail
  go_ret2
  exact ⟨rfl, below_drewG HB2.out _⟩

set_option maxHeartbeats 4000000 in
theorem pnext_not (c : PC) (tb : Tb) (w : World) (hf : fitsB c.g tb = false) (hG : GrM w c.g c.pv c.lv c.sv) (hT : TbM w tb c.av c.ov c.cv) (hwf : WfG c.g) :
    Calls Tryd.prog 9 #[gv c.g c.pv c.lv c.sv, tvv c.av c.ov c.cv, c.iv] w fun e w' => e = .returned (.slice none 0 0) ∧ Below w.heap.size w w' := by
  obtain ⟨hB0, hBX, hBT⟩ := boxT_all w c.g c.pv c.lv c.sv c.av c.ov c.cv
  have HFi : Hid (∀ w', Below w.heap.size w w' → Calls Tryd.prog 7 #[gv c.g c.pv c.lv c.sv, tvv c.av c.ov c.cv] w' fun e w'' => e = .returned (.bool false) ∧ Below w'.heap.size w' w'') := fun w' hb => by
    have h := pfits_any c.g c.pv c.lv c.sv tb c.av c.ov c.cv w' (hG.below hb) hwf (hT.below hb)
    rw [hf] at h
    exact h
  clear hf hG hT hwf
  have HB0 : Hid (Below w.heap.size w (boxT w c.g c.pv c.lv c.sv c.av c.ov c.cv)) := hB0
  unfold gv gvs tvv tvs at *
  have HWB : Hid ((w.alloc (.cells #[.int .i64 c.g.terms, .int .i64 c.g.names, .int .i64 c.g.start, c.pv, c.lv, c.sv] 25)).alloc (.cells #[c.av, c.ov, c.cv] 30) = boxT w c.g c.pv c.lv c.sv c.av c.ov c.cv) := rfl
  generalize boxT w c.g c.pv c.lv c.sv c.av c.ov c.cv = W1 at *
  obtain ⟨q0, q1, q2, q3, q4, q5, q6⟩ := hBX
  obtain ⟨t0, t1, t2, t3⟩ := hBT
  clear hB0
  go_enter Tryd.func9, Tryd.ntmps9
  go_upto_region 1 with fail
  rw [HWB.out]
  go_wp2_with fail
  go_at_call 7
  refine (HFi.out _ HB0.out).mono ?_
  rintro e w2 ⟨rfl, hb2⟩
  have HB2 : Hid (Below w.heap.size w w2) := HB0.out.trans (hb2.mono HB0.out.size)
  clear q0 q1 q2 q3 q4 q5 q6 t0 t1 t2 t3 hb2 HB0 HWB HFi
  go_wp2_with fail
  go_ret
  exact ⟨rfl, HB2.out⟩

end Go.Proofs.YtdihdnhofgjhnaaDoor

namespace Go.Proofs.YtdihdnhofgjhnaaDoor
open Go.RowKit
set_option linter.unusedVariables false
set_option maxRecDepth 100000

/-- no greater than the law's bounds -/
def tabledB (tb : Tb) : Bool := decide (tb.acts.length ≤ 60) && (decide (tb.gotos.length ≤ 60) && (((List.range tb.acts.length).all fun s => decide ((tb.acts.getD s []).length ≤ 10)) && ((List.range tb.gotos.length).all fun s => decide ((tb.gotos.getD s []).length ≤ 10))))

set_option maxHeartbeats 4000000 in
theorem tabled_any (tb : Tb) (av ov cv : Value) (w : World) (hT : TbM w tb av ov cv) :
    Calls Tryd.prog 5 #[tvv av ov cv] w fun e w' => e = .returned (.bool (tabledB tb)) ∧ Below w.heap.size w w' := by
  have hB0 := alloc_below w (.cells (tvs av ov cv) 30)
  obtain ⟨c0, c1, c2⟩ := box3_cells w av ov cv 30
  have hsz := alloc_size w (.cells (tvs av ov cv) 30)
  have HBT : Hid (BoxT (w.alloc (.cells (tvs av ov cv) 30)) w.heap.size av ov cv) := ⟨by rw [hsz]; exact Nat.lt_succ_self _, c0, c1, c2⟩
  have HT : Hid (TbM w tb av ov cv) := hT
  have hTT := hT
  obtain ⟨aa, ac, rfl⟩ := hTT.acts.slice
  obtain ⟨oa, oc, rfl⟩ := hTT.gotos.slice
  clear hT hTT c0 c1 c2 hsz
  generalize hR : tabledB tb = R at *
  have HR : Hid (tabledB tb = R) := hR
  clear hR
  unfold tabledB at HR
  unfold tvv tvs at *
  have HB0 : Hid (Below w.heap.size w (w.alloc (.cells #[.slice aa tb.acts.length ac, .slice oa tb.gotos.length oc, cv] 30))) := hB0
  clear hB0
  generalize hW1 : w.alloc (.cells #[.slice aa tb.acts.length ac, .slice oa tb.gotos.length oc, cv] 30) = W1 at *
  have HWB : Hid (w.alloc (.cells #[.slice aa tb.acts.length ac, .slice oa tb.gotos.length oc, cv] 30) = W1) := hW1
  clear hW1
  generalize hN : tb.acts.length = n at *
  have HN : Hid (tb.acts.length = n) := hN
  clear hN
  generalize hM : tb.gotos.length = m at *
  have HMm : Hid (tb.gotos.length = m) := hM
  clear hM
  obtain ⟨t0, t1, t2, t3⟩ := HBT.out
  by_cases h0 : (n : Int) > 60
  · have d0 : decide ((n : Int) > 60) = true := decide_eq_true h0
    have HZ : Hid (R = false) := by show _ = _; rw [← HR.out, decide_eq_false (by omega)]; rfl
    clear HR
    go_enter Tryd.func5, Tryd.ntmps5
    go_wp2_with fail
    rw [HWB.out]
    go_wp2
    go_ret
    exact ⟨by rw [HZ.out]; rfl, HB0.out⟩
  have d0 : decide ((n : Int) > 60) = false := decide_eq_false h0
  by_cases h1 : (m : Int) > 60
  · have d1 : decide ((m : Int) > 60) = true := decide_eq_true h1
    have HZ : Hid (R = false) := by show _ = _; rw [← HR.out, decide_eq_false (p := m ≤ 60) (by omega)]; simp
    clear HR
    go_enter Tryd.func5, Tryd.ntmps5
    go_wp2_with fail
    rw [HWB.out]
    go_wp2
    go_ret
    exact ⟨by rw [HZ.out]; rfl, HB0.out⟩
  have d1 : decide ((m : Int) > 60) = false := decide_eq_false h1
  have HR2 : Hid (R = ((((List.range n).drop 0).all fun s => decide ((tb.acts.getD s []).length ≤ 10)) && (((List.range m).drop 0).all fun s => decide ((tb.gotos.getD s []).length ≤ 10)))) := by
    show _ = _
    rw [← HR.out, List.drop_zero, List.drop_zero, decide_eq_true (by omega), decide_eq_true (by omega), Bool.true_and, Bool.true_and]
  have hnl : n ≤ 60 := by omega
  have hml : m ≤ 60 := by omega
  clear HR h0 h1
  go_enter Tryd.func5, Tryd.ntmps5
  go_wp2_with fail
  rw [HWB.out]
  go_wp2
  clear t0 t1 t2 t3 d0 d1
  go_loopw [3] (fun iv wr => ∃ i : Nat, i ≤ n ∧ iv = .int .i64 i ∧ Hid (R = ((((List.range n).drop i).all fun s => decide ((tb.acts.getD s []).length ≤ 10)) && (((List.range m).drop 0).all fun s => decide ((tb.gotos.getD s []).length ≤ 10)))) ∧ Hid (Below (w.heap.size + 1) W1 wr)) (fun iv _ => n - (intOf iv).toNat)
  case atStart => exact ⟨0, Nat.zero_le _, rfl, HR2, Below.refl _ _⟩
  case round =>
    obtain ⟨i, hi, rfl, HM, HBW⟩ := hrel
    have hbw := HB0.out.trans (HBW.out.mono (by omega))
    obtain ⟨t0, t1, t2, t3⟩ := HBT.out.below (K := w.heap.size + 1) (by omega) HBW.out
    by_cases hlt : i < n
    · obtain ⟨ab, aoff, arv, rfl, hab, hac, har⟩ := (HT.out.below hbw).acts.at (k := i) (by rw [HN.out]; exact hlt)
      obtain ⟨ra, rc, rfl⟩ := har.slice
      have HA : Hid (((List.range n).drop i).all (fun s => decide ((tb.acts.getD s []).length ≤ 10)) = (decide ((tb.acts.getD i []).length ≤ 10) && ((List.range n).drop (i + 1)).all fun s => decide ((tb.acts.getD s []).length ≤ 10))) := all_rangeG _ _ _ hlt
      clear har
      generalize (tb.acts.getD i []).length = rl at *
      by_cases g1 : (rl : Int) > 10
      · have e1 : decide ((rl : Int) > 10) = true := decide_eq_true g1
        have HZ : Hid (R = false) := by show _ = _; rw [HM.out, HA.out, decide_eq_false (by omega)]; rfl
        clear HM HA
        go_wp2
        go_ret
        exact ⟨by rw [HZ.out]; rfl, hbw⟩
      · have e1 : decide ((rl : Int) > 10) = false := decide_eq_false g1
        have HM2 : Hid (R = ((((List.range n).drop (i + 1)).all fun s => decide ((tb.acts.getD s []).length ≤ 10)) && (((List.range m).drop 0).all fun s => decide ((tb.gotos.getD s []).length ≤ 10)))) := by show _ = _; rw [HM.out, HA.out, decide_eq_true (by omega), Bool.true_and]
        clear HM HA
        go_wp2
        go_roundw
        case rel => exact ⟨i + 1, by omega, by go_num, HM2, HBW⟩
        case measure => simp [intOf]; omega
    · have HR3 : Hid (R = (((List.range m).drop 0).all fun s => decide ((tb.gotos.getD s []).length ≤ 10))) := by show _ = _; rw [HM.out, List.drop_eq_nil_of_le (by simp; omega)]; rfl
      clear HM HR2
      go_wp2
      rename World => w3
      clear t0 t1 t2 t3 hbw hlt
      go_loopw [4] (fun iv wr => ∃ i : Nat, i ≤ m ∧ iv = .int .i64 i ∧ Hid (R = (((List.range m).drop i).all fun s => decide ((tb.gotos.getD s []).length ≤ 10))) ∧ Hid (Below (w.heap.size + 1) W1 wr)) (fun iv _ => m - (intOf iv).toNat)
      case atStart => exact ⟨0, Nat.zero_le _, rfl, HR3, HBW⟩
      case round =>
        obtain ⟨j, hj, rfl, HM, HBV⟩ := hrel
        have hbw := HB0.out.trans (HBV.out.mono (by omega))
        obtain ⟨t0, t1, t2, t3⟩ := HBT.out.below (K := w.heap.size + 1) (by omega) HBV.out
        by_cases hlt : j < m
        · obtain ⟨ab, aoff, arv, rfl, hab, hac, har⟩ := (HT.out.below hbw).gotos.at (k := j) (by rw [HMm.out]; exact hlt)
          obtain ⟨ra, rc, rfl⟩ := har.slice
          have HA : Hid (((List.range m).drop j).all (fun s => decide ((tb.gotos.getD s []).length ≤ 10)) = (decide ((tb.gotos.getD j []).length ≤ 10) && ((List.range m).drop (j + 1)).all fun s => decide ((tb.gotos.getD s []).length ≤ 10))) := all_rangeG _ _ _ hlt
          clear har
          generalize (tb.gotos.getD j []).length = rl at *
          by_cases g1 : (rl : Int) > 10
          · have e1 : decide ((rl : Int) > 10) = true := decide_eq_true g1
            have HZ : Hid (R = false) := by show _ = _; rw [HM.out, HA.out, decide_eq_false (by omega)]; rfl
            clear HM HA
            go_wp2
            go_ret
            exact ⟨by rw [HZ.out]; rfl, hbw⟩
          · have e1 : decide ((rl : Int) > 10) = false := decide_eq_false g1
            have HM2 : Hid (R = (((List.range m).drop (j + 1)).all fun s => decide ((tb.gotos.getD s []).length ≤ 10))) := by show _ = _; rw [HM.out, HA.out, decide_eq_true (by omega), Bool.true_and]
            clear HM HA
            go_wp2
            go_roundw
            case rel => exact ⟨j + 1, by omega, by go_num, HM2, HBV⟩
            case measure => simp [intOf]; omega
        · have HZ : Hid (R = true) := by show _ = _; rw [HM.out, List.drop_eq_nil_of_le (by simp; omega)]; rfl
          clear HM
          go_wp2
          go_ret
          exact ⟨by rw [HZ.out]; rfl, hbw⟩

end Go.Proofs.YtdihdnhofgjhnaaDoor
