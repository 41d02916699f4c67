/- The law: is a table small. -/
import Derived.Test.YtbdmjfapebdgjaaDoorYFitB
namespace Go.Proofs.YtbdmjfapebdgjaaDoor
open Go.RowKit
set_option linter.unusedVariables false
set_option maxRecDepth 100000

/-- no greater than the law's bounds -/
def tabledB (tb : Tb) : Bool := decide (tb.acts.length ≤ 60) && (decide (tb.gotos.length ≤ 60) && (((List.range tb.acts.length).all fun s => decide ((tb.acts.getD s []).length ≤ 10)) && ((List.range tb.gotos.length).all fun s => decide ((tb.gotos.getD s []).length ≤ 10))))

set_option maxHeartbeats 4000000 in
theorem tabled_any (tb : Tb) (av ov cv : Value) (w : World) (hT : TbM w tb av ov cv) :
    Calls Tryd.prog 5 #[tvv av ov cv] w fun e w' => e = .returned (.bool (tabledB tb)) ∧ Below w.heap.size w w' := by
  have hB0 := alloc_below w (.cells (tvs av ov cv) 30)
  obtain ⟨c0, c1, c2⟩ := box3_cells w av ov cv 30
  have hsz := alloc_size w (.cells (tvs av ov cv) 30)
  have HBT : Hid (BoxT (w.alloc (.cells (tvs av ov cv) 30)) w.heap.size av ov cv) := ⟨by rw [hsz]; exact Nat.lt_succ_self _, c0, c1, c2⟩
  have HT : Hid (TbM w tb av ov cv) := hT
  have hTT := hT
  obtain ⟨aa, ac, rfl⟩ := hTT.acts.slice
  obtain ⟨oa, oc, rfl⟩ := hTT.gotos.slice
  clear hT hTT c0 c1 c2 hsz
  generalize hR : tabledB tb = R at *
  have HR : Hid (tabledB tb = R) := hR
  clear hR
  unfold tabledB at HR
  unfold tvv tvs at *
  have HB0 : Hid (Below w.heap.size w (w.alloc (.cells #[.slice aa tb.acts.length ac, .slice oa tb.gotos.length oc, cv] 30))) := hB0
  clear hB0
  generalize hW1 : w.alloc (.cells #[.slice aa tb.acts.length ac, .slice oa tb.gotos.length oc, cv] 30) = W1 at *
  have HWB : Hid (w.alloc (.cells #[.slice aa tb.acts.length ac, .slice oa tb.gotos.length oc, cv] 30) = W1) := hW1
  clear hW1
  generalize hN : tb.acts.length = n at *
  have HN : Hid (tb.acts.length = n) := hN
  clear hN
  generalize hM : tb.gotos.length = m at *
  have HMm : Hid (tb.gotos.length = m) := hM
  clear hM
  obtain ⟨t0, t1, t2, t3⟩ := HBT.out
  by_cases h0 : (n : Int) > 60
  · have d0 : decide ((n : Int) > 60) = true := decide_eq_true h0
    have HZ : Hid (R = false) := by show _ = _; rw [← HR.out, decide_eq_false (by omega)]; rfl
    clear HR
    go_enter Tryd.func5, Tryd.ntmps5
    go_wp2_with fail
    rw [HWB.out]
    go_wp2
    go_ret
    exact ⟨by rw [HZ.out]; rfl, HB0.out⟩
  have d0 : decide ((n : Int) > 60) = false := decide_eq_false h0
  by_cases h1 : (m : Int) > 60
  · have d1 : decide ((m : Int) > 60) = true := decide_eq_true h1
    have HZ : Hid (R = false) := by show _ = _; rw [← HR.out, decide_eq_false (p := m ≤ 60) (by omega)]; simp
    clear HR
    go_enter Tryd.func5, Tryd.ntmps5
    go_wp2_with fail
    rw [HWB.out]
    go_wp2
    go_ret
    exact ⟨by rw [HZ.out]; rfl, HB0.out⟩
  have d1 : decide ((m : Int) > 60) = false := decide_eq_false h1
  have HR2 : Hid (R = ((((List.range n).drop 0).all fun s => decide ((tb.acts.getD s []).length ≤ 10)) && (((List.range m).drop 0).all fun s => decide ((tb.gotos.getD s []).length ≤ 10)))) := by
    show _ = _
    rw [← HR.out, List.drop_zero, List.drop_zero, decide_eq_true (by omega), decide_eq_true (by omega), Bool.true_and, Bool.true_and]
  have hnl : n ≤ 60 := by omega
  have hml : m ≤ 60 := by omega
  clear HR h0 h1
  go_enter Tryd.func5, Tryd.ntmps5
  go_wp2_with fail
  rw [HWB.out]
  go_wp2
  clear t0 t1 t2 t3 d0 d1
  go_loopw [3] (fun iv wr => ∃ i : Nat, i ≤ n ∧ iv = .int .i64 i ∧ Hid (R = ((((List.range n).drop i).all fun s => decide ((tb.acts.getD s []).length ≤ 10)) && (((List.range m).drop 0).all fun s => decide ((tb.gotos.getD s []).length ≤ 10)))) ∧ Hid (Below (w.heap.size + 1) W1 wr)) (fun iv _ => n - (intOf iv).toNat)
  case atStart => exact ⟨0, Nat.zero_le _, rfl, HR2, Below.refl _ _⟩
  case round =>
    obtain ⟨i, hi, rfl, HM, HBW⟩ := hrel
    have hbw := HB0.out.trans (HBW.out.mono (by omega))
    obtain ⟨t0, t1, t2, t3⟩ := HBT.out.below (K := w.heap.size + 1) (by omega) HBW.out
    by_cases hlt : i < n
    · obtain ⟨ab, aoff, arv, rfl, hab, hac, har⟩ := (HT.out.below hbw).acts.at (k := i) (by rw [HN.out]; exact hlt)
      obtain ⟨ra, rc, rfl⟩ := har.slice
      have HA : Hid (((List.range n).drop i).all (fun s => decide ((tb.acts.getD s []).length ≤ 10)) = (decide ((tb.acts.getD i []).length ≤ 10) && ((List.range n).drop (i + 1)).all fun s => decide ((tb.acts.getD s []).length ≤ 10))) := all_rangeG _ _ _ hlt
      clear har
      generalize (tb.acts.getD i []).length = rl at *
      by_cases g1 : (rl : Int) > 10
      · have e1 : decide ((rl : Int) > 10) = true := decide_eq_true g1
        have HZ : Hid (R = false) := by show _ = _; rw [HM.out, HA.out, decide_eq_false (by omega)]; rfl
        clear HM HA
        go_wp2
        go_ret
        exact ⟨by rw [HZ.out]; rfl, hbw⟩
      · have e1 : decide ((rl : Int) > 10) = false := decide_eq_false g1
        have HM2 : Hid (R = ((((List.range n).drop (i + 1)).all fun s => decide ((tb.acts.getD s []).length ≤ 10)) && (((List.range m).drop 0).all fun s => decide ((tb.gotos.getD s []).length ≤ 10)))) := by show _ = _; rw [HM.out, HA.out, decide_eq_true (by omega), Bool.true_and]
        clear HM HA
        go_wp2
        go_roundw
        case rel => exact ⟨i + 1, by omega, by go_num, HM2, HBW⟩
        case measure => simp [intOf]; omega
    · have HR3 : Hid (R = (((List.range m).drop 0).all fun s => decide ((tb.gotos.getD s []).length ≤ 10))) := by show _ = _; rw [HM.out, List.drop_eq_nil_of_le (by simp; omega)]; rfl
      clear HM HR2
      go_wp2
      rename World => w3
      clear t0 t1 t2 t3 hbw hlt
      go_loopw [4] (fun iv wr => ∃ i : Nat, i ≤ m ∧ iv = .int .i64 i ∧ Hid (R = (((List.range m).drop i).all fun s => decide ((tb.gotos.getD s []).length ≤ 10))) ∧ Hid (Below (w.heap.size + 1) W1 wr)) (fun iv _ => m - (intOf iv).toNat)
      case atStart => exact ⟨0, Nat.zero_le _, rfl, HR3, HBW⟩
      case round =>
        obtain ⟨j, hj, rfl, HM, HBV⟩ := hrel
        have hbw := HB0.out.trans (HBV.out.mono (by omega))
        obtain ⟨t0, t1, t2, t3⟩ := HBT.out.below (K := w.heap.size + 1) (by omega) HBV.out
        by_cases hlt : j < m
        · obtain ⟨ab, aoff, arv, rfl, hab, hac, har⟩ := (HT.out.below hbw).gotos.at (k := j) (by rw [HMm.out]; exact hlt)
          obtain ⟨ra, rc, rfl⟩ := har.slice
          have HA : Hid (((List.range m).drop j).all (fun s => decide ((tb.gotos.getD s []).length ≤ 10)) = (decide ((tb.gotos.getD j []).length ≤ 10) && ((List.range m).drop (j + 1)).all fun s => decide ((tb.gotos.getD s []).length ≤ 10))) := all_rangeG _ _ _ hlt
          clear har
          generalize (tb.gotos.getD j []).length = rl at *
          by_cases g1 : (rl : Int) > 10
          · have e1 : decide ((rl : Int) > 10) = true := decide_eq_true g1
            have HZ : Hid (R = false) := by show _ = _; rw [HM.out, HA.out, decide_eq_false (by omega)]; rfl
            clear HM HA
            go_wp2
            go_ret
            exact ⟨by rw [HZ.out]; rfl, hbw⟩
          · have e1 : decide ((rl : Int) > 10) = false := decide_eq_false g1
            have HM2 : Hid (R = (((List.range m).drop (j + 1)).all fun s => decide ((tb.gotos.getD s []).length ≤ 10))) := by show _ = _; rw [HM.out, HA.out, decide_eq_true (by omega), Bool.true_and]
            clear HM HA
            go_wp2
            go_roundw
            case rel => exact ⟨j + 1, by omega, by go_num, HM2, HBV⟩
            case measure => simp [intOf]; omega
        · have HZ : Hid (R = true) := by show _ = _; rw [HM.out, List.drop_eq_nil_of_le (by simp; omega)]; rfl
          clear HM
          go_wp2
          go_ret
          exact ⟨by rw [HZ.out]; rfl, hbw⟩

end Go.Proofs.YtbdmjfapebdgjaaDoor
