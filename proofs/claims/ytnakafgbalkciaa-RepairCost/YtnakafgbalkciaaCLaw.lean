/- The law RepairCost. -/
import Derived.Test.YtnakafgbalkciaaCPrgB
import Derived.Test.YtnakafgbalkciaaCDocC
import Derived.Test.YtnakafgbalkciaaCDocD
import Derived.Deep.RegionWith
namespace Go.Proofs.Ytnakafgbalkciaa
open Go.RowKit
set_option linter.unusedVariables false
set_option maxRecDepth 100000

theorem rCost_any (put leave fr to : List Int) (pv lv fv tv : Value) (w : World) (hza : fr.length ≤ 40) (hzt : to.length ≤ 40) (hzp : put.length ≤ 10) (hzl : leave.length ≤ 10)
    (hp : IntsR w pv put) (hl : IntsR w lv leave) (hf : IntsR w fv fr) (ht : IntsR w tv to) :
    Calls Try.prog 6 #[.agg #[pv, lv], fv, tv] w fun e w' => e = .returned (.int .i64 (costS put leave fr to)) ∧ Below w.heap.size w w' := by
  unfold costS
  cases h : (costsB put && costsB leave && insB (min put.length leave.length) fr && insB (min put.length leave.length) to)
  · rw [if_neg (by simp)]
    exact rCost_no put leave fr to pv lv fv tv w hza hzt hzp hzl h hp hl hf ht
  · rw [if_pos rfl]
    simp only [Bool.and_eq_true] at h
    obtain ⟨⟨⟨h1, h2⟩, h3⟩, h4⟩ := h
    exact rCost_yes put leave fr to pv lv fv tv w hza hzt hzp hzl h1 h2 h3 h4 hp hl hf ht

set_option maxHeartbeats 8000000 in
theorem claw_big (put leave fr to : List Int) (pv lv fv tv : Value) (w : World) (hno : (decide (put.length ≤ 10) && decide (leave.length ≤ 10) && decide (fr.length ≤ 40) && decide (to.length ≤ 40)) = false)
    (hp : IntsR w pv put) (hl : IntsR w lv leave) (hf : IntsR w fv fr) (ht : IntsR w tv to) :
    Calls Try.prog 3 #[.agg #[pv, lv], fv, tv] w fun e w' => e = .returned (.bool true) ∧ Below w.heap.size w w' := by
  have hB0 := boxC_below w pv lv
  have hB2 := boxC_box w pv lv
  obtain ⟨pa, pc, rfl⟩ := hp.slice
  obtain ⟨la, lc, rfl⟩ := hl.slice
  obtain ⟨fa, fc, rfl⟩ := hf.slice
  obtain ⟨ta, tc, rfl⟩ := ht.slice
  clear hp hl hf ht
  have hC := few_any pa la put.length leave.length pc lc (boxC w (.slice pa put.length pc) (.slice la leave.length lc))
  obtain ⟨q0, q1, q2⟩ := hB2
  unfold boxC at *
  cases h1 : (decide (put.length ≤ 10) && decide (leave.length ≤ 10))
  · rw [h1] at hC
    clear h1 hno
    go_enter Try.func3, Try.ntmps3
    go_wp2_with fail
    refine hC.mono ?_
    rintro e w2 ⟨rfl, hb2⟩
    have hb := hB0.trans (hb2.mono hB0.size)
    clear hC q0 q1 q2
    go_wp2
    go_ret
    exact ⟨rfl, hb⟩
  · rw [h1] at hC hno
    clear h1
    by_cases h2 : (fr.length : Int) > 40
    · clear hno
      have d1 : decide ((fr.length : Int) > 40) = true := decide_eq_true h2
      go_enter Try.func3, Try.ntmps3
      go_wp2_with fail
      refine hC.mono ?_
      rintro e w2 ⟨rfl, hb2⟩
      have hb := hB0.trans (hb2.mono hB0.size)
      clear hC q0 q1 q2
      go_wp2
      go_ret
      exact ⟨rfl, hb⟩
    · have d1 : decide ((fr.length : Int) > 40) = false := decide_eq_false h2
      have h3 : (to.length : Int) > 40 := by
        rw [Bool.true_and, decide_eq_true (show fr.length ≤ 40 by omega), Bool.true_and] at hno
        have := of_decide_eq_false hno
        omega
      have d2 : decide ((to.length : Int) > 40) = true := decide_eq_true h3
      clear hno
      go_enter Try.func3, Try.ntmps3
      go_wp2_with fail
      refine hC.mono ?_
      rintro e w2 ⟨rfl, hb2⟩
      have hb := hB0.trans (hb2.mono hB0.size)
      clear hC q0 q1 q2
      go_wp2
      go_ret
      exact ⟨rfl, hb⟩

set_option maxHeartbeats 8000000 in
theorem claw_few (put leave fr to : List Int) (pv lv fv tv : Value) (w : World) (hza : fr.length ≤ 40) (hzt : to.length ≤ 40) (hzp : put.length ≤ 10) (hzl : leave.length ≤ 10)
    (hp : IntsR w pv put) (hl : IntsR w lv leave) (hf : IntsR w fv fr) (ht : IntsR w tv to) :
    Calls Try.prog 3 #[.agg #[pv, lv], fv, tv] w fun e w' => e = .returned (.bool true) ∧ Below w.heap.size w w' := by
  have hB0 := boxC_below w pv lv
  have hB1 := boxC_size w pv lv
  have hB2 := boxC_box w pv lv
  have HP : Hid (∀ wx, Below w.heap.size w wx → Calls Try.prog 5 #[.agg #[pv, lv], fv, tv] wx fun e w' => e = .returned (.int .i64 (costS put leave fr to)) ∧ Below wx.heap.size wx w') := fun wx hb => pCost_any put leave fr to pv lv fv tv wx hza hzt hzp hzl (hp.below hb) (hl.below hb) (hf.below hb) (ht.below hb)
  have HR : Hid (∀ wx, Below w.heap.size w wx → Calls Try.prog 6 #[.agg #[pv, lv], fv, tv] wx fun e w' => e = .returned (.int .i64 (costS put leave fr to)) ∧ Below wx.heap.size wx w') := fun wx hb => rCost_any put leave fr to pv lv fv tv wx hza hzt hzp hzl (hp.below hb) (hl.below hb) (hf.below hb) (ht.below hb)
  obtain ⟨pa, pc, rfl⟩ := hp.slice
  obtain ⟨la, lc, rfl⟩ := hl.slice
  obtain ⟨fa, fc, rfl⟩ := hf.slice
  obtain ⟨ta, tc, rfl⟩ := ht.slice
  clear hp hl hf ht
  have hC := few_any pa la put.length leave.length pc lc (boxC w (.slice pa put.length pc) (.slice la leave.length lc))
  rw [decide_eq_true hzp, decide_eq_true hzl, Bool.true_and] at hC
  have HBX : Hid (BoxC (boxC w (.slice pa put.length pc) (.slice la leave.length lc)) w.heap.size (.slice pa put.length pc) (.slice la leave.length lc)) := hB2
  obtain ⟨q0, q1, q2⟩ := hB2
  unfold boxC at *
  have d1 : decide ((fr.length : Int) > 40) = false := decide_eq_false (by omega)
  have d2 : decide ((to.length : Int) > 40) = false := decide_eq_false (by omega)
  generalize costS put leave fr to = z at *
  go_enter Try.func3, Try.ntmps3
  go_wp2_with fail
  refine hC.mono ?_
  rintro e w2 ⟨rfl, hb2⟩
  have hb := hB0.trans (hb2.mono hB0.size)
  generalize w.alloc (.cells #[.slice pa put.length pc, .slice la leave.length lc] 24) = w0 at *
  rw [hB1] at hb2
  have HB2 : Hid (BoxC w2 w.heap.size (.slice pa put.length pc) (.slice la leave.length lc)) := HBX.out.below (Nat.lt_succ_self _) hb2
  clear hC q0 q1 q2 hB0 hb2 hB1 HBX
  obtain ⟨q0, q1, q2⟩ := HB2.out
  go_wp2
  have HD : Hid (∀ m w5, Below (w2.drewN m).heap.size (w2.drewN m) w5 → Below w2.heap.size w2 w5) := fun m w5 hb => ⟨hb.os, hb.tape, hb.output, hb.size, hb.block⟩
  have HBX : Hid (∀ w5, Below w2.heap.size w2 w5 → BoxC w5 w.heap.size (.slice pa put.length pc) (.slice la leave.length lc)) := fun w5 h5 => HB2.out.below HB2.out.lt h5
  have HW : Hid (∀ w5, Below w2.heap.size w2 w5 → Below w.heap.size w w5) := fun w5 h5 => hb.trans (h5.mono hb.size)
  go_region_with (first
    | (go_at_call 5; refine (HP.out _ (below_drewG hb _)).mono ?_; rintro e w5 ⟨rfl, hb5⟩; have hb6 := HD.out _ _ hb5; have q := HBX.out w5 hb6; obtain ⟨q0, q1, q2⟩ := q; clear hb5)
    | (go_at_call 6; refine (HR.out _ (HW.out _ hb6)).mono ?_; rintro e w7 ⟨rfl, hb7⟩))
  all_goals
    have hb9 : Below w2.heap.size w2 w7 := hb6.trans (hb7.mono hb6.size)
    have hbW := HW.out _ hb9
    go_wp2
    go_ret
    exact ⟨rfl, hbW⟩

theorem claw_any (put leave fr to : List Int) (pv lv fv tv : Value) (w : World)
    (hp : IntsR w pv put) (hl : IntsR w lv leave) (hf : IntsR w fv fr) (ht : IntsR w tv to) :
    Calls Try.prog 3 #[.agg #[pv, lv], fv, tv] w fun e w' => e = .returned (.bool true) ∧ Below w.heap.size w w' := by
  cases h : (decide (put.length ≤ 10) && decide (leave.length ≤ 10) && decide (fr.length ≤ 40) && decide (to.length ≤ 40))
  · exact claw_big put leave fr to pv lv fv tv w h hp hl hf ht
  · simp at h
    exact claw_few put leave fr to pv lv fv tv w h.1.2 h.2 h.1.1.1 h.1.1.2 hp hl hf ht

end Go.Proofs.Ytnakafgbalkciaa
