/- The document's Cost: what is wrong. -/
import Derived.Test.YtnakafgbalkciaaCDoc
namespace Go.Proofs.Ytnakafgbalkciaa
open Go.RowKit
set_option linter.unusedVariables false
set_option maxRecDepth 100000

set_option maxHeartbeats 8000000 in
theorem rCost_no (put leave fr to : List Int) (pv lv fv tv : Value) (w : World) (hza : fr.length ≤ 40) (hzt : to.length ≤ 40) (hzp : put.length ≤ 10) (hzl : leave.length ≤ 10)
    (hno : (costsB put && costsB leave && insB (min put.length leave.length) fr && insB (min put.length leave.length) to) = false)
    (hp : IntsR w pv put) (hl : IntsR w lv leave) (hf : IntsR w fv fr) (ht : IntsR w tv to) :
    Calls Try.prog 6 #[.agg #[pv, lv], fv, tv] w fun e w' => e = .returned (.int .i64 (-1)) ∧ Below w.heap.size w w' := by
  have hB0 := boxC_below w pv lv
  have hB2 := boxC_box w pv lv
  have hC1 := costsOk_any pv put (boxC w pv lv) (by omega) (hp.below hB0)
  have hC2 := costsOk_any lv leave (boxC w pv lv) (by omega) (hl.below hB0)
  have hC3 := inside_any fv fr (min put.length leave.length) (boxC w pv lv) (by omega) (hf.below hB0)
  have hC4 := inside_any tv to (min put.length leave.length) (boxC w pv lv) (by omega) (ht.below hB0)
  have hC0 := rleast_any put.length leave.length (boxC w pv lv)
  rw [show min (put.length : Int) (leave.length : Int) = ((min put.length leave.length : Nat) : Int) by omega] at hC0
  generalize min put.length leave.length = n at *
  generalize costsB put = b1 at *
  generalize costsB leave = b2 at *
  generalize insB n fr = b3 at *
  generalize insB n to = b4 at *
  obtain ⟨pa, pc, rfl⟩ := hp.slice
  obtain ⟨la, lc, rfl⟩ := hl.slice
  obtain ⟨fa, fc, rfl⟩ := hf.slice
  obtain ⟨ta, tc, rfl⟩ := ht.slice
  clear hp hl hf ht
  obtain ⟨q0, q1, q2⟩ := hB2
  unfold boxC at *
  have d1 : decide ((fr.length : Int) > 1000) = false := decide_eq_false (by omega)
  have d2 : decide ((to.length : Int) > 1000) = false := decide_eq_false (by omega)
  go_enter Try.func6, Try.ntmps6
  go_wp2_with fail
  refine hC0.mono ?_
  rintro e w2 ⟨rfl, rfl⟩
  clear hC0
  go_wp2_with fail
  refine hC1.mono ?_
  rintro e w2 ⟨rfl, rfl⟩
  clear hC1
  go_wp2_with fail
  refine hC2.mono ?_
  rintro e w2 ⟨rfl, rfl⟩
  clear hC2
  go_wp2_with fail
  refine hC3.mono ?_
  rintro e w2 ⟨rfl, rfl⟩
  clear hC3
  go_wp2_with fail
  refine hC4.mono ?_
  rintro e w2 ⟨rfl, rfl⟩
  clear hC4 q0 q1 q2
  cases b1
  · clear hno
    go_wp2
    go_ret
    exact ⟨rfl, hB0⟩
  · cases b2
    · clear hno
      go_wp2
      go_ret
      exact ⟨rfl, hB0⟩
    · cases b3
      · clear hno
        go_wp2
        go_ret
        exact ⟨rfl, hB0⟩
      · cases b4
        · clear hno
          go_wp2
          go_ret
          exact ⟨rfl, hB0⟩
        · simp at hno

end Go.Proofs.Ytnakafgbalkciaa
