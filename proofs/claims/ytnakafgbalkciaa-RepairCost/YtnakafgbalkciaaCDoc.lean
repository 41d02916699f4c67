/- The document: its tests of costs and lists. -/
import Derived.Test.YtnakafgbalkciaaCMem
import Derived.Lib.MinMax
namespace Go.Proofs.Ytnakafgbalkciaa
open Go.RowKit
set_option linter.unusedVariables false
set_option maxRecDepth 100000

set_option maxHeartbeats 1000000 in
theorem rleast_any (a b : Int) (w : World) : Calls Try.prog 10 #[.int .i64 a, .int .i64 b] w fun e w' => e = .returned (.int .i64 (min a b)) ∧ w' = w := by
  by_cases h : a < b
  · have e : min a b = a := by omega
    rw [e]
    clear e
    go_enter Try.func10, Try.ntmps10
    go_wp2
    go_ret
    exact ⟨rfl, rfl⟩
  · have e : min a b = b := by omega
    rw [e]
    clear e
    go_enter Try.func10, Try.ntmps10
    go_wp2
    go_ret
    exact ⟨rfl, rfl⟩

set_option maxHeartbeats 2000000 in
theorem costsOk_any (v : Value) (l : List Int) (w : World) (hz : l.length ≤ 1000) (h : IntsR w v l) :
    Calls Try.prog 11 #[v] w fun e w' => e = .returned (.bool (costsB l)) ∧ w' = w := by
  obtain ⟨a, c, rfl⟩ := h.slice
  have HV : Hid (IntsR w (.slice a l.length c) l) := h
  have HR : Hid (costsB l = (l.drop 0).all fun z => decide (1 ≤ z) && decide (z ≤ 1000)) := rfl
  generalize costsB l = R at *
  clear h
  go_enter Try.func11, Try.ntmps11
  go_wp2
  go_loopw [3] (fun iv wr => ∃ k : Nat, k ≤ l.length ∧ iv = .int .i64 k ∧ Hid (R = (l.drop k).all fun z => decide (1 ≤ z) && decide (z ≤ 1000)) ∧ wr = w) (fun iv _ => l.length - (intOf iv).toNat)
  case atStart => exact ⟨0, Nat.zero_le _, rfl, HR, rfl⟩
  case round =>
    clear HR
    obtain ⟨k, hk, rfl, HM, rfl⟩ := hrel
    by_cases hlt : k < l.length
    · obtain ⟨b, off, rfl, hb, hc⟩ := HV.out.at hlt
      have HA : Hid _ := all_dropG l 0 (fun z => decide (1 ≤ z) && decide (z ≤ 1000)) k hlt
      generalize l.getD k 0 = z at *
      by_cases h1 : z < 1
      · have HS : Hid (R = false) := by show _ = _; rw [HM.out, HA.out, decide_eq_false (show ¬ 1 ≤ z by omega)]; rfl
        have d1 : decide (z < 1) = true := decide_eq_true h1
        go_wp2
        go_ret
        exact ⟨by rw [HS.out]; rfl, rfl⟩
      · have d1 : decide (z < 1) = false := decide_eq_false h1
        by_cases h2 : z > 1000
        · have HS : Hid (R = false) := by show _ = _; rw [HM.out, HA.out, decide_eq_false (show ¬ z ≤ 1000 by omega)]; simp
          have d2 : decide (z > 1000) = true := decide_eq_true h2
          go_wp2
          go_ret
          exact ⟨by rw [HS.out]; rfl, rfl⟩
        · have HS : Hid (R = (l.drop (k + 1)).all fun z => decide (1 ≤ z) && decide (z ≤ 1000)) := by
            show _ = _; rw [HM.out, HA.out, decide_eq_true (show 1 ≤ z by omega), decide_eq_true (show z ≤ 1000 by omega)]; rfl
          have d2 : decide (z > 1000) = false := decide_eq_false h2
          clear HM HA
          go_wp2
          go_roundw
          case rel => exact ⟨k + 1, by omega, by go_num, HS, trivial⟩
          case measure => simp [intOf]; omega
    · have HS : Hid (R = true) := by show _ = _; rw [HM.out, List.drop_eq_nil_of_le (by omega)]; rfl
      go_wp2
      go_ret
      exact ⟨by rw [HS.out]; rfl, rfl⟩

set_option maxHeartbeats 2000000 in
theorem inside_any (v : Value) (l : List Int) (n : Nat) (w : World) (hz : l.length ≤ 1000) (h : IntsR w v l) :
    Calls Try.prog 12 #[v, .int .i64 n] w fun e w' => e = .returned (.bool (insB n l)) ∧ w' = w := by
  obtain ⟨a, c, rfl⟩ := h.slice
  have HV : Hid (IntsR w (.slice a l.length c) l) := h
  have HR : Hid (insB n l = (l.drop 0).all fun z => decide (0 ≤ z) && decide (z < (n : Int))) := rfl
  generalize insB n l = R at *
  clear h
  go_enter Try.func12, Try.ntmps12
  go_wp2
  go_loopw [5] (fun iv wr => ∃ k : Nat, k ≤ l.length ∧ iv = .int .i64 k ∧ Hid (R = (l.drop k).all fun z => decide (0 ≤ z) && decide (z < (n : Int))) ∧ wr = w) (fun iv _ => l.length - (intOf iv).toNat)
  case atStart => exact ⟨0, Nat.zero_le _, rfl, HR, rfl⟩
  case round =>
    clear HR
    obtain ⟨k, hk, rfl, HM, rfl⟩ := hrel
    by_cases hlt : k < l.length
    · obtain ⟨b, off, rfl, hb, hc⟩ := HV.out.at hlt
      have HA : Hid _ := all_dropG l 0 (fun z => decide (0 ≤ z) && decide (z < (n : Int))) k hlt
      generalize l.getD k 0 = z at *
      by_cases h1 : z < 0
      · have HS : Hid (R = false) := by show _ = _; rw [HM.out, HA.out, decide_eq_false (show ¬ 0 ≤ z by omega)]; rfl
        have d1 : decide (z < 0) = true := decide_eq_true h1
        go_wp2
        go_ret
        exact ⟨by rw [HS.out]; rfl, rfl⟩
      · have d1 : decide (z < 0) = false := decide_eq_false h1
        by_cases h2 : z ≥ (n : Int)
        · have HS : Hid (R = false) := by show _ = _; rw [HM.out, HA.out, decide_eq_false (show ¬ z < (n : Int) by omega)]; simp
          have d2 : decide (z ≥ (n : Int)) = true := decide_eq_true h2
          go_wp2
          go_ret
          exact ⟨by rw [HS.out]; rfl, rfl⟩
        · have HS : Hid (R = (l.drop (k + 1)).all fun z => decide (0 ≤ z) && decide (z < (n : Int))) := by
            show _ = _; rw [HM.out, HA.out, decide_eq_true (show 0 ≤ z by omega), decide_eq_true (show z < (n : Int) by omega)]; rfl
          have d2 : decide (z ≥ (n : Int)) = false := decide_eq_false h2
          clear HM HA
          go_wp2
          go_roundw
          case rel => exact ⟨k + 1, by omega, by go_num, HS, trivial⟩
          case measure => simp [intOf]; omega
    · have HS : Hid (R = true) := by show _ = _; rw [HM.out, List.drop_eq_nil_of_le (by omega)]; rfl
      go_wp2
      go_ret
      exact ⟨by rw [HS.out]; rfl, rfl⟩

end Go.Proofs.Ytnakafgbalkciaa
