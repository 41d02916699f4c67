/- The document: may an act stand there? -/
import Derived.Test.YtbdmjfapebdgjaaDoorYFit
namespace Go.Proofs.YtbdmjfapebdgjaaDoor
open Go.RowKit
set_option linter.unusedVariables false
set_option maxRecDepth 100000

set_option maxHeartbeats 4000000 in
theorem ractOk_any (e : Bool) (n m : Nat) (a : Ac) (w : World) :
    Calls Tryd.prog 17 #[.agg #[.int .i64 a.kind, .int .i64 a.to], .bool e, .int .i64 n, .int .i64 m] w fun r w' => r = .returned (.bool (actB e n m a)) ∧ Below w.heap.size w w' := by
  have HB : Hid (Below w.heap.size w (w.alloc (.cells #[.int .i64 a.kind, .int .i64 a.to] 53))) := alloc_below _ _
  obtain ⟨r0, r1⟩ := box2_cells w (.int .i64 a.kind) (.int .i64 a.to) 53
  generalize hR : actB e n m a = R at *
  have HR : Hid (actB e n m a = R) := hR
  clear hR
  unfold actB at HR
  obtain ⟨kind, to⟩ := a
  simp only at *
  by_cases h1 : kind = 1
  · subst h1
    by_cases ht : to ≥ 0
    · have dt : decide (to ≥ 0) = true := decide_eq_true ht
      by_cases hn : to < (n : Int)
      · have dn : decide (to < (n : Int)) = true := decide_eq_true hn
        cases e with
        | false =>
          have HZ : Hid (R = true) := by show _ = _; rw [← HR.out]; simp [show 0 ≤ to from ht, hn]
          clear HR
          go_enter Tryd.func17, Tryd.ntmps17
          go_wp2
          go_ret
          exact ⟨by rw [HZ.out]; rfl, HB.out⟩
        | true =>
          have HZ : Hid (R = false) := by show _ = _; rw [← HR.out]; simp
          clear HR
          go_enter Tryd.func17, Tryd.ntmps17
          go_wp2
          go_ret
          exact ⟨by rw [HZ.out]; rfl, HB.out⟩
      · have dn : decide (to < (n : Int)) = false := decide_eq_false hn
        have HZ : Hid (R = false) := by show _ = _; rw [← HR.out]; simp [hn]
        clear HR
        go_enter Tryd.func17, Tryd.ntmps17
        go_wp2
        go_ret
        exact ⟨by rw [HZ.out]; rfl, HB.out⟩
    · have dt : decide (to ≥ 0) = false := decide_eq_false ht
      have HZ : Hid (R = false) := by show _ = _; rw [← HR.out]; simp [show ¬ 0 ≤ to from ht]
      clear HR
      go_enter Tryd.func17, Tryd.ntmps17
      go_wp2
      go_ret
      exact ⟨by rw [HZ.out]; rfl, HB.out⟩
  have k1 : (kind == 1) = false := by rw [beq_eq_false_iff_ne]; exact h1
  by_cases h2 : kind = 2
  · subst h2
    by_cases ht : to ≥ 0
    · have dt : decide (to ≥ 0) = true := decide_eq_true ht
      have HZ : Hid (R = decide (to < (m : Int))) := by show _ = _; rw [← HR.out]; simp [show 0 ≤ to from ht]
      clear HR
      go_enter Tryd.func17, Tryd.ntmps17
      go_wp2
      go_ret
      exact ⟨by rw [HZ.out]; rfl, HB.out⟩
    · have dt : decide (to ≥ 0) = false := decide_eq_false ht
      have HZ : Hid (R = false) := by show _ = _; rw [← HR.out]; simp [show ¬ 0 ≤ to from ht]
      clear HR
      go_enter Tryd.func17, Tryd.ntmps17
      go_wp2
      go_ret
      exact ⟨by rw [HZ.out]; rfl, HB.out⟩
  have k2 : (kind == 2) = false := by rw [beq_eq_false_iff_ne]; exact h2
  by_cases h3 : kind = 3
  · subst h3
    by_cases ht : to = 0
    · subst ht
      have HZ : Hid (R = e) := by show _ = _; rw [← HR.out]; simp
      clear HR
      go_enter Tryd.func17, Tryd.ntmps17
      go_wp2
      go_ret
      exact ⟨by rw [HZ.out]; rfl, HB.out⟩
    · have dt : (to == 0) = false := by rw [beq_eq_false_iff_ne]; exact ht
      have HZ : Hid (R = false) := by show _ = _; rw [← HR.out]; simp [ht]
      clear HR
      go_enter Tryd.func17, Tryd.ntmps17
      go_wp2
      go_ret
      exact ⟨by rw [HZ.out]; rfl, HB.out⟩
  have k3 : (kind == 3) = false := by rw [beq_eq_false_iff_ne]; exact h3
  by_cases h0 : kind = 0
  · subst h0
    have HZ : Hid (R = (to == 0)) := by show _ = _; rw [← HR.out]; rw [Bool.eq_iff_iff]; simp
    clear HR
    go_enter Tryd.func17, Tryd.ntmps17
    go_wp2
    go_ret
    exact ⟨by rw [HZ.out]; rfl, HB.out⟩
  have k0 : (kind == 0) = false := by rw [beq_eq_false_iff_ne]; exact h0
  have HZ : Hid (R = false) := by show _ = _; rw [← HR.out]; simp [h0, h1, h2, h3]
  clear HR
  go_enter Tryd.func17, Tryd.ntmps17
  go_wp2
  go_ret
  exact ⟨by rw [HZ.out]; rfl, HB.out⟩

end Go.Proofs.YtbdmjfapebdgjaaDoor
