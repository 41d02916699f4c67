/- The law: are two rows of numbers the same. -/
import Derived.Test.YtbdmjfapebdgjaaDoorGMem
namespace Go.Proofs.YtbdmjfapebdgjaaDoor
open Go.RowKit
set_option linter.unusedVariables false
set_option maxRecDepth 100000

set_option maxHeartbeats 2000000 in
theorem same_any (va vb : Value) (la lb : List Int) (w : World) (hz : la.length ≤ 1000000) (ha : IntsR w va la) (hb : IntsR w vb lb) :
    Calls Tryd.prog 14 #[va, vb] w fun e w' => e = .returned (.bool (decide (la = lb))) ∧ Below w.heap.size w w' := by
  obtain ⟨aa, ac, rfl⟩ := ha.slice
  obtain ⟨ba, bc, rfl⟩ := hb.slice
  by_cases h1 : la.length = lb.length
  · have HA : Hid (IntsR w (.slice aa la.length ac) la) := ha
    have HB : Hid (IntsR w (.slice ba lb.length bc) lb) := hb
    clear ha hb
    have HL : Hid (lb.length = la.length) := h1.symm
    rw [← h1] at HB ⊢
    clear h1
    generalize hn : la.length = n at *
    have HN : Hid (la.length = n) := hn
    clear hn
    go_enter Tryd.func14, Tryd.ntmps14
    go_wp2
    go_loopw [5] (fun i wr => ∃ k : Nat, k ≤ n ∧ i = .int .i64 k ∧ Hid ((la = lb) ↔ (la.drop k = lb.drop k)) ∧ Below w.heap.size w wr) (fun i _ => n - (intOf i).toNat)
    case atStart => exact ⟨0, Nat.zero_le _, rfl, (by show _ ↔ _; simp), Below.refl _ _⟩
    case round =>
      obtain ⟨k, hk, rfl, HM, hbw⟩ := hrel
      by_cases hlt : k < n
      · have hka : k < la.length := by rw [HN.out]; exact hlt
        have hkb : k < lb.length := by rw [HL.out]; exact hlt
        obtain ⟨b, off, rfl, hb, hc⟩ := (HA.out.below hbw).at hka
        obtain ⟨b', off', rfl, hb', hc'⟩ := (HB.out.below hbw).at hkb
        have HS : Hid ((la = lb) ↔ (la.getD k 0 = lb.getD k 0 ∧ la.drop (k + 1) = lb.drop (k + 1))) := by
          show _ ↔ _
          rw [HM.out, List.drop_eq_getElem_cons hka, List.drop_eq_getElem_cons hkb, List.cons.injEq]
          simp [List.getD, hka, hkb]
        clear HM hka hkb
        generalize la.getD k 0 = x at *
        generalize lb.getD k 0 = y at *
        by_cases g1 : x = y
        · subst g1
          have HS2 : Hid ((la = lb) ↔ la.drop (k + 1) = lb.drop (k + 1)) := by show _ ↔ _; rw [HS.out]; simp
          clear HS
          go_wp2_with fail
          go_quiet (fail)
          go_wp2
          go_roundw
          case rel => exact ⟨k + 1, by omega, by go_num, HS2, below_drewG hbw _⟩
          case measure => simp [intOf]; omega
        · have HS2 : Hid (decide (la = lb) = false) := by show _ = _; rw [decide_eq_false_iff_not, HS.out]; simp [g1]
          clear HS
          have g2 : (x == y) = false := by rw [beq_eq_false_iff_ne]; exact g1
          go_wp2_with fail
          go_quiet (fail)
          go_wp2
          go_ret
          exact ⟨by rw [HS2.out]; rfl, below_drewG hbw _⟩
      · have HS : Hid (decide (la = lb) = true) := by
          show _ = _; rw [decide_eq_true_iff, HM.out, List.drop_eq_nil_of_le (by rw [HN.out]; omega), List.drop_eq_nil_of_le (by rw [HL.out]; omega)]
        go_wp2
        go_ret
        exact ⟨by rw [HS.out]; rfl, hbw⟩
  · have HS : Hid (decide (la = lb) = false) := by show _ = _; rw [decide_eq_false_iff_not]; rintro rfl; exact h1 rfl
    have h1' : ¬ (la.length : Int) = (lb.length : Int) := by omega
    clear ha hb
    go_enter Tryd.func14, Tryd.ntmps14
    go_wp2
    go_ret
    exact ⟨by rw [HS.out]; rfl, Below.refl _ _⟩

end Go.Proofs.YtbdmjfapebdgjaaDoor
