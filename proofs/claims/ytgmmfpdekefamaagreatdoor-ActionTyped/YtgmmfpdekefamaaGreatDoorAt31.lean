/- Texts of the proof, put together: PShpB. -/
import Derived.Test.YtgmmfpdekefamaaGreatDoorAt30
namespace Go.Proofs.YtgmmfpdekefamaaGreatDoor
open Go.RowKit
set_option linter.unusedVariables false
set_option maxRecDepth 100000

set_option maxHeartbeats 16000000 in
theorem awell_any {w : World} {b n c : Nat} {a : Option Addr} {kind num : Int} {text : ByteArray} (hs : text.size ≤ 140737488351232) (HVd : Hid (Calls Tryz.prog 92 #[.string text] w fun e w' => e = .returned (.bool (whole text)) ∧ Below w.heap.size w w')) (c0 : w.cell? ⟨b, 0, none⟩ = some (.int .i64 kind)) (c1 : w.cell? ⟨b, 1, none⟩ = some (.int .i64 num)) (c2 : w.cell? ⟨b, 2, none⟩ = some (.string text)) (c3 : w.cell? ⟨b, 3, none⟩ = some (.slice a n c)) :
  Calls Tryz.prog 49 #[.pointer (some ⟨b, 0, none⟩)] w fun e w' => e = .returned (.bool (shapeB kind num text n)) ∧ Below w.heap.size w w' := by
 have H1 : Hid (∀ w, Calls Tryz.prog 93 #[.string text] w fun e w' => e = .returned (.bool (isNameB text)) ∧ w' = w) := fun w => aname_any text hs w
 have H3 : Hid (∀ w, Calls Tryz.prog 94 #[.string text] w fun e w' => e = .returned (.int .i64 (lvlP text.toList)) ∧ w' = w) := fun w => level_any text w
 have H4 : Hid (∀ w, Calls Tryz.prog 95 #[.string text] w fun e w' => e = .returned (.int .i64 (kidsL text.toList)) ∧ w' = w) := fun w => takes_any text w
 have H5 : Hid (∀ w, Calls Tryz.prog 91 #[.int .i64 num] w fun e w' => e = .returned (.bool (decide (num ≥ 1) && decide (num ≤ 20))) ∧ w' = w) := fun w => aplace_any num w
 have hlp : (lvlP text.toList != 5) = decide (lvlL text.toList ≥ 0) := lvlP_five _
 have hem := emptyL text
 by_cases k1 : kind = 1
 ·subst k1
  cases hnum : decide (num ≥ 0)
  ·have HV : Hid (shapeB 1 num text n = false) := by show _ = _; unfold shapeB; simp [hnum]
   clear hem
   go_enter Tryz.func49, Tryz.ntmps49
   go_wp2_with (first | (go_at_call 93; refine (H1.out _).mono ?_; rintro e w' ⟨rfl, hw⟩; obtain rfl := hw.symm; clear hw) | (go_at_call 94; refine (H3.out _).mono ?_; rintro e w' ⟨rfl, hw⟩; obtain rfl := hw.symm; clear hw) | (go_at_call 95; refine (H4.out _).mono ?_; rintro e w' ⟨rfl, hw⟩; obtain rfl := hw.symm; clear hw) | (go_at_call 91; refine (H5.out _).mono ?_; rintro e w' ⟨rfl, hw⟩; obtain rfl := hw.symm; clear hw) | (go_at_call 92; refine HVd.out.mono ?_; rintro e w9 ⟨rfl, hb9⟩))
   go_ret
   exact ⟨by rw [HV.out]; rfl, by first | exact hb9 | exact Below.refl _ _⟩
  ·cases hemp : (text.toList == [])
   ·rw [hemp] at hem
    have HV : Hid (shapeB 1 num text n = false) := by show _ = _; unfold shapeB; simp [hnum, hemp]
    clear hem
    go_enter Tryz.func49, Tryz.ntmps49
    go_wp2_with (first | (go_at_call 93; refine (H1.out _).mono ?_; rintro e w' ⟨rfl, hw⟩; obtain rfl := hw.symm; clear hw) | (go_at_call 94; refine (H3.out _).mono ?_; rintro e w' ⟨rfl, hw⟩; obtain rfl := hw.symm; clear hw) | (go_at_call 95; refine (H4.out _).mono ?_; rintro e w' ⟨rfl, hw⟩; obtain rfl := hw.symm; clear hw) | (go_at_call 91; refine (H5.out _).mono ?_; rintro e w' ⟨rfl, hw⟩; obtain rfl := hw.symm; clear hw) | (go_at_call 92; refine HVd.out.mono ?_; rintro e w9 ⟨rfl, hb9⟩))
    go_ret
    exact ⟨by rw [HV.out]; rfl, by first | exact hb9 | exact Below.refl _ _⟩
   ·rw [hemp] at hem
    cases hn : ((n : Int) == 0)
    ·have HV : Hid (shapeB 1 num text n = false) := by show _ = _; unfold shapeB; simp [hnum, hemp, hn]
     clear hem
     go_enter Tryz.func49, Tryz.ntmps49
     go_wp2_with (first | (go_at_call 93; refine (H1.out _).mono ?_; rintro e w' ⟨rfl, hw⟩; obtain rfl := hw.symm; clear hw) | (go_at_call 94; refine (H3.out _).mono ?_; rintro e w' ⟨rfl, hw⟩; obtain rfl := hw.symm; clear hw) | (go_at_call 95; refine (H4.out _).mono ?_; rintro e w' ⟨rfl, hw⟩; obtain rfl := hw.symm; clear hw) | (go_at_call 91; refine (H5.out _).mono ?_; rintro e w' ⟨rfl, hw⟩; obtain rfl := hw.symm; clear hw) | (go_at_call 92; refine HVd.out.mono ?_; rintro e w9 ⟨rfl, hb9⟩))
     go_ret
     exact ⟨by rw [HV.out]; rfl, by first | exact hb9 | exact Below.refl _ _⟩
    ·have HV : Hid (shapeB 1 num text n = true) := by show _ = _; unfold shapeB; simp [hnum, hemp, hn]
     clear hem
     go_enter Tryz.func49, Tryz.ntmps49
     go_wp2_with (first | (go_at_call 93; refine (H1.out _).mono ?_; rintro e w' ⟨rfl, hw⟩; obtain rfl := hw.symm; clear hw) | (go_at_call 94; refine (H3.out _).mono ?_; rintro e w' ⟨rfl, hw⟩; obtain rfl := hw.symm; clear hw) | (go_at_call 95; refine (H4.out _).mono ?_; rintro e w' ⟨rfl, hw⟩; obtain rfl := hw.symm; clear hw) | (go_at_call 91; refine (H5.out _).mono ?_; rintro e w' ⟨rfl, hw⟩; obtain rfl := hw.symm; clear hw) | (go_at_call 92; refine HVd.out.mono ?_; rintro e w9 ⟨rfl, hb9⟩))
     go_ret
     exact ⟨by rw [HV.out]; rfl, by first | exact hb9 | exact Below.refl _ _⟩
 by_cases k3 : kind = 3
 ·subst k3
  cases hnum : decide (num ≥ 1)
  ·rw [hnum] at H5
   have HV : Hid (shapeB 3 num text n = false) := by show _ = _; unfold shapeB; simp [hnum]
   clear hem
   go_enter Tryz.func49, Tryz.ntmps49
   go_wp2_with (first | (go_at_call 93; refine (H1.out _).mono ?_; rintro e w' ⟨rfl, hw⟩; obtain rfl := hw.symm; clear hw) | (go_at_call 94; refine (H3.out _).mono ?_; rintro e w' ⟨rfl, hw⟩; obtain rfl := hw.symm; clear hw) | (go_at_call 95; refine (H4.out _).mono ?_; rintro e w' ⟨rfl, hw⟩; obtain rfl := hw.symm; clear hw) | (go_at_call 91; refine (H5.out _).mono ?_; rintro e w' ⟨rfl, hw⟩; obtain rfl := hw.symm; clear hw) | (go_at_call 92; refine HVd.out.mono ?_; rintro e w9 ⟨rfl, hb9⟩))
   go_ret
   exact ⟨by rw [HV.out]; rfl, by first | exact hb9 | exact Below.refl _ _⟩
  ·cases hnum2 : decide (num ≤ 20)
   ·rw [hnum, hnum2] at H5
    have HV : Hid (shapeB 3 num text n = false) := by show _ = _; unfold shapeB; simp [hnum, hnum2]
    clear hem
    go_enter Tryz.func49, Tryz.ntmps49
    go_wp2_with (first | (go_at_call 93; refine (H1.out _).mono ?_; rintro e w' ⟨rfl, hw⟩; obtain rfl := hw.symm; clear hw) | (go_at_call 94; refine (H3.out _).mono ?_; rintro e w' ⟨rfl, hw⟩; obtain rfl := hw.symm; clear hw) | (go_at_call 95; refine (H4.out _).mono ?_; rintro e w' ⟨rfl, hw⟩; obtain rfl := hw.symm; clear hw) | (go_at_call 91; refine (H5.out _).mono ?_; rintro e w' ⟨rfl, hw⟩; obtain rfl := hw.symm; clear hw) | (go_at_call 92; refine HVd.out.mono ?_; rintro e w9 ⟨rfl, hb9⟩))
    go_ret
    exact ⟨by rw [HV.out]; rfl, by first | exact hb9 | exact Below.refl _ _⟩
   ·rw [hnum, hnum2] at H5
    cases hemp : (text.toList == [])
    ·rw [hemp] at hem
     have HV : Hid (shapeB 3 num text n = false) := by show _ = _; unfold shapeB; simp [hnum, hnum2, hemp]
     clear hem
     go_enter Tryz.func49, Tryz.ntmps49
     go_wp2_with (first | (go_at_call 93; refine (H1.out _).mono ?_; rintro e w' ⟨rfl, hw⟩; obtain rfl := hw.symm; clear hw) | (go_at_call 94; refine (H3.out _).mono ?_; rintro e w' ⟨rfl, hw⟩; obtain rfl := hw.symm; clear hw) | (go_at_call 95; refine (H4.out _).mono ?_; rintro e w' ⟨rfl, hw⟩; obtain rfl := hw.symm; clear hw) | (go_at_call 91; refine (H5.out _).mono ?_; rintro e w' ⟨rfl, hw⟩; obtain rfl := hw.symm; clear hw) | (go_at_call 92; refine HVd.out.mono ?_; rintro e w9 ⟨rfl, hb9⟩))
     go_ret
     exact ⟨by rw [HV.out]; rfl, by first | exact hb9 | exact Below.refl _ _⟩
    ·rw [hemp] at hem
     cases hn : ((n : Int) == 0)
     ·have HV : Hid (shapeB 3 num text n = false) := by show _ = _; unfold shapeB; simp [hnum, hnum2, hemp, hn]
      clear hem
      go_enter Tryz.func49, Tryz.ntmps49
      go_wp2_with (first | (go_at_call 93; refine (H1.out _).mono ?_; rintro e w' ⟨rfl, hw⟩; obtain rfl := hw.symm; clear hw) | (go_at_call 94; refine (H3.out _).mono ?_; rintro e w' ⟨rfl, hw⟩; obtain rfl := hw.symm; clear hw) | (go_at_call 95; refine (H4.out _).mono ?_; rintro e w' ⟨rfl, hw⟩; obtain rfl := hw.symm; clear hw) | (go_at_call 91; refine (H5.out _).mono ?_; rintro e w' ⟨rfl, hw⟩; obtain rfl := hw.symm; clear hw) | (go_at_call 92; refine HVd.out.mono ?_; rintro e w9 ⟨rfl, hb9⟩))
      go_ret
      exact ⟨by rw [HV.out]; rfl, by first | exact hb9 | exact Below.refl _ _⟩
     ·have HV : Hid (shapeB 3 num text n = true) := by show _ = _; unfold shapeB; simp [hnum, hnum2, hemp, hn]
      clear hem
      go_enter Tryz.func49, Tryz.ntmps49
      go_wp2_with (first | (go_at_call 93; refine (H1.out _).mono ?_; rintro e w' ⟨rfl, hw⟩; obtain rfl := hw.symm; clear hw) | (go_at_call 94; refine (H3.out _).mono ?_; rintro e w' ⟨rfl, hw⟩; obtain rfl := hw.symm; clear hw) | (go_at_call 95; refine (H4.out _).mono ?_; rintro e w' ⟨rfl, hw⟩; obtain rfl := hw.symm; clear hw) | (go_at_call 91; refine (H5.out _).mono ?_; rintro e w' ⟨rfl, hw⟩; obtain rfl := hw.symm; clear hw) | (go_at_call 92; refine HVd.out.mono ?_; rintro e w9 ⟨rfl, hb9⟩))
      go_ret
      exact ⟨by rw [HV.out]; rfl, by first | exact hb9 | exact Below.refl _ _⟩
 have e1 : (kind == 1) = false := by rw [beq_eq_false_iff_ne]; exact k1
 have e3 : (kind == 3) = false := by rw [beq_eq_false_iff_ne]; exact k3
 cases hn0 : (num != 0)
 rotate_left
 ·have HV : Hid (shapeB kind num text n = false) := by show _ = _; unfold shapeB; simp [k1, k3, hn0]
  clear hem
  go_enter Tryz.func49, Tryz.ntmps49
  go_wp2_with (first | (go_at_call 93; refine (H1.out _).mono ?_; rintro e w' ⟨rfl, hw⟩; obtain rfl := hw.symm; clear hw) | (go_at_call 94; refine (H3.out _).mono ?_; rintro e w' ⟨rfl, hw⟩; obtain rfl := hw.symm; clear hw) | (go_at_call 95; refine (H4.out _).mono ?_; rintro e w' ⟨rfl, hw⟩; obtain rfl := hw.symm; clear hw) | (go_at_call 91; refine (H5.out _).mono ?_; rintro e w' ⟨rfl, hw⟩; obtain rfl := hw.symm; clear hw) | (go_at_call 92; refine HVd.out.mono ?_; rintro e w9 ⟨rfl, hb9⟩))
  go_ret
  exact ⟨by rw [HV.out]; rfl, by first | exact hb9 | exact Below.refl _ _⟩
 by_cases k2 : kind = 2
 ·subst k2
  cases hsz : decide ((text.size : Int) ≤ 200)
  ·have HV : Hid (shapeB 2 num text n = false) := by show _ = _; unfold shapeB; simp [hn0, hsz]
   clear hem
   go_enter Tryz.func49, Tryz.ntmps49
   go_wp2_with (first | (go_at_call 93; refine (H1.out _).mono ?_; rintro e w' ⟨rfl, hw⟩; obtain rfl := hw.symm; clear hw) | (go_at_call 94; refine (H3.out _).mono ?_; rintro e w' ⟨rfl, hw⟩; obtain rfl := hw.symm; clear hw) | (go_at_call 95; refine (H4.out _).mono ?_; rintro e w' ⟨rfl, hw⟩; obtain rfl := hw.symm; clear hw) | (go_at_call 91; refine (H5.out _).mono ?_; rintro e w' ⟨rfl, hw⟩; obtain rfl := hw.symm; clear hw) | (go_at_call 92; refine HVd.out.mono ?_; rintro e w9 ⟨rfl, hb9⟩))
   go_ret
   exact ⟨by rw [HV.out]; rfl, by first | exact hb9 | exact Below.refl _ _⟩
  ·cases hw : whole text
   ·rw [hw] at HVd
    have HV : Hid (shapeB 2 num text n = false) := by show _ = _; unfold shapeB; simp [hn0, hsz, hw]
    clear hem
    go_enter Tryz.func49, Tryz.ntmps49
    go_wp2_with (first | (go_at_call 93; refine (H1.out _).mono ?_; rintro e w' ⟨rfl, hw⟩; obtain rfl := hw.symm; clear hw) | (go_at_call 94; refine (H3.out _).mono ?_; rintro e w' ⟨rfl, hw⟩; obtain rfl := hw.symm; clear hw) | (go_at_call 95; refine (H4.out _).mono ?_; rintro e w' ⟨rfl, hw⟩; obtain rfl := hw.symm; clear hw) | (go_at_call 91; refine (H5.out _).mono ?_; rintro e w' ⟨rfl, hw⟩; obtain rfl := hw.symm; clear hw) | (go_at_call 92; refine HVd.out.mono ?_; rintro e w9 ⟨rfl, hb9⟩))
    go_ret
    exact ⟨by rw [HV.out]; rfl, by first | exact hb9 | exact Below.refl _ _⟩
   ·rw [hw] at HVd
    cases hn : ((n : Int) == 0)
    ·have HV : Hid (shapeB 2 num text n = false) := by show _ = _; unfold shapeB; simp [hn0, hsz, hw, hn]
     clear hem
     go_enter Tryz.func49, Tryz.ntmps49
     go_wp2_with (first | (go_at_call 93; refine (H1.out _).mono ?_; rintro e w' ⟨rfl, hw⟩; obtain rfl := hw.symm; clear hw) | (go_at_call 94; refine (H3.out _).mono ?_; rintro e w' ⟨rfl, hw⟩; obtain rfl := hw.symm; clear hw) | (go_at_call 95; refine (H4.out _).mono ?_; rintro e w' ⟨rfl, hw⟩; obtain rfl := hw.symm; clear hw) | (go_at_call 91; refine (H5.out _).mono ?_; rintro e w' ⟨rfl, hw⟩; obtain rfl := hw.symm; clear hw) | (go_at_call 92; refine HVd.out.mono ?_; rintro e w9 ⟨rfl, hb9⟩))
     go_ret
     exact ⟨by rw [HV.out]; rfl, by first | exact hb9 | exact Below.refl _ _⟩
    ·have HV : Hid (shapeB 2 num text n = true) := by show _ = _; unfold shapeB; simp [hn0, hsz, hw, hn]
     clear hem
     go_enter Tryz.func49, Tryz.ntmps49
     go_wp2_with (first | (go_at_call 93; refine (H1.out _).mono ?_; rintro e w' ⟨rfl, hw⟩; obtain rfl := hw.symm; clear hw) | (go_at_call 94; refine (H3.out _).mono ?_; rintro e w' ⟨rfl, hw⟩; obtain rfl := hw.symm; clear hw) | (go_at_call 95; refine (H4.out _).mono ?_; rintro e w' ⟨rfl, hw⟩; obtain rfl := hw.symm; clear hw) | (go_at_call 91; refine (H5.out _).mono ?_; rintro e w' ⟨rfl, hw⟩; obtain rfl := hw.symm; clear hw) | (go_at_call 92; refine HVd.out.mono ?_; rintro e w9 ⟨rfl, hb9⟩))
     go_ret
     exact ⟨by rw [HV.out]; rfl, by first | exact hb9 | exact Below.refl _ _⟩
 by_cases k4 : kind = 4
 ·subst k4
  cases hnm : isNameB text
  ·have HV : Hid (shapeB 4 num text n = false) := by show _ = _; unfold shapeB; simp [hn0, hnm]
   clear hem
   go_enter Tryz.func49, Tryz.ntmps49
   go_wp2_with (first | (go_at_call 93; refine (H1.out _).mono ?_; rintro e w' ⟨rfl, hw⟩; obtain rfl := hw.symm; clear hw) | (go_at_call 94; refine (H3.out _).mono ?_; rintro e w' ⟨rfl, hw⟩; obtain rfl := hw.symm; clear hw) | (go_at_call 95; refine (H4.out _).mono ?_; rintro e w' ⟨rfl, hw⟩; obtain rfl := hw.symm; clear hw) | (go_at_call 91; refine (H5.out _).mono ?_; rintro e w' ⟨rfl, hw⟩; obtain rfl := hw.symm; clear hw) | (go_at_call 92; refine HVd.out.mono ?_; rintro e w9 ⟨rfl, hb9⟩))
   go_ret
   exact ⟨by rw [HV.out]; rfl, by first | exact hb9 | exact Below.refl _ _⟩
  ·cases hn : ((n : Int) == 0)
   ·have HV : Hid (shapeB 4 num text n = false) := by show _ = _; unfold shapeB; simp [hn0, hnm, hn]
    clear hem
    go_enter Tryz.func49, Tryz.ntmps49
    go_wp2_with (first | (go_at_call 93; refine (H1.out _).mono ?_; rintro e w' ⟨rfl, hw⟩; obtain rfl := hw.symm; clear hw) | (go_at_call 94; refine (H3.out _).mono ?_; rintro e w' ⟨rfl, hw⟩; obtain rfl := hw.symm; clear hw) | (go_at_call 95; refine (H4.out _).mono ?_; rintro e w' ⟨rfl, hw⟩; obtain rfl := hw.symm; clear hw) | (go_at_call 91; refine (H5.out _).mono ?_; rintro e w' ⟨rfl, hw⟩; obtain rfl := hw.symm; clear hw) | (go_at_call 92; refine HVd.out.mono ?_; rintro e w9 ⟨rfl, hb9⟩))
    go_ret
    exact ⟨by rw [HV.out]; rfl, by first | exact hb9 | exact Below.refl _ _⟩
   ·have HV : Hid (shapeB 4 num text n = true) := by show _ = _; unfold shapeB; simp [hn0, hnm, hn]
    clear hem
    go_enter Tryz.func49, Tryz.ntmps49
    go_wp2_with (first | (go_at_call 93; refine (H1.out _).mono ?_; rintro e w' ⟨rfl, hw⟩; obtain rfl := hw.symm; clear hw) | (go_at_call 94; refine (H3.out _).mono ?_; rintro e w' ⟨rfl, hw⟩; obtain rfl := hw.symm; clear hw) | (go_at_call 95; refine (H4.out _).mono ?_; rintro e w' ⟨rfl, hw⟩; obtain rfl := hw.symm; clear hw) | (go_at_call 91; refine (H5.out _).mono ?_; rintro e w' ⟨rfl, hw⟩; obtain rfl := hw.symm; clear hw) | (go_at_call 92; refine HVd.out.mono ?_; rintro e w9 ⟨rfl, hb9⟩))
    go_ret
    exact ⟨by rw [HV.out]; rfl, by first | exact hb9 | exact Below.refl _ _⟩
 by_cases k5 : kind = 5
 ·subst k5
  cases hnm : isNameB text
  ·have HV : Hid (shapeB 5 num text n = false) := by show _ = _; unfold shapeB; simp [hn0, hnm]
   clear hem
   go_enter Tryz.func49, Tryz.ntmps49
   go_wp2_with (first | (go_at_call 93; refine (H1.out _).mono ?_; rintro e w' ⟨rfl, hw⟩; obtain rfl := hw.symm; clear hw) | (go_at_call 94; refine (H3.out _).mono ?_; rintro e w' ⟨rfl, hw⟩; obtain rfl := hw.symm; clear hw) | (go_at_call 95; refine (H4.out _).mono ?_; rintro e w' ⟨rfl, hw⟩; obtain rfl := hw.symm; clear hw) | (go_at_call 91; refine (H5.out _).mono ?_; rintro e w' ⟨rfl, hw⟩; obtain rfl := hw.symm; clear hw) | (go_at_call 92; refine HVd.out.mono ?_; rintro e w9 ⟨rfl, hb9⟩))
   go_ret
   exact ⟨by rw [HV.out]; rfl, by first | exact hb9 | exact Below.refl _ _⟩
  ·cases hn : ((n : Int) == 2)
   ·have HV : Hid (shapeB 5 num text n = false) := by show _ = _; unfold shapeB; simp [hn0, hnm, hn]
    clear hem
    go_enter Tryz.func49, Tryz.ntmps49
    go_wp2_with (first | (go_at_call 93; refine (H1.out _).mono ?_; rintro e w' ⟨rfl, hw⟩; obtain rfl := hw.symm; clear hw) | (go_at_call 94; refine (H3.out _).mono ?_; rintro e w' ⟨rfl, hw⟩; obtain rfl := hw.symm; clear hw) | (go_at_call 95; refine (H4.out _).mono ?_; rintro e w' ⟨rfl, hw⟩; obtain rfl := hw.symm; clear hw) | (go_at_call 91; refine (H5.out _).mono ?_; rintro e w' ⟨rfl, hw⟩; obtain rfl := hw.symm; clear hw) | (go_at_call 92; refine HVd.out.mono ?_; rintro e w9 ⟨rfl, hb9⟩))
    go_ret
    exact ⟨by rw [HV.out]; rfl, by first | exact hb9 | exact Below.refl _ _⟩
   ·have HV : Hid (shapeB 5 num text n = true) := by show _ = _; unfold shapeB; simp [hn0, hnm, hn]
    clear hem
    go_enter Tryz.func49, Tryz.ntmps49
    go_wp2_with (first | (go_at_call 93; refine (H1.out _).mono ?_; rintro e w' ⟨rfl, hw⟩; obtain rfl := hw.symm; clear hw) | (go_at_call 94; refine (H3.out _).mono ?_; rintro e w' ⟨rfl, hw⟩; obtain rfl := hw.symm; clear hw) | (go_at_call 95; refine (H4.out _).mono ?_; rintro e w' ⟨rfl, hw⟩; obtain rfl := hw.symm; clear hw) | (go_at_call 91; refine (H5.out _).mono ?_; rintro e w' ⟨rfl, hw⟩; obtain rfl := hw.symm; clear hw) | (go_at_call 92; refine HVd.out.mono ?_; rintro e w9 ⟨rfl, hb9⟩))
    go_ret
    exact ⟨by rw [HV.out]; rfl, by first | exact hb9 | exact Below.refl _ _⟩
 by_cases k7 : kind = 7
 ·subst k7
  cases hlv : decide (lvlL text.toList ≥ 0)
  ·rw [hlv] at hlp
   have HV : Hid (shapeB 7 num text n = false) := by show _ = _; unfold shapeB; simp [hn0, hlv]
   clear hem
   go_enter Tryz.func49, Tryz.ntmps49
   go_wp2_with (first | (go_at_call 93; refine (H1.out _).mono ?_; rintro e w' ⟨rfl, hw⟩; obtain rfl := hw.symm; clear hw) | (go_at_call 94; refine (H3.out _).mono ?_; rintro e w' ⟨rfl, hw⟩; obtain rfl := hw.symm; clear hw) | (go_at_call 95; refine (H4.out _).mono ?_; rintro e w' ⟨rfl, hw⟩; obtain rfl := hw.symm; clear hw) | (go_at_call 91; refine (H5.out _).mono ?_; rintro e w' ⟨rfl, hw⟩; obtain rfl := hw.symm; clear hw) | (go_at_call 92; refine HVd.out.mono ?_; rintro e w9 ⟨rfl, hb9⟩))
   go_ret
   exact ⟨by rw [HV.out]; rfl, by first | exact hb9 | exact Below.refl _ _⟩
  ·rw [hlv] at hlp
   cases hn : ((n : Int) == 2)
   ·have HV : Hid (shapeB 7 num text n = false) := by show _ = _; unfold shapeB; simp [hn0, hlv, hn]
    clear hem
    go_enter Tryz.func49, Tryz.ntmps49
    go_wp2_with (first | (go_at_call 93; refine (H1.out _).mono ?_; rintro e w' ⟨rfl, hw⟩; obtain rfl := hw.symm; clear hw) | (go_at_call 94; refine (H3.out _).mono ?_; rintro e w' ⟨rfl, hw⟩; obtain rfl := hw.symm; clear hw) | (go_at_call 95; refine (H4.out _).mono ?_; rintro e w' ⟨rfl, hw⟩; obtain rfl := hw.symm; clear hw) | (go_at_call 91; refine (H5.out _).mono ?_; rintro e w' ⟨rfl, hw⟩; obtain rfl := hw.symm; clear hw) | (go_at_call 92; refine HVd.out.mono ?_; rintro e w9 ⟨rfl, hb9⟩))
    go_ret
    exact ⟨by rw [HV.out]; rfl, by first | exact hb9 | exact Below.refl _ _⟩
   ·have HV : Hid (shapeB 7 num text n = true) := by show _ = _; unfold shapeB; simp [hn0, hlv, hn]
    clear hem
    go_enter Tryz.func49, Tryz.ntmps49
    go_wp2_with (first | (go_at_call 93; refine (H1.out _).mono ?_; rintro e w' ⟨rfl, hw⟩; obtain rfl := hw.symm; clear hw) | (go_at_call 94; refine (H3.out _).mono ?_; rintro e w' ⟨rfl, hw⟩; obtain rfl := hw.symm; clear hw) | (go_at_call 95; refine (H4.out _).mono ?_; rintro e w' ⟨rfl, hw⟩; obtain rfl := hw.symm; clear hw) | (go_at_call 91; refine (H5.out _).mono ?_; rintro e w' ⟨rfl, hw⟩; obtain rfl := hw.symm; clear hw) | (go_at_call 92; refine HVd.out.mono ?_; rintro e w9 ⟨rfl, hb9⟩))
    go_ret
    exact ⟨by rw [HV.out]; rfl, by first | exact hb9 | exact Below.refl _ _⟩
 by_cases k10 : kind = 10
 ·subst k10
  rcases Nat.eq_zero_or_pos n with rfl | hnp
  ·have HV : Hid (shapeB 10 num text ((0 : Nat) : Int) = false) := by
    show _ = _
    unfold shapeB
    have hq : (decide (kidsL text.toList > 0) && (((0 : Nat) : Int) == kidsL text.toList)) = false := by
     cases h1 : decide (kidsL text.toList > 0) with
     | false => rfl
     | true => rw [decide_eq_true_eq] at h1; rw [Bool.true_and, beq_eq_false_iff_ne]; omega
    simp only [hn0, hq, show ((10 : Int) = 1) = False from by simp, show ((10 : Int) = 3) = False from by simp, show ((10 : Int) = 2) = False from by simp, show ((10 : Int) = 4) = False from by simp, show ((10 : Int) = 5) = False from by simp, show ((10 : Int) = 7) = False from by simp, if_false, if_true, Bool.false_eq_true]
   clear hem
   go_enter Tryz.func49, Tryz.ntmps49
   go_wp2_with (first | (go_at_call 93; refine (H1.out _).mono ?_; rintro e w' ⟨rfl, hw⟩; obtain rfl := hw.symm; clear hw) | (go_at_call 94; refine (H3.out _).mono ?_; rintro e w' ⟨rfl, hw⟩; obtain rfl := hw.symm; clear hw) | (go_at_call 95; refine (H4.out _).mono ?_; rintro e w' ⟨rfl, hw⟩; obtain rfl := hw.symm; clear hw) | (go_at_call 91; refine (H5.out _).mono ?_; rintro e w' ⟨rfl, hw⟩; obtain rfl := hw.symm; clear hw) | (go_at_call 92; refine HVd.out.mono ?_; rintro e w9 ⟨rfl, hb9⟩))
   go_ret
   exact ⟨by rw [HV.out]; rfl, by first | exact hb9 | exact Below.refl _ _⟩
  ·have hnd : decide ((n : Int) > 0) = true := decide_eq_true (by omega)
   cases hn : ((n : Int) == kidsL text.toList)
   ·have HV : Hid (shapeB 10 num text n = false) := by show _ = _; unfold shapeB; simp [hn0, hn]
    clear hem
    go_enter Tryz.func49, Tryz.ntmps49
    go_wp2_with (first | (go_at_call 93; refine (H1.out _).mono ?_; rintro e w' ⟨rfl, hw⟩; obtain rfl := hw.symm; clear hw) | (go_at_call 94; refine (H3.out _).mono ?_; rintro e w' ⟨rfl, hw⟩; obtain rfl := hw.symm; clear hw) | (go_at_call 95; refine (H4.out _).mono ?_; rintro e w' ⟨rfl, hw⟩; obtain rfl := hw.symm; clear hw) | (go_at_call 91; refine (H5.out _).mono ?_; rintro e w' ⟨rfl, hw⟩; obtain rfl := hw.symm; clear hw) | (go_at_call 92; refine HVd.out.mono ?_; rintro e w9 ⟨rfl, hb9⟩))
    go_ret
    exact ⟨by rw [HV.out]; rfl, by first | exact hb9 | exact Below.refl _ _⟩
   ·have hkd : decide (kidsL text.toList > 0) = true := by rw [beq_iff_eq] at hn; exact decide_eq_true (by omega)
    have HV : Hid (shapeB 10 num text n = true) := by show _ = _; unfold shapeB; simp [hn0, hkd, hn]
    clear hem hkd
    go_enter Tryz.func49, Tryz.ntmps49
    go_wp2_with (first | (go_at_call 93; refine (H1.out _).mono ?_; rintro e w' ⟨rfl, hw⟩; obtain rfl := hw.symm; clear hw) | (go_at_call 94; refine (H3.out _).mono ?_; rintro e w' ⟨rfl, hw⟩; obtain rfl := hw.symm; clear hw) | (go_at_call 95; refine (H4.out _).mono ?_; rintro e w' ⟨rfl, hw⟩; obtain rfl := hw.symm; clear hw) | (go_at_call 91; refine (H5.out _).mono ?_; rintro e w' ⟨rfl, hw⟩; obtain rfl := hw.symm; clear hw) | (go_at_call 92; refine HVd.out.mono ?_; rintro e w9 ⟨rfl, hb9⟩))
    go_ret
    exact ⟨by rw [HV.out]; rfl, by first | exact hb9 | exact Below.refl _ _⟩
 by_cases k6 : kind = 6
 ·subst k6
  cases hemp : (text.toList == [])
  ·rw [hemp] at hem
   have HV : Hid (shapeB 6 num text n = false) := by show _ = _; unfold shapeB; simp [hn0, hemp]
   clear hem
   go_enter Tryz.func49, Tryz.ntmps49
   go_wp2_with (first | (go_at_call 93; refine (H1.out _).mono ?_; rintro e w' ⟨rfl, hw⟩; obtain rfl := hw.symm; clear hw) | (go_at_call 94; refine (H3.out _).mono ?_; rintro e w' ⟨rfl, hw⟩; obtain rfl := hw.symm; clear hw) | (go_at_call 95; refine (H4.out _).mono ?_; rintro e w' ⟨rfl, hw⟩; obtain rfl := hw.symm; clear hw) | (go_at_call 91; refine (H5.out _).mono ?_; rintro e w' ⟨rfl, hw⟩; obtain rfl := hw.symm; clear hw) | (go_at_call 92; refine HVd.out.mono ?_; rintro e w9 ⟨rfl, hb9⟩))
   go_ret
   exact ⟨by rw [HV.out]; rfl, by first | exact hb9 | exact Below.refl _ _⟩
  ·rw [hemp] at hem
   cases hn : ((n : Int) == 3)
   ·have HV : Hid (shapeB 6 num text n = false) := by show _ = _; unfold shapeB; simp [hn0, hemp, hn]
    clear hem
    go_enter Tryz.func49, Tryz.ntmps49
    go_wp2_with (first | (go_at_call 93; refine (H1.out _).mono ?_; rintro e w' ⟨rfl, hw⟩; obtain rfl := hw.symm; clear hw) | (go_at_call 94; refine (H3.out _).mono ?_; rintro e w' ⟨rfl, hw⟩; obtain rfl := hw.symm; clear hw) | (go_at_call 95; refine (H4.out _).mono ?_; rintro e w' ⟨rfl, hw⟩; obtain rfl := hw.symm; clear hw) | (go_at_call 91; refine (H5.out _).mono ?_; rintro e w' ⟨rfl, hw⟩; obtain rfl := hw.symm; clear hw) | (go_at_call 92; refine HVd.out.mono ?_; rintro e w9 ⟨rfl, hb9⟩))
    go_ret
    exact ⟨by rw [HV.out]; rfl, by first | exact hb9 | exact Below.refl _ _⟩
   ·have HV : Hid (shapeB 6 num text n = true) := by show _ = _; unfold shapeB; simp [hn0, hemp, hn]
    clear hem
    go_enter Tryz.func49, Tryz.ntmps49
    go_wp2_with (first | (go_at_call 93; refine (H1.out _).mono ?_; rintro e w' ⟨rfl, hw⟩; obtain rfl := hw.symm; clear hw) | (go_at_call 94; refine (H3.out _).mono ?_; rintro e w' ⟨rfl, hw⟩; obtain rfl := hw.symm; clear hw) | (go_at_call 95; refine (H4.out _).mono ?_; rintro e w' ⟨rfl, hw⟩; obtain rfl := hw.symm; clear hw) | (go_at_call 91; refine (H5.out _).mono ?_; rintro e w' ⟨rfl, hw⟩; obtain rfl := hw.symm; clear hw) | (go_at_call 92; refine HVd.out.mono ?_; rintro e w9 ⟨rfl, hb9⟩))
    go_ret
    exact ⟨by rw [HV.out]; rfl, by first | exact hb9 | exact Below.refl _ _⟩
 by_cases k8 : kind = 8
 ·subst k8
  cases hemp : (text.toList == [])
  ·rw [hemp] at hem
   have HV : Hid (shapeB 8 num text n = false) := by show _ = _; unfold shapeB; simp [hn0, hemp]
   clear hem
   go_enter Tryz.func49, Tryz.ntmps49
   go_wp2_with (first | (go_at_call 93; refine (H1.out _).mono ?_; rintro e w' ⟨rfl, hw⟩; obtain rfl := hw.symm; clear hw) | (go_at_call 94; refine (H3.out _).mono ?_; rintro e w' ⟨rfl, hw⟩; obtain rfl := hw.symm; clear hw) | (go_at_call 95; refine (H4.out _).mono ?_; rintro e w' ⟨rfl, hw⟩; obtain rfl := hw.symm; clear hw) | (go_at_call 91; refine (H5.out _).mono ?_; rintro e w' ⟨rfl, hw⟩; obtain rfl := hw.symm; clear hw) | (go_at_call 92; refine HVd.out.mono ?_; rintro e w9 ⟨rfl, hb9⟩))
   go_ret
   exact ⟨by rw [HV.out]; rfl, by first | exact hb9 | exact Below.refl _ _⟩
  ·rw [hemp] at hem
   cases hn : ((n : Int) == 1)
   ·have HV : Hid (shapeB 8 num text n = false) := by show _ = _; unfold shapeB; simp [hn0, hemp, hn]
    clear hem
    go_enter Tryz.func49, Tryz.ntmps49
    go_wp2_with (first | (go_at_call 93; refine (H1.out _).mono ?_; rintro e w' ⟨rfl, hw⟩; obtain rfl := hw.symm; clear hw) | (go_at_call 94; refine (H3.out _).mono ?_; rintro e w' ⟨rfl, hw⟩; obtain rfl := hw.symm; clear hw) | (go_at_call 95; refine (H4.out _).mono ?_; rintro e w' ⟨rfl, hw⟩; obtain rfl := hw.symm; clear hw) | (go_at_call 91; refine (H5.out _).mono ?_; rintro e w' ⟨rfl, hw⟩; obtain rfl := hw.symm; clear hw) | (go_at_call 92; refine HVd.out.mono ?_; rintro e w9 ⟨rfl, hb9⟩))
    go_ret
    exact ⟨by rw [HV.out]; rfl, by first | exact hb9 | exact Below.refl _ _⟩
   ·have HV : Hid (shapeB 8 num text n = true) := by show _ = _; unfold shapeB; simp [hn0, hemp, hn]
    clear hem
    go_enter Tryz.func49, Tryz.ntmps49
    go_wp2_with (first | (go_at_call 93; refine (H1.out _).mono ?_; rintro e w' ⟨rfl, hw⟩; obtain rfl := hw.symm; clear hw) | (go_at_call 94; refine (H3.out _).mono ?_; rintro e w' ⟨rfl, hw⟩; obtain rfl := hw.symm; clear hw) | (go_at_call 95; refine (H4.out _).mono ?_; rintro e w' ⟨rfl, hw⟩; obtain rfl := hw.symm; clear hw) | (go_at_call 91; refine (H5.out _).mono ?_; rintro e w' ⟨rfl, hw⟩; obtain rfl := hw.symm; clear hw) | (go_at_call 92; refine HVd.out.mono ?_; rintro e w9 ⟨rfl, hb9⟩))
    go_ret
    exact ⟨by rw [HV.out]; rfl, by first | exact hb9 | exact Below.refl _ _⟩
 by_cases k9 : kind = 9
 ·subst k9
  cases hemp : (text.toList == [])
  ·rw [hemp] at hem
   have HV : Hid (shapeB 9 num text n = false) := by show _ = _; unfold shapeB; simp [hn0, hemp]
   clear hem
   go_enter Tryz.func49, Tryz.ntmps49
   go_wp2_with (first | (go_at_call 93; refine (H1.out _).mono ?_; rintro e w' ⟨rfl, hw⟩; obtain rfl := hw.symm; clear hw) | (go_at_call 94; refine (H3.out _).mono ?_; rintro e w' ⟨rfl, hw⟩; obtain rfl := hw.symm; clear hw) | (go_at_call 95; refine (H4.out _).mono ?_; rintro e w' ⟨rfl, hw⟩; obtain rfl := hw.symm; clear hw) | (go_at_call 91; refine (H5.out _).mono ?_; rintro e w' ⟨rfl, hw⟩; obtain rfl := hw.symm; clear hw) | (go_at_call 92; refine HVd.out.mono ?_; rintro e w9 ⟨rfl, hb9⟩))
   go_ret
   exact ⟨by rw [HV.out]; rfl, by first | exact hb9 | exact Below.refl _ _⟩
  ·rw [hemp] at hem
   have HV : Hid (shapeB 9 num text n = true) := by show _ = _; unfold shapeB; simp [hn0, hemp]
   clear hem
   go_enter Tryz.func49, Tryz.ntmps49
   go_wp2_with (first | (go_at_call 93; refine (H1.out _).mono ?_; rintro e w' ⟨rfl, hw⟩; obtain rfl := hw.symm; clear hw) | (go_at_call 94; refine (H3.out _).mono ?_; rintro e w' ⟨rfl, hw⟩; obtain rfl := hw.symm; clear hw) | (go_at_call 95; refine (H4.out _).mono ?_; rintro e w' ⟨rfl, hw⟩; obtain rfl := hw.symm; clear hw) | (go_at_call 91; refine (H5.out _).mono ?_; rintro e w' ⟨rfl, hw⟩; obtain rfl := hw.symm; clear hw) | (go_at_call 92; refine HVd.out.mono ?_; rintro e w9 ⟨rfl, hb9⟩))
   go_ret
   exact ⟨by rw [HV.out]; rfl, by first | exact hb9 | exact Below.refl _ _⟩
 have e2 : (kind == 2) = false := by rw [beq_eq_false_iff_ne]; exact k2
 have e4 : (kind == 4) = false := by rw [beq_eq_false_iff_ne]; exact k4
 have e5 : (kind == 5) = false := by rw [beq_eq_false_iff_ne]; exact k5
 have e7 : (kind == 7) = false := by rw [beq_eq_false_iff_ne]; exact k7
 have e10 : (kind == 10) = false := by rw [beq_eq_false_iff_ne]; exact k10
 have e6 : (kind == 6) = false := by rw [beq_eq_false_iff_ne]; exact k6
 have e8 : (kind == 8) = false := by rw [beq_eq_false_iff_ne]; exact k8
 have e9 : (kind == 9) = false := by rw [beq_eq_false_iff_ne]; exact k9
 have HV : Hid (shapeB kind num text n = false) := by show _ = _; unfold shapeB; simp [hn0, k1, k3, k2, k4, k5, k7, k10, k6, k8, k9]
 cases hemp : (text.toList == [])
 all_goals
  rw [hemp] at hem
  go_enter Tryz.func49, Tryz.ntmps49
  go_wp2_with (first | (go_at_call 93; refine (H1.out _).mono ?_; rintro e w' ⟨rfl, hw⟩; obtain rfl := hw.symm; clear hw) | (go_at_call 94; refine (H3.out _).mono ?_; rintro e w' ⟨rfl, hw⟩; obtain rfl := hw.symm; clear hw) | (go_at_call 95; refine (H4.out _).mono ?_; rintro e w' ⟨rfl, hw⟩; obtain rfl := hw.symm; clear hw) | (go_at_call 91; refine (H5.out _).mono ?_; rintro e w' ⟨rfl, hw⟩; obtain rfl := hw.symm; clear hw) | (go_at_call 92; refine HVd.out.mono ?_; rintro e w9 ⟨rfl, hb9⟩))
  go_ret
  exact ⟨by rw [HV.out]; rfl, by first | exact hb9 | exact Below.refl _ _⟩

end Go.Proofs.YtgmmfpdekefamaaGreatDoor
