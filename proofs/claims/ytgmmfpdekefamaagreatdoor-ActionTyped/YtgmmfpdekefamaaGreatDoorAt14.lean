/- Texts of the proof, put together: AShpB. -/
import Derived.Test.YtgmmfpdekefamaaGreatDoorAt13
namespace Go.Proofs.YtgmmfpdekefamaaGreatDoor
open Go.RowKit
set_option linter.unusedVariables false
set_option maxRecDepth 100000

/-- has an expression the fields and the number of kids that its kind asks? -/
def shapeB (kind num : Int) (text : ByteArray) (n : Int) : Bool :=
 if kind = 1 then (decide (num ≥ 0) && (text.toList == [])) && (n == 0)
 else if kind = 3 then ((decide (num ≥ 1) && decide (num ≤ 20)) && (text.toList == [])) && (n == 0)
 else if (num != 0) = true then false
 else if kind = 2 then (whole text && decide ((text.size : Int) ≤ 200)) && (n == 0)
 else if kind = 4 then isNameB text && (n == 0)
 else if kind = 5 then isNameB text && (n == 2)
 else if kind = 7 then decide (lvlL text.toList ≥ 0) && (n == 2)
 else if kind = 10 then decide (kidsL text.toList > 0) && (n == kidsL text.toList)
 else if (text.toList == []) = false then false
 else if kind = 6 then n == 3 else if kind = 8 then n == 1 else kind == 9
theorem emptyL (tx : ByteArray) : tx.toList.isEmpty = (tx.toList == []) := by
 cases tx.toList <;> rfl
theorem lvlL_le (l : List UInt8) : -1 ≤ lvlL l ∧ lvlL l ≤ 2 := by
 unfold lvlL
 repeat' (first | omega | (apply And.intro) | split)
 all_goals (cases l == [61, 61] <;> cases l == [60] <;> cases l == [43] <;> cases l == [45] <;> cases l == [43, 43] <;> cases l == [42] <;> cases l == [47] <;> cases l == [37] <;> simp)

set_option maxHeartbeats 16000000 in
theorem rshape_any {w : World} {b n c : Nat} {a : Option Addr} {kind num : Int} {text : ByteArray} (hs : text.size ≤ 140737488351232) (c0 : w.cell? ⟨b, 0, none⟩ = some (.int .i64 kind)) (c1 : w.cell? ⟨b, 1, none⟩ = some (.int .i64 num)) (c2 : w.cell? ⟨b, 2, none⟩ = some (.string text)) (c3 : w.cell? ⟨b, 3, none⟩ = some (.slice a n c)) :
  Calls Tryz.prog 48 #[.pointer (some ⟨b, 0, none⟩)] w fun e w' => e = .returned (.bool (shapeB kind num text n)) ∧ w' = w := by
 have H1 : Hid (∀ w, Calls Tryz.prog 87 #[.string text] w fun e w' => e = .returned (.bool (isNameB text)) ∧ w' = w) := fun w => rname_any text hs w
 have H2 : Hid (∀ w, Calls Tryz.prog 88 #[.string text] w fun e w' => e = .returned (.bool (whole text)) ∧ w' = w) := fun w => whole_any text w hs
 have H3 : Hid (∀ w, Calls Tryz.prog 89 #[.string text] w fun e w' => e = .returned (.int .i64 (lvlL text.toList)) ∧ w' = w) := fun w => rlevel_any text w
 have H4 : Hid (∀ w, Calls Tryz.prog 90 #[.string text] w fun e w' => e = .returned (.int .i64 (kidsL text.toList)) ∧ w' = w) := fun w => rkids_any text w
 have hem := emptyL text
 by_cases k1 : kind = 1
 ·subst k1
  cases hnum : decide (num ≥ 0)
  ·have HV : Hid (shapeB 1 num text n = false) := by show _ = _; unfold shapeB; simp [hnum]
   clear hem
   go_enter Tryz.func48, Tryz.ntmps48
   go_wp2_with (first | (go_at_call 87; refine (H1.out _).mono ?_; rintro e w' ⟨rfl, hw⟩; obtain rfl := hw.symm; clear hw) | (go_at_call 88; refine (H2.out _).mono ?_; rintro e w' ⟨rfl, hw⟩; obtain rfl := hw.symm; clear hw) | (go_at_call 89; refine (H3.out _).mono ?_; rintro e w' ⟨rfl, hw⟩; obtain rfl := hw.symm; clear hw) | (go_at_call 90; refine (H4.out _).mono ?_; rintro e w' ⟨rfl, hw⟩; obtain rfl := hw.symm; clear hw))
   go_ret
   exact ⟨by rw [HV.out]; rfl, rfl⟩
  ·cases hemp : (text.toList == [])
   ·rw [hemp] at hem
    have HV : Hid (shapeB 1 num text n = false) := by show _ = _; unfold shapeB; simp [hnum, hemp]
    clear hem
    go_enter Tryz.func48, Tryz.ntmps48
    go_wp2_with (first | (go_at_call 87; refine (H1.out _).mono ?_; rintro e w' ⟨rfl, hw⟩; obtain rfl := hw.symm; clear hw) | (go_at_call 88; refine (H2.out _).mono ?_; rintro e w' ⟨rfl, hw⟩; obtain rfl := hw.symm; clear hw) | (go_at_call 89; refine (H3.out _).mono ?_; rintro e w' ⟨rfl, hw⟩; obtain rfl := hw.symm; clear hw) | (go_at_call 90; refine (H4.out _).mono ?_; rintro e w' ⟨rfl, hw⟩; obtain rfl := hw.symm; clear hw))
    go_ret
    exact ⟨by rw [HV.out]; rfl, rfl⟩
   ·rw [hemp] at hem
    cases hn : ((n : Int) == 0)
    ·have HV : Hid (shapeB 1 num text n = false) := by show _ = _; unfold shapeB; simp [hnum, hemp, hn]
     clear hem
     go_enter Tryz.func48, Tryz.ntmps48
     go_wp2_with (first | (go_at_call 87; refine (H1.out _).mono ?_; rintro e w' ⟨rfl, hw⟩; obtain rfl := hw.symm; clear hw) | (go_at_call 88; refine (H2.out _).mono ?_; rintro e w' ⟨rfl, hw⟩; obtain rfl := hw.symm; clear hw) | (go_at_call 89; refine (H3.out _).mono ?_; rintro e w' ⟨rfl, hw⟩; obtain rfl := hw.symm; clear hw) | (go_at_call 90; refine (H4.out _).mono ?_; rintro e w' ⟨rfl, hw⟩; obtain rfl := hw.symm; clear hw))
     go_ret
     exact ⟨by rw [HV.out]; rfl, rfl⟩
    ·have HV : Hid (shapeB 1 num text n = true) := by show _ = _; unfold shapeB; simp [hnum, hemp, hn]
     clear hem
     go_enter Tryz.func48, Tryz.ntmps48
     go_wp2_with (first | (go_at_call 87; refine (H1.out _).mono ?_; rintro e w' ⟨rfl, hw⟩; obtain rfl := hw.symm; clear hw) | (go_at_call 88; refine (H2.out _).mono ?_; rintro e w' ⟨rfl, hw⟩; obtain rfl := hw.symm; clear hw) | (go_at_call 89; refine (H3.out _).mono ?_; rintro e w' ⟨rfl, hw⟩; obtain rfl := hw.symm; clear hw) | (go_at_call 90; refine (H4.out _).mono ?_; rintro e w' ⟨rfl, hw⟩; obtain rfl := hw.symm; clear hw))
     go_ret
     exact ⟨by rw [HV.out]; rfl, rfl⟩
 by_cases k3 : kind = 3
 ·subst k3
  cases hnum : decide (num ≥ 1)
  ·have HV : Hid (shapeB 3 num text n = false) := by show _ = _; unfold shapeB; simp [hnum]
   clear hem
   go_enter Tryz.func48, Tryz.ntmps48
   go_wp2_with (first | (go_at_call 87; refine (H1.out _).mono ?_; rintro e w' ⟨rfl, hw⟩; obtain rfl := hw.symm; clear hw) | (go_at_call 88; refine (H2.out _).mono ?_; rintro e w' ⟨rfl, hw⟩; obtain rfl := hw.symm; clear hw) | (go_at_call 89; refine (H3.out _).mono ?_; rintro e w' ⟨rfl, hw⟩; obtain rfl := hw.symm; clear hw) | (go_at_call 90; refine (H4.out _).mono ?_; rintro e w' ⟨rfl, hw⟩; obtain rfl := hw.symm; clear hw))
   go_ret
   exact ⟨by rw [HV.out]; rfl, rfl⟩
  ·cases hnum2 : decide (num ≤ 20)
   ·have HV : Hid (shapeB 3 num text n = false) := by show _ = _; unfold shapeB; simp [hnum, hnum2]
    clear hem
    go_enter Tryz.func48, Tryz.ntmps48
    go_wp2_with (first | (go_at_call 87; refine (H1.out _).mono ?_; rintro e w' ⟨rfl, hw⟩; obtain rfl := hw.symm; clear hw) | (go_at_call 88; refine (H2.out _).mono ?_; rintro e w' ⟨rfl, hw⟩; obtain rfl := hw.symm; clear hw) | (go_at_call 89; refine (H3.out _).mono ?_; rintro e w' ⟨rfl, hw⟩; obtain rfl := hw.symm; clear hw) | (go_at_call 90; refine (H4.out _).mono ?_; rintro e w' ⟨rfl, hw⟩; obtain rfl := hw.symm; clear hw))
    go_ret
    exact ⟨by rw [HV.out]; rfl, rfl⟩
   ·cases hemp : (text.toList == [])
    ·rw [hemp] at hem
     have HV : Hid (shapeB 3 num text n = false) := by show _ = _; unfold shapeB; simp [hnum, hnum2, hemp]
     clear hem
     go_enter Tryz.func48, Tryz.ntmps48
     go_wp2_with (first | (go_at_call 87; refine (H1.out _).mono ?_; rintro e w' ⟨rfl, hw⟩; obtain rfl := hw.symm; clear hw) | (go_at_call 88; refine (H2.out _).mono ?_; rintro e w' ⟨rfl, hw⟩; obtain rfl := hw.symm; clear hw) | (go_at_call 89; refine (H3.out _).mono ?_; rintro e w' ⟨rfl, hw⟩; obtain rfl := hw.symm; clear hw) | (go_at_call 90; refine (H4.out _).mono ?_; rintro e w' ⟨rfl, hw⟩; obtain rfl := hw.symm; clear hw))
     go_ret
     exact ⟨by rw [HV.out]; rfl, rfl⟩
    ·rw [hemp] at hem
     cases hn : ((n : Int) == 0)
     ·have HV : Hid (shapeB 3 num text n = false) := by show _ = _; unfold shapeB; simp [hnum, hnum2, hemp, hn]
      clear hem
      go_enter Tryz.func48, Tryz.ntmps48
      go_wp2_with (first | (go_at_call 87; refine (H1.out _).mono ?_; rintro e w' ⟨rfl, hw⟩; obtain rfl := hw.symm; clear hw) | (go_at_call 88; refine (H2.out _).mono ?_; rintro e w' ⟨rfl, hw⟩; obtain rfl := hw.symm; clear hw) | (go_at_call 89; refine (H3.out _).mono ?_; rintro e w' ⟨rfl, hw⟩; obtain rfl := hw.symm; clear hw) | (go_at_call 90; refine (H4.out _).mono ?_; rintro e w' ⟨rfl, hw⟩; obtain rfl := hw.symm; clear hw))
      go_ret
      exact ⟨by rw [HV.out]; rfl, rfl⟩
     ·have HV : Hid (shapeB 3 num text n = true) := by show _ = _; unfold shapeB; simp [hnum, hnum2, hemp, hn]
      clear hem
      go_enter Tryz.func48, Tryz.ntmps48
      go_wp2_with (first | (go_at_call 87; refine (H1.out _).mono ?_; rintro e w' ⟨rfl, hw⟩; obtain rfl := hw.symm; clear hw) | (go_at_call 88; refine (H2.out _).mono ?_; rintro e w' ⟨rfl, hw⟩; obtain rfl := hw.symm; clear hw) | (go_at_call 89; refine (H3.out _).mono ?_; rintro e w' ⟨rfl, hw⟩; obtain rfl := hw.symm; clear hw) | (go_at_call 90; refine (H4.out _).mono ?_; rintro e w' ⟨rfl, hw⟩; obtain rfl := hw.symm; clear hw))
      go_ret
      exact ⟨by rw [HV.out]; rfl, rfl⟩
 have e1 : (kind == 1) = false := by rw [beq_eq_false_iff_ne]; exact k1
 have e3 : (kind == 3) = false := by rw [beq_eq_false_iff_ne]; exact k3
 cases hn0 : (num != 0)
 rotate_left
 ·have HV : Hid (shapeB kind num text n = false) := by show _ = _; unfold shapeB; simp [k1, k3, hn0]
  clear hem
  go_enter Tryz.func48, Tryz.ntmps48
  go_wp2_with (first | (go_at_call 87; refine (H1.out _).mono ?_; rintro e w' ⟨rfl, hw⟩; obtain rfl := hw.symm; clear hw) | (go_at_call 88; refine (H2.out _).mono ?_; rintro e w' ⟨rfl, hw⟩; obtain rfl := hw.symm; clear hw) | (go_at_call 89; refine (H3.out _).mono ?_; rintro e w' ⟨rfl, hw⟩; obtain rfl := hw.symm; clear hw) | (go_at_call 90; refine (H4.out _).mono ?_; rintro e w' ⟨rfl, hw⟩; obtain rfl := hw.symm; clear hw))
  go_ret
  exact ⟨by rw [HV.out]; rfl, rfl⟩
 by_cases k2 : kind = 2
 ·subst k2
  cases hw : whole text
  ·have HV : Hid (shapeB 2 num text n = false) := by show _ = _; unfold shapeB; simp [hn0, hw]
   clear hem
   go_enter Tryz.func48, Tryz.ntmps48
   go_wp2_with (first | (go_at_call 87; refine (H1.out _).mono ?_; rintro e w' ⟨rfl, hw⟩; obtain rfl := hw.symm; clear hw) | (go_at_call 88; refine (H2.out _).mono ?_; rintro e w' ⟨rfl, hw⟩; obtain rfl := hw.symm; clear hw) | (go_at_call 89; refine (H3.out _).mono ?_; rintro e w' ⟨rfl, hw⟩; obtain rfl := hw.symm; clear hw) | (go_at_call 90; refine (H4.out _).mono ?_; rintro e w' ⟨rfl, hw⟩; obtain rfl := hw.symm; clear hw))
   go_ret
   exact ⟨by rw [HV.out]; rfl, rfl⟩
  ·cases hsz : decide ((text.size : Int) ≤ 200)
   ·have HV : Hid (shapeB 2 num text n = false) := by show _ = _; unfold shapeB; simp [hn0, hw, hsz]
    clear hem
    go_enter Tryz.func48, Tryz.ntmps48
    go_wp2_with (first | (go_at_call 87; refine (H1.out _).mono ?_; rintro e w' ⟨rfl, hw⟩; obtain rfl := hw.symm; clear hw) | (go_at_call 88; refine (H2.out _).mono ?_; rintro e w' ⟨rfl, hw⟩; obtain rfl := hw.symm; clear hw) | (go_at_call 89; refine (H3.out _).mono ?_; rintro e w' ⟨rfl, hw⟩; obtain rfl := hw.symm; clear hw) | (go_at_call 90; refine (H4.out _).mono ?_; rintro e w' ⟨rfl, hw⟩; obtain rfl := hw.symm; clear hw))
    go_ret
    exact ⟨by rw [HV.out]; rfl, rfl⟩
   ·cases hn : ((n : Int) == 0)
    ·have HV : Hid (shapeB 2 num text n = false) := by show _ = _; unfold shapeB; simp [hn0, hw, hsz, hn]
     clear hem
     go_enter Tryz.func48, Tryz.ntmps48
     go_wp2_with (first | (go_at_call 87; refine (H1.out _).mono ?_; rintro e w' ⟨rfl, hw⟩; obtain rfl := hw.symm; clear hw) | (go_at_call 88; refine (H2.out _).mono ?_; rintro e w' ⟨rfl, hw⟩; obtain rfl := hw.symm; clear hw) | (go_at_call 89; refine (H3.out _).mono ?_; rintro e w' ⟨rfl, hw⟩; obtain rfl := hw.symm; clear hw) | (go_at_call 90; refine (H4.out _).mono ?_; rintro e w' ⟨rfl, hw⟩; obtain rfl := hw.symm; clear hw))
     go_ret
     exact ⟨by rw [HV.out]; rfl, rfl⟩
    ·have HV : Hid (shapeB 2 num text n = true) := by show _ = _; unfold shapeB; simp [hn0, hw, hsz, hn]
     clear hem
     go_enter Tryz.func48, Tryz.ntmps48
     go_wp2_with (first | (go_at_call 87; refine (H1.out _).mono ?_; rintro e w' ⟨rfl, hw⟩; obtain rfl := hw.symm; clear hw) | (go_at_call 88; refine (H2.out _).mono ?_; rintro e w' ⟨rfl, hw⟩; obtain rfl := hw.symm; clear hw) | (go_at_call 89; refine (H3.out _).mono ?_; rintro e w' ⟨rfl, hw⟩; obtain rfl := hw.symm; clear hw) | (go_at_call 90; refine (H4.out _).mono ?_; rintro e w' ⟨rfl, hw⟩; obtain rfl := hw.symm; clear hw))
     go_ret
     exact ⟨by rw [HV.out]; rfl, rfl⟩
 by_cases k4 : kind = 4
 ·subst k4
  cases hnm : isNameB text
  ·have HV : Hid (shapeB 4 num text n = false) := by show _ = _; unfold shapeB; simp [hn0, hnm]
   clear hem
   go_enter Tryz.func48, Tryz.ntmps48
   go_wp2_with (first | (go_at_call 87; refine (H1.out _).mono ?_; rintro e w' ⟨rfl, hw⟩; obtain rfl := hw.symm; clear hw) | (go_at_call 88; refine (H2.out _).mono ?_; rintro e w' ⟨rfl, hw⟩; obtain rfl := hw.symm; clear hw) | (go_at_call 89; refine (H3.out _).mono ?_; rintro e w' ⟨rfl, hw⟩; obtain rfl := hw.symm; clear hw) | (go_at_call 90; refine (H4.out _).mono ?_; rintro e w' ⟨rfl, hw⟩; obtain rfl := hw.symm; clear hw))
   go_ret
   exact ⟨by rw [HV.out]; rfl, rfl⟩
  ·cases hn : ((n : Int) == 0)
   ·have HV : Hid (shapeB 4 num text n = false) := by show _ = _; unfold shapeB; simp [hn0, hnm, hn]
    clear hem
    go_enter Tryz.func48, Tryz.ntmps48
    go_wp2_with (first | (go_at_call 87; refine (H1.out _).mono ?_; rintro e w' ⟨rfl, hw⟩; obtain rfl := hw.symm; clear hw) | (go_at_call 88; refine (H2.out _).mono ?_; rintro e w' ⟨rfl, hw⟩; obtain rfl := hw.symm; clear hw) | (go_at_call 89; refine (H3.out _).mono ?_; rintro e w' ⟨rfl, hw⟩; obtain rfl := hw.symm; clear hw) | (go_at_call 90; refine (H4.out _).mono ?_; rintro e w' ⟨rfl, hw⟩; obtain rfl := hw.symm; clear hw))
    go_ret
    exact ⟨by rw [HV.out]; rfl, rfl⟩
   ·have HV : Hid (shapeB 4 num text n = true) := by show _ = _; unfold shapeB; simp [hn0, hnm, hn]
    clear hem
    go_enter Tryz.func48, Tryz.ntmps48
    go_wp2_with (first | (go_at_call 87; refine (H1.out _).mono ?_; rintro e w' ⟨rfl, hw⟩; obtain rfl := hw.symm; clear hw) | (go_at_call 88; refine (H2.out _).mono ?_; rintro e w' ⟨rfl, hw⟩; obtain rfl := hw.symm; clear hw) | (go_at_call 89; refine (H3.out _).mono ?_; rintro e w' ⟨rfl, hw⟩; obtain rfl := hw.symm; clear hw) | (go_at_call 90; refine (H4.out _).mono ?_; rintro e w' ⟨rfl, hw⟩; obtain rfl := hw.symm; clear hw))
    go_ret
    exact ⟨by rw [HV.out]; rfl, rfl⟩
 by_cases k5 : kind = 5
 ·subst k5
  cases hnm : isNameB text
  ·have HV : Hid (shapeB 5 num text n = false) := by show _ = _; unfold shapeB; simp [hn0, hnm]
   clear hem
   go_enter Tryz.func48, Tryz.ntmps48
   go_wp2_with (first | (go_at_call 87; refine (H1.out _).mono ?_; rintro e w' ⟨rfl, hw⟩; obtain rfl := hw.symm; clear hw) | (go_at_call 88; refine (H2.out _).mono ?_; rintro e w' ⟨rfl, hw⟩; obtain rfl := hw.symm; clear hw) | (go_at_call 89; refine (H3.out _).mono ?_; rintro e w' ⟨rfl, hw⟩; obtain rfl := hw.symm; clear hw) | (go_at_call 90; refine (H4.out _).mono ?_; rintro e w' ⟨rfl, hw⟩; obtain rfl := hw.symm; clear hw))
   go_ret
   exact ⟨by rw [HV.out]; rfl, rfl⟩
  ·cases hn : ((n : Int) == 2)
   ·have HV : Hid (shapeB 5 num text n = false) := by show _ = _; unfold shapeB; simp [hn0, hnm, hn]
    clear hem
    go_enter Tryz.func48, Tryz.ntmps48
    go_wp2_with (first | (go_at_call 87; refine (H1.out _).mono ?_; rintro e w' ⟨rfl, hw⟩; obtain rfl := hw.symm; clear hw) | (go_at_call 88; refine (H2.out _).mono ?_; rintro e w' ⟨rfl, hw⟩; obtain rfl := hw.symm; clear hw) | (go_at_call 89; refine (H3.out _).mono ?_; rintro e w' ⟨rfl, hw⟩; obtain rfl := hw.symm; clear hw) | (go_at_call 90; refine (H4.out _).mono ?_; rintro e w' ⟨rfl, hw⟩; obtain rfl := hw.symm; clear hw))
    go_ret
    exact ⟨by rw [HV.out]; rfl, rfl⟩
   ·have HV : Hid (shapeB 5 num text n = true) := by show _ = _; unfold shapeB; simp [hn0, hnm, hn]
    clear hem
    go_enter Tryz.func48, Tryz.ntmps48
    go_wp2_with (first | (go_at_call 87; refine (H1.out _).mono ?_; rintro e w' ⟨rfl, hw⟩; obtain rfl := hw.symm; clear hw) | (go_at_call 88; refine (H2.out _).mono ?_; rintro e w' ⟨rfl, hw⟩; obtain rfl := hw.symm; clear hw) | (go_at_call 89; refine (H3.out _).mono ?_; rintro e w' ⟨rfl, hw⟩; obtain rfl := hw.symm; clear hw) | (go_at_call 90; refine (H4.out _).mono ?_; rintro e w' ⟨rfl, hw⟩; obtain rfl := hw.symm; clear hw))
    go_ret
    exact ⟨by rw [HV.out]; rfl, rfl⟩
 by_cases k7 : kind = 7
 ·subst k7
  cases hlv : decide (lvlL text.toList ≥ 0)
  ·have HV : Hid (shapeB 7 num text n = false) := by show _ = _; unfold shapeB; simp [hn0, hlv]
   clear hem
   go_enter Tryz.func48, Tryz.ntmps48
   go_wp2_with (first | (go_at_call 87; refine (H1.out _).mono ?_; rintro e w' ⟨rfl, hw⟩; obtain rfl := hw.symm; clear hw) | (go_at_call 88; refine (H2.out _).mono ?_; rintro e w' ⟨rfl, hw⟩; obtain rfl := hw.symm; clear hw) | (go_at_call 89; refine (H3.out _).mono ?_; rintro e w' ⟨rfl, hw⟩; obtain rfl := hw.symm; clear hw) | (go_at_call 90; refine (H4.out _).mono ?_; rintro e w' ⟨rfl, hw⟩; obtain rfl := hw.symm; clear hw))
   go_ret
   exact ⟨by rw [HV.out]; rfl, rfl⟩
  ·cases hn : ((n : Int) == 2)
   ·have HV : Hid (shapeB 7 num text n = false) := by show _ = _; unfold shapeB; simp [hn0, hlv, hn]
    clear hem
    go_enter Tryz.func48, Tryz.ntmps48
    go_wp2_with (first | (go_at_call 87; refine (H1.out _).mono ?_; rintro e w' ⟨rfl, hw⟩; obtain rfl := hw.symm; clear hw) | (go_at_call 88; refine (H2.out _).mono ?_; rintro e w' ⟨rfl, hw⟩; obtain rfl := hw.symm; clear hw) | (go_at_call 89; refine (H3.out _).mono ?_; rintro e w' ⟨rfl, hw⟩; obtain rfl := hw.symm; clear hw) | (go_at_call 90; refine (H4.out _).mono ?_; rintro e w' ⟨rfl, hw⟩; obtain rfl := hw.symm; clear hw))
    go_ret
    exact ⟨by rw [HV.out]; rfl, rfl⟩
   ·have HV : Hid (shapeB 7 num text n = true) := by show _ = _; unfold shapeB; simp [hn0, hlv, hn]
    clear hem
    go_enter Tryz.func48, Tryz.ntmps48
    go_wp2_with (first | (go_at_call 87; refine (H1.out _).mono ?_; rintro e w' ⟨rfl, hw⟩; obtain rfl := hw.symm; clear hw) | (go_at_call 88; refine (H2.out _).mono ?_; rintro e w' ⟨rfl, hw⟩; obtain rfl := hw.symm; clear hw) | (go_at_call 89; refine (H3.out _).mono ?_; rintro e w' ⟨rfl, hw⟩; obtain rfl := hw.symm; clear hw) | (go_at_call 90; refine (H4.out _).mono ?_; rintro e w' ⟨rfl, hw⟩; obtain rfl := hw.symm; clear hw))
    go_ret
    exact ⟨by rw [HV.out]; rfl, rfl⟩
 by_cases k10 : kind = 10
 ·subst k10
  cases hkd : decide (kidsL text.toList > 0)
  ·have HV : Hid (shapeB 10 num text n = false) := by show _ = _; unfold shapeB; simp [hn0, hkd]
   clear hem
   go_enter Tryz.func48, Tryz.ntmps48
   go_wp2_with (first | (go_at_call 87; refine (H1.out _).mono ?_; rintro e w' ⟨rfl, hw⟩; obtain rfl := hw.symm; clear hw) | (go_at_call 88; refine (H2.out _).mono ?_; rintro e w' ⟨rfl, hw⟩; obtain rfl := hw.symm; clear hw) | (go_at_call 89; refine (H3.out _).mono ?_; rintro e w' ⟨rfl, hw⟩; obtain rfl := hw.symm; clear hw) | (go_at_call 90; refine (H4.out _).mono ?_; rintro e w' ⟨rfl, hw⟩; obtain rfl := hw.symm; clear hw))
   go_ret
   exact ⟨by rw [HV.out]; rfl, rfl⟩
  ·cases hn : ((n : Int) == kidsL text.toList)
   ·have HV : Hid (shapeB 10 num text n = false) := by show _ = _; unfold shapeB; simp [hn0, hkd, hn]
    clear hem
    go_enter Tryz.func48, Tryz.ntmps48
    go_wp2_with (first | (go_at_call 87; refine (H1.out _).mono ?_; rintro e w' ⟨rfl, hw⟩; obtain rfl := hw.symm; clear hw) | (go_at_call 88; refine (H2.out _).mono ?_; rintro e w' ⟨rfl, hw⟩; obtain rfl := hw.symm; clear hw) | (go_at_call 89; refine (H3.out _).mono ?_; rintro e w' ⟨rfl, hw⟩; obtain rfl := hw.symm; clear hw) | (go_at_call 90; refine (H4.out _).mono ?_; rintro e w' ⟨rfl, hw⟩; obtain rfl := hw.symm; clear hw))
    go_ret
    exact ⟨by rw [HV.out]; rfl, rfl⟩
   ·have HV : Hid (shapeB 10 num text n = true) := by show _ = _; unfold shapeB; simp [hn0, hkd, hn]
    clear hem
    go_enter Tryz.func48, Tryz.ntmps48
    go_wp2_with (first | (go_at_call 87; refine (H1.out _).mono ?_; rintro e w' ⟨rfl, hw⟩; obtain rfl := hw.symm; clear hw) | (go_at_call 88; refine (H2.out _).mono ?_; rintro e w' ⟨rfl, hw⟩; obtain rfl := hw.symm; clear hw) | (go_at_call 89; refine (H3.out _).mono ?_; rintro e w' ⟨rfl, hw⟩; obtain rfl := hw.symm; clear hw) | (go_at_call 90; refine (H4.out _).mono ?_; rintro e w' ⟨rfl, hw⟩; obtain rfl := hw.symm; clear hw))
    go_ret
    exact ⟨by rw [HV.out]; rfl, rfl⟩
 by_cases k6 : kind = 6
 ·subst k6
  cases hemp : (text.toList == [])
  ·rw [hemp] at hem
   have HV : Hid (shapeB 6 num text n = false) := by show _ = _; unfold shapeB; simp [hn0, hemp]
   clear hem
   go_enter Tryz.func48, Tryz.ntmps48
   go_wp2_with (first | (go_at_call 87; refine (H1.out _).mono ?_; rintro e w' ⟨rfl, hw⟩; obtain rfl := hw.symm; clear hw) | (go_at_call 88; refine (H2.out _).mono ?_; rintro e w' ⟨rfl, hw⟩; obtain rfl := hw.symm; clear hw) | (go_at_call 89; refine (H3.out _).mono ?_; rintro e w' ⟨rfl, hw⟩; obtain rfl := hw.symm; clear hw) | (go_at_call 90; refine (H4.out _).mono ?_; rintro e w' ⟨rfl, hw⟩; obtain rfl := hw.symm; clear hw))
   go_ret
   exact ⟨by rw [HV.out]; rfl, rfl⟩
  ·rw [hemp] at hem
   cases hn : ((n : Int) == 3)
   ·have HV : Hid (shapeB 6 num text n = false) := by show _ = _; unfold shapeB; simp [hn0, hemp, hn]
    clear hem
    go_enter Tryz.func48, Tryz.ntmps48
    go_wp2_with (first | (go_at_call 87; refine (H1.out _).mono ?_; rintro e w' ⟨rfl, hw⟩; obtain rfl := hw.symm; clear hw) | (go_at_call 88; refine (H2.out _).mono ?_; rintro e w' ⟨rfl, hw⟩; obtain rfl := hw.symm; clear hw) | (go_at_call 89; refine (H3.out _).mono ?_; rintro e w' ⟨rfl, hw⟩; obtain rfl := hw.symm; clear hw) | (go_at_call 90; refine (H4.out _).mono ?_; rintro e w' ⟨rfl, hw⟩; obtain rfl := hw.symm; clear hw))
    go_ret
    exact ⟨by rw [HV.out]; rfl, rfl⟩
   ·have HV : Hid (shapeB 6 num text n = true) := by show _ = _; unfold shapeB; simp [hn0, hemp, hn]
    clear hem
    go_enter Tryz.func48, Tryz.ntmps48
    go_wp2_with (first | (go_at_call 87; refine (H1.out _).mono ?_; rintro e w' ⟨rfl, hw⟩; obtain rfl := hw.symm; clear hw) | (go_at_call 88; refine (H2.out _).mono ?_; rintro e w' ⟨rfl, hw⟩; obtain rfl := hw.symm; clear hw) | (go_at_call 89; refine (H3.out _).mono ?_; rintro e w' ⟨rfl, hw⟩; obtain rfl := hw.symm; clear hw) | (go_at_call 90; refine (H4.out _).mono ?_; rintro e w' ⟨rfl, hw⟩; obtain rfl := hw.symm; clear hw))
    go_ret
    exact ⟨by rw [HV.out]; rfl, rfl⟩
 by_cases k8 : kind = 8
 ·subst k8
  cases hemp : (text.toList == [])
  ·rw [hemp] at hem
   have HV : Hid (shapeB 8 num text n = false) := by show _ = _; unfold shapeB; simp [hn0, hemp]
   clear hem
   go_enter Tryz.func48, Tryz.ntmps48
   go_wp2_with (first | (go_at_call 87; refine (H1.out _).mono ?_; rintro e w' ⟨rfl, hw⟩; obtain rfl := hw.symm; clear hw) | (go_at_call 88; refine (H2.out _).mono ?_; rintro e w' ⟨rfl, hw⟩; obtain rfl := hw.symm; clear hw) | (go_at_call 89; refine (H3.out _).mono ?_; rintro e w' ⟨rfl, hw⟩; obtain rfl := hw.symm; clear hw) | (go_at_call 90; refine (H4.out _).mono ?_; rintro e w' ⟨rfl, hw⟩; obtain rfl := hw.symm; clear hw))
   go_ret
   exact ⟨by rw [HV.out]; rfl, rfl⟩
  ·rw [hemp] at hem
   cases hn : ((n : Int) == 1)
   ·have HV : Hid (shapeB 8 num text n = false) := by show _ = _; unfold shapeB; simp [hn0, hemp, hn]
    clear hem
    go_enter Tryz.func48, Tryz.ntmps48
    go_wp2_with (first | (go_at_call 87; refine (H1.out _).mono ?_; rintro e w' ⟨rfl, hw⟩; obtain rfl := hw.symm; clear hw) | (go_at_call 88; refine (H2.out _).mono ?_; rintro e w' ⟨rfl, hw⟩; obtain rfl := hw.symm; clear hw) | (go_at_call 89; refine (H3.out _).mono ?_; rintro e w' ⟨rfl, hw⟩; obtain rfl := hw.symm; clear hw) | (go_at_call 90; refine (H4.out _).mono ?_; rintro e w' ⟨rfl, hw⟩; obtain rfl := hw.symm; clear hw))
    go_ret
    exact ⟨by rw [HV.out]; rfl, rfl⟩
   ·have HV : Hid (shapeB 8 num text n = true) := by show _ = _; unfold shapeB; simp [hn0, hemp, hn]
    clear hem
    go_enter Tryz.func48, Tryz.ntmps48
    go_wp2_with (first | (go_at_call 87; refine (H1.out _).mono ?_; rintro e w' ⟨rfl, hw⟩; obtain rfl := hw.symm; clear hw) | (go_at_call 88; refine (H2.out _).mono ?_; rintro e w' ⟨rfl, hw⟩; obtain rfl := hw.symm; clear hw) | (go_at_call 89; refine (H3.out _).mono ?_; rintro e w' ⟨rfl, hw⟩; obtain rfl := hw.symm; clear hw) | (go_at_call 90; refine (H4.out _).mono ?_; rintro e w' ⟨rfl, hw⟩; obtain rfl := hw.symm; clear hw))
    go_ret
    exact ⟨by rw [HV.out]; rfl, rfl⟩
 by_cases k9 : kind = 9
 ·subst k9
  cases hemp : (text.toList == [])
  ·rw [hemp] at hem
   have HV : Hid (shapeB 9 num text n = false) := by show _ = _; unfold shapeB; simp [hn0, hemp]
   clear hem
   go_enter Tryz.func48, Tryz.ntmps48
   go_wp2_with (first | (go_at_call 87; refine (H1.out _).mono ?_; rintro e w' ⟨rfl, hw⟩; obtain rfl := hw.symm; clear hw) | (go_at_call 88; refine (H2.out _).mono ?_; rintro e w' ⟨rfl, hw⟩; obtain rfl := hw.symm; clear hw) | (go_at_call 89; refine (H3.out _).mono ?_; rintro e w' ⟨rfl, hw⟩; obtain rfl := hw.symm; clear hw) | (go_at_call 90; refine (H4.out _).mono ?_; rintro e w' ⟨rfl, hw⟩; obtain rfl := hw.symm; clear hw))
   go_ret
   exact ⟨by rw [HV.out]; rfl, rfl⟩
  ·rw [hemp] at hem
   have HV : Hid (shapeB 9 num text n = true) := by show _ = _; unfold shapeB; simp [hn0, hemp]
   clear hem
   go_enter Tryz.func48, Tryz.ntmps48
   go_wp2_with (first | (go_at_call 87; refine (H1.out _).mono ?_; rintro e w' ⟨rfl, hw⟩; obtain rfl := hw.symm; clear hw) | (go_at_call 88; refine (H2.out _).mono ?_; rintro e w' ⟨rfl, hw⟩; obtain rfl := hw.symm; clear hw) | (go_at_call 89; refine (H3.out _).mono ?_; rintro e w' ⟨rfl, hw⟩; obtain rfl := hw.symm; clear hw) | (go_at_call 90; refine (H4.out _).mono ?_; rintro e w' ⟨rfl, hw⟩; obtain rfl := hw.symm; clear hw))
   go_ret
   exact ⟨by rw [HV.out]; rfl, rfl⟩
 have e2 : (kind == 2) = false := by rw [beq_eq_false_iff_ne]; exact k2
 have e4 : (kind == 4) = false := by rw [beq_eq_false_iff_ne]; exact k4
 have e5 : (kind == 5) = false := by rw [beq_eq_false_iff_ne]; exact k5
 have e7 : (kind == 7) = false := by rw [beq_eq_false_iff_ne]; exact k7
 have e10 : (kind == 10) = false := by rw [beq_eq_false_iff_ne]; exact k10
 have e6 : (kind == 6) = false := by rw [beq_eq_false_iff_ne]; exact k6
 have e8 : (kind == 8) = false := by rw [beq_eq_false_iff_ne]; exact k8
 have e9 : (kind == 9) = false := by rw [beq_eq_false_iff_ne]; exact k9
 have HV : Hid (shapeB kind num text n = false) := by show _ = _; unfold shapeB; simp [hn0, k1, k3, k2, k4, k5, k7, k10, k6, k8, k9]
 cases hemp : (text.toList == [])
 all_goals
  rw [hemp] at hem
  go_enter Tryz.func48, Tryz.ntmps48
  go_wp2_with (first | (go_at_call 87; refine (H1.out _).mono ?_; rintro e w' ⟨rfl, hw⟩; obtain rfl := hw.symm; clear hw) | (go_at_call 88; refine (H2.out _).mono ?_; rintro e w' ⟨rfl, hw⟩; obtain rfl := hw.symm; clear hw) | (go_at_call 89; refine (H3.out _).mono ?_; rintro e w' ⟨rfl, hw⟩; obtain rfl := hw.symm; clear hw) | (go_at_call 90; refine (H4.out _).mono ?_; rintro e w' ⟨rfl, hw⟩; obtain rfl := hw.symm; clear hw))
  go_ret
  exact ⟨by rw [HV.out]; rfl, rfl⟩

end Go.Proofs.YtgmmfpdekefamaaGreatDoor
