/- Texts of the proof, put together: PShp. -/
import Derived.Test.YtgmmfpdekefamaaGreatDoorAt15
namespace Go.Proofs.YtgmmfpdekefamaaGreatDoor
open Go.RowKit
set_option linter.unusedVariables false
set_option maxRecDepth 100000

theorem lvlP_five (l : List UInt8) : (lvlP l != 5) = decide (lvlL l ≥ 0) := by
 rw [lvl_both]
 have := lvlL_le l
 split
 ·rw [decide_eq_false (by omega)]; rfl
 ·rw [decide_eq_true (by omega), bne_iff_ne]; omega
set_option maxHeartbeats 1000000 in
theorem aplace_any (n : Int) (w : World) : Calls Tryz.prog 91 #[.int .i64 n] w fun e w' => e = .returned (.bool (decide (n ≥ 1) && decide (n ≤ 20))) ∧ w' = w := by
 cases h1 : decide (n ≥ 1)
 all_goals
  cases h2 : decide (n ≤ 20)
  all_goals
   go_enter Tryz.func91, Tryz.ntmps91
   go_wp2
   go_ret
   exact ⟨rfl, rfl⟩
set_option maxHeartbeats 2000000 in
theorem ainword_any (b : Int) (w : World) : Calls Tryz.prog 154 #[.int .u8 b] w fun e w' => e = .returned (.bool (wordB b)) ∧ w' = w := by
 have H1 : Hid (∀ w, Calls Tryz.prog 152 #[.int .u8 b] w fun e w' => e = .returned (.bool (smallB b)) ∧ w' = w) := fun w => asmall_any b w
 have H2 : Hid (∀ w, Calls Tryz.prog 176 #[.int .u8 b] w fun e w' => e = .returned (.bool (digitB b)) ∧ w' = w) := fun w => adigit_any b w
 have HV : Hid (wordB b = (smallB b || digitB b || (b == 95))) := by
  show _ = _
  unfold wordB
  have e : decide (b = 95) = (b == 95) := by
   cases h : (b == 95)
   ·rw [beq_eq_false_iff_ne] at h; simp [h]
   ·rw [beq_iff_eq] at h; simp [h]
  rw [e]
 generalize smallB b = b1 at *
 generalize digitB b = b2 at *
 cases b1
 ·cases b2
  ·cases h95 : (b == 95)
   all_goals
    go_enter Tryz.func154, Tryz.ntmps154
    go_wp2_with (first | (go_at_call 152; refine (H1.out _).mono ?_; rintro e w' ⟨rfl, hw⟩; obtain rfl := hw.symm; clear hw) | (go_at_call 176; refine (H2.out _).mono ?_; rintro e w' ⟨rfl, hw⟩; obtain rfl := hw.symm; clear hw))
    go_ret
    exact ⟨by rw [HV.out, h95]; rfl, rfl⟩
  ·go_enter Tryz.func154, Tryz.ntmps154
   go_wp2_with (first | (go_at_call 152; refine (H1.out _).mono ?_; rintro e w' ⟨rfl, hw⟩; obtain rfl := hw.symm; clear hw) | (go_at_call 176; refine (H2.out _).mono ?_; rintro e w' ⟨rfl, hw⟩; obtain rfl := hw.symm; clear hw))
   go_ret
   exact ⟨by rw [HV.out]; rfl, rfl⟩
 ·go_enter Tryz.func154, Tryz.ntmps154
  go_wp2_with (first | (go_at_call 152; refine (H1.out _).mono ?_; rintro e w' ⟨rfl, hw⟩; obtain rfl := hw.symm; clear hw) | (go_at_call 176; refine (H2.out _).mono ?_; rintro e w' ⟨rfl, hw⟩; obtain rfl := hw.symm; clear hw))
  go_ret
  exact ⟨by rw [HV.out]; rfl, rfl⟩
theorem kidsL_three' (l : List UInt8) : ∃ n : Nat, kidsL l = (n : Int) ∧ n ≤ 3 := by
 unfold kidsL
 cases l == [108, 101, 110] <;> cases l == [116, 101, 120, 116] <;> cases l == [116, 97, 103] <;> cases l == [107, 105, 100, 115] <;> cases l == [105, 110, 116] <;> cases l == [110, 111, 100, 101] <;> cases l == [97, 116] <;> first | exact ⟨0, rfl, by omega⟩ | exact ⟨1, rfl, by omega⟩ | exact ⟨2, rfl, by omega⟩ | exact ⟨3, rfl, by omega⟩
theorem name_form (s : ByteArray) : isNameB s = (((!(s.toList == []) && !decide ((s.size : Int) > 40)) && (smallB ((s.get! 0).toNat : Int) && !(keptL s.toList))) && (!decide (kidsL s.toList > 0) && allB wordB s s.size)) := by
 have hl : s.toList.length = s.size := by rw [Lib.toList_data, Array.length_toList]; rfl
 have he : (s.toList == []) = !decide (0 < s.size) := by
  by_cases h : 0 < s.size
  ·rw [decide_eq_true h]
   cases hc : s.toList with
   | nil => rw [hc] at hl; simp at hl; omega
   | cons a l => rfl
  ·rw [decide_eq_false h]
   have : s.toList = [] := List.eq_nil_of_length_eq_zero (by omega)
   rw [this]; rfl
 have h40 : decide ((s.size : Int) > 40) = !decide (s.size ≤ 40) := by
  by_cases h : s.size ≤ 40
  ·rw [decide_eq_true h, decide_eq_false (by omega)]; rfl
  ·rw [decide_eq_false h, decide_eq_true (by omega)]; rfl
 have hk : (kidsL s.toList == 0) = !decide (kidsL s.toList > 0) := by
  obtain ⟨n, hn, _⟩ := kidsL_three' s.toList
  rw [hn]
  cases n with
  | zero => rfl
  | succ n => rw [decide_eq_true (by omega)]; rw [Bool.not_true, beq_eq_false_iff_ne]; omega
 unfold isNameB isWordB
 rw [he, h40, hk]
 generalize decide (0 < s.size) = a
 generalize decide (s.size ≤ 40) = b
 generalize decide (kidsL s.toList > 0) = c
 generalize smallB ((s.get! 0).toNat : Int) = d
 generalize keptL s.toList = e
 generalize allB wordB s s.size = f
 cases a <;> cases b <;> cases c <;> cases d <;> cases e <;> cases f <;> rfl

set_option maxHeartbeats 8000000 in
theorem aname_any (s : ByteArray) (hs : s.size ≤ 140737488351232) (w : World) : Calls Tryz.prog 93 #[.string s] w fun e w' => e = .returned (.bool (isNameB s)) ∧ w' = w := by
 have H1 : Hid (∀ w, Calls Tryz.prog 152 #[.int .u8 ((s.get! 0).toNat : Int)] w fun e w' => e = .returned (.bool (smallB ((s.get! 0).toNat : Int))) ∧ w' = w) := fun w => asmall_any _ w
 have H2 : Hid (∀ w, Calls Tryz.prog 153 #[.string s] w fun e w' => e = .returned (.bool (keptL s.toList)) ∧ w' = w) := fun w => keyword_any s w
 have H3 : Hid (∀ w, Calls Tryz.prog 95 #[.string s] w fun e w' => e = .returned (.int .i64 (kidsL s.toList)) ∧ w' = w) := fun w => takes_any s w
 have HV : Hid (isNameB s = (((!(s.toList == []) && !decide ((s.size : Int) > 40)) && (smallB ((s.get! 0).toNat : Int) && !(keptL s.toList))) && (!decide (kidsL s.toList > 0) && allB wordB s s.size))) := name_form s
 have hem := emptyL s
 have hl : s.toList.length = s.size := by rw [Lib.toList_data, Array.length_toList]; rfl
 cases h0 : (s.toList == [])
 ·have hlt : 0 < s.size := by
   rcases Nat.eq_zero_or_pos s.size with h | h
   ·have : s.toList = [] := List.eq_nil_of_length_eq_zero (by omega)
    rw [this] at h0
    cases h0
   ·exact h
  have hb0 := get_atA s 0 hlt
  rw [h0] at hem
  clear hl
  generalize smallB ((s.get! 0).toNat : Int) = b1 at *
  generalize keptL s.toList = b2 at *
  generalize kidsL s.toList = kd at *
  cases h40 : decide ((s.size : Int) > 40)
  ·cases b1
   ·go_enter Tryz.func93, Tryz.ntmps93
    go_wp2_with (first | (go_at_call 152; refine (H1.out _).mono ?_; rintro e w' ⟨rfl, hw⟩; obtain rfl := hw.symm; clear hw) | (go_at_call 153; refine (H2.out _).mono ?_; rintro e w' ⟨rfl, hw⟩; obtain rfl := hw.symm; clear hw) | (go_at_call 95; refine (H3.out _).mono ?_; rintro e w' ⟨rfl, hw⟩; obtain rfl := hw.symm; clear hw))
    go_ret
    exact ⟨by rw [HV.out, h0, h40]; rfl, rfl⟩
   ·cases b2
    ·cases hkd : decide (kd > 0)
     ·go_enter Tryz.func93, Tryz.ntmps93
      go_wp2_with (first | (go_at_call 152; refine (H1.out _).mono ?_; rintro e w' ⟨rfl, hw⟩; obtain rfl := hw.symm; clear hw) | (go_at_call 153; refine (H2.out _).mono ?_; rintro e w' ⟨rfl, hw⟩; obtain rfl := hw.symm; clear hw) | (go_at_call 95; refine (H3.out _).mono ?_; rintro e w' ⟨rfl, hw⟩; obtain rfl := hw.symm; clear hw))
      go_loop [3, 28] (fun _ a => ∃ k : Nat, k ≤ s.size ∧ a = .int .i64 k ∧ Hid (allB wordB s k = true)) (fun _ a => s.size - (intOf a).toNat)
      case atStart => exact ⟨0, by omega, rfl, rfl⟩
      case round =>
       obtain ⟨k, hk, rfl, HA⟩ := hrel
       by_cases hlt2 : k < s.size
       ·have hb := get_atA s k hlt2
        have HD : Hid (∀ w, Calls Tryz.prog 154 #[.int .u8 ((s.get! k).toNat : Int)] w fun e w' => e = .returned (.bool (wordB ((s.get! k).toNat : Int))) ∧ w' = w) := fun w => ainword_any _ w
        cases hwd : wordB ((s.get! k).toNat : Int)
        ·rw [hwd] at HD
         have HE : Hid (isNameB s = false) := by show _ = _; rw [HV.out, allB_false hlt2 hwd]; simp
         clear HV HA
         go_wp2_with (go_at_call 154; refine (HD.out _).mono ?_; rintro e w' ⟨rfl, hw⟩; obtain rfl := hw.symm; clear hw)
         go_ret
         exact ⟨by rw [HE.out]; rfl, rfl⟩
        ·rw [hwd] at HD
         have HE : Hid (allB wordB s (k + 1) = true) := by show _ = _; rw [allB_succ, HA.out, hwd]; rfl
         clear HV HA
         go_wp2_with (go_at_call 154; refine (HD.out _).mono ?_; rintro e w' ⟨rfl, hw⟩; obtain rfl := hw.symm; clear hw)
         go_round
         case rel => exact ⟨k + 1, by omega, by go_num, HE⟩
         case measure => simp [intOf]; omega
       ·obtain rfl : k = s.size := by omega
        have HE : Hid (isNameB s = true) := by show _ = _; rw [HV.out, HA.out, h0, h40, hkd]; rfl
        clear HV HA
        go_wp2
        go_ret
        exact ⟨by rw [HE.out]; rfl, rfl⟩
     ·go_enter Tryz.func93, Tryz.ntmps93
      go_wp2_with (first | (go_at_call 152; refine (H1.out _).mono ?_; rintro e w' ⟨rfl, hw⟩; obtain rfl := hw.symm; clear hw) | (go_at_call 153; refine (H2.out _).mono ?_; rintro e w' ⟨rfl, hw⟩; obtain rfl := hw.symm; clear hw) | (go_at_call 95; refine (H3.out _).mono ?_; rintro e w' ⟨rfl, hw⟩; obtain rfl := hw.symm; clear hw))
      go_ret
      exact ⟨by rw [HV.out, h0, h40, hkd]; rfl, rfl⟩
    ·go_enter Tryz.func93, Tryz.ntmps93
     go_wp2_with (first | (go_at_call 152; refine (H1.out _).mono ?_; rintro e w' ⟨rfl, hw⟩; obtain rfl := hw.symm; clear hw) | (go_at_call 153; refine (H2.out _).mono ?_; rintro e w' ⟨rfl, hw⟩; obtain rfl := hw.symm; clear hw) | (go_at_call 95; refine (H3.out _).mono ?_; rintro e w' ⟨rfl, hw⟩; obtain rfl := hw.symm; clear hw))
     go_ret
     exact ⟨by rw [HV.out, h0, h40]; rfl, rfl⟩
  ·go_enter Tryz.func93, Tryz.ntmps93
   go_wp2
   go_ret
   exact ⟨by rw [HV.out, h0, h40]; rfl, rfl⟩
 ·rw [h0] at hem
  go_enter Tryz.func93, Tryz.ntmps93
  go_wp2
  go_ret
  exact ⟨by rw [HV.out, h0]; rfl, rfl⟩

end Go.Proofs.YtgmmfpdekefamaaGreatDoor
