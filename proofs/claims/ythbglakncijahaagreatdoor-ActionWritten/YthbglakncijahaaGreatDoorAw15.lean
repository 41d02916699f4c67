/- Texts of the proof, put together: AShp. -/
import Derived.Test.YthbglakncijahaaGreatDoorAw14
namespace Go.Proofs.YthbglakncijahaaGreatDoor
open Go.RowKit
set_option linter.unusedVariables false
set_option maxRecDepth 100000

def allB (P : Int → Bool) (s : ByteArray) (k : Nat) : Bool := (List.range k).all fun j => P ((s.get! j).toNat : Int)
theorem allB_succ (P : Int → Bool) (s : ByteArray) (k : Nat) : allB P s (k + 1) = (allB P s k && P ((s.get! k).toNat : Int)) := by simp [allB, List.range_succ]
theorem allB_false {P : Int → Bool} {s : ByteArray} {k n : Nat} (hk : k < n) (h : P ((s.get! k).toNat : Int) = false) : allB P s n = false := by
  unfold allB
  rw [List.all_eq_false]
  exact ⟨k, List.mem_range.2 hk, by rw [h]; simp⟩
/-- a word; a name -/
def isWordB (s : ByteArray) : Bool := decide (0 < s.size) && (smallB ((s.get! 0).toNat : Int) && allB wordB s s.size)
def isNameB (s : ByteArray) : Bool := isWordB s && (decide (s.size ≤ 40) && (!(keptL s.toList) && (kidsL s.toList == 0)))
theorem small_range (b : Int) : smallB b = (!(decide (b < 97)) && !(decide (b > 122))) := by
  unfold smallB
  by_cases h1 : b < 97
  · have h2 : ¬ b ≥ 97 := by omega
    simp [h1, h2]
  · by_cases h3 : b > 122
    · have h4 : ¬ b ≤ 122 := by omega
      have h2 : b ≥ 97 := by omega
      simp [h1, h2, h3, h4]
    · have h4 : b ≤ 122 := by omega
      have h2 : b ≥ 97 := by omega
      simp [h1, h2, h3, h4]

set_option maxHeartbeats 4000000 in
theorem rword_any (s : ByteArray) (hs : s.size ≤ 140737488351232) (w : World) : Calls Tryz.prog 148 #[.string s] w fun e w' => e = .returned (.bool (isWordB s)) ∧ w' = w := by
  by_cases h0 : s.size = 0
  · have HV : Hid (isWordB s = false) := by show _ = _; unfold isWordB; rw [decide_eq_false (by omega)]; rfl
    have hz : ((s.size : Int) == 0) = true := by rw [beq_iff_eq]; omega
    go_enter Tryz.func148, Tryz.ntmps148
    go_wp2
    go_ret
    exact ⟨by rw [HV.out]; rfl, rfl⟩
  · have hz : ((s.size : Int) == 0) = false := by rw [beq_eq_false_iff_ne]; omega
    have hb0 := get_atA s 0 (by omega)
    have hlt0 : 0 < s.size := by omega
    have HS : Hid (smallB ((s.get! 0).toNat : Int) = (!(decide (((s.get! 0).toNat : Int) < 97)) && !(decide (((s.get! 0).toNat : Int) > 122)))) := small_range _
    have HW : Hid (isWordB s = (smallB ((s.get! 0).toNat : Int) && allB wordB s s.size)) := by show _ = _; unfold isWordB; rw [decide_eq_true (by omega)]; rfl
    rw [HS.out] at HW
    clear HS
    cases h1 : decide (((s.get! 0).toNat : Int) < 97)
    · cases h2 : decide (((s.get! 0).toNat : Int) > 122)
      · rw [h1, h2] at HW
        go_enter Tryz.func148, Tryz.ntmps148
        go_wp2
        go_loop [3, 4, 5] (fun a _ _ => ∃ k : Nat, k ≤ s.size ∧ a = .int .i64 k ∧ Hid (allB wordB s k = true)) (fun a _ _ => s.size - (intOf a).toNat)
        case atStart => exact ⟨0, by omega, rfl, rfl⟩
        case round =>
          obtain ⟨k, hk, rfl, HA⟩ := hrel
          by_cases hlt : k < s.size
          · have hb := get_atA s k hlt
            have HD2 : Hid (∀ w, Calls Tryz.prog 110 #[.int .u8 ((s.get! k).toNat : Int)] w fun e w' => e = .returned (.bool (digitB ((s.get! k).toNat : Int))) ∧ w' = w) := fun w => rdigit_any _ w
            have HS2 : Hid (∀ w, Calls Tryz.prog 111 #[.int .u8 ((s.get! k).toNat : Int)] w fun e w' => e = .returned (.bool (smallB ((s.get! k).toNat : Int))) ∧ w' = w) := fun w => rsmall_any _ w
            have HWd : Hid (wordB ((s.get! k).toNat : Int) = (smallB ((s.get! k).toNat : Int) || digitB ((s.get! k).toNat : Int) || !(((s.get! k).toNat : Int) != 95))) := by
              show _ = _
              unfold wordB
              congr 1
              cases h : (((s.get! k).toNat : Int) != 95)
              · rw [bne_eq_false_iff_eq] at h; simp [h]
              · rw [bne_iff_ne] at h; simp [h]
            have HGo : Hid (wordB ((s.get! k).toNat : Int) = true → allB wordB s (k + 1) = true) := fun h => by rw [allB_succ, HA.out, h]; rfl
            have HSt : Hid (wordB ((s.get! k).toNat : Int) = false → isWordB s = false) := fun h => by rw [HW.out, allB_false hlt h]; rfl
            clear HW HA
            go_wp2_with fail
            go_at_call 111
            refine (HS2.out _).mono ?_
            rintro e w' ⟨rfl, hw⟩
            obtain rfl := hw.symm
            clear hw
            go_wp2_with fail
            go_at_call 110
            refine (HD2.out _).mono ?_
            rintro e w' ⟨rfl, hw⟩
            obtain rfl := hw.symm
            clear hw HD2 HS2
            cases e1 : smallB ((s.get! k).toNat : Int)
            · cases e2 : digitB ((s.get! k).toNat : Int)
              · cases e3 : (((s.get! k).toNat : Int) != 95)
                · have HE := HGo.out (by rw [HWd.out, e1, e2, e3]; rfl)
                  have HE2 : Hid (allB wordB s (k + 1) = true) := HE
                  clear HE HGo HSt HWd
                  go_wp2
                  go_round
                  case rel => exact ⟨k + 1, by omega, by go_num, HE2⟩
                  case measure => simp [intOf]; omega
                · have HE2 : Hid (isWordB s = false) := HSt.out (by rw [HWd.out, e1, e2, e3]; rfl)
                  clear HGo HSt HWd
                  go_wp2
                  go_ret
                  exact ⟨by rw [HE2.out]; rfl, rfl⟩
              · have HE2 : Hid (allB wordB s (k + 1) = true) := HGo.out (by rw [HWd.out, e1, e2]; rfl)
                clear HGo HSt HWd
                go_wp2
                go_round
                case rel => exact ⟨k + 1, by omega, by go_num, HE2⟩
                case measure => simp [intOf]; omega
            · have HE2 : Hid (allB wordB s (k + 1) = true) := HGo.out (by rw [HWd.out, e1]; rfl)
              clear HGo HSt HWd
              go_wp2
              go_round
              case rel => exact ⟨k + 1, by omega, by go_num, HE2⟩
              case measure => simp [intOf]; omega
          · obtain rfl : k = s.size := by omega
            have HE2 : Hid (isWordB s = true) := by show _ = _; rw [HW.out, HA.out]; rfl
            clear HW HA
            go_wp2
            go_ret
            exact ⟨by rw [HE2.out]; rfl, rfl⟩
      · rw [h1, h2] at HW
        go_enter Tryz.func148, Tryz.ntmps148
        go_wp2
        go_ret
        exact ⟨by rw [HW.out]; rfl, rfl⟩
    · rw [h1] at HW
      go_enter Tryz.func148, Tryz.ntmps148
      go_wp2
      go_ret
      exact ⟨by rw [HW.out]; rfl, rfl⟩

set_option maxHeartbeats 4000000 in
theorem rname_any (s : ByteArray) (hs : s.size ≤ 140737488351232) (w : World) : Calls Tryz.prog 87 #[.string s] w fun e w' => e = .returned (.bool (isNameB s)) ∧ w' = w := by
  have H1 : Hid (∀ w, Calls Tryz.prog 148 #[.string s] w fun e w' => e = .returned (.bool (isWordB s)) ∧ w' = w) := fun w => rword_any s hs w
  have H2 : Hid (∀ w, Calls Tryz.prog 149 #[.string s] w fun e w' => e = .returned (.bool (keptL s.toList)) ∧ w' = w) := fun w => rkept_any s w
  have H3 : Hid (∀ w, Calls Tryz.prog 90 #[.string s] w fun e w' => e = .returned (.int .i64 (kidsL s.toList)) ∧ w' = w) := fun w => rkids_any s w
  have HV : Hid (isNameB s = (isWordB s && (decide (s.size ≤ 40) && (!(keptL s.toList) && (kidsL s.toList == 0))))) := rfl
  have hd : decide (s.size ≤ 40) = decide ((s.size : Int) ≤ 40) := by by_cases h : s.size ≤ 40 <;> simp [h] <;> omega
  rw [hd] at HV
  clear hd
  generalize isWordB s = b1 at *
  generalize keptL s.toList = b2 at *
  generalize kidsL s.toList = kd at *
  cases b1
  · go_enter Tryz.func87, Tryz.ntmps87
    go_wp2_with (first | (go_at_call 148; refine (H1.out _).mono ?_; rintro e w' ⟨rfl, rfl⟩) | (go_at_call 149; refine (H2.out _).mono ?_; rintro e w' ⟨rfl, rfl⟩) | (go_at_call 90; refine (H3.out _).mono ?_; rintro e w' ⟨rfl, rfl⟩))
    go_ret
    exact ⟨by rw [HV.out]; rfl, rfl⟩
  · cases h40 : decide ((s.size : Int) ≤ 40)
    · go_enter Tryz.func87, Tryz.ntmps87
      go_wp2_with (first | (go_at_call 148; refine (H1.out _).mono ?_; rintro e w' ⟨rfl, rfl⟩) | (go_at_call 149; refine (H2.out _).mono ?_; rintro e w' ⟨rfl, rfl⟩) | (go_at_call 90; refine (H3.out _).mono ?_; rintro e w' ⟨rfl, rfl⟩))
      go_ret
      exact ⟨by rw [HV.out, h40]; rfl, rfl⟩
    · cases b2
      · go_enter Tryz.func87, Tryz.ntmps87
        go_wp2_with (first | (go_at_call 148; refine (H1.out _).mono ?_; rintro e w' ⟨rfl, rfl⟩) | (go_at_call 149; refine (H2.out _).mono ?_; rintro e w' ⟨rfl, rfl⟩) | (go_at_call 90; refine (H3.out _).mono ?_; rintro e w' ⟨rfl, rfl⟩))
        go_ret
        exact ⟨by rw [HV.out, h40]; rfl, rfl⟩
      · go_enter Tryz.func87, Tryz.ntmps87
        go_wp2_with (first | (go_at_call 148; refine (H1.out _).mono ?_; rintro e w' ⟨rfl, rfl⟩) | (go_at_call 149; refine (H2.out _).mono ?_; rintro e w' ⟨rfl, rfl⟩) | (go_at_call 90; refine (H3.out _).mono ?_; rintro e w' ⟨rfl, rfl⟩))
        go_ret
        exact ⟨by rw [HV.out, h40]; rfl, rfl⟩

end Go.Proofs.YthbglakncijahaaGreatDoor
