import Derived.Test.YtbiiapdeincpbaaPointE
namespace Go.Proofs.Ytbiiapdeincpbaa
open Go.RowKit
set_option linter.unusedVariables false
set_option maxRecDepth 100000

set_option maxHeartbeats 1000000 in
theorem whole_any (s : ByteArray) (w : World) (hs : s.size ≤ 140737488351232) :
    Calls Try.prog 12 #[.string s] w fun e w' => e = .returned (.bool (whole s)) ∧ w' = w := by
  go_enter Try.func12, Try.ntmps12
  go_wp2
  go_loop [3, 4, 5, 6] (fun at' p n ok => ∃ (pos fuel : Nat), pos ≤ s.size ∧ at' = .int .i64 pos ∧ s.size ≤ pos + fuel ∧ wholeFrom s fuel pos = whole s) (fun at' _ _ _ => s.size - (intOf at').toNat)
  case atStart => exact ⟨0, s.size, Nat.zero_le _, rfl, by omega, rfl⟩
  case round =>
    obtain ⟨pos, fuel, hpos, rfl, hfu, hw0⟩ := hrel
    have HW : Hid (wholeFrom s fuel pos = whole s) := hw0
    clear hw0
    by_cases hp : pos < s.size
    · have hwd := dec_width s pos
      have hle := dec_le s pos hp
      obtain ⟨f, rfl⟩ : ∃ f, fuel = f + 1 := ⟨fuel - 1, by omega⟩
      have hst := wholeFrom_step s f pos hp
      cases hok : okAt s pos
      · have HS : Hid (whole s = false) := by
          have := HW.out; rw [hst, hok] at this; exact this.symm.trans rfl
        clear hst
        go_wp2_with (go_at_call 28; refine (point_any s pos _ hs hp).mono ?_; rintro e w' ⟨rfl, rfl⟩)
        go_ret
        exact ⟨by rw [HS.out]; rfl, rfl⟩
      · have HS : Hid (wholeFrom s f (pos + (Utf8.decode s pos).2) = whole s) := by
          have := HW.out; rw [hst, hok, Bool.true_and] at this; exact this
        clear hst
        go_wp2_with (go_at_call 28; refine (point_any s pos _ hs hp).mono ?_; rintro e w' ⟨rfl, rfl⟩)
        go_round
        case rel => exact ⟨pos + (Utf8.decode s pos).2, f, hle, by go_num, by omega, HS.out⟩
        case measure => simp [intOf]; omega
    · have HS : Hid (whole s = true) := by
        have := HW.out; rw [wholeFrom_end s fuel pos hp] at this; exact this.symm
      go_wp2
      go_ret
      exact ⟨by rw [HS.out]; rfl, rfl⟩

end Go.Proofs.Ytbiiapdeincpbaa
