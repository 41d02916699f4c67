/- Texts of the proof, put together: Whole, ABlk. -/
import Derived.Test.YthbglakncijahaaGreatDoorAw05
import Derived.Test.YthbglakncijahaaGreatDoorAw02
namespace Go.Proofs.YthbglakncijahaaGreatDoor
open Go.RowKit
set_option linter.unusedVariables false
set_option maxRecDepth 100000

set_option maxHeartbeats 1000000 in
theorem whole_any (s : ByteArray) (w : World) (hs : s.size ≤ 140737488351232) :
    Calls Tryz.prog 88 #[.string s] w fun e w' => e = .returned (.bool (whole s)) ∧ w' = w := by
  go_enter Tryz.func88, Tryz.ntmps88
  go_wp2
  go_loop [3, 4, 5, 6] (fun at' p n ok => ∃ (pos fuel : Nat), pos ≤ s.size ∧ at' = .int .i64 pos ∧ s.size ≤ pos + fuel ∧ wholeFrom s fuel pos = whole s) (fun at' _ _ _ => s.size - (intOf at').toNat)
  case atStart => exact ⟨0, s.size, Nat.zero_le _, rfl, by omega, rfl⟩
  case round =>
    obtain ⟨pos, fuel, hpos, rfl, hfu, hw0⟩ := hrel
    have HW : Hid (wholeFrom s fuel pos = whole s) := hw0
    clear hw0
    by_cases hp : pos < s.size
    · have hwd := dec_width s pos
      have hle := dec_le s pos hp
      obtain ⟨f, rfl⟩ : ∃ f, fuel = f + 1 := ⟨fuel - 1, by omega⟩
      have hst := wholeFrom_step s f pos hp
      cases hok : okAt s pos
      · have HS : Hid (whole s = false) := by
          have := HW.out; rw [hst, hok] at this; exact this.symm.trans rfl
        clear hst
        go_wp2_with (go_at_call 150; refine (point_any s pos _ hs hp).mono ?_; rintro e w' ⟨rfl, rfl⟩)
        go_ret
        exact ⟨by rw [HS.out]; rfl, rfl⟩
      · have HS : Hid (wholeFrom s f (pos + (Utf8.decode s pos).2) = whole s) := by
          have := HW.out; rw [hst, hok, Bool.true_and] at this; exact this
        clear hst
        go_wp2_with (go_at_call 150; refine (point_any s pos _ hs hp).mono ?_; rintro e w' ⟨rfl, rfl⟩)
        go_round
        case rel => exact ⟨pos + (Utf8.decode s pos).2, f, hle, by go_num, by omega, HS.out⟩
        case measure => simp [intOf]; omega
    · have HS : Hid (whole s = true) := by
        have := HW.out; rw [wholeFrom_end s fuel pos hp] at this; exact this.symm
      go_wp2
      go_ret
      exact ⟨by rw [HS.out]; rfl, rfl⟩

end Go.Proofs.YthbglakncijahaaGreatDoor

namespace Go.Proofs.YthbglakncijahaaGreatDoor
open Go.RowKit
set_option linter.unusedVariables false
set_option maxRecDepth 100000

theorem get_bangA (s : ByteArray) (k : Nat) : s.get! k = (s.data[k]?).getD 0 := by
  show s.data[k]! = _
  rw [getElem!_def]
  cases h : s.data[k]? <;> rfl
theorem get_atA (s : ByteArray) (i : Nat) (h : i < s.size) : s[i]'h = s.get! i := by
  rw [get_bangA]
  have h2 : i < s.data.size := h
  rw [Array.getElem?_eq_getElem h2]
  rfl
theorem bang_lt (s : ByteArray) (k : Nat) : (s.get! k).toNat < 256 := (s.get! k).toNat_lt

/-- where what P says of bytes ends -/
def runE (P : Int → Bool) (s : ByteArray) : Nat → Nat → Nat
  | 0, i => i
  | f + 1, i => if i < s.size ∧ P ((s.get! i).toNat : Int) = true then runE P s f (i + 1) else i
def run (P : Int → Bool) (s : ByteArray) (i : Nat) : Nat := runE P s (s.size - i) i
theorem run_step {P : Int → Bool} {s : ByteArray} {i : Nat} (h : i < s.size) (hp : P ((s.get! i).toNat : Int) = true) : run P s i = run P s (i + 1) := by
  unfold run
  rw [show s.size - i = (s.size - (i + 1)) + 1 by omega, runE, if_pos ⟨h, hp⟩]
theorem run_stop {P : Int → Bool} {s : ByteArray} {i : Nat} (h : i < s.size → P ((s.get! i).toNat : Int) = false) : run P s i = i := by
  unfold run
  cases hf : s.size - i with
  | zero => rfl
  | succ f =>
    rw [runE, if_neg]
    rintro ⟨h1, h2⟩
    rw [h h1] at h2
    cases h2
theorem runE_le (P : Int → Bool) (s : ByteArray) : ∀ (f i : Nat), i ≤ s.size → i ≤ runE P s f i ∧ runE P s f i ≤ s.size
  | 0, i, h => ⟨Nat.le_refl _, h⟩
  | f + 1, i, h => by
    rw [runE]
    split
    · rename_i hc
      have := runE_le P s f (i + 1) (by omega)
      omega
    · omega
theorem run_le (P : Int → Bool) (s : ByteArray) {i : Nat} (h : i ≤ s.size) : i ≤ run P s i ∧ run P s i ≤ s.size := runE_le P s _ i h
theorem runE_end (P : Int → Bool) (s : ByteArray) : ∀ (f i : Nat), s.size ≤ i + f → runE P s f i < s.size → P ((s.get! (runE P s f i)).toNat : Int) = false
  | 0, i, h, hl => by rw [runE] at hl; omega
  | f + 1, i, h, hl => by
    rw [runE] at hl ⊢
    split
    · rename_i hc
      rw [if_pos hc] at hl
      exact runE_end P s f (i + 1) (by omega) hl
    · rename_i hc
      rw [if_neg hc] at hl
      have : ¬ P ((s.get! i).toNat : Int) = true := fun h2 => hc ⟨hl, h2⟩
      simpa using this
theorem run_end (P : Int → Bool) (s : ByteArray) (i : Nat) (h : run P s i < s.size) : P ((s.get! (run P s i)).toNat : Int) = false := runE_end P s _ i (by omega) h
theorem runE_all (P : Int → Bool) (s : ByteArray) : ∀ (f i k : Nat), i ≤ k → k < runE P s f i → P ((s.get! k).toNat : Int) = true
  | 0, i, k, h, hl => by rw [runE] at hl; omega
  | f + 1, i, k, h, hl => by
    rw [runE] at hl
    split at hl
    · rename_i hc
      by_cases e : k = i
      · subst e; exact hc.2
      · exact runE_all P s f (i + 1) k (by omega) hl
    · omega
theorem run_all {P : Int → Bool} {s : ByteArray} {i k : Nat} (h : i ≤ k) (hl : k < run P s i) : P ((s.get! k).toNat : Int) = true := runE_all P s _ i k h hl

def blankB (b : Int) : Bool := b == 32 || b == 10

set_option maxHeartbeats 2000000 in
theorem rblanks_e (s : ByteArray) (i : Nat) (w : World) (hi : i ≤ s.size) (hs : s.size ≤ 140737488351232) :
    Calls Tryz.prog 109 #[.string s, .int .i64 i, .bool false] w fun e w' => e = .returned (.tuple #[.int .i64 (run blankB s i), .bool true]) ∧ w' = w := by
  go_enter Tryz.func109, Tryz.ntmps109
  go_wp2
  go_loop [1, 8, 9, 10, 11] (fun a _ _ _ _ => ∃ pos : Nat, pos ≤ s.size ∧ a = .int .i64 pos ∧ Hid (run blankB s pos = run blankB s i)) (fun a _ _ _ _ => s.size - (intOf a).toNat)
  case atStart => exact ⟨i, hi, rfl, rfl⟩
  case round =>
    obtain ⟨pos, hp, rfl, HR⟩ := hrel
    by_cases hlt : pos < s.size
    · have hb := get_atA s pos hlt
      cases h1 : (((s.get! pos).toNat : Int) == 32)
      · cases h2 : (((s.get! pos).toNat : Int) == 10)
        · have HV : Hid (run blankB s i = pos) := by
            show _ = _
            rw [← HR.out]
            exact run_stop fun _ => by simp only [blankB, h1, h2, Bool.or_self]
          go_wp2
          go_ret2
          exact ⟨by rw [HV.out]; rfl, rfl⟩
        · have HV : Hid (run blankB s (pos + 1) = run blankB s i) := by
            show _ = _
            rw [← HR.out]
            exact (run_step hlt (by simp only [blankB, h1, h2, Bool.or_true])).symm
          go_wp2
          go_round
          case rel => exact ⟨pos + 1, by omega, by go_num, HV⟩
          case measure => simp [intOf]; omega
      · have HV : Hid (run blankB s (pos + 1) = run blankB s i) := by
          show _ = _
          rw [← HR.out]
          exact (run_step hlt (by simp only [blankB, h1, Bool.true_or])).symm
        go_wp2
        go_round
        case rel => exact ⟨pos + 1, by omega, by go_num, HV⟩
        case measure => simp [intOf]; omega
    · have HV : Hid (run blankB s i = pos) := by
        show _ = _
        rw [← HR.out]
        exact run_stop fun h => absurd h hlt
      go_wp2
      go_ret2
      exact ⟨by rw [HV.out]; rfl, rfl⟩

end Go.Proofs.YthbglakncijahaaGreatDoor
