/- Texts of the proof, put together: AKid, ANam. -/
import Derived.Test.YthbglakncijahaaGreatDoorAw01
namespace Go.Proofs.YthbglakncijahaaGreatDoor
open Go.RowKit
set_option linter.unusedVariables false
set_option maxRecDepth 100000

/-- how many kids a function takes -/
def kidsL (l : List UInt8) : Int := cond (l == [108, 101, 110]) 1 (cond (l == [116, 101, 120, 116]) 1 (cond (l == [116, 97, 103]) 1 (cond (l == [107, 105, 100, 115]) 1 (cond (l == [105, 110, 116]) 2 (cond (l == [110, 111, 100, 101]) 2 (cond (l == [97, 116]) 3 (0)))))))
set_option maxHeartbeats 4000000 in
theorem rkids_any (s : ByteArray) (w : World) : Calls Tryz.prog 90 #[.string s] w fun e w' => e = .returned (.int .i64 (kidsL s.toList)) ∧ w' = w := by
  cases h1 : s.toList == [108, 101, 110]
  · cases h2 : s.toList == [116, 101, 120, 116]
    · cases h3 : s.toList == [116, 97, 103]
      · cases h4 : s.toList == [107, 105, 100, 115]
        · cases h5 : s.toList == [105, 110, 116]
          · cases h6 : s.toList == [110, 111, 100, 101]
            · cases h7 : s.toList == [97, 116]
              · have HV : Hid (kidsL s.toList = 0) := by show _ = _; simp only [kidsL, h1, h2, h3, h4, h5, h6, h7, cond_false]
                go_enter Tryz.func90, Tryz.ntmps90
                go_wp2
                go_ret
                exact ⟨by rw [HV.out]; rfl, rfl⟩
              · have HV : Hid (kidsL s.toList = 3) := by show _ = _; simp only [kidsL, h1, h2, h3, h4, h5, h6, h7, cond_true, cond_false]
                go_enter Tryz.func90, Tryz.ntmps90
                go_wp2
                go_ret
                exact ⟨by rw [HV.out]; rfl, rfl⟩
            · have HV : Hid (kidsL s.toList = 2) := by show _ = _; simp only [kidsL, h1, h2, h3, h4, h5, h6, cond_true, cond_false]
              go_enter Tryz.func90, Tryz.ntmps90
              go_wp2
              go_ret
              exact ⟨by rw [HV.out]; rfl, rfl⟩
          · have HV : Hid (kidsL s.toList = 2) := by show _ = _; simp only [kidsL, h1, h2, h3, h4, h5, cond_true, cond_false]
            go_enter Tryz.func90, Tryz.ntmps90
            go_wp2
            go_ret
            exact ⟨by rw [HV.out]; rfl, rfl⟩
        · have HV : Hid (kidsL s.toList = 1) := by show _ = _; simp only [kidsL, h1, h2, h3, h4, cond_true, cond_false]
          go_enter Tryz.func90, Tryz.ntmps90
          go_wp2
          go_ret
          exact ⟨by rw [HV.out]; rfl, rfl⟩
      · have HV : Hid (kidsL s.toList = 1) := by show _ = _; simp only [kidsL, h1, h2, h3, cond_true, cond_false]
        go_enter Tryz.func90, Tryz.ntmps90
        go_wp2
        go_ret
        exact ⟨by rw [HV.out]; rfl, rfl⟩
    · have HV : Hid (kidsL s.toList = 1) := by show _ = _; simp only [kidsL, h1, h2, cond_true, cond_false]
      go_enter Tryz.func90, Tryz.ntmps90
      go_wp2
      go_ret
      exact ⟨by rw [HV.out]; rfl, rfl⟩
  · have HV : Hid (kidsL s.toList = 1) := by show _ = _; simp only [kidsL, h1, cond_true]
    go_enter Tryz.func90, Tryz.ntmps90
    go_wp2
    go_ret
    exact ⟨by rw [HV.out]; rfl, rfl⟩
set_option maxHeartbeats 4000000 in
theorem takes_any (s : ByteArray) (w : World) : Calls Tryz.prog 95 #[.string s] w fun e w' => e = .returned (.int .i64 (kidsL s.toList)) ∧ w' = w := by
  cases h1 : s.toList == [108, 101, 110]
  · cases h2 : s.toList == [116, 101, 120, 116]
    · cases h3 : s.toList == [116, 97, 103]
      · cases h4 : s.toList == [107, 105, 100, 115]
        · cases h5 : s.toList == [105, 110, 116]
          · cases h6 : s.toList == [110, 111, 100, 101]
            · cases h7 : s.toList == [97, 116]
              · have HV : Hid (kidsL s.toList = 0) := by show _ = _; simp only [kidsL, h1, h2, h3, h4, h5, h6, h7, cond_false]
                go_enter Tryz.func95, Tryz.ntmps95
                go_wp2
                go_ret
                exact ⟨by rw [HV.out]; rfl, rfl⟩
              · have HV : Hid (kidsL s.toList = 3) := by show _ = _; simp only [kidsL, h1, h2, h3, h4, h5, h6, h7, cond_true, cond_false]
                go_enter Tryz.func95, Tryz.ntmps95
                go_wp2
                go_ret
                exact ⟨by rw [HV.out]; rfl, rfl⟩
            · have HV : Hid (kidsL s.toList = 2) := by show _ = _; simp only [kidsL, h1, h2, h3, h4, h5, h6, cond_true, cond_false]
              go_enter Tryz.func95, Tryz.ntmps95
              go_wp2
              go_ret
              exact ⟨by rw [HV.out]; rfl, rfl⟩
          · have HV : Hid (kidsL s.toList = 2) := by show _ = _; simp only [kidsL, h1, h2, h3, h4, h5, cond_true, cond_false]
            go_enter Tryz.func95, Tryz.ntmps95
            go_wp2
            go_ret
            exact ⟨by rw [HV.out]; rfl, rfl⟩
        · have HV : Hid (kidsL s.toList = 1) := by show _ = _; simp only [kidsL, h1, h2, h3, h4, cond_true, cond_false]
          go_enter Tryz.func95, Tryz.ntmps95
          go_wp2
          go_ret
          exact ⟨by rw [HV.out]; rfl, rfl⟩
      · have HV : Hid (kidsL s.toList = 1) := by show _ = _; simp only [kidsL, h1, h2, h3, cond_true, cond_false]
        go_enter Tryz.func95, Tryz.ntmps95
        go_wp2
        go_ret
        exact ⟨by rw [HV.out]; rfl, rfl⟩
    · have HV : Hid (kidsL s.toList = 1) := by show _ = _; simp only [kidsL, h1, h2, cond_true, cond_false]
      go_enter Tryz.func95, Tryz.ntmps95
      go_wp2
      go_ret
      exact ⟨by rw [HV.out]; rfl, rfl⟩
  · have HV : Hid (kidsL s.toList = 1) := by show _ = _; simp only [kidsL, h1, cond_true]
    go_enter Tryz.func95, Tryz.ntmps95
    go_wp2
    go_ret
    exact ⟨by rw [HV.out]; rfl, rfl⟩
/-- how loose an operator is -/
def lvlL (l : List UInt8) : Int := cond (l == [61, 61]) 0 (cond (l == [60]) 0 (cond (l == [43]) 1 (cond (l == [45]) 1 (cond (l == [43, 43]) 1 (cond (l == [42]) 2 (cond (l == [47]) 2 (cond (l == [37]) 2 (-1))))))))
set_option maxHeartbeats 4000000 in
theorem rlevel_any (s : ByteArray) (w : World) : Calls Tryz.prog 89 #[.string s] w fun e w' => e = .returned (.int .i64 (lvlL s.toList)) ∧ w' = w := by
  cases h1 : s.toList == [61, 61]
  · cases h2 : s.toList == [60]
    · cases h3 : s.toList == [43]
      · cases h4 : s.toList == [45]
        · cases h5 : s.toList == [43, 43]
          · cases h6 : s.toList == [42]
            · cases h7 : s.toList == [47]
              · cases h8 : s.toList == [37]
                · have HV : Hid (lvlL s.toList = -1) := by show _ = _; simp only [lvlL, h1, h2, h3, h4, h5, h6, h7, h8, cond_false]
                  go_enter Tryz.func89, Tryz.ntmps89
                  go_wp2
                  go_ret
                  exact ⟨by rw [HV.out]; rfl, rfl⟩
                · have HV : Hid (lvlL s.toList = 2) := by show _ = _; simp only [lvlL, h1, h2, h3, h4, h5, h6, h7, h8, cond_true, cond_false]
                  go_enter Tryz.func89, Tryz.ntmps89
                  go_wp2
                  go_ret
                  exact ⟨by rw [HV.out]; rfl, rfl⟩
              · have HV : Hid (lvlL s.toList = 2) := by show _ = _; simp only [lvlL, h1, h2, h3, h4, h5, h6, h7, cond_true, cond_false]
                go_enter Tryz.func89, Tryz.ntmps89
                go_wp2
                go_ret
                exact ⟨by rw [HV.out]; rfl, rfl⟩
            · have HV : Hid (lvlL s.toList = 2) := by show _ = _; simp only [lvlL, h1, h2, h3, h4, h5, h6, cond_true, cond_false]
              go_enter Tryz.func89, Tryz.ntmps89
              go_wp2
              go_ret
              exact ⟨by rw [HV.out]; rfl, rfl⟩
          · have HV : Hid (lvlL s.toList = 1) := by show _ = _; simp only [lvlL, h1, h2, h3, h4, h5, cond_true, cond_false]
            go_enter Tryz.func89, Tryz.ntmps89
            go_wp2
            go_ret
            exact ⟨by rw [HV.out]; rfl, rfl⟩
        · have HV : Hid (lvlL s.toList = 1) := by show _ = _; simp only [lvlL, h1, h2, h3, h4, cond_true, cond_false]
          go_enter Tryz.func89, Tryz.ntmps89
          go_wp2
          go_ret
          exact ⟨by rw [HV.out]; rfl, rfl⟩
      · have HV : Hid (lvlL s.toList = 1) := by show _ = _; simp only [lvlL, h1, h2, h3, cond_true, cond_false]
        go_enter Tryz.func89, Tryz.ntmps89
        go_wp2
        go_ret
        exact ⟨by rw [HV.out]; rfl, rfl⟩
    · have HV : Hid (lvlL s.toList = 0) := by show _ = _; simp only [lvlL, h1, h2, cond_true, cond_false]
      go_enter Tryz.func89, Tryz.ntmps89
      go_wp2
      go_ret
      exact ⟨by rw [HV.out]; rfl, rfl⟩
  · have HV : Hid (lvlL s.toList = 0) := by show _ = _; simp only [lvlL, h1, cond_true]
    go_enter Tryz.func89, Tryz.ntmps89
    go_wp2
    go_ret
    exact ⟨by rw [HV.out]; rfl, rfl⟩
/-- .. in the program -/
def lvlP (l : List UInt8) : Int := cond (l == [61, 61]) 1 (cond (l == [60]) 1 (cond (l == [43]) 2 (cond (l == [45]) 2 (cond (l == [43, 43]) 2 (cond (l == [42]) 3 (cond (l == [47]) 3 (cond (l == [37]) 3 (5))))))))
set_option maxHeartbeats 4000000 in
theorem level_any (s : ByteArray) (w : World) : Calls Tryz.prog 94 #[.string s] w fun e w' => e = .returned (.int .i64 (lvlP s.toList)) ∧ w' = w := by
  cases h1 : s.toList == [61, 61]
  · cases h2 : s.toList == [60]
    · cases h3 : s.toList == [43]
      · cases h4 : s.toList == [45]
        · cases h5 : s.toList == [43, 43]
          · cases h6 : s.toList == [42]
            · cases h7 : s.toList == [47]
              · cases h8 : s.toList == [37]
                · have HV : Hid (lvlP s.toList = 5) := by show _ = _; simp only [lvlP, h1, h2, h3, h4, h5, h6, h7, h8, cond_false]
                  go_enter Tryz.func94, Tryz.ntmps94
                  go_wp2
                  go_ret
                  exact ⟨by rw [HV.out]; rfl, rfl⟩
                · have HV : Hid (lvlP s.toList = 3) := by show _ = _; simp only [lvlP, h1, h2, h3, h4, h5, h6, h7, h8, cond_true, cond_false]
                  go_enter Tryz.func94, Tryz.ntmps94
                  go_wp2
                  go_ret
                  exact ⟨by rw [HV.out]; rfl, rfl⟩
              · have HV : Hid (lvlP s.toList = 3) := by show _ = _; simp only [lvlP, h1, h2, h3, h4, h5, h6, h7, cond_true, cond_false]
                go_enter Tryz.func94, Tryz.ntmps94
                go_wp2
                go_ret
                exact ⟨by rw [HV.out]; rfl, rfl⟩
            · have HV : Hid (lvlP s.toList = 3) := by show _ = _; simp only [lvlP, h1, h2, h3, h4, h5, h6, cond_true, cond_false]
              go_enter Tryz.func94, Tryz.ntmps94
              go_wp2
              go_ret
              exact ⟨by rw [HV.out]; rfl, rfl⟩
          · have HV : Hid (lvlP s.toList = 2) := by show _ = _; simp only [lvlP, h1, h2, h3, h4, h5, cond_true, cond_false]
            go_enter Tryz.func94, Tryz.ntmps94
            go_wp2
            go_ret
            exact ⟨by rw [HV.out]; rfl, rfl⟩
        · have HV : Hid (lvlP s.toList = 2) := by show _ = _; simp only [lvlP, h1, h2, h3, h4, cond_true, cond_false]
          go_enter Tryz.func94, Tryz.ntmps94
          go_wp2
          go_ret
          exact ⟨by rw [HV.out]; rfl, rfl⟩
      · have HV : Hid (lvlP s.toList = 2) := by show _ = _; simp only [lvlP, h1, h2, h3, cond_true, cond_false]
        go_enter Tryz.func94, Tryz.ntmps94
        go_wp2
        go_ret
        exact ⟨by rw [HV.out]; rfl, rfl⟩
    · have HV : Hid (lvlP s.toList = 1) := by show _ = _; simp only [lvlP, h1, h2, cond_true, cond_false]
      go_enter Tryz.func94, Tryz.ntmps94
      go_wp2
      go_ret
      exact ⟨by rw [HV.out]; rfl, rfl⟩
  · have HV : Hid (lvlP s.toList = 1) := by show _ = _; simp only [lvlP, h1, cond_true]
    go_enter Tryz.func94, Tryz.ntmps94
    go_wp2
    go_ret
    exact ⟨by rw [HV.out]; rfl, rfl⟩
/-- is it a word? -/
def keptL (l : List UInt8) : Bool := cond (l == [108, 101, 116]) true (cond (l == [105, 110]) true (cond (l == [105, 102]) true (cond (l == [116, 104, 101, 110]) true (cond (l == [101, 108, 115, 101]) true (false)))))
set_option maxHeartbeats 4000000 in
theorem rkept_any (s : ByteArray) (w : World) : Calls Tryz.prog 149 #[.string s] w fun e w' => e = .returned (.bool (keptL s.toList)) ∧ w' = w := by
  cases h1 : s.toList == [108, 101, 116]
  · cases h2 : s.toList == [105, 110]
    · cases h3 : s.toList == [105, 102]
      · cases h4 : s.toList == [116, 104, 101, 110]
        · cases h5 : s.toList == [101, 108, 115, 101]
          · have HV : Hid (keptL s.toList = false) := by show _ = _; simp only [keptL, h1, h2, h3, h4, h5, cond_false]
            go_enter Tryz.func149, Tryz.ntmps149
            go_wp2
            go_ret
            exact ⟨by rw [HV.out]; rfl, rfl⟩
          · have HV : Hid (keptL s.toList = true) := by show _ = _; simp only [keptL, h1, h2, h3, h4, h5, cond_true, cond_false]
            go_enter Tryz.func149, Tryz.ntmps149
            go_wp2
            go_ret
            exact ⟨by rw [HV.out]; rfl, rfl⟩
        · have HV : Hid (keptL s.toList = true) := by show _ = _; simp only [keptL, h1, h2, h3, h4, cond_true, cond_false]
          go_enter Tryz.func149, Tryz.ntmps149
          go_wp2
          go_ret
          exact ⟨by rw [HV.out]; rfl, rfl⟩
      · have HV : Hid (keptL s.toList = true) := by show _ = _; simp only [keptL, h1, h2, h3, cond_true, cond_false]
        go_enter Tryz.func149, Tryz.ntmps149
        go_wp2
        go_ret
        exact ⟨by rw [HV.out]; rfl, rfl⟩
    · have HV : Hid (keptL s.toList = true) := by show _ = _; simp only [keptL, h1, h2, cond_true, cond_false]
      go_enter Tryz.func149, Tryz.ntmps149
      go_wp2
      go_ret
      exact ⟨by rw [HV.out]; rfl, rfl⟩
  · have HV : Hid (keptL s.toList = true) := by show _ = _; simp only [keptL, h1, cond_true]
    go_enter Tryz.func149, Tryz.ntmps149
    go_wp2
    go_ret
    exact ⟨by rw [HV.out]; rfl, rfl⟩
set_option maxHeartbeats 4000000 in
theorem keyword_any (s : ByteArray) (w : World) : Calls Tryz.prog 153 #[.string s] w fun e w' => e = .returned (.bool (keptL s.toList)) ∧ w' = w := by
  cases h1 : s.toList == [108, 101, 116]
  · cases h2 : s.toList == [105, 110]
    · cases h3 : s.toList == [105, 102]
      · cases h4 : s.toList == [116, 104, 101, 110]
        · cases h5 : s.toList == [101, 108, 115, 101]
          · have HV : Hid (keptL s.toList = false) := by show _ = _; simp only [keptL, h1, h2, h3, h4, h5, cond_false]
            go_enter Tryz.func153, Tryz.ntmps153
            go_wp2
            go_ret
            exact ⟨by rw [HV.out]; rfl, rfl⟩
          · have HV : Hid (keptL s.toList = true) := by show _ = _; simp only [keptL, h1, h2, h3, h4, h5, cond_true, cond_false]
            go_enter Tryz.func153, Tryz.ntmps153
            go_wp2
            go_ret
            exact ⟨by rw [HV.out]; rfl, rfl⟩
        · have HV : Hid (keptL s.toList = true) := by show _ = _; simp only [keptL, h1, h2, h3, h4, cond_true, cond_false]
          go_enter Tryz.func153, Tryz.ntmps153
          go_wp2
          go_ret
          exact ⟨by rw [HV.out]; rfl, rfl⟩
      · have HV : Hid (keptL s.toList = true) := by show _ = _; simp only [keptL, h1, h2, h3, cond_true, cond_false]
        go_enter Tryz.func153, Tryz.ntmps153
        go_wp2
        go_ret
        exact ⟨by rw [HV.out]; rfl, rfl⟩
    · have HV : Hid (keptL s.toList = true) := by show _ = _; simp only [keptL, h1, h2, cond_true, cond_false]
      go_enter Tryz.func153, Tryz.ntmps153
      go_wp2
      go_ret
      exact ⟨by rw [HV.out]; rfl, rfl⟩
  · have HV : Hid (keptL s.toList = true) := by show _ = _; simp only [keptL, h1, cond_true]
    go_enter Tryz.func153, Tryz.ntmps153
    go_wp2
    go_ret
    exact ⟨by rw [HV.out]; rfl, rfl⟩
theorem lvl_both (l : List UInt8) : lvlP l = if lvlL l < 0 then 5 else lvlL l + 1 := by
  unfold lvlP lvlL
  repeat' (first | (generalize hx : (l == _) = b; cases b <;> simp only [cond_true, cond_false]) | rfl)

end Go.Proofs.YthbglakncijahaaGreatDoor

namespace Go.Proofs.YthbglakncijahaaGreatDoor
open Go.RowKit
set_option linter.unusedVariables false
set_option maxRecDepth 100000

def smallB (b : Int) : Bool := decide (b ≥ 97) && decide (b ≤ 122)
def digitB (b : Int) : Bool := decide (b ≥ 48) && decide (b ≤ 57)
def wordB (b : Int) : Bool := smallB b || digitB b || decide (b = 95)

set_option maxHeartbeats 1000000 in
theorem rsmall_any (b : Int) (w : World) : Calls Tryz.prog 111 #[.int .u8 b] w fun e w' => e = .returned (.bool (smallB b)) ∧ w' = w := by
  unfold smallB
  cases h1 : decide (b ≥ 97)
  all_goals
    cases h2 : decide (b ≤ 122)
    all_goals
      go_enter Tryz.func111, Tryz.ntmps111
      go_wp2
      go_ret
      exact ⟨rfl, rfl⟩
set_option maxHeartbeats 1000000 in
theorem rdigit_any (b : Int) (w : World) : Calls Tryz.prog 110 #[.int .u8 b] w fun e w' => e = .returned (.bool (digitB b)) ∧ w' = w := by
  unfold digitB
  cases h1 : decide (b ≥ 48)
  all_goals
    cases h2 : decide (b ≤ 57)
    all_goals
      go_enter Tryz.func110, Tryz.ntmps110
      go_wp2
      go_ret
      exact ⟨rfl, rfl⟩
set_option maxHeartbeats 1000000 in
theorem asmall_any (b : Int) (w : World) : Calls Tryz.prog 152 #[.int .u8 b] w fun e w' => e = .returned (.bool (smallB b)) ∧ w' = w := by
  unfold smallB
  cases h1 : decide (b ≥ 97)
  all_goals
    cases h2 : decide (b ≤ 122)
    all_goals
      go_enter Tryz.func152, Tryz.ntmps152
      go_wp2
      go_ret
      exact ⟨rfl, rfl⟩
set_option maxHeartbeats 1000000 in
theorem adigit_any (b : Int) (w : World) : Calls Tryz.prog 176 #[.int .u8 b] w fun e w' => e = .returned (.bool (digitB b)) ∧ w' = w := by
  unfold digitB
  cases h1 : decide (b ≥ 48)
  all_goals
    cases h2 : decide (b ≤ 57)
    all_goals
      go_enter Tryz.func176, Tryz.ntmps176
      go_wp2
      go_ret
      exact ⟨rfl, rfl⟩

end Go.Proofs.YthbglakncijahaaGreatDoor
