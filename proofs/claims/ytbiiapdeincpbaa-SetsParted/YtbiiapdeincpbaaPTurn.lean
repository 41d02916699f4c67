import Derived.Test.YtbiiapdeincpbaaProg
import Derived.WalkKit
import Derived.WalkSpells
import Derived.WalkLawsBesides
namespace Go.Proofs.Ytbiiapdeincpbaa
open Go.RowKit
set_option linter.unusedVariables false
set_option maxRecDepth 100000

set_option maxHeartbeats 400000 in
theorem turn_0 (D : Nat) (d by' : Int) (w : World) (hc : w.cell? ⟨D, 0, none⟩ = some (.int .i64 d)) (hf : w.frozen? ⟨D, 0, none⟩ = false) (h0 : -1000000 ≤ d) (h1 : d ≤ 1000000) (b0 : -1 ≤ by') (b1 : by' ≤ 1) :
    Calls Try.prog 53 #[.int .i64 0, .int .i64 by', .pointer (some ⟨D, 0, none⟩)] w fun e w' => e = .returned (.tuple #[]) ∧ w' = w.setCell ⟨D, 0, none⟩ (.int .i64 (d + by')) := by
  go_enter Try.func53, Try.ntmps53
  go_wp2
  go_end0
  exact ⟨rfl, rfl⟩

set_option maxHeartbeats 400000 in
theorem turn_1 (D : Nat) (d by' : Int) (w : World) (hc : w.cell? ⟨D, 1, none⟩ = some (.int .i64 d)) (hf : w.frozen? ⟨D, 1, none⟩ = false) (h0 : -1000000 ≤ d) (h1 : d ≤ 1000000) (b0 : -1 ≤ by') (b1 : by' ≤ 1) :
    Calls Try.prog 53 #[.int .i64 1, .int .i64 by', .pointer (some ⟨D, 0, none⟩)] w fun e w' => e = .returned (.tuple #[]) ∧ w' = w.setCell ⟨D, 1, none⟩ (.int .i64 (d + by')) := by
  go_enter Try.func53, Try.ntmps53
  go_wp2
  go_end0
  exact ⟨rfl, rfl⟩

set_option maxHeartbeats 400000 in
theorem canon1_any (x y : Bool) (w : World) : Calls Try.prog 34 #[.bool x, .bool y] w fun e w' => e = .returned (.bool x) ∧ w' = w := by
  go_enter Try.func34, Try.ntmps34
  go_wp2
  go_ret
  exact ⟨rfl, rfl⟩
set_option maxHeartbeats 400000 in
theorem other1_any (x y : Bool) (w : World) : Calls Try.prog 42 #[.bool x, .bool y] w fun e w' => e = .returned (.bool (!x)) ∧ w' = w := by
  go_enter Try.func42, Try.ntmps42
  go_wp2
  go_ret
  exact ⟨rfl, rfl⟩
set_option maxHeartbeats 400000 in
theorem join1_any (x y : Bool) (w : World) : Calls Try.prog 35 #[.bool x, .bool y] w fun e w' => e = .returned (.bool (x || y)) ∧ w' = w := by
  cases x
  all_goals
    go_enter Try.func35, Try.ntmps35
    go_wp2
    go_ret
    exact ⟨by simp, rfl⟩
set_option maxHeartbeats 400000 in
theorem meet1_any (x y : Bool) (w : World) : Calls Try.prog 40 #[.bool x, .bool y] w fun e w' => e = .returned (.bool (x && y)) ∧ w' = w := by
  cases x
  all_goals
    go_enter Try.func40, Try.ntmps40
    go_wp2
    go_ret
    exact ⟨by simp, rfl⟩
set_option maxHeartbeats 400000 in
theorem less1_any (x y : Bool) (w : World) : Calls Try.prog 41 #[.bool x, .bool y] w fun e w' => e = .returned (.bool (x && !y)) ∧ w' = w := by
  cases x
  all_goals
    go_enter Try.func41, Try.ntmps41
    go_wp2
    go_ret
    exact ⟨by simp, rfl⟩

end Go.Proofs.Ytbiiapdeincpbaa
