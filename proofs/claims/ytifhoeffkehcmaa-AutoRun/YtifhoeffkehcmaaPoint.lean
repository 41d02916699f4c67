import Derived.Test.YtifhoeffkehcmaaProg
import Derived.Test.YtifhoeffkehcmaaPlain
import Derived.WalkKit
import Derived.WalkSpells
import Derived.WalkLawsBesides
namespace Go.Proofs.Ytifhoeffkehcmaa
open Go.RowKit
set_option linter.unusedVariables false
set_option linter.unusedSimpArgs false
set_option maxRecDepth 100000

def byteAt (s : ByteArray) (k : Nat) : Nat := (s.get! k).toNat
def folB (s : ByteArray) (k : Nat) (lo hi : Int) : Bool := decide (k < s.size) && (decide (lo ≤ (byteAt s k : Int)) && decide ((byteAt s k : Int) ≤ hi))

theorem byteAt_get (s : ByteArray) (k : Nat) (h : k < s.size) : byteAt s k = s[k].toNat := by
  unfold byteAt
  have := get_at s k h
  rw [Nat.add_zero] at this
  rw [this]
theorem byteAt_lt (s : ByteArray) (k : Nat) : byteAt s k < 256 := (s.get! k).toNat_lt
theorem wrap_byte (b : UInt8) : wrap64 (b.toNat : Int) = (b.toNat : Int) := by
  have := b.toNat_lt
  unfold wrap64; omega

set_option maxHeartbeats 400000 in
theorem follow_any (s : ByteArray) (k : Nat) (lo hi : Int) (w : World) (hs : s.size ≤ 140737488351232) :
    Calls Try.prog 43 #[.string s, .int .i64 k, .int .i64 lo, .int .i64 hi] w fun e w' => e = .returned (.bool (folB s k lo hi)) ∧ w' = w := by
  by_cases hlt : k < s.size
  · have hg := byteAt_get s k hlt
    have hw := wrap_byte s[k]
    by_cases h1 : lo ≤ (s[k].toNat : Int)
    · by_cases h2 : (s[k].toNat : Int) ≤ hi
      · go_enter Try.func43, Try.ntmps43
        go_wp2
        go_ret
        exact ⟨by simp [folB, hlt, hg, h1, h2], rfl⟩
      · go_enter Try.func43, Try.ntmps43
        go_wp2
        go_ret
        exact ⟨by simp [folB, hlt, hg, h1, h2], rfl⟩
    · go_enter Try.func43, Try.ntmps43
      go_wp2
      go_ret
      exact ⟨by simp [folB, hlt, hg]; intro h; omega, rfl⟩
  · go_enter Try.func43, Try.ntmps43
    go_wp2
    go_ret
    exact ⟨by simp [folB, hlt], rfl⟩

set_option maxHeartbeats 400000 in
theorem pt_ascii (s : ByteArray) (k : Nat) (w : World) (hs : s.size ≤ 140737488351232) (hk : k < s.size) (c1 : (s[k].toNat : Int) < 128) :
    Calls Try.prog 29 #[.string s, .int .i64 k] w fun e w' => e = .returned (.tuple #[.int .i64 s[k].toNat, .int .i64 1, .bool true]) ∧ w' = w := by
  have hw := wrap_byte s[k]
  go_enter Try.func29, Try.ntmps29
  go_wp2
  go_ret3
  exact ⟨rfl, rfl⟩

set_option maxHeartbeats 1000000 in
theorem pt_2_f (s : ByteArray) (k : Nat) (w : World) (hs : s.size ≤ 140737488351232) (hk : k < s.size)  (c1 : 194 ≤ (s[k].toNat : Int)) (c2 : (s[k].toNat : Int) ≤ 223) (f1 : folB s (k + 1) 128 191 = false) :
    Calls Try.prog 29 #[.string s, .int .i64 k] w fun e w' => e = .returned (.tuple #[.int .i64 65533, .int .i64 1, .bool false]) ∧ w' = w := by
  have hw := wrap_byte s[k]
  go_enter Try.func29, Try.ntmps29
  go_wp2_with (go_at_call 43; refine (follow_any s (k + 1) 128 191 _ hs).mono ?_; rintro e w' ⟨rfl, rfl⟩)
  refine wp_loop_rounds 1 ?_
  rw [rounds_succ]
  go_wp2_with fail
  go_ret3
  exact ⟨rfl, rfl⟩

set_option maxHeartbeats 1000000 in
theorem pt_2_t (s : ByteArray) (k : Nat) (w : World) (hs : s.size ≤ 140737488351232) (hk : k < s.size) (hk1 : k + 1 < s.size) (c1 : 194 ≤ (s[k].toNat : Int)) (c2 : (s[k].toNat : Int) ≤ 223) (f1 : folB s (k + 1) 128 191 = true) :
    Calls Try.prog 29 #[.string s, .int .i64 k] w fun e w' => e = .returned (.tuple #[.int .i64 (((s[k].toNat : Int) - 192) * 64 + s[k + 1].toNat - 128), .int .i64 2, .bool true]) ∧ w' = w := by
  have hw := wrap_byte s[k]
  have hw1 := wrap_byte s[k + 1]
  have hb1 : (s[k + 1].toNat : Int) ≤ 255 := by have := s[k + 1].toNat_lt; omega
  go_enter Try.func29, Try.ntmps29
  go_wp2_with (go_at_call 43; refine (follow_any s (k + 1) 128 191 _ hs).mono ?_; rintro e w' ⟨rfl, rfl⟩)
  refine wp_loop_rounds 1 ?_
  rw [rounds_succ]
  go_wp2_with fail
  refine wp_loop_rounds 2 ?_
  rw [rounds_succ]
  go_wp2_with fail
  rw [rounds_succ]
  go_wp2_with fail
  go_ret3
  exact ⟨rfl, rfl⟩

set_option maxHeartbeats 1000000 in
theorem pt_z (s : ByteArray) (k : Nat) (w : World) (hs : s.size ≤ 140737488351232) (hk : k < s.size) (c1 : 128 ≤ (s[k].toNat : Int)) (c2 : (s[k].toNat : Int) < 194 ∨ 244 < (s[k].toNat : Int)) :
    Calls Try.prog 29 #[.string s, .int .i64 k] w fun e w' => e = .returned (.tuple #[.int .i64 65533, .int .i64 1, .bool false]) ∧ w' = w := by
  have hw := wrap_byte s[k]
  rcases c2 with c2 | c2
  all_goals
    go_enter Try.func29, Try.ntmps29
    go_wp2_with fail
    refine wp_loop_rounds 1 ?_
    rw [rounds_succ]
    go_wp2_with fail
    go_ret3
    exact ⟨rfl, rfl⟩


end Go.Proofs.Ytifhoeffkehcmaa
