/- Texts of the proof, put together: PointB, PointC, PointD. -/
import Derived.Test.YtgmmfpdekefamaaGreatDoorAt01
namespace Go.Proofs.YtgmmfpdekefamaaGreatDoor
open Go.RowKit
set_option linter.unusedVariables false
set_option linter.unusedSimpArgs false
set_option maxRecDepth 100000

set_option maxHeartbeats 1000000 in
theorem pt_3a_f (s : ByteArray) (k : Nat) (w : World) (hs : s.size ≤ 140737488351232) (hk : k < s.size)  (c1 : 224 ≤ (s[k].toNat : Int)) (c2 : (s[k].toNat : Int) ≤ 224) (f1 : folB s (k + 1) 160 191 = false) :
  Calls Tryz.prog 150 #[.string s, .int .i64 k] w fun e w' => e = .returned (.tuple #[.int .i64 65533, .int .i64 1, .bool false]) ∧ w' = w := by
 have hw := wrap_byte s[k]
 have e0 : ((s[k].toNat : Int) == 224) = true := by rw [beq_iff_eq]; omega
 have e1 : ((s[k].toNat : Int) == 237) = false := by rw [beq_eq_false_iff_ne]; omega
 go_enter Tryz.func150, Tryz.ntmps150
 go_wp2_with (go_at_call 175; refine (follow_any s (k + 1) 160 191 _ hs).mono ?_; rintro e w' ⟨rfl, rfl⟩)
 refine wp_loop_rounds 1 ?_
 rw [rounds_succ]
 go_wp2_with fail
 go_ret3
 exact ⟨rfl, rfl⟩

set_option maxHeartbeats 1000000 in
theorem pt_3a_tf (s : ByteArray) (k : Nat) (w : World) (hs : s.size ≤ 140737488351232) (hk : k < s.size)  (c1 : 224 ≤ (s[k].toNat : Int)) (c2 : (s[k].toNat : Int) ≤ 224) (f1 : folB s (k + 1) 160 191 = true) (f2 : folB s (k + 2) 128 191 = false) :
  Calls Tryz.prog 150 #[.string s, .int .i64 k] w fun e w' => e = .returned (.tuple #[.int .i64 65533, .int .i64 1, .bool false]) ∧ w' = w := by
 have hw := wrap_byte s[k]
 have e0 : ((s[k].toNat : Int) == 224) = true := by rw [beq_iff_eq]; omega
 have e1 : ((s[k].toNat : Int) == 237) = false := by rw [beq_eq_false_iff_ne]; omega
 go_enter Tryz.func150, Tryz.ntmps150
 go_wp2_with (go_at_call 175; refine (follow_any s (k + 1) 160 191 _ hs).mono ?_; rintro e w' ⟨rfl, rfl⟩)
 refine wp_loop_rounds 2 ?_
 rw [rounds_succ]
 go_wp2_with (go_at_call 175; refine (follow_any s (k + 2) 128 191 _ hs).mono ?_; rintro e w' ⟨rfl, rfl⟩)
 rw [rounds_succ]
 go_wp2_with fail
 go_ret3
 exact ⟨rfl, rfl⟩

set_option maxHeartbeats 1000000 in
theorem pt_3a_tt (s : ByteArray) (k : Nat) (w : World) (hs : s.size ≤ 140737488351232) (hk : k < s.size) (hk1 : k + 1 < s.size) (hk2 : k + 2 < s.size) (c1 : 224 ≤ (s[k].toNat : Int)) (c2 : (s[k].toNat : Int) ≤ 224) (f1 : folB s (k + 1) 160 191 = true) (f2 : folB s (k + 2) 128 191 = true) :
  Calls Tryz.prog 150 #[.string s, .int .i64 k] w fun e w' => e = .returned (.tuple #[.int .i64 ((((s[k].toNat : Int) - 224) * 64 + s[k + 1].toNat - 128) * 64 + s[k + 2].toNat - 128), .int .i64 3, .bool true]) ∧ w' = w := by
 have hw := wrap_byte s[k]
 have e0 : ((s[k].toNat : Int) == 224) = true := by rw [beq_iff_eq]; omega
 have e1 : ((s[k].toNat : Int) == 237) = false := by rw [beq_eq_false_iff_ne]; omega
 have hw1 := wrap_byte s[k + 1]
 have hb1 : (s[k + 1].toNat : Int) ≤ 255 := by have := s[k + 1].toNat_lt; omega
 have hw2 := wrap_byte s[k + 2]
 have hb2 : (s[k + 2].toNat : Int) ≤ 255 := by have := s[k + 2].toNat_lt; omega
 go_enter Tryz.func150, Tryz.ntmps150
 go_wp2_with (go_at_call 175; refine (follow_any s (k + 1) 160 191 _ hs).mono ?_; rintro e w' ⟨rfl, rfl⟩)
 refine wp_loop_rounds 2 ?_
 rw [rounds_succ]
 go_wp2_with (go_at_call 175; refine (follow_any s (k + 2) 128 191 _ hs).mono ?_; rintro e w' ⟨rfl, rfl⟩)
 rw [rounds_succ]
 go_wp2_with fail
 refine wp_loop_rounds 3 ?_
 rw [rounds_succ]
 go_wp2_with fail
 rw [rounds_succ]
 go_wp2_with fail
 rw [rounds_succ]
 go_wp2_with fail
 go_ret3
 exact ⟨rfl, rfl⟩

set_option maxHeartbeats 1000000 in
theorem pt_3b_f (s : ByteArray) (k : Nat) (w : World) (hs : s.size ≤ 140737488351232) (hk : k < s.size)  (c1 : 237 ≤ (s[k].toNat : Int)) (c2 : (s[k].toNat : Int) ≤ 237) (f1 : folB s (k + 1) 128 159 = false) :
  Calls Tryz.prog 150 #[.string s, .int .i64 k] w fun e w' => e = .returned (.tuple #[.int .i64 65533, .int .i64 1, .bool false]) ∧ w' = w := by
 have hw := wrap_byte s[k]
 have e0 : ((s[k].toNat : Int) == 224) = false := by rw [beq_eq_false_iff_ne]; omega
 have e1 : ((s[k].toNat : Int) == 237) = true := by rw [beq_iff_eq]; omega
 go_enter Tryz.func150, Tryz.ntmps150
 go_wp2_with (go_at_call 175; refine (follow_any s (k + 1) 128 159 _ hs).mono ?_; rintro e w' ⟨rfl, rfl⟩)
 refine wp_loop_rounds 1 ?_
 rw [rounds_succ]
 go_wp2_with fail
 go_ret3
 exact ⟨rfl, rfl⟩

set_option maxHeartbeats 1000000 in
theorem pt_3b_tf (s : ByteArray) (k : Nat) (w : World) (hs : s.size ≤ 140737488351232) (hk : k < s.size)  (c1 : 237 ≤ (s[k].toNat : Int)) (c2 : (s[k].toNat : Int) ≤ 237) (f1 : folB s (k + 1) 128 159 = true) (f2 : folB s (k + 2) 128 191 = false) :
  Calls Tryz.prog 150 #[.string s, .int .i64 k] w fun e w' => e = .returned (.tuple #[.int .i64 65533, .int .i64 1, .bool false]) ∧ w' = w := by
 have hw := wrap_byte s[k]
 have e0 : ((s[k].toNat : Int) == 224) = false := by rw [beq_eq_false_iff_ne]; omega
 have e1 : ((s[k].toNat : Int) == 237) = true := by rw [beq_iff_eq]; omega
 go_enter Tryz.func150, Tryz.ntmps150
 go_wp2_with (go_at_call 175; refine (follow_any s (k + 1) 128 159 _ hs).mono ?_; rintro e w' ⟨rfl, rfl⟩)
 refine wp_loop_rounds 2 ?_
 rw [rounds_succ]
 go_wp2_with (go_at_call 175; refine (follow_any s (k + 2) 128 191 _ hs).mono ?_; rintro e w' ⟨rfl, rfl⟩)
 rw [rounds_succ]
 go_wp2_with fail
 go_ret3
 exact ⟨rfl, rfl⟩

set_option maxHeartbeats 1000000 in
theorem pt_3b_tt (s : ByteArray) (k : Nat) (w : World) (hs : s.size ≤ 140737488351232) (hk : k < s.size) (hk1 : k + 1 < s.size) (hk2 : k + 2 < s.size) (c1 : 237 ≤ (s[k].toNat : Int)) (c2 : (s[k].toNat : Int) ≤ 237) (f1 : folB s (k + 1) 128 159 = true) (f2 : folB s (k + 2) 128 191 = true) :
  Calls Tryz.prog 150 #[.string s, .int .i64 k] w fun e w' => e = .returned (.tuple #[.int .i64 ((((s[k].toNat : Int) - 224) * 64 + s[k + 1].toNat - 128) * 64 + s[k + 2].toNat - 128), .int .i64 3, .bool true]) ∧ w' = w := by
 have hw := wrap_byte s[k]
 have e0 : ((s[k].toNat : Int) == 224) = false := by rw [beq_eq_false_iff_ne]; omega
 have e1 : ((s[k].toNat : Int) == 237) = true := by rw [beq_iff_eq]; omega
 have hw1 := wrap_byte s[k + 1]
 have hb1 : (s[k + 1].toNat : Int) ≤ 255 := by have := s[k + 1].toNat_lt; omega
 have hw2 := wrap_byte s[k + 2]
 have hb2 : (s[k + 2].toNat : Int) ≤ 255 := by have := s[k + 2].toNat_lt; omega
 go_enter Tryz.func150, Tryz.ntmps150
 go_wp2_with (go_at_call 175; refine (follow_any s (k + 1) 128 159 _ hs).mono ?_; rintro e w' ⟨rfl, rfl⟩)
 refine wp_loop_rounds 2 ?_
 rw [rounds_succ]
 go_wp2_with (go_at_call 175; refine (follow_any s (k + 2) 128 191 _ hs).mono ?_; rintro e w' ⟨rfl, rfl⟩)
 rw [rounds_succ]
 go_wp2_with fail
 refine wp_loop_rounds 3 ?_
 rw [rounds_succ]
 go_wp2_with fail
 rw [rounds_succ]
 go_wp2_with fail
 rw [rounds_succ]
 go_wp2_with fail
 go_ret3
 exact ⟨rfl, rfl⟩

set_option maxHeartbeats 1000000 in
theorem pt_3c_f (s : ByteArray) (k : Nat) (w : World) (hs : s.size ≤ 140737488351232) (hk : k < s.size)  (c1 : 224 ≤ (s[k].toNat : Int)) (c2 : (s[k].toNat : Int) ≤ 239) (c3 : ((s[k].toNat : Int) == 224) = false) (c4 : ((s[k].toNat : Int) == 237) = false) (f1 : folB s (k + 1) 128 191 = false) :
  Calls Tryz.prog 150 #[.string s, .int .i64 k] w fun e w' => e = .returned (.tuple #[.int .i64 65533, .int .i64 1, .bool false]) ∧ w' = w := by
 have hw := wrap_byte s[k]
 go_enter Tryz.func150, Tryz.ntmps150
 go_wp2_with (go_at_call 175; refine (follow_any s (k + 1) 128 191 _ hs).mono ?_; rintro e w' ⟨rfl, rfl⟩)
 refine wp_loop_rounds 1 ?_
 rw [rounds_succ]
 go_wp2_with fail
 go_ret3
 exact ⟨rfl, rfl⟩

set_option maxHeartbeats 1000000 in
theorem pt_3c_tf (s : ByteArray) (k : Nat) (w : World) (hs : s.size ≤ 140737488351232) (hk : k < s.size)  (c1 : 224 ≤ (s[k].toNat : Int)) (c2 : (s[k].toNat : Int) ≤ 239) (c3 : ((s[k].toNat : Int) == 224) = false) (c4 : ((s[k].toNat : Int) == 237) = false) (f1 : folB s (k + 1) 128 191 = true) (f2 : folB s (k + 2) 128 191 = false) :
  Calls Tryz.prog 150 #[.string s, .int .i64 k] w fun e w' => e = .returned (.tuple #[.int .i64 65533, .int .i64 1, .bool false]) ∧ w' = w := by
 have hw := wrap_byte s[k]
 go_enter Tryz.func150, Tryz.ntmps150
 go_wp2_with (go_at_call 175; refine (follow_any s (k + 1) 128 191 _ hs).mono ?_; rintro e w' ⟨rfl, rfl⟩)
 refine wp_loop_rounds 2 ?_
 rw [rounds_succ]
 go_wp2_with (go_at_call 175; refine (follow_any s (k + 2) 128 191 _ hs).mono ?_; rintro e w' ⟨rfl, rfl⟩)
 rw [rounds_succ]
 go_wp2_with fail
 go_ret3
 exact ⟨rfl, rfl⟩

set_option maxHeartbeats 1000000 in
theorem pt_3c_tt (s : ByteArray) (k : Nat) (w : World) (hs : s.size ≤ 140737488351232) (hk : k < s.size) (hk1 : k + 1 < s.size) (hk2 : k + 2 < s.size) (c1 : 224 ≤ (s[k].toNat : Int)) (c2 : (s[k].toNat : Int) ≤ 239) (c3 : ((s[k].toNat : Int) == 224) = false) (c4 : ((s[k].toNat : Int) == 237) = false) (f1 : folB s (k + 1) 128 191 = true) (f2 : folB s (k + 2) 128 191 = true) :
  Calls Tryz.prog 150 #[.string s, .int .i64 k] w fun e w' => e = .returned (.tuple #[.int .i64 ((((s[k].toNat : Int) - 224) * 64 + s[k + 1].toNat - 128) * 64 + s[k + 2].toNat - 128), .int .i64 3, .bool true]) ∧ w' = w := by
 have hw := wrap_byte s[k]
 have hw1 := wrap_byte s[k + 1]
 have hb1 : (s[k + 1].toNat : Int) ≤ 255 := by have := s[k + 1].toNat_lt; omega
 have hw2 := wrap_byte s[k + 2]
 have hb2 : (s[k + 2].toNat : Int) ≤ 255 := by have := s[k + 2].toNat_lt; omega
 go_enter Tryz.func150, Tryz.ntmps150
 go_wp2_with (go_at_call 175; refine (follow_any s (k + 1) 128 191 _ hs).mono ?_; rintro e w' ⟨rfl, rfl⟩)
 refine wp_loop_rounds 2 ?_
 rw [rounds_succ]
 go_wp2_with (go_at_call 175; refine (follow_any s (k + 2) 128 191 _ hs).mono ?_; rintro e w' ⟨rfl, rfl⟩)
 rw [rounds_succ]
 go_wp2_with fail
 refine wp_loop_rounds 3 ?_
 rw [rounds_succ]
 go_wp2_with fail
 rw [rounds_succ]
 go_wp2_with fail
 rw [rounds_succ]
 go_wp2_with fail
 go_ret3
 exact ⟨rfl, rfl⟩


end Go.Proofs.YtgmmfpdekefamaaGreatDoor

namespace Go.Proofs.YtgmmfpdekefamaaGreatDoor
open Go.RowKit
set_option linter.unusedVariables false
set_option linter.unusedSimpArgs false
set_option maxRecDepth 100000

set_option maxHeartbeats 1000000 in
theorem pt_4a_f (s : ByteArray) (k : Nat) (w : World) (hs : s.size ≤ 140737488351232) (hk : k < s.size)  (c1 : 240 ≤ (s[k].toNat : Int)) (c2 : (s[k].toNat : Int) ≤ 240) (f1 : folB s (k + 1) 144 191 = false) :
  Calls Tryz.prog 150 #[.string s, .int .i64 k] w fun e w' => e = .returned (.tuple #[.int .i64 65533, .int .i64 1, .bool false]) ∧ w' = w := by
 have hw := wrap_byte s[k]
 have e0 : ((s[k].toNat : Int) == 240) = true := by rw [beq_iff_eq]; omega
 have e1 : ((s[k].toNat : Int) == 244) = false := by rw [beq_eq_false_iff_ne]; omega
 go_enter Tryz.func150, Tryz.ntmps150
 go_wp2_with (go_at_call 175; refine (follow_any s (k + 1) 144 191 _ hs).mono ?_; rintro e w' ⟨rfl, rfl⟩)
 refine wp_loop_rounds 1 ?_
 rw [rounds_succ]
 go_wp2_with fail
 go_ret3
 exact ⟨rfl, rfl⟩

set_option maxHeartbeats 1000000 in
theorem pt_4a_tf (s : ByteArray) (k : Nat) (w : World) (hs : s.size ≤ 140737488351232) (hk : k < s.size)  (c1 : 240 ≤ (s[k].toNat : Int)) (c2 : (s[k].toNat : Int) ≤ 240) (f1 : folB s (k + 1) 144 191 = true) (f2 : folB s (k + 2) 128 191 = false) :
  Calls Tryz.prog 150 #[.string s, .int .i64 k] w fun e w' => e = .returned (.tuple #[.int .i64 65533, .int .i64 1, .bool false]) ∧ w' = w := by
 have hw := wrap_byte s[k]
 have e0 : ((s[k].toNat : Int) == 240) = true := by rw [beq_iff_eq]; omega
 have e1 : ((s[k].toNat : Int) == 244) = false := by rw [beq_eq_false_iff_ne]; omega
 go_enter Tryz.func150, Tryz.ntmps150
 go_wp2_with (go_at_call 175; refine (follow_any s (k + 1) 144 191 _ hs).mono ?_; rintro e w' ⟨rfl, rfl⟩)
 refine wp_loop_rounds 2 ?_
 rw [rounds_succ]
 go_wp2_with (go_at_call 175; refine (follow_any s (k + 2) 128 191 _ hs).mono ?_; rintro e w' ⟨rfl, rfl⟩)
 rw [rounds_succ]
 go_wp2_with fail
 go_ret3
 exact ⟨rfl, rfl⟩

set_option maxHeartbeats 1000000 in
theorem pt_4a_ttf (s : ByteArray) (k : Nat) (w : World) (hs : s.size ≤ 140737488351232) (hk : k < s.size)  (c1 : 240 ≤ (s[k].toNat : Int)) (c2 : (s[k].toNat : Int) ≤ 240) (f1 : folB s (k + 1) 144 191 = true) (f2 : folB s (k + 2) 128 191 = true) (f3 : folB s (k + 3) 128 191 = false) :
  Calls Tryz.prog 150 #[.string s, .int .i64 k] w fun e w' => e = .returned (.tuple #[.int .i64 65533, .int .i64 1, .bool false]) ∧ w' = w := by
 have hw := wrap_byte s[k]
 have e0 : ((s[k].toNat : Int) == 240) = true := by rw [beq_iff_eq]; omega
 have e1 : ((s[k].toNat : Int) == 244) = false := by rw [beq_eq_false_iff_ne]; omega
 go_enter Tryz.func150, Tryz.ntmps150
 go_wp2_with (go_at_call 175; refine (follow_any s (k + 1) 144 191 _ hs).mono ?_; rintro e w' ⟨rfl, rfl⟩)
 refine wp_loop_rounds 3 ?_
 rw [rounds_succ]
 go_wp2_with (go_at_call 175; refine (follow_any s (k + 2) 128 191 _ hs).mono ?_; rintro e w' ⟨rfl, rfl⟩)
 rw [rounds_succ]
 go_wp2_with (go_at_call 175; refine (follow_any s (k + 3) 128 191 _ hs).mono ?_; rintro e w' ⟨rfl, rfl⟩)
 rw [rounds_succ]
 go_wp2_with fail
 go_ret3
 exact ⟨rfl, rfl⟩

set_option maxHeartbeats 1000000 in
theorem pt_4a_ttt (s : ByteArray) (k : Nat) (w : World) (hs : s.size ≤ 140737488351232) (hk : k < s.size) (hk1 : k + 1 < s.size) (hk2 : k + 2 < s.size) (hk3 : k + 3 < s.size) (c1 : 240 ≤ (s[k].toNat : Int)) (c2 : (s[k].toNat : Int) ≤ 240) (f1 : folB s (k + 1) 144 191 = true) (f2 : folB s (k + 2) 128 191 = true) (f3 : folB s (k + 3) 128 191 = true) :
  Calls Tryz.prog 150 #[.string s, .int .i64 k] w fun e w' => e = .returned (.tuple #[.int .i64 (((((s[k].toNat : Int) - 240) * 64 + s[k + 1].toNat - 128) * 64 + s[k + 2].toNat - 128) * 64 + s[k + 3].toNat - 128), .int .i64 4, .bool true]) ∧ w' = w := by
 have hw := wrap_byte s[k]
 have e0 : ((s[k].toNat : Int) == 240) = true := by rw [beq_iff_eq]; omega
 have e1 : ((s[k].toNat : Int) == 244) = false := by rw [beq_eq_false_iff_ne]; omega
 have hw1 := wrap_byte s[k + 1]
 have hb1 : (s[k + 1].toNat : Int) ≤ 255 := by have := s[k + 1].toNat_lt; omega
 have hw2 := wrap_byte s[k + 2]
 have hb2 : (s[k + 2].toNat : Int) ≤ 255 := by have := s[k + 2].toNat_lt; omega
 have hw3 := wrap_byte s[k + 3]
 have hb3 : (s[k + 3].toNat : Int) ≤ 255 := by have := s[k + 3].toNat_lt; omega
 go_enter Tryz.func150, Tryz.ntmps150
 go_wp2_with (go_at_call 175; refine (follow_any s (k + 1) 144 191 _ hs).mono ?_; rintro e w' ⟨rfl, rfl⟩)
 refine wp_loop_rounds 3 ?_
 rw [rounds_succ]
 go_wp2_with (go_at_call 175; refine (follow_any s (k + 2) 128 191 _ hs).mono ?_; rintro e w' ⟨rfl, rfl⟩)
 rw [rounds_succ]
 go_wp2_with (go_at_call 175; refine (follow_any s (k + 3) 128 191 _ hs).mono ?_; rintro e w' ⟨rfl, rfl⟩)
 rw [rounds_succ]
 go_wp2_with fail
 refine wp_loop_rounds 4 ?_
 rw [rounds_succ]
 go_wp2_with fail
 rw [rounds_succ]
 go_wp2_with fail
 rw [rounds_succ]
 go_wp2_with fail
 rw [rounds_succ]
 go_wp2_with fail
 go_ret3
 exact ⟨rfl, rfl⟩

set_option maxHeartbeats 1000000 in
theorem pt_4b_f (s : ByteArray) (k : Nat) (w : World) (hs : s.size ≤ 140737488351232) (hk : k < s.size)  (c1 : 244 ≤ (s[k].toNat : Int)) (c2 : (s[k].toNat : Int) ≤ 244) (f1 : folB s (k + 1) 128 143 = false) :
  Calls Tryz.prog 150 #[.string s, .int .i64 k] w fun e w' => e = .returned (.tuple #[.int .i64 65533, .int .i64 1, .bool false]) ∧ w' = w := by
 have hw := wrap_byte s[k]
 have e0 : ((s[k].toNat : Int) == 240) = false := by rw [beq_eq_false_iff_ne]; omega
 have e1 : ((s[k].toNat : Int) == 244) = true := by rw [beq_iff_eq]; omega
 go_enter Tryz.func150, Tryz.ntmps150
 go_wp2_with (go_at_call 175; refine (follow_any s (k + 1) 128 143 _ hs).mono ?_; rintro e w' ⟨rfl, rfl⟩)
 refine wp_loop_rounds 1 ?_
 rw [rounds_succ]
 go_wp2_with fail
 go_ret3
 exact ⟨rfl, rfl⟩

set_option maxHeartbeats 1000000 in
theorem pt_4b_tf (s : ByteArray) (k : Nat) (w : World) (hs : s.size ≤ 140737488351232) (hk : k < s.size)  (c1 : 244 ≤ (s[k].toNat : Int)) (c2 : (s[k].toNat : Int) ≤ 244) (f1 : folB s (k + 1) 128 143 = true) (f2 : folB s (k + 2) 128 191 = false) :
  Calls Tryz.prog 150 #[.string s, .int .i64 k] w fun e w' => e = .returned (.tuple #[.int .i64 65533, .int .i64 1, .bool false]) ∧ w' = w := by
 have hw := wrap_byte s[k]
 have e0 : ((s[k].toNat : Int) == 240) = false := by rw [beq_eq_false_iff_ne]; omega
 have e1 : ((s[k].toNat : Int) == 244) = true := by rw [beq_iff_eq]; omega
 go_enter Tryz.func150, Tryz.ntmps150
 go_wp2_with (go_at_call 175; refine (follow_any s (k + 1) 128 143 _ hs).mono ?_; rintro e w' ⟨rfl, rfl⟩)
 refine wp_loop_rounds 2 ?_
 rw [rounds_succ]
 go_wp2_with (go_at_call 175; refine (follow_any s (k + 2) 128 191 _ hs).mono ?_; rintro e w' ⟨rfl, rfl⟩)
 rw [rounds_succ]
 go_wp2_with fail
 go_ret3
 exact ⟨rfl, rfl⟩

set_option maxHeartbeats 1000000 in
theorem pt_4b_ttf (s : ByteArray) (k : Nat) (w : World) (hs : s.size ≤ 140737488351232) (hk : k < s.size)  (c1 : 244 ≤ (s[k].toNat : Int)) (c2 : (s[k].toNat : Int) ≤ 244) (f1 : folB s (k + 1) 128 143 = true) (f2 : folB s (k + 2) 128 191 = true) (f3 : folB s (k + 3) 128 191 = false) :
  Calls Tryz.prog 150 #[.string s, .int .i64 k] w fun e w' => e = .returned (.tuple #[.int .i64 65533, .int .i64 1, .bool false]) ∧ w' = w := by
 have hw := wrap_byte s[k]
 have e0 : ((s[k].toNat : Int) == 240) = false := by rw [beq_eq_false_iff_ne]; omega
 have e1 : ((s[k].toNat : Int) == 244) = true := by rw [beq_iff_eq]; omega
 go_enter Tryz.func150, Tryz.ntmps150
 go_wp2_with (go_at_call 175; refine (follow_any s (k + 1) 128 143 _ hs).mono ?_; rintro e w' ⟨rfl, rfl⟩)
 refine wp_loop_rounds 3 ?_
 rw [rounds_succ]
 go_wp2_with (go_at_call 175; refine (follow_any s (k + 2) 128 191 _ hs).mono ?_; rintro e w' ⟨rfl, rfl⟩)
 rw [rounds_succ]
 go_wp2_with (go_at_call 175; refine (follow_any s (k + 3) 128 191 _ hs).mono ?_; rintro e w' ⟨rfl, rfl⟩)
 rw [rounds_succ]
 go_wp2_with fail
 go_ret3
 exact ⟨rfl, rfl⟩

set_option maxHeartbeats 1000000 in
theorem pt_4b_ttt (s : ByteArray) (k : Nat) (w : World) (hs : s.size ≤ 140737488351232) (hk : k < s.size) (hk1 : k + 1 < s.size) (hk2 : k + 2 < s.size) (hk3 : k + 3 < s.size) (c1 : 244 ≤ (s[k].toNat : Int)) (c2 : (s[k].toNat : Int) ≤ 244) (f1 : folB s (k + 1) 128 143 = true) (f2 : folB s (k + 2) 128 191 = true) (f3 : folB s (k + 3) 128 191 = true) :
  Calls Tryz.prog 150 #[.string s, .int .i64 k] w fun e w' => e = .returned (.tuple #[.int .i64 (((((s[k].toNat : Int) - 240) * 64 + s[k + 1].toNat - 128) * 64 + s[k + 2].toNat - 128) * 64 + s[k + 3].toNat - 128), .int .i64 4, .bool true]) ∧ w' = w := by
 have hw := wrap_byte s[k]
 have e0 : ((s[k].toNat : Int) == 240) = false := by rw [beq_eq_false_iff_ne]; omega
 have e1 : ((s[k].toNat : Int) == 244) = true := by rw [beq_iff_eq]; omega
 have hw1 := wrap_byte s[k + 1]
 have hb1 : (s[k + 1].toNat : Int) ≤ 255 := by have := s[k + 1].toNat_lt; omega
 have hw2 := wrap_byte s[k + 2]
 have hb2 : (s[k + 2].toNat : Int) ≤ 255 := by have := s[k + 2].toNat_lt; omega
 have hw3 := wrap_byte s[k + 3]
 have hb3 : (s[k + 3].toNat : Int) ≤ 255 := by have := s[k + 3].toNat_lt; omega
 go_enter Tryz.func150, Tryz.ntmps150
 go_wp2_with (go_at_call 175; refine (follow_any s (k + 1) 128 143 _ hs).mono ?_; rintro e w' ⟨rfl, rfl⟩)
 refine wp_loop_rounds 3 ?_
 rw [rounds_succ]
 go_wp2_with (go_at_call 175; refine (follow_any s (k + 2) 128 191 _ hs).mono ?_; rintro e w' ⟨rfl, rfl⟩)
 rw [rounds_succ]
 go_wp2_with (go_at_call 175; refine (follow_any s (k + 3) 128 191 _ hs).mono ?_; rintro e w' ⟨rfl, rfl⟩)
 rw [rounds_succ]
 go_wp2_with fail
 refine wp_loop_rounds 4 ?_
 rw [rounds_succ]
 go_wp2_with fail
 rw [rounds_succ]
 go_wp2_with fail
 rw [rounds_succ]
 go_wp2_with fail
 rw [rounds_succ]
 go_wp2_with fail
 go_ret3
 exact ⟨rfl, rfl⟩


end Go.Proofs.YtgmmfpdekefamaaGreatDoor

namespace Go.Proofs.YtgmmfpdekefamaaGreatDoor
open Go.RowKit
set_option linter.unusedVariables false
set_option linter.unusedSimpArgs false
set_option maxRecDepth 100000

set_option maxHeartbeats 1000000 in
theorem pt_4c_f (s : ByteArray) (k : Nat) (w : World) (hs : s.size ≤ 140737488351232) (hk : k < s.size)  (c1 : 240 ≤ (s[k].toNat : Int)) (c2 : (s[k].toNat : Int) ≤ 244) (c3 : ((s[k].toNat : Int) == 240) = false) (c4 : ((s[k].toNat : Int) == 244) = false) (f1 : folB s (k + 1) 128 191 = false) :
  Calls Tryz.prog 150 #[.string s, .int .i64 k] w fun e w' => e = .returned (.tuple #[.int .i64 65533, .int .i64 1, .bool false]) ∧ w' = w := by
 have hw := wrap_byte s[k]
 go_enter Tryz.func150, Tryz.ntmps150
 go_wp2_with (go_at_call 175; refine (follow_any s (k + 1) 128 191 _ hs).mono ?_; rintro e w' ⟨rfl, rfl⟩)
 refine wp_loop_rounds 1 ?_
 rw [rounds_succ]
 go_wp2_with fail
 go_ret3
 exact ⟨rfl, rfl⟩

set_option maxHeartbeats 1000000 in
theorem pt_4c_tf (s : ByteArray) (k : Nat) (w : World) (hs : s.size ≤ 140737488351232) (hk : k < s.size)  (c1 : 240 ≤ (s[k].toNat : Int)) (c2 : (s[k].toNat : Int) ≤ 244) (c3 : ((s[k].toNat : Int) == 240) = false) (c4 : ((s[k].toNat : Int) == 244) = false) (f1 : folB s (k + 1) 128 191 = true) (f2 : folB s (k + 2) 128 191 = false) :
  Calls Tryz.prog 150 #[.string s, .int .i64 k] w fun e w' => e = .returned (.tuple #[.int .i64 65533, .int .i64 1, .bool false]) ∧ w' = w := by
 have hw := wrap_byte s[k]
 go_enter Tryz.func150, Tryz.ntmps150
 go_wp2_with (go_at_call 175; refine (follow_any s (k + 1) 128 191 _ hs).mono ?_; rintro e w' ⟨rfl, rfl⟩)
 refine wp_loop_rounds 2 ?_
 rw [rounds_succ]
 go_wp2_with (go_at_call 175; refine (follow_any s (k + 2) 128 191 _ hs).mono ?_; rintro e w' ⟨rfl, rfl⟩)
 rw [rounds_succ]
 go_wp2_with fail
 go_ret3
 exact ⟨rfl, rfl⟩

set_option maxHeartbeats 1000000 in
theorem pt_4c_ttf (s : ByteArray) (k : Nat) (w : World) (hs : s.size ≤ 140737488351232) (hk : k < s.size)  (c1 : 240 ≤ (s[k].toNat : Int)) (c2 : (s[k].toNat : Int) ≤ 244) (c3 : ((s[k].toNat : Int) == 240) = false) (c4 : ((s[k].toNat : Int) == 244) = false) (f1 : folB s (k + 1) 128 191 = true) (f2 : folB s (k + 2) 128 191 = true) (f3 : folB s (k + 3) 128 191 = false) :
  Calls Tryz.prog 150 #[.string s, .int .i64 k] w fun e w' => e = .returned (.tuple #[.int .i64 65533, .int .i64 1, .bool false]) ∧ w' = w := by
 have hw := wrap_byte s[k]
 go_enter Tryz.func150, Tryz.ntmps150
 go_wp2_with (go_at_call 175; refine (follow_any s (k + 1) 128 191 _ hs).mono ?_; rintro e w' ⟨rfl, rfl⟩)
 refine wp_loop_rounds 3 ?_
 rw [rounds_succ]
 go_wp2_with (go_at_call 175; refine (follow_any s (k + 2) 128 191 _ hs).mono ?_; rintro e w' ⟨rfl, rfl⟩)
 rw [rounds_succ]
 go_wp2_with (go_at_call 175; refine (follow_any s (k + 3) 128 191 _ hs).mono ?_; rintro e w' ⟨rfl, rfl⟩)
 rw [rounds_succ]
 go_wp2_with fail
 go_ret3
 exact ⟨rfl, rfl⟩

set_option maxHeartbeats 1000000 in
theorem pt_4c_ttt (s : ByteArray) (k : Nat) (w : World) (hs : s.size ≤ 140737488351232) (hk : k < s.size) (hk1 : k + 1 < s.size) (hk2 : k + 2 < s.size) (hk3 : k + 3 < s.size) (c1 : 240 ≤ (s[k].toNat : Int)) (c2 : (s[k].toNat : Int) ≤ 244) (c3 : ((s[k].toNat : Int) == 240) = false) (c4 : ((s[k].toNat : Int) == 244) = false) (f1 : folB s (k + 1) 128 191 = true) (f2 : folB s (k + 2) 128 191 = true) (f3 : folB s (k + 3) 128 191 = true) :
  Calls Tryz.prog 150 #[.string s, .int .i64 k] w fun e w' => e = .returned (.tuple #[.int .i64 (((((s[k].toNat : Int) - 240) * 64 + s[k + 1].toNat - 128) * 64 + s[k + 2].toNat - 128) * 64 + s[k + 3].toNat - 128), .int .i64 4, .bool true]) ∧ w' = w := by
 have hw := wrap_byte s[k]
 have hw1 := wrap_byte s[k + 1]
 have hb1 : (s[k + 1].toNat : Int) ≤ 255 := by have := s[k + 1].toNat_lt; omega
 have hw2 := wrap_byte s[k + 2]
 have hb2 : (s[k + 2].toNat : Int) ≤ 255 := by have := s[k + 2].toNat_lt; omega
 have hw3 := wrap_byte s[k + 3]
 have hb3 : (s[k + 3].toNat : Int) ≤ 255 := by have := s[k + 3].toNat_lt; omega
 go_enter Tryz.func150, Tryz.ntmps150
 go_wp2_with (go_at_call 175; refine (follow_any s (k + 1) 128 191 _ hs).mono ?_; rintro e w' ⟨rfl, rfl⟩)
 refine wp_loop_rounds 3 ?_
 rw [rounds_succ]
 go_wp2_with (go_at_call 175; refine (follow_any s (k + 2) 128 191 _ hs).mono ?_; rintro e w' ⟨rfl, rfl⟩)
 rw [rounds_succ]
 go_wp2_with (go_at_call 175; refine (follow_any s (k + 3) 128 191 _ hs).mono ?_; rintro e w' ⟨rfl, rfl⟩)
 rw [rounds_succ]
 go_wp2_with fail
 refine wp_loop_rounds 4 ?_
 rw [rounds_succ]
 go_wp2_with fail
 rw [rounds_succ]
 go_wp2_with fail
 rw [rounds_succ]
 go_wp2_with fail
 rw [rounds_succ]
 go_wp2_with fail
 go_ret3
 exact ⟨rfl, rfl⟩


end Go.Proofs.YtgmmfpdekefamaaGreatDoor
