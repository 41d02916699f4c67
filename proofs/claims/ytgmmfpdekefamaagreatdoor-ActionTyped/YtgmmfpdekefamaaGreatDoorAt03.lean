/- Texts of the proof, put together: PointE, Whole, ABlk. -/
import Derived.Test.YtgmmfpdekefamaaGreatDoorAt02
import Derived.Test.YtgmmfpdekefamaaGreatDoorAt01
namespace Go.Proofs.YtgmmfpdekefamaaGreatDoor
open Go.RowKit
set_option linter.unusedVariables false
set_option maxRecDepth 100000

theorem folB_t {s : ByteArray} {k : Nat} {lo hi : Int} (h : folB s k lo hi = true) : k < s.size ∧ lo ≤ (byteAt s k : Int) ∧ (byteAt s k : Int) ≤ hi := by
 simpa [folB] using h
theorem folB_f {s : ByteArray} {k : Nat} {lo hi : Int} (h : folB s k lo hi = false) : ¬ (k < s.size ∧ lo ≤ (byteAt s k : Int) ∧ (byteAt s k : Int) ≤ hi) := by
 intro h2
 simp [folB, h2.1, h2.2.1, h2.2.2] at h
def dN (s : ByteArray) (k : Nat) : Nat × Nat := Lib.decodeN (s.size - k) (byteAt s k) (byteAt s (k + 1)) (byteAt s (k + 2)) (byteAt s (k + 3))
theorem dN_eq (s : ByteArray) (k : Nat) : Utf8.decode s k = dN s k := Lib.decode_at s k
theorem ret_of (s : ByteArray) (k : Nat) {p n : Int} {b : Bool} {P N : Nat} (hd : dN s k = (P, N)) (hp : (P : Int) = p) (hn : (N : Int) = n) (hb : (!(P == 65533 && N == 1)) = b) :
  Ending.returned (.tuple #[.int .i64 p, .int .i64 n, .bool b]) = .returned (.tuple #[.int .i64 (Utf8.decode s k).1, .int .i64 (Utf8.decode s k).2, .bool (okAt s k)]) := by
 subst hp hn hb
 simp only [okAt, dN_eq, hd]

theorem d_2_f (s : ByteArray) (k : Nat) (hk : k < s.size) (c : (194 ≤ byteAt s k ∧ byteAt s k ≤ 223)) (f1 : ¬ (k + 1 < s.size ∧ 128 ≤ (byteAt s (k + 1) : Int) ∧ (byteAt s (k + 1) : Int) ≤ 191)) : dN s k = (65533, 1) := by
 have b0 := byteAt_lt s k
 have b1 := byteAt_lt s (k + 1)
 have b2 := byteAt_lt s (k + 2)
 have b3 := byteAt_lt s (k + 3)
 unfold dN Lib.decodeN
 generalize byteAt s k = x0 at *
 generalize byteAt s (k + 1) = x1 at *
 generalize byteAt s (k + 2) = x2 at *
 generalize byteAt s (k + 3) = x3 at *
 repeat' split
 all_goals first | rfl | (exfalso; omega)

theorem d_2_t (s : ByteArray) (k : Nat) (hk : k < s.size) (c : (194 ≤ byteAt s k ∧ byteAt s k ≤ 223)) (f1 : k + 1 < s.size ∧ 128 ≤ (byteAt s (k + 1) : Int) ∧ (byteAt s (k + 1) : Int) ≤ 191) : dN s k = (byteAt s k % 32 * 64 + byteAt s (k + 1) % 64, 2) := by
 have b0 := byteAt_lt s k
 have b1 := byteAt_lt s (k + 1)
 have b2 := byteAt_lt s (k + 2)
 have b3 := byteAt_lt s (k + 3)
 unfold dN Lib.decodeN
 generalize byteAt s k = x0 at *
 generalize byteAt s (k + 1) = x1 at *
 generalize byteAt s (k + 2) = x2 at *
 generalize byteAt s (k + 3) = x3 at *
 repeat' split
 all_goals first | rfl | (exfalso; omega)

theorem d_3a_f (s : ByteArray) (k : Nat) (hk : k < s.size) (c : byteAt s k = 224) (f1 : ¬ (k + 1 < s.size ∧ 160 ≤ (byteAt s (k + 1) : Int) ∧ (byteAt s (k + 1) : Int) ≤ 191)) : dN s k = (65533, 1) := by
 have b0 := byteAt_lt s k
 have b1 := byteAt_lt s (k + 1)
 have b2 := byteAt_lt s (k + 2)
 have b3 := byteAt_lt s (k + 3)
 unfold dN Lib.decodeN
 generalize byteAt s k = x0 at *
 generalize byteAt s (k + 1) = x1 at *
 generalize byteAt s (k + 2) = x2 at *
 generalize byteAt s (k + 3) = x3 at *
 repeat' split
 all_goals first | rfl | (exfalso; omega)

theorem d_3a_tf (s : ByteArray) (k : Nat) (hk : k < s.size) (c : byteAt s k = 224) (f1 : k + 1 < s.size ∧ 160 ≤ (byteAt s (k + 1) : Int) ∧ (byteAt s (k + 1) : Int) ≤ 191) (f2 : ¬ (k + 2 < s.size ∧ 128 ≤ (byteAt s (k + 2) : Int) ∧ (byteAt s (k + 2) : Int) ≤ 191)) : dN s k = (65533, 1) := by
 have b0 := byteAt_lt s k
 have b1 := byteAt_lt s (k + 1)
 have b2 := byteAt_lt s (k + 2)
 have b3 := byteAt_lt s (k + 3)
 unfold dN Lib.decodeN
 generalize byteAt s k = x0 at *
 generalize byteAt s (k + 1) = x1 at *
 generalize byteAt s (k + 2) = x2 at *
 generalize byteAt s (k + 3) = x3 at *
 repeat' split
 all_goals first | rfl | (exfalso; omega)

theorem d_3a_tt (s : ByteArray) (k : Nat) (hk : k < s.size) (c : byteAt s k = 224) (f1 : k + 1 < s.size ∧ 160 ≤ (byteAt s (k + 1) : Int) ∧ (byteAt s (k + 1) : Int) ≤ 191) (f2 : k + 2 < s.size ∧ 128 ≤ (byteAt s (k + 2) : Int) ∧ (byteAt s (k + 2) : Int) ≤ 191) : dN s k = (byteAt s k % 16 * 4096 + byteAt s (k + 1) % 64 * 64 + byteAt s (k + 2) % 64, 3) := by
 have b0 := byteAt_lt s k
 have b1 := byteAt_lt s (k + 1)
 have b2 := byteAt_lt s (k + 2)
 have b3 := byteAt_lt s (k + 3)
 unfold dN Lib.decodeN
 generalize byteAt s k = x0 at *
 generalize byteAt s (k + 1) = x1 at *
 generalize byteAt s (k + 2) = x2 at *
 generalize byteAt s (k + 3) = x3 at *
 repeat' split
 all_goals first | rfl | (exfalso; omega)

theorem d_3b_f (s : ByteArray) (k : Nat) (hk : k < s.size) (c : byteAt s k = 237) (f1 : ¬ (k + 1 < s.size ∧ 128 ≤ (byteAt s (k + 1) : Int) ∧ (byteAt s (k + 1) : Int) ≤ 159)) : dN s k = (65533, 1) := by
 have b0 := byteAt_lt s k
 have b1 := byteAt_lt s (k + 1)
 have b2 := byteAt_lt s (k + 2)
 have b3 := byteAt_lt s (k + 3)
 unfold dN Lib.decodeN
 generalize byteAt s k = x0 at *
 generalize byteAt s (k + 1) = x1 at *
 generalize byteAt s (k + 2) = x2 at *
 generalize byteAt s (k + 3) = x3 at *
 repeat' split
 all_goals first | rfl | (exfalso; omega)

theorem d_3b_tf (s : ByteArray) (k : Nat) (hk : k < s.size) (c : byteAt s k = 237) (f1 : k + 1 < s.size ∧ 128 ≤ (byteAt s (k + 1) : Int) ∧ (byteAt s (k + 1) : Int) ≤ 159) (f2 : ¬ (k + 2 < s.size ∧ 128 ≤ (byteAt s (k + 2) : Int) ∧ (byteAt s (k + 2) : Int) ≤ 191)) : dN s k = (65533, 1) := by
 have b0 := byteAt_lt s k
 have b1 := byteAt_lt s (k + 1)
 have b2 := byteAt_lt s (k + 2)
 have b3 := byteAt_lt s (k + 3)
 unfold dN Lib.decodeN
 generalize byteAt s k = x0 at *
 generalize byteAt s (k + 1) = x1 at *
 generalize byteAt s (k + 2) = x2 at *
 generalize byteAt s (k + 3) = x3 at *
 repeat' split
 all_goals first | rfl | (exfalso; omega)

theorem d_3b_tt (s : ByteArray) (k : Nat) (hk : k < s.size) (c : byteAt s k = 237) (f1 : k + 1 < s.size ∧ 128 ≤ (byteAt s (k + 1) : Int) ∧ (byteAt s (k + 1) : Int) ≤ 159) (f2 : k + 2 < s.size ∧ 128 ≤ (byteAt s (k + 2) : Int) ∧ (byteAt s (k + 2) : Int) ≤ 191) : dN s k = (byteAt s k % 16 * 4096 + byteAt s (k + 1) % 64 * 64 + byteAt s (k + 2) % 64, 3) := by
 have b0 := byteAt_lt s k
 have b1 := byteAt_lt s (k + 1)
 have b2 := byteAt_lt s (k + 2)
 have b3 := byteAt_lt s (k + 3)
 unfold dN Lib.decodeN
 generalize byteAt s k = x0 at *
 generalize byteAt s (k + 1) = x1 at *
 generalize byteAt s (k + 2) = x2 at *
 generalize byteAt s (k + 3) = x3 at *
 repeat' split
 all_goals first | rfl | (exfalso; omega)

theorem d_3c_f (s : ByteArray) (k : Nat) (hk : k < s.size) (c : (224 ≤ byteAt s k ∧ byteAt s k ≤ 239 ∧ byteAt s k ≠ 224 ∧ byteAt s k ≠ 237)) (f1 : ¬ (k + 1 < s.size ∧ 128 ≤ (byteAt s (k + 1) : Int) ∧ (byteAt s (k + 1) : Int) ≤ 191)) : dN s k = (65533, 1) := by
 have b0 := byteAt_lt s k
 have b1 := byteAt_lt s (k + 1)
 have b2 := byteAt_lt s (k + 2)
 have b3 := byteAt_lt s (k + 3)
 unfold dN Lib.decodeN
 generalize byteAt s k = x0 at *
 generalize byteAt s (k + 1) = x1 at *
 generalize byteAt s (k + 2) = x2 at *
 generalize byteAt s (k + 3) = x3 at *
 repeat' split
 all_goals first | rfl | (exfalso; omega)

theorem d_3c_tf (s : ByteArray) (k : Nat) (hk : k < s.size) (c : (224 ≤ byteAt s k ∧ byteAt s k ≤ 239 ∧ byteAt s k ≠ 224 ∧ byteAt s k ≠ 237)) (f1 : k + 1 < s.size ∧ 128 ≤ (byteAt s (k + 1) : Int) ∧ (byteAt s (k + 1) : Int) ≤ 191) (f2 : ¬ (k + 2 < s.size ∧ 128 ≤ (byteAt s (k + 2) : Int) ∧ (byteAt s (k + 2) : Int) ≤ 191)) : dN s k = (65533, 1) := by
 have b0 := byteAt_lt s k
 have b1 := byteAt_lt s (k + 1)
 have b2 := byteAt_lt s (k + 2)
 have b3 := byteAt_lt s (k + 3)
 unfold dN Lib.decodeN
 generalize byteAt s k = x0 at *
 generalize byteAt s (k + 1) = x1 at *
 generalize byteAt s (k + 2) = x2 at *
 generalize byteAt s (k + 3) = x3 at *
 repeat' split
 all_goals first | rfl | (exfalso; omega)

theorem d_3c_tt (s : ByteArray) (k : Nat) (hk : k < s.size) (c : (224 ≤ byteAt s k ∧ byteAt s k ≤ 239 ∧ byteAt s k ≠ 224 ∧ byteAt s k ≠ 237)) (f1 : k + 1 < s.size ∧ 128 ≤ (byteAt s (k + 1) : Int) ∧ (byteAt s (k + 1) : Int) ≤ 191) (f2 : k + 2 < s.size ∧ 128 ≤ (byteAt s (k + 2) : Int) ∧ (byteAt s (k + 2) : Int) ≤ 191) : dN s k = (byteAt s k % 16 * 4096 + byteAt s (k + 1) % 64 * 64 + byteAt s (k + 2) % 64, 3) := by
 have b0 := byteAt_lt s k
 have b1 := byteAt_lt s (k + 1)
 have b2 := byteAt_lt s (k + 2)
 have b3 := byteAt_lt s (k + 3)
 unfold dN Lib.decodeN
 generalize byteAt s k = x0 at *
 generalize byteAt s (k + 1) = x1 at *
 generalize byteAt s (k + 2) = x2 at *
 generalize byteAt s (k + 3) = x3 at *
 repeat' split
 all_goals first | rfl | (exfalso; omega)

theorem d_4a_f (s : ByteArray) (k : Nat) (hk : k < s.size) (c : byteAt s k = 240) (f1 : ¬ (k + 1 < s.size ∧ 144 ≤ (byteAt s (k + 1) : Int) ∧ (byteAt s (k + 1) : Int) ≤ 191)) : dN s k = (65533, 1) := by
 have b0 := byteAt_lt s k
 have b1 := byteAt_lt s (k + 1)
 have b2 := byteAt_lt s (k + 2)
 have b3 := byteAt_lt s (k + 3)
 unfold dN Lib.decodeN
 generalize byteAt s k = x0 at *
 generalize byteAt s (k + 1) = x1 at *
 generalize byteAt s (k + 2) = x2 at *
 generalize byteAt s (k + 3) = x3 at *
 repeat' split
 all_goals first | rfl | (exfalso; omega)

theorem d_4a_tf (s : ByteArray) (k : Nat) (hk : k < s.size) (c : byteAt s k = 240) (f1 : k + 1 < s.size ∧ 144 ≤ (byteAt s (k + 1) : Int) ∧ (byteAt s (k + 1) : Int) ≤ 191) (f2 : ¬ (k + 2 < s.size ∧ 128 ≤ (byteAt s (k + 2) : Int) ∧ (byteAt s (k + 2) : Int) ≤ 191)) : dN s k = (65533, 1) := by
 have b0 := byteAt_lt s k
 have b1 := byteAt_lt s (k + 1)
 have b2 := byteAt_lt s (k + 2)
 have b3 := byteAt_lt s (k + 3)
 unfold dN Lib.decodeN
 generalize byteAt s k = x0 at *
 generalize byteAt s (k + 1) = x1 at *
 generalize byteAt s (k + 2) = x2 at *
 generalize byteAt s (k + 3) = x3 at *
 repeat' split
 all_goals first | rfl | (exfalso; omega)

theorem d_4a_ttf (s : ByteArray) (k : Nat) (hk : k < s.size) (c : byteAt s k = 240) (f1 : k + 1 < s.size ∧ 144 ≤ (byteAt s (k + 1) : Int) ∧ (byteAt s (k + 1) : Int) ≤ 191) (f2 : k + 2 < s.size ∧ 128 ≤ (byteAt s (k + 2) : Int) ∧ (byteAt s (k + 2) : Int) ≤ 191) (f3 : ¬ (k + 3 < s.size ∧ 128 ≤ (byteAt s (k + 3) : Int) ∧ (byteAt s (k + 3) : Int) ≤ 191)) : dN s k = (65533, 1) := by
 have b0 := byteAt_lt s k
 have b1 := byteAt_lt s (k + 1)
 have b2 := byteAt_lt s (k + 2)
 have b3 := byteAt_lt s (k + 3)
 unfold dN Lib.decodeN
 generalize byteAt s k = x0 at *
 generalize byteAt s (k + 1) = x1 at *
 generalize byteAt s (k + 2) = x2 at *
 generalize byteAt s (k + 3) = x3 at *
 repeat' split
 all_goals first | rfl | (exfalso; omega)

theorem d_4a_ttt (s : ByteArray) (k : Nat) (hk : k < s.size) (c : byteAt s k = 240) (f1 : k + 1 < s.size ∧ 144 ≤ (byteAt s (k + 1) : Int) ∧ (byteAt s (k + 1) : Int) ≤ 191) (f2 : k + 2 < s.size ∧ 128 ≤ (byteAt s (k + 2) : Int) ∧ (byteAt s (k + 2) : Int) ≤ 191) (f3 : k + 3 < s.size ∧ 128 ≤ (byteAt s (k + 3) : Int) ∧ (byteAt s (k + 3) : Int) ≤ 191) : dN s k = (byteAt s k % 8 * 262144 + byteAt s (k + 1) % 64 * 4096 + byteAt s (k + 2) % 64 * 64 + byteAt s (k + 3) % 64, 4) := by
 have b0 := byteAt_lt s k
 have b1 := byteAt_lt s (k + 1)
 have b2 := byteAt_lt s (k + 2)
 have b3 := byteAt_lt s (k + 3)
 unfold dN Lib.decodeN
 generalize byteAt s k = x0 at *
 generalize byteAt s (k + 1) = x1 at *
 generalize byteAt s (k + 2) = x2 at *
 generalize byteAt s (k + 3) = x3 at *
 repeat' split
 all_goals first | rfl | (exfalso; omega)

theorem d_4b_f (s : ByteArray) (k : Nat) (hk : k < s.size) (c : byteAt s k = 244) (f1 : ¬ (k + 1 < s.size ∧ 128 ≤ (byteAt s (k + 1) : Int) ∧ (byteAt s (k + 1) : Int) ≤ 143)) : dN s k = (65533, 1) := by
 have b0 := byteAt_lt s k
 have b1 := byteAt_lt s (k + 1)
 have b2 := byteAt_lt s (k + 2)
 have b3 := byteAt_lt s (k + 3)
 unfold dN Lib.decodeN
 generalize byteAt s k = x0 at *
 generalize byteAt s (k + 1) = x1 at *
 generalize byteAt s (k + 2) = x2 at *
 generalize byteAt s (k + 3) = x3 at *
 repeat' split
 all_goals first | rfl | (exfalso; omega)

theorem d_4b_tf (s : ByteArray) (k : Nat) (hk : k < s.size) (c : byteAt s k = 244) (f1 : k + 1 < s.size ∧ 128 ≤ (byteAt s (k + 1) : Int) ∧ (byteAt s (k + 1) : Int) ≤ 143) (f2 : ¬ (k + 2 < s.size ∧ 128 ≤ (byteAt s (k + 2) : Int) ∧ (byteAt s (k + 2) : Int) ≤ 191)) : dN s k = (65533, 1) := by
 have b0 := byteAt_lt s k
 have b1 := byteAt_lt s (k + 1)
 have b2 := byteAt_lt s (k + 2)
 have b3 := byteAt_lt s (k + 3)
 unfold dN Lib.decodeN
 generalize byteAt s k = x0 at *
 generalize byteAt s (k + 1) = x1 at *
 generalize byteAt s (k + 2) = x2 at *
 generalize byteAt s (k + 3) = x3 at *
 repeat' split
 all_goals first | rfl | (exfalso; omega)

theorem d_4b_ttf (s : ByteArray) (k : Nat) (hk : k < s.size) (c : byteAt s k = 244) (f1 : k + 1 < s.size ∧ 128 ≤ (byteAt s (k + 1) : Int) ∧ (byteAt s (k + 1) : Int) ≤ 143) (f2 : k + 2 < s.size ∧ 128 ≤ (byteAt s (k + 2) : Int) ∧ (byteAt s (k + 2) : Int) ≤ 191) (f3 : ¬ (k + 3 < s.size ∧ 128 ≤ (byteAt s (k + 3) : Int) ∧ (byteAt s (k + 3) : Int) ≤ 191)) : dN s k = (65533, 1) := by
 have b0 := byteAt_lt s k
 have b1 := byteAt_lt s (k + 1)
 have b2 := byteAt_lt s (k + 2)
 have b3 := byteAt_lt s (k + 3)
 unfold dN Lib.decodeN
 generalize byteAt s k = x0 at *
 generalize byteAt s (k + 1) = x1 at *
 generalize byteAt s (k + 2) = x2 at *
 generalize byteAt s (k + 3) = x3 at *
 repeat' split
 all_goals first | rfl | (exfalso; omega)

theorem d_4b_ttt (s : ByteArray) (k : Nat) (hk : k < s.size) (c : byteAt s k = 244) (f1 : k + 1 < s.size ∧ 128 ≤ (byteAt s (k + 1) : Int) ∧ (byteAt s (k + 1) : Int) ≤ 143) (f2 : k + 2 < s.size ∧ 128 ≤ (byteAt s (k + 2) : Int) ∧ (byteAt s (k + 2) : Int) ≤ 191) (f3 : k + 3 < s.size ∧ 128 ≤ (byteAt s (k + 3) : Int) ∧ (byteAt s (k + 3) : Int) ≤ 191) : dN s k = (byteAt s k % 8 * 262144 + byteAt s (k + 1) % 64 * 4096 + byteAt s (k + 2) % 64 * 64 + byteAt s (k + 3) % 64, 4) := by
 have b0 := byteAt_lt s k
 have b1 := byteAt_lt s (k + 1)
 have b2 := byteAt_lt s (k + 2)
 have b3 := byteAt_lt s (k + 3)
 unfold dN Lib.decodeN
 generalize byteAt s k = x0 at *
 generalize byteAt s (k + 1) = x1 at *
 generalize byteAt s (k + 2) = x2 at *
 generalize byteAt s (k + 3) = x3 at *
 repeat' split
 all_goals first | rfl | (exfalso; omega)

theorem d_4c_f (s : ByteArray) (k : Nat) (hk : k < s.size) (c : (240 ≤ byteAt s k ∧ byteAt s k ≤ 244 ∧ byteAt s k ≠ 240 ∧ byteAt s k ≠ 244)) (f1 : ¬ (k + 1 < s.size ∧ 128 ≤ (byteAt s (k + 1) : Int) ∧ (byteAt s (k + 1) : Int) ≤ 191)) : dN s k = (65533, 1) := by
 have b0 := byteAt_lt s k
 have b1 := byteAt_lt s (k + 1)
 have b2 := byteAt_lt s (k + 2)
 have b3 := byteAt_lt s (k + 3)
 unfold dN Lib.decodeN
 generalize byteAt s k = x0 at *
 generalize byteAt s (k + 1) = x1 at *
 generalize byteAt s (k + 2) = x2 at *
 generalize byteAt s (k + 3) = x3 at *
 repeat' split
 all_goals first | rfl | (exfalso; omega)

theorem d_4c_tf (s : ByteArray) (k : Nat) (hk : k < s.size) (c : (240 ≤ byteAt s k ∧ byteAt s k ≤ 244 ∧ byteAt s k ≠ 240 ∧ byteAt s k ≠ 244)) (f1 : k + 1 < s.size ∧ 128 ≤ (byteAt s (k + 1) : Int) ∧ (byteAt s (k + 1) : Int) ≤ 191) (f2 : ¬ (k + 2 < s.size ∧ 128 ≤ (byteAt s (k + 2) : Int) ∧ (byteAt s (k + 2) : Int) ≤ 191)) : dN s k = (65533, 1) := by
 have b0 := byteAt_lt s k
 have b1 := byteAt_lt s (k + 1)
 have b2 := byteAt_lt s (k + 2)
 have b3 := byteAt_lt s (k + 3)
 unfold dN Lib.decodeN
 generalize byteAt s k = x0 at *
 generalize byteAt s (k + 1) = x1 at *
 generalize byteAt s (k + 2) = x2 at *
 generalize byteAt s (k + 3) = x3 at *
 repeat' split
 all_goals first | rfl | (exfalso; omega)

theorem d_4c_ttf (s : ByteArray) (k : Nat) (hk : k < s.size) (c : (240 ≤ byteAt s k ∧ byteAt s k ≤ 244 ∧ byteAt s k ≠ 240 ∧ byteAt s k ≠ 244)) (f1 : k + 1 < s.size ∧ 128 ≤ (byteAt s (k + 1) : Int) ∧ (byteAt s (k + 1) : Int) ≤ 191) (f2 : k + 2 < s.size ∧ 128 ≤ (byteAt s (k + 2) : Int) ∧ (byteAt s (k + 2) : Int) ≤ 191) (f3 : ¬ (k + 3 < s.size ∧ 128 ≤ (byteAt s (k + 3) : Int) ∧ (byteAt s (k + 3) : Int) ≤ 191)) : dN s k = (65533, 1) := by
 have b0 := byteAt_lt s k
 have b1 := byteAt_lt s (k + 1)
 have b2 := byteAt_lt s (k + 2)
 have b3 := byteAt_lt s (k + 3)
 unfold dN Lib.decodeN
 generalize byteAt s k = x0 at *
 generalize byteAt s (k + 1) = x1 at *
 generalize byteAt s (k + 2) = x2 at *
 generalize byteAt s (k + 3) = x3 at *
 repeat' split
 all_goals first | rfl | (exfalso; omega)

theorem d_4c_ttt (s : ByteArray) (k : Nat) (hk : k < s.size) (c : (240 ≤ byteAt s k ∧ byteAt s k ≤ 244 ∧ byteAt s k ≠ 240 ∧ byteAt s k ≠ 244)) (f1 : k + 1 < s.size ∧ 128 ≤ (byteAt s (k + 1) : Int) ∧ (byteAt s (k + 1) : Int) ≤ 191) (f2 : k + 2 < s.size ∧ 128 ≤ (byteAt s (k + 2) : Int) ∧ (byteAt s (k + 2) : Int) ≤ 191) (f3 : k + 3 < s.size ∧ 128 ≤ (byteAt s (k + 3) : Int) ∧ (byteAt s (k + 3) : Int) ≤ 191) : dN s k = (byteAt s k % 8 * 262144 + byteAt s (k + 1) % 64 * 4096 + byteAt s (k + 2) % 64 * 64 + byteAt s (k + 3) % 64, 4) := by
 have b0 := byteAt_lt s k
 have b1 := byteAt_lt s (k + 1)
 have b2 := byteAt_lt s (k + 2)
 have b3 := byteAt_lt s (k + 3)
 unfold dN Lib.decodeN
 generalize byteAt s k = x0 at *
 generalize byteAt s (k + 1) = x1 at *
 generalize byteAt s (k + 2) = x2 at *
 generalize byteAt s (k + 3) = x3 at *
 repeat' split
 all_goals first | rfl | (exfalso; omega)

theorem d_z (s : ByteArray) (k : Nat) (hk : k < s.size) (c1 : 128 ≤ byteAt s k) (c2 : byteAt s k < 194 ∨ 244 < byteAt s k) : dN s k = (65533, 1) := by
 have b0 := byteAt_lt s k
 have b1 := byteAt_lt s (k + 1)
 have b2 := byteAt_lt s (k + 2)
 have b3 := byteAt_lt s (k + 3)
 unfold dN Lib.decodeN
 generalize byteAt s k = x0 at *
 generalize byteAt s (k + 1) = x1 at *
 generalize byteAt s (k + 2) = x2 at *
 generalize byteAt s (k + 3) = x3 at *
 repeat' split
 all_goals first | rfl | (exfalso; omega)

theorem d_a (s : ByteArray) (k : Nat) (hk : k < s.size) (c1 : byteAt s k < 128) : dN s k = (byteAt s k, 1) := by
 have b0 := byteAt_lt s k
 have b1 := byteAt_lt s (k + 1)
 have b2 := byteAt_lt s (k + 2)
 have b3 := byteAt_lt s (k + 3)
 unfold dN Lib.decodeN
 generalize byteAt s k = x0 at *
 generalize byteAt s (k + 1) = x1 at *
 generalize byteAt s (k + 2) = x2 at *
 generalize byteAt s (k + 3) = x3 at *
 repeat' split
 all_goals first | rfl | (exfalso; omega)

set_option maxHeartbeats 1000000 in
theorem point_any (s : ByteArray) (k : Nat) (w : World) (hs : s.size ≤ 140737488351232) (hk : k < s.size) :
  Calls Tryz.prog 150 #[.string s, .int .i64 k] w fun e w' => e = .returned (.tuple #[.int .i64 (Utf8.decode s k).1, .int .i64 (Utf8.decode s k).2, .bool (okAt s k)]) ∧ w' = w := by
 have g0 := byteAt_get s k hk
 by_cases ca : byteAt s k < 128
 ·refine (pt_ascii s k w hs hk (by omega)).mono ?_
  rintro e w' ⟨rfl, rfl⟩
  exact ⟨ret_of s k (d_a s k hk ca) (by omega) rfl (by simp; omega), rfl⟩
 by_cases cz : byteAt s k < 194 ∨ 244 < byteAt s k
 ·refine (pt_z s k w hs hk (by omega) (by omega)).mono ?_
  rintro e w' ⟨rfl, rfl⟩
  exact ⟨ret_of s k (d_z s k hk (by omega) cz) rfl rfl rfl, rfl⟩
 by_cases c2 : byteAt s k ≤ 223
 ·cases f1 : folB s (k + 1) 128 191
  ·refine (pt_2_f s k w hs hk (by omega) (by omega)  f1).mono ?_
   rintro e w' ⟨rfl, rfl⟩
   exact ⟨ret_of s k (d_2_f s k hk (by omega)  (folB_f f1)) rfl rfl rfl, rfl⟩
  ·have g1 := byteAt_get s (k + 1) (folB_t f1).1
   have q1 := (folB_t f1).2
   refine (pt_2_t s k w hs hk (folB_t f1).1 (by omega) (by omega) f1).mono ?_
   rintro e w' ⟨rfl, rfl⟩
   exact ⟨ret_of s k (d_2_t s k hk (by omega) (folB_t f1)) (by omega) rfl (by simp), rfl⟩
 by_cases c3 : byteAt s k ≤ 239
 ·by_cases c3a : byteAt s k = 224
  ·cases f1 : folB s (k + 1) 160 191
   ·refine (pt_3a_f s k w hs hk (by omega) (by omega)  f1).mono ?_
    rintro e w' ⟨rfl, rfl⟩
    exact ⟨ret_of s k (d_3a_f s k hk c3a  (folB_f f1)) rfl rfl rfl, rfl⟩
   ·cases f2 : folB s (k + 2) 128 191
    ·refine (pt_3a_tf s k w hs hk (by omega) (by omega) f1 f2).mono ?_
     rintro e w' ⟨rfl, rfl⟩
     exact ⟨ret_of s k (d_3a_tf s k hk c3a (folB_t f1) (folB_f f2)) rfl rfl rfl, rfl⟩
    ·have g1 := byteAt_get s (k + 1) (folB_t f1).1
     have g2 := byteAt_get s (k + 2) (folB_t f2).1
     have q1 := (folB_t f1).2
     have q2 := (folB_t f2).2
     refine (pt_3a_tt s k w hs hk (folB_t f1).1 (folB_t f2).1 (by omega) (by omega) f1 f2).mono ?_
     rintro e w' ⟨rfl, rfl⟩
     exact ⟨ret_of s k (d_3a_tt s k hk c3a (folB_t f1) (folB_t f2)) (by omega) rfl (by simp), rfl⟩
  by_cases c3b : byteAt s k = 237
  ·cases f1 : folB s (k + 1) 128 159
   ·refine (pt_3b_f s k w hs hk (by omega) (by omega)  f1).mono ?_
    rintro e w' ⟨rfl, rfl⟩
    exact ⟨ret_of s k (d_3b_f s k hk c3b  (folB_f f1)) rfl rfl rfl, rfl⟩
   ·cases f2 : folB s (k + 2) 128 191
    ·refine (pt_3b_tf s k w hs hk (by omega) (by omega) f1 f2).mono ?_
     rintro e w' ⟨rfl, rfl⟩
     exact ⟨ret_of s k (d_3b_tf s k hk c3b (folB_t f1) (folB_f f2)) rfl rfl rfl, rfl⟩
    ·have g1 := byteAt_get s (k + 1) (folB_t f1).1
     have g2 := byteAt_get s (k + 2) (folB_t f2).1
     have q1 := (folB_t f1).2
     have q2 := (folB_t f2).2
     refine (pt_3b_tt s k w hs hk (folB_t f1).1 (folB_t f2).1 (by omega) (by omega) f1 f2).mono ?_
     rintro e w' ⟨rfl, rfl⟩
     exact ⟨ret_of s k (d_3b_tt s k hk c3b (folB_t f1) (folB_t f2)) (by omega) rfl (by simp), rfl⟩
  cases f1 : folB s (k + 1) 128 191
  ·refine (pt_3c_f s k w hs hk (by omega) (by omega) (by rw [beq_eq_false_iff_ne]; omega) (by rw [beq_eq_false_iff_ne]; omega)  f1).mono ?_
   rintro e w' ⟨rfl, rfl⟩
   exact ⟨ret_of s k (d_3c_f s k hk (by omega)  (folB_f f1)) rfl rfl rfl, rfl⟩
  ·cases f2 : folB s (k + 2) 128 191
   ·refine (pt_3c_tf s k w hs hk (by omega) (by omega) (by rw [beq_eq_false_iff_ne]; omega) (by rw [beq_eq_false_iff_ne]; omega) f1 f2).mono ?_
    rintro e w' ⟨rfl, rfl⟩
    exact ⟨ret_of s k (d_3c_tf s k hk (by omega) (folB_t f1) (folB_f f2)) rfl rfl rfl, rfl⟩
   ·have g1 := byteAt_get s (k + 1) (folB_t f1).1
    have g2 := byteAt_get s (k + 2) (folB_t f2).1
    have q1 := (folB_t f1).2
    have q2 := (folB_t f2).2
    refine (pt_3c_tt s k w hs hk (folB_t f1).1 (folB_t f2).1 (by omega) (by omega) (by rw [beq_eq_false_iff_ne]; omega) (by rw [beq_eq_false_iff_ne]; omega) f1 f2).mono ?_
    rintro e w' ⟨rfl, rfl⟩
    exact ⟨ret_of s k (d_3c_tt s k hk (by omega) (folB_t f1) (folB_t f2)) (by omega) rfl (by simp), rfl⟩
 by_cases c4a : byteAt s k = 240
 ·cases f1 : folB s (k + 1) 144 191
  ·refine (pt_4a_f s k w hs hk (by omega) (by omega)  f1).mono ?_
   rintro e w' ⟨rfl, rfl⟩
   exact ⟨ret_of s k (d_4a_f s k hk c4a  (folB_f f1)) rfl rfl rfl, rfl⟩
  ·cases f2 : folB s (k + 2) 128 191
   ·refine (pt_4a_tf s k w hs hk (by omega) (by omega) f1 f2).mono ?_
    rintro e w' ⟨rfl, rfl⟩
    exact ⟨ret_of s k (d_4a_tf s k hk c4a (folB_t f1) (folB_f f2)) rfl rfl rfl, rfl⟩
   ·cases f3 : folB s (k + 3) 128 191
    ·refine (pt_4a_ttf s k w hs hk (by omega) (by omega) f1 f2 f3).mono ?_
     rintro e w' ⟨rfl, rfl⟩
     exact ⟨ret_of s k (d_4a_ttf s k hk c4a (folB_t f1) (folB_t f2) (folB_f f3)) rfl rfl rfl, rfl⟩
    ·have g1 := byteAt_get s (k + 1) (folB_t f1).1
     have g2 := byteAt_get s (k + 2) (folB_t f2).1
     have g3 := byteAt_get s (k + 3) (folB_t f3).1
     have q1 := (folB_t f1).2
     have q2 := (folB_t f2).2
     have q3 := (folB_t f3).2
     refine (pt_4a_ttt s k w hs hk (folB_t f1).1 (folB_t f2).1 (folB_t f3).1 (by omega) (by omega) f1 f2 f3).mono ?_
     rintro e w' ⟨rfl, rfl⟩
     exact ⟨ret_of s k (d_4a_ttt s k hk c4a (folB_t f1) (folB_t f2) (folB_t f3)) (by omega) rfl (by simp), rfl⟩
 by_cases c4b : byteAt s k = 244
 ·cases f1 : folB s (k + 1) 128 143
  ·refine (pt_4b_f s k w hs hk (by omega) (by omega)  f1).mono ?_
   rintro e w' ⟨rfl, rfl⟩
   exact ⟨ret_of s k (d_4b_f s k hk c4b  (folB_f f1)) rfl rfl rfl, rfl⟩
  ·cases f2 : folB s (k + 2) 128 191
   ·refine (pt_4b_tf s k w hs hk (by omega) (by omega) f1 f2).mono ?_
    rintro e w' ⟨rfl, rfl⟩
    exact ⟨ret_of s k (d_4b_tf s k hk c4b (folB_t f1) (folB_f f2)) rfl rfl rfl, rfl⟩
   ·cases f3 : folB s (k + 3) 128 191
    ·refine (pt_4b_ttf s k w hs hk (by omega) (by omega) f1 f2 f3).mono ?_
     rintro e w' ⟨rfl, rfl⟩
     exact ⟨ret_of s k (d_4b_ttf s k hk c4b (folB_t f1) (folB_t f2) (folB_f f3)) rfl rfl rfl, rfl⟩
    ·have g1 := byteAt_get s (k + 1) (folB_t f1).1
     have g2 := byteAt_get s (k + 2) (folB_t f2).1
     have g3 := byteAt_get s (k + 3) (folB_t f3).1
     have q1 := (folB_t f1).2
     have q2 := (folB_t f2).2
     have q3 := (folB_t f3).2
     refine (pt_4b_ttt s k w hs hk (folB_t f1).1 (folB_t f2).1 (folB_t f3).1 (by omega) (by omega) f1 f2 f3).mono ?_
     rintro e w' ⟨rfl, rfl⟩
     exact ⟨ret_of s k (d_4b_ttt s k hk c4b (folB_t f1) (folB_t f2) (folB_t f3)) (by omega) rfl (by simp), rfl⟩
 cases f1 : folB s (k + 1) 128 191
 ·refine (pt_4c_f s k w hs hk (by omega) (by omega) (by rw [beq_eq_false_iff_ne]; omega) (by rw [beq_eq_false_iff_ne]; omega)  f1).mono ?_
  rintro e w' ⟨rfl, rfl⟩
  exact ⟨ret_of s k (d_4c_f s k hk (by omega)  (folB_f f1)) rfl rfl rfl, rfl⟩
 ·cases f2 : folB s (k + 2) 128 191
  ·refine (pt_4c_tf s k w hs hk (by omega) (by omega) (by rw [beq_eq_false_iff_ne]; omega) (by rw [beq_eq_false_iff_ne]; omega) f1 f2).mono ?_
   rintro e w' ⟨rfl, rfl⟩
   exact ⟨ret_of s k (d_4c_tf s k hk (by omega) (folB_t f1) (folB_f f2)) rfl rfl rfl, rfl⟩
  ·cases f3 : folB s (k + 3) 128 191
   ·refine (pt_4c_ttf s k w hs hk (by omega) (by omega) (by rw [beq_eq_false_iff_ne]; omega) (by rw [beq_eq_false_iff_ne]; omega) f1 f2 f3).mono ?_
    rintro e w' ⟨rfl, rfl⟩
    exact ⟨ret_of s k (d_4c_ttf s k hk (by omega) (folB_t f1) (folB_t f2) (folB_f f3)) rfl rfl rfl, rfl⟩
   ·have g1 := byteAt_get s (k + 1) (folB_t f1).1
    have g2 := byteAt_get s (k + 2) (folB_t f2).1
    have g3 := byteAt_get s (k + 3) (folB_t f3).1
    have q1 := (folB_t f1).2
    have q2 := (folB_t f2).2
    have q3 := (folB_t f3).2
    refine (pt_4c_ttt s k w hs hk (folB_t f1).1 (folB_t f2).1 (folB_t f3).1 (by omega) (by omega) (by rw [beq_eq_false_iff_ne]; omega) (by rw [beq_eq_false_iff_ne]; omega) f1 f2 f3).mono ?_
    rintro e w' ⟨rfl, rfl⟩
    exact ⟨ret_of s k (d_4c_ttt s k hk (by omega) (folB_t f1) (folB_t f2) (folB_t f3)) (by omega) rfl (by simp), rfl⟩

end Go.Proofs.YtgmmfpdekefamaaGreatDoor

namespace Go.Proofs.YtgmmfpdekefamaaGreatDoor
open Go.RowKit
set_option linter.unusedVariables false
set_option maxRecDepth 100000

set_option maxHeartbeats 1000000 in
theorem whole_any (s : ByteArray) (w : World) (hs : s.size ≤ 140737488351232) :
  Calls Tryz.prog 88 #[.string s] w fun e w' => e = .returned (.bool (whole s)) ∧ w' = w := by
 go_enter Tryz.func88, Tryz.ntmps88
 go_wp2
 go_loop [3, 4, 5, 6] (fun at' p n ok => ∃ (pos fuel : Nat), pos ≤ s.size ∧ at' = .int .i64 pos ∧ s.size ≤ pos + fuel ∧ wholeFrom s fuel pos = whole s) (fun at' _ _ _ => s.size - (intOf at').toNat)
 case atStart => exact ⟨0, s.size, Nat.zero_le _, rfl, by omega, rfl⟩
 case round =>
  obtain ⟨pos, fuel, hpos, rfl, hfu, hw0⟩ := hrel
  have HW : Hid (wholeFrom s fuel pos = whole s) := hw0
  clear hw0
  by_cases hp : pos < s.size
  ·have hwd := dec_width s pos
   have hle := dec_le s pos hp
   obtain ⟨f, rfl⟩ : ∃ f, fuel = f + 1 := ⟨fuel - 1, by omega⟩
   have hst := wholeFrom_step s f pos hp
   cases hok : okAt s pos
   ·have HS : Hid (whole s = false) := by
     have := HW.out; rw [hst, hok] at this; exact this.symm.trans rfl
    clear hst
    go_wp2_with (go_at_call 150; refine (point_any s pos _ hs hp).mono ?_; rintro e w' ⟨rfl, rfl⟩)
    go_ret
    exact ⟨by rw [HS.out]; rfl, rfl⟩
   ·have HS : Hid (wholeFrom s f (pos + (Utf8.decode s pos).2) = whole s) := by
     have := HW.out; rw [hst, hok, Bool.true_and] at this; exact this
    clear hst
    go_wp2_with (go_at_call 150; refine (point_any s pos _ hs hp).mono ?_; rintro e w' ⟨rfl, rfl⟩)
    go_round
    case rel => exact ⟨pos + (Utf8.decode s pos).2, f, hle, by go_num, by omega, HS.out⟩
    case measure => simp [intOf]; omega
  ·have HS : Hid (whole s = true) := by
    have := HW.out; rw [wholeFrom_end s fuel pos hp] at this; exact this.symm
   go_wp2
   go_ret
   exact ⟨by rw [HS.out]; rfl, rfl⟩

end Go.Proofs.YtgmmfpdekefamaaGreatDoor

namespace Go.Proofs.YtgmmfpdekefamaaGreatDoor
open Go.RowKit
set_option linter.unusedVariables false
set_option maxRecDepth 100000

theorem get_bangA (s : ByteArray) (k : Nat) : s.get! k = (s.data[k]?).getD 0 := by
 show s.data[k]! = _
 rw [getElem!_def]
 cases h : s.data[k]? <;> rfl
theorem get_atA (s : ByteArray) (i : Nat) (h : i < s.size) : s[i]'h = s.get! i := by
 rw [get_bangA]
 have h2 : i < s.data.size := h
 rw [Array.getElem?_eq_getElem h2]
 rfl
theorem bang_lt (s : ByteArray) (k : Nat) : (s.get! k).toNat < 256 := (s.get! k).toNat_lt

/-- where what P says of bytes ends -/
def runE (P : Int → Bool) (s : ByteArray) : Nat → Nat → Nat
 | 0, i => i
 | f + 1, i => if i < s.size ∧ P ((s.get! i).toNat : Int) = true then runE P s f (i + 1) else i
def run (P : Int → Bool) (s : ByteArray) (i : Nat) : Nat := runE P s (s.size - i) i
theorem run_step {P : Int → Bool} {s : ByteArray} {i : Nat} (h : i < s.size) (hp : P ((s.get! i).toNat : Int) = true) : run P s i = run P s (i + 1) := by
 unfold run
 rw [show s.size - i = (s.size - (i + 1)) + 1 by omega, runE, if_pos ⟨h, hp⟩]
theorem run_stop {P : Int → Bool} {s : ByteArray} {i : Nat} (h : i < s.size → P ((s.get! i).toNat : Int) = false) : run P s i = i := by
 unfold run
 cases hf : s.size - i with
 | zero => rfl
 | succ f =>
  rw [runE, if_neg]
  rintro ⟨h1, h2⟩
  rw [h h1] at h2
  cases h2
theorem runE_le (P : Int → Bool) (s : ByteArray) : ∀ (f i : Nat), i ≤ s.size → i ≤ runE P s f i ∧ runE P s f i ≤ s.size
 | 0, i, h => ⟨Nat.le_refl _, h⟩
 | f + 1, i, h => by
  rw [runE]
  split
  ·rename_i hc
   have := runE_le P s f (i + 1) (by omega)
   omega
  ·omega
theorem run_le (P : Int → Bool) (s : ByteArray) {i : Nat} (h : i ≤ s.size) : i ≤ run P s i ∧ run P s i ≤ s.size := runE_le P s _ i h
def blankB (b : Int) : Bool := b == 32 || b == 10

set_option maxHeartbeats 2000000 in
theorem rblanks_e (s : ByteArray) (i : Nat) (w : World) (hi : i ≤ s.size) (hs : s.size ≤ 140737488351232) :
  Calls Tryz.prog 109 #[.string s, .int .i64 i, .bool false] w fun e w' => e = .returned (.tuple #[.int .i64 (run blankB s i), .bool true]) ∧ w' = w := by
 go_enter Tryz.func109, Tryz.ntmps109
 go_wp2
 go_loop [1, 8, 9, 10, 11] (fun a _ _ _ _ => ∃ pos : Nat, pos ≤ s.size ∧ a = .int .i64 pos ∧ Hid (run blankB s pos = run blankB s i)) (fun a _ _ _ _ => s.size - (intOf a).toNat)
 case atStart => exact ⟨i, hi, rfl, rfl⟩
 case round =>
  obtain ⟨pos, hp, rfl, HR⟩ := hrel
  by_cases hlt : pos < s.size
  ·have hb := get_atA s pos hlt
   cases h1 : (((s.get! pos).toNat : Int) == 32)
   ·cases h2 : (((s.get! pos).toNat : Int) == 10)
    ·have HV : Hid (run blankB s i = pos) := by
      show _ = _
      rw [← HR.out]
      exact run_stop fun _ => by simp only [blankB, h1, h2, Bool.or_self]
     go_wp2
     go_ret2
     exact ⟨by rw [HV.out]; rfl, rfl⟩
    ·have HV : Hid (run blankB s (pos + 1) = run blankB s i) := by
      show _ = _
      rw [← HR.out]
      exact (run_step hlt (by simp only [blankB, h1, h2, Bool.or_true])).symm
     go_wp2
     go_round
     case rel => exact ⟨pos + 1, by omega, by go_num, HV⟩
     case measure => simp [intOf]; omega
   ·have HV : Hid (run blankB s (pos + 1) = run blankB s i) := by
     show _ = _
     rw [← HR.out]
     exact (run_step hlt (by simp only [blankB, h1, Bool.true_or])).symm
    go_wp2
    go_round
    case rel => exact ⟨pos + 1, by omega, by go_num, HV⟩
    case measure => simp [intOf]; omega
  ·have HV : Hid (run blankB s i = pos) := by
    show _ = _
    rw [← HR.out]
    exact run_stop fun h => absurd h hlt
   go_wp2
   go_ret2
   exact ⟨by rw [HV.out]; rfl, rfl⟩

end Go.Proofs.YtgmmfpdekefamaaGreatDoor
