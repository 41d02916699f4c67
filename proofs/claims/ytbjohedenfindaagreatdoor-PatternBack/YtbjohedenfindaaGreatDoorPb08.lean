/- Texts of the proof, put together: PointE, PRd. -/
import Derived.Test.YtbjohedenfindaaGreatDoorPb07
import Derived.Test.YtbjohedenfindaaGreatDoorPb01
import Derived.Test.YtbjohedenfindaaGreatDoorPb03
import Derived.Lib.BufferOwn
import Derived.Deep.RegionWith
namespace Go.Proofs.YtbjohedenfindaaGreatDoor
open Go.RowKit
set_option linter.unusedVariables false
set_option maxRecDepth 100000

theorem folB_t {s : ByteArray} {k : Nat} {lo hi : Int} (h : folB s k lo hi = true) : k < s.size ∧ lo ≤ (byteAt s k : Int) ∧ (byteAt s k : Int) ≤ hi := by
  simpa [folB] using h
theorem folB_f {s : ByteArray} {k : Nat} {lo hi : Int} (h : folB s k lo hi = false) : ¬ (k < s.size ∧ lo ≤ (byteAt s k : Int) ∧ (byteAt s k : Int) ≤ hi) := by
  intro h2
  simp [folB, h2.1, h2.2.1, h2.2.2] at h
def dN (s : ByteArray) (k : Nat) : Nat × Nat := Lib.decodeN (s.size - k) (byteAt s k) (byteAt s (k + 1)) (byteAt s (k + 2)) (byteAt s (k + 3))
theorem dN_eq (s : ByteArray) (k : Nat) : Utf8.decode s k = dN s k := Lib.decode_at s k
theorem ret_of (s : ByteArray) (k : Nat) {p n : Int} {b : Bool} {P N : Nat} (hd : dN s k = (P, N)) (hp : (P : Int) = p) (hn : (N : Int) = n) (hb : (!(P == 65533 && N == 1)) = b) :
    Ending.returned (.tuple #[.int .i64 p, .int .i64 n, .bool b]) = .returned (.tuple #[.int .i64 (Utf8.decode s k).1, .int .i64 (Utf8.decode s k).2, .bool (okAt s k)]) := by
  subst hp hn hb
  simp only [okAt, dN_eq, hd]

theorem d_2_f (s : ByteArray) (k : Nat) (hk : k < s.size) (c : (194 ≤ byteAt s k ∧ byteAt s k ≤ 223)) (f1 : ¬ (k + 1 < s.size ∧ 128 ≤ (byteAt s (k + 1) : Int) ∧ (byteAt s (k + 1) : Int) ≤ 191)) : dN s k = (65533, 1) := by
  have b0 := byteAt_lt s k
  have b1 := byteAt_lt s (k + 1)
  have b2 := byteAt_lt s (k + 2)
  have b3 := byteAt_lt s (k + 3)
  unfold dN Lib.decodeN
  generalize byteAt s k = x0 at *
  generalize byteAt s (k + 1) = x1 at *
  generalize byteAt s (k + 2) = x2 at *
  generalize byteAt s (k + 3) = x3 at *
  repeat' split
  all_goals first | rfl | (exfalso; omega)

theorem d_2_t (s : ByteArray) (k : Nat) (hk : k < s.size) (c : (194 ≤ byteAt s k ∧ byteAt s k ≤ 223)) (f1 : k + 1 < s.size ∧ 128 ≤ (byteAt s (k + 1) : Int) ∧ (byteAt s (k + 1) : Int) ≤ 191) : dN s k = (byteAt s k % 32 * 64 + byteAt s (k + 1) % 64, 2) := by
  have b0 := byteAt_lt s k
  have b1 := byteAt_lt s (k + 1)
  have b2 := byteAt_lt s (k + 2)
  have b3 := byteAt_lt s (k + 3)
  unfold dN Lib.decodeN
  generalize byteAt s k = x0 at *
  generalize byteAt s (k + 1) = x1 at *
  generalize byteAt s (k + 2) = x2 at *
  generalize byteAt s (k + 3) = x3 at *
  repeat' split
  all_goals first | rfl | (exfalso; omega)

theorem d_3a_f (s : ByteArray) (k : Nat) (hk : k < s.size) (c : byteAt s k = 224) (f1 : ¬ (k + 1 < s.size ∧ 160 ≤ (byteAt s (k + 1) : Int) ∧ (byteAt s (k + 1) : Int) ≤ 191)) : dN s k = (65533, 1) := by
  have b0 := byteAt_lt s k
  have b1 := byteAt_lt s (k + 1)
  have b2 := byteAt_lt s (k + 2)
  have b3 := byteAt_lt s (k + 3)
  unfold dN Lib.decodeN
  generalize byteAt s k = x0 at *
  generalize byteAt s (k + 1) = x1 at *
  generalize byteAt s (k + 2) = x2 at *
  generalize byteAt s (k + 3) = x3 at *
  repeat' split
  all_goals first | rfl | (exfalso; omega)

theorem d_3a_tf (s : ByteArray) (k : Nat) (hk : k < s.size) (c : byteAt s k = 224) (f1 : k + 1 < s.size ∧ 160 ≤ (byteAt s (k + 1) : Int) ∧ (byteAt s (k + 1) : Int) ≤ 191) (f2 : ¬ (k + 2 < s.size ∧ 128 ≤ (byteAt s (k + 2) : Int) ∧ (byteAt s (k + 2) : Int) ≤ 191)) : dN s k = (65533, 1) := by
  have b0 := byteAt_lt s k
  have b1 := byteAt_lt s (k + 1)
  have b2 := byteAt_lt s (k + 2)
  have b3 := byteAt_lt s (k + 3)
  unfold dN Lib.decodeN
  generalize byteAt s k = x0 at *
  generalize byteAt s (k + 1) = x1 at *
  generalize byteAt s (k + 2) = x2 at *
  generalize byteAt s (k + 3) = x3 at *
  repeat' split
  all_goals first | rfl | (exfalso; omega)

theorem d_3a_tt (s : ByteArray) (k : Nat) (hk : k < s.size) (c : byteAt s k = 224) (f1 : k + 1 < s.size ∧ 160 ≤ (byteAt s (k + 1) : Int) ∧ (byteAt s (k + 1) : Int) ≤ 191) (f2 : k + 2 < s.size ∧ 128 ≤ (byteAt s (k + 2) : Int) ∧ (byteAt s (k + 2) : Int) ≤ 191) : dN s k = (byteAt s k % 16 * 4096 + byteAt s (k + 1) % 64 * 64 + byteAt s (k + 2) % 64, 3) := by
  have b0 := byteAt_lt s k
  have b1 := byteAt_lt s (k + 1)
  have b2 := byteAt_lt s (k + 2)
  have b3 := byteAt_lt s (k + 3)
  unfold dN Lib.decodeN
  generalize byteAt s k = x0 at *
  generalize byteAt s (k + 1) = x1 at *
  generalize byteAt s (k + 2) = x2 at *
  generalize byteAt s (k + 3) = x3 at *
  repeat' split
  all_goals first | rfl | (exfalso; omega)

theorem d_3b_f (s : ByteArray) (k : Nat) (hk : k < s.size) (c : byteAt s k = 237) (f1 : ¬ (k + 1 < s.size ∧ 128 ≤ (byteAt s (k + 1) : Int) ∧ (byteAt s (k + 1) : Int) ≤ 159)) : dN s k = (65533, 1) := by
  have b0 := byteAt_lt s k
  have b1 := byteAt_lt s (k + 1)
  have b2 := byteAt_lt s (k + 2)
  have b3 := byteAt_lt s (k + 3)
  unfold dN Lib.decodeN
  generalize byteAt s k = x0 at *
  generalize byteAt s (k + 1) = x1 at *
  generalize byteAt s (k + 2) = x2 at *
  generalize byteAt s (k + 3) = x3 at *
  repeat' split
  all_goals first | rfl | (exfalso; omega)

theorem d_3b_tf (s : ByteArray) (k : Nat) (hk : k < s.size) (c : byteAt s k = 237) (f1 : k + 1 < s.size ∧ 128 ≤ (byteAt s (k + 1) : Int) ∧ (byteAt s (k + 1) : Int) ≤ 159) (f2 : ¬ (k + 2 < s.size ∧ 128 ≤ (byteAt s (k + 2) : Int) ∧ (byteAt s (k + 2) : Int) ≤ 191)) : dN s k = (65533, 1) := by
  have b0 := byteAt_lt s k
  have b1 := byteAt_lt s (k + 1)
  have b2 := byteAt_lt s (k + 2)
  have b3 := byteAt_lt s (k + 3)
  unfold dN Lib.decodeN
  generalize byteAt s k = x0 at *
  generalize byteAt s (k + 1) = x1 at *
  generalize byteAt s (k + 2) = x2 at *
  generalize byteAt s (k + 3) = x3 at *
  repeat' split
  all_goals first | rfl | (exfalso; omega)

theorem d_3b_tt (s : ByteArray) (k : Nat) (hk : k < s.size) (c : byteAt s k = 237) (f1 : k + 1 < s.size ∧ 128 ≤ (byteAt s (k + 1) : Int) ∧ (byteAt s (k + 1) : Int) ≤ 159) (f2 : k + 2 < s.size ∧ 128 ≤ (byteAt s (k + 2) : Int) ∧ (byteAt s (k + 2) : Int) ≤ 191) : dN s k = (byteAt s k % 16 * 4096 + byteAt s (k + 1) % 64 * 64 + byteAt s (k + 2) % 64, 3) := by
  have b0 := byteAt_lt s k
  have b1 := byteAt_lt s (k + 1)
  have b2 := byteAt_lt s (k + 2)
  have b3 := byteAt_lt s (k + 3)
  unfold dN Lib.decodeN
  generalize byteAt s k = x0 at *
  generalize byteAt s (k + 1) = x1 at *
  generalize byteAt s (k + 2) = x2 at *
  generalize byteAt s (k + 3) = x3 at *
  repeat' split
  all_goals first | rfl | (exfalso; omega)

theorem d_3c_f (s : ByteArray) (k : Nat) (hk : k < s.size) (c : (224 ≤ byteAt s k ∧ byteAt s k ≤ 239 ∧ byteAt s k ≠ 224 ∧ byteAt s k ≠ 237)) (f1 : ¬ (k + 1 < s.size ∧ 128 ≤ (byteAt s (k + 1) : Int) ∧ (byteAt s (k + 1) : Int) ≤ 191)) : dN s k = (65533, 1) := by
  have b0 := byteAt_lt s k
  have b1 := byteAt_lt s (k + 1)
  have b2 := byteAt_lt s (k + 2)
  have b3 := byteAt_lt s (k + 3)
  unfold dN Lib.decodeN
  generalize byteAt s k = x0 at *
  generalize byteAt s (k + 1) = x1 at *
  generalize byteAt s (k + 2) = x2 at *
  generalize byteAt s (k + 3) = x3 at *
  repeat' split
  all_goals first | rfl | (exfalso; omega)

theorem d_3c_tf (s : ByteArray) (k : Nat) (hk : k < s.size) (c : (224 ≤ byteAt s k ∧ byteAt s k ≤ 239 ∧ byteAt s k ≠ 224 ∧ byteAt s k ≠ 237)) (f1 : k + 1 < s.size ∧ 128 ≤ (byteAt s (k + 1) : Int) ∧ (byteAt s (k + 1) : Int) ≤ 191) (f2 : ¬ (k + 2 < s.size ∧ 128 ≤ (byteAt s (k + 2) : Int) ∧ (byteAt s (k + 2) : Int) ≤ 191)) : dN s k = (65533, 1) := by
  have b0 := byteAt_lt s k
  have b1 := byteAt_lt s (k + 1)
  have b2 := byteAt_lt s (k + 2)
  have b3 := byteAt_lt s (k + 3)
  unfold dN Lib.decodeN
  generalize byteAt s k = x0 at *
  generalize byteAt s (k + 1) = x1 at *
  generalize byteAt s (k + 2) = x2 at *
  generalize byteAt s (k + 3) = x3 at *
  repeat' split
  all_goals first | rfl | (exfalso; omega)

theorem d_3c_tt (s : ByteArray) (k : Nat) (hk : k < s.size) (c : (224 ≤ byteAt s k ∧ byteAt s k ≤ 239 ∧ byteAt s k ≠ 224 ∧ byteAt s k ≠ 237)) (f1 : k + 1 < s.size ∧ 128 ≤ (byteAt s (k + 1) : Int) ∧ (byteAt s (k + 1) : Int) ≤ 191) (f2 : k + 2 < s.size ∧ 128 ≤ (byteAt s (k + 2) : Int) ∧ (byteAt s (k + 2) : Int) ≤ 191) : dN s k = (byteAt s k % 16 * 4096 + byteAt s (k + 1) % 64 * 64 + byteAt s (k + 2) % 64, 3) := by
  have b0 := byteAt_lt s k
  have b1 := byteAt_lt s (k + 1)
  have b2 := byteAt_lt s (k + 2)
  have b3 := byteAt_lt s (k + 3)
  unfold dN Lib.decodeN
  generalize byteAt s k = x0 at *
  generalize byteAt s (k + 1) = x1 at *
  generalize byteAt s (k + 2) = x2 at *
  generalize byteAt s (k + 3) = x3 at *
  repeat' split
  all_goals first | rfl | (exfalso; omega)

theorem d_4a_f (s : ByteArray) (k : Nat) (hk : k < s.size) (c : byteAt s k = 240) (f1 : ¬ (k + 1 < s.size ∧ 144 ≤ (byteAt s (k + 1) : Int) ∧ (byteAt s (k + 1) : Int) ≤ 191)) : dN s k = (65533, 1) := by
  have b0 := byteAt_lt s k
  have b1 := byteAt_lt s (k + 1)
  have b2 := byteAt_lt s (k + 2)
  have b3 := byteAt_lt s (k + 3)
  unfold dN Lib.decodeN
  generalize byteAt s k = x0 at *
  generalize byteAt s (k + 1) = x1 at *
  generalize byteAt s (k + 2) = x2 at *
  generalize byteAt s (k + 3) = x3 at *
  repeat' split
  all_goals first | rfl | (exfalso; omega)

theorem d_4a_tf (s : ByteArray) (k : Nat) (hk : k < s.size) (c : byteAt s k = 240) (f1 : k + 1 < s.size ∧ 144 ≤ (byteAt s (k + 1) : Int) ∧ (byteAt s (k + 1) : Int) ≤ 191) (f2 : ¬ (k + 2 < s.size ∧ 128 ≤ (byteAt s (k + 2) : Int) ∧ (byteAt s (k + 2) : Int) ≤ 191)) : dN s k = (65533, 1) := by
  have b0 := byteAt_lt s k
  have b1 := byteAt_lt s (k + 1)
  have b2 := byteAt_lt s (k + 2)
  have b3 := byteAt_lt s (k + 3)
  unfold dN Lib.decodeN
  generalize byteAt s k = x0 at *
  generalize byteAt s (k + 1) = x1 at *
  generalize byteAt s (k + 2) = x2 at *
  generalize byteAt s (k + 3) = x3 at *
  repeat' split
  all_goals first | rfl | (exfalso; omega)

theorem d_4a_ttf (s : ByteArray) (k : Nat) (hk : k < s.size) (c : byteAt s k = 240) (f1 : k + 1 < s.size ∧ 144 ≤ (byteAt s (k + 1) : Int) ∧ (byteAt s (k + 1) : Int) ≤ 191) (f2 : k + 2 < s.size ∧ 128 ≤ (byteAt s (k + 2) : Int) ∧ (byteAt s (k + 2) : Int) ≤ 191) (f3 : ¬ (k + 3 < s.size ∧ 128 ≤ (byteAt s (k + 3) : Int) ∧ (byteAt s (k + 3) : Int) ≤ 191)) : dN s k = (65533, 1) := by
  have b0 := byteAt_lt s k
  have b1 := byteAt_lt s (k + 1)
  have b2 := byteAt_lt s (k + 2)
  have b3 := byteAt_lt s (k + 3)
  unfold dN Lib.decodeN
  generalize byteAt s k = x0 at *
  generalize byteAt s (k + 1) = x1 at *
  generalize byteAt s (k + 2) = x2 at *
  generalize byteAt s (k + 3) = x3 at *
  repeat' split
  all_goals first | rfl | (exfalso; omega)

theorem d_4a_ttt (s : ByteArray) (k : Nat) (hk : k < s.size) (c : byteAt s k = 240) (f1 : k + 1 < s.size ∧ 144 ≤ (byteAt s (k + 1) : Int) ∧ (byteAt s (k + 1) : Int) ≤ 191) (f2 : k + 2 < s.size ∧ 128 ≤ (byteAt s (k + 2) : Int) ∧ (byteAt s (k + 2) : Int) ≤ 191) (f3 : k + 3 < s.size ∧ 128 ≤ (byteAt s (k + 3) : Int) ∧ (byteAt s (k + 3) : Int) ≤ 191) : dN s k = (byteAt s k % 8 * 262144 + byteAt s (k + 1) % 64 * 4096 + byteAt s (k + 2) % 64 * 64 + byteAt s (k + 3) % 64, 4) := by
  have b0 := byteAt_lt s k
  have b1 := byteAt_lt s (k + 1)
  have b2 := byteAt_lt s (k + 2)
  have b3 := byteAt_lt s (k + 3)
  unfold dN Lib.decodeN
  generalize byteAt s k = x0 at *
  generalize byteAt s (k + 1) = x1 at *
  generalize byteAt s (k + 2) = x2 at *
  generalize byteAt s (k + 3) = x3 at *
  repeat' split
  all_goals first | rfl | (exfalso; omega)

theorem d_4b_f (s : ByteArray) (k : Nat) (hk : k < s.size) (c : byteAt s k = 244) (f1 : ¬ (k + 1 < s.size ∧ 128 ≤ (byteAt s (k + 1) : Int) ∧ (byteAt s (k + 1) : Int) ≤ 143)) : dN s k = (65533, 1) := by
  have b0 := byteAt_lt s k
  have b1 := byteAt_lt s (k + 1)
  have b2 := byteAt_lt s (k + 2)
  have b3 := byteAt_lt s (k + 3)
  unfold dN Lib.decodeN
  generalize byteAt s k = x0 at *
  generalize byteAt s (k + 1) = x1 at *
  generalize byteAt s (k + 2) = x2 at *
  generalize byteAt s (k + 3) = x3 at *
  repeat' split
  all_goals first | rfl | (exfalso; omega)

theorem d_4b_tf (s : ByteArray) (k : Nat) (hk : k < s.size) (c : byteAt s k = 244) (f1 : k + 1 < s.size ∧ 128 ≤ (byteAt s (k + 1) : Int) ∧ (byteAt s (k + 1) : Int) ≤ 143) (f2 : ¬ (k + 2 < s.size ∧ 128 ≤ (byteAt s (k + 2) : Int) ∧ (byteAt s (k + 2) : Int) ≤ 191)) : dN s k = (65533, 1) := by
  have b0 := byteAt_lt s k
  have b1 := byteAt_lt s (k + 1)
  have b2 := byteAt_lt s (k + 2)
  have b3 := byteAt_lt s (k + 3)
  unfold dN Lib.decodeN
  generalize byteAt s k = x0 at *
  generalize byteAt s (k + 1) = x1 at *
  generalize byteAt s (k + 2) = x2 at *
  generalize byteAt s (k + 3) = x3 at *
  repeat' split
  all_goals first | rfl | (exfalso; omega)

theorem d_4b_ttf (s : ByteArray) (k : Nat) (hk : k < s.size) (c : byteAt s k = 244) (f1 : k + 1 < s.size ∧ 128 ≤ (byteAt s (k + 1) : Int) ∧ (byteAt s (k + 1) : Int) ≤ 143) (f2 : k + 2 < s.size ∧ 128 ≤ (byteAt s (k + 2) : Int) ∧ (byteAt s (k + 2) : Int) ≤ 191) (f3 : ¬ (k + 3 < s.size ∧ 128 ≤ (byteAt s (k + 3) : Int) ∧ (byteAt s (k + 3) : Int) ≤ 191)) : dN s k = (65533, 1) := by
  have b0 := byteAt_lt s k
  have b1 := byteAt_lt s (k + 1)
  have b2 := byteAt_lt s (k + 2)
  have b3 := byteAt_lt s (k + 3)
  unfold dN Lib.decodeN
  generalize byteAt s k = x0 at *
  generalize byteAt s (k + 1) = x1 at *
  generalize byteAt s (k + 2) = x2 at *
  generalize byteAt s (k + 3) = x3 at *
  repeat' split
  all_goals first | rfl | (exfalso; omega)

theorem d_4b_ttt (s : ByteArray) (k : Nat) (hk : k < s.size) (c : byteAt s k = 244) (f1 : k + 1 < s.size ∧ 128 ≤ (byteAt s (k + 1) : Int) ∧ (byteAt s (k + 1) : Int) ≤ 143) (f2 : k + 2 < s.size ∧ 128 ≤ (byteAt s (k + 2) : Int) ∧ (byteAt s (k + 2) : Int) ≤ 191) (f3 : k + 3 < s.size ∧ 128 ≤ (byteAt s (k + 3) : Int) ∧ (byteAt s (k + 3) : Int) ≤ 191) : dN s k = (byteAt s k % 8 * 262144 + byteAt s (k + 1) % 64 * 4096 + byteAt s (k + 2) % 64 * 64 + byteAt s (k + 3) % 64, 4) := by
  have b0 := byteAt_lt s k
  have b1 := byteAt_lt s (k + 1)
  have b2 := byteAt_lt s (k + 2)
  have b3 := byteAt_lt s (k + 3)
  unfold dN Lib.decodeN
  generalize byteAt s k = x0 at *
  generalize byteAt s (k + 1) = x1 at *
  generalize byteAt s (k + 2) = x2 at *
  generalize byteAt s (k + 3) = x3 at *
  repeat' split
  all_goals first | rfl | (exfalso; omega)

theorem d_4c_f (s : ByteArray) (k : Nat) (hk : k < s.size) (c : (240 ≤ byteAt s k ∧ byteAt s k ≤ 244 ∧ byteAt s k ≠ 240 ∧ byteAt s k ≠ 244)) (f1 : ¬ (k + 1 < s.size ∧ 128 ≤ (byteAt s (k + 1) : Int) ∧ (byteAt s (k + 1) : Int) ≤ 191)) : dN s k = (65533, 1) := by
  have b0 := byteAt_lt s k
  have b1 := byteAt_lt s (k + 1)
  have b2 := byteAt_lt s (k + 2)
  have b3 := byteAt_lt s (k + 3)
  unfold dN Lib.decodeN
  generalize byteAt s k = x0 at *
  generalize byteAt s (k + 1) = x1 at *
  generalize byteAt s (k + 2) = x2 at *
  generalize byteAt s (k + 3) = x3 at *
  repeat' split
  all_goals first | rfl | (exfalso; omega)

theorem d_4c_tf (s : ByteArray) (k : Nat) (hk : k < s.size) (c : (240 ≤ byteAt s k ∧ byteAt s k ≤ 244 ∧ byteAt s k ≠ 240 ∧ byteAt s k ≠ 244)) (f1 : k + 1 < s.size ∧ 128 ≤ (byteAt s (k + 1) : Int) ∧ (byteAt s (k + 1) : Int) ≤ 191) (f2 : ¬ (k + 2 < s.size ∧ 128 ≤ (byteAt s (k + 2) : Int) ∧ (byteAt s (k + 2) : Int) ≤ 191)) : dN s k = (65533, 1) := by
  have b0 := byteAt_lt s k
  have b1 := byteAt_lt s (k + 1)
  have b2 := byteAt_lt s (k + 2)
  have b3 := byteAt_lt s (k + 3)
  unfold dN Lib.decodeN
  generalize byteAt s k = x0 at *
  generalize byteAt s (k + 1) = x1 at *
  generalize byteAt s (k + 2) = x2 at *
  generalize byteAt s (k + 3) = x3 at *
  repeat' split
  all_goals first | rfl | (exfalso; omega)

theorem d_4c_ttf (s : ByteArray) (k : Nat) (hk : k < s.size) (c : (240 ≤ byteAt s k ∧ byteAt s k ≤ 244 ∧ byteAt s k ≠ 240 ∧ byteAt s k ≠ 244)) (f1 : k + 1 < s.size ∧ 128 ≤ (byteAt s (k + 1) : Int) ∧ (byteAt s (k + 1) : Int) ≤ 191) (f2 : k + 2 < s.size ∧ 128 ≤ (byteAt s (k + 2) : Int) ∧ (byteAt s (k + 2) : Int) ≤ 191) (f3 : ¬ (k + 3 < s.size ∧ 128 ≤ (byteAt s (k + 3) : Int) ∧ (byteAt s (k + 3) : Int) ≤ 191)) : dN s k = (65533, 1) := by
  have b0 := byteAt_lt s k
  have b1 := byteAt_lt s (k + 1)
  have b2 := byteAt_lt s (k + 2)
  have b3 := byteAt_lt s (k + 3)
  unfold dN Lib.decodeN
  generalize byteAt s k = x0 at *
  generalize byteAt s (k + 1) = x1 at *
  generalize byteAt s (k + 2) = x2 at *
  generalize byteAt s (k + 3) = x3 at *
  repeat' split
  all_goals first | rfl | (exfalso; omega)

theorem d_4c_ttt (s : ByteArray) (k : Nat) (hk : k < s.size) (c : (240 ≤ byteAt s k ∧ byteAt s k ≤ 244 ∧ byteAt s k ≠ 240 ∧ byteAt s k ≠ 244)) (f1 : k + 1 < s.size ∧ 128 ≤ (byteAt s (k + 1) : Int) ∧ (byteAt s (k + 1) : Int) ≤ 191) (f2 : k + 2 < s.size ∧ 128 ≤ (byteAt s (k + 2) : Int) ∧ (byteAt s (k + 2) : Int) ≤ 191) (f3 : k + 3 < s.size ∧ 128 ≤ (byteAt s (k + 3) : Int) ∧ (byteAt s (k + 3) : Int) ≤ 191) : dN s k = (byteAt s k % 8 * 262144 + byteAt s (k + 1) % 64 * 4096 + byteAt s (k + 2) % 64 * 64 + byteAt s (k + 3) % 64, 4) := by
  have b0 := byteAt_lt s k
  have b1 := byteAt_lt s (k + 1)
  have b2 := byteAt_lt s (k + 2)
  have b3 := byteAt_lt s (k + 3)
  unfold dN Lib.decodeN
  generalize byteAt s k = x0 at *
  generalize byteAt s (k + 1) = x1 at *
  generalize byteAt s (k + 2) = x2 at *
  generalize byteAt s (k + 3) = x3 at *
  repeat' split
  all_goals first | rfl | (exfalso; omega)

theorem d_z (s : ByteArray) (k : Nat) (hk : k < s.size) (c1 : 128 ≤ byteAt s k) (c2 : byteAt s k < 194 ∨ 244 < byteAt s k) : dN s k = (65533, 1) := by
  have b0 := byteAt_lt s k
  have b1 := byteAt_lt s (k + 1)
  have b2 := byteAt_lt s (k + 2)
  have b3 := byteAt_lt s (k + 3)
  unfold dN Lib.decodeN
  generalize byteAt s k = x0 at *
  generalize byteAt s (k + 1) = x1 at *
  generalize byteAt s (k + 2) = x2 at *
  generalize byteAt s (k + 3) = x3 at *
  repeat' split
  all_goals first | rfl | (exfalso; omega)

theorem d_a (s : ByteArray) (k : Nat) (hk : k < s.size) (c1 : byteAt s k < 128) : dN s k = (byteAt s k, 1) := by
  have b0 := byteAt_lt s k
  have b1 := byteAt_lt s (k + 1)
  have b2 := byteAt_lt s (k + 2)
  have b3 := byteAt_lt s (k + 3)
  unfold dN Lib.decodeN
  generalize byteAt s k = x0 at *
  generalize byteAt s (k + 1) = x1 at *
  generalize byteAt s (k + 2) = x2 at *
  generalize byteAt s (k + 3) = x3 at *
  repeat' split
  all_goals first | rfl | (exfalso; omega)

set_option maxHeartbeats 1000000 in
theorem point_any (s : ByteArray) (k : Nat) (w : World) (hs : s.size ≤ 140737488351232) (hk : k < s.size) :
    Calls Tryz.prog 62 #[.string s, .int .i64 k] w fun e w' => e = .returned (.tuple #[.int .i64 (Utf8.decode s k).1, .int .i64 (Utf8.decode s k).2, .bool (okAt s k)]) ∧ w' = w := by
  have g0 := byteAt_get s k hk
  by_cases ca : byteAt s k < 128
  · refine (pt_ascii s k w hs hk (by omega)).mono ?_
    rintro e w' ⟨rfl, rfl⟩
    exact ⟨ret_of s k (d_a s k hk ca) (by omega) rfl (by simp; omega), rfl⟩
  by_cases cz : byteAt s k < 194 ∨ 244 < byteAt s k
  · refine (pt_z s k w hs hk (by omega) (by omega)).mono ?_
    rintro e w' ⟨rfl, rfl⟩
    exact ⟨ret_of s k (d_z s k hk (by omega) cz) rfl rfl rfl, rfl⟩
  by_cases c2 : byteAt s k ≤ 223
  · cases f1 : folB s (k + 1) 128 191
    · refine (pt_2_f s k w hs hk (by omega) (by omega)  f1).mono ?_
      rintro e w' ⟨rfl, rfl⟩
      exact ⟨ret_of s k (d_2_f s k hk (by omega)  (folB_f f1)) rfl rfl rfl, rfl⟩
    · have g1 := byteAt_get s (k + 1) (folB_t f1).1
      have q1 := (folB_t f1).2
      refine (pt_2_t s k w hs hk (folB_t f1).1 (by omega) (by omega) f1).mono ?_
      rintro e w' ⟨rfl, rfl⟩
      exact ⟨ret_of s k (d_2_t s k hk (by omega) (folB_t f1)) (by omega) rfl (by simp), rfl⟩
  by_cases c3 : byteAt s k ≤ 239
  · by_cases c3a : byteAt s k = 224
    · cases f1 : folB s (k + 1) 160 191
      · refine (pt_3a_f s k w hs hk (by omega) (by omega)  f1).mono ?_
        rintro e w' ⟨rfl, rfl⟩
        exact ⟨ret_of s k (d_3a_f s k hk c3a  (folB_f f1)) rfl rfl rfl, rfl⟩
      · cases f2 : folB s (k + 2) 128 191
        · refine (pt_3a_tf s k w hs hk (by omega) (by omega) f1 f2).mono ?_
          rintro e w' ⟨rfl, rfl⟩
          exact ⟨ret_of s k (d_3a_tf s k hk c3a (folB_t f1) (folB_f f2)) rfl rfl rfl, rfl⟩
        · have g1 := byteAt_get s (k + 1) (folB_t f1).1
          have g2 := byteAt_get s (k + 2) (folB_t f2).1
          have q1 := (folB_t f1).2
          have q2 := (folB_t f2).2
          refine (pt_3a_tt s k w hs hk (folB_t f1).1 (folB_t f2).1 (by omega) (by omega) f1 f2).mono ?_
          rintro e w' ⟨rfl, rfl⟩
          exact ⟨ret_of s k (d_3a_tt s k hk c3a (folB_t f1) (folB_t f2)) (by omega) rfl (by simp), rfl⟩
    by_cases c3b : byteAt s k = 237
    · cases f1 : folB s (k + 1) 128 159
      · refine (pt_3b_f s k w hs hk (by omega) (by omega)  f1).mono ?_
        rintro e w' ⟨rfl, rfl⟩
        exact ⟨ret_of s k (d_3b_f s k hk c3b  (folB_f f1)) rfl rfl rfl, rfl⟩
      · cases f2 : folB s (k + 2) 128 191
        · refine (pt_3b_tf s k w hs hk (by omega) (by omega) f1 f2).mono ?_
          rintro e w' ⟨rfl, rfl⟩
          exact ⟨ret_of s k (d_3b_tf s k hk c3b (folB_t f1) (folB_f f2)) rfl rfl rfl, rfl⟩
        · have g1 := byteAt_get s (k + 1) (folB_t f1).1
          have g2 := byteAt_get s (k + 2) (folB_t f2).1
          have q1 := (folB_t f1).2
          have q2 := (folB_t f2).2
          refine (pt_3b_tt s k w hs hk (folB_t f1).1 (folB_t f2).1 (by omega) (by omega) f1 f2).mono ?_
          rintro e w' ⟨rfl, rfl⟩
          exact ⟨ret_of s k (d_3b_tt s k hk c3b (folB_t f1) (folB_t f2)) (by omega) rfl (by simp), rfl⟩
    cases f1 : folB s (k + 1) 128 191
    · refine (pt_3c_f s k w hs hk (by omega) (by omega) (by rw [beq_eq_false_iff_ne]; omega) (by rw [beq_eq_false_iff_ne]; omega)  f1).mono ?_
      rintro e w' ⟨rfl, rfl⟩
      exact ⟨ret_of s k (d_3c_f s k hk (by omega)  (folB_f f1)) rfl rfl rfl, rfl⟩
    · cases f2 : folB s (k + 2) 128 191
      · refine (pt_3c_tf s k w hs hk (by omega) (by omega) (by rw [beq_eq_false_iff_ne]; omega) (by rw [beq_eq_false_iff_ne]; omega) f1 f2).mono ?_
        rintro e w' ⟨rfl, rfl⟩
        exact ⟨ret_of s k (d_3c_tf s k hk (by omega) (folB_t f1) (folB_f f2)) rfl rfl rfl, rfl⟩
      · have g1 := byteAt_get s (k + 1) (folB_t f1).1
        have g2 := byteAt_get s (k + 2) (folB_t f2).1
        have q1 := (folB_t f1).2
        have q2 := (folB_t f2).2
        refine (pt_3c_tt s k w hs hk (folB_t f1).1 (folB_t f2).1 (by omega) (by omega) (by rw [beq_eq_false_iff_ne]; omega) (by rw [beq_eq_false_iff_ne]; omega) f1 f2).mono ?_
        rintro e w' ⟨rfl, rfl⟩
        exact ⟨ret_of s k (d_3c_tt s k hk (by omega) (folB_t f1) (folB_t f2)) (by omega) rfl (by simp), rfl⟩
  by_cases c4a : byteAt s k = 240
  · cases f1 : folB s (k + 1) 144 191
    · refine (pt_4a_f s k w hs hk (by omega) (by omega)  f1).mono ?_
      rintro e w' ⟨rfl, rfl⟩
      exact ⟨ret_of s k (d_4a_f s k hk c4a  (folB_f f1)) rfl rfl rfl, rfl⟩
    · cases f2 : folB s (k + 2) 128 191
      · refine (pt_4a_tf s k w hs hk (by omega) (by omega) f1 f2).mono ?_
        rintro e w' ⟨rfl, rfl⟩
        exact ⟨ret_of s k (d_4a_tf s k hk c4a (folB_t f1) (folB_f f2)) rfl rfl rfl, rfl⟩
      · cases f3 : folB s (k + 3) 128 191
        · refine (pt_4a_ttf s k w hs hk (by omega) (by omega) f1 f2 f3).mono ?_
          rintro e w' ⟨rfl, rfl⟩
          exact ⟨ret_of s k (d_4a_ttf s k hk c4a (folB_t f1) (folB_t f2) (folB_f f3)) rfl rfl rfl, rfl⟩
        · have g1 := byteAt_get s (k + 1) (folB_t f1).1
          have g2 := byteAt_get s (k + 2) (folB_t f2).1
          have g3 := byteAt_get s (k + 3) (folB_t f3).1
          have q1 := (folB_t f1).2
          have q2 := (folB_t f2).2
          have q3 := (folB_t f3).2
          refine (pt_4a_ttt s k w hs hk (folB_t f1).1 (folB_t f2).1 (folB_t f3).1 (by omega) (by omega) f1 f2 f3).mono ?_
          rintro e w' ⟨rfl, rfl⟩
          exact ⟨ret_of s k (d_4a_ttt s k hk c4a (folB_t f1) (folB_t f2) (folB_t f3)) (by omega) rfl (by simp), rfl⟩
  by_cases c4b : byteAt s k = 244
  · cases f1 : folB s (k + 1) 128 143
    · refine (pt_4b_f s k w hs hk (by omega) (by omega)  f1).mono ?_
      rintro e w' ⟨rfl, rfl⟩
      exact ⟨ret_of s k (d_4b_f s k hk c4b  (folB_f f1)) rfl rfl rfl, rfl⟩
    · cases f2 : folB s (k + 2) 128 191
      · refine (pt_4b_tf s k w hs hk (by omega) (by omega) f1 f2).mono ?_
        rintro e w' ⟨rfl, rfl⟩
        exact ⟨ret_of s k (d_4b_tf s k hk c4b (folB_t f1) (folB_f f2)) rfl rfl rfl, rfl⟩
      · cases f3 : folB s (k + 3) 128 191
        · refine (pt_4b_ttf s k w hs hk (by omega) (by omega) f1 f2 f3).mono ?_
          rintro e w' ⟨rfl, rfl⟩
          exact ⟨ret_of s k (d_4b_ttf s k hk c4b (folB_t f1) (folB_t f2) (folB_f f3)) rfl rfl rfl, rfl⟩
        · have g1 := byteAt_get s (k + 1) (folB_t f1).1
          have g2 := byteAt_get s (k + 2) (folB_t f2).1
          have g3 := byteAt_get s (k + 3) (folB_t f3).1
          have q1 := (folB_t f1).2
          have q2 := (folB_t f2).2
          have q3 := (folB_t f3).2
          refine (pt_4b_ttt s k w hs hk (folB_t f1).1 (folB_t f2).1 (folB_t f3).1 (by omega) (by omega) f1 f2 f3).mono ?_
          rintro e w' ⟨rfl, rfl⟩
          exact ⟨ret_of s k (d_4b_ttt s k hk c4b (folB_t f1) (folB_t f2) (folB_t f3)) (by omega) rfl (by simp), rfl⟩
  cases f1 : folB s (k + 1) 128 191
  · refine (pt_4c_f s k w hs hk (by omega) (by omega) (by rw [beq_eq_false_iff_ne]; omega) (by rw [beq_eq_false_iff_ne]; omega)  f1).mono ?_
    rintro e w' ⟨rfl, rfl⟩
    exact ⟨ret_of s k (d_4c_f s k hk (by omega)  (folB_f f1)) rfl rfl rfl, rfl⟩
  · cases f2 : folB s (k + 2) 128 191
    · refine (pt_4c_tf s k w hs hk (by omega) (by omega) (by rw [beq_eq_false_iff_ne]; omega) (by rw [beq_eq_false_iff_ne]; omega) f1 f2).mono ?_
      rintro e w' ⟨rfl, rfl⟩
      exact ⟨ret_of s k (d_4c_tf s k hk (by omega) (folB_t f1) (folB_f f2)) rfl rfl rfl, rfl⟩
    · cases f3 : folB s (k + 3) 128 191
      · refine (pt_4c_ttf s k w hs hk (by omega) (by omega) (by rw [beq_eq_false_iff_ne]; omega) (by rw [beq_eq_false_iff_ne]; omega) f1 f2 f3).mono ?_
        rintro e w' ⟨rfl, rfl⟩
        exact ⟨ret_of s k (d_4c_ttf s k hk (by omega) (folB_t f1) (folB_t f2) (folB_f f3)) rfl rfl rfl, rfl⟩
      · have g1 := byteAt_get s (k + 1) (folB_t f1).1
        have g2 := byteAt_get s (k + 2) (folB_t f2).1
        have g3 := byteAt_get s (k + 3) (folB_t f3).1
        have q1 := (folB_t f1).2
        have q2 := (folB_t f2).2
        have q3 := (folB_t f3).2
        refine (pt_4c_ttt s k w hs hk (folB_t f1).1 (folB_t f2).1 (folB_t f3).1 (by omega) (by omega) (by rw [beq_eq_false_iff_ne]; omega) (by rw [beq_eq_false_iff_ne]; omega) f1 f2 f3).mono ?_
        rintro e w' ⟨rfl, rfl⟩
        exact ⟨ret_of s k (d_4c_ttt s k hk (by omega) (folB_t f1) (folB_t f2) (folB_t f3)) (by omega) rfl (by simp), rfl⟩

end Go.Proofs.YtbjohedenfindaaGreatDoor

namespace Go.Proofs.YtbjohedenfindaaGreatDoor
open Go.RowKit
set_option linter.unusedVariables false
set_option maxRecDepth 100000

/-- the program's reader: its text, the place, how many are open, the signs' map -/
def RdAt (w : World) (R : Nat) (s : ByteArray) (i o M : Nat) : Prop := w.heap[R]? = some (.cells #[.string s, .int .i64 i, .int .i64 o, .map (some M)] 91 (0, 0))
def Thrown (e : Ending) : Prop := ∃ f : Addr, e = .panicked [{ v := .iface 49 (.pointer (some f)), recovered := false }]
/-- what the library's decoder says of the first code point -/
def decGo (s : ByteArray) : Nat × Nat := if s.size = 0 then (65533, 0) else Utf8.decode s 0
/-- the package-level variables are as at the beginning -/
def Env (W0 w : World) : Prop := 16 ≤ w.heap.size ∧ ∀ k, k < 16 → w.heap[k]? = W0.heap[k]?
def outerB : ByteArray := ⟨#[124, 38, 42, 43, 63, 123, 125, 126, 40, 41, 91, 93, 46, 92]⟩
def innerB : ByteArray := ⟨#[91, 93, 45, 94, 92]⟩
/-- the signs that have a meaning, as a text and as a test -/
def SignsOf (S : ByteArray) (sg : Int → Bool) : Prop := (S = outerB ∧ sg = outerS) ∨ (S = innerB ∧ sg = innerS)
/-- where a sign stands first in a text -/
def firstAt (T : ByteArray) (c : Nat) (k : Nat) : Prop := k < T.size ∧ (T.get! k).toNat = c ∧ ∀ j, j < k → (T.get! j).toNat ≠ c
def allHex (T : ByteArray) : Prop := ∀ j, j < T.size → 0 ≤ hexOf (T.get! j).toNat
def allDig (T : ByteArray) : Prop := ∀ j, j < T.size → 48 ≤ (T.get! j).toNat ∧ (T.get! j).toNat ≤ 57
/-- what the library's functions say -/
structure LibC (W0 : World) : Prop where
  syn : ∃ te pe, W0.cell? ⟨0, 0, none⟩ = some (.iface te pe)
  bnd : ∃ te pe, W0.cell? ⟨1, 0, none⟩ = some (.iface te pe)
  con : ∀ S sg, SignsOf S sg → ∀ c w, 0 ≤ c → c ≤ 1114111 → Env W0 w → Calls Tryz.prog 115 #[.string S, .int .i32 c] w fun e w' => e = .returned (.bool (sg c)) ∧ Below w.heap.size w w'
  cutT : ∀ T w k, Env W0 w → T.size ≤ 1000000 → firstAt T 125 k → Calls Tryz.prog 181 #[.string T, .string ⟨#[125]⟩] w fun e w' => (∃ b, e = .returned (.tuple #[.string (T.extract 0 k), .string b, .bool true])) ∧ Below w.heap.size w w'
  cutF : ∀ T w, Env W0 w → T.size ≤ 1000000 → (∀ j, j < T.size → (T.get! j).toNat ≠ 125) → Calls Tryz.prog 181 #[.string T, .string ⟨#[125]⟩] w fun e w' => (∃ b, e = .returned (.tuple #[.string T, .string b, .bool false])) ∧ Below w.heap.size w w'
  parT : ∀ T w, Env W0 w → 1 ≤ T.size → T.size ≤ 6 → allHex T → Calls Tryz.prog 182 #[.string T, .int .i64 16, .int .i64 64] w fun e w' => e = .returned (.tuple #[.int .u64 (hexVal T 0 T.size), .nilIface]) ∧ Below w.heap.size w w'
  parF : ∀ T w, Env W0 w → T.size ≤ 1000000 → T.size = 0 ∨ ¬ allHex T → Calls Tryz.prog 182 #[.string T, .int .i64 16, .int .i64 64] w fun e w' => (∃ n te pe, e = .returned (.tuple #[.int .u64 n, .iface te pe])) ∧ Below w.heap.size w w'
  parL : ∀ T w, Env W0 w → T.size ≤ 1000000 → Calls Tryz.prog 182 #[.string T, .int .i64 16, .int .i64 64] w fun e w' => (∃ n v, e = .returned (.tuple #[.int .u64 n, v]) ∧ (v = .nilIface ∨ ∃ te pe, v = .iface te pe)) ∧ Below w.heap.size w w'
  ato : ∀ T w, Env W0 w → 1 ≤ T.size → T.size ≤ 1000000 → allDig T → Calls Tryz.prog 172 #[.string T] w fun e w' => (∃ n ev, e = .returned (.tuple #[.int .i64 n, ev]) ∧ ((ev = .nilIface ∧ n = digVal T 0 T.size) ∨ (∃ te pe, ev = .iface te pe ∧ 50 < digVal T 0 T.size))) ∧ Below w.heap.size w w'
  dec : ∀ s w, Env W0 w → Calls Tryz.prog 126 #[.string s] w fun e w' => e = .returned (.tuple #[.int .i32 (decGo s).1, .int .i64 (decGo s).2]) ∧ Below w.heap.size w w'

theorem Env.drewN {W0 w : World} (h : Env W0 w) (n : Nat) : Env W0 (w.drewN n) := h

set_option maxHeartbeats 400000 in
theorem throw_any (te : TypeId) (pe : Value) (z : Int) (w : World) :
    Calls Tryz.prog 40 #[.iface te pe, .int .i64 z] w fun e w' => Thrown e ∧ ∀ row, w.grownBy w' row := by
  go_enter Tryz.func40, Tryz.ntmps40
  go_wp2
  exact ⟨rfl, ⟨_, rfl⟩, fun row => World.grownBy_alloc w _ row⟩

theorem grownBy_of_below {w w' : World} (h : Below w.heap.size w w') (row : Option Nat) : w.grownBy w' row := ⟨h.os, h.tape, h.output, h.size, fun k hk _ => h.block k hk⟩
theorem grownBy_undrew {w w' : World} {n : Nat} {row : Option Nat} (h : (w.drewN n).grownBy w' row) : w.grownBy w' row := ⟨h.os, h.tape, h.output, h.size, h.block⟩
theorem get_bang (s : ByteArray) (k : Nat) : s.get! k = (s.data[k]?).getD 0 := by
  show s.data[k]! = _
  rw [getElem!_def]
  cases h : s.data[k]? <;> rfl
theorem extract_get (s : ByteArray) (i k : Nat) : (s.extract i s.size).get! k = s.get! (i + k) := by
  rw [get_bang, get_bang]
  by_cases h : i + k < s.size
  · have h2 : k < (s.extract i s.size).size := by simp; omega
    have : (s.extract i s.size).data[k]? = s.data[i + k]? := by
      rw [ByteArray.data_extract, Array.getElem?_extract]
      have : s.data.size = s.size := rfl
      rw [if_pos (by omega)]
    rw [this]
  · have h2 : ¬ k < (s.extract i s.size).size := by simp; omega
    have a1 : (s.extract i s.size).data[k]? = none := Array.getElem?_eq_none (by have : (s.extract i s.size).data.size = (s.extract i s.size).size := rfl; omega)
    have a2 : s.data[i + k]? = none := Array.getElem?_eq_none (by have : s.data.size = s.size := rfl; omega)
    rw [a1, a2]
theorem decGo_at (s : ByteArray) (i : Nat) (h : i < s.size) : decGo (s.extract i s.size) = Utf8.decode s i := by
  have hz : (s.extract i s.size).size = s.size - i := by simp
  unfold decGo
  rw [if_neg (by omega), Lib.decode_at, Lib.decode_at, hz, extract_get, extract_get, extract_get, extract_get]
  simp
theorem RdAt.cells {w : World} {R i o M : Nat} {s : ByteArray} (h : RdAt w R s i o M) : w.cell? ⟨R, 0, none⟩ = some (.string s) ∧ w.cell? ⟨R, 1, none⟩ = some (.int .i64 i) ∧ w.cell? ⟨R, 2, none⟩ = some (.int .i64 o) ∧ w.cell? ⟨R, 3, none⟩ = some (.map (some M)) := by
  have h0 : w.heap[R]? = some (.cells #[.string s, .int .i64 i, .int .i64 o, .map (some M)] 91 (0, 0)) := h
  refine ⟨?_, ?_, ?_, ?_⟩ <;> simp [World.cell?, h0]

set_option maxHeartbeats 1000000 in
theorem next_at {W0 w : World} (L : LibC W0) (hE : Env W0 w) {R i o M : Nat} {s : ByteArray} (hR : RdAt w R s i o M) (hi : i < s.size) (hs : s.size ≤ 1000000) (a b : Nat) (hd : Utf8.decode s i = (a, b)) (x y : Bool) (hx : ((a : Int) == 65533) = x) (hy : ((b : Int) == 1) = y) :
    Calls Tryz.prog 105 #[.pointer (some ⟨R, 0, none⟩)] w fun e w' => e = .returned (.tuple #[.int .i32 (if x && y then -2 else (a : Int)), .int .i64 b]) ∧ ∀ row, w.grownBy w' row := by
  obtain ⟨c0, c1, _, _⟩ := hR.cells
  have hne : ((i : Int) == (s.size : Int)) = false := by rw [beq_eq_false_iff_ne]; omega
  have hDec : Hid (∀ w, Env W0 w → Calls Tryz.prog 126 #[.string (s.extract i s.size)] w fun e w' => e = .returned (.tuple #[.int .i32 a, .int .i64 b]) ∧ Below w.heap.size w w') := fun w h => by
    have := L.dec (s.extract i s.size) w h
    rw [decGo_at s i hi, hd] at this
    exact this
  clear hR hd
  go_enter Tryz.func105, Tryz.ntmps105
  go_wp2
  go_quiet (fail)
  go_wp2
  go_region_with (go_at_call 126; refine (hDec.out _ ?_).mono ?_; exact hE.drewN _; rintro e w' ⟨rfl, hb⟩)
  all_goals
    have hg := fun row => grownBy_undrew (grownBy_of_below hb row)
    cases x <;> cases y
    all_goals
      go_wp2
      go_ret2
      exact ⟨rfl, hg⟩

set_option maxHeartbeats 1000000 in
theorem next_end {w : World} {R o M : Nat} {s : ByteArray} (hR : RdAt w R s s.size o M) :
    Calls Tryz.prog 105 #[.pointer (some ⟨R, 0, none⟩)] w fun e w' => e = .returned (.tuple #[.int .i32 (-1), .int .i64 0]) ∧ ∀ row, w.grownBy w' row := by
  obtain ⟨c0, c1, _, _⟩ := hR.cells
  have hne : ((s.size : Int) == (s.size : Int)) = true := by simp
  go_enter Tryz.func105, Tryz.ntmps105
  go_wp2
  go_quiet (fail)
  go_wp2
  go_ret2
  exact ⟨rfl, fun row => ⟨rfl, rfl, rfl, Nat.le_refl _, fun _ _ _ => rfl⟩⟩

theorem next_any {W0 w : World} (L : LibC W0) (hE : Env W0 w) {R i o M : Nat} {s : ByteArray} (hR : RdAt w R s i o M) (hi : i ≤ s.size) (hs : s.size ≤ 1000000) :
    Calls Tryz.prog 105 #[.pointer (some ⟨R, 0, none⟩)] w fun e w' => e = .returned (.tuple #[.int .i32 (cpAt s i), .int .i64 (szAt s i)]) ∧ ∀ row, w.grownBy w' row := by
  by_cases h : i < s.size
  · obtain ⟨x, y, hd⟩ : ∃ x y, Utf8.decode s i = (x, y) := ⟨(Utf8.decode s i).1, (Utf8.decode s i).2, rfl⟩
    refine (next_at L hE hR h hs x y hd _ _ rfl rfl).mono ?_
    rintro e w' ⟨rfl, hg⟩
    refine ⟨?_, hg⟩
    unfold cpAt szAt
    rw [if_pos h, if_pos h, hd]
    by_cases h1 : x = 65533
    · by_cases h2 : y = 1
      · simp [h1, h2]
      · have : ((y : Int) == 1) = false := by rw [beq_eq_false_iff_ne]; omega
        simp [h1, h2, this]
    · have : ((x : Int) == 65533) = false := by rw [beq_eq_false_iff_ne]; omega
      simp [h1, this]
  · have e : i = s.size := by omega
    subst e
    refine (next_end hR).mono ?_
    rintro e w' ⟨rfl, hg⟩
    exact ⟨by simp [cpAt, szAt], hg⟩

end Go.Proofs.YtbjohedenfindaaGreatDoor
