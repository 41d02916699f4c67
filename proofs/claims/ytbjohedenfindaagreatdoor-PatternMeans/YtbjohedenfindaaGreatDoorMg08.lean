/- Texts of the proof, put together: PointE, Pat. -/
import Derived.Test.YtbjohedenfindaaGreatDoorMg07
import Derived.Test.YtbjohedenfindaaGreatDoorMg01
import Derived.Lib.RuneBytes
namespace Go.Proofs.YtbjohedenfindaaGreatDoor
open Go.RowKit
set_option linter.unusedVariables false
set_option maxRecDepth 100000

theorem folB_t {s : ByteArray} {k : Nat} {lo hi : Int} (h : folB s k lo hi = true) : k < s.size ∧ lo ≤ (byteAt s k : Int) ∧ (byteAt s k : Int) ≤ hi := by
  simpa [folB] using h
theorem folB_f {s : ByteArray} {k : Nat} {lo hi : Int} (h : folB s k lo hi = false) : ¬ (k < s.size ∧ lo ≤ (byteAt s k : Int) ∧ (byteAt s k : Int) ≤ hi) := by
  intro h2
  simp [folB, h2.1, h2.2.1, h2.2.2] at h
def dN (s : ByteArray) (k : Nat) : Nat × Nat := Lib.decodeN (s.size - k) (byteAt s k) (byteAt s (k + 1)) (byteAt s (k + 2)) (byteAt s (k + 3))
theorem dN_eq (s : ByteArray) (k : Nat) : Utf8.decode s k = dN s k := Lib.decode_at s k
theorem ret_of (s : ByteArray) (k : Nat) {p n : Int} {b : Bool} {P N : Nat} (hd : dN s k = (P, N)) (hp : (P : Int) = p) (hn : (N : Int) = n) (hb : (!(P == 65533 && N == 1)) = b) :
    Ending.returned (.tuple #[.int .i64 p, .int .i64 n, .bool b]) = .returned (.tuple #[.int .i64 (Utf8.decode s k).1, .int .i64 (Utf8.decode s k).2, .bool (okAt s k)]) := by
  subst hp hn hb
  simp only [okAt, dN_eq, hd]

theorem d_2_f (s : ByteArray) (k : Nat) (hk : k < s.size) (c : (194 ≤ byteAt s k ∧ byteAt s k ≤ 223)) (f1 : ¬ (k + 1 < s.size ∧ 128 ≤ (byteAt s (k + 1) : Int) ∧ (byteAt s (k + 1) : Int) ≤ 191)) : dN s k = (65533, 1) := by
  have b0 := byteAt_lt s k
  have b1 := byteAt_lt s (k + 1)
  have b2 := byteAt_lt s (k + 2)
  have b3 := byteAt_lt s (k + 3)
  unfold dN Lib.decodeN
  generalize byteAt s k = x0 at *
  generalize byteAt s (k + 1) = x1 at *
  generalize byteAt s (k + 2) = x2 at *
  generalize byteAt s (k + 3) = x3 at *
  repeat' split
  all_goals first | rfl | (exfalso; omega)

theorem d_2_t (s : ByteArray) (k : Nat) (hk : k < s.size) (c : (194 ≤ byteAt s k ∧ byteAt s k ≤ 223)) (f1 : k + 1 < s.size ∧ 128 ≤ (byteAt s (k + 1) : Int) ∧ (byteAt s (k + 1) : Int) ≤ 191) : dN s k = (byteAt s k % 32 * 64 + byteAt s (k + 1) % 64, 2) := by
  have b0 := byteAt_lt s k
  have b1 := byteAt_lt s (k + 1)
  have b2 := byteAt_lt s (k + 2)
  have b3 := byteAt_lt s (k + 3)
  unfold dN Lib.decodeN
  generalize byteAt s k = x0 at *
  generalize byteAt s (k + 1) = x1 at *
  generalize byteAt s (k + 2) = x2 at *
  generalize byteAt s (k + 3) = x3 at *
  repeat' split
  all_goals first | rfl | (exfalso; omega)

theorem d_3a_f (s : ByteArray) (k : Nat) (hk : k < s.size) (c : byteAt s k = 224) (f1 : ¬ (k + 1 < s.size ∧ 160 ≤ (byteAt s (k + 1) : Int) ∧ (byteAt s (k + 1) : Int) ≤ 191)) : dN s k = (65533, 1) := by
  have b0 := byteAt_lt s k
  have b1 := byteAt_lt s (k + 1)
  have b2 := byteAt_lt s (k + 2)
  have b3 := byteAt_lt s (k + 3)
  unfold dN Lib.decodeN
  generalize byteAt s k = x0 at *
  generalize byteAt s (k + 1) = x1 at *
  generalize byteAt s (k + 2) = x2 at *
  generalize byteAt s (k + 3) = x3 at *
  repeat' split
  all_goals first | rfl | (exfalso; omega)

theorem d_3a_tf (s : ByteArray) (k : Nat) (hk : k < s.size) (c : byteAt s k = 224) (f1 : k + 1 < s.size ∧ 160 ≤ (byteAt s (k + 1) : Int) ∧ (byteAt s (k + 1) : Int) ≤ 191) (f2 : ¬ (k + 2 < s.size ∧ 128 ≤ (byteAt s (k + 2) : Int) ∧ (byteAt s (k + 2) : Int) ≤ 191)) : dN s k = (65533, 1) := by
  have b0 := byteAt_lt s k
  have b1 := byteAt_lt s (k + 1)
  have b2 := byteAt_lt s (k + 2)
  have b3 := byteAt_lt s (k + 3)
  unfold dN Lib.decodeN
  generalize byteAt s k = x0 at *
  generalize byteAt s (k + 1) = x1 at *
  generalize byteAt s (k + 2) = x2 at *
  generalize byteAt s (k + 3) = x3 at *
  repeat' split
  all_goals first | rfl | (exfalso; omega)

theorem d_3a_tt (s : ByteArray) (k : Nat) (hk : k < s.size) (c : byteAt s k = 224) (f1 : k + 1 < s.size ∧ 160 ≤ (byteAt s (k + 1) : Int) ∧ (byteAt s (k + 1) : Int) ≤ 191) (f2 : k + 2 < s.size ∧ 128 ≤ (byteAt s (k + 2) : Int) ∧ (byteAt s (k + 2) : Int) ≤ 191) : dN s k = (byteAt s k % 16 * 4096 + byteAt s (k + 1) % 64 * 64 + byteAt s (k + 2) % 64, 3) := by
  have b0 := byteAt_lt s k
  have b1 := byteAt_lt s (k + 1)
  have b2 := byteAt_lt s (k + 2)
  have b3 := byteAt_lt s (k + 3)
  unfold dN Lib.decodeN
  generalize byteAt s k = x0 at *
  generalize byteAt s (k + 1) = x1 at *
  generalize byteAt s (k + 2) = x2 at *
  generalize byteAt s (k + 3) = x3 at *
  repeat' split
  all_goals first | rfl | (exfalso; omega)

theorem d_3b_f (s : ByteArray) (k : Nat) (hk : k < s.size) (c : byteAt s k = 237) (f1 : ¬ (k + 1 < s.size ∧ 128 ≤ (byteAt s (k + 1) : Int) ∧ (byteAt s (k + 1) : Int) ≤ 159)) : dN s k = (65533, 1) := by
  have b0 := byteAt_lt s k
  have b1 := byteAt_lt s (k + 1)
  have b2 := byteAt_lt s (k + 2)
  have b3 := byteAt_lt s (k + 3)
  unfold dN Lib.decodeN
  generalize byteAt s k = x0 at *
  generalize byteAt s (k + 1) = x1 at *
  generalize byteAt s (k + 2) = x2 at *
  generalize byteAt s (k + 3) = x3 at *
  repeat' split
  all_goals first | rfl | (exfalso; omega)

theorem d_3b_tf (s : ByteArray) (k : Nat) (hk : k < s.size) (c : byteAt s k = 237) (f1 : k + 1 < s.size ∧ 128 ≤ (byteAt s (k + 1) : Int) ∧ (byteAt s (k + 1) : Int) ≤ 159) (f2 : ¬ (k + 2 < s.size ∧ 128 ≤ (byteAt s (k + 2) : Int) ∧ (byteAt s (k + 2) : Int) ≤ 191)) : dN s k = (65533, 1) := by
  have b0 := byteAt_lt s k
  have b1 := byteAt_lt s (k + 1)
  have b2 := byteAt_lt s (k + 2)
  have b3 := byteAt_lt s (k + 3)
  unfold dN Lib.decodeN
  generalize byteAt s k = x0 at *
  generalize byteAt s (k + 1) = x1 at *
  generalize byteAt s (k + 2) = x2 at *
  generalize byteAt s (k + 3) = x3 at *
  repeat' split
  all_goals first | rfl | (exfalso; omega)

theorem d_3b_tt (s : ByteArray) (k : Nat) (hk : k < s.size) (c : byteAt s k = 237) (f1 : k + 1 < s.size ∧ 128 ≤ (byteAt s (k + 1) : Int) ∧ (byteAt s (k + 1) : Int) ≤ 159) (f2 : k + 2 < s.size ∧ 128 ≤ (byteAt s (k + 2) : Int) ∧ (byteAt s (k + 2) : Int) ≤ 191) : dN s k = (byteAt s k % 16 * 4096 + byteAt s (k + 1) % 64 * 64 + byteAt s (k + 2) % 64, 3) := by
  have b0 := byteAt_lt s k
  have b1 := byteAt_lt s (k + 1)
  have b2 := byteAt_lt s (k + 2)
  have b3 := byteAt_lt s (k + 3)
  unfold dN Lib.decodeN
  generalize byteAt s k = x0 at *
  generalize byteAt s (k + 1) = x1 at *
  generalize byteAt s (k + 2) = x2 at *
  generalize byteAt s (k + 3) = x3 at *
  repeat' split
  all_goals first | rfl | (exfalso; omega)

theorem d_3c_f (s : ByteArray) (k : Nat) (hk : k < s.size) (c : (224 ≤ byteAt s k ∧ byteAt s k ≤ 239 ∧ byteAt s k ≠ 224 ∧ byteAt s k ≠ 237)) (f1 : ¬ (k + 1 < s.size ∧ 128 ≤ (byteAt s (k + 1) : Int) ∧ (byteAt s (k + 1) : Int) ≤ 191)) : dN s k = (65533, 1) := by
  have b0 := byteAt_lt s k
  have b1 := byteAt_lt s (k + 1)
  have b2 := byteAt_lt s (k + 2)
  have b3 := byteAt_lt s (k + 3)
  unfold dN Lib.decodeN
  generalize byteAt s k = x0 at *
  generalize byteAt s (k + 1) = x1 at *
  generalize byteAt s (k + 2) = x2 at *
  generalize byteAt s (k + 3) = x3 at *
  repeat' split
  all_goals first | rfl | (exfalso; omega)

theorem d_3c_tf (s : ByteArray) (k : Nat) (hk : k < s.size) (c : (224 ≤ byteAt s k ∧ byteAt s k ≤ 239 ∧ byteAt s k ≠ 224 ∧ byteAt s k ≠ 237)) (f1 : k + 1 < s.size ∧ 128 ≤ (byteAt s (k + 1) : Int) ∧ (byteAt s (k + 1) : Int) ≤ 191) (f2 : ¬ (k + 2 < s.size ∧ 128 ≤ (byteAt s (k + 2) : Int) ∧ (byteAt s (k + 2) : Int) ≤ 191)) : dN s k = (65533, 1) := by
  have b0 := byteAt_lt s k
  have b1 := byteAt_lt s (k + 1)
  have b2 := byteAt_lt s (k + 2)
  have b3 := byteAt_lt s (k + 3)
  unfold dN Lib.decodeN
  generalize byteAt s k = x0 at *
  generalize byteAt s (k + 1) = x1 at *
  generalize byteAt s (k + 2) = x2 at *
  generalize byteAt s (k + 3) = x3 at *
  repeat' split
  all_goals first | rfl | (exfalso; omega)

theorem d_3c_tt (s : ByteArray) (k : Nat) (hk : k < s.size) (c : (224 ≤ byteAt s k ∧ byteAt s k ≤ 239 ∧ byteAt s k ≠ 224 ∧ byteAt s k ≠ 237)) (f1 : k + 1 < s.size ∧ 128 ≤ (byteAt s (k + 1) : Int) ∧ (byteAt s (k + 1) : Int) ≤ 191) (f2 : k + 2 < s.size ∧ 128 ≤ (byteAt s (k + 2) : Int) ∧ (byteAt s (k + 2) : Int) ≤ 191) : dN s k = (byteAt s k % 16 * 4096 + byteAt s (k + 1) % 64 * 64 + byteAt s (k + 2) % 64, 3) := by
  have b0 := byteAt_lt s k
  have b1 := byteAt_lt s (k + 1)
  have b2 := byteAt_lt s (k + 2)
  have b3 := byteAt_lt s (k + 3)
  unfold dN Lib.decodeN
  generalize byteAt s k = x0 at *
  generalize byteAt s (k + 1) = x1 at *
  generalize byteAt s (k + 2) = x2 at *
  generalize byteAt s (k + 3) = x3 at *
  repeat' split
  all_goals first | rfl | (exfalso; omega)

theorem d_4a_f (s : ByteArray) (k : Nat) (hk : k < s.size) (c : byteAt s k = 240) (f1 : ¬ (k + 1 < s.size ∧ 144 ≤ (byteAt s (k + 1) : Int) ∧ (byteAt s (k + 1) : Int) ≤ 191)) : dN s k = (65533, 1) := by
  have b0 := byteAt_lt s k
  have b1 := byteAt_lt s (k + 1)
  have b2 := byteAt_lt s (k + 2)
  have b3 := byteAt_lt s (k + 3)
  unfold dN Lib.decodeN
  generalize byteAt s k = x0 at *
  generalize byteAt s (k + 1) = x1 at *
  generalize byteAt s (k + 2) = x2 at *
  generalize byteAt s (k + 3) = x3 at *
  repeat' split
  all_goals first | rfl | (exfalso; omega)

theorem d_4a_tf (s : ByteArray) (k : Nat) (hk : k < s.size) (c : byteAt s k = 240) (f1 : k + 1 < s.size ∧ 144 ≤ (byteAt s (k + 1) : Int) ∧ (byteAt s (k + 1) : Int) ≤ 191) (f2 : ¬ (k + 2 < s.size ∧ 128 ≤ (byteAt s (k + 2) : Int) ∧ (byteAt s (k + 2) : Int) ≤ 191)) : dN s k = (65533, 1) := by
  have b0 := byteAt_lt s k
  have b1 := byteAt_lt s (k + 1)
  have b2 := byteAt_lt s (k + 2)
  have b3 := byteAt_lt s (k + 3)
  unfold dN Lib.decodeN
  generalize byteAt s k = x0 at *
  generalize byteAt s (k + 1) = x1 at *
  generalize byteAt s (k + 2) = x2 at *
  generalize byteAt s (k + 3) = x3 at *
  repeat' split
  all_goals first | rfl | (exfalso; omega)

theorem d_4a_ttf (s : ByteArray) (k : Nat) (hk : k < s.size) (c : byteAt s k = 240) (f1 : k + 1 < s.size ∧ 144 ≤ (byteAt s (k + 1) : Int) ∧ (byteAt s (k + 1) : Int) ≤ 191) (f2 : k + 2 < s.size ∧ 128 ≤ (byteAt s (k + 2) : Int) ∧ (byteAt s (k + 2) : Int) ≤ 191) (f3 : ¬ (k + 3 < s.size ∧ 128 ≤ (byteAt s (k + 3) : Int) ∧ (byteAt s (k + 3) : Int) ≤ 191)) : dN s k = (65533, 1) := by
  have b0 := byteAt_lt s k
  have b1 := byteAt_lt s (k + 1)
  have b2 := byteAt_lt s (k + 2)
  have b3 := byteAt_lt s (k + 3)
  unfold dN Lib.decodeN
  generalize byteAt s k = x0 at *
  generalize byteAt s (k + 1) = x1 at *
  generalize byteAt s (k + 2) = x2 at *
  generalize byteAt s (k + 3) = x3 at *
  repeat' split
  all_goals first | rfl | (exfalso; omega)

theorem d_4a_ttt (s : ByteArray) (k : Nat) (hk : k < s.size) (c : byteAt s k = 240) (f1 : k + 1 < s.size ∧ 144 ≤ (byteAt s (k + 1) : Int) ∧ (byteAt s (k + 1) : Int) ≤ 191) (f2 : k + 2 < s.size ∧ 128 ≤ (byteAt s (k + 2) : Int) ∧ (byteAt s (k + 2) : Int) ≤ 191) (f3 : k + 3 < s.size ∧ 128 ≤ (byteAt s (k + 3) : Int) ∧ (byteAt s (k + 3) : Int) ≤ 191) : dN s k = (byteAt s k % 8 * 262144 + byteAt s (k + 1) % 64 * 4096 + byteAt s (k + 2) % 64 * 64 + byteAt s (k + 3) % 64, 4) := by
  have b0 := byteAt_lt s k
  have b1 := byteAt_lt s (k + 1)
  have b2 := byteAt_lt s (k + 2)
  have b3 := byteAt_lt s (k + 3)
  unfold dN Lib.decodeN
  generalize byteAt s k = x0 at *
  generalize byteAt s (k + 1) = x1 at *
  generalize byteAt s (k + 2) = x2 at *
  generalize byteAt s (k + 3) = x3 at *
  repeat' split
  all_goals first | rfl | (exfalso; omega)

theorem d_4b_f (s : ByteArray) (k : Nat) (hk : k < s.size) (c : byteAt s k = 244) (f1 : ¬ (k + 1 < s.size ∧ 128 ≤ (byteAt s (k + 1) : Int) ∧ (byteAt s (k + 1) : Int) ≤ 143)) : dN s k = (65533, 1) := by
  have b0 := byteAt_lt s k
  have b1 := byteAt_lt s (k + 1)
  have b2 := byteAt_lt s (k + 2)
  have b3 := byteAt_lt s (k + 3)
  unfold dN Lib.decodeN
  generalize byteAt s k = x0 at *
  generalize byteAt s (k + 1) = x1 at *
  generalize byteAt s (k + 2) = x2 at *
  generalize byteAt s (k + 3) = x3 at *
  repeat' split
  all_goals first | rfl | (exfalso; omega)

theorem d_4b_tf (s : ByteArray) (k : Nat) (hk : k < s.size) (c : byteAt s k = 244) (f1 : k + 1 < s.size ∧ 128 ≤ (byteAt s (k + 1) : Int) ∧ (byteAt s (k + 1) : Int) ≤ 143) (f2 : ¬ (k + 2 < s.size ∧ 128 ≤ (byteAt s (k + 2) : Int) ∧ (byteAt s (k + 2) : Int) ≤ 191)) : dN s k = (65533, 1) := by
  have b0 := byteAt_lt s k
  have b1 := byteAt_lt s (k + 1)
  have b2 := byteAt_lt s (k + 2)
  have b3 := byteAt_lt s (k + 3)
  unfold dN Lib.decodeN
  generalize byteAt s k = x0 at *
  generalize byteAt s (k + 1) = x1 at *
  generalize byteAt s (k + 2) = x2 at *
  generalize byteAt s (k + 3) = x3 at *
  repeat' split
  all_goals first | rfl | (exfalso; omega)

theorem d_4b_ttf (s : ByteArray) (k : Nat) (hk : k < s.size) (c : byteAt s k = 244) (f1 : k + 1 < s.size ∧ 128 ≤ (byteAt s (k + 1) : Int) ∧ (byteAt s (k + 1) : Int) ≤ 143) (f2 : k + 2 < s.size ∧ 128 ≤ (byteAt s (k + 2) : Int) ∧ (byteAt s (k + 2) : Int) ≤ 191) (f3 : ¬ (k + 3 < s.size ∧ 128 ≤ (byteAt s (k + 3) : Int) ∧ (byteAt s (k + 3) : Int) ≤ 191)) : dN s k = (65533, 1) := by
  have b0 := byteAt_lt s k
  have b1 := byteAt_lt s (k + 1)
  have b2 := byteAt_lt s (k + 2)
  have b3 := byteAt_lt s (k + 3)
  unfold dN Lib.decodeN
  generalize byteAt s k = x0 at *
  generalize byteAt s (k + 1) = x1 at *
  generalize byteAt s (k + 2) = x2 at *
  generalize byteAt s (k + 3) = x3 at *
  repeat' split
  all_goals first | rfl | (exfalso; omega)

theorem d_4b_ttt (s : ByteArray) (k : Nat) (hk : k < s.size) (c : byteAt s k = 244) (f1 : k + 1 < s.size ∧ 128 ≤ (byteAt s (k + 1) : Int) ∧ (byteAt s (k + 1) : Int) ≤ 143) (f2 : k + 2 < s.size ∧ 128 ≤ (byteAt s (k + 2) : Int) ∧ (byteAt s (k + 2) : Int) ≤ 191) (f3 : k + 3 < s.size ∧ 128 ≤ (byteAt s (k + 3) : Int) ∧ (byteAt s (k + 3) : Int) ≤ 191) : dN s k = (byteAt s k % 8 * 262144 + byteAt s (k + 1) % 64 * 4096 + byteAt s (k + 2) % 64 * 64 + byteAt s (k + 3) % 64, 4) := by
  have b0 := byteAt_lt s k
  have b1 := byteAt_lt s (k + 1)
  have b2 := byteAt_lt s (k + 2)
  have b3 := byteAt_lt s (k + 3)
  unfold dN Lib.decodeN
  generalize byteAt s k = x0 at *
  generalize byteAt s (k + 1) = x1 at *
  generalize byteAt s (k + 2) = x2 at *
  generalize byteAt s (k + 3) = x3 at *
  repeat' split
  all_goals first | rfl | (exfalso; omega)

theorem d_4c_f (s : ByteArray) (k : Nat) (hk : k < s.size) (c : (240 ≤ byteAt s k ∧ byteAt s k ≤ 244 ∧ byteAt s k ≠ 240 ∧ byteAt s k ≠ 244)) (f1 : ¬ (k + 1 < s.size ∧ 128 ≤ (byteAt s (k + 1) : Int) ∧ (byteAt s (k + 1) : Int) ≤ 191)) : dN s k = (65533, 1) := by
  have b0 := byteAt_lt s k
  have b1 := byteAt_lt s (k + 1)
  have b2 := byteAt_lt s (k + 2)
  have b3 := byteAt_lt s (k + 3)
  unfold dN Lib.decodeN
  generalize byteAt s k = x0 at *
  generalize byteAt s (k + 1) = x1 at *
  generalize byteAt s (k + 2) = x2 at *
  generalize byteAt s (k + 3) = x3 at *
  repeat' split
  all_goals first | rfl | (exfalso; omega)

theorem d_4c_tf (s : ByteArray) (k : Nat) (hk : k < s.size) (c : (240 ≤ byteAt s k ∧ byteAt s k ≤ 244 ∧ byteAt s k ≠ 240 ∧ byteAt s k ≠ 244)) (f1 : k + 1 < s.size ∧ 128 ≤ (byteAt s (k + 1) : Int) ∧ (byteAt s (k + 1) : Int) ≤ 191) (f2 : ¬ (k + 2 < s.size ∧ 128 ≤ (byteAt s (k + 2) : Int) ∧ (byteAt s (k + 2) : Int) ≤ 191)) : dN s k = (65533, 1) := by
  have b0 := byteAt_lt s k
  have b1 := byteAt_lt s (k + 1)
  have b2 := byteAt_lt s (k + 2)
  have b3 := byteAt_lt s (k + 3)
  unfold dN Lib.decodeN
  generalize byteAt s k = x0 at *
  generalize byteAt s (k + 1) = x1 at *
  generalize byteAt s (k + 2) = x2 at *
  generalize byteAt s (k + 3) = x3 at *
  repeat' split
  all_goals first | rfl | (exfalso; omega)

theorem d_4c_ttf (s : ByteArray) (k : Nat) (hk : k < s.size) (c : (240 ≤ byteAt s k ∧ byteAt s k ≤ 244 ∧ byteAt s k ≠ 240 ∧ byteAt s k ≠ 244)) (f1 : k + 1 < s.size ∧ 128 ≤ (byteAt s (k + 1) : Int) ∧ (byteAt s (k + 1) : Int) ≤ 191) (f2 : k + 2 < s.size ∧ 128 ≤ (byteAt s (k + 2) : Int) ∧ (byteAt s (k + 2) : Int) ≤ 191) (f3 : ¬ (k + 3 < s.size ∧ 128 ≤ (byteAt s (k + 3) : Int) ∧ (byteAt s (k + 3) : Int) ≤ 191)) : dN s k = (65533, 1) := by
  have b0 := byteAt_lt s k
  have b1 := byteAt_lt s (k + 1)
  have b2 := byteAt_lt s (k + 2)
  have b3 := byteAt_lt s (k + 3)
  unfold dN Lib.decodeN
  generalize byteAt s k = x0 at *
  generalize byteAt s (k + 1) = x1 at *
  generalize byteAt s (k + 2) = x2 at *
  generalize byteAt s (k + 3) = x3 at *
  repeat' split
  all_goals first | rfl | (exfalso; omega)

theorem d_4c_ttt (s : ByteArray) (k : Nat) (hk : k < s.size) (c : (240 ≤ byteAt s k ∧ byteAt s k ≤ 244 ∧ byteAt s k ≠ 240 ∧ byteAt s k ≠ 244)) (f1 : k + 1 < s.size ∧ 128 ≤ (byteAt s (k + 1) : Int) ∧ (byteAt s (k + 1) : Int) ≤ 191) (f2 : k + 2 < s.size ∧ 128 ≤ (byteAt s (k + 2) : Int) ∧ (byteAt s (k + 2) : Int) ≤ 191) (f3 : k + 3 < s.size ∧ 128 ≤ (byteAt s (k + 3) : Int) ∧ (byteAt s (k + 3) : Int) ≤ 191) : dN s k = (byteAt s k % 8 * 262144 + byteAt s (k + 1) % 64 * 4096 + byteAt s (k + 2) % 64 * 64 + byteAt s (k + 3) % 64, 4) := by
  have b0 := byteAt_lt s k
  have b1 := byteAt_lt s (k + 1)
  have b2 := byteAt_lt s (k + 2)
  have b3 := byteAt_lt s (k + 3)
  unfold dN Lib.decodeN
  generalize byteAt s k = x0 at *
  generalize byteAt s (k + 1) = x1 at *
  generalize byteAt s (k + 2) = x2 at *
  generalize byteAt s (k + 3) = x3 at *
  repeat' split
  all_goals first | rfl | (exfalso; omega)

theorem d_z (s : ByteArray) (k : Nat) (hk : k < s.size) (c1 : 128 ≤ byteAt s k) (c2 : byteAt s k < 194 ∨ 244 < byteAt s k) : dN s k = (65533, 1) := by
  have b0 := byteAt_lt s k
  have b1 := byteAt_lt s (k + 1)
  have b2 := byteAt_lt s (k + 2)
  have b3 := byteAt_lt s (k + 3)
  unfold dN Lib.decodeN
  generalize byteAt s k = x0 at *
  generalize byteAt s (k + 1) = x1 at *
  generalize byteAt s (k + 2) = x2 at *
  generalize byteAt s (k + 3) = x3 at *
  repeat' split
  all_goals first | rfl | (exfalso; omega)

theorem d_a (s : ByteArray) (k : Nat) (hk : k < s.size) (c1 : byteAt s k < 128) : dN s k = (byteAt s k, 1) := by
  have b0 := byteAt_lt s k
  have b1 := byteAt_lt s (k + 1)
  have b2 := byteAt_lt s (k + 2)
  have b3 := byteAt_lt s (k + 3)
  unfold dN Lib.decodeN
  generalize byteAt s k = x0 at *
  generalize byteAt s (k + 1) = x1 at *
  generalize byteAt s (k + 2) = x2 at *
  generalize byteAt s (k + 3) = x3 at *
  repeat' split
  all_goals first | rfl | (exfalso; omega)

set_option maxHeartbeats 1000000 in
theorem point_any (s : ByteArray) (k : Nat) (w : World) (hs : s.size ≤ 140737488351232) (hk : k < s.size) :
    Calls Tryz.prog 62 #[.string s, .int .i64 k] w fun e w' => e = .returned (.tuple #[.int .i64 (Utf8.decode s k).1, .int .i64 (Utf8.decode s k).2, .bool (okAt s k)]) ∧ w' = w := by
  have g0 := byteAt_get s k hk
  by_cases ca : byteAt s k < 128
  · refine (pt_ascii s k w hs hk (by omega)).mono ?_
    rintro e w' ⟨rfl, rfl⟩
    exact ⟨ret_of s k (d_a s k hk ca) (by omega) rfl (by simp; omega), rfl⟩
  by_cases cz : byteAt s k < 194 ∨ 244 < byteAt s k
  · refine (pt_z s k w hs hk (by omega) (by omega)).mono ?_
    rintro e w' ⟨rfl, rfl⟩
    exact ⟨ret_of s k (d_z s k hk (by omega) cz) rfl rfl rfl, rfl⟩
  by_cases c2 : byteAt s k ≤ 223
  · cases f1 : folB s (k + 1) 128 191
    · refine (pt_2_f s k w hs hk (by omega) (by omega)  f1).mono ?_
      rintro e w' ⟨rfl, rfl⟩
      exact ⟨ret_of s k (d_2_f s k hk (by omega)  (folB_f f1)) rfl rfl rfl, rfl⟩
    · have g1 := byteAt_get s (k + 1) (folB_t f1).1
      have q1 := (folB_t f1).2
      refine (pt_2_t s k w hs hk (folB_t f1).1 (by omega) (by omega) f1).mono ?_
      rintro e w' ⟨rfl, rfl⟩
      exact ⟨ret_of s k (d_2_t s k hk (by omega) (folB_t f1)) (by omega) rfl (by simp), rfl⟩
  by_cases c3 : byteAt s k ≤ 239
  · by_cases c3a : byteAt s k = 224
    · cases f1 : folB s (k + 1) 160 191
      · refine (pt_3a_f s k w hs hk (by omega) (by omega)  f1).mono ?_
        rintro e w' ⟨rfl, rfl⟩
        exact ⟨ret_of s k (d_3a_f s k hk c3a  (folB_f f1)) rfl rfl rfl, rfl⟩
      · cases f2 : folB s (k + 2) 128 191
        · refine (pt_3a_tf s k w hs hk (by omega) (by omega) f1 f2).mono ?_
          rintro e w' ⟨rfl, rfl⟩
          exact ⟨ret_of s k (d_3a_tf s k hk c3a (folB_t f1) (folB_f f2)) rfl rfl rfl, rfl⟩
        · have g1 := byteAt_get s (k + 1) (folB_t f1).1
          have g2 := byteAt_get s (k + 2) (folB_t f2).1
          have q1 := (folB_t f1).2
          have q2 := (folB_t f2).2
          refine (pt_3a_tt s k w hs hk (folB_t f1).1 (folB_t f2).1 (by omega) (by omega) f1 f2).mono ?_
          rintro e w' ⟨rfl, rfl⟩
          exact ⟨ret_of s k (d_3a_tt s k hk c3a (folB_t f1) (folB_t f2)) (by omega) rfl (by simp), rfl⟩
    by_cases c3b : byteAt s k = 237
    · cases f1 : folB s (k + 1) 128 159
      · refine (pt_3b_f s k w hs hk (by omega) (by omega)  f1).mono ?_
        rintro e w' ⟨rfl, rfl⟩
        exact ⟨ret_of s k (d_3b_f s k hk c3b  (folB_f f1)) rfl rfl rfl, rfl⟩
      · cases f2 : folB s (k + 2) 128 191
        · refine (pt_3b_tf s k w hs hk (by omega) (by omega) f1 f2).mono ?_
          rintro e w' ⟨rfl, rfl⟩
          exact ⟨ret_of s k (d_3b_tf s k hk c3b (folB_t f1) (folB_f f2)) rfl rfl rfl, rfl⟩
        · have g1 := byteAt_get s (k + 1) (folB_t f1).1
          have g2 := byteAt_get s (k + 2) (folB_t f2).1
          have q1 := (folB_t f1).2
          have q2 := (folB_t f2).2
          refine (pt_3b_tt s k w hs hk (folB_t f1).1 (folB_t f2).1 (by omega) (by omega) f1 f2).mono ?_
          rintro e w' ⟨rfl, rfl⟩
          exact ⟨ret_of s k (d_3b_tt s k hk c3b (folB_t f1) (folB_t f2)) (by omega) rfl (by simp), rfl⟩
    cases f1 : folB s (k + 1) 128 191
    · refine (pt_3c_f s k w hs hk (by omega) (by omega) (by rw [beq_eq_false_iff_ne]; omega) (by rw [beq_eq_false_iff_ne]; omega)  f1).mono ?_
      rintro e w' ⟨rfl, rfl⟩
      exact ⟨ret_of s k (d_3c_f s k hk (by omega)  (folB_f f1)) rfl rfl rfl, rfl⟩
    · cases f2 : folB s (k + 2) 128 191
      · refine (pt_3c_tf s k w hs hk (by omega) (by omega) (by rw [beq_eq_false_iff_ne]; omega) (by rw [beq_eq_false_iff_ne]; omega) f1 f2).mono ?_
        rintro e w' ⟨rfl, rfl⟩
        exact ⟨ret_of s k (d_3c_tf s k hk (by omega) (folB_t f1) (folB_f f2)) rfl rfl rfl, rfl⟩
      · have g1 := byteAt_get s (k + 1) (folB_t f1).1
        have g2 := byteAt_get s (k + 2) (folB_t f2).1
        have q1 := (folB_t f1).2
        have q2 := (folB_t f2).2
        refine (pt_3c_tt s k w hs hk (folB_t f1).1 (folB_t f2).1 (by omega) (by omega) (by rw [beq_eq_false_iff_ne]; omega) (by rw [beq_eq_false_iff_ne]; omega) f1 f2).mono ?_
        rintro e w' ⟨rfl, rfl⟩
        exact ⟨ret_of s k (d_3c_tt s k hk (by omega) (folB_t f1) (folB_t f2)) (by omega) rfl (by simp), rfl⟩
  by_cases c4a : byteAt s k = 240
  · cases f1 : folB s (k + 1) 144 191
    · refine (pt_4a_f s k w hs hk (by omega) (by omega)  f1).mono ?_
      rintro e w' ⟨rfl, rfl⟩
      exact ⟨ret_of s k (d_4a_f s k hk c4a  (folB_f f1)) rfl rfl rfl, rfl⟩
    · cases f2 : folB s (k + 2) 128 191
      · refine (pt_4a_tf s k w hs hk (by omega) (by omega) f1 f2).mono ?_
        rintro e w' ⟨rfl, rfl⟩
        exact ⟨ret_of s k (d_4a_tf s k hk c4a (folB_t f1) (folB_f f2)) rfl rfl rfl, rfl⟩
      · cases f3 : folB s (k + 3) 128 191
        · refine (pt_4a_ttf s k w hs hk (by omega) (by omega) f1 f2 f3).mono ?_
          rintro e w' ⟨rfl, rfl⟩
          exact ⟨ret_of s k (d_4a_ttf s k hk c4a (folB_t f1) (folB_t f2) (folB_f f3)) rfl rfl rfl, rfl⟩
        · have g1 := byteAt_get s (k + 1) (folB_t f1).1
          have g2 := byteAt_get s (k + 2) (folB_t f2).1
          have g3 := byteAt_get s (k + 3) (folB_t f3).1
          have q1 := (folB_t f1).2
          have q2 := (folB_t f2).2
          have q3 := (folB_t f3).2
          refine (pt_4a_ttt s k w hs hk (folB_t f1).1 (folB_t f2).1 (folB_t f3).1 (by omega) (by omega) f1 f2 f3).mono ?_
          rintro e w' ⟨rfl, rfl⟩
          exact ⟨ret_of s k (d_4a_ttt s k hk c4a (folB_t f1) (folB_t f2) (folB_t f3)) (by omega) rfl (by simp), rfl⟩
  by_cases c4b : byteAt s k = 244
  · cases f1 : folB s (k + 1) 128 143
    · refine (pt_4b_f s k w hs hk (by omega) (by omega)  f1).mono ?_
      rintro e w' ⟨rfl, rfl⟩
      exact ⟨ret_of s k (d_4b_f s k hk c4b  (folB_f f1)) rfl rfl rfl, rfl⟩
    · cases f2 : folB s (k + 2) 128 191
      · refine (pt_4b_tf s k w hs hk (by omega) (by omega) f1 f2).mono ?_
        rintro e w' ⟨rfl, rfl⟩
        exact ⟨ret_of s k (d_4b_tf s k hk c4b (folB_t f1) (folB_f f2)) rfl rfl rfl, rfl⟩
      · cases f3 : folB s (k + 3) 128 191
        · refine (pt_4b_ttf s k w hs hk (by omega) (by omega) f1 f2 f3).mono ?_
          rintro e w' ⟨rfl, rfl⟩
          exact ⟨ret_of s k (d_4b_ttf s k hk c4b (folB_t f1) (folB_t f2) (folB_f f3)) rfl rfl rfl, rfl⟩
        · have g1 := byteAt_get s (k + 1) (folB_t f1).1
          have g2 := byteAt_get s (k + 2) (folB_t f2).1
          have g3 := byteAt_get s (k + 3) (folB_t f3).1
          have q1 := (folB_t f1).2
          have q2 := (folB_t f2).2
          have q3 := (folB_t f3).2
          refine (pt_4b_ttt s k w hs hk (folB_t f1).1 (folB_t f2).1 (folB_t f3).1 (by omega) (by omega) f1 f2 f3).mono ?_
          rintro e w' ⟨rfl, rfl⟩
          exact ⟨ret_of s k (d_4b_ttt s k hk c4b (folB_t f1) (folB_t f2) (folB_t f3)) (by omega) rfl (by simp), rfl⟩
  cases f1 : folB s (k + 1) 128 191
  · refine (pt_4c_f s k w hs hk (by omega) (by omega) (by rw [beq_eq_false_iff_ne]; omega) (by rw [beq_eq_false_iff_ne]; omega)  f1).mono ?_
    rintro e w' ⟨rfl, rfl⟩
    exact ⟨ret_of s k (d_4c_f s k hk (by omega)  (folB_f f1)) rfl rfl rfl, rfl⟩
  · cases f2 : folB s (k + 2) 128 191
    · refine (pt_4c_tf s k w hs hk (by omega) (by omega) (by rw [beq_eq_false_iff_ne]; omega) (by rw [beq_eq_false_iff_ne]; omega) f1 f2).mono ?_
      rintro e w' ⟨rfl, rfl⟩
      exact ⟨ret_of s k (d_4c_tf s k hk (by omega) (folB_t f1) (folB_f f2)) rfl rfl rfl, rfl⟩
    · cases f3 : folB s (k + 3) 128 191
      · refine (pt_4c_ttf s k w hs hk (by omega) (by omega) (by rw [beq_eq_false_iff_ne]; omega) (by rw [beq_eq_false_iff_ne]; omega) f1 f2 f3).mono ?_
        rintro e w' ⟨rfl, rfl⟩
        exact ⟨ret_of s k (d_4c_ttf s k hk (by omega) (folB_t f1) (folB_t f2) (folB_f f3)) rfl rfl rfl, rfl⟩
      · have g1 := byteAt_get s (k + 1) (folB_t f1).1
        have g2 := byteAt_get s (k + 2) (folB_t f2).1
        have g3 := byteAt_get s (k + 3) (folB_t f3).1
        have q1 := (folB_t f1).2
        have q2 := (folB_t f2).2
        have q3 := (folB_t f3).2
        refine (pt_4c_ttt s k w hs hk (folB_t f1).1 (folB_t f2).1 (folB_t f3).1 (by omega) (by omega) (by rw [beq_eq_false_iff_ne]; omega) (by rw [beq_eq_false_iff_ne]; omega) f1 f2 f3).mono ?_
        rintro e w' ⟨rfl, rfl⟩
        exact ⟨ret_of s k (d_4c_ttt s k hk (by omega) (folB_t f1) (folB_t f2) (folB_t f3)) (by omega) rfl (by simp), rfl⟩

end Go.Proofs.YtbjohedenfindaaGreatDoor

namespace Go.Proofs.YtbjohedenfindaaGreatDoor
set_option linter.unusedVariables false

/-- a pattern; a kid that is nil is none -/
structure Re where
  kind : Int
  set : List Rg
  mn : Int
  mx : Int
  kids : List (Option Re)

/-- the code point at a byte: -1 the end, -2 a byte that belongs to none -/
def cpAt (s : ByteArray) (i : Nat) : Int := if i < s.size then (if (Utf8.decode s i).1 = 65533 ∧ (Utf8.decode s i).2 = 1 then -2 else ((Utf8.decode s i).1 : Int)) else -1
def szAt (s : ByteArray) (i : Nat) : Nat := if i < s.size then (Utf8.decode s i).2 else 0
def isDig (s : ByteArray) (i : Nat) : Bool := decide (i < s.size) && (decide (48 ≤ (s.get! i).toNat) && decide ((s.get! i).toNat ≤ 57))
/-- how many digits stand from a byte on -/
def digRun (s : ByteArray) : Nat → Nat → Nat
  | 0, _ => 0
  | f + 1, i => if isDig s i then digRun s f (i + 1) + 1 else 0
def digVal (s : ByteArray) (i : Nat) : Nat → Int
  | 0 => 0
  | k + 1 => digVal s i k * 10 + (((s.get! (i + k)).toNat : Int) - 48)
def hexOf (b : Nat) : Int := if 48 ≤ b ∧ b ≤ 57 then (b : Int) - 48 else if 97 ≤ b ∧ b ≤ 102 then (b : Int) - 87 else if 65 ≤ b ∧ b ≤ 70 then (b : Int) - 55 else -1
def isHex (s : ByteArray) (i : Nat) : Bool := decide (i < s.size) && decide (0 ≤ hexOf (s.get! i).toNat)
def hexRun (s : ByteArray) : Nat → Nat → Nat
  | 0, _ => 0
  | f + 1, i => if isHex s i then hexRun s f (i + 1) + 1 else 0
def hexVal (s : ByteArray) (i : Nat) : Nat → Int
  | 0 => 0
  | k + 1 => hexVal s i k * 16 + hexOf (s.get! (i + k)).toNat

/-- the signs that have a meaning -/
def outerS (c : Int) : Bool := [124, 38, 42, 43, 63, 123, 125, 126, 40, 41, 91, 93, 46, 92].contains c
def innerS (c : Int) : Bool := [91, 93, 45, 94, 92].contains c
def escSign (c : Int) : Bool := [124, 38, 42, 43, 63, 123, 125, 126, 40, 41, 91, 93, 46, 92, 45, 94, 34, 39, 32].contains c
def escOf (c : Int) : Option Int := if c = 110 then some 10 else if c = 114 then some 13 else if c = 116 then some 9 else if escSign c then some c else none

def hexS (s : ByteArray) (i : Nat) : Option (Int × Nat) :=
  if 1 ≤ hexRun s 7 i ∧ hexRun s 7 i ≤ 6 ∧ cpAt s (i + hexRun s 7 i) = 125 ∧ hexVal s i (hexRun s 7 i) ≤ 1114111 then some (hexVal s i (hexRun s 7 i), i + hexRun s 7 i + 1) else none
/-- behind a stroke -/
def escS (s : ByteArray) (i : Nat) : Option (Int × Nat) :=
  match escOf (cpAt s i) with
  | some p => some (p, i + 1)
  | none => if cpAt s i = 117 ∧ cpAt s (i + 1) = 123 then hexS s (i + 2) else none
def pointS (s : ByteArray) (signs : Int → Bool) (i : Nat) : Option (Int × Nat) :=
  if cpAt s i = 92 then escS s (i + 1) else if cpAt s i < 0 ∨ signs (cpAt s i) = true then none else some (cpAt s i, i + szAt s i)
def countS (s : ByteArray) (i : Nat) : Option (Int × Nat) :=
  if digRun s s.size i = 0 ∨ (1 < digRun s s.size i ∧ (s.get! i).toNat = 48) ∨ 50 < digVal s i (digRun s s.size i) then none else some (digVal s i (digRun s s.size i), i + digRun s s.size i)
/-- behind a brace -/
def timesS (s : ByteArray) (i : Nat) : Option ((Int × Int) × Nat) :=
  match countS s i with
  | none => none
  | some (a, j) =>
    if cpAt s j = 44 then
      if cpAt s (j + 1) = 125 then some ((a, -1), j + 2)
      else match countS s (j + 1) with
        | none => none
        | some (b, k) => if b < a ∨ b < 1 ∨ cpAt s k ≠ 125 then none else some ((a, b), k + 1)
    else if cpAt s j ≠ 125 ∨ a < 1 then none else some ((a, a), j + 1)
def itemS (s : ByteArray) (i : Nat) : Option (Rg × Nat) :=
  match pointS s innerS i with
  | none => none
  | some (lo, j) =>
    if cpAt s j = 45 then
      match pointS s innerS (j + 1) with
      | none => none
      | some (hi, k) => if hi < lo then none else some ((lo, hi), k)
    else some ((lo, lo), j)
def itemsS (s : ByteArray) : Nat → List Rg → Nat → Option (List Rg × Nat)
  | 0, _, _ => none
  | f + 1, acc, i =>
    if cpAt s i = 93 then some (acc, i + 1)
    else match itemS s i with
      | none => none
      | some (r, j) => itemsS s f (acc ++ [r]) j
def setRe (l : List Rg) : Re := ⟨1, l, 0, 0, []⟩
def repRe (a b : Int) (p : Re) : Re := ⟨6, [], a, b, [some p]⟩
def notRe (p : Re) : Re := ⟨5, [], 0, 0, [some p]⟩
def gatherS (kind : Int) (l : List Re) : Re :=
  match l with
  | [p] => p
  | l => ⟨kind, [], 0, 0, l.map some⟩
def brackS (s : ByteArray) (mk : List Rg → Bool → List Rg) (i : Nat) : Option (Re × Nat) :=
  if cpAt s i = 94 then (itemsS s (s.size + 1) [] (i + 1)).map fun x => (setRe (mk x.1 true), x.2)
  else (itemsS s (s.size + 1) [] i).map fun x => (setRe (mk x.1 false), x.2)
def partS (s : ByteArray) : Nat → Re → Nat → Option (Re × Nat)
  | 0, _, _ => none
  | f + 1, p, i =>
    if cpAt s i = 42 then partS s f (repRe 0 (-1) p) (i + 1)
    else if cpAt s i = 43 then partS s f (repRe 1 (-1) p) (i + 1)
    else if cpAt s i = 63 then partS s f (repRe 0 1 p) (i + 1)
    else if cpAt s i = 123 then
      match timesS s (i + 1) with
      | none => none
      | some ((a, b), j) => partS s f (repRe a b p) j
    else some (p, i)
def rowEndS (c : Int) : Bool := [124, 38, 41, -1].contains c
def rowS (s : ByteArray) (u : Nat → Option (Re × Nat)) : Nat → List Re → Nat → Option (List Re × Nat)
  | 0, _, _ => none
  | f + 1, acc, i =>
    if rowEndS (cpAt s i) then some (acc, i)
    else match (u i).bind fun x => partS s (s.size + 1) x.1 x.2 with
      | none => none
      | some (p, j) => rowS s u f (acc ++ [p]) j
def sevS (s : ByteArray) (sign : Int) (r : Nat → Option (Re × Nat)) : Nat → List Re → Nat → Option (List Re × Nat)
  | 0, _, _ => none
  | f + 1, acc, i =>
    if cpAt s i = sign then
      match r (i + 1) with
      | none => none
      | some (p, j) => sevS s sign r f (acc ++ [p]) j
    else some (acc, i)
def severalS (s : ByteArray) (kind sign : Int) (r : Nat → Option (Re × Nat)) (i : Nat) : Option (Re × Nat) :=
  match r i with
  | none => none
  | some (p, j) => (sevS s sign r (s.size + 1) [p] j).map fun x => (gatherS kind x.1, x.2)
def rowReS (s : ByteArray) (u : Nat → Option (Re × Nat)) (i : Nat) : Option (Re × Nat) := (rowS s u (s.size + 1) [] i).map fun x => (gatherS 2 x.1, x.2)
def bothS (s : ByteArray) (u : Nat → Option (Re × Nat)) (i : Nat) : Option (Re × Nat) := severalS s 4 38 (rowReS s u) i
def patS (s : ByteArray) (u : Nat → Option (Re × Nat)) (i : Nat) : Option (Re × Nat) := severalS s 3 124 (bothS s u) i
def leafS (s : ByteArray) (mk : List Rg → Bool → List Rg) (i : Nat) : Option (Re × Nat) :=
  if cpAt s i = 46 then some (setRe (mk [(10, 10)] true), i + 1) else (pointS s outerS i).map fun x => (setRe [(x.1, x.1)], x.2)
def unitS (s : ByteArray) (mk : List Rg → Bool → List Rg) : Nat → Nat → Option (Re × Nat)
  | 0, i => leafS s mk i
  | n + 1, i =>
    if cpAt s i = 126 then (unitS s mk n (i + 1)).map fun x => (notRe x.1, x.2)
    else if cpAt s i = 40 then
      match patS s (fun j => unitS s mk n j) (i + 1) with
      | none => none
      | some (p, j) => if cpAt s j = 41 then some (p, j + 1) else none
    else if cpAt s i = 91 then brackS s mk (i + 1)
    else leafS s mk i
def wholeS (s : ByteArray) (mk : List Rg → Bool → List Rg) : Option Re :=
  match patS s (fun j => unitS s mk 100 j) 0 with
  | none => none
  | some (p, j) => if cpAt s j = -1 then some p else none

end Go.Proofs.YtbjohedenfindaaGreatDoor
