/- Texts of the proof, put together: PointE. -/
import Derived.Test.YthbglakncijahaaGreatDoorAw03
import Derived.Test.YthbglakncijahaaGreatDoorAw04
namespace Go.Proofs.YthbglakncijahaaGreatDoor
open Go.RowKit
set_option linter.unusedVariables false
set_option maxRecDepth 100000

theorem folB_t {s : ByteArray} {k : Nat} {lo hi : Int} (h : folB s k lo hi = true) : k < s.size ∧ lo ≤ (byteAt s k : Int) ∧ (byteAt s k : Int) ≤ hi := by
  simpa [folB] using h
theorem folB_f {s : ByteArray} {k : Nat} {lo hi : Int} (h : folB s k lo hi = false) : ¬ (k < s.size ∧ lo ≤ (byteAt s k : Int) ∧ (byteAt s k : Int) ≤ hi) := by
  intro h2
  simp [folB, h2.1, h2.2.1, h2.2.2] at h
def dN (s : ByteArray) (k : Nat) : Nat × Nat := Lib.decodeN (s.size - k) (byteAt s k) (byteAt s (k + 1)) (byteAt s (k + 2)) (byteAt s (k + 3))
theorem dN_eq (s : ByteArray) (k : Nat) : Utf8.decode s k = dN s k := Lib.decode_at s k
theorem ret_of (s : ByteArray) (k : Nat) {p n : Int} {b : Bool} {P N : Nat} (hd : dN s k = (P, N)) (hp : (P : Int) = p) (hn : (N : Int) = n) (hb : (!(P == 65533 && N == 1)) = b) :
    Ending.returned (.tuple #[.int .i64 p, .int .i64 n, .bool b]) = .returned (.tuple #[.int .i64 (Utf8.decode s k).1, .int .i64 (Utf8.decode s k).2, .bool (okAt s k)]) := by
  subst hp hn hb
  simp only [okAt, dN_eq, hd]

theorem d_2_f (s : ByteArray) (k : Nat) (hk : k < s.size) (c : (194 ≤ byteAt s k ∧ byteAt s k ≤ 223)) (f1 : ¬ (k + 1 < s.size ∧ 128 ≤ (byteAt s (k + 1) : Int) ∧ (byteAt s (k + 1) : Int) ≤ 191)) : dN s k = (65533, 1) := by
  have b0 := byteAt_lt s k
  have b1 := byteAt_lt s (k + 1)
  have b2 := byteAt_lt s (k + 2)
  have b3 := byteAt_lt s (k + 3)
  unfold dN Lib.decodeN
  generalize byteAt s k = x0 at *
  generalize byteAt s (k + 1) = x1 at *
  generalize byteAt s (k + 2) = x2 at *
  generalize byteAt s (k + 3) = x3 at *
  repeat' split
  all_goals first | rfl | (exfalso; omega)

theorem d_2_t (s : ByteArray) (k : Nat) (hk : k < s.size) (c : (194 ≤ byteAt s k ∧ byteAt s k ≤ 223)) (f1 : k + 1 < s.size ∧ 128 ≤ (byteAt s (k + 1) : Int) ∧ (byteAt s (k + 1) : Int) ≤ 191) : dN s k = (byteAt s k % 32 * 64 + byteAt s (k + 1) % 64, 2) := by
  have b0 := byteAt_lt s k
  have b1 := byteAt_lt s (k + 1)
  have b2 := byteAt_lt s (k + 2)
  have b3 := byteAt_lt s (k + 3)
  unfold dN Lib.decodeN
  generalize byteAt s k = x0 at *
  generalize byteAt s (k + 1) = x1 at *
  generalize byteAt s (k + 2) = x2 at *
  generalize byteAt s (k + 3) = x3 at *
  repeat' split
  all_goals first | rfl | (exfalso; omega)

theorem d_3a_f (s : ByteArray) (k : Nat) (hk : k < s.size) (c : byteAt s k = 224) (f1 : ¬ (k + 1 < s.size ∧ 160 ≤ (byteAt s (k + 1) : Int) ∧ (byteAt s (k + 1) : Int) ≤ 191)) : dN s k = (65533, 1) := by
  have b0 := byteAt_lt s k
  have b1 := byteAt_lt s (k + 1)
  have b2 := byteAt_lt s (k + 2)
  have b3 := byteAt_lt s (k + 3)
  unfold dN Lib.decodeN
  generalize byteAt s k = x0 at *
  generalize byteAt s (k + 1) = x1 at *
  generalize byteAt s (k + 2) = x2 at *
  generalize byteAt s (k + 3) = x3 at *
  repeat' split
  all_goals first | rfl | (exfalso; omega)

theorem d_3a_tf (s : ByteArray) (k : Nat) (hk : k < s.size) (c : byteAt s k = 224) (f1 : k + 1 < s.size ∧ 160 ≤ (byteAt s (k + 1) : Int) ∧ (byteAt s (k + 1) : Int) ≤ 191) (f2 : ¬ (k + 2 < s.size ∧ 128 ≤ (byteAt s (k + 2) : Int) ∧ (byteAt s (k + 2) : Int) ≤ 191)) : dN s k = (65533, 1) := by
  have b0 := byteAt_lt s k
  have b1 := byteAt_lt s (k + 1)
  have b2 := byteAt_lt s (k + 2)
  have b3 := byteAt_lt s (k + 3)
  unfold dN Lib.decodeN
  generalize byteAt s k = x0 at *
  generalize byteAt s (k + 1) = x1 at *
  generalize byteAt s (k + 2) = x2 at *
  generalize byteAt s (k + 3) = x3 at *
  repeat' split
  all_goals first | rfl | (exfalso; omega)

theorem d_3a_tt (s : ByteArray) (k : Nat) (hk : k < s.size) (c : byteAt s k = 224) (f1 : k + 1 < s.size ∧ 160 ≤ (byteAt s (k + 1) : Int) ∧ (byteAt s (k + 1) : Int) ≤ 191) (f2 : k + 2 < s.size ∧ 128 ≤ (byteAt s (k + 2) : Int) ∧ (byteAt s (k + 2) : Int) ≤ 191) : dN s k = (byteAt s k % 16 * 4096 + byteAt s (k + 1) % 64 * 64 + byteAt s (k + 2) % 64, 3) := by
  have b0 := byteAt_lt s k
  have b1 := byteAt_lt s (k + 1)
  have b2 := byteAt_lt s (k + 2)
  have b3 := byteAt_lt s (k + 3)
  unfold dN Lib.decodeN
  generalize byteAt s k = x0 at *
  generalize byteAt s (k + 1) = x1 at *
  generalize byteAt s (k + 2) = x2 at *
  generalize byteAt s (k + 3) = x3 at *
  repeat' split
  all_goals first | rfl | (exfalso; omega)

theorem d_3b_f (s : ByteArray) (k : Nat) (hk : k < s.size) (c : byteAt s k = 237) (f1 : ¬ (k + 1 < s.size ∧ 128 ≤ (byteAt s (k + 1) : Int) ∧ (byteAt s (k + 1) : Int) ≤ 159)) : dN s k = (65533, 1) := by
  have b0 := byteAt_lt s k
  have b1 := byteAt_lt s (k + 1)
  have b2 := byteAt_lt s (k + 2)
  have b3 := byteAt_lt s (k + 3)
  unfold dN Lib.decodeN
  generalize byteAt s k = x0 at *
  generalize byteAt s (k + 1) = x1 at *
  generalize byteAt s (k + 2) = x2 at *
  generalize byteAt s (k + 3) = x3 at *
  repeat' split
  all_goals first | rfl | (exfalso; omega)

theorem d_3b_tf (s : ByteArray) (k : Nat) (hk : k < s.size) (c : byteAt s k = 237) (f1 : k + 1 < s.size ∧ 128 ≤ (byteAt s (k + 1) : Int) ∧ (byteAt s (k + 1) : Int) ≤ 159) (f2 : ¬ (k + 2 < s.size ∧ 128 ≤ (byteAt s (k + 2) : Int) ∧ (byteAt s (k + 2) : Int) ≤ 191)) : dN s k = (65533, 1) := by
  have b0 := byteAt_lt s k
  have b1 := byteAt_lt s (k + 1)
  have b2 := byteAt_lt s (k + 2)
  have b3 := byteAt_lt s (k + 3)
  unfold dN Lib.decodeN
  generalize byteAt s k = x0 at *
  generalize byteAt s (k + 1) = x1 at *
  generalize byteAt s (k + 2) = x2 at *
  generalize byteAt s (k + 3) = x3 at *
  repeat' split
  all_goals first | rfl | (exfalso; omega)

theorem d_3b_tt (s : ByteArray) (k : Nat) (hk : k < s.size) (c : byteAt s k = 237) (f1 : k + 1 < s.size ∧ 128 ≤ (byteAt s (k + 1) : Int) ∧ (byteAt s (k + 1) : Int) ≤ 159) (f2 : k + 2 < s.size ∧ 128 ≤ (byteAt s (k + 2) : Int) ∧ (byteAt s (k + 2) : Int) ≤ 191) : dN s k = (byteAt s k % 16 * 4096 + byteAt s (k + 1) % 64 * 64 + byteAt s (k + 2) % 64, 3) := by
  have b0 := byteAt_lt s k
  have b1 := byteAt_lt s (k + 1)
  have b2 := byteAt_lt s (k + 2)
  have b3 := byteAt_lt s (k + 3)
  unfold dN Lib.decodeN
  generalize byteAt s k = x0 at *
  generalize byteAt s (k + 1) = x1 at *
  generalize byteAt s (k + 2) = x2 at *
  generalize byteAt s (k + 3) = x3 at *
  repeat' split
  all_goals first | rfl | (exfalso; omega)

theorem d_3c_f (s : ByteArray) (k : Nat) (hk : k < s.size) (c : (224 ≤ byteAt s k ∧ byteAt s k ≤ 239 ∧ byteAt s k ≠ 224 ∧ byteAt s k ≠ 237)) (f1 : ¬ (k + 1 < s.size ∧ 128 ≤ (byteAt s (k + 1) : Int) ∧ (byteAt s (k + 1) : Int) ≤ 191)) : dN s k = (65533, 1) := by
  have b0 := byteAt_lt s k
  have b1 := byteAt_lt s (k + 1)
  have b2 := byteAt_lt s (k + 2)
  have b3 := byteAt_lt s (k + 3)
  unfold dN Lib.decodeN
  generalize byteAt s k = x0 at *
  generalize byteAt s (k + 1) = x1 at *
  generalize byteAt s (k + 2) = x2 at *
  generalize byteAt s (k + 3) = x3 at *
  repeat' split
  all_goals first | rfl | (exfalso; omega)

theorem d_3c_tf (s : ByteArray) (k : Nat) (hk : k < s.size) (c : (224 ≤ byteAt s k ∧ byteAt s k ≤ 239 ∧ byteAt s k ≠ 224 ∧ byteAt s k ≠ 237)) (f1 : k + 1 < s.size ∧ 128 ≤ (byteAt s (k + 1) : Int) ∧ (byteAt s (k + 1) : Int) ≤ 191) (f2 : ¬ (k + 2 < s.size ∧ 128 ≤ (byteAt s (k + 2) : Int) ∧ (byteAt s (k + 2) : Int) ≤ 191)) : dN s k = (65533, 1) := by
  have b0 := byteAt_lt s k
  have b1 := byteAt_lt s (k + 1)
  have b2 := byteAt_lt s (k + 2)
  have b3 := byteAt_lt s (k + 3)
  unfold dN Lib.decodeN
  generalize byteAt s k = x0 at *
  generalize byteAt s (k + 1) = x1 at *
  generalize byteAt s (k + 2) = x2 at *
  generalize byteAt s (k + 3) = x3 at *
  repeat' split
  all_goals first | rfl | (exfalso; omega)

theorem d_3c_tt (s : ByteArray) (k : Nat) (hk : k < s.size) (c : (224 ≤ byteAt s k ∧ byteAt s k ≤ 239 ∧ byteAt s k ≠ 224 ∧ byteAt s k ≠ 237)) (f1 : k + 1 < s.size ∧ 128 ≤ (byteAt s (k + 1) : Int) ∧ (byteAt s (k + 1) : Int) ≤ 191) (f2 : k + 2 < s.size ∧ 128 ≤ (byteAt s (k + 2) : Int) ∧ (byteAt s (k + 2) : Int) ≤ 191) : dN s k = (byteAt s k % 16 * 4096 + byteAt s (k + 1) % 64 * 64 + byteAt s (k + 2) % 64, 3) := by
  have b0 := byteAt_lt s k
  have b1 := byteAt_lt s (k + 1)
  have b2 := byteAt_lt s (k + 2)
  have b3 := byteAt_lt s (k + 3)
  unfold dN Lib.decodeN
  generalize byteAt s k = x0 at *
  generalize byteAt s (k + 1) = x1 at *
  generalize byteAt s (k + 2) = x2 at *
  generalize byteAt s (k + 3) = x3 at *
  repeat' split
  all_goals first | rfl | (exfalso; omega)

theorem d_4a_f (s : ByteArray) (k : Nat) (hk : k < s.size) (c : byteAt s k = 240) (f1 : ¬ (k + 1 < s.size ∧ 144 ≤ (byteAt s (k + 1) : Int) ∧ (byteAt s (k + 1) : Int) ≤ 191)) : dN s k = (65533, 1) := by
  have b0 := byteAt_lt s k
  have b1 := byteAt_lt s (k + 1)
  have b2 := byteAt_lt s (k + 2)
  have b3 := byteAt_lt s (k + 3)
  unfold dN Lib.decodeN
  generalize byteAt s k = x0 at *
  generalize byteAt s (k + 1) = x1 at *
  generalize byteAt s (k + 2) = x2 at *
  generalize byteAt s (k + 3) = x3 at *
  repeat' split
  all_goals first | rfl | (exfalso; omega)

theorem d_4a_tf (s : ByteArray) (k : Nat) (hk : k < s.size) (c : byteAt s k = 240) (f1 : k + 1 < s.size ∧ 144 ≤ (byteAt s (k + 1) : Int) ∧ (byteAt s (k + 1) : Int) ≤ 191) (f2 : ¬ (k + 2 < s.size ∧ 128 ≤ (byteAt s (k + 2) : Int) ∧ (byteAt s (k + 2) : Int) ≤ 191)) : dN s k = (65533, 1) := by
  have b0 := byteAt_lt s k
  have b1 := byteAt_lt s (k + 1)
  have b2 := byteAt_lt s (k + 2)
  have b3 := byteAt_lt s (k + 3)
  unfold dN Lib.decodeN
  generalize byteAt s k = x0 at *
  generalize byteAt s (k + 1) = x1 at *
  generalize byteAt s (k + 2) = x2 at *
  generalize byteAt s (k + 3) = x3 at *
  repeat' split
  all_goals first | rfl | (exfalso; omega)

theorem d_4a_ttf (s : ByteArray) (k : Nat) (hk : k < s.size) (c : byteAt s k = 240) (f1 : k + 1 < s.size ∧ 144 ≤ (byteAt s (k + 1) : Int) ∧ (byteAt s (k + 1) : Int) ≤ 191) (f2 : k + 2 < s.size ∧ 128 ≤ (byteAt s (k + 2) : Int) ∧ (byteAt s (k + 2) : Int) ≤ 191) (f3 : ¬ (k + 3 < s.size ∧ 128 ≤ (byteAt s (k + 3) : Int) ∧ (byteAt s (k + 3) : Int) ≤ 191)) : dN s k = (65533, 1) := by
  have b0 := byteAt_lt s k
  have b1 := byteAt_lt s (k + 1)
  have b2 := byteAt_lt s (k + 2)
  have b3 := byteAt_lt s (k + 3)
  unfold dN Lib.decodeN
  generalize byteAt s k = x0 at *
  generalize byteAt s (k + 1) = x1 at *
  generalize byteAt s (k + 2) = x2 at *
  generalize byteAt s (k + 3) = x3 at *
  repeat' split
  all_goals first | rfl | (exfalso; omega)

theorem d_4a_ttt (s : ByteArray) (k : Nat) (hk : k < s.size) (c : byteAt s k = 240) (f1 : k + 1 < s.size ∧ 144 ≤ (byteAt s (k + 1) : Int) ∧ (byteAt s (k + 1) : Int) ≤ 191) (f2 : k + 2 < s.size ∧ 128 ≤ (byteAt s (k + 2) : Int) ∧ (byteAt s (k + 2) : Int) ≤ 191) (f3 : k + 3 < s.size ∧ 128 ≤ (byteAt s (k + 3) : Int) ∧ (byteAt s (k + 3) : Int) ≤ 191) : dN s k = (byteAt s k % 8 * 262144 + byteAt s (k + 1) % 64 * 4096 + byteAt s (k + 2) % 64 * 64 + byteAt s (k + 3) % 64, 4) := by
  have b0 := byteAt_lt s k
  have b1 := byteAt_lt s (k + 1)
  have b2 := byteAt_lt s (k + 2)
  have b3 := byteAt_lt s (k + 3)
  unfold dN Lib.decodeN
  generalize byteAt s k = x0 at *
  generalize byteAt s (k + 1) = x1 at *
  generalize byteAt s (k + 2) = x2 at *
  generalize byteAt s (k + 3) = x3 at *
  repeat' split
  all_goals first | rfl | (exfalso; omega)

theorem d_4b_f (s : ByteArray) (k : Nat) (hk : k < s.size) (c : byteAt s k = 244) (f1 : ¬ (k + 1 < s.size ∧ 128 ≤ (byteAt s (k + 1) : Int) ∧ (byteAt s (k + 1) : Int) ≤ 143)) : dN s k = (65533, 1) := by
  have b0 := byteAt_lt s k
  have b1 := byteAt_lt s (k + 1)
  have b2 := byteAt_lt s (k + 2)
  have b3 := byteAt_lt s (k + 3)
  unfold dN Lib.decodeN
  generalize byteAt s k = x0 at *
  generalize byteAt s (k + 1) = x1 at *
  generalize byteAt s (k + 2) = x2 at *
  generalize byteAt s (k + 3) = x3 at *
  repeat' split
  all_goals first | rfl | (exfalso; omega)

theorem d_4b_tf (s : ByteArray) (k : Nat) (hk : k < s.size) (c : byteAt s k = 244) (f1 : k + 1 < s.size ∧ 128 ≤ (byteAt s (k + 1) : Int) ∧ (byteAt s (k + 1) : Int) ≤ 143) (f2 : ¬ (k + 2 < s.size ∧ 128 ≤ (byteAt s (k + 2) : Int) ∧ (byteAt s (k + 2) : Int) ≤ 191)) : dN s k = (65533, 1) := by
  have b0 := byteAt_lt s k
  have b1 := byteAt_lt s (k + 1)
  have b2 := byteAt_lt s (k + 2)
  have b3 := byteAt_lt s (k + 3)
  unfold dN Lib.decodeN
  generalize byteAt s k = x0 at *
  generalize byteAt s (k + 1) = x1 at *
  generalize byteAt s (k + 2) = x2 at *
  generalize byteAt s (k + 3) = x3 at *
  repeat' split
  all_goals first | rfl | (exfalso; omega)

theorem d_4b_ttf (s : ByteArray) (k : Nat) (hk : k < s.size) (c : byteAt s k = 244) (f1 : k + 1 < s.size ∧ 128 ≤ (byteAt s (k + 1) : Int) ∧ (byteAt s (k + 1) : Int) ≤ 143) (f2 : k + 2 < s.size ∧ 128 ≤ (byteAt s (k + 2) : Int) ∧ (byteAt s (k + 2) : Int) ≤ 191) (f3 : ¬ (k + 3 < s.size ∧ 128 ≤ (byteAt s (k + 3) : Int) ∧ (byteAt s (k + 3) : Int) ≤ 191)) : dN s k = (65533, 1) := by
  have b0 := byteAt_lt s k
  have b1 := byteAt_lt s (k + 1)
  have b2 := byteAt_lt s (k + 2)
  have b3 := byteAt_lt s (k + 3)
  unfold dN Lib.decodeN
  generalize byteAt s k = x0 at *
  generalize byteAt s (k + 1) = x1 at *
  generalize byteAt s (k + 2) = x2 at *
  generalize byteAt s (k + 3) = x3 at *
  repeat' split
  all_goals first | rfl | (exfalso; omega)

theorem d_4b_ttt (s : ByteArray) (k : Nat) (hk : k < s.size) (c : byteAt s k = 244) (f1 : k + 1 < s.size ∧ 128 ≤ (byteAt s (k + 1) : Int) ∧ (byteAt s (k + 1) : Int) ≤ 143) (f2 : k + 2 < s.size ∧ 128 ≤ (byteAt s (k + 2) : Int) ∧ (byteAt s (k + 2) : Int) ≤ 191) (f3 : k + 3 < s.size ∧ 128 ≤ (byteAt s (k + 3) : Int) ∧ (byteAt s (k + 3) : Int) ≤ 191) : dN s k = (byteAt s k % 8 * 262144 + byteAt s (k + 1) % 64 * 4096 + byteAt s (k + 2) % 64 * 64 + byteAt s (k + 3) % 64, 4) := by
  have b0 := byteAt_lt s k
  have b1 := byteAt_lt s (k + 1)
  have b2 := byteAt_lt s (k + 2)
  have b3 := byteAt_lt s (k + 3)
  unfold dN Lib.decodeN
  generalize byteAt s k = x0 at *
  generalize byteAt s (k + 1) = x1 at *
  generalize byteAt s (k + 2) = x2 at *
  generalize byteAt s (k + 3) = x3 at *
  repeat' split
  all_goals first | rfl | (exfalso; omega)

theorem d_4c_f (s : ByteArray) (k : Nat) (hk : k < s.size) (c : (240 ≤ byteAt s k ∧ byteAt s k ≤ 244 ∧ byteAt s k ≠ 240 ∧ byteAt s k ≠ 244)) (f1 : ¬ (k + 1 < s.size ∧ 128 ≤ (byteAt s (k + 1) : Int) ∧ (byteAt s (k + 1) : Int) ≤ 191)) : dN s k = (65533, 1) := by
  have b0 := byteAt_lt s k
  have b1 := byteAt_lt s (k + 1)
  have b2 := byteAt_lt s (k + 2)
  have b3 := byteAt_lt s (k + 3)
  unfold dN Lib.decodeN
  generalize byteAt s k = x0 at *
  generalize byteAt s (k + 1) = x1 at *
  generalize byteAt s (k + 2) = x2 at *
  generalize byteAt s (k + 3) = x3 at *
  repeat' split
  all_goals first | rfl | (exfalso; omega)

theorem d_4c_tf (s : ByteArray) (k : Nat) (hk : k < s.size) (c : (240 ≤ byteAt s k ∧ byteAt s k ≤ 244 ∧ byteAt s k ≠ 240 ∧ byteAt s k ≠ 244)) (f1 : k + 1 < s.size ∧ 128 ≤ (byteAt s (k + 1) : Int) ∧ (byteAt s (k + 1) : Int) ≤ 191) (f2 : ¬ (k + 2 < s.size ∧ 128 ≤ (byteAt s (k + 2) : Int) ∧ (byteAt s (k + 2) : Int) ≤ 191)) : dN s k = (65533, 1) := by
  have b0 := byteAt_lt s k
  have b1 := byteAt_lt s (k + 1)
  have b2 := byteAt_lt s (k + 2)
  have b3 := byteAt_lt s (k + 3)
  unfold dN Lib.decodeN
  generalize byteAt s k = x0 at *
  generalize byteAt s (k + 1) = x1 at *
  generalize byteAt s (k + 2) = x2 at *
  generalize byteAt s (k + 3) = x3 at *
  repeat' split
  all_goals first | rfl | (exfalso; omega)

theorem d_4c_ttf (s : ByteArray) (k : Nat) (hk : k < s.size) (c : (240 ≤ byteAt s k ∧ byteAt s k ≤ 244 ∧ byteAt s k ≠ 240 ∧ byteAt s k ≠ 244)) (f1 : k + 1 < s.size ∧ 128 ≤ (byteAt s (k + 1) : Int) ∧ (byteAt s (k + 1) : Int) ≤ 191) (f2 : k + 2 < s.size ∧ 128 ≤ (byteAt s (k + 2) : Int) ∧ (byteAt s (k + 2) : Int) ≤ 191) (f3 : ¬ (k + 3 < s.size ∧ 128 ≤ (byteAt s (k + 3) : Int) ∧ (byteAt s (k + 3) : Int) ≤ 191)) : dN s k = (65533, 1) := by
  have b0 := byteAt_lt s k
  have b1 := byteAt_lt s (k + 1)
  have b2 := byteAt_lt s (k + 2)
  have b3 := byteAt_lt s (k + 3)
  unfold dN Lib.decodeN
  generalize byteAt s k = x0 at *
  generalize byteAt s (k + 1) = x1 at *
  generalize byteAt s (k + 2) = x2 at *
  generalize byteAt s (k + 3) = x3 at *
  repeat' split
  all_goals first | rfl | (exfalso; omega)

theorem d_4c_ttt (s : ByteArray) (k : Nat) (hk : k < s.size) (c : (240 ≤ byteAt s k ∧ byteAt s k ≤ 244 ∧ byteAt s k ≠ 240 ∧ byteAt s k ≠ 244)) (f1 : k + 1 < s.size ∧ 128 ≤ (byteAt s (k + 1) : Int) ∧ (byteAt s (k + 1) : Int) ≤ 191) (f2 : k + 2 < s.size ∧ 128 ≤ (byteAt s (k + 2) : Int) ∧ (byteAt s (k + 2) : Int) ≤ 191) (f3 : k + 3 < s.size ∧ 128 ≤ (byteAt s (k + 3) : Int) ∧ (byteAt s (k + 3) : Int) ≤ 191) : dN s k = (byteAt s k % 8 * 262144 + byteAt s (k + 1) % 64 * 4096 + byteAt s (k + 2) % 64 * 64 + byteAt s (k + 3) % 64, 4) := by
  have b0 := byteAt_lt s k
  have b1 := byteAt_lt s (k + 1)
  have b2 := byteAt_lt s (k + 2)
  have b3 := byteAt_lt s (k + 3)
  unfold dN Lib.decodeN
  generalize byteAt s k = x0 at *
  generalize byteAt s (k + 1) = x1 at *
  generalize byteAt s (k + 2) = x2 at *
  generalize byteAt s (k + 3) = x3 at *
  repeat' split
  all_goals first | rfl | (exfalso; omega)

theorem d_z (s : ByteArray) (k : Nat) (hk : k < s.size) (c1 : 128 ≤ byteAt s k) (c2 : byteAt s k < 194 ∨ 244 < byteAt s k) : dN s k = (65533, 1) := by
  have b0 := byteAt_lt s k
  have b1 := byteAt_lt s (k + 1)
  have b2 := byteAt_lt s (k + 2)
  have b3 := byteAt_lt s (k + 3)
  unfold dN Lib.decodeN
  generalize byteAt s k = x0 at *
  generalize byteAt s (k + 1) = x1 at *
  generalize byteAt s (k + 2) = x2 at *
  generalize byteAt s (k + 3) = x3 at *
  repeat' split
  all_goals first | rfl | (exfalso; omega)

theorem d_a (s : ByteArray) (k : Nat) (hk : k < s.size) (c1 : byteAt s k < 128) : dN s k = (byteAt s k, 1) := by
  have b0 := byteAt_lt s k
  have b1 := byteAt_lt s (k + 1)
  have b2 := byteAt_lt s (k + 2)
  have b3 := byteAt_lt s (k + 3)
  unfold dN Lib.decodeN
  generalize byteAt s k = x0 at *
  generalize byteAt s (k + 1) = x1 at *
  generalize byteAt s (k + 2) = x2 at *
  generalize byteAt s (k + 3) = x3 at *
  repeat' split
  all_goals first | rfl | (exfalso; omega)

set_option maxHeartbeats 1000000 in
theorem point_any (s : ByteArray) (k : Nat) (w : World) (hs : s.size ≤ 140737488351232) (hk : k < s.size) :
    Calls Tryz.prog 150 #[.string s, .int .i64 k] w fun e w' => e = .returned (.tuple #[.int .i64 (Utf8.decode s k).1, .int .i64 (Utf8.decode s k).2, .bool (okAt s k)]) ∧ w' = w := by
  have g0 := byteAt_get s k hk
  by_cases ca : byteAt s k < 128
  · refine (pt_ascii s k w hs hk (by omega)).mono ?_
    rintro e w' ⟨rfl, rfl⟩
    exact ⟨ret_of s k (d_a s k hk ca) (by omega) rfl (by simp; omega), rfl⟩
  by_cases cz : byteAt s k < 194 ∨ 244 < byteAt s k
  · refine (pt_z s k w hs hk (by omega) (by omega)).mono ?_
    rintro e w' ⟨rfl, rfl⟩
    exact ⟨ret_of s k (d_z s k hk (by omega) cz) rfl rfl rfl, rfl⟩
  by_cases c2 : byteAt s k ≤ 223
  · cases f1 : folB s (k + 1) 128 191
    · refine (pt_2_f s k w hs hk (by omega) (by omega)  f1).mono ?_
      rintro e w' ⟨rfl, rfl⟩
      exact ⟨ret_of s k (d_2_f s k hk (by omega)  (folB_f f1)) rfl rfl rfl, rfl⟩
    · have g1 := byteAt_get s (k + 1) (folB_t f1).1
      have q1 := (folB_t f1).2
      refine (pt_2_t s k w hs hk (folB_t f1).1 (by omega) (by omega) f1).mono ?_
      rintro e w' ⟨rfl, rfl⟩
      exact ⟨ret_of s k (d_2_t s k hk (by omega) (folB_t f1)) (by omega) rfl (by simp), rfl⟩
  by_cases c3 : byteAt s k ≤ 239
  · by_cases c3a : byteAt s k = 224
    · cases f1 : folB s (k + 1) 160 191
      · refine (pt_3a_f s k w hs hk (by omega) (by omega)  f1).mono ?_
        rintro e w' ⟨rfl, rfl⟩
        exact ⟨ret_of s k (d_3a_f s k hk c3a  (folB_f f1)) rfl rfl rfl, rfl⟩
      · cases f2 : folB s (k + 2) 128 191
        · refine (pt_3a_tf s k w hs hk (by omega) (by omega) f1 f2).mono ?_
          rintro e w' ⟨rfl, rfl⟩
          exact ⟨ret_of s k (d_3a_tf s k hk c3a (folB_t f1) (folB_f f2)) rfl rfl rfl, rfl⟩
        · have g1 := byteAt_get s (k + 1) (folB_t f1).1
          have g2 := byteAt_get s (k + 2) (folB_t f2).1
          have q1 := (folB_t f1).2
          have q2 := (folB_t f2).2
          refine (pt_3a_tt s k w hs hk (folB_t f1).1 (folB_t f2).1 (by omega) (by omega) f1 f2).mono ?_
          rintro e w' ⟨rfl, rfl⟩
          exact ⟨ret_of s k (d_3a_tt s k hk c3a (folB_t f1) (folB_t f2)) (by omega) rfl (by simp), rfl⟩
    by_cases c3b : byteAt s k = 237
    · cases f1 : folB s (k + 1) 128 159
      · refine (pt_3b_f s k w hs hk (by omega) (by omega)  f1).mono ?_
        rintro e w' ⟨rfl, rfl⟩
        exact ⟨ret_of s k (d_3b_f s k hk c3b  (folB_f f1)) rfl rfl rfl, rfl⟩
      · cases f2 : folB s (k + 2) 128 191
        · refine (pt_3b_tf s k w hs hk (by omega) (by omega) f1 f2).mono ?_
          rintro e w' ⟨rfl, rfl⟩
          exact ⟨ret_of s k (d_3b_tf s k hk c3b (folB_t f1) (folB_f f2)) rfl rfl rfl, rfl⟩
        · have g1 := byteAt_get s (k + 1) (folB_t f1).1
          have g2 := byteAt_get s (k + 2) (folB_t f2).1
          have q1 := (folB_t f1).2
          have q2 := (folB_t f2).2
          refine (pt_3b_tt s k w hs hk (folB_t f1).1 (folB_t f2).1 (by omega) (by omega) f1 f2).mono ?_
          rintro e w' ⟨rfl, rfl⟩
          exact ⟨ret_of s k (d_3b_tt s k hk c3b (folB_t f1) (folB_t f2)) (by omega) rfl (by simp), rfl⟩
    cases f1 : folB s (k + 1) 128 191
    · refine (pt_3c_f s k w hs hk (by omega) (by omega) (by rw [beq_eq_false_iff_ne]; omega) (by rw [beq_eq_false_iff_ne]; omega)  f1).mono ?_
      rintro e w' ⟨rfl, rfl⟩
      exact ⟨ret_of s k (d_3c_f s k hk (by omega)  (folB_f f1)) rfl rfl rfl, rfl⟩
    · cases f2 : folB s (k + 2) 128 191
      · refine (pt_3c_tf s k w hs hk (by omega) (by omega) (by rw [beq_eq_false_iff_ne]; omega) (by rw [beq_eq_false_iff_ne]; omega) f1 f2).mono ?_
        rintro e w' ⟨rfl, rfl⟩
        exact ⟨ret_of s k (d_3c_tf s k hk (by omega) (folB_t f1) (folB_f f2)) rfl rfl rfl, rfl⟩
      · have g1 := byteAt_get s (k + 1) (folB_t f1).1
        have g2 := byteAt_get s (k + 2) (folB_t f2).1
        have q1 := (folB_t f1).2
        have q2 := (folB_t f2).2
        refine (pt_3c_tt s k w hs hk (folB_t f1).1 (folB_t f2).1 (by omega) (by omega) (by rw [beq_eq_false_iff_ne]; omega) (by rw [beq_eq_false_iff_ne]; omega) f1 f2).mono ?_
        rintro e w' ⟨rfl, rfl⟩
        exact ⟨ret_of s k (d_3c_tt s k hk (by omega) (folB_t f1) (folB_t f2)) (by omega) rfl (by simp), rfl⟩
  by_cases c4a : byteAt s k = 240
  · cases f1 : folB s (k + 1) 144 191
    · refine (pt_4a_f s k w hs hk (by omega) (by omega)  f1).mono ?_
      rintro e w' ⟨rfl, rfl⟩
      exact ⟨ret_of s k (d_4a_f s k hk c4a  (folB_f f1)) rfl rfl rfl, rfl⟩
    · cases f2 : folB s (k + 2) 128 191
      · refine (pt_4a_tf s k w hs hk (by omega) (by omega) f1 f2).mono ?_
        rintro e w' ⟨rfl, rfl⟩
        exact ⟨ret_of s k (d_4a_tf s k hk c4a (folB_t f1) (folB_f f2)) rfl rfl rfl, rfl⟩
      · cases f3 : folB s (k + 3) 128 191
        · refine (pt_4a_ttf s k w hs hk (by omega) (by omega) f1 f2 f3).mono ?_
          rintro e w' ⟨rfl, rfl⟩
          exact ⟨ret_of s k (d_4a_ttf s k hk c4a (folB_t f1) (folB_t f2) (folB_f f3)) rfl rfl rfl, rfl⟩
        · have g1 := byteAt_get s (k + 1) (folB_t f1).1
          have g2 := byteAt_get s (k + 2) (folB_t f2).1
          have g3 := byteAt_get s (k + 3) (folB_t f3).1
          have q1 := (folB_t f1).2
          have q2 := (folB_t f2).2
          have q3 := (folB_t f3).2
          refine (pt_4a_ttt s k w hs hk (folB_t f1).1 (folB_t f2).1 (folB_t f3).1 (by omega) (by omega) f1 f2 f3).mono ?_
          rintro e w' ⟨rfl, rfl⟩
          exact ⟨ret_of s k (d_4a_ttt s k hk c4a (folB_t f1) (folB_t f2) (folB_t f3)) (by omega) rfl (by simp), rfl⟩
  by_cases c4b : byteAt s k = 244
  · cases f1 : folB s (k + 1) 128 143
    · refine (pt_4b_f s k w hs hk (by omega) (by omega)  f1).mono ?_
      rintro e w' ⟨rfl, rfl⟩
      exact ⟨ret_of s k (d_4b_f s k hk c4b  (folB_f f1)) rfl rfl rfl, rfl⟩
    · cases f2 : folB s (k + 2) 128 191
      · refine (pt_4b_tf s k w hs hk (by omega) (by omega) f1 f2).mono ?_
        rintro e w' ⟨rfl, rfl⟩
        exact ⟨ret_of s k (d_4b_tf s k hk c4b (folB_t f1) (folB_f f2)) rfl rfl rfl, rfl⟩
      · cases f3 : folB s (k + 3) 128 191
        · refine (pt_4b_ttf s k w hs hk (by omega) (by omega) f1 f2 f3).mono ?_
          rintro e w' ⟨rfl, rfl⟩
          exact ⟨ret_of s k (d_4b_ttf s k hk c4b (folB_t f1) (folB_t f2) (folB_f f3)) rfl rfl rfl, rfl⟩
        · have g1 := byteAt_get s (k + 1) (folB_t f1).1
          have g2 := byteAt_get s (k + 2) (folB_t f2).1
          have g3 := byteAt_get s (k + 3) (folB_t f3).1
          have q1 := (folB_t f1).2
          have q2 := (folB_t f2).2
          have q3 := (folB_t f3).2
          refine (pt_4b_ttt s k w hs hk (folB_t f1).1 (folB_t f2).1 (folB_t f3).1 (by omega) (by omega) f1 f2 f3).mono ?_
          rintro e w' ⟨rfl, rfl⟩
          exact ⟨ret_of s k (d_4b_ttt s k hk c4b (folB_t f1) (folB_t f2) (folB_t f3)) (by omega) rfl (by simp), rfl⟩
  cases f1 : folB s (k + 1) 128 191
  · refine (pt_4c_f s k w hs hk (by omega) (by omega) (by rw [beq_eq_false_iff_ne]; omega) (by rw [beq_eq_false_iff_ne]; omega)  f1).mono ?_
    rintro e w' ⟨rfl, rfl⟩
    exact ⟨ret_of s k (d_4c_f s k hk (by omega)  (folB_f f1)) rfl rfl rfl, rfl⟩
  · cases f2 : folB s (k + 2) 128 191
    · refine (pt_4c_tf s k w hs hk (by omega) (by omega) (by rw [beq_eq_false_iff_ne]; omega) (by rw [beq_eq_false_iff_ne]; omega) f1 f2).mono ?_
      rintro e w' ⟨rfl, rfl⟩
      exact ⟨ret_of s k (d_4c_tf s k hk (by omega) (folB_t f1) (folB_f f2)) rfl rfl rfl, rfl⟩
    · cases f3 : folB s (k + 3) 128 191
      · refine (pt_4c_ttf s k w hs hk (by omega) (by omega) (by rw [beq_eq_false_iff_ne]; omega) (by rw [beq_eq_false_iff_ne]; omega) f1 f2 f3).mono ?_
        rintro e w' ⟨rfl, rfl⟩
        exact ⟨ret_of s k (d_4c_ttf s k hk (by omega) (folB_t f1) (folB_t f2) (folB_f f3)) rfl rfl rfl, rfl⟩
      · have g1 := byteAt_get s (k + 1) (folB_t f1).1
        have g2 := byteAt_get s (k + 2) (folB_t f2).1
        have g3 := byteAt_get s (k + 3) (folB_t f3).1
        have q1 := (folB_t f1).2
        have q2 := (folB_t f2).2
        have q3 := (folB_t f3).2
        refine (pt_4c_ttt s k w hs hk (folB_t f1).1 (folB_t f2).1 (folB_t f3).1 (by omega) (by omega) (by rw [beq_eq_false_iff_ne]; omega) (by rw [beq_eq_false_iff_ne]; omega) f1 f2 f3).mono ?_
        rintro e w' ⟨rfl, rfl⟩
        exact ⟨ret_of s k (d_4c_ttt s k hk (by omega) (folB_t f1) (folB_t f2) (folB_t f3)) (by omega) rfl (by simp), rfl⟩

end Go.Proofs.YthbglakncijahaaGreatDoor
