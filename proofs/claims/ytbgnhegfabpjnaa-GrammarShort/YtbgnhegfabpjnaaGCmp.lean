/- The program: which of two sentences goes ahead. -/
import Derived.Test.YtbgnhegfabpjnaaGRsn
import Derived.Laws.Cover1
namespace Go.Proofs.Ytbgnhegfabpjnaa
open Go.RowKit
set_option linter.unusedVariables false
set_option maxRecDepth 100000

def cmpY (s t : List UInt8) : Int := if Op.bytesLess s t = true then -1 else if (Op.bytesLess s t || s == t) = true then 0 else 1
set_option maxHeartbeats 2000000 in
theorem isNaNS_any (s : ByteArray) (w : World) : Calls Try.prog 55 #[.string s] w fun e w' => e = .returned (.bool false) ∧ w' = w := by
  have h1 : (s.toList == s.toList) = true := by simp
  go_enter Try.func55, Try.ntmps55
  go_wp2
  go_ret
  exact ⟨by simp, rfl⟩
set_option maxHeartbeats 2000000 in
theorem compareS_any (s t : ByteArray) (w : World) : Calls Try.prog 46 #[.string s, .string t] w fun e w' => e = .returned (.int .i64 (cmpY s.toList t.toList)) ∧ w' = w := by
  have hN1 := isNaNS_any s w
  have hN2 := isNaNS_any t w
  cases q1 : Op.bytesLess s.toList t.toList
  · cases q2 : s.toList == t.toList
    · have HE : Hid (cmpY s.toList t.toList = 1) := by show _ = _; unfold cmpY; simp only [q1, q2]; rfl
      go_enter Try.func46, Try.ntmps46
      go_wp2_with (first | (go_at_call 55; first | (refine hN1.mono ?_; rintro e w1 ⟨rfl, hw⟩; rw [hw]) | (refine hN2.mono ?_; rintro e w1 ⟨rfl, hw⟩; rw [hw])))
      go_ret
      exact ⟨by rw [HE.out]; rfl, rfl⟩
    · have HE : Hid (cmpY s.toList t.toList = 0) := by show _ = _; unfold cmpY; simp only [q1, q2]; rfl
      go_enter Try.func46, Try.ntmps46
      go_wp2_with (first | (go_at_call 55; first | (refine hN1.mono ?_; rintro e w1 ⟨rfl, hw⟩; rw [hw]) | (refine hN2.mono ?_; rintro e w1 ⟨rfl, hw⟩; rw [hw])))
      go_ret
      exact ⟨by rw [HE.out]; rfl, rfl⟩
  · have HE : Hid (cmpY s.toList t.toList = -1) := by show _ = _; unfold cmpY; simp only [q1]; rfl
    go_enter Try.func46, Try.ntmps46
    go_wp2_with (first | (go_at_call 55; first | (refine hN1.mono ?_; rintro e w1 ⟨rfl, hw⟩; rw [hw]) | (refine hN2.mono ?_; rintro e w1 ⟨rfl, hw⟩; rw [hw])))
    go_ret
    exact ⟨by rw [HE.out]; rfl, rfl⟩
def orZ : List Int → Int
  | [] => 0
  | x :: l => if x = 0 then orZ l else x
set_option maxHeartbeats 2000000 in
theorem or_any (x y z : Int) (B : Nat) (w : World) (hB : B < w.heap.size) (c0 : w.cell? ⟨B, 0, none⟩ = some (.int .i64 x)) (c1 : w.cell? ⟨B, 1, none⟩ = some (.int .i64 y)) (c2 : w.cell? ⟨B, 2, none⟩ = some (.int .i64 z)) :
    Calls Try.prog 44 #[.slice (some ⟨B, 0, none⟩) 3 3] w fun e w' => e = .returned (.int .i64 (orZ [x, y, z])) ∧ w' = w := by
  go_enter Try.func44, Try.ntmps44
  go_wp2
  go_loopw [8] (fun i wr => ∃ k : Nat, k ≤ 3 ∧ i = .int .i64 k ∧ Hid (orZ [x, y, z] = orZ ([x, y, z].drop k)) ∧ wr = w) (fun i _ => 3 - (intOf i).toNat)
  case atStart => exact ⟨0, by omega, rfl, rfl, rfl⟩
  case round =>
    obtain ⟨k, hk, rfl, HO, rfl⟩ := hrel
    by_cases hlt : k < 3
    · have hcell : wr.cell? ⟨B, k, none⟩ = some (.int .i64 ([x, y, z].getD k 0)) := by
        match k, hlt with
        | 0, _ => exact c0
        | 1, _ => exact c1
        | 2, _ => exact c2
      have HD : Hid ([x, y, z].drop k = [x, y, z].getD k 0 :: [x, y, z].drop (k + 1)) := by
        show _ = _
        match k, hlt with
        | 0, _ => rfl
        | 1, _ => rfl
        | 2, _ => rfl
      generalize [x, y, z].getD k 0 = v at *
      clear c0 c1 c2
      by_cases hv : v = 0
      · have HN : Hid (orZ [x, y, z] = orZ ([x, y, z].drop (k + 1))) := by
          show _ = _
          rw [HO.out, HD.out]
          show (if v = 0 then _ else v) = _
          rw [if_pos hv]
        subst hv
        clear HO HD
        go_wp2
        go_roundw
        case rel => exact ⟨k + 1, by omega, by go_num, HN, trivial⟩
        case measure => simp [intOf]; omega
      · have HN : Hid (orZ [x, y, z] = v) := by
          show _ = _
          rw [HO.out, HD.out]
          show (if v = 0 then _ else v) = _
          rw [if_neg hv]
        have hv2 : (v != 0) = true := by rw [bne_iff_ne]; exact hv
        clear HO HD
        go_wp2
        go_ret
        exact ⟨by rw [HN.out]; rfl, rfl⟩
    · obtain rfl : k = 3 := by omega
      have HN : Hid (orZ [x, y, z] = 0) := HO.out
      clear HO c0 c1 c2
      go_wp2
      go_ret
      exact ⟨by rw [HN.out]; rfl, rfl⟩

theorem byteU_lt (x y : Int) (hx : 0 ≤ x ∧ x < 256) (hy : 0 ≤ y ∧ y < 256) : (byteU x < byteU y) ↔ x < y := by
  rw [UInt8.lt_iff_toNat_lt, byteU_nat _ hx.1 hx.2, byteU_nat _ hy.1 hy.2]
  omega
theorem byteU_eq (x y : Int) (hx : 0 ≤ x ∧ x < 256) (hy : 0 ≤ y ∧ y < 256) : (byteU x == byteU y) = decide (x = y) := by
  by_cases e : x = y
  · subst e; simp
  · rw [decide_eq_false e, beq_eq_false_iff_ne]
    intro h
    have := congrArg UInt8.toNat h
    rw [byteU_nat _ hx.1 hx.2, byteU_nat _ hy.1 hy.2] at this
    omega
theorem bytesLess_enc : ∀ (a b : List Int), a.length = b.length → (∀ x ∈ a, 0 ≤ x ∧ x ≤ 300) → (∀ x ∈ b, 0 ≤ x ∧ x ≤ 300) → Op.bytesLess (encL a) (encL b) = lexLt a b
  | [], [], _, _, _ => rfl
  | [], _ :: _, h, _, _ => by simp at h
  | _ :: _, [], h, _, _ => by simp at h
  | x :: a, y :: b, h, ha, hb => by
    have hx := ha x (by simp)
    have hy := hb y (by simp)
    have ih := bytesLess_enc a b (by simpa using h) (fun z hz => ha z (by simp [hz])) (fun z hz => hb z (by simp [hz]))
    have ea : encL (x :: a) = byteU (x / 256) :: byteU (x % 256) :: encL a := by simp [encL]
    have eb : encL (y :: b) = byteU (y / 256) :: byteU (y % 256) :: encL b := by simp [encL]
    rw [ea, eb]
    show (decide (byteU (x / 256) < byteU (y / 256)) || (byteU (x / 256) == byteU (y / 256) && (decide (byteU (x % 256) < byteU (y % 256)) || (byteU (x % 256) == byteU (y % 256) && Op.bytesLess (encL a) (encL b))))) = if x = y then lexLt a b else decide (x < y)
    rw [ih, byteU_eq _ _ (by omega) (by omega), byteU_eq _ _ (by omega) (by omega)]
    have e1 : decide (byteU (x / 256) < byteU (y / 256)) = decide (x / 256 < y / 256) := decide_eq_decide.2 (byteU_lt _ _ (by omega) (by omega))
    have e2 : decide (byteU (x % 256) < byteU (y % 256)) = decide (x % 256 < y % 256) := decide_eq_decide.2 (byteU_lt _ _ (by omega) (by omega))
    rw [e1, e2]
    by_cases e : x = y
    · subst e
      rw [if_pos rfl]
      simp
    · rw [if_neg e]
      rcases Int.lt_trichotomy (x / 256) (y / 256) with h1 | h1 | h1
      · rw [decide_eq_true h1, decide_eq_true (show x < y by omega)]; rfl
      · rw [decide_eq_false (show ¬ x / 256 < y / 256 by omega), decide_eq_true h1, decide_eq_false (show ¬ x % 256 = y % 256 by omega)]
        simp only [Bool.false_or, Bool.true_and, Bool.false_and, Bool.or_false]
        exact decide_eq_decide.2 (by omega)
      · rw [decide_eq_false (show ¬ x / 256 < y / 256 by omega), decide_eq_false (show ¬ x / 256 = y / 256 by omega), decide_eq_false (show ¬ x < y by omega)]; rfl
/-- what compare answers -/
def cmpF (a b : SF) : Int := orZ [Lib.compareInt (knF b) (knF a), Lib.compareInt ((encL (txF a)).length : Int) ((encL (txF b)).length : Int), cmpY (encL (txF a)) (encL (txF b))]
theorem orZ3 (x y z : Int) : orZ [x, y, z] = if x = 0 then (if y = 0 then z else y) else x := by
  unfold orZ; split
  · unfold orZ; split
    · unfold orZ; split
      · rename_i h; rw [h]; rfl
      · rfl
    · rfl
  · rfl
theorem cmpF_bet (a b : SF) (ha : OkS a) (hb : OkS b) : decide (cmpF a b < 0) = betB a b := by
  unfold cmpF
  rw [orZ3]
  cases a with
  | non => cases b <;> simp [knF, txF, Lib.compareInt, encL, cmpY, betB, Op.bytesLess]
  | long => cases b <;> simp [knF, txF, Lib.compareInt, encL, cmpY, betB, Op.bytesLess]
  | told x =>
    cases b with
    | non => simp [knF, Lib.compareInt, betB]
    | long => simp [knF, Lib.compareInt, betB]
    | told y =>
      have h0 : Lib.compareInt (knF (.told y)) (knF (.told x)) = 0 := by show Lib.compareInt 2 2 = 0; rfl
      rw [h0, if_pos rfl]
      show decide ((if Lib.compareInt ((encL x).length : Int) ((encL y).length : Int) = 0 then cmpY (encL x) (encL y) else Lib.compareInt ((encL x).length : Int) ((encL y).length : Int)) < 0) = earB x y
      rw [encL_len, encL_len]
      unfold earB
      by_cases e : x.length = y.length
      · have hc : Lib.compareInt ((x.length * 2 : Nat) : Int) ((y.length * 2 : Nat) : Int) = 0 := by
          unfold Lib.compareInt
          rw [if_neg (by omega), if_neg (by omega)]
        rw [if_pos e, hc, if_pos rfl]
        unfold cmpY
        rw [bytesLess_enc x y e (ha x rfl).2 (hb y rfl).2]
        cases h : lexLt x y
        · simp only [Bool.false_eq_true, if_false]
          split <;> rfl
        · rfl
      · rw [if_neg e]
        by_cases h : x.length < y.length
        · have hc : Lib.compareInt ((x.length * 2 : Nat) : Int) ((y.length * 2 : Nat) : Int) = -1 := by
            unfold Lib.compareInt
            rw [if_pos (by omega)]
          rw [hc, decide_eq_true h]; rfl
        · have hc : Lib.compareInt ((x.length * 2 : Nat) : Int) ((y.length * 2 : Nat) : Int) = 1 := by
            unfold Lib.compareInt
            rw [if_neg (by omega), if_pos (by omega)]
          rw [hc, decide_eq_false h]; rfl

end Go.Proofs.Ytbgnhegfabpjnaa
