/- The program: the state to which a point leads; the document's answer: the same. -/
import Derived.Test.YtifhoeffkehcmaaAutN
namespace Go.Proofs.Ytifhoeffkehcmaa
open Go.RowKit
set_option linter.unusedVariables false
set_option maxRecDepth 100000

theorem box_keep (w : World) (v : Value) {l : List St} {u : Value} (h : Sts w u l) : Sts (boxA w v) u l := h.below (box_below w v)

set_option maxHeartbeats 1000000 in
theorem movesof_at (a : Option Addr) (c k : Nat) (l : List St) (w : World) (hk : k < l.length) (hl : l.length ≤ 500) (hv : Sts w (.slice a l.length c) l) :
    Calls Try.prog 25 #[.agg #[.slice a l.length c], .int .i64 k] w fun e w' => ∃ ma mc, e = .returned (.slice ma (l.getD k s0).2.length mc) ∧ Mvs w' (.slice ma (l.getD k s0).2.length mc) (l.getD k s0).2 ∧ Below w.heap.size w w' := by
  obtain ⟨g, o, ma, mc, rfl, _, hg, d0, d1, hM⟩ := hv.cell hk
  have HM := hM.below (box_below w (.slice (some ⟨g, o, none⟩) l.length c))
  have HB := box_below w (.slice (some ⟨g, o, none⟩) l.length c)
  unfold boxA at HM HB
  clear hv hM
  generalize l.getD k s0 = r at *
  obtain ⟨rule, ms⟩ := r
  simp only at d0 d1 HM
  have hne : ((k : Int) == -1) = false := by rw [beq_eq_false_iff_ne]; omega
  have HM2 : Hid (Mvs (w.alloc (.cells #[.slice (some ⟨g, o, none⟩) l.length c] 24)) (.slice ma ms.length mc) ms) := HM
  clear HM
  go_enter Try.func25, Try.ntmps25
  go_wp2
  go_ret
  exact ⟨ma, mc, rfl, HM2.out, HB⟩

set_option maxHeartbeats 2000000 in
theorem next_no (a : Option Addr) (c n : Nat) (p : Int) (w : World) :
    Calls Try.prog 16 #[.agg #[.slice a n c], .int .i64 (-1), .int .i64 p] w fun e w' => e = .returned (.int .i64 (-1)) ∧ Below w.heap.size w w' := by
  have hB := box_below w (.slice a n c)
  unfold boxA at hB
  go_enter Try.func16, Try.ntmps16
  go_wp2_with fail
  refine (movesof_no _ _).mono ?_
  rintro e w1 ⟨rfl, hb1⟩
  have hb2 := hB.trans (hb1.mono (by simp))
  have hs2 := hb2.size
  clear hb1 hB
  go_wp2_with fail
  refine (search_row none 0 0 p [] _ rfl (.inl ⟨rfl, none, 0, rfl⟩)).mono ?_
  rintro e w2 ⟨i, f, rfl, hi, _, hb3⟩
  obtain rfl : i = 0 := by simpa using hi
  have hb4 := hb2.trans (hb3.mono hs2)
  clear hb3 hb2
  go_wp2
  go_ret
  exact ⟨rfl, hb4⟩

set_option maxHeartbeats 2000000 in
theorem next_at (a : Option Addr) (c k : Nat) (p : Int) (l : List St) (w : World) (hk : k < l.length) (hl : l.length ≤ 500) (hm : mvOk l.length (-1) (l.getD k s0).2 = true) (hv : Sts w (.slice a l.length c) l) :
    Calls Try.prog 16 #[.agg #[.slice a l.length c], .int .i64 k, .int .i64 p] w fun e w' => e = .returned (.int .i64 (stepL (l.getD k s0).2 p)) ∧ Below w.heap.size w w' := by
  have HV : Hid (Sts w (.slice a l.length c) l) := hv
  have hB := box_below w (.slice a l.length c)
  unfold boxA at hB
  have HM : Hid (mvOk l.length (-1) (l.getD k s0).2 = true) := hm
  clear hv hm
  go_enter Try.func16, Try.ntmps16
  go_wp2_with fail
  refine (movesof_at a c k l _ hk hl (HV.out.below hB)).mono ?_
  rintro e w1 ⟨ma, mc, rfl, hM1, hb1⟩
  have hb2 := hB.trans (hb1.mono (by simp))
  have hs2 := hb2.size
  clear hb1 hB HV
  generalize hr : l.getD k s0 = r at *
  have HE : Hid (l.getD k s0 = r) := hr
  clear hr
  obtain ⟨rule, ms⟩ := r
  simp only at hM1 HM
  have HMM : Hid (Mvs w1 (.slice ma ms.length mc) ms) := hM1
  clear hM1
  go_wp2_with fail
  refine (search_row ma mc l.length p ms _ HM.out HMM.out).mono ?_
  rintro e w2 ⟨i, f, rfl, hi, hst, hb3⟩
  have hb4 := hb2.trans (hb3.mono hs2)
  have HM3 := HMM.out.below hb3
  have hlen := mvOk_len l.length ms (-1) HM.out (by omega)
  clear hb3 hb2 HMM HM
  have HST : Hid (_ = _) := hst
  clear hst
  by_cases hil : i < ms.length
  · obtain ⟨g, o, rfl, _, hg, e0, e1, e2⟩ := HM3.cell hil
    clear HM3
    generalize ms.getD i m0 = q at *
    obtain ⟨lo, hi, to⟩ := q
    simp only at e0 e1 e2 HST
    by_cases hlo : lo ≤ p
    · rw [if_pos ⟨hil, hlo⟩] at HST
      go_wp2
      go_ret
      exact ⟨by rw [HE.out]; exact congrArg (fun z => Ending.returned (Value.int .i64 z)) HST.out.symm, hb4⟩
    · rw [if_neg (fun h => hlo h.2)] at HST
      go_wp2
      go_ret
      exact ⟨by rw [HE.out]; exact congrArg (fun z => Ending.returned (Value.int .i64 z)) HST.out.symm, hb4⟩
  · rw [if_neg (fun h => hil h.1)] at HST
    clear HM3
    go_wp2
    go_ret
    exact ⟨by rw [HE.out]; exact congrArg (fun z => Ending.returned (Value.int .i64 z)) HST.out.symm, hb4⟩

set_option maxHeartbeats 1000000 in
theorem start_any (a : Option Addr) (c n : Nat) (w : World) :
    Calls Try.prog 14 #[.agg #[.slice a n c]] w fun e w' => e = .returned (.int .i64 (if n = 0 then -1 else 0)) ∧ Below w.heap.size w w' := by
  have hB := box_below w (.slice a n c)
  unfold boxA at hB
  by_cases h : n = 0
  · subst h
    rw [if_pos rfl]
    go_enter Try.func14, Try.ntmps14
    go_wp2
    go_ret
    exact ⟨rfl, hB⟩
  · rw [if_neg h]
    have hq : ((n : Int) == 0) = false := by rw [beq_eq_false_iff_ne]; omega
    go_enter Try.func14, Try.ntmps14
    go_wp2
    go_ret
    exact ⟨rfl, hB⟩

set_option maxHeartbeats 1000000 in
theorem ruleof_any (a : Option Addr) (c : Nat) (z : Int) (l : List St) (w : World) (hz : z = -1 ∨ (0 ≤ z ∧ z < l.length)) (hv : Sts w (.slice a l.length c) l) :
    Calls Try.prog 17 #[.agg #[.slice a l.length c], .int .i64 z] w fun e w' => e = .returned (.int .i64 (ruleL l z)) ∧ Below w.heap.size w w' := by
  have hB := box_below w (.slice a l.length c)
  unfold boxA at hB
  rcases hz with rfl | ⟨h0, h1⟩
  · have e : ruleL l (-1) = -1 := rfl
    rw [e]
    clear e hv
    go_enter Try.func17, Try.ntmps17
    go_wp2
    go_ret
    exact ⟨rfl, hB⟩
  · obtain ⟨k, rfl⟩ : ∃ k : Nat, z = k := ⟨z.toNat, by omega⟩
    have hk : k < l.length := by omega
    obtain ⟨g, o, ma, mc, rfl, _, hg, d0, d1, hM⟩ := hv.cell hk
    have HR : Hid (ruleL l (k : Int) = (l.getD k s0).1) := by show _ = _; unfold ruleL; rw [if_neg (by omega)]; simp
    have hne : ((k : Int) == -1) = false := by rw [beq_eq_false_iff_ne]; omega
    clear hv hM d1
    generalize (l.getD k s0).1 = rule at *
    go_enter Try.func17, Try.ntmps17
    go_wp2
    go_ret
    exact ⟨by rw [HR.out]; rfl, hB⟩

end Go.Proofs.Ytifhoeffkehcmaa
