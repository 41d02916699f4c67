/- The law AutoRun. -/
import Derived.Test.YtifhoeffkehcmaaAutL
namespace Go.Proofs.Ytifhoeffkehcmaa
open Go.RowKit
set_option linter.unusedVariables false
set_option maxRecDepth 100000

set_option maxHeartbeats 1000000 in
theorem law_run_long (a : Option Addr) (n c : Nat) (s : ByteArray) (w : World) (h : 2000 < n) :
    Calls Try.prog 3 #[.agg #[.slice a n c], .string s] w fun e w' => e = .returned (.bool true) ∧ Below w.heap.size w w' := by
  have hB0 := box_below w (.slice a n c)
  unfold boxA at hB0
  go_enter Try.func3, Try.ntmps3
  go_wp2
  go_ret
  exact ⟨rfl, hB0⟩

set_option maxHeartbeats 1000000 in
theorem law_run_text (a : Option Addr) (n c : Nat) (s : ByteArray) (w : World) (h0 : n ≤ 2000) (h : 2000 < s.size) :
    Calls Try.prog 3 #[.agg #[.slice a n c], .string s] w fun e w' => e = .returned (.bool true) ∧ Below w.heap.size w w' := by
  have hB0 := box_below w (.slice a n c)
  unfold boxA at hB0
  have h1 : ¬ (2000 : Int) < (n : Int) := by omega
  have h2 : (2000 : Int) < (s.size : Int) := by omega
  go_enter Try.func3, Try.ntmps3
  go_wp2
  go_ret
  exact ⟨rfl, hB0⟩

set_option maxHeartbeats 2000000 in
theorem law_run (a : Option Addr) (c : Nat) (s : ByteArray) (l : List St) (w : World) (h1 : l.length ≤ 2000) (h2 : s.size ≤ 2000) (hv : Sts w (.slice a l.length c) l) :
    Calls Try.prog 3 #[.agg #[.slice a l.length c], .string s] w fun e w' => e = .returned (.bool true) ∧ Below w.heap.size w w' := by
  have hB0 := box_below w (.slice a l.length c)
  have hB1 := box_size w (.slice a l.length c)
  have hB2 := box_cell w (.slice a l.length c)
  have HV0 : Hid (Sts w (.slice a l.length c) l) := hv
  have k1 : ¬ (2000 : Int) < (l.length : Int) := by omega
  have k2 : ¬ (2000 : Int) < (s.size : Int) := by omega
  unfold boxA at hB0 hB1 hB2
  clear hv
  go_enter Try.func3, Try.ntmps3
  go_wp2_with fail
  refine (rok_any _ l _ (HV0.out.below hB0)).mono ?_
  generalize hw0 : w.alloc (.cells #[.slice a l.length c] 24) = w0 at *
  have HW0 : Hid (w.alloc (.cells #[.slice a l.length c] 24) = w0) := hw0
  clear hw0
  rintro e w1 ⟨rfl, hb1⟩
  have hbq1 : Below (w.heap.size + 1) w0 w1 := by rw [← hB1]; exact hb1
  have cB1 := (hbq1.cell (p := ⟨w.heap.size, 0, none⟩) (Nat.lt_succ_self _)).trans hB2
  have hs1 := hbq1.size
  have hlt1 : w.heap.size < w1.heap.size := by omega
  have hbx1 := hB0.trans (hbq1.mono (Nat.le_succ _))
  clear hb1
  go_wp2_with fail
  refine (aok_any _ l _ (HV0.out.below hbx1)).mono ?_
  rintro e w2 ⟨rfl, hb2⟩
  have hbq2 := hbq1.trans (hb2.mono (by omega))
  have cB2 := (hbq2.cell (p := ⟨w.heap.size, 0, none⟩) (Nat.lt_succ_self _)).trans hB2
  have hs2 := hbq2.size
  have hlt2 : w.heap.size < w2.heap.size := by omega
  have hbx2 := hB0.trans (hbq2.mono (Nat.le_succ _))
  clear hb2 hbq1 cB1 hs1 hlt1 hbx1
  cases hok : autoOk l
  · have HO : Hid (autoOk l = false) := hok
    clear hok
    go_wp2_with fail
    refine (arun_bad a c s l _ HO.out (HV0.out.below hbx2)).mono ?_
    rintro e w3 ⟨rfl, hb3⟩
    have hb4 := hbx2.trans (hb3.mono (by omega))
    clear hb3
    go_wp2
    go_ret
    exact ⟨rfl, hb4⟩
  · have HA : Hid (∀ w', Below w.heap.size w w' → Calls Try.prog 7 #[.agg #[.slice a l.length c], .string s] w' fun e w'' => e = .returned (.int .i64 (runL l (pts s))) ∧ Below w'.heap.size w' w'') := fun w' hw' => arun_ok a c s l w' h2 hok (HV0.out.below hw')
    have HR : Hid (∀ w', Below w.heap.size w w' → Calls Try.prog 8 #[.agg #[.slice a l.length c], .string s] w' fun e w'' => e = .returned (.int .i64 (runL l (pts s))) ∧ Below w'.heap.size w' w'') := fun w' hw' => rrun_any a c s l w' h2 hok (HV0.out.below hw')
    clear hok HV0
    generalize runL l (pts s) = y at *
    have hbd := below_drewA hbx2
    have hsd : w.heap.size ≤ w2.drew.heap.size := hbd.size
    have HK : Hid (∀ w4, Below w2.drew.heap.size w2.drew w4 → w4.cell? ⟨w.heap.size, 0, none⟩ = some (.slice a l.length c) ∧ Below w.heap.size w w4 ∧ w.heap.size < w4.heap.size) := fun w4 hb => ⟨(hb.cell (p := ⟨w.heap.size, 0, none⟩) hlt2).trans cB2, hbd.trans (hb.mono hsd), Nat.lt_of_lt_of_le hlt2 hb.size⟩
    have HK2 : Hid (∀ w4 w5, Below w.heap.size w w4 → w.heap.size < w4.heap.size → w4.cell? ⟨w.heap.size, 0, none⟩ = some (.slice a l.length c) → Below w4.heap.size w4 w5 → w5.cell? ⟨w.heap.size, 0, none⟩ = some (.slice a l.length c) ∧ Below w.heap.size w w5) := fun w4 w5 h1 h2 h3 h4 => ⟨(h4.cell (p := ⟨w.heap.size, 0, none⟩) h2).trans h3, h1.trans (h4.mono (Nat.le_of_lt h2))⟩
    go_wp2
    go_region_held3 (fun w' => w'.cell? ⟨w.heap.size, 0, none⟩ = some (.slice a l.length c)) (go_keep) ((first | (go_at_call 7; refine (HA.out _ ?_).mono ?_; exact below_drewA hbx2; rintro e w4 ⟨rfl, hb4⟩; have f1 := HK.out w4 hb4; obtain ⟨f1, f2, f3⟩ := f1) | (go_at_call 8; refine (HR.out _ ?_).mono ?_; exact f2; rintro e w5 ⟨rfl, hb5⟩; have f4 := HK2.out w4 w5 f2 f3 f1 hb5; obtain ⟨f4, f5⟩ := f4)))
    all_goals
      go_wp2
      go_ret
      exact ⟨by simp, f5⟩

end Go.Proofs.Ytifhoeffkehcmaa
