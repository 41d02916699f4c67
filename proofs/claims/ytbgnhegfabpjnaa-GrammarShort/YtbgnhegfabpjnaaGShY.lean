/- The program: Shortest. -/
import Derived.Test.YtbgnhegfabpjnaaGSnW
import Derived.Test.YtbgnhegfabpjnaaGLis
namespace Go.Proofs.Ytbgnhegfabpjnaa
open Go.RowKit
set_option linter.unusedVariables false
set_option maxRecDepth 100000

set_option maxHeartbeats 2000000 in
theorem pshortest_no (g : Gm) (n : Int) (pv lv sv : Value) (w : World) (h : GrM w g pv lv sv) (hwf : WfG g) (hno : gOkB g = false) :
    Calls Try.prog 7 #[gv g pv lv sv, .int .i64 n] w fun e w' => e = .returned (.tuple #[.slice none 0 0, .bool false]) ∧ Below w.heap.size w w' := by
  have hB0 := boxG_below w g pv lv sv
  have hB2 := boxG_box w g pv lv sv
  have hC := pok_any g pv lv sv (boxG w g pv lv sv) (h.below hB0) hwf
  rw [hno] at hC
  obtain ⟨q0, q1, q2, q3, q4, q5, q6⟩ := hB2
  unfold boxG gv gvs at hC
  unfold boxG gvs at hB0 q0 q1 q2 q3 q4 q5 q6
  unfold gv gvs
  go_enter Try.func7, Try.ntmps7
  go_wp2_with fail
  refine hC.mono ?_
  rintro e w2 ⟨rfl, hb2⟩
  have hb := hB0.trans (hb2.mono hB0.size)
  clear hC q0 q1 q2 q3 q4 q5 q6
  go_wp2
  go_ret2
  exact ⟨rfl, hb⟩

set_option maxHeartbeats 2000000 in
theorem pshortest_out (g : Gm) (n : Int) (pv lv sv : Value) (w : World) (h : GrM w g pv lv sv) (hwf : WfG g) (hyes : gOkB g = true) (hn : n < 0 ∨ g.names ≤ n) :
    Calls Try.prog 7 #[gv g pv lv sv, .int .i64 n] w fun e w' => e = .returned (.tuple #[.slice none 0 0, .bool false]) ∧ Below w.heap.size w w' := by
  have hB0 := boxG_below w g pv lv sv
  have hB1 := boxG_size w g pv lv sv
  have hB2 := boxG_box w g pv lv sv
  have hC := pok_any g pv lv sv (boxG w g pv lv sv) (h.below hB0) hwf
  rw [hyes] at hC
  have HBX : Hid (BoxG (boxG w g pv lv sv) w.heap.size g pv lv sv) := hB2
  obtain ⟨q0, q1, q2, q3, q4, q5, q6⟩ := hB2
  unfold boxG gv gvs at hC
  unfold boxG gvs at hB0 hB1 q0 q1 q2 q3 q4 q5 q6 HBX
  unfold gv gvs
  by_cases hn0 : n < 0
  · have d1 : decide (n < 0) = true := decide_eq_true hn0
    go_enter Try.func7, Try.ntmps7
    go_wp2_with fail
    refine hC.mono ?_
    rintro e w2 ⟨rfl, hb2⟩
    have hb := hB0.trans (hb2.mono hB0.size)
    clear hC q0 q1 q2 q3 q4 q5 q6
    go_wp2
    go_ret2
    exact ⟨rfl, hb⟩
  · have hn1 : g.names ≤ n := by omega
    have d1 : decide (n < 0) = false := decide_eq_false hn0
    have d2 : decide (n ≥ g.names) = true := decide_eq_true hn1
    have d3 : ¬ n < g.names := by omega
    go_enter Try.func7, Try.ntmps7
    go_wp2_with fail
    refine hC.mono ?_
    rintro e w2 ⟨rfl, hb2⟩
    have hb := hB0.trans (hb2.mono hB0.size)
    rw [hB1] at hb2
    clear hC q0 q1 q2 q3 q4 q5 q6
    obtain ⟨q0, q1, q2, q3, q4, q5, q6⟩ := HBX.out.below (Nat.lt_succ_self _) hb2
    go_wp2
    go_ret2
    exact ⟨rfl, hb⟩

set_option maxHeartbeats 4000000 in
theorem pshortest_yes (t s : Int) (N n : Nat) (ps : List PdR) (ls ss : List Int) (pv lv sv : Value) (w : World) (hG : GOkM N ps) (hN1 : 1 ≤ N) (h3 : ∀ p ∈ ps, ∀ x ∈ p.right, x ≤ 300) (h : GrM w ⟨t, N, s, ps, ls, ss⟩ pv lv sv) (hwf : WfG ⟨t, N, s, ps, ls, ss⟩) (hyes : gOkB ⟨t, N, s, ps, ls, ss⟩ = true) (hn : n < N) :
    Calls Try.prog 7 #[gv ⟨t, N, s, ps, ls, ss⟩ pv lv sv, .int .i64 (n : Int)] w fun e w' => ∃ v L, e = .returned (.tuple #[v, .bool (decide (knF (factF L n) = 2))]) ∧ IntsR w' v (txF (factF L n)) ∧ WkT ps N L (fun _ => False) ∧ Below w.heap.size w w' := by
  have hB0 := boxG_below w ⟨t, N, s, ps, ls, ss⟩ pv lv sv
  have hB1 := boxG_size w ⟨t, N, s, ps, ls, ss⟩ pv lv sv
  have hB2 := boxG_box w ⟨t, N, s, ps, ls, ss⟩ pv lv sv
  have hC := pok_any ⟨t, N, s, ps, ls, ss⟩ pv lv sv (boxG w ⟨t, N, s, ps, ls, ss⟩ pv lv sv) (h.below hB0) hwf
  rw [hyes] at hC
  have HL : Hid (∀ w', Below w.heap.size w w' → _) := fun w' hb => sentences_any t s N ps ls ss pv lv sv w' hG hN1 h3 (h.prods.below hb)
  have HBX : Hid (BoxG (boxG w ⟨t, N, s, ps, ls, ss⟩ pv lv sv) w.heap.size ⟨t, N, s, ps, ls, ss⟩ pv lv sv) := hB2
  obtain ⟨q0, q1, q2, q3, q4, q5, q6⟩ := hB2
  unfold boxG gv gvs at hC
  unfold boxG gvs at hB0 hB1 q0 q1 q2 q3 q4 q5 q6 HBX
  unfold gv gvs at HL ⊢
  simp only at *
  have d1 : decide ((n : Int) < 0) = false := decide_eq_false (by omega)
  have d2 : decide ((n : Int) ≥ (N : Int)) = false := decide_eq_false (by omega)
  have d3 : ¬ (N : Int) ≤ (n : Int) := by omega
  go_enter Try.func7, Try.ntmps7
  go_wp2_with fail
  refine hC.mono ?_
  rintro e w2 ⟨rfl, hb2⟩
  have hb := hB0.trans (hb2.mono hB0.size)
  rw [hB1] at hb2
  clear hC q0 q1 q2 q3 q4 q5 q6
  obtain ⟨q0, q1, q2, q3, q4, q5, q6⟩ := HBX.out.below (Nat.lt_succ_self _) hb2
  simp only at q0 q1 q2 q3 q4 q5 q6
  have hLe := HL.out w2 hb
  go_wp2_with fail
  refine hLe.mono ?_
  rintro e w3 ⟨B, L, rfl, hrow, hwk, hBl, hb3⟩
  clear hLe q0 q1 q2 q3 q4 q5 q6
  obtain ⟨c0, c1⟩ := hrow.cell (j := n) (by rw [hwk.len]; exact hn)
  have hBlt := hrow.lt
  have hLi := list_any (factF L n) (hwk.ok n) w3
  unfold sfV at hLi
  have HWk : Hid (WkT ps N L fun _ => False) := hwk
  have hb4 := hb.trans (hb3.mono hb.size)
  clear hrow hwk
  go_wp2_with fail
  refine hLi.mono ?_
  rintro e w4 ⟨v, rfl, hint, hb5⟩
  have hb6 := hb4.trans (hb5.mono hb4.size)
  have HI : Hid (IntsR w4 v (txF (factF L n))) := hint
  obtain ⟨va, vc, rfl⟩ := hint.slice
  clear hLi c0 c1 hint
  go_wp2
  go_ret2
  exact ⟨_, L, rfl, HI.out, HWk.out, hb6⟩

end Go.Proofs.Ytbgnhegfabpjnaa
