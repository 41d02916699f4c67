/- The program: Short. -/
import Derived.Test.YtbgnhegfabpjnaaGShW
namespace Go.Proofs.Ytbgnhegfabpjnaa
open Go.RowKit
set_option linter.unusedVariables false
set_option maxRecDepth 100000

theorem getD_memI (l : List Int) (j : Nat) (hj : j < l.length) : l.getD j 0 ∈ l := by simp [List.getD, hj]
theorem gok_M (g : Gm) (h : gOkB g = true) (hwf : WfG g) : ∃ N : Nat, g.names = N ∧ 1 ≤ N ∧ GOkM N g.prods ∧ (∀ p ∈ g.prods, ∀ x ∈ p.right, x < g.terms) ∧ 0 ≤ g.terms ∧ g.terms ≤ 300 := by
  unfold gOkB at h
  simp only [Bool.and_eq_true] at h
  obtain ⟨h1, _, _, h4⟩ := h
  have hh : HeadG g := of_decide_eq_true h1
  obtain ⟨a1, a2, a3, a4, a5, a6, a7, a8, a9⟩ := hh
  have hp : ∀ p ∈ g.prods, 0 ≤ p.left ∧ p.left < g.names ∧ p.right.length ≤ 20 ∧ ∀ x ∈ p.right, x < g.terms ∧ -g.names ≤ x := fun p hp => by
    have h5 := List.all_eq_true.1 h4 p hp
    unfold pdB at h5
    simp only [Bool.and_eq_true, decide_eq_true_eq] at h5
    obtain ⟨⟨⟨⟨⟨b1, b2⟩, b3⟩, b4⟩, b5⟩, b6⟩ := h5
    refine ⟨b1, b2, b5, fun x hx => ?_⟩
    have h7 := List.all_eq_true.1 b6 x hx
    unfold symB at h7
    simpa only [Bool.and_eq_true, decide_eq_true_eq] using h7
  refine ⟨g.names.toNat, by omega, by omega, ⟨by omega, a7, fun m hm => ?_⟩, fun p hp' x hx => ((hp p hp').2.2.2 x hx).1, a1, a2⟩
  have hmem : g.prods.getD m noPd ∈ g.prods := by simp [List.getD, hm]
  obtain ⟨c1, c2, c3, c4⟩ := hp _ hmem
  refine ⟨⟨c1, by omega, c3, fun j hj => ?_⟩, fun j hj => ?_⟩
  · have := (c4 _ (getD_memI _ j hj)).2
    omega
  · exact hwf _ hmem _ (getD_memI _ j hj)

set_option maxHeartbeats 2000000 in
theorem pshort_no (g : Gm) (pv lv sv : Value) (w : World) (h : GrM w g pv lv sv) (hwf : WfG g) (hno : gOkB g = false) :
    Calls Try.prog 6 #[gv g pv lv sv] w fun e w' => e = .returned (.slice none 0 0) ∧ Below w.heap.size w w' := by
  have hB0 := boxG_below w g pv lv sv
  have hB2 := boxG_box w g pv lv sv
  have hC := pok_any g pv lv sv (boxG w g pv lv sv) (h.below hB0) hwf
  rw [hno] at hC
  obtain ⟨q0, q1, q2, q3, q4, q5, q6⟩ := hB2
  unfold boxG gv gvs at hC
  unfold boxG gvs at hB0 q0 q1 q2 q3 q4 q5 q6
  unfold gv gvs
  go_enter Try.func6, Try.ntmps6
  go_wp2_with fail
  refine hC.mono ?_
  rintro e w2 ⟨rfl, hb2⟩
  have hb := hB0.trans (hb2.mono hB0.size)
  clear hC q0 q1 q2 q3 q4 q5 q6
  go_wp2
  go_ret
  exact ⟨rfl, hb⟩

set_option maxHeartbeats 2000000 in
theorem pshort_yes (t s : Int) (N : Nat) (ps : List PdR) (ls ss : List Int) (pv lv sv : Value) (w : World) (hG : GOkM N ps) (h : GrM w ⟨t, N, s, ps, ls, ss⟩ pv lv sv) (hwf : WfG ⟨t, N, s, ps, ls, ss⟩) (hyes : gOkB ⟨t, N, s, ps, ls, ss⟩ = true) :
    Calls Try.prog 6 #[gv ⟨t, N, s, ps, ls, ss⟩ pv lv sv] w fun e w' => ∃ B L, e = .returned (.slice (some ⟨B, 0, none⟩) N N) ∧ Row w' B L ∧ WkI (prsS ps) N L (fun _ => False) ∧ Below w.heap.size w w' := by
  have hB0 := boxG_below w ⟨t, N, s, ps, ls, ss⟩ pv lv sv
  have hB1 := boxG_size w ⟨t, N, s, ps, ls, ss⟩ pv lv sv
  have hB2 := boxG_box w ⟨t, N, s, ps, ls, ss⟩ pv lv sv
  have hC := pok_any ⟨t, N, s, ps, ls, ss⟩ pv lv sv (boxG w ⟨t, N, s, ps, ls, ss⟩ pv lv sv) (h.below hB0) hwf
  rw [hyes] at hC
  have HL : Hid (∀ w', Below w.heap.size w w' → _) := fun w' hb => lengths_any t s N ps ls ss pv lv sv w' hG (h.prods.below hb)
  have HBX : Hid (BoxG (boxG w ⟨t, N, s, ps, ls, ss⟩ pv lv sv) w.heap.size ⟨t, N, s, ps, ls, ss⟩ pv lv sv) := hB2
  obtain ⟨q0, q1, q2, q3, q4, q5, q6⟩ := hB2
  unfold boxG gv gvs at hC
  unfold boxG gvs at hB0 hB1 q0 q1 q2 q3 q4 q5 q6 HBX
  unfold gv gvs at HL ⊢
  simp only at *
  go_enter Try.func6, Try.ntmps6
  go_wp2_with fail
  refine hC.mono ?_
  rintro e w2 ⟨rfl, hb2⟩
  have hb := hB0.trans (hb2.mono hB0.size)
  rw [hB1] at hb2
  clear hC q0 q1 q2 q3 q4 q5 q6
  obtain ⟨q0, q1, q2, q3, q4, q5, q6⟩ := HBX.out.below (Nat.lt_succ_self _) hb2
  simp only at q0 q1 q2 q3 q4 q5 q6
  have hLe := HL.out w2 hb
  go_wp2_with fail
  refine hLe.mono ?_
  rintro e w3 ⟨B, L, rfl, hrow, hwk, hBl, hb3⟩
  have HRw : Hid (Row w3 B L) := hrow
  have HWk : Hid (WkI (prsS ps) N L fun _ => False) := hwk
  have hb4 := hb.trans (hb3.mono hb.size)
  clear hrow hwk hLe q0 q1 q2 q3 q4 q5 q6
  go_wp2
  go_ret
  exact ⟨B, L, rfl, HRw.out, HWk.out, hb4⟩

end Go.Proofs.Ytbgnhegfabpjnaa
