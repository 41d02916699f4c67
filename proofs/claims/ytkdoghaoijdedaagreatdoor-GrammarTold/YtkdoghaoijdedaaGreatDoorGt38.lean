/- Texts of the proof, put together: GExp, GExpF, GExpL. -/
import Derived.Test.YtkdoghaoijdedaaGreatDoorGt35
import Derived.Test.YtkdoghaoijdedaaGreatDoorGt37
import Derived.Test.YtkdoghaoijdedaaGreatDoorGt34
import Derived.Test.YtkdoghaoijdedaaGreatDoorGt23
namespace Go.Proofs.YtkdoghaoijdedaaGreatDoor
open Go.RowKit
set_option linter.unusedVariables false
set_option maxRecDepth 100000

set_option maxHeartbeats 2000000 in
theorem plives_no (g : Gm) (pv lv sv : Value) (w : World) (h : GrM w g pv lv sv) (hwf : WfG g) (hno : gOkB g = false) :
    Calls Tryz.prog 7 #[gv g pv lv sv] w fun e w' => e = .returned (.slice none 0 0) ∧ Below w.heap.size w w' := by
  have hB0 := boxG_below w g pv lv sv
  have hB2 := boxG_box w g pv lv sv
  have hC := pok_any g pv lv sv (boxG w g pv lv sv) (h.below hB0) hwf
  rw [hno] at hC
  obtain ⟨q0, q1, q2, q3, q4, q5, q6⟩ := hB2
  unfold boxG gv gvs at hC
  unfold boxG gvs at hB0 q0 q1 q2 q3 q4 q5 q6
  unfold gv gvs
  go_enter Tryz.func7, Tryz.ntmps7
  go_wp2_with fail
  refine hC.mono ?_
  rintro e w2 ⟨rfl, hb2⟩
  have hb := hB0.trans (hb2.mono hB0.size)
  clear hC q0 q1 q2 q3 q4 q5 q6
  go_wp2
  go_ret
  exact ⟨rfl, hb⟩

set_option maxHeartbeats 2000000 in
theorem plives_yes (t s : Int) (N : Nat) (ps : List PdR) (ls ss : List Int) (pv lv sv : Value) (w : World) (hG : GOkM N ps) (h : GrM w ⟨t, N, s, ps, ls, ss⟩ pv lv sv) (hwf : WfG ⟨t, N, s, ps, ls, ss⟩) (hyes : gOkB ⟨t, N, s, ps, ls, ss⟩ = true) :
    Calls Tryz.prog 7 #[gv ⟨t, N, s, ps, ls, ss⟩ pv lv sv] w fun e w' => ∃ B L, e = .returned (.slice (some ⟨B, 0, none⟩) N N) ∧ RowB w' B L ∧ L.length = N ∧ (∀ n, factB L n = hgtB true (prsS ps) N n) ∧ Below w.heap.size w w' := by
  have hB0 := boxG_below w ⟨t, N, s, ps, ls, ss⟩ pv lv sv
  have hB1 := boxG_size w ⟨t, N, s, ps, ls, ss⟩ pv lv sv
  have hB2 := boxG_box w ⟨t, N, s, ps, ls, ss⟩ pv lv sv
  have hC := pok_any ⟨t, N, s, ps, ls, ss⟩ pv lv sv (boxG w ⟨t, N, s, ps, ls, ss⟩ pv lv sv) (h.below hB0) hwf
  rw [hyes] at hC
  have HL : Hid (∀ w', Below w.heap.size w w' → _) := fun w' hb => haveTrees_any true t s N ps ls ss pv lv sv w' hG (h.prods.below hb)
  have HBX : Hid (BoxG (boxG w ⟨t, N, s, ps, ls, ss⟩ pv lv sv) w.heap.size ⟨t, N, s, ps, ls, ss⟩ pv lv sv) := hB2
  obtain ⟨q0, q1, q2, q3, q4, q5, q6⟩ := hB2
  unfold boxG gv gvs at hC
  unfold boxG gvs at hB0 hB1 q0 q1 q2 q3 q4 q5 q6 HBX
  unfold gv gvs at HL ⊢
  simp only at *
  go_enter Tryz.func7, Tryz.ntmps7
  go_wp2_with fail
  refine hC.mono ?_
  rintro e w2 ⟨rfl, hb2⟩
  have hb := hB0.trans (hb2.mono hB0.size)
  rw [hB1] at hb2
  clear hC q0 q1 q2 q3 q4 q5 q6
  obtain ⟨q0, q1, q2, q3, q4, q5, q6⟩ := HBX.out.below (Nat.lt_succ_self _) hb2
  simp only at q0 q1 q2 q3 q4 q5 q6
  have hLe := HL.out w2 hb
  go_wp2_with fail
  refine hLe.mono ?_
  rintro e w3 ⟨B, L, rfl, hrow, hln, hwk, hBl, hb3⟩
  have HRw : Hid (RowB w3 B L) := hrow
  have HWk : Hid (∀ n, factB L n = hgtB true (prsS ps) N n) := hwk
  have hb4 := hb.trans (hb3.mono hb.size)
  clear hrow hwk hLe q0 q1 q2 q3 q4 q5 q6
  go_wp2
  go_ret
  exact ⟨B, L, rfl, HRw.out, hln, HWk.out, hb4⟩

set_option maxHeartbeats 2000000 in
theorem pempty_no (g : Gm) (pv lv sv : Value) (w : World) (h : GrM w g pv lv sv) (hwf : WfG g) (hno : gOkB g = false) :
    Calls Tryz.prog 9 #[gv g pv lv sv] w fun e w' => e = .returned (.slice none 0 0) ∧ Below w.heap.size w w' := by
  have hB0 := boxG_below w g pv lv sv
  have hB2 := boxG_box w g pv lv sv
  have hC := pok_any g pv lv sv (boxG w g pv lv sv) (h.below hB0) hwf
  rw [hno] at hC
  obtain ⟨q0, q1, q2, q3, q4, q5, q6⟩ := hB2
  unfold boxG gv gvs at hC
  unfold boxG gvs at hB0 q0 q1 q2 q3 q4 q5 q6
  unfold gv gvs
  go_enter Tryz.func9, Tryz.ntmps9
  go_wp2_with fail
  refine hC.mono ?_
  rintro e w2 ⟨rfl, hb2⟩
  have hb := hB0.trans (hb2.mono hB0.size)
  clear hC q0 q1 q2 q3 q4 q5 q6
  go_wp2
  go_ret
  exact ⟨rfl, hb⟩

set_option maxHeartbeats 2000000 in
theorem pempty_yes (t s : Int) (N : Nat) (ps : List PdR) (ls ss : List Int) (pv lv sv : Value) (w : World) (hG : GOkM N ps) (h : GrM w ⟨t, N, s, ps, ls, ss⟩ pv lv sv) (hwf : WfG ⟨t, N, s, ps, ls, ss⟩) (hyes : gOkB ⟨t, N, s, ps, ls, ss⟩ = true) :
    Calls Tryz.prog 9 #[gv ⟨t, N, s, ps, ls, ss⟩ pv lv sv] w fun e w' => ∃ B L, e = .returned (.slice (some ⟨B, 0, none⟩) N N) ∧ RowB w' B L ∧ L.length = N ∧ (∀ n, factB L n = hgtB false (prsS ps) N n) ∧ Below w.heap.size w w' := by
  have hB0 := boxG_below w ⟨t, N, s, ps, ls, ss⟩ pv lv sv
  have hB1 := boxG_size w ⟨t, N, s, ps, ls, ss⟩ pv lv sv
  have hB2 := boxG_box w ⟨t, N, s, ps, ls, ss⟩ pv lv sv
  have hC := pok_any ⟨t, N, s, ps, ls, ss⟩ pv lv sv (boxG w ⟨t, N, s, ps, ls, ss⟩ pv lv sv) (h.below hB0) hwf
  rw [hyes] at hC
  have HL : Hid (∀ w', Below w.heap.size w w' → _) := fun w' hb => haveTrees_any false t s N ps ls ss pv lv sv w' hG (h.prods.below hb)
  have HBX : Hid (BoxG (boxG w ⟨t, N, s, ps, ls, ss⟩ pv lv sv) w.heap.size ⟨t, N, s, ps, ls, ss⟩ pv lv sv) := hB2
  obtain ⟨q0, q1, q2, q3, q4, q5, q6⟩ := hB2
  unfold boxG gv gvs at hC
  unfold boxG gvs at hB0 hB1 q0 q1 q2 q3 q4 q5 q6 HBX
  unfold gv gvs at HL ⊢
  simp only at *
  go_enter Tryz.func9, Tryz.ntmps9
  go_wp2_with fail
  refine hC.mono ?_
  rintro e w2 ⟨rfl, hb2⟩
  have hb := hB0.trans (hb2.mono hB0.size)
  rw [hB1] at hb2
  clear hC q0 q1 q2 q3 q4 q5 q6
  obtain ⟨q0, q1, q2, q3, q4, q5, q6⟩ := HBX.out.below (Nat.lt_succ_self _) hb2
  simp only at q0 q1 q2 q3 q4 q5 q6
  have hLe := HL.out w2 hb
  go_wp2_with fail
  refine hLe.mono ?_
  rintro e w3 ⟨B, L, rfl, hrow, hln, hwk, hBl, hb3⟩
  have HRw : Hid (RowB w3 B L) := hrow
  have HWk : Hid (∀ n, factB L n = hgtB false (prsS ps) N n) := hwk
  have hb4 := hb.trans (hb3.mono hb.size)
  clear hrow hwk hLe q0 q1 q2 q3 q4 q5 q6
  go_wp2
  go_ret
  exact ⟨B, L, rfl, HRw.out, hln, HWk.out, hb4⟩

set_option maxHeartbeats 2000000 in
theorem pused_no (g : Gm) (pv lv sv : Value) (w : World) (h : GrM w g pv lv sv) (hwf : WfG g) (hno : gOkB g = false) :
    Calls Tryz.prog 8 #[gv g pv lv sv] w fun e w' => e = .returned (.slice none 0 0) ∧ Below w.heap.size w w' := by
  have hB0 := boxG_below w g pv lv sv
  have hB2 := boxG_box w g pv lv sv
  have hC := pok_any g pv lv sv (boxG w g pv lv sv) (h.below hB0) hwf
  rw [hno] at hC
  obtain ⟨q0, q1, q2, q3, q4, q5, q6⟩ := hB2
  unfold boxG gv gvs at hC
  unfold boxG gvs at hB0 q0 q1 q2 q3 q4 q5 q6
  unfold gv gvs
  go_enter Tryz.func8, Tryz.ntmps8
  go_wp2_with fail
  refine hC.mono ?_
  rintro e w2 ⟨rfl, hb2⟩
  have hb := hB0.trans (hb2.mono hB0.size)
  clear hC q0 q1 q2 q3 q4 q5 q6
  go_wp2
  go_ret
  exact ⟨rfl, hb⟩

set_option maxHeartbeats 2000000 in
theorem pused_yes (t s : Int) (N : Nat) (ps : List PdR) (ls ss : List Int) (pv lv sv : Value) (w : World) (hG : GOkM N ps) (h : GrM w ⟨t, N, s, ps, ls, ss⟩ pv lv sv) (hwf : WfG ⟨t, N, s, ps, ls, ss⟩) (hyes : gOkB ⟨t, N, s, ps, ls, ss⟩ = true) :
    Calls Tryz.prog 8 #[gv ⟨t, N, s, ps, ls, ss⟩ pv lv sv] w fun e w' => ∃ B L, e = .returned (.slice (some ⟨B, 0, none⟩) ps.length ps.length) ∧ RowB w' B L ∧ L.length = ps.length ∧ (∀ i, i < ps.length → (factB L i = true ↔ keepP N ps (ps.getD i noPd) = true ∧ ∃ h, reachH (wholeP N ps) s h (ps.getD i noPd).left.toNat = true)) ∧ Below w.heap.size w w' := by
  have hB0 := boxG_below w ⟨t, N, s, ps, ls, ss⟩ pv lv sv
  have hB1 := boxG_size w ⟨t, N, s, ps, ls, ss⟩ pv lv sv
  have hB2 := boxG_box w ⟨t, N, s, ps, ls, ss⟩ pv lv sv
  have hC := pok_any ⟨t, N, s, ps, ls, ss⟩ pv lv sv (boxG w ⟨t, N, s, ps, ls, ss⟩ pv lv sv) (h.below hB0) hwf
  rw [hyes] at hC
  have HL : Hid (∀ w', Below w.heap.size w w' → _) := fun w' hb => usedProds_any t s N ps ls ss pv lv sv w' hG (h.prods.below hb) (by obtain ⟨a, c, e⟩ := h.levels.slice; exact ⟨a, _, c, e⟩) (by obtain ⟨a, c, e⟩ := h.sides.slice; exact ⟨a, _, c, e⟩)
  have HBX : Hid (BoxG (boxG w ⟨t, N, s, ps, ls, ss⟩ pv lv sv) w.heap.size ⟨t, N, s, ps, ls, ss⟩ pv lv sv) := hB2
  obtain ⟨q0, q1, q2, q3, q4, q5, q6⟩ := hB2
  unfold boxG gv gvs at hC
  unfold boxG gvs at hB0 hB1 q0 q1 q2 q3 q4 q5 q6 HBX
  unfold gv gvs at HL ⊢
  simp only at *
  go_enter Tryz.func8, Tryz.ntmps8
  go_wp2_with fail
  refine hC.mono ?_
  rintro e w2 ⟨rfl, hb2⟩
  have hb := hB0.trans (hb2.mono hB0.size)
  rw [hB1] at hb2
  clear hC q0 q1 q2 q3 q4 q5 q6
  obtain ⟨q0, q1, q2, q3, q4, q5, q6⟩ := HBX.out.below (Nat.lt_succ_self _) hb2
  simp only at q0 q1 q2 q3 q4 q5 q6
  have hLe := HL.out w2 hb
  go_wp2_with fail
  refine hLe.mono ?_
  rintro e w3 ⟨B, L, rfl, hrow, hln, hwk, hb3⟩
  have HRw : Hid (RowB w3 B L) := hrow
  have HWk : Hid (∀ i, i < ps.length → (factB L i = true ↔ keepP N ps (ps.getD i noPd) = true ∧ ∃ h, reachH (wholeP N ps) s h (ps.getD i noPd).left.toNat = true)) := hwk
  have hb4 := hb.trans (hb3.mono hb.size)
  clear hrow hwk hLe q0 q1 q2 q3 q4 q5 q6
  go_wp2
  go_ret
  exact ⟨B, L, rfl, HRw.out, hln, HWk.out, hb4⟩

end Go.Proofs.YtkdoghaoijdedaaGreatDoor

namespace Go.Proofs.YtkdoghaoijdedaaGreatDoor
open Go.RowKit
set_option linter.unusedVariables false
set_option maxRecDepth 100000

set_option maxHeartbeats 2000000 in
theorem pfirst_no (g : Gm) (pv lv sv : Value) (w : World) (h : GrM w g pv lv sv) (hwf : WfG g) (hno : gOkB g = false) :
    Calls Tryz.prog 11 #[gv g pv lv sv] w fun e w' => e = .returned (.slice none 0 0) ∧ Below w.heap.size w w' := by
  have hB0 := boxG_below w g pv lv sv
  have hB2 := boxG_box w g pv lv sv
  have hC := pok_any g pv lv sv (boxG w g pv lv sv) (h.below hB0) hwf
  rw [hno] at hC
  obtain ⟨q0, q1, q2, q3, q4, q5, q6⟩ := hB2
  unfold boxG gv gvs at hC
  unfold boxG gvs at hB0 q0 q1 q2 q3 q4 q5 q6
  unfold gv gvs
  go_enter Tryz.func11, Tryz.ntmps11
  go_wp2_with fail
  refine hC.mono ?_
  rintro e w2 ⟨rfl, hb2⟩
  have hb := hB0.trans (hb2.mono hB0.size)
  clear hC q0 q1 q2 q3 q4 q5 q6
  go_wp2
  go_ret
  exact ⟨rfl, hb⟩

set_option maxHeartbeats 2000000 in
theorem pfirst_yes (T s N : Nat) (ps : List PdR) (ls ss : List Int) (pv lv sv : Value) (w : World) (hN1 : 1 ≤ N) (hN8 : N ≤ 8) (hT8 : T ≤ 8) (hs : s < N) (hTr : TrmP T ps) (hG : GOkM N ps) (h : GrM w ⟨T, N, s, ps, ls, ss⟩ pv lv sv) (hwf : WfG ⟨T, N, s, ps, ls, ss⟩) (hyes : gOkB ⟨T, N, s, ps, ls, ss⟩ = true) (hGl : 0 < w.heap.size) (hTb : TabAt 0 Lib.deBruijn64tab w) :
    Calls Tryz.prog 11 #[gv ⟨T, N, s, ps, ls, ss⟩ pv lv sv] w fun e w' => ∃ v L, e = .returned v ∧ LssM w' v ((List.range N).map fun n => bitsZ (factM L n)) ∧ (∀ n, n < N → ∀ i, ((factM L n).testBit i = true ↔ fstP N ps n i)) ∧ Below w.heap.size w w' := by
  have hB0 := boxG_below w ⟨T, N, s, ps, ls, ss⟩ pv lv sv
  have hB1 := boxG_size w ⟨T, N, s, ps, ls, ss⟩ pv lv sv
  have hB2 := boxG_box w ⟨T, N, s, ps, ls, ss⟩ pv lv sv
  have hC := pok_any ⟨T, N, s, ps, ls, ss⟩ pv lv sv (boxG w ⟨T, N, s, ps, ls, ss⟩ pv lv sv) (h.below hB0) hwf
  rw [hyes] at hC
  have HL : Hid (∀ w', Below w.heap.size w w' → _) := fun w' (hb : Below w.heap.size w w') => firsts_any T s N ps ls ss pv lv sv w' hN1 hN8 T hT8 hTr hG (h.prods.below hb)
  have HBX : Hid (BoxG (boxG w ⟨T, N, s, ps, ls, ss⟩ pv lv sv) w.heap.size ⟨T, N, s, ps, ls, ss⟩ pv lv sv) := hB2
  have HTB : Hid (∀ w', Below w.heap.size w w' → 0 < w'.heap.size ∧ TabAt 0 Lib.deBruijn64tab w') := fun w' hb => ⟨Nat.lt_of_lt_of_le hGl hb.size, tab_below hTb hGl hb⟩
  obtain ⟨q0, q1, q2, q3, q4, q5, q6⟩ := hB2
  unfold boxG gv gvs at hC
  unfold boxG gvs at hB0 hB1 q0 q1 q2 q3 q4 q5 q6 HBX
  unfold gv gvs at HL ⊢
  simp only at *
  clear hTb hGl
  go_enter Tryz.func11, Tryz.ntmps11
  go_wp2_with fail
  refine hC.mono ?_
  rintro e w2 ⟨rfl, hb2⟩
  have hb := hB0.trans (hb2.mono hB0.size)
  rw [hB1] at hb2
  clear hC q0 q1 q2 q3 q4 q5 q6
  obtain ⟨q0, q1, q2, q3, q4, q5, q6⟩ := HBX.out.below (Nat.lt_succ_self _) hb2
  simp only at q0 q1 q2 q3 q4 q5 q6
  have hLe := HL.out w2 hb
  go_wp2_with fail
  refine hLe.mono ?_
  rintro e w3 ⟨B, L, rfl, hrow, hln, hlt, hwk, _, _, hb3⟩
  have HWk : Hid (∀ n, n < N → ∀ i, ((factM L n).testBit i = true ↔ fstP N ps n i)) := hwk
  have hb4 := hb.trans (hb3.mono hb.size)
  have hLo := listsOf_any N B L w3 (by omega) hln hlt hrow (HTB.out w3 hb4).1 (HTB.out w3 hb4).2
  clear hrow hwk hLe q0 q1 q2 q3 q4 q5 q6
  go_wp2_with fail
  refine hLo.mono ?_
  rintro e w5 ⟨v, rfl, hls, hb5⟩
  have HLS : Hid (LssM w5 v ((List.range N).map fun n => bitsZ (factM L n))) := hls
  have hb6 := hb4.trans (hb5.mono hb4.size)
  clear hls hLo hb5
  go_wp2
  go_ret
  exact ⟨v, L, rfl, HLS.out, HWk.out, hb6⟩

set_option maxHeartbeats 2000000 in
theorem pfollow_no (g : Gm) (pv lv sv : Value) (w : World) (h : GrM w g pv lv sv) (hwf : WfG g) (hno : gOkB g = false) :
    Calls Tryz.prog 12 #[gv g pv lv sv] w fun e w' => e = .returned (.slice none 0 0) ∧ Below w.heap.size w w' := by
  have hB0 := boxG_below w g pv lv sv
  have hB2 := boxG_box w g pv lv sv
  have hC := pok_any g pv lv sv (boxG w g pv lv sv) (h.below hB0) hwf
  rw [hno] at hC
  obtain ⟨q0, q1, q2, q3, q4, q5, q6⟩ := hB2
  unfold boxG gv gvs at hC
  unfold boxG gvs at hB0 q0 q1 q2 q3 q4 q5 q6
  unfold gv gvs
  go_enter Tryz.func12, Tryz.ntmps12
  go_wp2_with fail
  refine hC.mono ?_
  rintro e w2 ⟨rfl, hb2⟩
  have hb := hB0.trans (hb2.mono hB0.size)
  clear hC q0 q1 q2 q3 q4 q5 q6
  go_wp2
  go_ret
  exact ⟨rfl, hb⟩

set_option maxHeartbeats 2000000 in
theorem pfollow_yes (T s N : Nat) (ps : List PdR) (ls ss : List Int) (pv lv sv : Value) (w : World) (hN1 : 1 ≤ N) (hN8 : N ≤ 8) (hT8 : T ≤ 8) (hs : s < N) (hTr : TrmP T ps) (hG : GOkM N ps) (h : GrM w ⟨T, N, s, ps, ls, ss⟩ pv lv sv) (hwf : WfG ⟨T, N, s, ps, ls, ss⟩) (hyes : gOkB ⟨T, N, s, ps, ls, ss⟩ = true) (hGl : 0 < w.heap.size) (hTb : TabAt 0 Lib.deBruijn64tab w) :
    Calls Tryz.prog 12 #[gv ⟨T, N, s, ps, ls, ss⟩ pv lv sv] w fun e w' => ∃ v L, e = .returned v ∧ LssM w' v ((List.range N).map fun n => bitsZ (factM L n)) ∧ (∀ n, n < N → ∀ i, ((factM L n).testBit i = true ↔ flwP N T ps s n i)) ∧ Below w.heap.size w w' := by
  have hB0 := boxG_below w ⟨T, N, s, ps, ls, ss⟩ pv lv sv
  have hB1 := boxG_size w ⟨T, N, s, ps, ls, ss⟩ pv lv sv
  have hB2 := boxG_box w ⟨T, N, s, ps, ls, ss⟩ pv lv sv
  have hC := pok_any ⟨T, N, s, ps, ls, ss⟩ pv lv sv (boxG w ⟨T, N, s, ps, ls, ss⟩ pv lv sv) (h.below hB0) hwf
  rw [hyes] at hC
  have HL : Hid (∀ w', Below w.heap.size w w' → _) := fun w' (hb : Below w.heap.size w w') => follows_any T s N ps ls ss pv lv sv w' hN1 hN8 hT8 hs hTr hG (h.prods.below hb) (let ⟨a, c, e⟩ := h.levels.slice; ⟨a, _, c, e⟩) (let ⟨a, c, e⟩ := h.sides.slice; ⟨a, _, c, e⟩)
  have HBX : Hid (BoxG (boxG w ⟨T, N, s, ps, ls, ss⟩ pv lv sv) w.heap.size ⟨T, N, s, ps, ls, ss⟩ pv lv sv) := hB2
  have HTB : Hid (∀ w', Below w.heap.size w w' → 0 < w'.heap.size ∧ TabAt 0 Lib.deBruijn64tab w') := fun w' hb => ⟨Nat.lt_of_lt_of_le hGl hb.size, tab_below hTb hGl hb⟩
  obtain ⟨q0, q1, q2, q3, q4, q5, q6⟩ := hB2
  unfold boxG gv gvs at hC
  unfold boxG gvs at hB0 hB1 q0 q1 q2 q3 q4 q5 q6 HBX
  unfold gv gvs at HL ⊢
  simp only at *
  clear hTb hGl
  go_enter Tryz.func12, Tryz.ntmps12
  go_wp2_with fail
  refine hC.mono ?_
  rintro e w2 ⟨rfl, hb2⟩
  have hb := hB0.trans (hb2.mono hB0.size)
  rw [hB1] at hb2
  clear hC q0 q1 q2 q3 q4 q5 q6
  obtain ⟨q0, q1, q2, q3, q4, q5, q6⟩ := HBX.out.below (Nat.lt_succ_self _) hb2
  simp only at q0 q1 q2 q3 q4 q5 q6
  have hLe := HL.out w2 hb
  go_wp2_with fail
  refine hLe.mono ?_
  rintro e w3 ⟨B, L, rfl, hrow, hln, hlt, hwk, hb3⟩
  have HWk : Hid (∀ n, n < N → ∀ i, ((factM L n).testBit i = true ↔ flwP N T ps s n i)) := hwk
  have hb4 := hb.trans (hb3.mono hb.size)
  have hLo := listsOf_any N B L w3 (by omega) hln hlt hrow (HTB.out w3 hb4).1 (HTB.out w3 hb4).2
  clear hrow hwk hLe q0 q1 q2 q3 q4 q5 q6
  go_wp2_with fail
  refine hLo.mono ?_
  rintro e w5 ⟨v, rfl, hls, hb5⟩
  have HLS : Hid (LssM w5 v ((List.range N).map fun n => bitsZ (factM L n))) := hls
  have hb6 := hb4.trans (hb5.mono hb4.size)
  clear hls hLo hb5
  go_wp2
  go_ret
  exact ⟨v, L, rfl, HLS.out, HWk.out, hb6⟩

end Go.Proofs.YtkdoghaoijdedaaGreatDoor

namespace Go.Proofs.YtkdoghaoijdedaaGreatDoor
open Go.RowKit
set_option linter.unusedVariables false
set_option maxRecDepth 100000

set_option maxHeartbeats 2000000 in
theorem ploops_no (g : Gm) (pv lv sv : Value) (w : World) (h : GrM w g pv lv sv) (hwf : WfG g) (hno : gOkB g = false) :
    Calls Tryz.prog 10 #[gv g pv lv sv] w fun e w' => e = .returned (.slice none 0 0) ∧ Below w.heap.size w w' := by
  have hB0 := boxG_below w g pv lv sv
  have hB2 := boxG_box w g pv lv sv
  have hC := pok_any g pv lv sv (boxG w g pv lv sv) (h.below hB0) hwf
  rw [hno] at hC
  obtain ⟨q0, q1, q2, q3, q4, q5, q6⟩ := hB2
  unfold boxG gv gvs at hC
  unfold boxG gvs at hB0 q0 q1 q2 q3 q4 q5 q6
  unfold gv gvs
  go_enter Tryz.func10, Tryz.ntmps10
  go_wp2_with fail
  refine hC.mono ?_
  rintro e w2 ⟨rfl, hb2⟩
  have hb := hB0.trans (hb2.mono hB0.size)
  clear hC q0 q1 q2 q3 q4 q5 q6
  go_wp2
  go_ret
  exact ⟨rfl, hb⟩

set_option maxHeartbeats 2000000 in
theorem ploops_yes (t s : Int) (N : Nat) (ps : List PdR) (ls ss : List Int) (pv lv sv : Value) (w : World) (hN1 : 1 ≤ N) (hN8 : N ≤ 8) (hG : GOkM N ps) (h : GrM w ⟨t, N, s, ps, ls, ss⟩ pv lv sv) (hwf : WfG ⟨t, N, s, ps, ls, ss⟩) (hyes : gOkB ⟨t, N, s, ps, ls, ss⟩ = true) :
    Calls Tryz.prog 10 #[gv ⟨t, N, s, ps, ls, ss⟩ pv lv sv] w fun e w' => ∃ B L, e = .returned (.slice (some ⟨B, 0, none⟩) N N) ∧ RowB w' B L ∧ L.length = N ∧ (∀ n, n < N → (factB L n = true ↔ loopP N ps n)) ∧ Below w.heap.size w w' := by
  have hB0 := boxG_below w ⟨t, N, s, ps, ls, ss⟩ pv lv sv
  have hB1 := boxG_size w ⟨t, N, s, ps, ls, ss⟩ pv lv sv
  have hB2 := boxG_box w ⟨t, N, s, ps, ls, ss⟩ pv lv sv
  have hC := pok_any ⟨t, N, s, ps, ls, ss⟩ pv lv sv (boxG w ⟨t, N, s, ps, ls, ss⟩ pv lv sv) (h.below hB0) hwf
  rw [hyes] at hC
  have HL : Hid (∀ w', Below w.heap.size w w' → _) := fun w' hb => looping_any t s N ps ls ss pv lv sv w' hN1 hN8 hG (h.prods.below hb) (let ⟨a, c, e⟩ := h.levels.slice; ⟨a, _, c, e⟩) (let ⟨a, c, e⟩ := h.sides.slice; ⟨a, _, c, e⟩)
  have HBX : Hid (BoxG (boxG w ⟨t, N, s, ps, ls, ss⟩ pv lv sv) w.heap.size ⟨t, N, s, ps, ls, ss⟩ pv lv sv) := hB2
  obtain ⟨q0, q1, q2, q3, q4, q5, q6⟩ := hB2
  unfold boxG gv gvs at hC
  unfold boxG gvs at hB0 hB1 q0 q1 q2 q3 q4 q5 q6 HBX
  unfold gv gvs at HL ⊢
  simp only at *
  go_enter Tryz.func10, Tryz.ntmps10
  go_wp2_with fail
  refine hC.mono ?_
  rintro e w2 ⟨rfl, hb2⟩
  have hb := hB0.trans (hb2.mono hB0.size)
  rw [hB1] at hb2
  clear hC q0 q1 q2 q3 q4 q5 q6
  obtain ⟨q0, q1, q2, q3, q4, q5, q6⟩ := HBX.out.below (Nat.lt_succ_self _) hb2
  simp only at q0 q1 q2 q3 q4 q5 q6
  have hLe := HL.out w2 hb
  go_wp2_with fail
  refine hLe.mono ?_
  rintro e w3 ⟨B, L, rfl, hrow, hln, hwk, hBl, hb3⟩
  have HRw : Hid (RowB w3 B L) := hrow
  have HWk : Hid (∀ n, n < N → (factB L n = true ↔ loopP N ps n)) := hwk
  have hb4 := hb.trans (hb3.mono hb.size)
  clear hrow hwk hLe q0 q1 q2 q3 q4 q5 q6
  go_wp2
  go_ret
  exact ⟨B, L, rfl, HRw.out, hln, HWk.out, hb4⟩

end Go.Proofs.YtkdoghaoijdedaaGreatDoor
