/- Texts of the proof, put together: GLawT. -/
import Derived.Test.YtkdoghaoijdedaaGreatDoorGt38
import Derived.Test.YtkdoghaoijdedaaGreatDoorGt43
import Derived.Test.YtkdoghaoijdedaaGreatDoorGt44
import Derived.Test.YtkdoghaoijdedaaGreatDoorGt45
namespace Go.Proofs.YtkdoghaoijdedaaGreatDoor
open Go.RowKit
set_option linter.unusedVariables false
set_option maxRecDepth 100000

set_option maxHeartbeats 2000000 in
theorem law_big (g : Gm) (pv lv sv : Value) (w : World) (h : GrM w g pv lv sv) (hs : smallG g = false) :
    Calls Tryz.prog 3 #[gv g pv lv sv] w fun e w' => e = .returned (.bool true) ∧ Below w.heap.size w w' := by
  have hB0 := boxG_below w g pv lv sv
  have hB2 := boxG_box w g pv lv sv
  have hC := small_any g pv lv sv (boxG w g pv lv sv) (h.below hB0)
  rw [hs] at hC
  obtain ⟨q0, q1, q2, q3, q4, q5, q6⟩ := hB2
  unfold boxG gv gvs at hC
  unfold boxG gvs at hB0 q0 q1 q2 q3 q4 q5 q6
  unfold gv gvs
  go_enter Tryz.func3, Tryz.ntmps3
  go_wp2_with fail
  refine hC.mono ?_
  rintro e w2 ⟨rfl, hb2⟩
  have hb := hB0.trans (hb2.mono hB0.size)
  clear hC q0 q1 q2 q3 q4 q5 q6
  go_wp2
  go_ret
  exact ⟨rfl, hb⟩

set_option maxHeartbeats 8000000 in
theorem law_no (g : Gm) (pv lv sv : Value) (w : World) (h : GrM w g pv lv sv) (hwf : WfG g) (hs : smallG g = true) (hno : gOkB g = false) :
    Calls Tryz.prog 3 #[gv g pv lv sv] w fun e w' => e = .returned (.bool true) ∧ Below w.heap.size w w' := by
  have hB0 := boxG_below w g pv lv sv
  have hB1 := boxG_size w g pv lv sv
  have hB2 := boxG_box w g pv lv sv
  have HBX : Hid (∀ w', Below (boxG w g pv lv sv).heap.size (boxG w g pv lv sv) w' → BoxG w' w.heap.size g pv lv sv) := fun w' hb => hB2.below (by omega) hb
  have HW : Hid (∀ w', Below (boxG w g pv lv sv).heap.size (boxG w g pv lv sv) w' → Below w.heap.size w w') := fun w' hb => hB0.trans (hb.mono (by omega))
  have HC1 : Hid (∀ w', Below w.heap.size w w' → Calls Tryz.prog 4 #[gv g pv lv sv] w' fun e w'' => e = .returned (.bool true) ∧ Below w'.heap.size w' w'') := fun w' hb => by
    have := small_any g pv lv sv w' (h.below hb)
    rw [hs] at this
    exact this
  have HC2 : Hid (∀ w', Below w.heap.size w w' → Calls Tryz.prog 5 #[gv g pv lv sv] w' fun e w'' => e = .returned (.bool false) ∧ Below w'.heap.size w' w'') := fun w' hb => by
    have := gok_any g pv lv sv w' (h.below hb)
    rw [hno] at this
    exact this
  have HC3 : Hid (∀ w', Below w.heap.size w w' → Calls Tryz.prog 6 #[gv g pv lv sv] w' fun e w'' => e = .returned (.bool false) ∧ Below w'.heap.size w' w'') := fun w' hb => by
    have := pok_any g pv lv sv w' (h.below hb) hwf
    rw [hno] at this
    exact this
  have HC4 : Hid (∀ w', Below w.heap.size w w' → Calls Tryz.prog 7 #[gv g pv lv sv] w' fun e w'' => e = .returned (.slice none 0 0) ∧ Below w'.heap.size w' w'') := fun w' hb => plives_no g pv lv sv w' (h.below hb) hwf hno
  have HC5 : Hid (∀ w', Below w.heap.size w w' → Calls Tryz.prog 8 #[gv g pv lv sv] w' fun e w'' => e = .returned (.slice none 0 0) ∧ Below w'.heap.size w' w'') := fun w' hb => pused_no g pv lv sv w' (h.below hb) hwf hno
  have HC6 : Hid (∀ w', Below w.heap.size w w' → Calls Tryz.prog 9 #[gv g pv lv sv] w' fun e w'' => e = .returned (.slice none 0 0) ∧ Below w'.heap.size w' w'') := fun w' hb => pempty_no g pv lv sv w' (h.below hb) hwf hno
  have HC7 : Hid (∀ w', Below w.heap.size w w' → Calls Tryz.prog 10 #[gv g pv lv sv] w' fun e w'' => e = .returned (.slice none 0 0) ∧ Below w'.heap.size w' w'') := fun w' hb => ploops_no g pv lv sv w' (h.below hb) hwf hno
  have HC8 : Hid (∀ w', Below w.heap.size w w' → Calls Tryz.prog 11 #[gv g pv lv sv] w' fun e w'' => e = .returned (.slice none 0 0) ∧ Below w'.heap.size w' w'') := fun w' hb => pfirst_no g pv lv sv w' (h.below hb) hwf hno
  have HC9 : Hid (∀ w', Below w.heap.size w w' → Calls Tryz.prog 12 #[gv g pv lv sv] w' fun e w'' => e = .returned (.slice none 0 0) ∧ Below w'.heap.size w' w'') := fun w' hb => pfollow_no g pv lv sv w' (h.below hb) hwf hno
  unfold gv gvs at HC1 HC2 HC3 HC4 HC5 HC6 HC7 HC8 HC9 ⊢
  unfold boxG gvs at hB0 HBX HW hB1 hB2
  have hbwa : Below (w.alloc (.cells #[.int .i64 g.terms, .int .i64 g.names, .int .i64 g.start, pv, lv, sv] 25)).heap.size (w.alloc (.cells #[.int .i64 g.terms, .int .i64 g.names, .int .i64 g.start, pv, lv, sv] 25)) (w.alloc (.cells #[.int .i64 g.terms, .int .i64 g.names, .int .i64 g.start, pv, lv, sv] 25)) := Below.refl _ _
  go_enter Tryz.func3, Tryz.ntmps3
  go_upto_region 1 with fail
  clear hB1 hB2
  generalize w.alloc (.cells #[.int .i64 g.terms, .int .i64 g.names, .int .i64 g.start, pv, lv, sv] 25) = wa at *
  obtain ⟨q0, q1, q2, q3, q4, q5, q6⟩ := HBX.out wa hbwa
  try simp only at q0 q1 q2 q3 q4 q5 q6
  have hC := HC1.out wa (HW.out _ hbwa)
  go_wp2_with fail
  refine hC.mono ?_
  rintro e wc ⟨rfl, hbc⟩
  have hbwc := hbwa.trans (hbc.mono hbwa.size)
  clear hC hbc q0 q1 q2 q3 q4 q5 q6
  obtain ⟨q0, q1, q2, q3, q4, q5, q6⟩ := HBX.out wc hbwc
  try simp only at q0 q1 q2 q3 q4 q5 q6
  have hC := HC2.out wc (HW.out _ hbwc)
  go_wp2_with fail
  refine hC.mono ?_
  rintro e wd ⟨rfl, hbc⟩
  have hbwd := hbwc.trans (hbc.mono hbwc.size)
  clear hC hbc q0 q1 q2 q3 q4 q5 q6
  obtain ⟨q0, q1, q2, q3, q4, q5, q6⟩ := HBX.out wd hbwd
  try simp only at q0 q1 q2 q3 q4 q5 q6
  have hC := HC3.out wd (HW.out _ hbwd)
  go_wp2_with fail
  refine hC.mono ?_
  rintro e we ⟨rfl, hbc⟩
  have hbwe := hbwd.trans (hbc.mono hbwd.size)
  clear hC hbc q0 q1 q2 q3 q4 q5 q6
  obtain ⟨q0, q1, q2, q3, q4, q5, q6⟩ := HBX.out we hbwe
  try simp only at q0 q1 q2 q3 q4 q5 q6
  have hC := HC4.out we (HW.out _ hbwe)
  go_wp2_with fail
  refine hC.mono ?_
  rintro e wf ⟨rfl, hbc⟩
  have hbwf := hbwe.trans (hbc.mono hbwe.size)
  clear hC hbc q0 q1 q2 q3 q4 q5 q6
  obtain ⟨q0, q1, q2, q3, q4, q5, q6⟩ := HBX.out wf hbwf
  try simp only at q0 q1 q2 q3 q4 q5 q6
  have hC := HC5.out wf (HW.out _ hbwf)
  go_wp2_with fail
  refine hC.mono ?_
  rintro e wg ⟨rfl, hbc⟩
  have hbwg := hbwf.trans (hbc.mono hbwf.size)
  clear hC hbc q0 q1 q2 q3 q4 q5 q6
  obtain ⟨q0, q1, q2, q3, q4, q5, q6⟩ := HBX.out wg hbwg
  try simp only at q0 q1 q2 q3 q4 q5 q6
  have hC := HC6.out wg (HW.out _ hbwg)
  go_wp2_with fail
  refine hC.mono ?_
  rintro e wh ⟨rfl, hbc⟩
  have hbwh := hbwg.trans (hbc.mono hbwg.size)
  clear hC hbc q0 q1 q2 q3 q4 q5 q6
  obtain ⟨q0, q1, q2, q3, q4, q5, q6⟩ := HBX.out wh hbwh
  try simp only at q0 q1 q2 q3 q4 q5 q6
  have hC := HC7.out wh (HW.out _ hbwh)
  go_wp2_with fail
  refine hC.mono ?_
  rintro e wi ⟨rfl, hbc⟩
  have hbwi := hbwh.trans (hbc.mono hbwh.size)
  clear hC hbc q0 q1 q2 q3 q4 q5 q6
  obtain ⟨q0, q1, q2, q3, q4, q5, q6⟩ := HBX.out wi hbwi
  try simp only at q0 q1 q2 q3 q4 q5 q6
  have hC := HC8.out wi (HW.out _ hbwi)
  go_wp2_with fail
  refine hC.mono ?_
  rintro e wj ⟨rfl, hbc⟩
  have hbwj := hbwi.trans (hbc.mono hbwi.size)
  clear hC hbc q0 q1 q2 q3 q4 q5 q6
  obtain ⟨q0, q1, q2, q3, q4, q5, q6⟩ := HBX.out wj hbwj
  try simp only at q0 q1 q2 q3 q4 q5 q6
  have hC := HC9.out wj (HW.out _ hbwj)
  go_wp2_with fail
  refine hC.mono ?_
  rintro e wk ⟨rfl, hbc⟩
  have hbwk := hbwj.trans (hbc.mono hbwj.size)
  clear hC hbc q0 q1 q2 q3 q4 q5 q6
  have hbz := HW.out _ hbwk
  go_wp2
  go_ret
  exact ⟨rfl, hbz⟩

set_option maxHeartbeats 16000000 in
theorem law_yes (T s N : Nat) (ps : List PdR) (ls ss : List Int) (pv lv sv : Value) (w : World) (hG : GOkM N ps) (hN1 : 1 ≤ N) (hN8 : N ≤ 8) (hT8 : T ≤ 8) (hsN : s < N) (hTr : TrmP T ps) (h : GrM w ⟨T, N, s, ps, ls, ss⟩ pv lv sv) (hwf : WfG ⟨T, N, s, ps, ls, ss⟩) (hs : smallG ⟨T, N, s, ps, ls, ss⟩ = true) (hyes : gOkB ⟨T, N, s, ps, ls, ss⟩ = true) (hGl : 0 < w.heap.size) (hTb : TabAt 0 Lib.deBruijn64tab w) :
    Calls Tryz.prog 3 #[gv ⟨T, N, s, ps, ls, ss⟩ pv lv sv] w fun e w' => e = .returned (.bool true) ∧ Below w.heap.size w w' := by
  have hB0 := boxG_below w ⟨T, N, s, ps, ls, ss⟩ pv lv sv
  have hB1 := boxG_size w ⟨T, N, s, ps, ls, ss⟩ pv lv sv
  have hB2 := boxG_box w ⟨T, N, s, ps, ls, ss⟩ pv lv sv
  have HBX : Hid (∀ w', Below (boxG w ⟨T, N, s, ps, ls, ss⟩ pv lv sv).heap.size (boxG w ⟨T, N, s, ps, ls, ss⟩ pv lv sv) w' → BoxG w' w.heap.size ⟨T, N, s, ps, ls, ss⟩ pv lv sv) := fun w' hb => hB2.below (by omega) hb
  have HW : Hid (∀ w', Below (boxG w ⟨T, N, s, ps, ls, ss⟩ pv lv sv).heap.size (boxG w ⟨T, N, s, ps, ls, ss⟩ pv lv sv) w' → Below w.heap.size w w') := fun w' hb => hB0.trans (hb.mono (by omega))
  have hlv : ∃ a n c, lv = .slice a n c := let ⟨a, c, e⟩ := h.levels.slice; ⟨a, _, c, e⟩
  have hsv : ∃ a n c, sv = .slice a n c := let ⟨a, c, e⟩ := h.sides.slice; ⟨a, _, c, e⟩
  have HC1 : Hid (∀ w', Below w.heap.size w w' → Calls Tryz.prog 4 #[gv ⟨T, N, s, ps, ls, ss⟩ pv lv sv] w' fun e w'' => e = .returned (.bool true) ∧ Below w'.heap.size w' w'') := fun w' hb => by
    have := small_any ⟨T, N, s, ps, ls, ss⟩ pv lv sv w' (h.below hb)
    rw [hs] at this
    exact this
  have HC2 : Hid (∀ w', Below w.heap.size w w' → Calls Tryz.prog 5 #[gv ⟨T, N, s, ps, ls, ss⟩ pv lv sv] w' fun e w'' => e = .returned (.bool true) ∧ Below w'.heap.size w' w'') := fun w' hb => by
    have := gok_any ⟨T, N, s, ps, ls, ss⟩ pv lv sv w' (h.below hb)
    rw [hyes] at this
    exact this
  have HC3 : Hid (∀ w', Below w.heap.size w w' → Calls Tryz.prog 6 #[gv ⟨T, N, s, ps, ls, ss⟩ pv lv sv] w' fun e w'' => e = .returned (.bool true) ∧ Below w'.heap.size w' w'') := fun w' hb => by
    have := pok_any ⟨T, N, s, ps, ls, ss⟩ pv lv sv w' (h.below hb) hwf
    rw [hyes] at this
    exact this
  have HC4 : Hid (∀ w', Below w.heap.size w w' → _) := fun w' (hb : Below w.heap.size w w') => plives_yes T s N ps ls ss pv lv sv w' hG (h.below hb) hwf hyes
  have HC5 : Hid (∀ w', Below w.heap.size w w' → _) := fun w' (hb : Below w.heap.size w w') => pused_yes T s N ps ls ss pv lv sv w' hG (h.below hb) hwf hyes
  have HC6 : Hid (∀ w', Below w.heap.size w w' → _) := fun w' (hb : Below w.heap.size w w') => pempty_yes T s N ps ls ss pv lv sv w' hG (h.below hb) hwf hyes
  have HC7 : Hid (∀ w', Below w.heap.size w w' → _) := fun w' (hb : Below w.heap.size w w') => ploops_yes T s N ps ls ss pv lv sv w' hN1 hN8 hG (h.below hb) hwf hyes
  have HC8 : Hid (∀ w', Below w.heap.size w w' → _) := fun w' (hb : Below w.heap.size w w') => pfirst_yes T s N ps ls ss pv lv sv w' hN1 hN8 hT8 hsN hTr hG (h.below hb) hwf hyes (Nat.lt_of_lt_of_le hGl hb.size) (tab_below hTb hGl hb)
  have HC9 : Hid (∀ w', Below w.heap.size w w' → _) := fun w' (hb : Below w.heap.size w w') => pfollow_yes T s N ps ls ss pv lv sv w' hN1 hN8 hT8 hsN hTr hG (h.below hb) hwf hyes (Nat.lt_of_lt_of_le hGl hb.size) (tab_below hTb hGl hb)
  have HC10 : Hid (∀ w', Below w.heap.size w w' → _) := fun w' (hb : Below w.heap.size w w') => rlives_any T s N ps ls ss pv lv sv w' hG.n hG.len (fun m hm => (hG.pd m hm).1) (h.prods.below hb)
  have HC11 : Hid (∀ w', Below w.heap.size w w' → _) := fun w' (hb : Below w.heap.size w w') => rused_any T s N hsN ps ls ss pv lv sv w' hG (h.prods.below hb)
  have HC12 : Hid (∀ w', Below w.heap.size w w' → _) := fun w' (hb : Below w.heap.size w w') => rempty_any T s N ps ls ss pv lv sv w' hG.n hG.len (fun m hm => (hG.pd m hm).1) (h.prods.below hb)
  have HC13 : Hid (∀ w', Below w.heap.size w w' → _) := fun w' (hb : Below w.heap.size w w') => rloops_any T s N hN1 ps ls ss pv lv sv w' hG (h.prods.below hb)
  have HC14 : Hid (∀ w', Below w.heap.size w w' → _) := fun w' (hb : Below w.heap.size w w') => rfirst_any T s N (by omega) hN1 ps ls ss pv lv sv w' hG hTr (h.prods.below hb)
  have HC15 : Hid (∀ w', Below w.heap.size w w' → _) := fun w' (hb : Below w.heap.size w w') => rfollow_any T s N (by omega) hN1 hsN ps ls ss pv lv sv w' hG hTr (h.prods.below hb) hlv hsv
  have hpl := hG.len
  unfold gv gvs at HC1 HC2 HC3 HC4 HC5 HC6 HC7 HC8 HC9 HC10 HC11 HC12 HC13 HC14 HC15 ⊢
  unfold boxG gvs at hB0 HBX HW hB1 hB2
  simp only at *
  have hbwa : Below (w.alloc (.cells #[.int .i64 T, .int .i64 N, .int .i64 s, pv, lv, sv] 25)).heap.size (w.alloc (.cells #[.int .i64 T, .int .i64 N, .int .i64 s, pv, lv, sv] 25)) (w.alloc (.cells #[.int .i64 T, .int .i64 N, .int .i64 s, pv, lv, sv] 25)) := Below.refl _ _
  go_enter Tryz.func3, Tryz.ntmps3
  go_upto_region 1 with fail
  clear hB1 hB2 hGl hTb hlv hsv
  generalize w.alloc (.cells #[.int .i64 T, .int .i64 N, .int .i64 s, pv, lv, sv] 25) = wa at *
  obtain ⟨q0, q1, q2, q3, q4, q5, q6⟩ := HBX.out wa hbwa
  try simp only at q0 q1 q2 q3 q4 q5 q6
  have hC := HC1.out wa (HW.out _ hbwa)
  go_wp2_with fail
  refine hC.mono ?_
  rintro e wc ⟨rfl, hbc⟩
  have hbwc := hbwa.trans (hbc.mono hbwa.size)
  clear hC hbc q0 q1 q2 q3 q4 q5 q6
  obtain ⟨q0, q1, q2, q3, q4, q5, q6⟩ := HBX.out wc hbwc
  try simp only at q0 q1 q2 q3 q4 q5 q6
  have hC := HC2.out wc (HW.out _ hbwc)
  go_wp2_with fail
  refine hC.mono ?_
  rintro e wd ⟨rfl, hbc⟩
  have hbwd := hbwc.trans (hbc.mono hbwc.size)
  clear hC hbc q0 q1 q2 q3 q4 q5 q6
  obtain ⟨q0, q1, q2, q3, q4, q5, q6⟩ := HBX.out wd hbwd
  try simp only at q0 q1 q2 q3 q4 q5 q6
  have hC := HC3.out wd (HW.out _ hbwd)
  go_wp2_with fail
  refine hC.mono ?_
  rintro e we ⟨rfl, hbc⟩
  have hbwe := hbwd.trans (hbc.mono hbwd.size)
  clear hC hbc q0 q1 q2 q3 q4 q5 q6
  obtain ⟨q0, q1, q2, q3, q4, q5, q6⟩ := HBX.out we hbwe
  try simp only at q0 q1 q2 q3 q4 q5 q6
  have hC := HC4.out we (HW.out _ hbwe)
  go_wp2_with fail
  refine hC.mono ?_
  rintro e wf ⟨B1, L1, rfl, hr, hl, hf, hbc⟩
  have hbwf := hbwe.trans (hbc.mono hbwe.size)
  have HR1 : Hid (∀ w', Below wf.heap.size wf w' → RowB w' B1 L1) := fun w' hb => hr.below hb
  have HL1 : Hid (L1.length = N) := hl
  have HF1 : Hid (∀ n, factB L1 n = hgtB true (prsS ps) N n) := hf
  clear hr hl hf
  clear hC hbc q0 q1 q2 q3 q4 q5 q6
  obtain ⟨q0, q1, q2, q3, q4, q5, q6⟩ := HBX.out wf hbwf
  try simp only at q0 q1 q2 q3 q4 q5 q6
  have hC := HC5.out wf (HW.out _ hbwf)
  go_wp2_with fail
  refine hC.mono ?_
  rintro e wg ⟨B2, L2, rfl, hr, hl, hf, hbc⟩
  have hbwg := hbwf.trans (hbc.mono hbwf.size)
  have HR1 : Hid (∀ w', Below wg.heap.size wg w' → RowB w' B1 L1) := fun w' hb => HR1.out w' (hbc.trans (hb.mono hbc.size))
  have HR2 : Hid (∀ w', Below wg.heap.size wg w' → RowB w' B2 L2) := fun w' hb => hr.below hb
  have HL2 : Hid (L2.length = ps.length) := hl
  have HF2 : Hid (∀ i, i < ps.length → (factB L2 i = true ↔ keepP N ps (ps.getD i noPd) = true ∧ ∃ h, reachH (wholeP N ps) s h (ps.getD i noPd).left.toNat = true)) := hf
  clear hr hl hf
  clear hC hbc q0 q1 q2 q3 q4 q5 q6
  obtain ⟨q0, q1, q2, q3, q4, q5, q6⟩ := HBX.out wg hbwg
  try simp only at q0 q1 q2 q3 q4 q5 q6
  have hC := HC6.out wg (HW.out _ hbwg)
  go_wp2_with fail
  refine hC.mono ?_
  rintro e wh ⟨B3, L3, rfl, hr, hl, hf, hbc⟩
  have hbwh := hbwg.trans (hbc.mono hbwg.size)
  have HR1 : Hid (∀ w', Below wh.heap.size wh w' → RowB w' B1 L1) := fun w' hb => HR1.out w' (hbc.trans (hb.mono hbc.size))
  have HR2 : Hid (∀ w', Below wh.heap.size wh w' → RowB w' B2 L2) := fun w' hb => HR2.out w' (hbc.trans (hb.mono hbc.size))
  have HR3 : Hid (∀ w', Below wh.heap.size wh w' → RowB w' B3 L3) := fun w' hb => hr.below hb
  have HL3 : Hid (L3.length = N) := hl
  have HF3 : Hid (∀ n, factB L3 n = hgtB false (prsS ps) N n) := hf
  clear hr hl hf
  clear hC hbc q0 q1 q2 q3 q4 q5 q6
  obtain ⟨q0, q1, q2, q3, q4, q5, q6⟩ := HBX.out wh hbwh
  try simp only at q0 q1 q2 q3 q4 q5 q6
  have hC := HC7.out wh (HW.out _ hbwh)
  go_wp2_with fail
  refine hC.mono ?_
  rintro e wi ⟨B4, L4, rfl, hr, hl, hf, hbc⟩
  have hbwi := hbwh.trans (hbc.mono hbwh.size)
  have HR1 : Hid (∀ w', Below wi.heap.size wi w' → RowB w' B1 L1) := fun w' hb => HR1.out w' (hbc.trans (hb.mono hbc.size))
  have HR2 : Hid (∀ w', Below wi.heap.size wi w' → RowB w' B2 L2) := fun w' hb => HR2.out w' (hbc.trans (hb.mono hbc.size))
  have HR3 : Hid (∀ w', Below wi.heap.size wi w' → RowB w' B3 L3) := fun w' hb => HR3.out w' (hbc.trans (hb.mono hbc.size))
  have HR4 : Hid (∀ w', Below wi.heap.size wi w' → RowB w' B4 L4) := fun w' hb => hr.below hb
  have HL4 : Hid (L4.length = N) := hl
  have HF4 : Hid (∀ n, n < N → (factB L4 n = true ↔ loopP N ps n)) := hf
  clear hr hl hf
  clear hC hbc q0 q1 q2 q3 q4 q5 q6
  obtain ⟨q0, q1, q2, q3, q4, q5, q6⟩ := HBX.out wi hbwi
  try simp only at q0 q1 q2 q3 q4 q5 q6
  have hC := HC8.out wi (HW.out _ hbwi)
  go_wp2_with fail
  refine hC.mono ?_
  rintro e wj ⟨v5, L5, rfl, hr, hf, hbc⟩
  have hbwj := hbwi.trans (hbc.mono hbwi.size)
  have HR1 : Hid (∀ w', Below wj.heap.size wj w' → RowB w' B1 L1) := fun w' hb => HR1.out w' (hbc.trans (hb.mono hbc.size))
  have HR2 : Hid (∀ w', Below wj.heap.size wj w' → RowB w' B2 L2) := fun w' hb => HR2.out w' (hbc.trans (hb.mono hbc.size))
  have HR3 : Hid (∀ w', Below wj.heap.size wj w' → RowB w' B3 L3) := fun w' hb => HR3.out w' (hbc.trans (hb.mono hbc.size))
  have HR4 : Hid (∀ w', Below wj.heap.size wj w' → RowB w' B4 L4) := fun w' hb => HR4.out w' (hbc.trans (hb.mono hbc.size))
  have HR5 : Hid (∀ w', Below wj.heap.size wj w' → LssM w' v5 ((List.range N).map fun n => bitsZ (factM L5 n))) := fun w' hb => hr.below hb
  have HF5 : Hid (∀ n, n < N → ∀ i, ((factM L5 n).testBit i = true ↔ fstP N ps n i)) := hf
  clear hr hf
  clear hC hbc q0 q1 q2 q3 q4 q5 q6
  obtain ⟨q0, q1, q2, q3, q4, q5, q6⟩ := HBX.out wj hbwj
  try simp only at q0 q1 q2 q3 q4 q5 q6
  have hC := HC9.out wj (HW.out _ hbwj)
  go_wp2_with fail
  refine hC.mono ?_
  rintro e wk ⟨v6, L6, rfl, hr, hf, hbc⟩
  have hbwk := hbwj.trans (hbc.mono hbwj.size)
  have HR1 : Hid (∀ w', Below wk.heap.size wk w' → RowB w' B1 L1) := fun w' hb => HR1.out w' (hbc.trans (hb.mono hbc.size))
  have HR2 : Hid (∀ w', Below wk.heap.size wk w' → RowB w' B2 L2) := fun w' hb => HR2.out w' (hbc.trans (hb.mono hbc.size))
  have HR3 : Hid (∀ w', Below wk.heap.size wk w' → RowB w' B3 L3) := fun w' hb => HR3.out w' (hbc.trans (hb.mono hbc.size))
  have HR4 : Hid (∀ w', Below wk.heap.size wk w' → RowB w' B4 L4) := fun w' hb => HR4.out w' (hbc.trans (hb.mono hbc.size))
  have HR5 : Hid (∀ w', Below wk.heap.size wk w' → LssM w' v5 ((List.range N).map fun n => bitsZ (factM L5 n))) := fun w' hb => HR5.out w' (hbc.trans (hb.mono hbc.size))
  have HR6 : Hid (∀ w', Below wk.heap.size wk w' → LssM w' v6 ((List.range N).map fun n => bitsZ (factM L6 n))) := fun w' hb => hr.below hb
  have HF6 : Hid (∀ n, n < N → ∀ i, ((factM L6 n).testBit i = true ↔ flwP N T ps s n i)) := hf
  clear hr hf
  clear hC hbc q0 q1 q2 q3 q4 q5 q6
  have HC10c := HC10.out wk (HW.out _ hbwk)
  obtain ⟨q0, q1, q2, q3, q4, q5, q6⟩ := HBX.out wk hbwk
  try simp only at q0 q1 q2 q3 q4 q5 q6
  go_wp2_with fail
  refine HC10c.mono ?_
  rintro e x1 ⟨M, rfl, hr, hl, hf, hbc⟩
  have hbx1 := hbwk.trans (hbc.mono hbwk.size)
  have hkx1 : Below wk.heap.size wk x1 := hbc
  have hsm : L1 = M := bools_same HL1.out hl (fun i _ => by rw [HF1.out i, hf i])
  subst hsm
  have hS := sameBools_any N B1 (wk.heap.size + 1) L1 x1 (by omega) hl (HR1.out x1 (hkx1)) hr
  clear hr hl hf
  clear HC10c hbc q0 q1 q2 q3 q4 q5 q6
  go_wp2_with fail
  refine hS.mono ?_
  rintro e y1 ⟨rfl, hbc⟩
  have hby1 := hbx1.trans (hbc.mono hbx1.size)
  have hky1 := hkx1.trans (hbc.mono hkx1.size)
  clear hS hbc
  have HC11c := HC11.out y1 (HW.out _ hby1)
  obtain ⟨q0, q1, q2, q3, q4, q5, q6⟩ := HBX.out y1 hby1
  try simp only at q0 q1 q2 q3 q4 q5 q6
  go_wp2_with fail
  refine HC11c.mono ?_
  rintro e x2 ⟨C, M, rfl, hr, hl, hf, hbc⟩
  have hbx2 := hby1.trans (hbc.mono hby1.size)
  have hkx2 : Below wk.heap.size wk x2 := hky1.trans (hbc.mono hky1.size)
  have hsm : L2 = M := bools_same HL2.out hl (fun i hi => (HF2.out i hi).trans (hf i hi).symm)
  subst hsm
  have hS := sameBools_any ps.length B2 C L2 x2 (by omega) hl (HR2.out x2 (hkx2)) hr
  clear hr hl hf
  clear HC11c hbc q0 q1 q2 q3 q4 q5 q6
  go_wp2_with fail
  refine hS.mono ?_
  rintro e y2 ⟨rfl, hbc⟩
  have hby2 := hbx2.trans (hbc.mono hbx2.size)
  have hky2 := hkx2.trans (hbc.mono hkx2.size)
  clear hS hbc
  have HC12c := HC12.out y2 (HW.out _ hby2)
  obtain ⟨q0, q1, q2, q3, q4, q5, q6⟩ := HBX.out y2 hby2
  try simp only at q0 q1 q2 q3 q4 q5 q6
  go_wp2_with fail
  refine HC12c.mono ?_
  rintro e x3 ⟨M, rfl, hr, hl, hf, hbc⟩
  have hbx3 := hby2.trans (hbc.mono hby2.size)
  have hkx3 : Below wk.heap.size wk x3 := hky2.trans (hbc.mono hky2.size)
  have hsm : L3 = M := bools_same HL3.out hl (fun i _ => by rw [HF3.out i, hf i])
  subst hsm
  have hS := sameBools_any N B3 (y2.heap.size + 1) L3 x3 (by omega) hl (HR3.out x3 (hkx3)) hr
  clear hr hl hf
  clear HC12c hbc q0 q1 q2 q3 q4 q5 q6
  go_wp2_with fail
  refine hS.mono ?_
  rintro e y3 ⟨rfl, hbc⟩
  have hby3 := hbx3.trans (hbc.mono hbx3.size)
  have hky3 := hkx3.trans (hbc.mono hkx3.size)
  clear hS hbc
  have HC13c := HC13.out y3 (HW.out _ hby3)
  obtain ⟨q0, q1, q2, q3, q4, q5, q6⟩ := HBX.out y3 hby3
  try simp only at q0 q1 q2 q3 q4 q5 q6
  go_wp2_with fail
  refine HC13c.mono ?_
  rintro e x4 ⟨C, M, rfl, hr, hl, hf, hbc⟩
  have hbx4 := hby3.trans (hbc.mono hby3.size)
  have hkx4 : Below wk.heap.size wk x4 := hky3.trans (hbc.mono hky3.size)
  have hsm : L4 = M := bools_same HL4.out hl (fun i hi => (HF4.out i hi).trans (hf i hi).symm)
  subst hsm
  have hS := sameBools_any N B4 C L4 x4 (by omega) hl (HR4.out x4 (hkx4)) hr
  clear hr hl hf
  clear HC13c hbc q0 q1 q2 q3 q4 q5 q6
  go_wp2_with fail
  refine hS.mono ?_
  rintro e y4 ⟨rfl, hbc⟩
  have hby4 := hbx4.trans (hbc.mono hbx4.size)
  have hky4 := hkx4.trans (hbc.mono hkx4.size)
  clear hS hbc
  have HC14c := HC14.out y4 (HW.out _ hby4)
  obtain ⟨q0, q1, q2, q3, q4, q5, q6⟩ := HBX.out y4 hby4
  try simp only at q0 q1 q2 q3 q4 q5 q6
  go_wp2_with fail
  refine HC14c.mono ?_
  rintro e x5 ⟨u, LL, rfl, hr, hl, hf, hbc⟩
  have hbx5 := hby4.trans (hbc.mono hby4.size)
  have hkx5 : Below wk.heap.size wk x5 := hky4.trans (hbc.mono hky4.size)
  have hsm := bits_nums (M := T) (by omega) HF5.out hl hf
  rw [← hsm] at hr
  have hS := sameLists_any v5 u _ x5 (by simp; omega) (fun z hz => by
    obtain ⟨n, _, rfl⟩ := List.mem_map.1 hz
    exact Nat.le_trans (bitsZ_len _) (by omega)) (HR5.out x5 (hkx5)) hr
  clear hr hl hf hsm
  clear HC14c hbc q0 q1 q2 q3 q4 q5 q6
  go_wp2_with fail
  refine hS.mono ?_
  rintro e y5 ⟨rfl, hbc⟩
  have hby5 := hbx5.trans (hbc.mono hbx5.size)
  have hky5 := hkx5.trans (hbc.mono hkx5.size)
  clear hS hbc
  have HC15c := HC15.out y5 (HW.out _ hby5)
  obtain ⟨q0, q1, q2, q3, q4, q5, q6⟩ := HBX.out y5 hby5
  try simp only at q0 q1 q2 q3 q4 q5 q6
  go_wp2_with fail
  refine HC15c.mono ?_
  rintro e x6 ⟨u, LL, rfl, hr, hl, hf, hbc⟩
  have hbx6 := hby5.trans (hbc.mono hby5.size)
  have hkx6 : Below wk.heap.size wk x6 := hky5.trans (hbc.mono hky5.size)
  have hsm := bits_nums (M := (T + 1)) (by omega) HF6.out hl hf
  rw [← hsm] at hr
  have hS := sameLists_any v6 u _ x6 (by simp; omega) (fun z hz => by
    obtain ⟨n, _, rfl⟩ := List.mem_map.1 hz
    exact Nat.le_trans (bitsZ_len _) (by omega)) (HR6.out x6 (hkx6)) hr
  clear hr hl hf hsm
  clear HC15c hbc q0 q1 q2 q3 q4 q5 q6
  go_wp2_with fail
  refine hS.mono ?_
  rintro e y6 ⟨rfl, hbc⟩
  have hby6 := hbx6.trans (hbc.mono hbx6.size)
  have hky6 := hkx6.trans (hbc.mono hkx6.size)
  clear hS hbc
  have hbz := HW.out _ hby6
  go_wp2
  go_ret
  exact ⟨rfl, hbz⟩

end Go.Proofs.YtkdoghaoijdedaaGreatDoor
