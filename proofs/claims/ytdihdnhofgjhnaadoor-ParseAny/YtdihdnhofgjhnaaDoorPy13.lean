/- Texts of the proof, put together: GOkT. -/
import Derived.Test.YtdihdnhofgjhnaaDoorPy12
namespace Go.Proofs.YtdihdnhofgjhnaaDoor
open Go.RowKit
set_option linter.unusedVariables false
set_option maxRecDepth 100000

def symsB (g : Gm) : Bool := decide (0 ≤ g.terms ∧ g.terms ≤ 300 ∧ 1 ≤ g.names ∧ g.names ≤ 300 ∧ 0 ≤ g.start ∧ g.start < g.names)

set_option maxHeartbeats 2000000 in
theorem symbolsHold_any (g : Gm) (pv lv sv : Value) (w : World) :
    Calls Tryd.prog 28 #[gv g pv lv sv] w fun e w' => e = .returned (.bool (symsB g)) ∧ Below w.heap.size w w' := by
  have hB0 := boxG_below w g pv lv sv
  have hB2 := boxG_box w g pv lv sv
  have HN : Hid (∀ w', Calls Tryd.prog 44 #[gv g pv lv sv, .int .i64 g.start] w' fun e w'' => e = .returned (.bool (decide (0 ≤ g.start) && decide (g.start < g.names))) ∧ Below w'.heap.size w' w'') := fun w' => isName_any g pv lv sv _ w'
  generalize hR : symsB g = R at *
  have HR : Hid (symsB g = R) := hR
  clear hR
  unfold symsB at HR
  obtain ⟨q0, q1, q2, q3, q4, q5, q6⟩ := hB2
  obtain ⟨t, nm, s, ps, ls, ss⟩ := g
  unfold boxG at *
  unfold gv gvs at *
  simp only at *
  by_cases h1 : t ≥ 0
  case neg =>
    have d1 : decide (t ≥ 0) = false := decide_eq_false h1
    have HZ : Hid (R = false) := by show _ = _; rw [← HR.out]; exact decide_eq_false (by omega)
    clear HR h1
    go_enter Tryd.func28, Tryd.ntmps28
    go_wp2
    go_ret
    exact ⟨by rw [HZ.out]; rfl, hB0⟩
  have d1 : decide (t ≥ 0) = true := decide_eq_true h1
  by_cases h2 : t ≤ 300
  case neg =>
    have d2 : decide (t ≤ 300) = false := decide_eq_false h2
    have HZ : Hid (R = false) := by show _ = _; rw [← HR.out]; exact decide_eq_false (by omega)
    clear HR h1 h2
    go_enter Tryd.func28, Tryd.ntmps28
    go_wp2
    go_ret
    exact ⟨by rw [HZ.out]; rfl, hB0⟩
  have d2 : decide (t ≤ 300) = true := decide_eq_true h2
  by_cases h3 : nm ≥ 1
  case neg =>
    have d3 : decide (nm ≥ 1) = false := decide_eq_false h3
    have HZ : Hid (R = false) := by show _ = _; rw [← HR.out]; exact decide_eq_false (by omega)
    clear HR h1 h2 h3
    go_enter Tryd.func28, Tryd.ntmps28
    go_wp2
    go_ret
    exact ⟨by rw [HZ.out]; rfl, hB0⟩
  have d3 : decide (nm ≥ 1) = true := decide_eq_true h3
  by_cases h4 : nm ≤ 300
  case neg =>
    have d4 : decide (nm ≤ 300) = false := decide_eq_false h4
    have HZ : Hid (R = false) := by show _ = _; rw [← HR.out]; exact decide_eq_false (by omega)
    clear HR h1 h2 h3 h4
    go_enter Tryd.func28, Tryd.ntmps28
    go_wp2
    go_ret
    exact ⟨by rw [HZ.out]; rfl, hB0⟩
  have d4 : decide (nm ≤ 300) = true := decide_eq_true h4
  have HZ : Hid (R = (decide (0 ≤ s) && decide (s < nm))) := by
    show _ = _
    rw [← HR.out, Bool.eq_iff_iff]
    simp
    omega
  generalize (decide (0 ≤ s) && decide (s < nm)) = bb at *
  clear HR h1 h2 h3 h4
  go_enter Tryd.func28, Tryd.ntmps28
  go_wp2_with fail
  refine (HN.out _).mono ?_
  rintro e w1 ⟨rfl, hb⟩
  have hb2 := hB0.trans (hb.mono hB0.size)
  clear hb
  go_wp2
  go_ret
  exact ⟨by rw [HZ.out]; rfl, hb2⟩

def levsB (g : Gm) : Bool := decide (g.sides.length ≤ 50 ∧ (g.levels.length = 0 ∨ (g.levels.length : Int) = g.terms)) && (g.sides.all sideB && g.levels.all (lvlB g.sides.length))
def prdsB (g : Gm) : Bool := decide (g.prods.length ≤ 400) && g.prods.all (pdB g.terms g.names g.sides.length)
theorem gOkB_eq (g : Gm) : gOkB g = (symsB g && (levsB g && prdsB g)) := by
  unfold gOkB symsB levsB prdsB
  rw [Bool.eq_iff_iff]
  simp only [Bool.and_eq_true, decide_eq_true_eq]
  unfold HeadG
  constructor
  · rintro ⟨⟨a, b, c, d, e, f, g, h, i⟩, j, k, l⟩
    exact ⟨⟨a, b, c, d, e, f⟩, ⟨⟨h, i⟩, j, k⟩, g, l⟩
  · rintro ⟨⟨a, b, c, d, e, f⟩, ⟨⟨h, i⟩, j, k⟩, g, l⟩
    exact ⟨⟨a, b, c, d, e, f, g, h, i⟩, j, k, l⟩

set_option maxHeartbeats 2000000 in
theorem pok_any (g : Gm) (pv lv sv : Value) (w : World) (h : GrM w g pv lv sv) (hwf : WfG g) :
    Calls Tryd.prog 18 #[gv g pv lv sv] w fun e w' => e = .returned (.bool (gOkB g)) ∧ Below w.heap.size w w' := by
  have hB0 := boxG_below w g pv lv sv
  have hB2 := boxG_box w g pv lv sv
  have H1 : Hid (∀ w', Calls Tryd.prog 28 #[gv g pv lv sv] w' fun e w'' => e = .returned (.bool (symsB g)) ∧ Below w'.heap.size w' w'') := fun w' => symbolsHold_any g pv lv sv w'
  have H2 : Hid (∀ w', symsB g = true → Below w.heap.size w w' → Calls Tryd.prog 29 #[gv g pv lv sv] w' fun e w'' => e = .returned (.bool (levsB g)) ∧ Below w'.heap.size w' w'') := fun w' hs hb => levelsHold_any g pv lv sv w' (h.below hb) (by unfold symsB at hs; simp at hs; omega)
  have H3 : Hid (∀ w', symsB g = true → Below w.heap.size w w' → Calls Tryd.prog 30 #[gv g pv lv sv] w' fun e w'' => e = .returned (.bool (prdsB g)) ∧ Below w'.heap.size w' w'') := fun w' hs hb => prodsHold_any g pv lv sv w' (h.below hb) hwf (by unfold symsB at hs; simp at hs; omega) (by unfold symsB at hs; simp at hs; omega)
  rw [gOkB_eq]
  have HBX : Hid (BoxG (boxG w g pv lv sv) w.heap.size g pv lv sv) := hB2
  clear h hwf hB2
  generalize symsB g = b1 at *
  generalize levsB g = b2 at *
  generalize prdsB g = b3 at *
  unfold boxG at *
  unfold gv gvs at *
  obtain ⟨q0, q1, q2, q3, q4, q5, q6⟩ := HBX.out
  obtain ⟨t, nm, s, ps, ls, ss⟩ := g
  simp only at *
  go_enter Tryd.func18, Tryd.ntmps18
  go_wp2_with fail
  refine (H1.out _).mono ?_
  rintro e w1 ⟨rfl, hb1⟩
  have hW1 := hB0.trans (hb1.mono hB0.size)
  have HB1 : Hid (BoxG w1 w.heap.size ⟨t, nm, s, ps, ls, ss⟩ pv lv sv) := HBX.out.below HBX.out.lt hb1
  clear q0 q1 q2 q3 q4 q5 q6 hb1
  obtain ⟨q0, q1, q2, q3, q4, q5, q6⟩ := HB1.out
  simp only at q0 q1 q2 q3 q4 q5 q6
  cases b1 with
  | false =>
    go_wp2
    go_ret
    exact ⟨rfl, hW1⟩
  | true =>
    go_wp2_with fail
    refine (H2.out _ trivial hW1).mono ?_
    rintro e w2 ⟨rfl, hb2⟩
    have hW2 := hW1.trans (hb2.mono hW1.size)
    have HB2 : Hid (BoxG w2 w.heap.size ⟨t, nm, s, ps, ls, ss⟩ pv lv sv) := HB1.out.below HB1.out.lt hb2
    clear q0 q1 q2 q3 q4 q5 q6 hb2
    obtain ⟨q0, q1, q2, q3, q4, q5, q6⟩ := HB2.out
    simp only at q0 q1 q2 q3 q4 q5 q6
    cases b2 with
    | false =>
      go_wp2
      go_ret
      exact ⟨rfl, hW2⟩
    | true =>
      go_wp2_with fail
      refine (H3.out _ trivial hW2).mono ?_
      rintro e w3 ⟨rfl, hb3⟩
      have hW3 := hW2.trans (hb3.mono hW2.size)
      go_wp2
      go_ret
      exact ⟨rfl, hW3⟩

/-- symbols of a grammar of so many names -/
def SymsL (N : Nat) (r : List Int) : Prop := r.length ≤ 20 ∧ ∀ j, j < r.length → -(N : Int) ≤ r.getD j 0 ∧ I64 (r.getD j 0)
end Go.Proofs.YtdihdnhofgjhnaaDoor
