/- Texts of the proof, put together: GOkQ. -/
import Derived.Test.YtdihdnhofgjhnaaDoorPy10
import Derived.Shelf.Abstract
namespace Go.Proofs.YtdihdnhofgjhnaaDoor
open Go.RowKit
set_option linter.unusedVariables false
set_option maxRecDepth 100000

set_option maxHeartbeats 1000000 in
theorem levelsC_any (g : Gm) (pv lv : Value) (sa : Option Addr) (m sc B : Nat) (x : Int) (w : World) (hbx : BoxG w B g pv lv (.slice sa m sc)) :
    Calls Tryd.prog 46 #[.int .i64 x, .pointer (some ⟨B, 0, none⟩)] w fun e w' => e = .returned (.bool (!lvlB m x)) ∧ Below w.heap.size w w' := by
  obtain ⟨q0, q1, q2, q3, q4, q5, q6⟩ := hbx
  have HL : Hid (Calls Tryd.prog 47 #[gv g pv lv (.slice sa m sc), .int .i64 x] w fun e w' => e = .returned (.bool (lvlB m x)) ∧ Below w.heap.size w w') := isLevel_any g pv lv sa m sc x w
  unfold gv gvs at HL
  obtain ⟨t, nm, s, ps, ls, ss⟩ := g
  simp only at *
  generalize lvlB m x = bb at *
  go_enter Tryd.func46, Tryd.ntmps46
  go_wp2_with fail
  refine HL.out.mono ?_
  rintro e w1 ⟨rfl, hb⟩
  go_wp2
  go_ret
  exact ⟨rfl, hb⟩

set_option maxHeartbeats 1000000 in
theorem prodC_any (g : Gm) (pv lv sv : Value) (B : Nat) (x : Int) (hx : I64 x) (ht : 0 ≤ g.terms) (hn : 0 ≤ g.names) (w : World) (hbx : BoxG w B g pv lv sv) :
    Calls Tryd.prog 60 #[.int .i64 x, .pointer (some ⟨B, 0, none⟩)] w fun e w' => e = .returned (.bool (!symB g.terms g.names x)) ∧ Below w.heap.size w w' := by
  obtain ⟨q0, q1, q2, q3, q4, q5, q6⟩ := hbx
  have HL : Hid (Calls Tryd.prog 61 #[gv g pv lv sv, .int .i64 x] w fun e w' => e = .returned (.bool (symB g.terms g.names x)) ∧ Below w.heap.size w w') := isSymbol_any g pv lv sv x hx ht hn w
  unfold gv gvs at HL
  obtain ⟨t, nm, s, ps, ls, ss⟩ := g
  simp only at *
  clear hx ht hn
  generalize symB t nm x = bb at *
  go_enter Tryd.func60, Tryd.ntmps60
  go_wp2_with fail
  refine HL.out.mono ?_
  rintro e w1 ⟨rfl, hb⟩
  go_wp2
  go_ret
  exact ⟨rfl, hb⟩

/-- a production's values -/
def pdv (p : PdR) (rv : Value) : Value := .agg #[.int .i64 p.left, rv, .int .i64 p.level]
theorem not_any_not (l : List Int) (f : Int → Bool) : (!l.any fun x => !f x) = l.all f := by
  induction l with
  | nil => rfl
  | cons x l ih => simp only [List.any_cons, List.all_cons, Bool.not_or, Bool.not_not, ih]

set_option maxHeartbeats 2000000 in
theorem prodHolds_any (g : Gm) (pv lv : Value) (sa : Option Addr) (m sc : Nat) (p : PdR) (rv : Value) (hx : ∀ x ∈ p.right, I64 x) (ht : 0 ≤ g.terms) (hn : 0 ≤ g.names) (w : World) (hr : IntsR w rv p.right) :
    Calls Tryd.prog 50 #[gv g pv lv (.slice sa m sc), pdv p rv] w fun e w' => e = .returned (.bool (pdB g.terms g.names m p)) ∧ Below w.heap.size w w' := by
  have hen : ∀ args w, (callFunc 60 args).run Tryd.prog w = .ok (.enter 60 args) w := enters_of Tryd.func60 (by kernel_rfl) rfl
  have hmf : ∀ (fn : Fn) (first cap : Array Value) (w : World), (Instr.makeFunc fn first cap).run Tryd.prog w = .ok (.func fn first cap) w := fun _ _ _ _ => rfl
  have hB0 := boxG_below w g pv lv (.slice sa m sc)
  have hB2 := boxG_box w g pv lv (.slice sa m sc)
  have hP0 := alloc_below (boxG w g pv lv (.slice sa m sc)) (.cells #[.int .i64 p.left, rv, .int .i64 p.level] 49)
  have hP1 := box3_cells (boxG w g pv lv (.slice sa m sc)) (.int .i64 p.left) rv (.int .i64 p.level) 49
  have hP2 := alloc_size (boxG w g pv lv (.slice sa m sc)) (.cells #[.int .i64 p.left, rv, .int .i64 p.level] 49)
  have hB1 := boxG_size w g pv lv (.slice sa m sc)
  have hBX := hB2.below hB2.lt hP0
  have hW := hB0.trans (hP0.mono (by omega))
  have HR : Hid (IntsR ((boxG w g pv lv (.slice sa m sc)).alloc (.cells #[.int .i64 p.left, rv, .int .i64 p.level] 49)) rv p.right) := hr.below hW
  obtain ⟨ra, rc, rfl⟩ := hr.slice
  clear hr hP0 hB2
  have HN : Hid (∀ w', Calls Tryd.prog 44 #[gv g pv lv (.slice sa m sc), .int .i64 p.left] w' fun e w'' => e = .returned (.bool (decide (0 ≤ p.left) && decide (p.left < g.names))) ∧ Below w'.heap.size w' w'') := fun w' => isName_any g pv lv _ _ w'
  have HL : Hid (∀ w', Calls Tryd.prog 47 #[gv g pv lv (.slice sa m sc), .int .i64 p.level] w' fun e w'' => e = .returned (.bool (lvlB m p.level)) ∧ Below w'.heap.size w' w'') := fun w' => isLevel_any g pv lv sa m sc _ w'
  have HC : Hid (∀ w', BoxG w' w.heap.size g pv lv (.slice sa m sc) → IntsR w' (.slice ra p.right.length rc) p.right → p.right.length ≤ 20 → Calls Tryd.prog 45 #[.slice ra p.right.length rc, .func (.func 60) #[] #[.pointer (some ⟨w.heap.size, 0, none⟩)]] w' fun e w'' => e = .returned (.bool (p.right.any fun x => !symB g.terms g.names x)) ∧ Below w'.heap.size w' w'') := fun w' hb hi hl =>
    containsI_any 60 hen _ _ (fun x => !symB g.terms g.names x) p.right w' (by omega) hi (fun w2 x hxm hb2 => prodC_any g pv lv _ _ x (hx x hxm) ht hn w2 (hb.below hb.lt hb2))
  have HE : Hid (pdB g.terms g.names m p = ((decide (0 ≤ p.left) && decide (p.left < g.names)) && (decide (p.right.length ≤ 20) && (lvlB m p.level && !(p.right.any fun x => !symB g.terms g.names x))))) := by
    show _ = _
    rw [not_any_not]
    unfold pdB lvlB
    cases decide (0 ≤ p.left) <;> cases decide (p.left < g.names) <;> cases decide (0 ≤ p.level) <;> cases decide (p.level ≤ (m : Int)) <;> cases decide (p.right.length ≤ 20) <;> rfl
  rw [HE.out]
  clear HE hx ht hn hen
  generalize (decide (0 ≤ p.left) && decide (p.left < g.names)) = b1 at *
  generalize lvlB m p.level = b2 at *
  generalize (p.right.any fun x => !symB g.terms g.names x) = b3 at *
  generalize hb4 : decide (p.right.length ≤ 20) = b4 at *
  have HB4 : Hid (decide (p.right.length ≤ 20) = b4) := hb4
  clear hb4
  obtain ⟨p0, p1, p2⟩ := hP1
  rw [hB1] at p0 p1 p2 hP2
  clear hB1
  have HBX : Hid (BoxG ((boxG w g pv lv (.slice sa m sc)).alloc (.cells #[.int .i64 p.left, .slice ra p.right.length rc, .int .i64 p.level] 49)) w.heap.size g pv lv (.slice sa m sc)) := hBX
  clear hBX
  obtain ⟨left, right, level⟩ := p
  obtain ⟨t, nm, s, ps, ls, ss⟩ := g
  unfold boxG at *
  unfold pdv
  unfold gv gvs at *
  simp only at *
  go_enter Tryd.func50, Tryd.ntmps50
  go_wp2_with fail
  generalize hw0 : (w.alloc (.cells #[.int .i64 t, .int .i64 nm, .int .i64 s, pv, lv, .slice sa m sc] 25)).alloc (.cells #[.int .i64 left, .slice ra right.length rc, .int .i64 level] 49) = w0 at *
  have HW0 : Hid ((w.alloc (.cells #[.int .i64 t, .int .i64 nm, .int .i64 s, pv, lv, .slice sa m sc] 25)).alloc (.cells #[.int .i64 left, .slice ra right.length rc, .int .i64 level] 49) = w0) := hw0
  clear hw0
  have hPl : w.heap.size + 1 < w0.heap.size := by omega
  have HP2 : Hid (w0.heap.size = w.heap.size + 1 + 1) := hP2
  clear hP2 hB0
  refine (HN.out _).mono ?_
  rintro e w1 ⟨rfl, hb1⟩
  have hW1 := hW.trans (hb1.mono hW.size)
  have hl1 : w.heap.size + 1 < w1.heap.size := Nat.lt_of_lt_of_le hPl hb1.size
  have a0 := (hb1.cell (p := ⟨w.heap.size + 1, 0, none⟩) hPl).trans p0
  have a1 := (hb1.cell (p := ⟨w.heap.size + 1, 1, none⟩) hPl).trans p1
  have a2 := (hb1.cell (p := ⟨w.heap.size + 1, 2, none⟩) hPl).trans p2
  have HB1 : Hid (BoxG w1 w.heap.size ⟨t, nm, s, ps, ls, ss⟩ pv lv (.slice sa m sc)) := HBX.out.below HBX.out.lt hb1
  obtain ⟨q0, q1, q2, q3, q4, q5, q6⟩ := HB1.out
  simp only at q0 q1 q2 q3 q4 q5 q6
  have HR1 : Hid (IntsR w1 (.slice ra right.length rc) right) := HR.out.below hb1
  cases b1 with
  | false =>
    go_wp2
    go_ret
    exact ⟨rfl, hW1⟩
  | true =>
    by_cases hlen : (right.length : Int) > 20
    · have HF4 : Hid (b4 = false) := by show _ = _; rw [← HB4.out]; exact decide_eq_false (by omega)
      go_wp2
      go_ret
      exact ⟨by rw [HF4.out]; rfl, hW1⟩
    · have HF4 : Hid (b4 = true) := by show _ = _; rw [← HB4.out]; exact decide_eq_true (by omega)
      have hl3 : right.length ≤ 20 := by omega
      have dl : decide ((right.length : Int) > 20) = false := decide_eq_false hlen
      clear hlen
      go_wp2_with fail
      refine (HL.out _).mono ?_
      rintro e w2 ⟨rfl, hb2⟩
      have hW2 := hW1.trans (hb2.mono hW1.size)
      have a0' := (hb2.cell (p := ⟨w.heap.size + 1, 0, none⟩) hl1).trans a0
      have a1' := (hb2.cell (p := ⟨w.heap.size + 1, 1, none⟩) hl1).trans a1
      have a2' := (hb2.cell (p := ⟨w.heap.size + 1, 2, none⟩) hl1).trans a2
      have hl2' : w.heap.size + 1 < w2.heap.size := Nat.lt_of_lt_of_le hl1 hb2.size
      have HB2 : Hid (BoxG w2 w.heap.size ⟨t, nm, s, ps, ls, ss⟩ pv lv (.slice sa m sc)) := HB1.out.below HB1.out.lt hb2
      have HR2 : Hid (IntsR w2 (.slice ra right.length rc) right) := HR1.out.below hb2
      clear q0 q1 q2 q3 q4 q5 q6 a0 a1 a2 p0 p1 p2
      obtain ⟨q0, q1, q2, q3, q4, q5, q6⟩ := HB2.out
      simp only at q0 q1 q2 q3 q4 q5 q6
      cases b2 with
      | false =>
        go_wp2
        go_ret
        exact ⟨by rw [HF4.out]; rfl, hW2⟩
      | true =>
        go_wp2_with fail
        refine (HC.out _ HB2.out HR2.out hl3).mono ?_
        rintro e w3 ⟨rfl, hb3⟩
        have hW3 := hW2.trans (hb3.mono hW2.size)
        go_wp2
        go_ret
        exact ⟨by rw [HF4.out]; rfl, hW3⟩

end Go.Proofs.YtdihdnhofgjhnaaDoor
