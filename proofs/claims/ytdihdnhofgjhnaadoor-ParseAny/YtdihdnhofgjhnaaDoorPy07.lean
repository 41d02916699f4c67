/- Texts of the proof, put together: GOkR. -/
import Derived.Test.YtdihdnhofgjhnaaDoorPy05
namespace Go.Proofs.YtdihdnhofgjhnaaDoor
open Go.RowKit
set_option linter.unusedVariables false
set_option maxRecDepth 100000

def sideB (x : Int) : Bool := decide (1 ≤ x) && decide (x ≤ 3)
def lvlB (m : Nat) (x : Int) : Bool := decide (0 ≤ x) && decide (x ≤ m)
def symB (t n : Int) (s : Int) : Bool := decide (s < t) && decide (-n ≤ s)
def pdB (t n : Int) (m : Nat) (p : PdR) : Bool := (decide (0 ≤ p.left) && decide (p.left < n) && decide (0 ≤ p.level) && decide (p.level ≤ m) && decide (p.right.length ≤ 20)) && p.right.all (symB t n)
abbrev HeadG (g : Gm) : Prop := 0 ≤ g.terms ∧ g.terms ≤ 300 ∧ 1 ≤ g.names ∧ g.names ≤ 300 ∧ 0 ≤ g.start ∧ g.start < g.names ∧ g.prods.length ≤ 400 ∧ g.sides.length ≤ 50 ∧ (g.levels.length = 0 ∨ (g.levels.length : Int) = g.terms)
def gOkB (g : Gm) : Bool := decide (HeadG g) && (g.sides.all sideB && (g.levels.all (lvlB g.sides.length) && g.prods.all (pdB g.terms g.names g.sides.length)))

set_option maxHeartbeats 2000000 in
theorem gok_head (g : Gm) (pv lv sv : Value) (w : World) (h : GrM w g pv lv sv) (hbad : ¬ HeadG g) :
    Calls Tryd.prog 16 #[gv g pv lv sv] w fun e w' => e = .returned (.bool false) ∧ Below w.heap.size w w' := by
  have hB0 := boxG_below w g pv lv sv
  have hB1 := boxG_size w g pv lv sv
  have hB2 := boxG_box w g pv lv sv
  obtain ⟨hp, hl, hs⟩ := h
  obtain ⟨pa, pc, rfl⟩ := hp.slice
  obtain ⟨la, lc, rfl⟩ := hl.slice
  obtain ⟨sa, sc, rfl⟩ := hs.slice
  clear hp hl hs
  obtain ⟨t, n, s, ps, ls, ss⟩ := g
  unfold boxG gvs at hB0 hB1 hB2
  unfold HeadG at hbad
  simp only at *
  unfold gv gvs
  simp only
  clear hB1 hB2
  by_cases h0 : t < 0
  · clear hbad
    go_enter Tryd.func16, Tryd.ntmps16
    go_wp2
    go_ret
    exact ⟨rfl, hB0⟩
  have d0 : decide (t < 0) = false := decide_eq_false (by omega)
  by_cases h1 : t > 300
  · clear hbad
    go_enter Tryd.func16, Tryd.ntmps16
    go_wp2
    go_ret
    exact ⟨rfl, hB0⟩
  have d1 : decide (t > 300) = false := decide_eq_false (by omega)
  by_cases h2 : n < 1
  · clear hbad
    go_enter Tryd.func16, Tryd.ntmps16
    go_wp2
    go_ret
    exact ⟨rfl, hB0⟩
  have d2 : decide (n < 1) = false := decide_eq_false (by omega)
  by_cases h3 : n > 300
  · clear hbad
    go_enter Tryd.func16, Tryd.ntmps16
    go_wp2
    go_ret
    exact ⟨rfl, hB0⟩
  have d3 : decide (n > 300) = false := decide_eq_false (by omega)
  by_cases h4 : s < 0
  · clear hbad
    go_enter Tryd.func16, Tryd.ntmps16
    go_wp2
    go_ret
    exact ⟨rfl, hB0⟩
  have d4 : decide (s < 0) = false := decide_eq_false (by omega)
  by_cases h5 : s ≥ n
  · clear hbad
    go_enter Tryd.func16, Tryd.ntmps16
    go_wp2
    go_ret
    exact ⟨rfl, hB0⟩
  have d5 : decide (s ≥ n) = false := decide_eq_false (by omega)
  by_cases h6 : (ps.length : Int) > 400
  · clear hbad
    go_enter Tryd.func16, Tryd.ntmps16
    go_wp2
    go_ret
    exact ⟨rfl, hB0⟩
  have d6 : decide ((ps.length : Int) > 400) = false := decide_eq_false (by omega)
  by_cases h7 : (ss.length : Int) > 50
  · clear hbad
    go_enter Tryd.func16, Tryd.ntmps16
    go_wp2
    go_ret
    exact ⟨rfl, hB0⟩
  have d7 : decide ((ss.length : Int) > 50) = false := decide_eq_false (by omega)
  have d8 : 0 < ls.length := by omega
  have d9 : ((ls.length : Int) != t) = true := by rw [bne_iff_ne]; omega
  clear hbad h0 h1 h2 h3 h4 h5 h6 h7
  go_enter Tryd.func16, Tryd.ntmps16
  go_wp2
  go_ret
  exact ⟨rfl, hB0⟩

set_option maxHeartbeats 8000000 in
theorem gok_body (g : Gm) (pv lv sv : Value) (w : World) (h : GrM w g pv lv sv) (hgood : HeadG g) :
    Calls Tryd.prog 16 #[gv g pv lv sv] w fun e w' => e = .returned (.bool (gOkB g)) ∧ Below w.heap.size w w' := by
  have hB0 := boxG_below w g pv lv sv
  have hB1 := boxG_size w g pv lv sv
  have hB2 := boxG_box w g pv lv sv
  obtain ⟨hp, hl, hs⟩ := h
  obtain ⟨pa, pc, rfl⟩ := hp.slice
  obtain ⟨la, lc, rfl⟩ := hl.slice
  obtain ⟨sa, sc, rfl⟩ := hs.slice
  have HP : Hid (PdsM w (.slice pa g.prods.length pc) g.prods) := hp
  have HL : Hid (IntsR w (.slice la g.levels.length lc) g.levels) := hl
  have HS : Hid (IntsR w (.slice sa g.sides.length sc) g.sides) := hs
  clear hp hl hs
  have HR : Hid (gOkB g = (g.sides.all sideB && (g.levels.all (lvlB g.sides.length) && g.prods.all (pdB g.terms g.names g.sides.length)))) := by
    show _ = _; unfold gOkB; rw [decide_eq_true hgood, Bool.true_and]
  generalize gOkB g = R at *
  obtain ⟨t, n, s, ps, ls, ss⟩ := g
  unfold boxG gvs at hB0 hB1 hB2
  unfold HeadG at hgood
  simp only at *
  unfold gv gvs
  simp only
  obtain ⟨h0, h1, h2, h3, h4, h5, h6, h7, h8⟩ := hgood
  have d0 : decide (t < 0) = false := decide_eq_false (by omega)
  have d1 : decide (t > 300) = false := decide_eq_false (by omega)
  have d2 : decide (n < 1) = false := decide_eq_false (by omega)
  have d3 : decide (n > 300) = false := decide_eq_false (by omega)
  have d4 : decide (s < 0) = false := decide_eq_false (by omega)
  have d5 : decide (s ≥ n) = false := decide_eq_false (by omega)
  have d6 : decide ((ps.length : Int) > 400) = false := decide_eq_false (by omega)
  have d7 : decide ((ss.length : Int) > 50) = false := decide_eq_false (by omega)
  have d8 : (¬ 0 < ls.length) ∨ (0 < ls.length ∧ ((ls.length : Int) != t) = false) := by
    by_cases hz : ls.length = 0
    · exact .inl (by omega)
    · exact .inr ⟨by omega, by rw [bne_eq_false_iff_eq]; omega⟩
  have hls : ls.length ≤ 300 := by omega
  clear h4 h5 h8
  have HX : Hid (0 ≤ t ∧ t ≤ 300 ∧ 1 ≤ n ∧ n ≤ 300 ∧ ps.length ≤ 400 ∧ ss.length ≤ 50 ∧ ls.length ≤ 300) := ⟨h0, h1, h2, h3, h6, h7, hls⟩
  clear h0 h1 h2 h3 h6 h7 hls
  rcases d8 with d8 | ⟨d8, d9⟩
  all_goals
    go_enter Tryd.func16, Tryd.ntmps16
    go_wp2
    obtain ⟨h0, h1, h2, h3, h6, h7, hls⟩ := HX.out
    generalize hw0 : w.alloc (.cells #[.int .i64 t, .int .i64 n, .int .i64 s, .slice pa ps.length pc, .slice la ls.length lc, .slice sa ss.length sc] 25) = w0 at *
    have HW0 : Hid (w.alloc (.cells #[.int .i64 t, .int .i64 n, .int .i64 s, .slice pa ps.length pc, .slice la ls.length lc, .slice sa ss.length sc] 25) = w0) := hw0
    clear hw0
    have HBX : Hid (BoxG w0 w.heap.size ⟨t, n, s, ps, ls, ss⟩ (.slice pa ps.length pc) (.slice la ls.length lc) (.slice sa ss.length sc)) := hB2
    clear hB2
    clear d0 d1 d2 d3 d4 d5 d6 d7 d8
    go_loopw [3] (fun i wr => ∃ k : Nat, k ≤ ss.length ∧ i = .int .i64 k ∧ Hid (ss.all sideB = (ss.drop k).all sideB) ∧ Below (w.heap.size + 1) w0 wr) (fun i _ => ss.length - (intOf i).toNat)
    case atStart => exact ⟨0, Nat.zero_le _, rfl, (by show _ = _; rw [List.drop_zero]), Below.refl _ _⟩
    case round =>
      obtain ⟨k, hk, rfl, HM, hbw⟩ := hrel
      have hbx := hB0.trans (hbw.mono (Nat.le_succ _))
      obtain ⟨q0, q1, q2, q3, q4, q5, q6⟩ := HBX.out.below (Nat.lt_succ_self _) hbw
      simp only at *
      by_cases hlt : k < ss.length
      · obtain ⟨b, off, rfl, hb, hc⟩ := (HS.out.below hbx).at hlt
        have HA : Hid _ := all_dropG ss 0 sideB k hlt
        generalize ss.getD k 0 = x at *
        by_cases g1 : x < 1
        · have HZ : Hid (R = false) := by
            show _ = _; rw [HR.out, HM.out, HA.out, show sideB x = false by unfold sideB; rw [decide_eq_false (by omega)]; rfl]; rfl
          go_wp2
          go_ret
          exact ⟨by rw [HZ.out]; rfl, hbx⟩
        · have e1 : decide (x < 1) = false := decide_eq_false g1
          by_cases g2 : x > 3
          · have HZ : Hid (R = false) := by
              show _ = _; rw [HR.out, HM.out, HA.out, show sideB x = false by unfold sideB; rw [decide_eq_false (p := x ≤ 3) (by omega), Bool.and_false]]; rfl
            go_wp2
            go_ret
            exact ⟨by rw [HZ.out]; rfl, hbx⟩
          · have e2 : decide (x > 3) = false := decide_eq_false g2
            have HZ : Hid (ss.all sideB = (ss.drop (k + 1)).all sideB) := by
              show _ = _; rw [HM.out, HA.out, show sideB x = true by unfold sideB; rw [decide_eq_true (by omega), decide_eq_true (by omega)]; rfl, Bool.true_and]
            clear g1 g2
            go_wp2
            go_roundw
            case rel => exact ⟨k + 1, by omega, by go_num, HZ, hbw⟩
            case measure => simp [intOf]; omega
      · have HR2 : Hid (R = (ls.all (lvlB ss.length) && ps.all (pdB t n ss.length))) := by
          show _ = _; rw [HR.out, HM.out, List.drop_eq_nil_of_le (by omega)]; rfl
        clear HM
        go_wp2
        clear q0 q1 q2 q3 q4 q5 q6
        rename World => w1
        have hbw1 := hbw
        clear hbw hbx
        go_loopw [4] (fun i wr => ∃ k : Nat, k ≤ ls.length ∧ i = .int .i64 k ∧ Hid (ls.all (lvlB ss.length) = (ls.drop k).all (lvlB ss.length)) ∧ Below (w.heap.size + 1) w0 wr) (fun i _ => ls.length - (intOf i).toNat)
        case atStart => exact ⟨0, Nat.zero_le _, rfl, (by show _ = _; rw [List.drop_zero]), hbw1⟩
        case round =>
          obtain ⟨j, hj, rfl, HM, hbw⟩ := hrel
          have hbx := hB0.trans (hbw.mono (Nat.le_succ _))
          obtain ⟨q0, q1, q2, q3, q4, q5, q6⟩ := HBX.out.below (Nat.lt_succ_self _) hbw
          simp only at *
          by_cases hlt : j < ls.length
          · obtain ⟨b, off, rfl, hb, hc⟩ := (HL.out.below hbx).at hlt
            have HA : Hid _ := all_dropG ls 0 (lvlB ss.length) j hlt
            generalize ls.getD j 0 = x at *
            by_cases g1 : x < 0
            · have e1 : decide (x < 0) = true := decide_eq_true g1
              have HZ : Hid (R = false) := by
                show _ = _; rw [HR2.out, HM.out, HA.out, show lvlB ss.length x = false by unfold lvlB; rw [decide_eq_false (by omega)]; rfl]; rfl
              go_wp2_with fail
              go_quiet (fail)
              go_wp2
              go_ret
              exact ⟨by rw [HZ.out]; rfl, below_drewG hbx _⟩
            · have e1 : decide (x < 0) = false := decide_eq_false g1
              by_cases g2 : x > (ss.length : Int)
              · have e2 : decide (x > (ss.length : Int)) = true := decide_eq_true g2
                have HZ : Hid (R = false) := by
                  show _ = _; rw [HR2.out, HM.out, HA.out, show lvlB ss.length x = false by unfold lvlB; rw [decide_eq_false (p := x ≤ (ss.length : Int)) (by omega), Bool.and_false]]; rfl
                clear g1 g2
                go_wp2_with fail
                go_quiet (fail)
                go_wp2
                go_ret
                exact ⟨by rw [HZ.out]; rfl, below_drewG hbx _⟩
              · have e2 : decide (x > (ss.length : Int)) = false := decide_eq_false g2
                have HZ : Hid (ls.all (lvlB ss.length) = (ls.drop (j + 1)).all (lvlB ss.length)) := by
                  show _ = _; rw [HM.out, HA.out, show lvlB ss.length x = true by unfold lvlB; rw [decide_eq_true (by omega), decide_eq_true (by omega)]; rfl, Bool.true_and]
                clear g1 g2
                go_wp2_with fail
                go_quiet (fail)
                go_wp2
                go_roundw
                case rel => exact ⟨j + 1, by omega, by go_num, HZ, below_drewG hbw _⟩
                case measure => simp [intOf]; omega
          · have HR3 : Hid (R = ps.all (pdB t n ss.length)) := by
              show _ = _; rw [HR2.out, HM.out, List.drop_eq_nil_of_le (by omega)]; rfl
            clear HM
            go_wp2
            clear q0 q1 q2 q3 q4 q5 q6
            rename World => w2
            have hbw2 := hbw
            clear hbw hbx
            go_loopw [5] (fun i wr => ∃ k : Nat, k ≤ ps.length ∧ i = .int .i64 k ∧ Hid (ps.all (pdB t n ss.length) = (ps.drop k).all (pdB t n ss.length)) ∧ Below (w.heap.size + 1) w0 wr) (fun i _ => ps.length - (intOf i).toNat)
            case atStart => exact ⟨0, Nat.zero_le _, rfl, (by show _ = _; rw [List.drop_zero]), hbw2⟩
            case round =>
              obtain ⟨m, hm, rfl, HM, hbw⟩ := hrel
              have hbx := hB0.trans (hbw.mono (Nat.le_succ _))
              obtain ⟨q0, q1, q2, q3, q4, q5, q6⟩ := HBX.out.below (Nat.lt_succ_self _) hbw
              simp only at *
              by_cases hlt : m < ps.length
              · obtain ⟨b, off, rv, rfl, hb, hpd⟩ := (HP.out.below hbx).at hlt
                have HA : Hid _ := all_dropG ps noPd (pdB t n ss.length) m hlt
                generalize ps.getD m noPd = p at *
                obtain ⟨left, right, level⟩ := p
                obtain ⟨c0, c1, c2, hr⟩ := hpd
                simp only at *
                obtain ⟨ra, rc, rfl⟩ := hr.slice
                have HRi : Hid (IntsR wr (.slice ra right.length rc) right) := hr
                clear hr
                have HAL : Hid (Below w.heap.size w (wr.alloc (.cells #[.int .i64 left, .slice ra right.length rc, .int .i64 level] 49))) := hbx.alloc (by omega) _
                have HNO : Hid (pdB t n ss.length ⟨left, right, level⟩ = false → R = false) := fun hz => by rw [HR3.out, HM.out, HA.out, hz]; rfl
                by_cases g0 : left < 0
                · have HZ : Hid (R = false) := HNO.out (by unfold pdB; simp only; rw [decide_eq_false (p := 0 ≤ left) (by omega)]; simp)
                  go_wp2
                  go_ret
                  exact ⟨by rw [HZ.out]; rfl, HAL.out⟩
                have e0 : decide (left < 0) = false := decide_eq_false g0
                by_cases g1 : left ≥ n
                · have HZ : Hid (R = false) := HNO.out (by unfold pdB; simp only; rw [decide_eq_false (p := left < n) (by omega)]; simp)
                  go_wp2
                  go_ret
                  exact ⟨by rw [HZ.out]; rfl, HAL.out⟩
                have e1 : decide (left ≥ n) = false := decide_eq_false g1
                by_cases g2 : level < 0
                · have HZ : Hid (R = false) := HNO.out (by unfold pdB; simp only; rw [decide_eq_false (p := 0 ≤ level) (by omega)]; simp)
                  go_wp2
                  go_ret
                  exact ⟨by rw [HZ.out]; rfl, HAL.out⟩
                have e2 : decide (level < 0) = false := decide_eq_false g2
                by_cases g3 : level > (ss.length : Int)
                · have HZ : Hid (R = false) := HNO.out (by unfold pdB; simp only; rw [decide_eq_false (p := level ≤ (ss.length : Int)) (by omega)]; simp)
                  go_wp2
                  go_ret
                  exact ⟨by rw [HZ.out]; rfl, HAL.out⟩
                have e3 : decide (level > (ss.length : Int)) = false := decide_eq_false g3
                by_cases g4 : (right.length : Int) > 20
                · have HZ : Hid (R = false) := HNO.out (by unfold pdB; simp only; rw [decide_eq_false (p := right.length ≤ 20) (by omega)]; simp)
                  go_wp2
                  go_ret
                  exact ⟨by rw [HZ.out]; rfl, HAL.out⟩
                have e4 : decide ((right.length : Int) > 20) = false := decide_eq_false g4
                have HY : Hid (pdB t n ss.length ⟨left, right, level⟩ = right.all (symB t n)) := by
                  show _ = _; unfold pdB; simp only; rw [decide_eq_true (by omega), decide_eq_true (by omega), decide_eq_true (by omega), decide_eq_true (by omega), decide_eq_true (by omega)]; rfl
                have hrl : right.length ≤ 20 := by omega
                clear g0 g1 g2 g3 g4
                go_wp2
                clear e0 e1 e2 e3 e4 c0 c1 c2 q0 q1 q2 q3 q4 q5 q6
                rename World => wo
                obtain ⟨p0, p1, p2⟩ := box3_cells wo (.int .i64 left) (.slice ra right.length rc) (.int .i64 level) 49
                have hp3 := alloc_size wo (.cells #[.int .i64 left, .slice ra right.length rc, .int .i64 level] 49)
                have hp4 := alloc_below wo (.cells #[.int .i64 left, .slice ra right.length rc, .int .i64 level] 49)
                generalize hw3 : wo.alloc (.cells #[.int .i64 left, .slice ra right.length rc, .int .i64 level] 49) = w3 at *
                have HW3 : Hid (wo.alloc (.cells #[.int .i64 left, .slice ra right.length rc, .int .i64 level] 49) = w3) := hw3
                have HP3 : Hid (w3.heap.size = wo.heap.size + 1) := hp3
                have hb3 : Below (w.heap.size + 1) w0 w3 := hbw.trans (hp4.mono (by have := hbw.size; omega))
                clear hw3 hbx hbw
                clear hp3
                go_loopw [7] (fun i wr => ∃ k : Nat, k ≤ right.length ∧ i = .int .i64 k ∧ Hid (right.all (symB t n) = (right.drop k).all (symB t n)) ∧ Below w3.heap.size w3 wr) (fun i _ => right.length - (intOf i).toNat)
                case atStart => exact ⟨0, Nat.zero_le _, rfl, (by show _ = _; rw [List.drop_zero]), Below.refl _ _⟩
                case round =>
                  obtain ⟨l, hl, rfl, HMi, hbi⟩ := hrel
                  have hbw := hb3.trans (hbi.mono (by have := hb3.size; omega))
                  have hbx := hB0.trans (hbw.mono (Nat.le_succ _))
                  obtain ⟨q0, q1, q2, q3, q4, q5, q6⟩ := HBX.out.below (Nat.lt_succ_self _) hbw
                  simp only at *
                  have hlt3 : wo.heap.size < w3.heap.size := by rw [HP3.out]; exact Nat.lt_succ_self _
                  have hlt4 : wo.heap.size < wr.heap.size := Nat.lt_of_lt_of_le hlt3 hbi.size
                  have p0i := (hbi.cell (p := ⟨wo.heap.size, 0, none⟩) hlt3).trans p0
                  have p1i := (hbi.cell (p := ⟨wo.heap.size, 1, none⟩) hlt3).trans p1
                  have p2i := (hbi.cell (p := ⟨wo.heap.size, 2, none⟩) hlt3).trans p2
                  by_cases hli : l < right.length
                  · obtain ⟨b2, off2, rfl, hb2, hc2⟩ := ((HRi.out.below hp4).below hbi).at hli
                    have HAi : Hid _ := all_dropG right 0 (symB t n) l hli
                    generalize right.getD l 0 = x at *
                    by_cases g1 : x ≥ t
                    · have e1 : decide (x ≥ t) = true := decide_eq_true g1
                      have HZ : Hid (R = false) := HNO.out (by rw [HY.out, HMi.out, HAi.out, show symB t n x = false by unfold symB; rw [decide_eq_false (by omega)]; rfl]; rfl)
                      clear p0 p1 p2
                      go_wp2_with fail
                      go_quiet (fail)
                      go_wp2
                      go_ret
                      exact ⟨by rw [HZ.out]; rfl, below_drewG hbx _⟩
                    have e1 : decide (x ≥ t) = false := decide_eq_false g1
                    by_cases g2 : x < -n
                    · have e2 : decide (x < -n) = true := decide_eq_true g2
                      have HZ : Hid (R = false) := HNO.out (by rw [HY.out, HMi.out, HAi.out, show symB t n x = false by unfold symB; rw [decide_eq_false (p := -n ≤ x) (by omega), Bool.and_false]]; rfl)
                      clear p0 p1 p2 g1 g2
                      go_wp2_with fail
                      go_quiet (fail)
                      go_wp2
                      go_ret
                      exact ⟨by rw [HZ.out]; rfl, below_drewG hbx _⟩
                    have e2 : decide (x < -n) = false := decide_eq_false g2
                    have HZ : Hid (right.all (symB t n) = (right.drop (l + 1)).all (symB t n)) := by
                      show _ = _; rw [HMi.out, HAi.out, show symB t n x = true by unfold symB; rw [decide_eq_true (by omega), decide_eq_true (by omega)]; rfl, Bool.true_and]
                    clear p0 p1 p2 g1 g2
                    go_wp2_with fail
                    go_quiet (fail)
                    go_wp2
                    go_roundw
                    case rel => exact ⟨l + 1, by omega, by go_num, HZ, below_drewG hbi _⟩
                    case measure => simp [intOf]; omega
                  · have HZ : Hid (ps.all (pdB t n ss.length) = (ps.drop (m + 1)).all (pdB t n ss.length)) := by
                      show _ = _; rw [HM.out, HA.out, HY.out, HMi.out, List.drop_eq_nil_of_le (by omega)]; rfl
                    clear p0 p1 p2
                    go_wp2
                    go_roundw
                    case rel => exact ⟨m + 1, by omega, by go_num, HZ, hbw⟩
                    case measure => simp [intOf]; omega
              · have HZ : Hid (R = true) := by
                  show _ = _; rw [HR3.out, HM.out, List.drop_eq_nil_of_le (by omega)]; rfl
                go_wp2
                go_ret
                exact ⟨by rw [HZ.out]; rfl, hbx⟩

theorem gok_any (g : Gm) (pv lv sv : Value) (w : World) (h : GrM w g pv lv sv) :
    Calls Tryd.prog 16 #[gv g pv lv sv] w fun e w' => e = .returned (.bool (gOkB g)) ∧ Below w.heap.size w w' := by
  by_cases hh : HeadG g
  · exact gok_body g pv lv sv w h hh
  · have e : gOkB g = false := by unfold gOkB; rw [decide_eq_false hh]; rfl
    rw [e]
    exact gok_head g pv lv sv w h hh

end Go.Proofs.YtdihdnhofgjhnaaDoor
