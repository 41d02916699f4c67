/- Texts of the proof, put together: TSml, YSInt. -/
import Derived.Test.YtdihdnhofgjhnaaDoorPy05
namespace Go.Proofs.YtdihdnhofgjhnaaDoor
open Go.RowKit
set_option linter.unusedVariables false
set_option maxRecDepth 100000

def smallG (g : Gm) : Bool := (decide (g.terms ≤ 8) && decide (g.names ≤ 8) && decide (g.prods.length ≤ 14) && decide (g.levels.length ≤ 8) && decide (g.sides.length ≤ 8)) && g.prods.all fun p => decide (p.right.length ≤ 5)

set_option maxHeartbeats 2000000 in
theorem small_any (g : Gm) (pv lv sv : Value) (w : World) (h : GrM w g pv lv sv) :
    Calls Tryd.prog 4 #[gv g pv lv sv] w fun e w' => e = .returned (.bool (smallG g)) ∧ Below w.heap.size w w' := by
  have hB0 := boxG_below w g pv lv sv
  have hB1 := boxG_size w g pv lv sv
  have hB2 := boxG_box w g pv lv sv
  obtain ⟨hp, hl, hs⟩ := h
  obtain ⟨pa, pc, rfl⟩ := hp.slice
  obtain ⟨la, lc, rfl⟩ := hl.slice
  obtain ⟨sa, sc, rfl⟩ := hs.slice
  clear hl hs
  have HP : Hid (PdsM w (.slice pa g.prods.length pc) g.prods) := hp
  clear hp
  obtain ⟨t, n, s, ps, ls, ss⟩ := g
  unfold boxG gvs at hB0 hB1 hB2
  simp only at *
  have HR : Hid (smallG ⟨t, n, s, ps, ls, ss⟩ = ((decide (t ≤ 8) && decide (n ≤ 8) && decide (ps.length ≤ 14) && decide (ls.length ≤ 8) && decide (ss.length ≤ 8)) && ps.all fun p => decide (p.right.length ≤ 5))) := rfl
  generalize smallG ⟨t, n, s, ps, ls, ss⟩ = R at *
  unfold gv gvs
  simp only
  by_cases h1 : t > 8
  · have HS : Hid (R = false) := by show _ = _; rw [HR.out, decide_eq_false (p := t ≤ 8) (by omega)]; simp
    go_enter Tryd.func4, Tryd.ntmps4
    go_wp2
    go_ret
    exact ⟨by rw [HS.out]; rfl, hB0⟩
  have d1 : decide (t > 8) = false := decide_eq_false (by omega)
  by_cases h2 : n > 8
  · have HS : Hid (R = false) := by show _ = _; rw [HR.out, decide_eq_false (p := n ≤ 8) (by omega)]; simp
    go_enter Tryd.func4, Tryd.ntmps4
    go_wp2
    go_ret
    exact ⟨by rw [HS.out]; rfl, hB0⟩
  have d2 : decide (n > 8) = false := decide_eq_false (by omega)
  by_cases h3 : (ps.length : Int) > 14
  · have HS : Hid (R = false) := by show _ = _; rw [HR.out, decide_eq_false (p := ps.length ≤ 14) (by omega)]; simp
    go_enter Tryd.func4, Tryd.ntmps4
    go_wp2
    go_ret
    exact ⟨by rw [HS.out]; rfl, hB0⟩
  have d3 : decide ((ps.length : Int) > 14) = false := decide_eq_false (by omega)
  by_cases h4 : (ls.length : Int) > 8
  · have HS : Hid (R = false) := by show _ = _; rw [HR.out, decide_eq_false (p := ls.length ≤ 8) (by omega)]; simp
    go_enter Tryd.func4, Tryd.ntmps4
    go_wp2
    go_ret
    exact ⟨by rw [HS.out]; rfl, hB0⟩
  have d4 : decide ((ls.length : Int) > 8) = false := decide_eq_false (by omega)
  by_cases h5 : (ss.length : Int) > 8
  · have HS : Hid (R = false) := by show _ = _; rw [HR.out, decide_eq_false (p := ss.length ≤ 8) (by omega)]; simp
    go_enter Tryd.func4, Tryd.ntmps4
    go_wp2
    go_ret
    exact ⟨by rw [HS.out]; rfl, hB0⟩
  have d5 : decide ((ss.length : Int) > 8) = false := decide_eq_false (by omega)
  go_enter Tryd.func4, Tryd.ntmps4
  go_wp2
  generalize hw0 : w.alloc (.cells #[.int .i64 t, .int .i64 n, .int .i64 s, .slice pa ps.length pc, .slice la ls.length lc, .slice sa ss.length sc] 25) = w0 at *
  have HW0 : Hid (w.alloc (.cells #[.int .i64 t, .int .i64 n, .int .i64 s, .slice pa ps.length pc, .slice la ls.length lc, .slice sa ss.length sc] 25) = w0) := hw0
  clear hw0
  have HBX : Hid (BoxG w0 w.heap.size ⟨t, n, s, ps, ls, ss⟩ (.slice pa ps.length pc) (.slice la ls.length lc) (.slice sa ss.length sc)) := hB2
  clear hB2
  have HE : Hid ((decide (t ≤ 8) && decide (n ≤ 8) && decide (ps.length ≤ 14) && decide (ls.length ≤ 8) && decide (ss.length ≤ 8)) = true) := by
    show _ = _; simp; omega
  clear h1 h2 h4 h5 d1 d2 d3 d4 d5
  go_loopw [3] (fun i wr => ∃ k : Nat, k ≤ ps.length ∧ i = .int .i64 k ∧ Hid (ps.all (fun p => decide (p.right.length ≤ 5)) = (ps.drop k).all (fun p => decide (p.right.length ≤ 5))) ∧ Below (w.heap.size + 1) w0 wr) (fun i _ => ps.length - (intOf i).toNat)
  case atStart => exact ⟨0, Nat.zero_le _, rfl, (by show _ = _; rw [List.drop_zero]), Below.refl _ _⟩
  case round =>
    obtain ⟨k, hk, rfl, HM, hbw⟩ := hrel
    have hbx := hB0.trans (hbw.mono (Nat.le_succ _))
    obtain ⟨q0, q1, q2, q3, q4, q5, q6⟩ := HBX.out.below (Nat.lt_succ_self _) hbw
    simp only at *
    by_cases hlt : k < ps.length
    · obtain ⟨b, off, rv, rfl, hb, hpd⟩ := (HP.out.below hbx).at hlt
      have HA : Hid _ := all_dropG ps noPd (fun p => decide (p.right.length ≤ 5)) k hlt
      generalize ps.getD k noPd = p at *
      obtain ⟨c0, c1, c2, hr⟩ := hpd
      obtain ⟨ra, rc, rfl⟩ := hr.slice
      clear hr
      by_cases g1 : (p.right.length : Int) > 5
      · have HS : Hid (ps.all (fun p => decide (p.right.length ≤ 5)) = false) := by
          show _ = _; rw [HM.out, HA.out]; simp; omega
        go_wp2
        go_ret
        exact ⟨by rw [HR.out, HS.out, Bool.and_false]; rfl, hbx⟩
      · have HS : Hid (ps.all (fun p => decide (p.right.length ≤ 5)) = (ps.drop (k + 1)).all (fun p => decide (p.right.length ≤ 5))) := by
          show _ = _; rw [HM.out, HA.out, decide_eq_true (by omega), Bool.true_and]
        go_wp2
        go_roundw
        case rel => exact ⟨k + 1, by omega, by go_num, HS, hbw⟩
        case measure => simp [intOf]; omega
    · have HS : Hid (ps.all (fun p => decide (p.right.length ≤ 5)) = true) := by
        show _ = _; rw [HM.out, List.drop_eq_nil_of_le (by omega)]; rfl
      go_wp2
      go_ret
      exact ⟨by rw [HR.out, HS.out, HE.out]; rfl, hbx⟩

end Go.Proofs.YtdihdnhofgjhnaaDoor

namespace Go.Proofs.YtdihdnhofgjhnaaDoor
open Go.RowKit
set_option linter.unusedVariables false
set_option maxRecDepth 100000

set_option maxHeartbeats 2000000 in
theorem same_any (va vb : Value) (la lb : List Int) (w : World) (hz : la.length ≤ 1000000) (ha : IntsR w va la) (hb : IntsR w vb lb) :
    Calls Tryd.prog 14 #[va, vb] w fun e w' => e = .returned (.bool (decide (la = lb))) ∧ Below w.heap.size w w' := by
  obtain ⟨aa, ac, rfl⟩ := ha.slice
  obtain ⟨ba, bc, rfl⟩ := hb.slice
  by_cases h1 : la.length = lb.length
  · have HA : Hid (IntsR w (.slice aa la.length ac) la) := ha
    have HB : Hid (IntsR w (.slice ba lb.length bc) lb) := hb
    clear ha hb
    have HL : Hid (lb.length = la.length) := h1.symm
    rw [← h1] at HB ⊢
    clear h1
    generalize hn : la.length = n at *
    have HN : Hid (la.length = n) := hn
    clear hn
    go_enter Tryd.func14, Tryd.ntmps14
    go_wp2
    go_loopw [5] (fun i wr => ∃ k : Nat, k ≤ n ∧ i = .int .i64 k ∧ Hid ((la = lb) ↔ (la.drop k = lb.drop k)) ∧ Below w.heap.size w wr) (fun i _ => n - (intOf i).toNat)
    case atStart => exact ⟨0, Nat.zero_le _, rfl, (by show _ ↔ _; simp), Below.refl _ _⟩
    case round =>
      obtain ⟨k, hk, rfl, HM, hbw⟩ := hrel
      by_cases hlt : k < n
      · have hka : k < la.length := by rw [HN.out]; exact hlt
        have hkb : k < lb.length := by rw [HL.out]; exact hlt
        obtain ⟨b, off, rfl, hb, hc⟩ := (HA.out.below hbw).at hka
        obtain ⟨b', off', rfl, hb', hc'⟩ := (HB.out.below hbw).at hkb
        have HS : Hid ((la = lb) ↔ (la.getD k 0 = lb.getD k 0 ∧ la.drop (k + 1) = lb.drop (k + 1))) := by
          show _ ↔ _
          rw [HM.out, List.drop_eq_getElem_cons hka, List.drop_eq_getElem_cons hkb, List.cons.injEq]
          simp [List.getD, hka, hkb]
        clear HM hka hkb
        generalize la.getD k 0 = x at *
        generalize lb.getD k 0 = y at *
        by_cases g1 : x = y
        · subst g1
          have HS2 : Hid ((la = lb) ↔ la.drop (k + 1) = lb.drop (k + 1)) := by show _ ↔ _; rw [HS.out]; simp
          clear HS
          go_wp2_with fail
          go_quiet (fail)
          go_wp2
          go_roundw
          case rel => exact ⟨k + 1, by omega, by go_num, HS2, below_drewG hbw _⟩
          case measure => simp [intOf]; omega
        · have HS2 : Hid (decide (la = lb) = false) := by show _ = _; rw [decide_eq_false_iff_not, HS.out]; simp [g1]
          clear HS
          have g2 : (x == y) = false := by rw [beq_eq_false_iff_ne]; exact g1
          go_wp2_with fail
          go_quiet (fail)
          go_wp2
          go_ret
          exact ⟨by rw [HS2.out]; rfl, below_drewG hbw _⟩
      · have HS : Hid (decide (la = lb) = true) := by
          show _ = _; rw [decide_eq_true_iff, HM.out, List.drop_eq_nil_of_le (by rw [HN.out]; omega), List.drop_eq_nil_of_le (by rw [HL.out]; omega)]
        go_wp2
        go_ret
        exact ⟨by rw [HS.out]; rfl, hbw⟩
  · have HS : Hid (decide (la = lb) = false) := by show _ = _; rw [decide_eq_false_iff_not]; rintro rfl; exact h1 rfl
    have h1' : ¬ (la.length : Int) = (lb.length : Int) := by omega
    clear ha hb
    go_enter Tryd.func14, Tryd.ntmps14
    go_wp2
    go_ret
    exact ⟨by rw [HS.out]; rfl, Below.refl _ _⟩

end Go.Proofs.YtdihdnhofgjhnaaDoor
