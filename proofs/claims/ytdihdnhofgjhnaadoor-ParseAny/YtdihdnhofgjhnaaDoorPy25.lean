/- Texts of the proof, put together: YPsrB. -/
import Derived.Test.YtdihdnhofgjhnaaDoorPy24
namespace Go.Proofs.YtdihdnhofgjhnaaDoor
open Go.RowKit
set_option linter.unusedVariables false
set_option maxRecDepth 100000

set_option maxHeartbeats 4000000 in
theorem refuse_any {w : World} {c : PC} {P a r : Nat} {tv : Value} {acc : Bool} (h : PaM w c P a r tv acc) (x : Int) {ab ar ae : Addr} (hE : ErG w ab ar ae) :
    Calls Tryd.prog 52 #[.pointer (some ⟨P, 0, none⟩), .int .i64 x] w fun e w' => FltP w' e (errE ae) a ∧ Below w.heap.size w w' := by
  have HC : Hid (Calls Tryd.prog 35 #[.pointer (some ⟨P, 0, none⟩), errE ae] w fun e w' => FltP w' e (errE ae) a ∧ Below w.heap.size w w') := fault_any h ae
  have hg := hE.fin
  clear h hE
  unfold errE at hg
  go_enter Tryd.func52, Tryd.ntmps52
  go_wp2_with fail
  go_at_call 35
  refine HC.out.mono ?_
  rintro e w2 ⟨⟨fb, rfl, f0, f1⟩, hb⟩
  go_wp2_with fail
  go_ret
  exact ⟨⟨fb, rfl, f0, f1⟩, hb⟩

set_option maxHeartbeats 4000000 in
theorem ahead_any {w : World} {c : PC} {P a r : Nat} {tv : Value} {acc : Bool} {inp : List Int} (h : PaM w c P a r tv acc) (hI : IntsR w c.iv inp) (ha : a ≤ inp.length) (hl : inp.length ≤ 80) :
    Calls Tryd.prog 34 #[.pointer (some ⟨P, 0, none⟩)] w fun e w' => e = .returned (.tuple #[.int .i64 (termAt c.g inp a), .bool (!oobB c.g inp a)]) ∧ Below w.heap.size w w' := by
  obtain ⟨ia, ic, hiv⟩ := hI.slice
  have c0 : w.cell? ⟨P, 0, none⟩ = some (.int .i64 c.g.terms) := h.at 0
  have c13 : w.cell? ⟨P, 13, none⟩ = some (.slice ia inp.length ic) := (h.at 13).trans (by rw [← hiv]; rfl)
  have c14 : w.cell? ⟨P, 14, none⟩ = some (.int .i64 a) := h.at 14
  have hlt := h.lt
  rw [hiv] at hI
  generalize c.g = g at *
  by_cases hal : a < inp.length
  · obtain ⟨b, off, rfl, hb, hc⟩ := hI.at hal
    have HT : Hid (termAt g inp a = inp.getD a 0) := by show _ = _; unfold termAt; rw [if_pos hal]
    have HO : Hid (oobB g inp a = (decide (inp.getD a 0 < 0) || decide (g.terms ≤ inp.getD a 0))) := by show _ = _; unfold oobB; rw [decide_eq_true hal, Bool.true_and]
    have hne : ¬ ((a : Int) = (inp.length : Int)) := by omega
    have hne2 : ¬ (a = inp.length) := by omega
    clear h hI hiv
    generalize inp.getD a 0 = x at *
    generalize termAt g inp a = T at *
    generalize oobB g inp a = O at *
    generalize inp.length = n at *
    by_cases hx0 : x < 0
    · have d0 : decide (x ≥ 0) = false := decide_eq_false (by omega)
      have HO2 : Hid (O = true) := by show _ = _; rw [HO.out, decide_eq_true hx0]; rfl
      clear HO
      go_enter Tryd.func34, Tryd.ntmps34
      go_wp2_with fail
      go_quiet (fail)
      have c0_w1 : (w.drewN nq).cell? ⟨P, 0, none⟩ = some (.int .i64 g.terms) := c0
      have c13_w1 : (w.drewN nq).cell? ⟨P, 13, none⟩ = some (.slice (some ⟨b, off, none⟩) n ic) := c13
      have c14_w1 : (w.drewN nq).cell? ⟨P, 14, none⟩ = some (.int .i64 a) := c14
      have hc_w1 : (w.drewN nq).cell? ⟨b, off + a, none⟩ = some (.int .i64 x) := hc
      have hlt_w1 : P < (w.drewN nq).heap.size := hlt
      have hb_w1 : b < (w.drewN nq).heap.size := hb
      have HB_w1 : Hid (Below w.heap.size w (w.drewN nq)) := below_drewG (Below.refl _ _) nq
      clear c0 c13 c14 hc hlt hb
      generalize w.drewN nq = w1 at *
      clear nq
      go_wp2_with fail
      go_quiet (fail)
      have c0_w2 : (w1.drewN nq).cell? ⟨P, 0, none⟩ = some (.int .i64 g.terms) := c0_w1
      have c13_w2 : (w1.drewN nq).cell? ⟨P, 13, none⟩ = some (.slice (some ⟨b, off, none⟩) n ic) := c13_w1
      have c14_w2 : (w1.drewN nq).cell? ⟨P, 14, none⟩ = some (.int .i64 a) := c14_w1
      have hc_w2 : (w1.drewN nq).cell? ⟨b, off + a, none⟩ = some (.int .i64 x) := hc_w1
      have hlt_w2 : P < (w1.drewN nq).heap.size := hlt_w1
      have hb_w2 : b < (w1.drewN nq).heap.size := hb_w1
      have HB_w2 : Hid (Below w.heap.size w (w1.drewN nq)) := below_drewG HB_w1.out nq
      clear c0_w1 c13_w1 c14_w1 hc_w1 hlt_w1 hb_w1 HB_w1
      generalize w1.drewN nq = w2 at *
      clear w1 nq
      go_wp2_with fail
      go_quiet (fail)
      have c0_w3 : (w2.drewN nq).cell? ⟨P, 0, none⟩ = some (.int .i64 g.terms) := c0_w2
      have c13_w3 : (w2.drewN nq).cell? ⟨P, 13, none⟩ = some (.slice (some ⟨b, off, none⟩) n ic) := c13_w2
      have c14_w3 : (w2.drewN nq).cell? ⟨P, 14, none⟩ = some (.int .i64 a) := c14_w2
      have hc_w3 : (w2.drewN nq).cell? ⟨b, off + a, none⟩ = some (.int .i64 x) := hc_w2
      have hlt_w3 : P < (w2.drewN nq).heap.size := hlt_w2
      have hb_w3 : b < (w2.drewN nq).heap.size := hb_w2
      have HB_w3 : Hid (Below w.heap.size w (w2.drewN nq)) := below_drewG HB_w2.out nq
      clear c0_w2 c13_w2 c14_w2 hc_w2 hlt_w2 hb_w2 HB_w2
      generalize w2.drewN nq = w3 at *
      clear w2 nq
      go_wp2_with fail
      go_ret2
      exact ⟨by rw [HO2.out, HT.out]; rfl, HB_w3.out⟩
    · have d0 : decide (x ≥ 0) = true := decide_eq_true (by omega)
      by_cases hx1 : x < g.terms
      · have d1 : decide (x < g.terms) = true := decide_eq_true hx1
        have HO2 : Hid (O = false) := by show _ = _; rw [HO.out, decide_eq_false hx0, decide_eq_false (by omega)]; rfl
        clear HO
        go_enter Tryd.func34, Tryd.ntmps34
        go_wp2_with fail
        go_quiet (fail)
        have c0_w1 : (w.drewN nq).cell? ⟨P, 0, none⟩ = some (.int .i64 g.terms) := c0
        have c13_w1 : (w.drewN nq).cell? ⟨P, 13, none⟩ = some (.slice (some ⟨b, off, none⟩) n ic) := c13
        have c14_w1 : (w.drewN nq).cell? ⟨P, 14, none⟩ = some (.int .i64 a) := c14
        have hc_w1 : (w.drewN nq).cell? ⟨b, off + a, none⟩ = some (.int .i64 x) := hc
        have hlt_w1 : P < (w.drewN nq).heap.size := hlt
        have hb_w1 : b < (w.drewN nq).heap.size := hb
        have HB_w1 : Hid (Below w.heap.size w (w.drewN nq)) := below_drewG (Below.refl _ _) nq
        clear c0 c13 c14 hc hlt hb
        generalize w.drewN nq = w1 at *
        clear nq
        go_wp2_with fail
        go_quiet (fail)
        have c0_w2 : (w1.drewN nq).cell? ⟨P, 0, none⟩ = some (.int .i64 g.terms) := c0_w1
        have c13_w2 : (w1.drewN nq).cell? ⟨P, 13, none⟩ = some (.slice (some ⟨b, off, none⟩) n ic) := c13_w1
        have c14_w2 : (w1.drewN nq).cell? ⟨P, 14, none⟩ = some (.int .i64 a) := c14_w1
        have hc_w2 : (w1.drewN nq).cell? ⟨b, off + a, none⟩ = some (.int .i64 x) := hc_w1
        have hlt_w2 : P < (w1.drewN nq).heap.size := hlt_w1
        have hb_w2 : b < (w1.drewN nq).heap.size := hb_w1
        have HB_w2 : Hid (Below w.heap.size w (w1.drewN nq)) := below_drewG HB_w1.out nq
        clear c0_w1 c13_w1 c14_w1 hc_w1 hlt_w1 hb_w1 HB_w1
        generalize w1.drewN nq = w2 at *
        clear w1 nq
        go_wp2_with fail
        go_quiet (fail)
        have c0_w3 : (w2.drewN nq).cell? ⟨P, 0, none⟩ = some (.int .i64 g.terms) := c0_w2
        have c13_w3 : (w2.drewN nq).cell? ⟨P, 13, none⟩ = some (.slice (some ⟨b, off, none⟩) n ic) := c13_w2
        have c14_w3 : (w2.drewN nq).cell? ⟨P, 14, none⟩ = some (.int .i64 a) := c14_w2
        have hc_w3 : (w2.drewN nq).cell? ⟨b, off + a, none⟩ = some (.int .i64 x) := hc_w2
        have hlt_w3 : P < (w2.drewN nq).heap.size := hlt_w2
        have hb_w3 : b < (w2.drewN nq).heap.size := hb_w2
        have HB_w3 : Hid (Below w.heap.size w (w2.drewN nq)) := below_drewG HB_w2.out nq
        clear c0_w2 c13_w2 c14_w2 hc_w2 hlt_w2 hb_w2 HB_w2
        generalize w2.drewN nq = w3 at *
        clear w2 nq
        go_wp2_with fail
        go_ret2
        exact ⟨by rw [HO2.out, HT.out]; rfl, HB_w3.out⟩
      · have d1 : decide (x < g.terms) = false := decide_eq_false hx1
        have HO2 : Hid (O = true) := by show _ = _; rw [HO.out, decide_eq_false hx0, decide_eq_true (by omega)]; rfl
        clear HO
        go_enter Tryd.func34, Tryd.ntmps34
        go_wp2_with fail
        go_quiet (fail)
        have c0_w1 : (w.drewN nq).cell? ⟨P, 0, none⟩ = some (.int .i64 g.terms) := c0
        have c13_w1 : (w.drewN nq).cell? ⟨P, 13, none⟩ = some (.slice (some ⟨b, off, none⟩) n ic) := c13
        have c14_w1 : (w.drewN nq).cell? ⟨P, 14, none⟩ = some (.int .i64 a) := c14
        have hc_w1 : (w.drewN nq).cell? ⟨b, off + a, none⟩ = some (.int .i64 x) := hc
        have hlt_w1 : P < (w.drewN nq).heap.size := hlt
        have hb_w1 : b < (w.drewN nq).heap.size := hb
        have HB_w1 : Hid (Below w.heap.size w (w.drewN nq)) := below_drewG (Below.refl _ _) nq
        clear c0 c13 c14 hc hlt hb
        generalize w.drewN nq = w1 at *
        clear nq
        go_wp2_with fail
        go_quiet (fail)
        have c0_w2 : (w1.drewN nq).cell? ⟨P, 0, none⟩ = some (.int .i64 g.terms) := c0_w1
        have c13_w2 : (w1.drewN nq).cell? ⟨P, 13, none⟩ = some (.slice (some ⟨b, off, none⟩) n ic) := c13_w1
        have c14_w2 : (w1.drewN nq).cell? ⟨P, 14, none⟩ = some (.int .i64 a) := c14_w1
        have hc_w2 : (w1.drewN nq).cell? ⟨b, off + a, none⟩ = some (.int .i64 x) := hc_w1
        have hlt_w2 : P < (w1.drewN nq).heap.size := hlt_w1
        have hb_w2 : b < (w1.drewN nq).heap.size := hb_w1
        have HB_w2 : Hid (Below w.heap.size w (w1.drewN nq)) := below_drewG HB_w1.out nq
        clear c0_w1 c13_w1 c14_w1 hc_w1 hlt_w1 hb_w1 HB_w1
        generalize w1.drewN nq = w2 at *
        clear w1 nq
        go_wp2_with fail
        go_quiet (fail)
        have c0_w3 : (w2.drewN nq).cell? ⟨P, 0, none⟩ = some (.int .i64 g.terms) := c0_w2
        have c13_w3 : (w2.drewN nq).cell? ⟨P, 13, none⟩ = some (.slice (some ⟨b, off, none⟩) n ic) := c13_w2
        have c14_w3 : (w2.drewN nq).cell? ⟨P, 14, none⟩ = some (.int .i64 a) := c14_w2
        have hc_w3 : (w2.drewN nq).cell? ⟨b, off + a, none⟩ = some (.int .i64 x) := hc_w2
        have hlt_w3 : P < (w2.drewN nq).heap.size := hlt_w2
        have hb_w3 : b < (w2.drewN nq).heap.size := hb_w2
        have HB_w3 : Hid (Below w.heap.size w (w2.drewN nq)) := below_drewG HB_w2.out nq
        clear c0_w2 c13_w2 c14_w2 hc_w2 hlt_w2 hb_w2 HB_w2
        generalize w2.drewN nq = w3 at *
        clear w2 nq
        go_wp2_with fail
        go_ret2
        exact ⟨by rw [HO2.out, HT.out]; rfl, HB_w3.out⟩
  · obtain hae : a = inp.length := by omega
    have HT : Hid (termAt g inp a = g.terms) := by show _ = _; unfold termAt; rw [if_neg hal]
    have HO2 : Hid (oobB g inp a = false) := by show _ = _; unfold oobB; rw [decide_eq_false hal, Bool.false_and]
    rw [← hae] at c13
    generalize termAt g inp a = T at *
    generalize oobB g inp a = O at *
    clear h hI hiv hal hae ha
    go_enter Tryd.func34, Tryd.ntmps34
    go_wp2_with fail
    go_quiet (fail)
    have c0_w1 : (w.drewN nq).cell? ⟨P, 0, none⟩ = some (.int .i64 g.terms) := c0
    have c13_w1 : (w.drewN nq).cell? ⟨P, 13, none⟩ = some (.slice ia a ic) := c13
    have c14_w1 : (w.drewN nq).cell? ⟨P, 14, none⟩ = some (.int .i64 a) := c14
    have hlt_w1 : P < (w.drewN nq).heap.size := hlt
    have HB_w1 : Hid (Below w.heap.size w (w.drewN nq)) := below_drewG (Below.refl _ _) nq
    clear c0 c13 c14 hlt
    generalize w.drewN nq = w1 at *
    clear nq
    go_wp2_with fail
    go_ret2
    exact ⟨by rw [HO2.out, HT.out]; rfl, HB_w1.out⟩

end Go.Proofs.YtdihdnhofgjhnaaDoor
