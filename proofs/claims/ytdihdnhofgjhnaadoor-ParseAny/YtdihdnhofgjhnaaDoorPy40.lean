/- Texts of the proof, put together: YLaw. -/
import Derived.Test.YtdihdnhofgjhnaaDoorPy38
import Derived.Test.YtdihdnhofgjhnaaDoorPy39
namespace Go.Proofs.YtdihdnhofgjhnaaDoor
open Go.RowKit
set_option linter.unusedVariables false
set_option maxRecDepth 100000

theorem nextS_len {g : Gm} {tb : Tb} (inp : List Int) (hf : fitsB g tb = true) : (nextS g tb inp).length ≤ 1000000 := by
  have h := (fits_parts hf).1
  unfold gOkB at h
  simp only [Bool.and_eq_true, decide_eq_true_eq] at h
  have hT := h.1.2.1
  unfold nextS
  split
  · have := nextUp_len g tb (readS g tb inp 0 []).2.2 (g.terms.toNat + 1)
    omega
  · simp

set_option maxHeartbeats 8000000 in
theorem law_far (c : PC) (tb : Tb) (inp : List Int) (a : Nat → Addr) (w : World) (hG : GrM w c.g c.pv c.lv c.sv) (hT : TbM w tb c.av c.ov c.cv) (hI : IntsR w c.iv inp) (hwf : WfG c.g) (hE : Errs w a) (hfar : smallG c.g = false ∨ tabledB tb = false ∨ 12 < inp.length) :
    Calls Tryd.prog 3 #[gv c.g c.pv c.lv c.sv, tvv c.av c.ov c.cv, c.iv] w fun e w' => e = .returned (.bool true) ∧ Below w.heap.size w w' := by
  obtain ⟨hB0, hBX, hBT⟩ := boxT_all w c.g c.pv c.lv c.sv c.av c.ov c.cv
  have HSm : Hid (∀ w', Below w.heap.size w w' → Calls Tryd.prog 4 #[gv c.g c.pv c.lv c.sv] w' fun e w'' => e = .returned (.bool (smallG c.g)) ∧ Below w'.heap.size w' w'') := fun w' hb => small_any c.g c.pv c.lv c.sv w' (hG.below hb)
  have HTb : Hid (∀ w', Below w.heap.size w w' → Calls Tryd.prog 5 #[tvv c.av c.ov c.cv] w' fun e w'' => e = .returned (.bool (tabledB tb)) ∧ Below w'.heap.size w' w'') := fun w' hb => tabled_any tb c.av c.ov c.cv w' (hT.below hb)
  have HB0 : Hid (Below w.heap.size w (boxT w c.g c.pv c.lv c.sv c.av c.ov c.cv)) := hB0
  have HBB : Hid (∀ w', Below (boxT w c.g c.pv c.lv c.sv c.av c.ov c.cv).heap.size (boxT w c.g c.pv c.lv c.sv c.av c.ov c.cv) w' → BoxG w' w.heap.size c.g c.pv c.lv c.sv ∧ BoxT w' (w.heap.size + 1) c.av c.ov c.cv ∧ Below w.heap.size w w') := fun w' hb => ⟨hBX.below hBX.lt hb, hBT.below hBT.lt hb, hB0.trans (hb.mono hB0.size)⟩
  obtain ⟨ia, ic, hiv⟩ := hI.slice
  have HFar : Hid (smallG c.g = false ∨ tabledB tb = false ∨ 12 < inp.length) := hfar
  clear hG hT hI hwf hE hfar
  unfold gv gvs tvv tvs at *
  have HWB : Hid ((w.alloc (.cells #[.int .i64 c.g.terms, .int .i64 c.g.names, .int .i64 c.g.start, c.pv, c.lv, c.sv] 25)).alloc (.cells #[c.av, c.ov, c.cv] 30) = boxT w c.g c.pv c.lv c.sv c.av c.ov c.cv) := rfl
  generalize boxT w c.g c.pv c.lv c.sv c.av c.ov c.cv = W1 at *
  obtain ⟨q0, q1, q2, q3, q4, q5, q6⟩ := hBX
  obtain ⟨t0, t1, t2, t3⟩ := hBT
  clear hB0
  rw [hiv]
  clear hiv
  generalize smallG c.g = b1 at *
  generalize tabledB tb = b2 at *
  go_enter Tryd.func3, Tryd.ntmps3
  go_upto_region 1 with fail
  rw [HWB.out]
  have HB1 : Hid (Below W1.heap.size W1 W1) := Below.refl _ _
  go_wp2_with fail
  go_at_call 4
  refine (HSm.out _ (HBB.out _ HB1.out).2.2).mono ?_
  rintro e w2 ⟨rfl, hb⟩
  have HB2 : Hid (Below W1.heap.size W1 w2) := HB1.out.trans (hb.mono HB1.out.size)
  clear q0 q1 q2 q3 q4 q5 q6 t0 t1 t2 t3 hb
  obtain ⟨⟨q0, q1, q2, q3, q4, q5, q6⟩, ⟨t0, t1, t2, t3⟩, hbw2⟩ := HBB.out w2 HB2.out
  go_wp2_with fail
  go_at_call 5
  refine (HTb.out _ (HBB.out _ HB2.out).2.2).mono ?_
  rintro e w3 ⟨rfl, hb⟩
  have HB3 : Hid (Below W1.heap.size W1 w3) := HB2.out.trans (hb.mono HB2.out.size)
  clear q0 q1 q2 q3 q4 q5 q6 t0 t1 t2 t3 hb
  obtain ⟨⟨q0, q1, q2, q3, q4, q5, q6⟩, ⟨t0, t1, t2, t3⟩, hbw3⟩ := HBB.out w3 HB3.out
  generalize inp.length = n at *
  cases b1 with
  | false =>
    go_wp2_with fail
    go_ret
    exact ⟨rfl, hbw3⟩
  | true =>
    cases b2 with
    | false =>
      go_wp2_with fail
      go_ret
      exact ⟨rfl, hbw3⟩
    | true =>
      have hn : 12 < n := by
        rcases HFar.out with h | h | h
        · cases h
        · cases h
        · exact h
      have d0 : decide ((n : Int) > 12) = true := decide_eq_true (by omega)
      go_wp2_with fail
      go_ret
      exact ⟨rfl, hbw3⟩

set_option maxHeartbeats 8000000 in
theorem law_not (c : PC) (tb : Tb) (inp : List Int) (a : Nat → Addr) (w : World) (hG : GrM w c.g c.pv c.lv c.sv) (hT : TbM w tb c.av c.ov c.cv) (hI : IntsR w c.iv inp) (hwf : WfG c.g) (hE : Errs w a) (hs : smallG c.g = true) (htb : tabledB tb = true) (hlen : inp.length ≤ 12) (hft : fitsB c.g tb = false) :
    Calls Tryd.prog 3 #[gv c.g c.pv c.lv c.sv, tvv c.av c.ov c.cv, c.iv] w fun e w' => e = .returned (.bool true) ∧ Below w.heap.size w w' := by
  obtain ⟨hB0, hBX, hBT⟩ := boxT_all w c.g c.pv c.lv c.sv c.av c.ov c.cv
  have HSm : Hid (∀ w', Below w.heap.size w w' → Calls Tryd.prog 4 #[gv c.g c.pv c.lv c.sv] w' fun e w'' => e = .returned (.bool (smallG c.g)) ∧ Below w'.heap.size w' w'') := fun w' hb => small_any c.g c.pv c.lv c.sv w' (hG.below hb)
  have HTb : Hid (∀ w', Below w.heap.size w w' → Calls Tryd.prog 5 #[tvv c.av c.ov c.cv] w' fun e w'' => e = .returned (.bool (tabledB tb)) ∧ Below w'.heap.size w' w'') := fun w' hb => tabled_any tb c.av c.ov c.cv w' (hT.below hb)
  have HRF : Hid (∀ w', Below w.heap.size w w' → Calls Tryd.prog 6 #[gv c.g c.pv c.lv c.sv, tvv c.av c.ov c.cv] w' fun e w'' => e = .returned (.bool (fitsB c.g tb)) ∧ Below w'.heap.size w' w'') := fun w' hb => rfits_any c.g c.pv c.lv c.sv tb c.av c.ov c.cv w' (hG.below hb) (hT.below hb)
  have HPF : Hid (∀ w', Below w.heap.size w w' → Calls Tryd.prog 7 #[gv c.g c.pv c.lv c.sv, tvv c.av c.ov c.cv] w' fun e w'' => e = .returned (.bool (fitsB c.g tb)) ∧ Below w'.heap.size w' w'') := fun w' hb => pfits_any c.g c.pv c.lv c.sv tb c.av c.ov c.cv w' (hG.below hb) hwf (hT.below hb)
  rw [hft] at HRF HPF
  have HPP : Hid (∀ w', Below w.heap.size w w' → Calls Tryd.prog 8 #[gv c.g c.pv c.lv c.sv, tvv c.av c.ov c.cv, c.iv] w' fun e w'' => e = .returned (.tuple #[.pointer none, .iface 137 (.pointer (some (a 0)))]) ∧ Below w'.heap.size w' w'') := fun w' hb => pparse_not c tb inp (a 0) w' hft (hG.below hb) (hT.below hb) hwf ((hE.below hb (Nat.le_refl _)).cell 0 (by omega))
  have HPN : Hid (∀ w', Below w.heap.size w w' → Calls Tryd.prog 9 #[gv c.g c.pv c.lv c.sv, tvv c.av c.ov c.cv, c.iv] w' fun e w'' => e = .returned (.slice none 0 0) ∧ Below w'.heap.size w' w'') := fun w' hb => pnext_not c tb w' hft (hG.below hb) (hT.below hb) hwf
  have HCo : Hid (∀ w', Below w.heap.size w w' → Calls Tryd.prog 10 #[.iface 137 (.pointer (some (a 0)))] w' fun e w'' => e = .returned (.tuple #[.int .i64 ((0 : Int) + 1), .int .i64 (-1)]) ∧ Below w'.heap.size w' w'') := fun w' hb => code_err w' a (hE.below hb (Nat.le_refl _)) 0 (by omega)
  have HB0 : Hid (Below w.heap.size w (boxT w c.g c.pv c.lv c.sv c.av c.ov c.cv)) := hB0
  have HBB : Hid (∀ w', Below (boxT w c.g c.pv c.lv c.sv c.av c.ov c.cv).heap.size (boxT w c.g c.pv c.lv c.sv c.av c.ov c.cv) w' → BoxG w' w.heap.size c.g c.pv c.lv c.sv ∧ BoxT w' (w.heap.size + 1) c.av c.ov c.cv ∧ Below w.heap.size w w') := fun w' hb => ⟨hBX.below hBX.lt hb, hBT.below hBT.lt hb, hB0.trans (hb.mono hB0.size)⟩
  obtain ⟨ia, ic, hiv⟩ := hI.slice
  have HS1 : Hid (smallG c.g = true) := hs
  have HT1 : Hid (tabledB tb = true) := htb
  clear hG hT hI hwf hE hs htb hft
  unfold gv gvs tvv tvs at *
  have HWB : Hid ((w.alloc (.cells #[.int .i64 c.g.terms, .int .i64 c.g.names, .int .i64 c.g.start, c.pv, c.lv, c.sv] 25)).alloc (.cells #[c.av, c.ov, c.cv] 30) = boxT w c.g c.pv c.lv c.sv c.av c.ov c.cv) := rfl
  generalize boxT w c.g c.pv c.lv c.sv c.av c.ov c.cv = W1 at *
  obtain ⟨q0, q1, q2, q3, q4, q5, q6⟩ := hBX
  obtain ⟨t0, t1, t2, t3⟩ := hBT
  clear hB0
  rw [hiv] at HPP HPN
  rw [hiv]
  clear hiv
  generalize smallG c.g = b1 at *
  generalize tabledB tb = b2 at *
  go_enter Tryd.func3, Tryd.ntmps3
  go_upto_region 1 with fail
  rw [HWB.out]
  have HB1 : Hid (Below W1.heap.size W1 W1) := Below.refl _ _
  go_wp2_with fail
  go_at_call 4
  refine (HSm.out _ (HBB.out _ HB1.out).2.2).mono ?_
  rintro e w2 ⟨rfl, hb⟩
  have HB2 : Hid (Below W1.heap.size W1 w2) := HB1.out.trans (hb.mono HB1.out.size)
  clear q0 q1 q2 q3 q4 q5 q6 t0 t1 t2 t3 hb
  obtain ⟨⟨q0, q1, q2, q3, q4, q5, q6⟩, ⟨t0, t1, t2, t3⟩, hbw2⟩ := HBB.out w2 HB2.out
  go_wp2_with fail
  go_at_call 5
  refine (HTb.out _ (HBB.out _ HB2.out).2.2).mono ?_
  rintro e w3 ⟨rfl, hb⟩
  have HB3 : Hid (Below W1.heap.size W1 w3) := HB2.out.trans (hb.mono HB2.out.size)
  clear q0 q1 q2 q3 q4 q5 q6 t0 t1 t2 t3 hb
  obtain ⟨⟨q0, q1, q2, q3, q4, q5, q6⟩, ⟨t0, t1, t2, t3⟩, hbw3⟩ := HBB.out w3 HB3.out
  generalize inp.length = n at *
  rw [HS1.out, HT1.out]
  have d0 : decide ((n : Int) > 12) = false := decide_eq_false (by omega)
  go_wp2_with fail
  go_at_call 6
  refine (HRF.out _ (HBB.out _ HB3.out).2.2).mono ?_
  rintro e w4 ⟨rfl, hb⟩
  have HB4 : Hid (Below W1.heap.size W1 w4) := HB3.out.trans (hb.mono HB3.out.size)
  clear q0 q1 q2 q3 q4 q5 q6 t0 t1 t2 t3 hb
  obtain ⟨⟨q0, q1, q2, q3, q4, q5, q6⟩, ⟨t0, t1, t2, t3⟩, hbw4⟩ := HBB.out w4 HB4.out
  go_wp2_with fail
  go_at_call 7
  refine (HPF.out _ (HBB.out _ HB4.out).2.2).mono ?_
  rintro e w5 ⟨rfl, hb⟩
  have HB5 : Hid (Below W1.heap.size W1 w5) := HB4.out.trans (hb.mono HB4.out.size)
  clear q0 q1 q2 q3 q4 q5 q6 t0 t1 t2 t3 hb
  obtain ⟨⟨q0, q1, q2, q3, q4, q5, q6⟩, ⟨t0, t1, t2, t3⟩, hbw5⟩ := HBB.out w5 HB5.out
  go_wp2_with fail
  go_at_call 8
  refine (HPP.out _ (HBB.out _ HB5.out).2.2).mono ?_
  rintro e w6 ⟨rfl, hb⟩
  have HB6 : Hid (Below W1.heap.size W1 w6) := HB5.out.trans (hb.mono HB5.out.size)
  clear q0 q1 q2 q3 q4 q5 q6 t0 t1 t2 t3 hb
  obtain ⟨⟨q0, q1, q2, q3, q4, q5, q6⟩, ⟨t0, t1, t2, t3⟩, hbw6⟩ := HBB.out w6 HB6.out
  go_wp2_with fail
  go_at_call 9
  refine (HPN.out _ (HBB.out _ HB6.out).2.2).mono ?_
  rintro e w7 ⟨rfl, hb⟩
  have HB7 : Hid (Below W1.heap.size W1 w7) := HB6.out.trans (hb.mono HB6.out.size)
  clear q0 q1 q2 q3 q4 q5 q6 t0 t1 t2 t3 hb
  obtain ⟨⟨q0, q1, q2, q3, q4, q5, q6⟩, ⟨t0, t1, t2, t3⟩, hbw7⟩ := HBB.out w7 HB7.out
  go_wp2_with fail
  go_at_call 10
  refine (HCo.out _ (HBB.out _ HB7.out).2.2).mono ?_
  rintro e w8 ⟨rfl, hb⟩
  have HB8 : Hid (Below W1.heap.size W1 w8) := HB7.out.trans (hb.mono HB7.out.size)
  clear q0 q1 q2 q3 q4 q5 q6 t0 t1 t2 t3 hb
  obtain ⟨⟨q0, q1, q2, q3, q4, q5, q6⟩, ⟨t0, t1, t2, t3⟩, hbw8⟩ := HBB.out w8 HB8.out
  go_wp2_with fail
  go_ret
  exact ⟨rfl, hbw8⟩

set_option maxHeartbeats 8000000 in
theorem law_fit (c : PC) (tb : Tb) (inp : List Int) (a : Nat → Addr) (w : World) (hG : GrM w c.g c.pv c.lv c.sv) (hT : TbM w tb c.av c.ov c.cv) (hI : IntsR w c.iv inp) (hwf : WfG c.g) (hE : Errs w a) (hs : smallG c.g = true) (htb : tabledB tb = true) (hlen : inp.length ≤ 12) (hft : fitsB c.g tb = true) :
    Calls Tryd.prog 3 #[gv c.g c.pv c.lv c.sv, tvv c.av c.ov c.cv, c.iv] w fun e w' => e = .returned (.bool true) ∧ Below w.heap.size w w' := by
  obtain ⟨hB0, hBX, hBT⟩ := boxT_all w c.g c.pv c.lv c.sv c.av c.ov c.cv
  have HSm : Hid (∀ w', Below w.heap.size w w' → Calls Tryd.prog 4 #[gv c.g c.pv c.lv c.sv] w' fun e w'' => e = .returned (.bool (smallG c.g)) ∧ Below w'.heap.size w' w'') := fun w' hb => small_any c.g c.pv c.lv c.sv w' (hG.below hb)
  have HTb : Hid (∀ w', Below w.heap.size w w' → Calls Tryd.prog 5 #[tvv c.av c.ov c.cv] w' fun e w'' => e = .returned (.bool (tabledB tb)) ∧ Below w'.heap.size w' w'') := fun w' hb => tabled_any tb c.av c.ov c.cv w' (hT.below hb)
  have HRF : Hid (∀ w', Below w.heap.size w w' → Calls Tryd.prog 6 #[gv c.g c.pv c.lv c.sv, tvv c.av c.ov c.cv] w' fun e w'' => e = .returned (.bool (fitsB c.g tb)) ∧ Below w'.heap.size w' w'') := fun w' hb => rfits_any c.g c.pv c.lv c.sv tb c.av c.ov c.cv w' (hG.below hb) (hT.below hb)
  have HPF : Hid (∀ w', Below w.heap.size w w' → Calls Tryd.prog 7 #[gv c.g c.pv c.lv c.sv, tvv c.av c.ov c.cv] w' fun e w'' => e = .returned (.bool (fitsB c.g tb)) ∧ Below w'.heap.size w' w'') := fun w' hb => pfits_any c.g c.pv c.lv c.sv tb c.av c.ov c.cv w' (hG.below hb) hwf (hT.below hb)
  rw [hft] at HRF HPF
  have HGN : Hid (∀ w', Below w.heap.size w w' → Gnd w' c tb inp (a 1) (a 2) (a 6)) := fun w' hb => Gnd.below ⟨hft, hG, hT, hI, by omega, errs_g hE⟩ hb
  have HPP : Hid (∀ w', Below w.heap.size w w' → Calls Tryd.prog 8 #[gv c.g c.pv c.lv c.sv, tvv c.av c.ov c.cv, c.iv] w' fun e w'' => PpaP w' (a 1) (a 2) (a 6) (parseS c.g tb inp) e w'') := fun w' hb => pparse_fits c tb inp (a 1) (a 2) (a 6) w' (HGN.out w' hb) hwf
  have HPN : Hid (∀ w', Below w.heap.size w w' → Calls Tryd.prog 9 #[gv c.g c.pv c.lv c.sv, tvv c.av c.ov c.cv, c.iv] w' fun e w'' => Below w'.heap.size w' w'' ∧ ∃ v, e = .returned v ∧ IntsR w'' v (nextS c.g tb inp)) := fun w' hb => pnext_fits c tb inp (a 1) (a 2) (a 6) w' (HGN.out w' hb) hwf
  have HRP : Hid (∀ w', Below w.heap.size w w' → Calls Tryd.prog 11 #[gv c.g c.pv c.lv c.sv, tvv c.av c.ov c.cv, c.iv] w' fun e w'' => RpaP w' (a 1) (a 2) (a 6) (parseS c.g tb inp) e w'') := fun w' hb => rparse_any c.g c.pv c.lv c.sv tb c.av c.ov c.cv c.iv (a 1) (a 2) (a 6) inp w' hft (hG.below hb) (hT.below hb) (hI.below hb) (by omega) (HGN.out w' hb).err
  have HRN : Hid (∀ w', Below w.heap.size w w' → Calls Tryd.prog 15 #[gv c.g c.pv c.lv c.sv, tvv c.av c.ov c.cv, c.iv] w' fun e w'' => Below w'.heap.size w' w'' ∧ ∃ v, e = .returned v ∧ IntsR w'' v (nextS c.g tb inp)) := fun w' hb => rnext_any c.g c.pv c.lv c.sv tb c.av c.ov c.cv c.iv (a 1) (a 2) (a 6) inp w' hft (hG.below hb) (hT.below hb) (hI.below hb) (by omega) (HGN.out w' hb).err
  have HKO : Hid ((parseS c.g tb inp).1 = 0 → KidsOk (parseS c.g tb inp).2.2) := fun h => parseS_k hft h
  have HNL : Hid ((nextS c.g tb inp).length ≤ 1000000) := nextS_len inp hft
  have HEE : Hid (∀ w', Below w.heap.size w w' → Errs w' a) := fun w' hb => hE.below hb (Nat.le_refl _)
  have HB0 : Hid (Below w.heap.size w (boxT w c.g c.pv c.lv c.sv c.av c.ov c.cv)) := hB0
  have HBB : Hid (∀ w', Below (boxT w c.g c.pv c.lv c.sv c.av c.ov c.cv).heap.size (boxT w c.g c.pv c.lv c.sv c.av c.ov c.cv) w' → BoxG w' w.heap.size c.g c.pv c.lv c.sv ∧ BoxT w' (w.heap.size + 1) c.av c.ov c.cv ∧ Below w.heap.size w w') := fun w' hb => ⟨hBX.below hBX.lt hb, hBT.below hBT.lt hb, hB0.trans (hb.mono hB0.size)⟩
  obtain ⟨ia, ic, hiv⟩ := hI.slice
  have HS1 : Hid (smallG c.g = true) := hs
  have HT1 : Hid (tabledB tb = true) := htb
  generalize parseS c.g tb inp = q at *
  generalize nextS c.g tb inp = L at *
  clear hG hT hI hwf hE hs htb hft HGN
  unfold gv gvs tvv tvs at *
  have HWB : Hid ((w.alloc (.cells #[.int .i64 c.g.terms, .int .i64 c.g.names, .int .i64 c.g.start, c.pv, c.lv, c.sv] 25)).alloc (.cells #[c.av, c.ov, c.cv] 30) = boxT w c.g c.pv c.lv c.sv c.av c.ov c.cv) := rfl
  generalize boxT w c.g c.pv c.lv c.sv c.av c.ov c.cv = W1 at *
  obtain ⟨q0, q1, q2, q3, q4, q5, q6⟩ := hBX
  obtain ⟨t0, t1, t2, t3⟩ := hBT
  clear hB0
  rw [hiv] at HPP HPN HRP HRN
  rw [hiv]
  clear hiv
  generalize smallG c.g = b1 at *
  generalize tabledB tb = b2 at *
  go_enter Tryd.func3, Tryd.ntmps3
  go_upto_region 1 with fail
  rw [HWB.out]
  have HB1 : Hid (Below W1.heap.size W1 W1) := Below.refl _ _
  go_wp2_with fail
  go_at_call 4
  refine (HSm.out _ (HBB.out _ HB1.out).2.2).mono ?_
  rintro e w2 ⟨rfl, hb⟩
  have HB2 : Hid (Below W1.heap.size W1 w2) := HB1.out.trans (hb.mono HB1.out.size)
  clear q0 q1 q2 q3 q4 q5 q6 t0 t1 t2 t3 hb
  obtain ⟨⟨q0, q1, q2, q3, q4, q5, q6⟩, ⟨t0, t1, t2, t3⟩, hbw2⟩ := HBB.out w2 HB2.out
  go_wp2_with fail
  go_at_call 5
  refine (HTb.out _ (HBB.out _ HB2.out).2.2).mono ?_
  rintro e w3 ⟨rfl, hb⟩
  have HB3 : Hid (Below W1.heap.size W1 w3) := HB2.out.trans (hb.mono HB2.out.size)
  clear q0 q1 q2 q3 q4 q5 q6 t0 t1 t2 t3 hb
  obtain ⟨⟨q0, q1, q2, q3, q4, q5, q6⟩, ⟨t0, t1, t2, t3⟩, hbw3⟩ := HBB.out w3 HB3.out
  generalize inp.length = n at *
  rw [HS1.out, HT1.out]
  have d0 : decide ((n : Int) > 12) = false := decide_eq_false (by omega)
  go_wp2_with fail
  go_at_call 6
  refine (HRF.out _ (HBB.out _ HB3.out).2.2).mono ?_
  rintro e w4 ⟨rfl, hb⟩
  have HB4 : Hid (Below W1.heap.size W1 w4) := HB3.out.trans (hb.mono HB3.out.size)
  clear q0 q1 q2 q3 q4 q5 q6 t0 t1 t2 t3 hb
  obtain ⟨⟨q0, q1, q2, q3, q4, q5, q6⟩, ⟨t0, t1, t2, t3⟩, hbw4⟩ := HBB.out w4 HB4.out
  go_wp2_with fail
  go_at_call 7
  refine (HPF.out _ (HBB.out _ HB4.out).2.2).mono ?_
  rintro e w5 ⟨rfl, hb⟩
  have HB5 : Hid (Below W1.heap.size W1 w5) := HB4.out.trans (hb.mono HB4.out.size)
  clear q0 q1 q2 q3 q4 q5 q6 t0 t1 t2 t3 hb
  obtain ⟨⟨q0, q1, q2, q3, q4, q5, q6⟩, ⟨t0, t1, t2, t3⟩, hbw5⟩ := HBB.out w5 HB5.out
  go_wp2_with fail
  go_at_call 8
  refine (HPP.out _ (HBB.out _ HB5.out).2.2).mono ?_
  rintro e w6 ⟨hb, hres⟩
  have HB6 : Hid (Below W1.heap.size W1 w6) := HB5.out.trans (hb.mono HB5.out.size)
  clear q0 q1 q2 q3 q4 q5 q6 t0 t1 t2 t3 hb
  obtain ⟨⟨q0, q1, q2, q3, q4, q5, q6⟩, ⟨t0, t1, t2, t3⟩, hbw6⟩ := HBB.out w6 HB6.out
  rcases hres with ⟨hq0, tl, rfl, htr⟩ | ⟨hq0, fb, rfl, f0, f1⟩
  · have HTR : Hid (Tree (fun _ => True) w6 (.pointer (some ⟨tl, 0, none⟩)) q.2.2) := htr
    clear htr
    go_wp2_with fail
    go_at_call 9
    refine (HPN.out _ (HBB.out _ HB6.out).2.2).mono ?_
    rintro e w7 ⟨hb, v6, rfl, hv6⟩
    have HC7 : Hid (Below w6.heap.size w6 w7) := hb
    have HB7 : Hid (Below W1.heap.size W1 w7) := HB6.out.trans (hb.mono HB6.out.size)
    clear q0 q1 q2 q3 q4 q5 q6 t0 t1 t2 t3 hb
    obtain ⟨⟨q0, q1, q2, q3, q4, q5, q6⟩, ⟨t0, t1, t2, t3⟩, hbw7⟩ := HBB.out w7 HB7.out
    have HV6 : Hid (Below w7.heap.size w7 w7 ∧ IntsR w7 v6 L) := ⟨Below.refl _ _, hv6⟩
    obtain ⟨va, vc, rfl⟩ := hv6.slice
    clear hv6
    go_wp2_with fail
    go_at_call 11
    refine (HRP.out _ (HBB.out _ HB7.out).2.2).mono ?_
    rintro e w8 ⟨hb, hres⟩
    have HC8 : Hid (Below w7.heap.size w7 w8) := hb
    have HB8 : Hid (Below W1.heap.size W1 w8) := HB7.out.trans (hb.mono HB7.out.size)
    clear q0 q1 q2 q3 q4 q5 q6 t0 t1 t2 t3 hb
    obtain ⟨⟨q0, q1, q2, q3, q4, q5, q6⟩, ⟨t0, t1, t2, t3⟩, hbw8⟩ := HBB.out w8 HB8.out
    rcases hres with ⟨_, tl2, rfl, htr2⟩ | ⟨hq1, _⟩
    · have HTR2 : Hid (Tree (fun _ => True) w8 (.pointer (some ⟨tl2, 0, none⟩)) q.2.2) := htr2
      have HB68 : Hid (Below w6.heap.size w6 w8) := HC7.out.trans (HC8.out.mono HC7.out.size)
      clear htr2
      have HTN : Hid (∀ w' : World, Calls Tryd.prog 12 #[.nilIface, .nilIface, .int .i64 0] w' fun e w'' => e = .returned (.bool true) ∧ Below w'.heap.size w' w'') := fun w' => told_nil 0 w'
      go_wp2_with fail
      go_at_call 12
      refine (HTN.out _).mono ?_
      rintro e w9 ⟨rfl, hb⟩
      have HC9 : Hid (Below w8.heap.size w8 w9) := hb
      have HB9 : Hid (Below W1.heap.size W1 w9) := HB8.out.trans (hb.mono HB8.out.size)
      clear q0 q1 q2 q3 q4 q5 q6 t0 t1 t2 t3 hb
      obtain ⟨⟨q0, q1, q2, q3, q4, q5, q6⟩, ⟨t0, t1, t2, t3⟩, hbw9⟩ := HBB.out w9 HB9.out
      have HB89 : Hid (Below w8.heap.size w8 w9) := HC9.out
      have HSA : Hid (Calls Tryd.prog 13 #[.pointer (some ⟨tl, 0, none⟩), .pointer (some ⟨tl2, 0, none⟩)] w9 fun e w' => e = .returned (.bool true) ∧ Below w9.heap.size w9 w') := by
        obtain ⟨m1, h1⟩ := HTR.out
        obtain ⟨m2, h2⟩ := HTR2.out
        have b1 := HB68.out.trans (HB89.out.mono HB68.out.size)
        exact same_tree (max m1 m2) w9 _ _ q.2.2 (HKO.out hq0) ((h1.below b1).more m1 _ (Nat.le_max_left _ _)) ((h2.below HB89.out).more m2 _ (Nat.le_max_right _ _))
      go_wp2_with fail
      go_at_call 13
      refine (HSA.out).mono ?_
      rintro e w10 ⟨rfl, hb⟩
      have HC10 : Hid (Below w9.heap.size w9 w10) := hb
      have HB10 : Hid (Below W1.heap.size W1 w10) := HB9.out.trans (hb.mono HB9.out.size)
      clear q0 q1 q2 q3 q4 q5 q6 t0 t1 t2 t3 hb
      obtain ⟨⟨q0, q1, q2, q3, q4, q5, q6⟩, ⟨t0, t1, t2, t3⟩, hbw10⟩ := HBB.out w10 HB10.out
      go_wp2_with fail
      go_at_call 15
      refine (HRN.out _ (HBB.out _ HB10.out).2.2).mono ?_
      rintro e w11 ⟨hb, v9, rfl, hv9⟩
      have HC11 : Hid (Below w10.heap.size w10 w11) := hb
      have HB11 : Hid (Below W1.heap.size W1 w11) := HB10.out.trans (hb.mono HB10.out.size)
      clear q0 q1 q2 q3 q4 q5 q6 t0 t1 t2 t3 hb
      obtain ⟨⟨q0, q1, q2, q3, q4, q5, q6⟩, ⟨t0, t1, t2, t3⟩, hbw11⟩ := HBB.out w11 HB11.out
      have HSI : Hid (Calls Tryd.prog 14 #[.slice va L.length vc, v9] w11 fun e w' => e = .returned (.bool (decide (L = L))) ∧ Below w11.heap.size w11 w') := same_any _ _ L L w11 HNL.out (HV6.out.2.below (HC8.out.trans ((HC9.out.trans ((HC10.out.trans (HC11.out.mono HC10.out.size)).mono HC9.out.size)).mono HC8.out.size))) hv9
      obtain ⟨za, zc, rfl⟩ := hv9.slice
      rw [decide_eq_true rfl] at HSI
      clear hv9
      go_wp2_with fail
      go_at_call 14
      refine (HSI.out).mono ?_
      rintro e w12 ⟨rfl, hb⟩
      have HC12 : Hid (Below w11.heap.size w11 w12) := hb
      have HB12 : Hid (Below W1.heap.size W1 w12) := HB11.out.trans (hb.mono HB11.out.size)
      clear q0 q1 q2 q3 q4 q5 q6 t0 t1 t2 t3 hb
      obtain ⟨⟨q0, q1, q2, q3, q4, q5, q6⟩, ⟨t0, t1, t2, t3⟩, hbw12⟩ := HBB.out w12 HB12.out
      go_wp2_with fail
      go_ret
      exact ⟨rfl, hbw12⟩
    · exact absurd hq0 hq1
  · obtain ⟨i, hi, hev⟩ := errV_at a q.1 hq0
    have HF : Hid (w6.cell? ⟨fb, 0, none⟩ = some (.iface 137 (.pointer (some (a i)))) ∧ w6.cell? ⟨fb, 1, none⟩ = some (.int .i64 q.2.1)) := ⟨by rw [f0, hev]; rfl, f1⟩
    have HEV : Hid (errV (a 1) (a 2) (a 6) q.1 = .iface 137 (.pointer (some (a i)))) := hev
    clear f0 f1 hev
    go_wp2_with fail
    go_at_call 9
    refine (HPN.out _ (HBB.out _ HB6.out).2.2).mono ?_
    rintro e w7 ⟨hb, v6, rfl, hv6⟩
    have HC7 : Hid (Below w6.heap.size w6 w7) := hb
    have HB7 : Hid (Below W1.heap.size W1 w7) := HB6.out.trans (hb.mono HB6.out.size)
    clear q0 q1 q2 q3 q4 q5 q6 t0 t1 t2 t3 hb
    obtain ⟨⟨q0, q1, q2, q3, q4, q5, q6⟩, ⟨t0, t1, t2, t3⟩, hbw7⟩ := HBB.out w7 HB7.out
    have HV6 : Hid (Below w7.heap.size w7 w7 ∧ IntsR w7 v6 L) := ⟨Below.refl _ _, hv6⟩
    obtain ⟨va, vc, rfl⟩ := hv6.slice
    clear hv6
    go_wp2_with fail
    go_at_call 11
    refine (HRP.out _ (HBB.out _ HB7.out).2.2).mono ?_
    rintro e w8 ⟨hb, hres⟩
    have HC8 : Hid (Below w7.heap.size w7 w8) := hb
    have HB8 : Hid (Below W1.heap.size W1 w8) := HB7.out.trans (hb.mono HB7.out.size)
    clear q0 q1 q2 q3 q4 q5 q6 t0 t1 t2 t3 hb
    obtain ⟨⟨q0, q1, q2, q3, q4, q5, q6⟩, ⟨t0, t1, t2, t3⟩, hbw8⟩ := HBB.out w8 HB8.out
    rcases hres with ⟨hq1, _⟩ | ⟨_, rfl⟩
    · exact absurd hq1 hq0
    · rw [HEV.out]
      have HB68 : Hid (Below w6.heap.size w6 w8) := HC7.out.trans (HC8.out.mono HC7.out.size)
      have HTN : Hid (Calls Tryd.prog 12 #[.iface 66 (.pointer (some ⟨fb, 0, none⟩)), .iface 137 (.pointer (some (a i))), .int .i64 q.2.1] w8 fun e w'' => e = .returned (.bool true) ∧ Below w8.heap.size w8 w'') := told_flt w8 a (HEE.out w8 hbw8) i hi fb q.2.1 ((HB68.out.cell (p := ⟨fb, 0, none⟩) (lt_of_cellY HF.out.1)).trans HF.out.1) ((HB68.out.cell (p := ⟨fb, 1, none⟩) (lt_of_cellY HF.out.2)).trans HF.out.2)
      go_wp2_with fail
      go_at_call 12
      refine (HTN.out).mono ?_
      rintro e w9 ⟨rfl, hb⟩
      have HC9 : Hid (Below w8.heap.size w8 w9) := hb
      have HB9 : Hid (Below W1.heap.size W1 w9) := HB8.out.trans (hb.mono HB8.out.size)
      clear q0 q1 q2 q3 q4 q5 q6 t0 t1 t2 t3 hb
      obtain ⟨⟨q0, q1, q2, q3, q4, q5, q6⟩, ⟨t0, t1, t2, t3⟩, hbw9⟩ := HBB.out w9 HB9.out
      have HSA : Hid (Calls Tryd.prog 13 #[.pointer none, .pointer none] w9 fun e w' => e = .returned (.bool true) ∧ Below w9.heap.size w9 w') := same_nil w9
      go_wp2_with fail
      go_at_call 13
      refine (HSA.out).mono ?_
      rintro e w10 ⟨rfl, hb⟩
      have HC10 : Hid (Below w9.heap.size w9 w10) := hb
      have HB10 : Hid (Below W1.heap.size W1 w10) := HB9.out.trans (hb.mono HB9.out.size)
      clear q0 q1 q2 q3 q4 q5 q6 t0 t1 t2 t3 hb
      obtain ⟨⟨q0, q1, q2, q3, q4, q5, q6⟩, ⟨t0, t1, t2, t3⟩, hbw10⟩ := HBB.out w10 HB10.out
      go_wp2_with fail
      go_at_call 15
      refine (HRN.out _ (HBB.out _ HB10.out).2.2).mono ?_
      rintro e w11 ⟨hb, v9, rfl, hv9⟩
      have HC11 : Hid (Below w10.heap.size w10 w11) := hb
      have HB11 : Hid (Below W1.heap.size W1 w11) := HB10.out.trans (hb.mono HB10.out.size)
      clear q0 q1 q2 q3 q4 q5 q6 t0 t1 t2 t3 hb
      obtain ⟨⟨q0, q1, q2, q3, q4, q5, q6⟩, ⟨t0, t1, t2, t3⟩, hbw11⟩ := HBB.out w11 HB11.out
      have HSI : Hid (Calls Tryd.prog 14 #[.slice va L.length vc, v9] w11 fun e w' => e = .returned (.bool (decide (L = L))) ∧ Below w11.heap.size w11 w') := same_any _ _ L L w11 HNL.out (HV6.out.2.below (HC8.out.trans ((HC9.out.trans ((HC10.out.trans (HC11.out.mono HC10.out.size)).mono HC9.out.size)).mono HC8.out.size))) hv9
      obtain ⟨za, zc, rfl⟩ := hv9.slice
      rw [decide_eq_true rfl] at HSI
      clear hv9
      go_wp2_with fail
      go_at_call 14
      refine (HSI.out).mono ?_
      rintro e w12 ⟨rfl, hb⟩
      have HC12 : Hid (Below w11.heap.size w11 w12) := hb
      have HB12 : Hid (Below W1.heap.size W1 w12) := HB11.out.trans (hb.mono HB11.out.size)
      clear q0 q1 q2 q3 q4 q5 q6 t0 t1 t2 t3 hb
      obtain ⟨⟨q0, q1, q2, q3, q4, q5, q6⟩, ⟨t0, t1, t2, t3⟩, hbw12⟩ := HBB.out w12 HB12.out
      go_wp2_with fail
      go_ret
      exact ⟨rfl, hbw12⟩

theorem law_all (c : PC) (tb : Tb) (inp : List Int) (a : Nat → Addr) (w : World) (hG : GrM w c.g c.pv c.lv c.sv) (hT : TbM w tb c.av c.ov c.cv) (hI : IntsR w c.iv inp) (hwf : WfG c.g) (hE : Errs w a) : Calls Tryd.prog 3 #[gv c.g c.pv c.lv c.sv, tvv c.av c.ov c.cv, c.iv] w fun e w' => e = .returned (.bool true) ∧ Below w.heap.size w w' := by
  by_cases hfar : smallG c.g = false ∨ tabledB tb = false ∨ 12 < inp.length
  · exact law_far c tb inp a w hG hT hI hwf hE hfar
  · have hs : smallG c.g = true := by
      cases hq : smallG c.g with
      | false => exact (hfar (.inl hq)).elim
      | true => rfl
    have ht : tabledB tb = true := by
      cases hq : tabledB tb with
      | false => exact (hfar (.inr (.inl hq))).elim
      | true => rfl
    cases hf : fitsB c.g tb with
    | false => exact law_not c tb inp a w hG hT hI hwf hE hs ht (by omega) hf
    | true => exact law_fit c tb inp a w hG hT hI hwf hE hs ht (by omega) hf

end Go.Proofs.YtdihdnhofgjhnaaDoor
