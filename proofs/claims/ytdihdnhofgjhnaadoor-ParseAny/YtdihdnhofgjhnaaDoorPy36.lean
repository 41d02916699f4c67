/- Texts of the proof, put together: YPnz. -/
import Derived.Test.YtdihdnhofgjhnaaDoorPy31
import Derived.Test.YtdihdnhofgjhnaaDoorPy35
namespace Go.Proofs.YtdihdnhofgjhnaaDoor
open Go.RowKit
set_option linter.unusedVariables false
set_option maxRecDepth 100000

theorem one_ints (w : World) (x : Int) : IntsR (w.alloc (.cells #[.int .i64 x] 3)) (.slice (some ⟨w.heap.size, 0, none⟩) 1 1) [x] := by
  refine ⟨some ⟨w.heap.size, 0, none⟩, 1, rfl, by simp, .inr ⟨w.heap.size, 0, rfl, by simp, fun j hj => ?_⟩⟩
  have hj0 : j = 0 := by simpa using hj
  subst hj0
  simp

set_option maxHeartbeats 8000000 in
theorem nextOnes_any {w0 w : World} {c : PC} {tb : Tb} {inp : List Int} {P a r : Nat} {σ : Pl} {tq : Nat} {ab ar ae : Addr} (h : PsI w0 w c P a r σ false tq) (hN : Gnd w0 c tb inp ab ar ae) (hok : PlOk c.g tb σ) (hlen : σ.length ≤ 880000) :
    Calls Tryd.prog 23 #[.pointer (some ⟨P, 0, none⟩)] w fun e w' => Below w.heap.size w w' ∧ ∃ v, e = .returned v ∧ IntsR w' v (nextUp c.g tb σ (c.g.terms.toNat + 1)) := by
  obtain ⟨i1, hi0, hi1, hi2, hi3⟩ := info_parts Tryd.infoIntY
  have hTT : 0 ≤ c.g.terms ∧ c.g.terms ≤ 300 := by
    have h := (fits_parts hN.fit).1
    unfold gOkB at h
    simp only [Bool.and_eq_true, decide_eq_true_eq] at h
    exact ⟨h.1.1, h.1.2.1⟩
  obtain ⟨hT0, hT1⟩ := hTT
  have HI : Hid (PsI w0 w c P a r σ false tq) := h
  have HGo : Hid (∀ w1 (one : List Int) (iv : Value), Below w.heap.size w w1 → IntsR w1 iv one → one.length ≤ 1 → oobB c.g one 0 = false → Calls Tryd.prog 36 #[.pointer (some ⟨P, 0, none⟩), iv] w1 fun e w' => e = .returned (.bool (decide ((setS c.g tb (termAt c.g one 0) 10000 σ).1 = 0))) ∧ Below w1.heap.size w1 w') := fun w1 one iv hb h1 h2 h3 => goesOn_any (h.below hb) hN hok hlen one iv h1 h2 h3
  have c0 : w.cell? ⟨P, 0, none⟩ = some (.int .i64 c.g.terms) := h.par.at 0
  have plt := h.par.lt
  have HPL : Hid (P < w.heap.size) := plt
  have HC0 : Hid (w.cell? ⟨P, 0, none⟩ = some (.int .i64 c.g.terms)) := c0
  clear h hN hok
  generalize c.g = g at *
  go_enter Tryd.func23, Tryd.ntmps23
  go_wp2
  clear c0 plt
  go_loopw [3, 10] (fun lv' kv wr => ∃ (k : Nat), (k : Int) ≤ g.terms ∧ kv = .int .i64 k ∧ Hid (wr.ownsRow w.heap.size 3 1 lv' (nextUp g tb σ k).length (intV (nextUp g tb σ k))) ∧ Hid (Below w.heap.size w wr)) (fun _ kv _ => g.terms.toNat + 1 - (intOf kv).toNat)
  case atStart => exact ⟨0, by omega, rfl, ⟨rfl, .inl ⟨rfl, rfl⟩⟩, Below.refl _ _⟩
  case round =>
    obtain ⟨k, hk, rfl, HO, HBW⟩ := hrel
    obtain ⟨la, lc, rfl⟩ := own_sliceE HO.out
    have hnl := nextUp_len g tb σ k
    by_cases hlt : (k : Int) < g.terms
    · have hbA := alloc_below wr (.cells #[.int .i64 k] 3)
      have HSC : Hid (Calls Tryd.prog 36 #[.pointer (some ⟨P, 0, none⟩), .slice (some ⟨wr.heap.size, 0, none⟩) 1 1] (wr.alloc (.cells #[.int .i64 k] 3)) fun e w' => e = .returned (.bool (decide ((setS g tb k 10000 σ).1 = 0))) ∧ Below (wr.alloc (.cells #[.int .i64 k] 3)).heap.size (wr.alloc (.cells #[.int .i64 k] 3)) w') := by
        have h9 := HGo.out (wr.alloc (.cells #[.int .i64 k] 3)) [(k : Int)] (.slice (some ⟨wr.heap.size, 0, none⟩) 1 1) (HBW.out.trans (hbA.mono HBW.out.size)) (one_ints wr k) (by simp) (by
          unfold oobB
          simp
          omega)
        have e9 : termAt g [(k : Int)] 0 = (k : Int) := rfl
        rw [e9] at h9
        exact h9
      have HNU : Hid (nextUp g tb σ (k + 1) = nextUp g tb σ k ++ (if (setS g tb k 10000 σ).1 = 0 then [(k : Int)] else [])) := rfl
      generalize setS g tb k 10000 σ = S at *
      generalize hLe : nextUp g tb σ k = L at *
      clear hLe
      have hsz := HBW.out.size
      go_wp2_with fail
      go_at_call 36
      refine HSC.out.mono ?_
      rintro e w3 ⟨rfl, hb3⟩
      have HB4 : Hid (Below wr.heap.size wr w3) := hbA.trans (hb3.mono hbA.size)
      have HO4 : Hid (w3.ownsRow w.heap.size 3 1 (.slice la L.length lc) L.length (intV L)) := own_belowE HO.out HB4.out
      clear hbA hb3 HSC
      have hs4 := HB4.out.size
      by_cases hs0 : S.1 = 0
      · have HN2 : Hid (nextUp g tb σ (k + 1) = L ++ [(k : Int)]) := by show _ = _; rw [HNU.out, if_pos hs0]
        rw [decide_eq_true hs0]
        go_wp2_with (at_builtin; refine wpList_append_lies _ rfl _ _ 23 rfl w.heap.size 3 i1 (.int .i64 0) 1 8 Tryd.underlying23 hi0 hi1 hi2 hi3 rfl (by decide) (.slice la L.length lc) L.length (intV L) rfl (World.ownsRow.alloc HO4.out _) ⟨w3.heap.size, 0, none⟩ 1 1 [.int .i64 k] rfl rfl (cell_one_new w3 _ _) (by intro x hx; simp at hx; subst hx; rfl) (by omega) (by unfold maxLen; omega) (by omega) (by simp; omega) (w3.heap.size + 1) (by simp) ?_)
        intro g9 cap9 w9 hown9 hg9 hat9 hlt9
        have HO9 : Hid (w9.ownsRow w.heap.size 3 1 (.slice (some ⟨g9, 0, none⟩) (L.length + 1) cap9) (nextUp g tb σ (k + 1)).length (intV (nextUp g tb σ (k + 1)))) := by
          rw [HN2.out, intV_snoc, List.length_append]
          exact hown9
        have HB9 : Hid (Below w.heap.size w w9) := below_grownY (HBW.out.trans (HB4.out.mono hsz)) hg9 (fun b e => (HO4.out.lt b e).1) (by omega)
        clear hown9 hg9 hat9 hlt9 HO4 HO
        go_wp2_with fail
        go_roundw
        case rel => exact ⟨k + 1, by omega, by go_num, HO9, HB9⟩
        case measure => simp [intOf]; omega
      · have HN2 : Hid (nextUp g tb σ (k + 1) = L) := by show _ = _; rw [HNU.out, if_neg hs0, List.append_nil]
        rw [decide_eq_false hs0]
        go_wp2_with fail
        go_roundw
        case rel => exact ⟨k + 1, by omega, by go_num, (by rw [HN2.out]; exact HO4), HBW.out.trans (HB4.out.mono hsz)⟩
        case measure => simp [intOf]; omega
    · have hke : (k : Int) = g.terms := by omega
      have HKE : Hid (k = g.terms.toNat) := by show _ = _; omega
      have HSC : Hid (Calls Tryd.prog 36 #[.pointer (some ⟨P, 0, none⟩), .slice none 0 0] wr fun e w' => e = .returned (.bool (decide ((setS g tb k 10000 σ).1 = 0))) ∧ Below wr.heap.size wr w') := by
        have h9 := HGo.out wr [] (.slice none 0 0) HBW.out ⟨none, 0, rfl, by simp, .inl rfl⟩ (by simp) (by unfold oobB; simp)
        have e9 : termAt g [] 0 = (k : Int) := by rw [hke]; rfl
        rw [e9] at h9
        exact h9
      have HNU : Hid (nextUp g tb σ (g.terms.toNat + 1) = nextUp g tb σ k ++ (if (setS g tb k 10000 σ).1 = 0 then [(k : Int)] else [])) := by
        show _ = _
        rw [← HKE.out]
        rfl
      generalize setS g tb k 10000 σ = S at *
      generalize hLe : nextUp g tb σ k = L at *
      clear hLe
      have hsz := HBW.out.size
      go_wp2_with fail
      go_at_call 36
      refine HSC.out.mono ?_
      rintro e w3 ⟨rfl, hb3⟩
      have HB3 : Hid (Below w.heap.size w w3) := HBW.out.trans (hb3.mono hsz)
      have HO4 : Hid (w3.ownsRow w.heap.size 3 1 (.slice la L.length lc) L.length (intV L)) := own_belowE HO.out hb3
      have hs4 := hb3.size
      have d0 : w3.cell? ⟨P, 0, none⟩ = some (.int .i64 g.terms) := (HB3.out.cell (p := ⟨P, 0, none⟩) HPL.out).trans HC0.out
      have dl : P < w3.heap.size := Nat.lt_of_lt_of_le HPL.out HB3.out.size
      clear hb3 HSC
      by_cases hs0 : S.1 = 0
      · have HN2 : Hid (nextUp g tb σ (g.terms.toNat + 1) = L ++ [g.terms]) := by show _ = _; rw [HNU.out, if_pos hs0, hke]
        rw [decide_eq_true hs0]
        clear hke
        go_wp2_with (at_builtin; refine wpList_append_lies _ rfl _ _ 23 rfl w.heap.size 3 i1 (.int .i64 0) 1 8 Tryd.underlying23 hi0 hi1 hi2 hi3 rfl (by decide) (.slice la L.length lc) L.length (intV L) rfl (World.ownsRow.alloc HO4.out _) ⟨w3.heap.size, 0, none⟩ 1 1 [.int .i64 g.terms] rfl rfl (cell_one_new w3 _ _) (by intro x hx; simp at hx; subst hx; rfl) (by omega) (by unfold maxLen; omega) (by omega) (by simp; omega) (w3.heap.size + 1) (by simp) ?_)
        intro g9 cap9 w9 hown9 hg9 hat9 hlt9
        have HO9 : Hid (IntsR w9 (.slice (some ⟨g9, 0, none⟩) (L.length + 1) cap9) (nextUp g tb σ (g.terms.toNat + 1))) := by
          rw [HN2.out]
          refine ints_of_own (B := w.heap.size) (n := L.length + 1) ?_
          rw [intV_snoc]
          exact hown9
        have HB9 : Hid (Below w.heap.size w w9) := below_grownY HB3.out hg9 (fun b e => (HO4.out.lt b e).1) (by omega)
        clear hown9 hg9 hat9 hlt9 HO4 HO
        go_wp2_with fail
        go_ret
        exact ⟨HB9.out, _, rfl, HO9.out⟩
      · have HN2 : Hid (nextUp g tb σ (g.terms.toNat + 1) = L) := by show _ = _; rw [HNU.out, if_neg hs0, List.append_nil]
        rw [decide_eq_false hs0]
        go_wp2_with fail
        go_ret
        exact ⟨HB3.out, _, rfl, by rw [HN2.out]; exact ints_of_own HO4.out⟩

/-- on the way -/
structure PnI (w wr : World) (c : PC) (tb : Tb) (inp : List Int) (R : Int × Nat × Pl) (P a r : Nat) (σ : Pl) (tq : Nat) : Prop where
  ps : PsI w wr c P a r σ false tq
  ok : PlOk c.g tb σ
  ha : a ≤ inp.length
  hr : r ≤ 10000
  hl : σ.length ≤ a * 10001 + r
  no : readR c.g tb inp a r σ = R
theorem PnI.step {w wr w2 : World} {c : PC} {tb : Tb} {inp : List Int} {R : Int × Nat × Pl} {P a r : Nat} {σ : Pl} {tq tq' : Nat} (h : PnI w wr c tb inp R P a r σ tq) (hf : fitsB c.g tb = true) (hlt : a < inp.length) (h0 : (stepS c.g tb inp a r σ).code = 0) (hps : PsI w w2 c P (stepS c.g tb inp a r σ).at_ (stepS c.g tb inp a r σ).red (stepS c.g tb inp a r σ).pl (stepS c.g tb inp a r σ).acc tq') :
    PnI w w2 c tb inp R P (stepS c.g tb inp a r σ).at_ (stepS c.g tb inp a r σ).red (stepS c.g tb inp a r σ).pl tq' ∧ mzP inp.length (stepS c.g tb inp a r σ).at_ (stepS c.g tb inp a r σ).red false < mzP inp.length a r false := by
  obtain ⟨k1, k2, k3, k4, k5, k6, k7⟩ := step_ok hf h.ok h.ha h.hr h0
  have hl := h.hl
  have hno := h.no
  have hr := h.hr
  generalize stepS c.g tb inp a r σ = q at *
  cases hq : q.acc with
  | true =>
    obtain ⟨j1, _⟩ := k6 hq
    omega
  | false =>
    obtain ⟨j1, j2, j3⟩ := k7 hq
    rw [hq] at hps
    refine ⟨⟨hps, k1, k2, k4, ?_, (j2 hlt).trans hno⟩, ?_⟩
    · rcases j3 with ⟨e1, e2, _⟩ | ⟨e1, e2, _⟩ <;> · rw [e1, e2]; omega
    · unfold mzP
      rcases j3 with ⟨e1, e2, _⟩ | ⟨e1, e2, _⟩ <;> · rw [e1, e2]; simp; omega

set_option maxHeartbeats 8000000 in
theorem pnext_fits (c : PC) (tb : Tb) (inp : List Int) (ab ar ae : Addr) (w : World) (hN : Gnd w c tb inp ab ar ae) (hwf : WfG c.g) :
    Calls Tryd.prog 9 #[gv c.g c.pv c.lv c.sv, tvv c.av c.ov c.cv, c.iv] w fun e w' => Below w.heap.size w w' ∧ ∃ v, e = .returned v ∧ IntsR w' v (nextS c.g tb inp) := by
  obtain ⟨hB0, hBX, hBT⟩ := boxT_all w c.g c.pv c.lv c.sv c.av c.ov c.cv
  have HFi : Hid (∀ w', Below w.heap.size w w' → Calls Tryd.prog 7 #[gv c.g c.pv c.lv c.sv, tvv c.av c.ov c.cv] w' fun e w'' => e = .returned (.bool true) ∧ Below w'.heap.size w' w'') := fun w' hb => by
    have h := pfits_any c.g c.pv c.lv c.sv tb c.av c.ov c.cv w' (hN.gr.below hb) hwf (hN.tbl.below hb)
    rw [hN.fit] at h
    exact h
  have HPO : Hid (∀ w', Below w.heap.size w w' → Calls Tryd.prog 20 #[gv c.g c.pv c.lv c.sv, tvv c.av c.ov c.cv, c.iv] w' fun e w'' => ∃ P tq, e = .returned (.pointer (some ⟨P, 0, none⟩)) ∧ Hid (PsI w w'' c P 0 0 [] false tq)) := fun w' hb => by
    refine (parserOf_any c tb inp w' (hN.gr.below hb) (hN.tbl.below hb) (hN.inn.below hb)).mono ?_
    rintro e w2 ⟨P, tq, rfl, h⟩
    exact ⟨P, tq, rfl, hb.trans (h.bel.mono hb.size), Nat.le_trans hb.size h.low, h.par, h.pil⟩
  have HST : Hid (∀ wr P a r σ tq, PsI w wr c P a r σ false tq → PlOk c.g tb σ → a ≤ inp.length → r ≤ 10000 → σ.length ≤ 900000 → Calls Tryd.prog 22 #[.pointer (some ⟨P, 0, none⟩)] wr fun e w' => StpP w wr c P a (stepS c.g tb inp a r σ) ab ar ae e w') := fun wr P a r σ tq h h1 h2 h3 h4 => step_any h hN h1 h2 h3 h4
  have HNO : Hid (∀ wr P a r σ tq, PsI w wr c P a r σ false tq → PlOk c.g tb σ → σ.length ≤ 880000 → Calls Tryd.prog 23 #[.pointer (some ⟨P, 0, none⟩)] wr fun e w' => Below wr.heap.size wr w' ∧ ∃ v, e = .returned v ∧ Hid (IntsR w' v (nextUp c.g tb σ (c.g.terms.toNat + 1)))) := fun wr P a r σ tq h h1 h2 => nextOnes_any h hN h1 h2
  have HFT : Hid (fitsB c.g tb = true) := hN.fit
  have HLE : Hid (inp.length ≤ 80) := hN.len
  obtain ⟨ia, ic, hiv⟩ := hN.inn.slice
  have HPS : Hid (nextS c.g tb inp = if (readS c.g tb inp 0 []).1 = 0 then nextUp c.g tb (readS c.g tb inp 0 []).2.2 (c.g.terms.toNat + 1) else []) := rfl
  have HRZ : Hid (readR c.g tb inp 0 0 [] = readS c.g tb inp 0 []) := by show _ = _; rw [readR_zero _ _ _ _ _ (by omega), List.drop_zero]
  generalize nextS c.g tb inp = Q at *
  generalize readS c.g tb inp 0 [] = R at *
  clear hN hwf
  have HB0 : Hid (Below w.heap.size w (boxT w c.g c.pv c.lv c.sv c.av c.ov c.cv)) := hB0
  have HBX : Hid (BoxG (boxT w c.g c.pv c.lv c.sv c.av c.ov c.cv) w.heap.size c.g c.pv c.lv c.sv) := hBX
  have HBT : Hid (BoxT (boxT w c.g c.pv c.lv c.sv c.av c.ov c.cv) (w.heap.size + 1) c.av c.ov c.cv) := hBT
  clear hB0 hBX hBT
  unfold gv gvs tvv tvs at *
  have HWB : Hid ((w.alloc (.cells #[.int .i64 c.g.terms, .int .i64 c.g.names, .int .i64 c.g.start, c.pv, c.lv, c.sv] 25)).alloc (.cells #[c.av, c.ov, c.cv] 30) = boxT w c.g c.pv c.lv c.sv c.av c.ov c.cv) := rfl
  generalize boxT w c.g c.pv c.lv c.sv c.av c.ov c.cv = W1 at *
  obtain ⟨q0, q1, q2, q3, q4, q5, q6⟩ := HBX.out
  obtain ⟨t0, t1, t2, t3⟩ := HBT.out
  rw [hiv] at HPO
  rw [hiv]
  generalize hNi : inp.length = Ni at *
  have HNi : Hid (inp.length = Ni) := hNi
  clear hNi
  go_enter Tryd.func9, Tryd.ntmps9
  go_upto_region 1 with fail
  rw [HWB.out]
  go_wp2_with fail
  go_at_call 7
  refine (HFi.out _ HB0.out).mono ?_
  rintro e w2 ⟨rfl, hb2⟩
  have HB2 : Hid (Below w.heap.size w w2) := HB0.out.trans (hb2.mono HB0.out.size)
  have HX2 := HBX.out.below HBX.out.lt hb2
  have HT2 := HBT.out.below HBT.out.lt hb2
  clear q0 q1 q2 q3 q4 q5 q6 t0 t1 t2 t3 hb2 HBX HBT HB0 HWB HFi
  obtain ⟨q0, q1, q2, q3, q4, q5, q6⟩ := HX2
  obtain ⟨t0, t1, t2, t3⟩ := HT2
  go_wp2_with fail
  go_at_call 20
  refine (HPO.out _ HB2.out).mono ?_
  rintro e w3 ⟨P, tq, rfl, HP3⟩
  clear q0 q1 q2 q3 q4 q5 q6 t0 t1 t2 t3 HPO HB2
  have HI3 : Hid (PnI w w3 c tb inp R P 0 0 [] tq) := ⟨HP3.out, ⟨fun x hx => by simp at hx, fun x hx => by simp at hx⟩, by omega, by omega, by simp, HRZ.out⟩
  clear HP3
  go_wp2_with fail
  go_loopg [6] (mzP Ni 0 0 false) (fun gn ev wr => ∃ (a r : Nat) (σ : Pl) (tq : Nat), Hid (mzP Ni a r false ≤ gn) ∧ Hid (PnI w wr c tb inp R P a r σ tq))
  case atStart => exact ⟨0, 0, [], tq, (show _ ≤ _ from Nat.le_refl _), HI3⟩
  case round =>
    clear HI3
    obtain ⟨a, r, σ, tq, HM, HI⟩ := hrel
    have c14 : wr.cell? ⟨P, 14, none⟩ = some (.int .i64 a) := HI.out.ps.par.at 14
    have plt := HI.out.ps.par.lt
    have han : a ≤ Ni := by rw [← HNi.out]; exact HI.out.ha
    have hsl : σ.length ≤ 880000 := by
      have h1 := HI.out.hl
      have h3 := HI.out.hr
      have h4 := HLE.out
      omega
    by_cases hlt : a < Ni
    · have HC : Hid (Calls Tryd.prog 22 #[.pointer (some ⟨P, 0, none⟩)] wr fun e w' => StpP w wr c P a (stepS c.g tb inp a r σ) ab ar ae e w') := HST.out wr P a r σ tq HI.out.ps HI.out.ok (by omega) HI.out.hr (by omega)
      go_wp2_with fail
      go_at_call 22
      refine HC.out.mono ?_
      rintro e w4 ⟨hg4, hres⟩
      have HB4 : Hid (Below w.heap.size w w4) := below_grownP HI.out.ps.bel hg4 HI.out.ps.low
      rcases hres with ⟨h0, rfl, tq', hps⟩ | ⟨h0, fb, rfl, f0, f1⟩
      · obtain ⟨h5, h6⟩ := HI.out.step HFT.out (by rw [HNi.out]; exact hlt) h0 hps
        rw [HNi.out] at h6
        have HI5 : Hid (PnI w w4 c tb inp R P (stepS c.g tb inp a r σ).at_ (stepS c.g tb inp a r σ).red (stepS c.g tb inp a r σ).pl tq') := h5
        have HM5 : Hid (mzP Ni (stepS c.g tb inp a r σ).at_ (stepS c.g tb inp a r σ).red false < mzP Ni a r false) := h6
        clear h5 h6 hps hg4 h0 c14 HC
        generalize stepS c.g tb inp a r σ = q at *
        go_wp2_with fail
        go_roundg (mzP Ni q.at_ q.red false)
        case rel => exact ⟨q.at_, q.red, q.pl, tq', (show _ ≤ _ from Nat.le_refl _), HI5⟩
        case measure => exact Nat.lt_of_lt_of_le HM5.out HM.out
      · have HQQ : Hid (Q = []) := by
          show _ = _
          have e1 := (step_err (HI.out.ha) HI.out.hr h0).2 (by rw [HNi.out]; exact hlt)
          rw [HI.out.no] at e1
          rw [HPS.out, if_neg (by rw [e1]; exact h0)]
        clear hg4 c14 HC
        go_wp2_with fail
        go_ret
        exact ⟨HB4.out, _, rfl, by rw [HQQ.out]; exact ⟨none, 0, rfl, by simp, .inl rfl⟩⟩
    · obtain rfl : a = Ni := by omega
      have HQQ : Hid (Q = nextUp c.g tb σ (c.g.terms.toNat + 1)) := by
        show _ = _
        have e1 := HI.out.no
        unfold readR at e1
        rw [if_neg (by rw [HNi.out]; omega)] at e1
        rw [HPS.out, ← e1]
        rfl
      have HC : Hid (Calls Tryd.prog 23 #[.pointer (some ⟨P, 0, none⟩)] wr fun e w' => Below wr.heap.size wr w' ∧ ∃ v, e = .returned v ∧ Hid (IntsR w' v (nextUp c.g tb σ (c.g.terms.toNat + 1)))) := HNO.out wr P a r σ tq HI.out.ps HI.out.ok hsl
      go_wp2_with fail
      go_at_call 23
      refine HC.out.mono ?_
      rintro e w4 ⟨hb4, v, rfl, HV⟩
      have HB4 : Hid (Below w.heap.size w w4) := HI.out.ps.bel.trans (hb4.mono HI.out.ps.bel.size)
      clear c14 HC hb4
      go_wp2_with fail
      go_ret
      exact ⟨HB4.out, _, rfl, by rw [HQQ.out]; exact HV.out⟩

end Go.Proofs.YtdihdnhofgjhnaaDoor
