/- Texts of the proof, put together: YPpa. -/
import Derived.Test.YtdihdnhofgjhnaaDoorPy29
import Derived.Test.YtdihdnhofgjhnaaDoorPy14
import Derived.Deep.LoopGhost
namespace Go.Proofs.YtdihdnhofgjhnaaDoor
open Go.RowKit
set_option linter.unusedVariables false
set_option maxRecDepth 100000

theorem slices_of {w : World} {c : PC} {tb : Tb} {inp : List Int} (hG : GrM w c.g c.pv c.lv c.sv) (hT : TbM w tb c.av c.ov c.cv) (hI : IntsR w c.iv inp) : (∃ a n k, c.pv = .slice a n k) ∧ (∃ a n k, c.lv = .slice a n k) ∧ (∃ a n k, c.sv = .slice a n k) ∧ (∃ a n k, c.av = .slice a n k) ∧ (∃ a n k, c.ov = .slice a n k) ∧ (∃ a n k, c.cv = .slice a n k) ∧ (∃ a n k, c.iv = .slice a n k) := by
  obtain ⟨a1, c1, e1⟩ := hG.prods.slice
  obtain ⟨a2, c2, e2⟩ := hG.levels.slice
  obtain ⟨a3, c3, e3⟩ := hG.sides.slice
  obtain ⟨a4, c4, e4⟩ := hT.acts.slice
  obtain ⟨a5, c5, e5⟩ := hT.gotos.slice
  obtain ⟨a7, c7, e7⟩ := hI.slice
  exact ⟨⟨_, _, _, e1⟩, ⟨_, _, _, e2⟩, ⟨_, _, _, e3⟩, ⟨_, _, _, e4⟩, ⟨_, _, _, e5⟩, hT.conf, ⟨_, _, _, e7⟩⟩

set_option maxHeartbeats 4000000 in
theorem parserOf_any (c : PC) (tb : Tb) (inp : List Int) (w : World) (hG : GrM w c.g c.pv c.lv c.sv) (hT : TbM w tb c.av c.ov c.cv) (hI : IntsR w c.iv inp) :
    Calls Tryd.prog 20 #[gv c.g c.pv c.lv c.sv, tvv c.av c.ov c.cv, c.iv] w fun e w' => ∃ P tq, e = .returned (.pointer (some ⟨P, 0, none⟩)) ∧ PsI w w' c P 0 0 [] false tq := by
  obtain ⟨h1, h2, h3, h4, h5, h6, h7⟩ := slices_of hG hT hI
  obtain ⟨hB0, hBX, hBT⟩ := boxT_all w c.g c.pv c.lv c.sv c.av c.ov c.cv
  have hs0 : (boxT w c.g c.pv c.lv c.sv c.av c.ov c.cv).heap.size = w.heap.size + 2 := by unfold boxT; rw [alloc_size, boxG_size]
  have HF : Hid (∀ W1, W1 = (boxT w c.g c.pv c.lv c.sv c.av c.ov c.cv).alloc (.cells #[.pointer none, .int .i64 0, .pointer none, .int .i64 0] 86) → Calls Tryd.prog 33 #[.pointer (some ⟨w.heap.size + 2, 0, none⟩), gv c.g c.pv c.lv c.sv, tvv c.av c.ov c.cv, c.iv] W1 fun e w' => ∃ P tq, e = .returned (.pointer (some ⟨P, 0, none⟩)) ∧ Hid (PsI w w' c P 0 0 [] false tq)) := fun W1 e => by
    have b1 := alloc_below (boxT w c.g c.pv c.lv c.sv c.av c.ov c.cv) (.cells #[.pointer none, .int .i64 0, .pointer none, .int .i64 0] 86)
    have n1 := heap_alloc_new (boxT w c.g c.pv c.lv c.sv c.av c.ov c.cv) (.cells #[.pointer none, .int .i64 0, .pointer none, .int .i64 0] 86)
    have s1 := alloc_size (boxT w c.g c.pv c.lv c.sv c.av c.ov c.cv) (.cells #[.pointer none, .int .i64 0, .pointer none, .int .i64 0] 86)
    rw [← e] at b1 n1 s1
    rw [hs0] at n1 s1
    refine (from_any c (w.heap.size + 2) W1 h1 h2 h3 h4 h5 h6 h7).mono ?_
    rintro e w' ⟨rfl, hb, hp⟩
    refine ⟨W1.heap.size + 2, w.heap.size + 2, rfl, (hB0.trans (b1.mono hB0.size)).trans (hb.mono (by omega)), by omega, hp, ⟨w.heap.size + 2, rfl, (hb.block _ (by omega)).trans n1⟩⟩
  clear h1 h2 h3 h4 h5 h6 h7 hG hT hI hs0
  obtain ⟨g, pv, lv, sv, av, ov, cv, iv⟩ := c
  simp only at *
  have HWB : Hid ((w.alloc (.cells (gvs g pv lv sv) 25)).alloc (.cells (tvs av ov cv) 30) = boxT w g pv lv sv av ov cv) := rfl
  have hsz : (boxT w g pv lv sv av ov cv).heap.size = w.heap.size + 2 := by unfold boxT; rw [alloc_size, boxG_size]
  generalize boxT w g pv lv sv av ov cv = W at *
  obtain ⟨q0, q1, q2, q3, q4, q5, q6⟩ := hBX
  obtain ⟨t0, t1, t2, t3⟩ := hBT
  have HSZ : Hid (W.heap.size = w.heap.size + 2) := hsz
  clear hB0 hsz
  unfold gv gvs tvv tvs at *
  go_enter Tryd.func20, Tryd.ntmps20
  go_upto_region 1 with fail
  rw [HWB.out]
  go_wp2_with fail
  rw [HSZ.out]
  go_at_call 33
  refine (HF.out _ rfl).mono ?_
  rintro e w2 ⟨P, tq, rfl, HP⟩
  go_wp2_with fail
  go_ret
  exact ⟨P, tq, rfl, HP.out⟩

/-- what Parse answers where the table fits -/
def PpaP (w : World) (ab ar ae : Addr) (q : Int × Nat × Tr) (e : Ending) (w' : World) : Prop :=
  Below w.heap.size w w' ∧ ((q.1 = 0 ∧ ∃ tl, e = .returned (.tuple #[.pointer (some ⟨tl, 0, none⟩), .nilIface]) ∧ Tree (fun _ => True) w' (.pointer (some ⟨tl, 0, none⟩)) q.2.2) ∨ (q.1 ≠ 0 ∧ ∃ fb, e = .returned (.tuple #[.pointer none, .iface 66 (.pointer (some ⟨fb, 0, none⟩))]) ∧ w'.cell? ⟨fb, 0, none⟩ = some (errV ab ar ae q.1) ∧ w'.cell? ⟨fb, 1, none⟩ = some (.int .i64 q.2.1)))
/-- on the way -/
structure PpI (w wr : World) (c : PC) (tb : Tb) (inp : List Int) (R : Int × Nat × Tr) (P a r : Nat) (σ : Pl) (acc : Bool) (tq : Nat) : Prop where
  ps : PsI w wr c P a r σ acc tq
  ok : PlOk c.g tb σ
  ha : a ≤ inp.length
  hr : r ≤ 10000
  hl : σ.length ≤ a * 10001 + r
  no : acc = false → parseR c.g tb inp a r σ = R
  yes : acc = true → accB c.g σ = true ∧ R = (0, 0, (σ.headD (nilT, 0)).1)
def mzP (n a r : Nat) (acc : Bool) : Nat := (n - a) * 10003 + (10001 - r) + (if acc then 0 else 1)
theorem acc_is {g : Gm} {tb : Tb} {inp : List Int} {a r : Nat} {σ : Pl} (h : (stepS g tb inp a r σ).acc = true) : accB g σ = true ∧ (stepS g tb inp a r σ).red = r := by
  unfold stepS at h ⊢
  split at h
  · simp at h
  · rename_i h1
    rw [if_neg h1]
    split at h
    · simp at h
    · rename_i h2
      rw [if_neg h2]
      split at h
      · simp at h
      · rename_i h3
        rw [if_neg h3]
        split at h
        · rename_i h4
          rw [if_pos h4]
          split at h
          · rename_i h5
            rw [if_pos h5]
            exact ⟨h5, rfl⟩
          · simp at h
        · split at h
          · simp at h
          · split at h <;> simp at h
/-- a step that is done -/
theorem PpI.step {w wr w2 : World} {c : PC} {tb : Tb} {inp : List Int} {R : Int × Nat × Tr} {P a r : Nat} {σ : Pl} {tq tq' : Nat} (h : PpI w wr c tb inp R P a r σ false tq) (hf : fitsB c.g tb = true) (h0 : (stepS c.g tb inp a r σ).code = 0) (hps : PsI w w2 c P (stepS c.g tb inp a r σ).at_ (stepS c.g tb inp a r σ).red (stepS c.g tb inp a r σ).pl (stepS c.g tb inp a r σ).acc tq') :
    PpI w w2 c tb inp R P (stepS c.g tb inp a r σ).at_ (stepS c.g tb inp a r σ).red (stepS c.g tb inp a r σ).pl (stepS c.g tb inp a r σ).acc tq' ∧ mzP inp.length (stepS c.g tb inp a r σ).at_ (stepS c.g tb inp a r σ).red (stepS c.g tb inp a r σ).acc < mzP inp.length a r false := by
  obtain ⟨k1, k2, k3, k4, k5, k6, k7⟩ := step_ok hf h.ok h.ha h.hr h0
  have hacc := @acc_is c.g tb inp a r σ
  have hl := h.hl
  have hno := h.no rfl
  have ha := h.ha
  have hr := h.hr
  generalize stepS c.g tb inp a r σ = q at *
  cases hq : q.acc with
  | true =>
    obtain ⟨j1, j2, j3, j4, j5⟩ := k6 hq
    have j6 := (hacc hq).2
    rw [hq] at hps
    refine ⟨⟨hps, k1, k2, k4, by rw [j2, j3, j6]; exact hl, fun e => by simp at e, fun _ => ⟨by rw [j3]; exact (hacc hq).1, by rw [j3, ← hno, j4]⟩⟩, ?_⟩
    rw [j2, j6]
    unfold mzP
    simp
  | false =>
    obtain ⟨j1, j2, j3⟩ := k7 hq
    rw [hq] at hps
    refine ⟨⟨hps, k1, k2, k4, ?_, fun _ => j1.trans hno, fun e => by simp at e⟩, ?_⟩
    · rcases j3 with ⟨e1, e2, _⟩ | ⟨e1, e2, _⟩ <;> · rw [e1, e2]; omega
    · unfold mzP
      rcases j3 with ⟨e1, e2, _⟩ | ⟨e1, e2, _⟩ <;> · rw [e1, e2]; simp; omega

set_option maxHeartbeats 8000000 in
theorem prest_any {c : PC} {tb : Tb} {inp : List Int} {ab ar ae : Addr} {w w3 : World} {P tq : Nat} {R : Int × Nat × Tr} (hN : Gnd w c tb inp ab ar ae) (HI3 : Hid (PpI w w3 c tb inp R P 0 0 [] false tq)) : Calls Tryd.prog 21 #[.pointer (some ⟨P, 0, none⟩)] w3 (PpaP w ab ar ae R) := by
  have HST : Hid (∀ wr P a r σ tq, PsI w wr c P a r σ false tq → PlOk c.g tb σ → a ≤ inp.length → r ≤ 10000 → σ.length ≤ 900000 → Calls Tryd.prog 22 #[.pointer (some ⟨P, 0, none⟩)] wr fun e w' => StpP w wr c P a (stepS c.g tb inp a r σ) ab ar ae e w') := fun wr P a r σ tq h h1 h2 h3 h4 => step_any h hN h1 h2 h3 h4
  have HFT : Hid (fitsB c.g tb = true) := hN.fit
  have HLE : Hid (inp.length ≤ 80) := hN.len
  clear hN
  go_enter Tryd.func21, Tryd.ntmps21
  go_wp2_with fail
  go_loopg [4] (mzP inp.length 0 0 false) (fun gn ev wr => ∃ (a r : Nat) (σ : Pl) (acc : Bool) (tq : Nat), Hid (mzP inp.length a r acc ≤ gn) ∧ Hid (PpI w wr c tb inp R P a r σ acc tq))
  case atStart => exact ⟨0, 0, [], false, tq, (show _ ≤ _ from Nat.le_refl _), HI3⟩
  case round =>
    clear HI3
    obtain ⟨a, r, σ, acc, tq, HM, HI⟩ := hrel
    have c17 : wr.cell? ⟨P, 17, none⟩ = some (.bool acc) := HI.out.ps.par.at 17
    have c16 : wr.cell? ⟨P, 16, none⟩ = some (.pointer (some ⟨tq, 0, none⟩)) := HI.out.ps.par.at 16
    have plt := HI.out.ps.par.lt
    cases acc with
    | true =>
      obtain ⟨hacc, hR⟩ := HI.out.yes rfl
      have hs : ∃ x, σ = [x] := by
        match σ, hacc with
        | [], h => simp [accB] at h
        | [x], _ => exact ⟨x, rfl⟩
        | x :: y :: r, h => simp [accB] at h
      obtain ⟨x, rfl⟩ := hs
      obtain ⟨b2, pv2, tl, e2, h2, h3, h4⟩ := HI.out.ps.pil
      simp only [Value.pointer.injEq, Option.some.injEq, Addr.mk.injEq, and_true] at e2
      subst e2
      have t2 : wr.cell? ⟨tq, 2, none⟩ = some (.pointer (some ⟨tl, 0, none⟩)) := by simp [World.cell?, h2]
      have tlt : tq < wr.heap.size := (Array.getElem?_eq_some_iff.1 h2).1
      have HTr : Hid (Tree (fun _ => True) wr (.pointer (some ⟨tl, 0, none⟩)) x.1) := h3.imp fun _ _ _ => trivial
      have HRR : Hid (R = (0, 0, x.1)) := hR
      clear h2 h3 h4 hacc hR
      go_wp2_with fail
      go_ret2
      exact ⟨HI.out.ps.bel, .inl ⟨by rw [HRR.out], tl, rfl, by rw [HRR.out]; exact HTr.out⟩⟩
    | false =>
      have HC : Hid (Calls Tryd.prog 22 #[.pointer (some ⟨P, 0, none⟩)] wr fun e w' => StpP w wr c P a (stepS c.g tb inp a r σ) ab ar ae e w') := HST.out wr P a r σ tq HI.out.ps HI.out.ok HI.out.ha HI.out.hr (by
        have h1 := HI.out.hl
        have h2 := HI.out.ha
        have h3 := HI.out.hr
        have h4 := HLE.out
        omega)
      go_wp2_with fail
      go_at_call 22
      refine HC.out.mono ?_
      rintro e w4 ⟨hg4, hres⟩
      have HB4 : Hid (Below w.heap.size w w4) := below_grownP HI.out.ps.bel hg4 HI.out.ps.low
      rcases hres with ⟨h0, rfl, tq', hps⟩ | ⟨h0, fb, rfl, f0, f1⟩
      · obtain ⟨h5, h6⟩ := HI.out.step HFT.out h0 hps
        generalize stepS c.g tb inp a r σ = q at *
        have HI5 : Hid (PpI w w4 c tb inp R P q.at_ q.red q.pl q.acc tq') := h5
        have HM5 : Hid (mzP inp.length q.at_ q.red q.acc < mzP inp.length a r false) := h6
        clear h5 h6 hps hg4 h0 c16 c17
        go_wp2_with fail
        go_roundg (mzP inp.length q.at_ q.red q.acc)
        case rel => exact ⟨q.at_, q.red, q.pl, q.acc, tq', (show _ ≤ _ from Nat.le_refl _), HI5⟩
        case measure => exact Nat.lt_of_lt_of_le HM5.out HM.out
      · have HRR : Hid (R = ((stepS c.g tb inp a r σ).code, a, nilT)) := by
          show _ = _
          rw [← HI.out.no rfl]
          exact (step_err HI.out.ha HI.out.hr h0).1
        generalize (stepS c.g tb inp a r σ).code = k at *
        clear hg4 c16 c17 HC
        go_wp2_with fail
        go_ret2
        exact ⟨HB4.out, .inr ⟨by rw [HRR.out]; exact h0, fb, rfl, by rw [HRR.out]; exact f0, by rw [HRR.out]; exact f1⟩⟩


set_option maxHeartbeats 8000000 in
theorem pparse_fits (c : PC) (tb : Tb) (inp : List Int) (ab ar ae : Addr) (w : World) (hN : Gnd w c tb inp ab ar ae) (hwf : WfG c.g) :
    Calls Tryd.prog 8 #[gv c.g c.pv c.lv c.sv, tvv c.av c.ov c.cv, c.iv] w fun e w' => PpaP w ab ar ae (parseS c.g tb inp) e w' := by
  obtain ⟨hB0, hBX, hBT⟩ := boxT_all w c.g c.pv c.lv c.sv c.av c.ov c.cv
  have HFi : Hid (∀ w', Below w.heap.size w w' → Calls Tryd.prog 7 #[gv c.g c.pv c.lv c.sv, tvv c.av c.ov c.cv] w' fun e w'' => e = .returned (.bool true) ∧ Below w'.heap.size w' w'') := fun w' hb => by
    have h := pfits_any c.g c.pv c.lv c.sv tb c.av c.ov c.cv w' (hN.gr.below hb) hwf (hN.tbl.below hb)
    rw [hN.fit] at h
    exact h
  have HPO : Hid (∀ w', Below w.heap.size w w' → Calls Tryd.prog 20 #[gv c.g c.pv c.lv c.sv, tvv c.av c.ov c.cv, c.iv] w' fun e w'' => ∃ P tq, e = .returned (.pointer (some ⟨P, 0, none⟩)) ∧ Hid (PsI w w'' c P 0 0 [] false tq)) := fun w' hb => by
    refine (parserOf_any c tb inp w' (hN.gr.below hb) (hN.tbl.below hb) (hN.inn.below hb)).mono ?_
    rintro e w2 ⟨P, tq, rfl, h⟩
    exact ⟨P, tq, rfl, hb.trans (h.bel.mono hb.size), Nat.le_trans hb.size h.low, h.par, h.pil⟩
  have HPR : Hid (∀ w3 P tq, PpI w w3 c tb inp (parseS c.g tb inp) P 0 0 [] false tq → Calls Tryd.prog 21 #[.pointer (some ⟨P, 0, none⟩)] w3 (PpaP w ab ar ae (parseS c.g tb inp))) := fun w3 P tq h => prest_any hN h
  have HPS : Hid (parseS c.g tb inp = parseR c.g tb inp 0 0 []) := (parseR_start c.g tb inp).symm
  generalize parseS c.g tb inp = R at *
  clear hN hwf
  have HB0 : Hid (Below w.heap.size w (boxT w c.g c.pv c.lv c.sv c.av c.ov c.cv)) := hB0
  have HBX : Hid (BoxG (boxT w c.g c.pv c.lv c.sv c.av c.ov c.cv) w.heap.size c.g c.pv c.lv c.sv) := hBX
  have HBT : Hid (BoxT (boxT w c.g c.pv c.lv c.sv c.av c.ov c.cv) (w.heap.size + 1) c.av c.ov c.cv) := hBT
  clear hB0 hBX hBT
  unfold gv gvs tvv tvs at *
  have HWB : Hid ((w.alloc (.cells #[.int .i64 c.g.terms, .int .i64 c.g.names, .int .i64 c.g.start, c.pv, c.lv, c.sv] 25)).alloc (.cells #[c.av, c.ov, c.cv] 30) = boxT w c.g c.pv c.lv c.sv c.av c.ov c.cv) := rfl
  generalize boxT w c.g c.pv c.lv c.sv c.av c.ov c.cv = W1 at *
  obtain ⟨q0, q1, q2, q3, q4, q5, q6⟩ := HBX.out
  obtain ⟨t0, t1, t2, t3⟩ := HBT.out
  go_enter Tryd.func8, Tryd.ntmps8
  go_upto_region 1 with fail
  rw [HWB.out]
  go_wp2_with fail
  go_at_call 7
  refine (HFi.out _ HB0.out).mono ?_
  rintro e w2 ⟨rfl, hb2⟩
  have HB2 : Hid (Below w.heap.size w w2) := HB0.out.trans (hb2.mono HB0.out.size)
  have HX2 := HBX.out.below HBX.out.lt hb2
  have HT2 := HBT.out.below HBT.out.lt hb2
  clear q0 q1 q2 q3 q4 q5 q6 t0 t1 t2 t3 hb2 HBX HBT HB0 HWB HFi
  obtain ⟨q0, q1, q2, q3, q4, q5, q6⟩ := HX2
  obtain ⟨t0, t1, t2, t3⟩ := HT2
  go_wp2_with fail
  go_at_call 20
  refine (HPO.out _ HB2.out).mono ?_
  rintro e w3 ⟨P, tq, rfl, HP3⟩
  clear q0 q1 q2 q3 q4 q5 q6 t0 t1 t2 t3 HPO HB2
  have HI3 : PpI w w3 c tb inp R P 0 0 [] false tq := ⟨HP3.out, ⟨fun x hx => by simp at hx, fun x hx => by simp at hx⟩, by omega, by omega, by simp, fun _ => HPS.out.symm, fun e => by simp at e⟩
  clear HP3
  have HRe : Hid (Calls Tryd.prog 21 #[.pointer (some ⟨P, 0, none⟩)] w3 (PpaP w ab ar ae R)) := HPR.out w3 P tq HI3
  clear HPR HI3
  go_wp2_with fail
  go_at_call 21
  refine HRe.out.mono ?_
  rintro e w4 ⟨hb4, hres⟩
  rcases hres with ⟨h0, tl, rfl, ht⟩ | ⟨h0, fb, rfl, f0, f1⟩
  · have HP4 : Hid (PpaP w ab ar ae R (.returned (.tuple #[.pointer (some ⟨tl, 0, none⟩), .nilIface])) w4) := ⟨hb4, .inl ⟨h0, tl, rfl, ht⟩⟩
    clear hb4 h0 ht HRe
    go_wp2_with fail
    go_ret2
    exact HP4.out
  · have HP4 : Hid (PpaP w ab ar ae R (.returned (.tuple #[.pointer none, .iface 66 (.pointer (some ⟨fb, 0, none⟩))])) w4) := ⟨hb4, .inr ⟨h0, fb, rfl, f0, f1⟩⟩
    clear hb4 h0 f0 f1 HRe
    go_wp2_with fail
    go_ret2
    exact HP4.out

end Go.Proofs.YtdihdnhofgjhnaaDoor
