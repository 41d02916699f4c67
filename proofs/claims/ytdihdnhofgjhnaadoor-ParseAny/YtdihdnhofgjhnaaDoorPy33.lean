/- Texts of the proof, put together: YRdW. -/
import Derived.Test.YtdihdnhofgjhnaaDoorPy32
import Derived.Test.YtdihdnhofgjhnaaDoorPy28
namespace Go.Proofs.YtdihdnhofgjhnaaDoor
open Go.RowKit
set_option linter.unusedVariables false
set_option maxRecDepth 100000

theorem readS_at {g : Gm} {tb : Tb} {inp : List Int} {i : Nat} {σ : Pl} (h : i < inp.length) : readS g tb (inp.drop i) i σ = if inp.getD i 0 < 0 ∨ g.terms ≤ inp.getD i 0 then (7, i, σ) else if (setS g tb (inp.getD i 0) 10000 σ).1 = 0 then readS g tb (inp.drop (i + 1)) (i + 1) ((leafT i, (setS g tb (inp.getD i 0) 10000 σ).2.1) :: (setS g tb (inp.getD i 0) 10000 σ).2.2) else ((setS g tb (inp.getD i 0) 10000 σ).1, i, (setS g tb (inp.getD i 0) 10000 σ).2.2) := by
  rw [List.drop_eq_getElem_cons h, readS]
  simp [List.getD, h]

set_option maxHeartbeats 8000000 in
theorem rread_any (g : Gm) (pv lv sv : Value) (tb : Tb) (av ov cv iv : Value) (ab ar ae : Addr) (inp : List Int) (w : World) (hf : fitsB g tb = true) (hG : GrM w g pv lv sv) (hT : TbM w tb av ov cv) (hI : IntsR w iv inp) (hlen : inp.length ≤ 80) (hE : ErG w ab ar ae) :
    Calls Tryd.prog 26 #[gv g pv lv sv, tvv av ov cv, iv] w fun e w' => RdP w ab ar ae (readS g tb inp 0 []) e w' := by
  have HI0 : Hid (RdI w g pv lv sv tb av ov cv inp 0 (readS g tb inp 0 []) (boxR w g pv lv sv av ov cv) [] (.slice (some ⟨w.heap.size + 3, 0, none⟩) 1 1) (.slice none 0 0) []) := RdI.start w g pv lv sv av ov cv tb inp
  have HWB : Hid (((((w.alloc (.cells (gvs g pv lv sv) 25)).alloc (.cells (tvs av ov cv) 30)).alloc (.cells #[.slice none 0 0, .slice none 0 0] 75)).alloc (.cells #[.int .i64 0] 3)).alloc (.cells #[.slice (some ⟨w.heap.size + 3, 0, none⟩) 1 1, .slice none 0 0] 75) = boxR w g pv lv sv av ov cv) := rfl
  have HSet : Hid (∀ w' xs xt σ us t, Below w.heap.size w w' → w.heap.size + 3 ≤ w'.heap.size → StM (w.heap.size + 3) w' xs xt σ us → PlOk g tb σ → σ.length ≤ 900000 → 0 ≤ t ∧ t ≤ g.terms → Calls Tryd.prog 27 #[gv g pv lv sv, tvv av ov cv, .agg #[xs, xt], .int .i64 t] w' fun e w'' => SetP (w.heap.size + 3) w' ab ar ae (setS g tb t 10000 σ) e w'') := fun w' xs xt σ us t hb hs h1 h2 h3 h4 => rset_any g pv lv sv tb av ov cv xs xt ab ar ae (w.heap.size + 3) σ us t w' hf (hG.below hb) (hT.below hb) h1 h2 hs h3 h4 (hE.below hb)
  have HE : Hid (∀ w', Below w.heap.size w w' → ErG w' ab ar ae) := fun w' hb => hE.below hb
  have HEL : Hid (1 < w.heap.size ∧ 2 < w.heap.size ∧ 6 < w.heap.size) := ⟨lt_of_cellY hE.bnd, lt_of_cellY hE.rul, lt_of_cellY hE.fin⟩
  have HFT : Hid (fitsB g tb = true) := hf
  have HT0 : Hid (0 ≤ g.terms) := by
    have h := (fits_parts hf).1
    unfold gOkB at h
    simp only [Bool.and_eq_true, decide_eq_true_eq] at h
    exact h.1.1
  obtain ⟨ia, ic, rfl⟩ := hI.slice
  have HIN : Hid (IntsR w (.slice ia inp.length ic) inp) := hI
  obtain ⟨i1, hi0, hi1, hi2, hi3⟩ := info_parts Tryd.infoIntY
  obtain ⟨j1, hj0, hj1, hj2, hj3⟩ := info_parts Tryd.infoTreeY
  generalize readS g tb inp 0 [] = R at *
  generalize hNi : inp.length = Ni at *
  have HNi : Hid (inp.length = Ni) := hNi
  clear hf hG hT hI hE hNi
  generalize boxR w g pv lv sv av ov cv = W at *
  unfold gv gvs tvv tvs at *
  go_enter Tryd.func26, Tryd.ntmps26
  go_upto_region 2 with fail
  rw [HWB.out]
  clear HWB
  go_wp2_with fail
  go_loopw [10] (fun kv wr => ∃ (i : Nat) (σ : Pl) (xs xt : Value) (us : List Value), i ≤ Ni ∧ kv = .int .i64 i ∧ Hid (RdI w g pv lv sv tb av ov cv inp i R wr σ xs xt us)) (fun kv _ => Ni - (intOf kv).toNat)
  case atStart => exact ⟨0, [], _, _, [], Nat.zero_le _, rfl, HI0⟩
  case round =>
    clear HI0
    obtain ⟨i, σ, xs, xt, us, hi, rfl, HI⟩ := hrel
    obtain ⟨gs, cs, rfl, hgs, hcs1, hcs2, hxs⟩ := HI.out.st.states
    obtain ⟨ta, tc, rfl, hul, hxt⟩ := HI.out.st.trees
    clear hxs hxt hcs1 hcs2 hgs
    have hb0 := HI.out.bx.c0
    have hb1 := HI.out.bx.c1
    have hxl := HI.out.bx.lt
    have hxf0 := HI.out.bx.f0 0
    have hxf1 := HI.out.bx.f0 1
    obtain ⟨q0, q1, q2, q3, q4, q5, q6⟩ := HI.out.bg
    obtain ⟨t0, t1, t2, t3⟩ := HI.out.bt
    have hr0 := HI.out.br.c0
    have hr1 := HI.out.br.c1
    have hrf0 := HI.out.br.f0 0
    have hrf1 := HI.out.br.f0 1
    have hrlt := HI.out.br.lt
    by_cases hlt : i < Ni
    · obtain ⟨ib, ioff, rfl, hib, hic⟩ := (HIN.out.below HI.out.bel).at (k := i) (by rw [HNi.out]; exact hlt)
      have HRS : Hid (R = _) := HI.out.res.symm.trans (readS_at (by rw [HNi.out]; exact hlt))
      have HLN : Hid (σ.length ≤ 900000) := by have := HI.out.len; show _ ≤ _; omega
      generalize inp.getD i 0 = x at *
      have hH := HEL.out
      have hne1 : ¬ 6 = w.heap.size + 1 + 1 := by omega
      by_cases hx0 : x < 0 ∨ g.terms ≤ x
      · have HRR : Hid (R = (7, i, σ)) := by show _ = _; rw [HRS.out, if_pos hx0]
        clear HRS
        generalize σ.length = N at *
        have hcs : (x < 0) ∨ (¬ x < 0 ∧ g.terms ≤ x) := by omega
        clear hx0
        rcases hcs with hx1 | ⟨hx1, hx2⟩
        · have d1 : decide (x < 0) = true := decide_eq_true hx1
          go_wp2_with fail
          go_quiet (fail)
          have HI1 : Hid (RdI w g pv lv sv tb av ov cv inp i R (wr.drewN nq) σ (.slice (some ⟨gs, 0, none⟩) (N + 1) cs) (.slice ta N tc) us) := HI.out.below (below_drewG (Below.refl _ _) nq)
          clear q0 q1 q2 q3 q4 q5 q6 t0 t1 t2 t3 hb0 hb1 hxl hxf0 hxf1 hr0 hr1 hrf0 hrf1 hrlt hic hib
          generalize wr.drewN nq = W1 at *
          have hb0 := HI1.out.bx.c0
          have hb1 := HI1.out.bx.c1
          have hxl := HI1.out.bx.lt
          have hr0 := HI1.out.br.c0
          have hr1 := HI1.out.br.c1
          have hrf0 := HI1.out.br.f0 0
          have hrf1 := HI1.out.br.f0 1
          have hrlt := HI1.out.br.lt
          have hg3 : W1.cell? ⟨6, 0, none⟩ = some (.iface 137 (.pointer (some ae))) := (HE.out W1 HI1.out.bel).fin
          have HAn := HI1.out.answer
          have HFB : Hid (Below w.heap.size w ((W1.setCell ⟨w.heap.size + 1 + 1, 0, none⟩ (.slice (some ⟨gs, 0, none⟩) (N + 1) cs)).setCell ⟨w.heap.size + 1 + 1, 1, none⟩ (.slice ta N tc)).drew) := below_drewY HAn.1
          have HFR : Hid (BoxX ((W1.setCell ⟨w.heap.size + 1 + 1, 0, none⟩ (.slice (some ⟨gs, 0, none⟩) (N + 1) cs)).setCell ⟨w.heap.size + 1 + 1, 1, none⟩ (.slice ta N tc)).drew (w.heap.size + 1 + 1) (.slice (some ⟨gs, 0, none⟩) (N + 1) cs) (.slice ta N tc)) := HAn.2.1.drewY
          clear HAn
          go_wp2_with fail
          go_region
          all_goals
            generalize ((W1.setCell ⟨w.heap.size + 1 + 1, 0, none⟩ (.slice (some ⟨gs, 0, none⟩) (N + 1) cs)).setCell ⟨w.heap.size + 1 + 1, 1, none⟩ (.slice ta N tc)).drew = W9 at *
            have k0 := HFR.out.c0
            have k1 := HFR.out.c1
            go_wp2_with fail
            refine bodyPost_ret (v := .tuple #[.agg #[.slice (some ⟨gs, 0, none⟩) (N + 1) cs, .slice ta N tc], errE ae, .int .i64 i]) (by simp [results, go_sem, k0, k1, errE]) rfl ?_
            exact ⟨HFB.out, _, _, _, _, _, _, us, by rw [HRR.out]; rfl, fun h => by rw [HRR.out] at h; simp at h⟩
        · have d1 : decide (x < 0) = false := decide_eq_false hx1
          have d2 : decide (x ≥ g.terms) = true := decide_eq_true hx2
          go_wp2_with fail
          go_quiet (fail)
          have HI1 : Hid (RdI w g pv lv sv tb av ov cv inp i R (wr.drewN nq) σ (.slice (some ⟨gs, 0, none⟩) (N + 1) cs) (.slice ta N tc) us) := HI.out.below (below_drewG (Below.refl _ _) nq)
          clear q0 q1 q2 q3 q4 q5 q6 t0 t1 t2 t3 hb0 hb1 hxl hxf0 hxf1 hr0 hr1 hrf0 hrf1 hrlt hic hib
          generalize wr.drewN nq = W1 at *
          have hb0 := HI1.out.bx.c0
          have hb1 := HI1.out.bx.c1
          have hxl := HI1.out.bx.lt
          have hr0 := HI1.out.br.c0
          have hr1 := HI1.out.br.c1
          have hrf0 := HI1.out.br.f0 0
          have hrf1 := HI1.out.br.f0 1
          have hrlt := HI1.out.br.lt
          have hg3 : W1.cell? ⟨6, 0, none⟩ = some (.iface 137 (.pointer (some ae))) := (HE.out W1 HI1.out.bel).fin
          have HAn := HI1.out.answer
          have HFB : Hid (Below w.heap.size w ((W1.setCell ⟨w.heap.size + 1 + 1, 0, none⟩ (.slice (some ⟨gs, 0, none⟩) (N + 1) cs)).setCell ⟨w.heap.size + 1 + 1, 1, none⟩ (.slice ta N tc)).drew) := below_drewY HAn.1
          have HFR : Hid (BoxX ((W1.setCell ⟨w.heap.size + 1 + 1, 0, none⟩ (.slice (some ⟨gs, 0, none⟩) (N + 1) cs)).setCell ⟨w.heap.size + 1 + 1, 1, none⟩ (.slice ta N tc)).drew (w.heap.size + 1 + 1) (.slice (some ⟨gs, 0, none⟩) (N + 1) cs) (.slice ta N tc)) := HAn.2.1.drewY
          clear HAn
          go_wp2_with fail
          go_region
          all_goals
            generalize ((W1.setCell ⟨w.heap.size + 1 + 1, 0, none⟩ (.slice (some ⟨gs, 0, none⟩) (N + 1) cs)).setCell ⟨w.heap.size + 1 + 1, 1, none⟩ (.slice ta N tc)).drew = W9 at *
            have k0 := HFR.out.c0
            have k1 := HFR.out.c1
            go_wp2_with fail
            refine bodyPost_ret (v := .tuple #[.agg #[.slice (some ⟨gs, 0, none⟩) (N + 1) cs, .slice ta N tc], errE ae, .int .i64 i]) (by simp [results, go_sem, k0, k1, errE]) rfl ?_
            exact ⟨HFB.out, _, _, _, _, _, _, us, by rw [HRR.out]; rfl, fun h => by rw [HRR.out] at h; simp at h⟩
      · have hx1 : ¬ x < 0 := by omega
        have hx2 : ¬ g.terms ≤ x := by omega
        have d1 : decide (x < 0) = false := decide_eq_false hx1
        have d2 : decide (x ≥ g.terms) = false := decide_eq_false hx2
        generalize hSS : setS g tb x 10000 σ = S at *
        have HSS : Hid (setS g tb x 10000 σ = S) := hSS
        clear hSS
        have HRT : Hid (R = if S.1 = 0 then readS g tb (inp.drop (i + 1)) (i + 1) ((leafT i, S.2.1) :: S.2.2) else (S.1, i, S.2.2)) := by show _ = _; rw [HRS.out, if_neg hx0]
        have HSC : Hid (∀ w1, Below wr.heap.size wr w1 → Calls Tryd.prog 27 #[.agg #[.int .i64 g.terms, .int .i64 g.names, .int .i64 g.start, pv, lv, sv], .agg #[av, ov, cv], .agg #[.slice (some ⟨gs, 0, none⟩) (σ.length + 1) cs, .slice ta σ.length tc], .int .i64 x] w1 fun e w'' => ∃ gs' cs' ta' tc' us', e = .returned (.tuple #[.agg #[.slice (some ⟨gs', 0, none⟩) (S.2.2.length + 1) cs', .slice ta' S.2.2.length tc'], .int .i64 S.2.1, errV ab ar ae S.1]) ∧ Hid (Below w1.heap.size w1 w'') ∧ Hid (StM (w.heap.size + 3) w'' (.slice (some ⟨gs', 0, none⟩) (S.2.2.length + 1) cs') (.slice ta' S.2.2.length tc') S.2.2 us')) := fun w1 hb => by
          have hh := HI.out.below hb
          have hc := HSet.out w1 _ _ σ us x hh.bel (by have := hh.bx.lt; omega) hh.st hh.ok HLN.out ⟨by omega, by omega⟩
          rw [HSS.out] at hc
          refine hc.mono ?_
          rintro e w2 ⟨hb2, xs', xt', us', rfl, hst⟩
          obtain ⟨gs', cs', rfl, _, _, _, _⟩ := hst.states
          obtain ⟨ta', tc', rfl, _, _⟩ := hst.trees
          exact ⟨gs', cs', ta', tc', us', rfl, hb2, hst⟩
        clear hx0 HRS HSet
        have HNN : Hid (S.2.2.length ≤ 910000) := by
          have h1 := (setS_ok (t := x) HFT.out ⟨by omega, by omega⟩ 10000 σ HI.out.ok).2.1
          rw [HSS.out] at h1
          have := HLN.out
          show _ ≤ _
          omega
        generalize σ.length = N at *
        generalize hNp : S.2.2.length = Np at *
        have HNp : Hid (S.2.2.length = Np) := hNp
        clear hNp
        have hnp : Np ≤ 910000 := HNN.out
        go_wp2_with fail
        go_quiet (fail)
        have HI1 : Hid (RdI w g pv lv sv tb av ov cv inp i R (wr.drewN nq) σ (.slice (some ⟨gs, 0, none⟩) (N + 1) cs) (.slice ta N tc) us) := HI.out.below (below_drewG (Below.refl _ _) nq)
        have HS1 : Hid (∀ w1, Below (wr.drewN nq).heap.size (wr.drewN nq) w1 → Calls Tryd.prog 27 #[.agg #[.int .i64 g.terms, .int .i64 g.names, .int .i64 g.start, pv, lv, sv], .agg #[av, ov, cv], .agg #[.slice (some ⟨gs, 0, none⟩) (N + 1) cs, .slice ta N tc], .int .i64 x] w1 fun e w'' => ∃ gs' cs' ta' tc' us', e = .returned (.tuple #[.agg #[.slice (some ⟨gs', 0, none⟩) (Np + 1) cs', .slice ta' Np tc'], .int .i64 S.2.1, errV ab ar ae S.1]) ∧ Hid (Below w1.heap.size w1 w'') ∧ Hid (StM (w.heap.size + 3) w'' (.slice (some ⟨gs', 0, none⟩) (Np + 1) cs') (.slice ta' Np tc') S.2.2 us')) := fun w1 hb => HSC.out w1 ((below_drewG (Below.refl _ _) nq).trans hb)
        have hic1 : (wr.drewN nq).cell? ⟨ib, ioff + i, none⟩ = some (.int .i64 x) := hic
        have hib1 : ib < (wr.drewN nq).heap.size := hib
        clear q0 q1 q2 q3 q4 q5 q6 t0 t1 t2 t3 hb0 hb1 hxl hxf0 hxf1 hr0 hr1 hrf0 hrf1 hrlt hic hib HSC
        generalize wr.drewN nq = W1 at *
        obtain ⟨q0, q1, q2, q3, q4, q5, q6⟩ := HI1.out.bg
        obtain ⟨t0, t1, t2, t3⟩ := HI1.out.bt
        have hb0 := HI1.out.bx.c0
        have hb1 := HI1.out.bx.c1
        have hxl := HI1.out.bx.lt
        by_cases hc0 : S.1 = 0
        · have HRR : Hid (R = readS g tb (inp.drop (i + 1)) (i + 1) ((leafT i, S.2.1) :: S.2.2)) := by show _ = _; rw [HRT.out, if_pos hc0]
          rw [hc0, show errV ab ar ae 0 = .nilIface from rfl] at HS1
          generalize hto : S.2.1 = to at *
          have HTO : Hid (S.2.1 = to) := hto
          clear hto hc0 HRT
          have HSA : Hid (Calls Tryd.prog 27 #[.agg #[.int .i64 g.terms, .int .i64 g.names, .int .i64 g.start, pv, lv, sv], .agg #[av, ov, cv], .agg #[.slice (some ⟨gs, 0, none⟩) (N + 1) cs, .slice ta N tc], .int .i64 x] (W1.alloc (.cells #[.slice none 0 0, .slice none 0 0] 75)).drew fun e w'' => ∃ gs' cs' ta' tc' us', e = .returned (.tuple #[.agg #[.slice (some ⟨gs', 0, none⟩) (Np + 1) cs', .slice ta' Np tc'], .int .i64 to, .nilIface]) ∧ Hid (Below W1.heap.size W1 w'') ∧ Hid (StM (w.heap.size + 3) w'' (.slice (some ⟨gs', 0, none⟩) (Np + 1) cs') (.slice ta' Np tc') S.2.2 us') ∧ Hid (BoxX w'' W1.heap.size (.slice none 0 0) (.slice none 0 0))) := by
            have hba : Below W1.heap.size W1 (W1.alloc (.cells #[.slice none 0 0, .slice none 0 0] 75)).drew := below_drewY (alloc_below _ _)
            have hbx : BoxX (W1.alloc (.cells #[.slice none 0 0, .slice none 0 0] 75)).drew W1.heap.size (.slice none 0 0) (.slice none 0 0) := BoxX.drewY ⟨by simp, heap_alloc_new _ _⟩
            refine (HS1.out _ hba).mono ?_
            rintro e w2 ⟨gs', cs', ta', tc', us', rfl, h1, h2⟩
            exact ⟨gs', cs', ta', tc', us', rfl, hba.trans (h1.out.mono hba.size), h2, hbx.below hbx.lt h1.out⟩
          have HSB : Hid (Calls Tryd.prog 27 #[.agg #[.int .i64 g.terms, .int .i64 g.names, .int .i64 g.start, pv, lv, sv], .agg #[av, ov, cv], .agg #[.slice (some ⟨gs, 0, none⟩) (N + 1) cs, .slice ta N tc], .int .i64 x] W1.drew fun e w'' => ∃ gs' cs' ta' tc' us', e = .returned (.tuple #[.agg #[.slice (some ⟨gs', 0, none⟩) (Np + 1) cs', .slice ta' Np tc'], .int .i64 to, .nilIface]) ∧ Hid (Below W1.heap.size W1 w'') ∧ Hid (StM (w.heap.size + 3) w'' (.slice (some ⟨gs', 0, none⟩) (Np + 1) cs') (.slice ta' Np tc') S.2.2 us')) := by
            have hba : Below W1.heap.size W1 W1.drew := below_drewY (Below.refl _ _)
            refine (HS1.out _ hba).mono ?_
            rintro e w2 ⟨gs', cs', ta', tc', us', rfl, h1, h2⟩
            exact ⟨gs', cs', ta', tc', us', rfl, hba.trans (h1.out.mono hba.size), h2⟩
          clear HS1
          have HXX : Hid (∀ w', Below W1.heap.size W1 w' → w'.cell? ⟨w.heap.size, 0, none⟩ = some (.int .i64 g.terms) ∧ w'.cell? ⟨w.heap.size, 1, none⟩ = some (.int .i64 g.names) ∧ w'.cell? ⟨w.heap.size, 2, none⟩ = some (.int .i64 g.start) ∧ w'.cell? ⟨w.heap.size, 3, none⟩ = some pv ∧ w'.cell? ⟨w.heap.size, 4, none⟩ = some lv ∧ w'.cell? ⟨w.heap.size, 5, none⟩ = some sv ∧ w'.cell? ⟨w.heap.size + 1, 0, none⟩ = some av ∧ w'.cell? ⟨w.heap.size + 1, 1, none⟩ = some ov ∧ w'.cell? ⟨w.heap.size + 1, 2, none⟩ = some cv ∧ w'.cell? ⟨w.heap.size + 4, 0, none⟩ = some (.slice (some ⟨gs, 0, none⟩) (N + 1) cs) ∧ w'.cell? ⟨w.heap.size + 4, 1, none⟩ = some (.slice ta N tc) ∧ w'.cell? ⟨ib, ioff + i, none⟩ = some (.int .i64 x)) := fun w' hb => by
            have hh := HI1.out.below hb
            exact ⟨hh.bg.c0, hh.bg.c1, hh.bg.c2, hh.bg.c3, hh.bg.c4, hh.bg.c5, hh.bt.c0, hh.bt.c1, hh.bt.c2, hh.bx.c0, hh.bx.c1, (hb.cell (p := ⟨ib, ioff + i, none⟩) hib1).trans hic1⟩
          have ne1 : W1.heap.size ≠ w.heap.size := by omega
          have ne2 : W1.heap.size ≠ w.heap.size + 1 := by omega
          have ne3 : W1.heap.size ≠ w.heap.size + 4 := by omega
          have ne4 : W1.heap.size ≠ ib := by omega
          go_wp2_with fail
          go_region_held3 (fun w' => w'.cell? ⟨w.heap.size, 0, none⟩ = some (.int .i64 g.terms) ∧ w'.cell? ⟨w.heap.size, 1, none⟩ = some (.int .i64 g.names) ∧ w'.cell? ⟨w.heap.size, 2, none⟩ = some (.int .i64 g.start) ∧ w'.cell? ⟨w.heap.size, 3, none⟩ = some pv ∧ w'.cell? ⟨w.heap.size, 4, none⟩ = some lv ∧ w'.cell? ⟨w.heap.size, 5, none⟩ = some sv ∧ w'.cell? ⟨w.heap.size + 1, 0, none⟩ = some av ∧ w'.cell? ⟨w.heap.size + 1, 1, none⟩ = some ov ∧ w'.cell? ⟨w.heap.size + 1, 2, none⟩ = some cv ∧ w'.cell? ⟨w.heap.size + 4, 0, none⟩ = some (.slice (some ⟨gs, 0, none⟩) (N + 1) cs) ∧ w'.cell? ⟨w.heap.size + 4, 1, none⟩ = some (.slice ta N tc) ∧ w'.cell? ⟨ib, ioff + i, none⟩ = some (.int .i64 x)) (go_keep) ((first | (go_at_call 27; refine HSA.out.mono ?_; rintro e w3 ⟨gs', cs', ta', tc', us', rfl, HB3, HT3, HY3⟩; have f0 := HY3.out.c0; have f1 := HY3.out.c1; have f2 := HY3.out.f0 0; have f3 := HY3.out.f0 1; have f4 := HY3.out.lt; have y := HXX.out w3 HB3.out; obtain ⟨y0, y1, y2, y3, y4, y5, y6, y7, y8, y9, y10, y11⟩ := y) | (go_at_call 27; refine HSB.out.mono ?_; rintro e w3 ⟨gs', cs', ta', tc', us', rfl, HB3, HT3⟩; have y := HXX.out w3 HB3.out; obtain ⟨y0, y1, y2, y3, y4, y5, y6, y7, y8, y9, y10, y11⟩ := y)))
          all_goals clear q0 q1 q2 q3 q4 q5 q6 t0 t1 t2 t3 hb0 hb1 hxl hic1 hib1 HSA HSB y0 y1 y2 y3 y4 y5 y6 y7 y8 y9 y10 y11 ne1 ne2 ne3 ne4 HXX
          all_goals first
            | (have HBV : Hid (Below W1.heap.size W1 ((w3.setCell ⟨W1.heap.size, 0, none⟩ (.slice (some ⟨gs', 0, none⟩) (Np + 1) cs')).setCell ⟨W1.heap.size, 1, none⟩ (.slice ta' Np tc'))) := HB3.out.trans (below_stored _ _)
               have HYV : Hid (BoxX ((w3.setCell ⟨W1.heap.size, 0, none⟩ (.slice (some ⟨gs', 0, none⟩) (Np + 1) cs')).setCell ⟨W1.heap.size, 1, none⟩ (.slice ta' Np tc')) W1.heap.size (.slice (some ⟨gs', 0, none⟩) (Np + 1) cs') (.slice ta' Np tc')) := HY3.out.stored _ _
               have HSV : Hid (StM (w.heap.size + 3) ((w3.setCell ⟨W1.heap.size, 0, none⟩ (.slice (some ⟨gs', 0, none⟩) (Np + 1) cs')).setCell ⟨W1.heap.size, 1, none⟩ (.slice ta' Np tc')) (.slice (some ⟨gs', 0, none⟩) (Np + 1) cs') (.slice ta' Np tc') S.2.2 us') := HT3.out.keep HY3.out (grown_storedY _ _ _ _)
               clear HY3 HB3 HT3 f0 f1 f2 f3 f4
               have HIV : Hid (RdI w g pv lv sv tb av ov cv inp i R ((w3.setCell ⟨W1.heap.size, 0, none⟩ (.slice (some ⟨gs', 0, none⟩) (Np + 1) cs')).setCell ⟨W1.heap.size, 1, none⟩ (.slice ta' Np tc')) σ (.slice (some ⟨gs, 0, none⟩) (N + 1) cs) (.slice ta N tc) us) := HI1.out.below HBV.out
               generalize hVV : (w3.setCell ⟨W1.heap.size, 0, none⟩ (.slice (some ⟨gs', 0, none⟩) (Np + 1) cs')).setCell ⟨W1.heap.size, 1, none⟩ (.slice ta' Np tc') = V at HBV HYV HSV HIV ⊢
               clear hVV
               generalize hYY : W1.heap.size = Y at HYV ⊢
               have HGE : Hid (W1.heap.size ≤ Y) := Nat.le_of_eq hYY
               clear hYY)
            | (have HBV : Hid (Below W1.heap.size W1 (w3.alloc (.cells #[.slice (some ⟨gs', 0, none⟩) (Np + 1) cs', .slice ta' Np tc'] 75))) := HB3.out.trans ((alloc_below _ _).mono HB3.out.size)
               have HYV : Hid (BoxX (w3.alloc (.cells #[.slice (some ⟨gs', 0, none⟩) (Np + 1) cs', .slice ta' Np tc'] 75)) w3.heap.size (.slice (some ⟨gs', 0, none⟩) (Np + 1) cs') (.slice ta' Np tc')) := ⟨by simp, heap_alloc_new _ _⟩
               have HSV : Hid (StM (w.heap.size + 3) (w3.alloc (.cells #[.slice (some ⟨gs', 0, none⟩) (Np + 1) cs', .slice ta' Np tc'] 75)) (.slice (some ⟨gs', 0, none⟩) (Np + 1) cs') (.slice ta' Np tc') S.2.2 us') := HT3.out.below (alloc_below _ _)
               have HGE : Hid (W1.heap.size ≤ w3.heap.size) := HB3.out.size
               clear HB3 HT3
               have HIV : Hid (RdI w g pv lv sv tb av ov cv inp i R (w3.alloc (.cells #[.slice (some ⟨gs', 0, none⟩) (Np + 1) cs', .slice ta' Np tc'] 75)) σ (.slice (some ⟨gs, 0, none⟩) (N + 1) cs) (.slice ta N tc) us) := HI1.out.below HBV.out
               generalize hVV : w3.alloc (.cells #[.slice (some ⟨gs', 0, none⟩) (Np + 1) cs', .slice ta' Np tc'] 75) = V at HBV HYV HSV HIV ⊢
               clear hVV
               generalize hYY : w3.heap.size = Y at HYV HGE ⊢
               clear hYY)
          all_goals
            have hlS := HSV.out.st
            have hlT := HSV.out.tr.2.1
            have hlU := HSV.out.tr.1
            have hlN := HSV.out.ne
            rw [trL_len] at hlT hlU
            rw [HNp.out] at hlS hlT
            have HLS : Hid (V.ownsRow (w.heap.size + 3) 3 1 (.slice (some ⟨gs', 0, none⟩) (Np + 1) cs') (Np + 1) (intV (stL S.2.2))) := hlS
            have HLT : Hid (V.ownsRow (w.heap.size + 3) 34 1 (.slice ta' Np tc') Np us') := hlT
            have HLE : Hid ((Value.slice (some ⟨gs', 0, none⟩) (Np + 1) cs').ownBlock ≠ (Value.slice ta' Np tc').ownBlock) := hlN
            have hVge : w.heap.size + 3 ≤ V.heap.size := by have := HIV.out.bx.lt; omega
            have y0 := HYV.out.c0
            have yf0 := HYV.out.f0 0
            have yl := HYV.out.lt
            have HNS : Hid ((Value.slice (some ⟨gs', 0, none⟩) (Np + 1) cs').ownBlock ≠ some Y) := own_ne_box hlS HYV.out (by decide)
            have HNT : Hid ((Value.slice ta' Np tc').ownBlock ≠ some Y) := own_ne_box hlT HYV.out (by decide)
            clear hlS hlT hlU hlN
            go_wp2_with (at_builtin; refine wpList_append_lies _ rfl _ _ 23 rfl (w.heap.size + 3) 3 i1 (.int .i64 0) 1 8 Tryd.underlying23 hi0 hi1 hi2 hi3 rfl (by decide) (.slice (some ⟨gs', 0, none⟩) (Np + 1) cs') (Np + 1) (intV (stL S.2.2)) rfl (World.ownsRow.alloc HLS.out _) ⟨V.heap.size, 0, none⟩ 1 1 [.int .i64 to] rfl rfl (cell_one_new V _ _) (by intro x hx; simp at hx; subst hx; rfl) (by omega) (by unfold maxLen; omega) (by omega) (by simp; omega) (V.heap.size + 1) (by simp) ?_)
            intro g12 cap12 w12 hown12 hg12 hat12 hlt12
            have HO12 : Hid (w12.ownsRow (w.heap.size + 3) 3 1 (.slice (some ⟨g12, 0, none⟩) (Np + 1 + 1) cap12) (Np + 1 + 1) (intV (stL S.2.2) ++ [.int .i64 to])) := hown12
            have HG12 : Hid ((V.alloc (.cells #[.int .i64 to] 3)).grownBy w12 (Value.slice (some ⟨gs', 0, none⟩) (Np + 1) cs').ownBlock) := hg12
            have HA12 : Hid ((Value.slice (some ⟨gs', 0, none⟩) (Np + 1) cs').ownBlock = some g12 ∨ g12 = V.heap.size + 1) := hat12
            have HY12 : Hid (BoxX w12 Y (.slice (some ⟨gs', 0, none⟩) (Np + 1) cs') (.slice ta' Np tc')) := boxX_grownY HYV.out hg12 HNS.out
            have e0 := HY12.out.c0
            have e1 := HY12.out.f0 0
            have e2 := HY12.out.lt
            have HS12 : Hid (V.heap.size + 1 ≤ w12.heap.size) := by have h9 := hg12.size; show _ ≤ _; simpa using h9
            clear hown12 hg12 hat12 hlt12 y0 yf0 yl
            go_upto_region 11 with fail
            clear e0 e1 e2
            have HT12 : Hid (((w12.setCell ⟨Y, 0, none⟩ (.slice (some ⟨g12, 0, none⟩) (Np + 1 + 1) cap12)).alloc (.cells #[.int .i64 (-1), .int .i64 i, .slice none 0 0] 81)).ownsRow (w.heap.size + 3) 34 1 (.slice ta' Np tc') Np us') := World.ownsRow.alloc (own_setY (own_grownY HLT.out HG12.out (.inr HLE.out.symm)) HNT.out) _
            have HYB : Hid (BoxX ((w12.setCell ⟨Y, 0, none⟩ (.slice (some ⟨g12, 0, none⟩) (Np + 1 + 1) cap12)).alloc (.cells #[.int .i64 (-1), .int .i64 i, .slice none 0 0] 81)) Y (.slice (some ⟨g12, 0, none⟩) (Np + 1 + 1) cap12) (.slice ta' Np tc')) := (HY12.out.set0 _).below (by simpa using HY12.out.lt) (alloc_below _ _)
            have HZ12 : Hid ((w12.setCell ⟨Y, 0, none⟩ (.slice (some ⟨g12, 0, none⟩) (Np + 1 + 1) cap12)).heap.size = w12.heap.size) := by show _ = _; simp
            generalize hWA : w12.setCell ⟨Y, 0, none⟩ (.slice (some ⟨g12, 0, none⟩) (Np + 1 + 1) cap12) = WA at *
            have HWA : Hid (w12.setCell ⟨Y, 0, none⟩ (.slice (some ⟨g12, 0, none⟩) (Np + 1 + 1) cap12) = WA) := hWA
            clear hWA
            go_upto_region 12 with fail
            have HZB : Hid ((WA.alloc (.cells #[.int .i64 (-1), .int .i64 i, .slice none 0 0] 81)).heap.size = WA.heap.size + 1) := alloc_size _ _
            generalize hWB : WA.alloc (.cells #[.int .i64 (-1), .int .i64 i, .slice none 0 0] 81) = WB at *
            have HWB : Hid (WA.alloc (.cells #[.int .i64 (-1), .int .i64 i, .slice none 0 0] 81) = WB) := hWB
            clear hWB
            have y1 := HYB.out.c1
            have yf1 := HYB.out.f0 1
            have yl := HYB.out.lt
            have hWBge : w.heap.size + 3 ≤ WB.heap.size := by have h1 := HZB.out; have h2 := HZ12.out; have h3 := HS12.out; omega
            generalize hq : WA.heap.size = q at *
            have HQ : Hid (WA.heap.size = q) := hq
            clear hq
            go_wp2_with (at_builtin; refine wpList_append_lies _ rfl _ _ 73 rfl (w.heap.size + 3) 34 j1 (.pointer none) 1 8 Tryd.underlying73 hj0 hj1 hj2 hj3 rfl (by decide) (.slice ta' Np tc') Np us' rfl (World.ownsRow.alloc HT12.out _) ⟨WB.heap.size, 0, none⟩ 1 1 [.pointer (some ⟨q, 0, none⟩)] rfl rfl (cell_one_new WB _ _) (by intro x hx; simp at hx; subst hx; rfl) (by omega) (by unfold maxLen; omega) (by omega) (by simp; omega) (WB.heap.size + 1) (by simp) ?_)
            intro g14 cap14 w14 hown14 hg14 hat14 hlt14
            have HY14 : Hid (BoxX w14 Y (.slice (some ⟨g12, 0, none⟩) (Np + 1 + 1) cap12) (.slice ta' Np tc')) := boxX_grownY HYB.out hg14 HNT.out
            have HPV : Hid (BoxX (w14.setCell ⟨Y, 1, none⟩ (.slice (some ⟨g14, 0, none⟩) (Np + 1) cap14)) Y (.slice (some ⟨g12, 0, none⟩) (Np + 1 + 1) cap12) (.slice (some ⟨g14, 0, none⟩) (Np + 1) cap14) ∧ BoxX (w14.setCell ⟨Y, 1, none⟩ (.slice (some ⟨g14, 0, none⟩) (Np + 1) cap14)) (w.heap.size + 4) (.slice (some ⟨gs, 0, none⟩) (N + 1) cs) (.slice ta N tc) ∧ RdI w g pv lv sv tb av ov cv inp (i + 1) R (((w14.setCell ⟨Y, 1, none⟩ (.slice (some ⟨g14, 0, none⟩) (Np + 1) cap14)).setCell ⟨w.heap.size + 4, 0, none⟩ (.slice (some ⟨g12, 0, none⟩) (Np + 1 + 1) cap12)).setCell ⟨w.heap.size + 4, 1, none⟩ (.slice (some ⟨g14, 0, none⟩) (Np + 1) cap14)) ((leafT i, to) :: S.2.2) (.slice (some ⟨g12, 0, none⟩) (Np + 1 + 1) cap12) (.slice (some ⟨g14, 0, none⟩) (Np + 1) cap14) (us' ++ [.pointer (some ⟨q, 0, none⟩)])) := by
              have h9 := HI1.out.push (S := S) (x := x) (Y := Y) (q := q) (v := V) (w1 := w12) (w4 := w14) (us' := us') (sv' := .slice (some ⟨g12, 0, none⟩) (Np + 1 + 1) cap12) (tv' := .slice (some ⟨g14, 0, none⟩) (Np + 1) cap14) (o2 := .cells #[.int .i64 to] 3) (o4 := .cells #[.pointer (some ⟨q, 0, none⟩)] 34) HFT.out ⟨by omega, by omega⟩ HSS.out (by rw [HRR.out, HTO.out]) HBV.out HYV.out HGE.out HSV.out (by rw [HNp.out, HTO.out]; exact HO12.out) HG12.out (by
                rcases HA12.out with e | e
                · exact .inl (by rw [e]; rfl)
                · exact .inr (by rw [e, alloc_size]; rfl)) (by rw [HWA.out]; exact HQ.out.symm) (by rw [HNp.out]; exact hown14) (by rw [HWA.out, HWB.out]; exact hg14) (by
                rw [HWA.out, HWB.out]
                rcases hat14 with e | e
                · exact .inl (by rw [e]; rfl)
                · exact .inr (by rw [e, alloc_size]; rfl))
              rw [HTO.out] at h9
              exact h9
            clear hown14 hg14 hat14 hlt14 y1 yf1 yl
            have e0 := HY14.out.c1
            have e1 := HY14.out.f0 1
            have e2 := HY14.out.lt
            go_upto_region 13 with fail
            clear e0 e1 e2
            have p0 := HPV.out.1.c0
            have p1 := HPV.out.1.c1
            have pl := HPV.out.1.lt
            have x0 := HPV.out.2.1.c0
            have x1 := HPV.out.2.1.c1
            have xl := HPV.out.2.1.lt
            have xf0 := HPV.out.2.1.f0 0
            have xf1 := HPV.out.2.1.f0 1
            have HNX : Hid (RdI w g pv lv sv tb av ov cv inp (i + 1) R (((w14.setCell ⟨Y, 1, none⟩ (.slice (some ⟨g14, 0, none⟩) (Np + 1) cap14)).setCell ⟨w.heap.size + 4, 0, none⟩ (.slice (some ⟨g12, 0, none⟩) (Np + 1 + 1) cap12)).setCell ⟨w.heap.size + 4, 1, none⟩ (.slice (some ⟨g14, 0, none⟩) (Np + 1) cap14)) ((leafT i, to) :: S.2.2) (.slice (some ⟨g12, 0, none⟩) (Np + 1 + 1) cap12) (.slice (some ⟨g14, 0, none⟩) (Np + 1) cap14) (us' ++ [.pointer (some ⟨q, 0, none⟩)])) := HPV.out.2.2
            generalize w14.setCell ⟨Y, 1, none⟩ (.slice (some ⟨g14, 0, none⟩) (Np + 1) cap14) = WD at *
            go_wp2_with fail
            go_roundw
            case rel => exact ⟨i + 1, _, _, _, _, by omega, by go_num, HNX⟩
            case measure => simp [intOf]; omega
        · have HRR : Hid (R = (S.1, i, S.2.2)) := by show _ = _; rw [HRT.out, if_neg hc0]
          obtain ⟨z, hz⟩ := errV_some ab ar ae S.1 hc0
          have HZ : Hid (errV ab ar ae S.1 = .iface 137 (.pointer (some z))) := hz
          rw [hz] at HS1
          generalize S.2.1 = to at *
          clear hz HRT
          have HSA : Hid (Calls Tryd.prog 27 #[.agg #[.int .i64 g.terms, .int .i64 g.names, .int .i64 g.start, pv, lv, sv], .agg #[av, ov, cv], .agg #[.slice (some ⟨gs, 0, none⟩) (N + 1) cs, .slice ta N tc], .int .i64 x] (W1.alloc (.cells #[.slice none 0 0, .slice none 0 0] 75)).drew fun e w'' => ∃ gs' cs' ta' tc' us', e = .returned (.tuple #[.agg #[.slice (some ⟨gs', 0, none⟩) (Np + 1) cs', .slice ta' Np tc'], .int .i64 to, .iface 137 (.pointer (some z))]) ∧ Hid (Below W1.heap.size W1 w'') ∧ Hid (StM (w.heap.size + 3) w'' (.slice (some ⟨gs', 0, none⟩) (Np + 1) cs') (.slice ta' Np tc') S.2.2 us') ∧ Hid (BoxX w'' W1.heap.size (.slice none 0 0) (.slice none 0 0))) := by
            have hba : Below W1.heap.size W1 (W1.alloc (.cells #[.slice none 0 0, .slice none 0 0] 75)).drew := below_drewY (alloc_below _ _)
            have hbx : BoxX (W1.alloc (.cells #[.slice none 0 0, .slice none 0 0] 75)).drew W1.heap.size (.slice none 0 0) (.slice none 0 0) := BoxX.drewY ⟨by simp, heap_alloc_new _ _⟩
            refine (HS1.out _ hba).mono ?_
            rintro e w2 ⟨gs', cs', ta', tc', us', rfl, h1, h2⟩
            exact ⟨gs', cs', ta', tc', us', rfl, hba.trans (h1.out.mono hba.size), h2, hbx.below hbx.lt h1.out⟩
          have HSB : Hid (Calls Tryd.prog 27 #[.agg #[.int .i64 g.terms, .int .i64 g.names, .int .i64 g.start, pv, lv, sv], .agg #[av, ov, cv], .agg #[.slice (some ⟨gs, 0, none⟩) (N + 1) cs, .slice ta N tc], .int .i64 x] W1.drew fun e w'' => ∃ gs' cs' ta' tc' us', e = .returned (.tuple #[.agg #[.slice (some ⟨gs', 0, none⟩) (Np + 1) cs', .slice ta' Np tc'], .int .i64 to, .iface 137 (.pointer (some z))]) ∧ Hid (Below W1.heap.size W1 w'') ∧ Hid (StM (w.heap.size + 3) w'' (.slice (some ⟨gs', 0, none⟩) (Np + 1) cs') (.slice ta' Np tc') S.2.2 us')) := by
            have hba : Below W1.heap.size W1 W1.drew := below_drewY (Below.refl _ _)
            refine (HS1.out _ hba).mono ?_
            rintro e w2 ⟨gs', cs', ta', tc', us', rfl, h1, h2⟩
            exact ⟨gs', cs', ta', tc', us', rfl, hba.trans (h1.out.mono hba.size), h2⟩
          clear HS1
          have HXX : Hid (∀ w', Below W1.heap.size W1 w' → w'.cell? ⟨w.heap.size, 0, none⟩ = some (.int .i64 g.terms) ∧ w'.cell? ⟨w.heap.size, 1, none⟩ = some (.int .i64 g.names) ∧ w'.cell? ⟨w.heap.size, 2, none⟩ = some (.int .i64 g.start) ∧ w'.cell? ⟨w.heap.size, 3, none⟩ = some pv ∧ w'.cell? ⟨w.heap.size, 4, none⟩ = some lv ∧ w'.cell? ⟨w.heap.size, 5, none⟩ = some sv ∧ w'.cell? ⟨w.heap.size + 1, 0, none⟩ = some av ∧ w'.cell? ⟨w.heap.size + 1, 1, none⟩ = some ov ∧ w'.cell? ⟨w.heap.size + 1, 2, none⟩ = some cv ∧ w'.cell? ⟨w.heap.size + 4, 0, none⟩ = some (.slice (some ⟨gs, 0, none⟩) (N + 1) cs) ∧ w'.cell? ⟨w.heap.size + 4, 1, none⟩ = some (.slice ta N tc) ∧ w'.cell? ⟨ib, ioff + i, none⟩ = some (.int .i64 x)) := fun w' hb => by
            have hh := HI1.out.below hb
            exact ⟨hh.bg.c0, hh.bg.c1, hh.bg.c2, hh.bg.c3, hh.bg.c4, hh.bg.c5, hh.bt.c0, hh.bt.c1, hh.bt.c2, hh.bx.c0, hh.bx.c1, (hb.cell (p := ⟨ib, ioff + i, none⟩) hib1).trans hic1⟩
          have ne1 : W1.heap.size ≠ w.heap.size := by omega
          have ne2 : W1.heap.size ≠ w.heap.size + 1 := by omega
          have ne3 : W1.heap.size ≠ w.heap.size + 4 := by omega
          have ne4 : W1.heap.size ≠ ib := by omega
          go_wp2_with fail
          go_region_held3 (fun w' => w'.cell? ⟨w.heap.size, 0, none⟩ = some (.int .i64 g.terms) ∧ w'.cell? ⟨w.heap.size, 1, none⟩ = some (.int .i64 g.names) ∧ w'.cell? ⟨w.heap.size, 2, none⟩ = some (.int .i64 g.start) ∧ w'.cell? ⟨w.heap.size, 3, none⟩ = some pv ∧ w'.cell? ⟨w.heap.size, 4, none⟩ = some lv ∧ w'.cell? ⟨w.heap.size, 5, none⟩ = some sv ∧ w'.cell? ⟨w.heap.size + 1, 0, none⟩ = some av ∧ w'.cell? ⟨w.heap.size + 1, 1, none⟩ = some ov ∧ w'.cell? ⟨w.heap.size + 1, 2, none⟩ = some cv ∧ w'.cell? ⟨w.heap.size + 4, 0, none⟩ = some (.slice (some ⟨gs, 0, none⟩) (N + 1) cs) ∧ w'.cell? ⟨w.heap.size + 4, 1, none⟩ = some (.slice ta N tc) ∧ w'.cell? ⟨ib, ioff + i, none⟩ = some (.int .i64 x)) (go_keep) ((first | (go_at_call 27; refine HSA.out.mono ?_; rintro e w3 ⟨gs', cs', ta', tc', us', rfl, HB3, HT3, HY3⟩; have f0 := HY3.out.c0; have f1 := HY3.out.c1; have f2 := HY3.out.f0 0; have f3 := HY3.out.f0 1; have f4 := HY3.out.lt; have y := HXX.out w3 HB3.out; obtain ⟨y0, y1, y2, y3, y4, y5, y6, y7, y8, y9, y10, y11⟩ := y) | (go_at_call 27; refine HSB.out.mono ?_; rintro e w3 ⟨gs', cs', ta', tc', us', rfl, HB3, HT3⟩; have y := HXX.out w3 HB3.out; obtain ⟨y0, y1, y2, y3, y4, y5, y6, y7, y8, y9, y10, y11⟩ := y)))
          all_goals clear q0 q1 q2 q3 q4 q5 q6 t0 t1 t2 t3 hb0 hb1 hxl hic1 hib1 HSA HSB y0 y1 y2 y3 y4 y5 y6 y7 y8 y9 y10 y11 ne1 ne2 ne3 ne4 HXX
          all_goals first
            | (have HBV : Hid (Below W1.heap.size W1 ((w3.setCell ⟨W1.heap.size, 0, none⟩ (.slice (some ⟨gs', 0, none⟩) (Np + 1) cs')).setCell ⟨W1.heap.size, 1, none⟩ (.slice ta' Np tc'))) := HB3.out.trans (below_stored _ _)
               have HYV : Hid (BoxX ((w3.setCell ⟨W1.heap.size, 0, none⟩ (.slice (some ⟨gs', 0, none⟩) (Np + 1) cs')).setCell ⟨W1.heap.size, 1, none⟩ (.slice ta' Np tc')) W1.heap.size (.slice (some ⟨gs', 0, none⟩) (Np + 1) cs') (.slice ta' Np tc')) := HY3.out.stored _ _
               have HSV : Hid (StM (w.heap.size + 3) ((w3.setCell ⟨W1.heap.size, 0, none⟩ (.slice (some ⟨gs', 0, none⟩) (Np + 1) cs')).setCell ⟨W1.heap.size, 1, none⟩ (.slice ta' Np tc')) (.slice (some ⟨gs', 0, none⟩) (Np + 1) cs') (.slice ta' Np tc') S.2.2 us') := HT3.out.keep HY3.out (grown_storedY _ _ _ _)
               clear HY3 HB3 HT3 f0 f1 f2 f3 f4
               have HIV : Hid (RdI w g pv lv sv tb av ov cv inp i R ((w3.setCell ⟨W1.heap.size, 0, none⟩ (.slice (some ⟨gs', 0, none⟩) (Np + 1) cs')).setCell ⟨W1.heap.size, 1, none⟩ (.slice ta' Np tc')) σ (.slice (some ⟨gs, 0, none⟩) (N + 1) cs) (.slice ta N tc) us) := HI1.out.below HBV.out
               generalize hVV : (w3.setCell ⟨W1.heap.size, 0, none⟩ (.slice (some ⟨gs', 0, none⟩) (Np + 1) cs')).setCell ⟨W1.heap.size, 1, none⟩ (.slice ta' Np tc') = V at HBV HYV HSV HIV ⊢
               clear hVV
               generalize hYY : W1.heap.size = Y at HYV ⊢
               have HGE : Hid (W1.heap.size ≤ Y) := Nat.le_of_eq hYY
               clear hYY)
            | (have HBV : Hid (Below W1.heap.size W1 (w3.alloc (.cells #[.slice (some ⟨gs', 0, none⟩) (Np + 1) cs', .slice ta' Np tc'] 75))) := HB3.out.trans ((alloc_below _ _).mono HB3.out.size)
               have HYV : Hid (BoxX (w3.alloc (.cells #[.slice (some ⟨gs', 0, none⟩) (Np + 1) cs', .slice ta' Np tc'] 75)) w3.heap.size (.slice (some ⟨gs', 0, none⟩) (Np + 1) cs') (.slice ta' Np tc')) := ⟨by simp, heap_alloc_new _ _⟩
               have HSV : Hid (StM (w.heap.size + 3) (w3.alloc (.cells #[.slice (some ⟨gs', 0, none⟩) (Np + 1) cs', .slice ta' Np tc'] 75)) (.slice (some ⟨gs', 0, none⟩) (Np + 1) cs') (.slice ta' Np tc') S.2.2 us') := HT3.out.below (alloc_below _ _)
               have HGE : Hid (W1.heap.size ≤ w3.heap.size) := HB3.out.size
               clear HB3 HT3
               have HIV : Hid (RdI w g pv lv sv tb av ov cv inp i R (w3.alloc (.cells #[.slice (some ⟨gs', 0, none⟩) (Np + 1) cs', .slice ta' Np tc'] 75)) σ (.slice (some ⟨gs, 0, none⟩) (N + 1) cs) (.slice ta N tc) us) := HI1.out.below HBV.out
               generalize hVV : w3.alloc (.cells #[.slice (some ⟨gs', 0, none⟩) (Np + 1) cs', .slice ta' Np tc'] 75) = V at HBV HYV HSV HIV ⊢
               clear hVV
               generalize hYY : w3.heap.size = Y at HYV HGE ⊢
               clear hYY)
          all_goals
            have hb0 := HIV.out.bx.c0
            have hb1 := HIV.out.bx.c1
            have hxl := HIV.out.bx.lt
            have hr0 := HIV.out.br.c0
            have hr1 := HIV.out.br.c1
            have hrf0 := HIV.out.br.f0 0
            have hrf1 := HIV.out.br.f0 1
            have hrlt := HIV.out.br.lt
            have HAn := HIV.out.answer
            have HFB : Hid (Below w.heap.size w ((V.setCell ⟨w.heap.size + 1 + 1, 0, none⟩ (.slice (some ⟨gs, 0, none⟩) (N + 1) cs)).setCell ⟨w.heap.size + 1 + 1, 1, none⟩ (.slice ta N tc))) := HAn.1
            have HFR : Hid (BoxX ((V.setCell ⟨w.heap.size + 1 + 1, 0, none⟩ (.slice (some ⟨gs, 0, none⟩) (N + 1) cs)).setCell ⟨w.heap.size + 1 + 1, 1, none⟩ (.slice ta N tc)) (w.heap.size + 1 + 1) (.slice (some ⟨gs, 0, none⟩) (N + 1) cs) (.slice ta N tc)) := HAn.2.1
            clear HAn
            go_wp2_with fail
            generalize ((V.setCell ⟨w.heap.size + 1 + 1, 0, none⟩ (.slice (some ⟨gs, 0, none⟩) (N + 1) cs)).setCell ⟨w.heap.size + 1 + 1, 1, none⟩ (.slice ta N tc)) = W9 at *
            have k0 := HFR.out.c0
            have k1 := HFR.out.c1
            refine bodyPost_ret (v := .tuple #[.agg #[.slice (some ⟨gs, 0, none⟩) (N + 1) cs, .slice ta N tc], .iface 137 (.pointer (some z)), .int .i64 i]) (by simp [results, go_sem, k0, k1]) rfl ?_
            exact ⟨HFB.out, _, _, _, _, _, _, us, by rw [HRR.out]; simp only; rw [HZ.out, if_neg hc0], fun h => absurd (by rw [HRR.out] at h; exact h) hc0⟩
    · obtain rfl : i = Ni := by omega
      have HRR : Hid (R = (0, i, σ)) := by
        show _ = _
        rw [← HI.out.res, List.drop_eq_nil_of_le (by rw [HNi.out]; exact Nat.le_refl _)]
        rfl
      have HAn := HI.out.answer
      have HFB : Hid (Below w.heap.size w ((wr.setCell ⟨w.heap.size + 1 + 1, 0, none⟩ (.slice (some ⟨gs, 0, none⟩) (σ.length + 1) cs)).setCell ⟨w.heap.size + 1 + 1, 1, none⟩ (.slice ta σ.length tc))) := HAn.1
      have HFR : Hid (BoxX ((wr.setCell ⟨w.heap.size + 1 + 1, 0, none⟩ (.slice (some ⟨gs, 0, none⟩) (σ.length + 1) cs)).setCell ⟨w.heap.size + 1 + 1, 1, none⟩ (.slice ta σ.length tc)) (w.heap.size + 1 + 1) (.slice (some ⟨gs, 0, none⟩) (σ.length + 1) cs) (.slice ta σ.length tc)) := HAn.2.1
      have HFS : Hid (StM (w.heap.size + 3) ((wr.setCell ⟨w.heap.size + 1 + 1, 0, none⟩ (.slice (some ⟨gs, 0, none⟩) (σ.length + 1) cs)).setCell ⟨w.heap.size + 1 + 1, 1, none⟩ (.slice ta σ.length tc)) (.slice (some ⟨gs, 0, none⟩) (σ.length + 1) cs) (.slice ta σ.length tc) σ us) := HAn.2.2
      clear HAn
      generalize σ.length = N at *
      go_wp2_with fail
      generalize (wr.setCell ⟨w.heap.size + 1 + 1, 0, none⟩ (.slice (some ⟨gs, 0, none⟩) (N + 1) cs)).setCell ⟨w.heap.size + 1 + 1, 1, none⟩ (.slice ta N tc) = W9 at *
      have k0 := HFR.out.c0
      have k1 := HFR.out.c1
      refine bodyPost_ret (v := .tuple #[.agg #[.slice (some ⟨gs, 0, none⟩) (N + 1) cs, .slice ta N tc], .nilIface, .int .i64 0]) (by simp [results, go_sem, k0, k1]) rfl ?_
      exact ⟨HFB.out, _, _, _, _, _, _, us, by rw [HRR.out]; rfl, fun _ => by rw [HRR.out]; exact HFS.out⟩

end Go.Proofs.YtdihdnhofgjhnaaDoor
