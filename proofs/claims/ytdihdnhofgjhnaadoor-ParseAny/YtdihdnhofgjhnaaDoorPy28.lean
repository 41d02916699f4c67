/- Texts of the proof, put together: YSetW. -/
import Derived.Test.YtdihdnhofgjhnaaDoorPy24
namespace Go.Proofs.YtdihdnhofgjhnaaDoor
open Go.RowKit
set_option linter.unusedVariables false
set_option maxRecDepth 100000

theorem setS_at (g : Gm) (tb : Tb) (t : Int) (m : Nat) (σ : Pl) : setS g tb t m σ = if (actOf tb (topS σ) t).kind = 0 then (7, 0, σ) else if (actOf tb (topS σ) t).kind = 1 then (0, (actOf tb (topS σ) t).to, σ) else if (actOf tb (topS σ) t).kind = 3 then (if accB g σ then (0, 0, σ) else (3, 0, σ)) else if m = 0 then (2, 0, σ) else match redS g tb (actOf tb (topS σ) t).to σ with | none => (3, 0, σ) | some σ' => setS g tb t (m - 1) σ' := by
  cases m with
  | zero => rw [setS]; simp
  | succ m =>
    rw [setS]
    simp only [Nat.succ_ne_zero, if_false, Nat.add_sub_cancel]
    rfl
/-- where an act lies -/
theorem act_cells {w : World} {g : Gm} {tb : Tb} {av ov cv : Value} {s t : Int} (hT : TbM w tb av ov cv) (hf : fitsB g tb = true) (hs : 0 ≤ s ∧ s < tb.acts.length) (ht : 0 ≤ t ∧ t ≤ g.terms) :
    ∃ ab aoff ac rb roff rc, av = .slice (some ⟨ab, aoff, none⟩) tb.acts.length ac ∧ ab < w.heap.size ∧ rb < w.heap.size ∧ t < (tb.acts.getD s.toNat []).length ∧ w.cell? ⟨ab, aoff + s.toNat, none⟩ = some (.slice (some ⟨rb, roff, none⟩) (tb.acts.getD s.toNat []).length rc) ∧ w.cell? ⟨rb, roff + t.toNat * 2, none⟩ = some (.int .i64 (actOf tb s t).kind) ∧ w.cell? ⟨rb, roff + t.toNat * 2 + 1, none⟩ = some (.int .i64 (actOf tb s t).to) := by
  obtain ⟨hl, _⟩ := act_ok hf hs ht
  obtain ⟨aa, ac, e⟩ := hT.acts.slice
  have hA := hT.acts
  rw [e] at hA
  obtain ⟨ab, aoff, rv, rfl, hab, hc, hr⟩ := hA.at (k := s.toNat) (by omega)
  obtain ⟨ra, rc, rfl⟩ := hr.slice
  obtain ⟨rb, roff, rfl, hrb, h1, h2⟩ := hr.at hl
  exact ⟨ab, aoff, ac, rb, roff, rc, e, hab, hrb, by omega, hc, h1, h2⟩

theorem SetI.below {B : Nat} {w : World} {g : Gm} {pv lv sv : Value} {tb : Tb} {av ov cv : Value} {L n : Nat} {t : Int} {R : Int × Int × Pl} {wr w' : World} {σ : Pl} {xs xt : Value} {us : List Value} (h : SetI B w g pv lv sv tb av ov cv L n t R wr σ xs xt us) (hb : Below wr.heap.size wr w') : SetI B w g pv lv sv tb av ov cv L n t R w' σ xs xt us :=
  ⟨h.bel.trans (hb.mono h.bel.size), h.bg.below h.bg.lt hb, h.bt.below h.bt.lt hb, h.bx.below h.bx.lt hb, h.br.below h.br.lt hb, h.st.below hb, h.ok, h.len, h.res⟩
theorem BoxX.grown {w w' : World} {Q P : Nat} {a b : Value} (h : BoxX w Q a b) (hg : w.grownBy w' (some P)) (hne : Q ≠ P) : BoxX w' Q a b :=
  ⟨Nat.lt_of_lt_of_le h.lt hg.size, (hg.block Q h.lt (by simpa using hne)).trans h.blk⟩
/-- one reduction is done -/
theorem SetI.next {B : Nat} {w : World} {g : Gm} {pv lv sv : Value} {tb : Tb} {av ov cv : Value} {L n : Nat} {t : Int} {R : Int × Int × Pl} {wr w' : World} {σ σ' : Pl} {us us' : List Value} {a1 a2 b1 b2 : Option Addr} {n1 c1 n2 c2 m1 d1 m2 d2 : Nat} {p : Int} (h : SetI B w g pv lv sv tb av ov cv L n t R wr σ (.slice a1 n1 c1) (.slice a2 n2 c2) us) (hf : fitsB g tb = true) (hp : 0 ≤ p ∧ p < g.prods.length) (hn : n < 10000) (hk : actOf tb (topS σ) t = ⟨2, p⟩) (hr : redS g tb p σ = some σ') (hb : Below wr.heap.size wr w') (hst : StM B w' (.slice b1 m1 d1) (.slice b2 m2 d2) σ' us') :
    SetI B w g pv lv sv tb av ov cv L (n + 1) t R ((w'.setCell ⟨w.heap.size + 2, 0, none⟩ (.slice b1 m1 d1)).setCell ⟨w.heap.size + 2, 1, none⟩ (.slice b2 m2 d2)) σ' (.slice b1 m1 d1) (.slice b2 m2 d2) us' := by
  obtain ⟨k1, k2⟩ := redS_ok hf h.ok hp hr
  have h1 := h.below hb
  have hs : Below (w.heap.size + 2) w' ((w'.setCell ⟨w.heap.size + 2, 0, none⟩ (.slice b1 m1 d1)).setCell ⟨w.heap.size + 2, 1, none⟩ (.slice b2 m2 d2)) := below_stored _ _
  have hg := grown_storedY w' (w.heap.size + 2) (.slice b1 m1 d1) (.slice b2 m2 d2)
  refine ⟨h1.bel.trans (hs.mono (by omega)), h1.bg.below (K := w.heap.size + 2) (by omega) hs, h1.bt.below (K := w.heap.size + 2) (by omega) hs, h1.bx.stored _ _, h1.br.grown hg (by omega), hst.keep h1.bx hg, k1, by have := h.len; omega, ?_⟩
  have := h.res
  rw [setS_at, hk] at this
  simp only [show ((2 : Int) = 0) = False by simp, show ((2 : Int) = 1) = False by simp, show ((2 : Int) = 3) = False by simp, if_false] at this
  rw [if_neg (by omega), hr] at this
  rw [← this, show 10000 - (n + 1) = 10000 - n - 1 by omega]

set_option maxHeartbeats 8000000 in
theorem rset_any (g : Gm) (pv lv sv : Value) (tb : Tb) (av ov cv : Value) (xs xt : Value) (ab ar ae : Addr) (B : Nat) (σ : Pl) (us : List Value) (t : Int) (w : World) (hf : fitsB g tb = true) (hG : GrM w g pv lv sv) (hT : TbM w tb av ov cv) (hX : StM B w xs xt σ us) (hok : PlOk g tb σ) (hB : B ≤ w.heap.size) (hlen : σ.length ≤ 900000) (ht : 0 ≤ t ∧ t ≤ g.terms) (hE : ErG w ab ar ae) :
    Calls Tryd.prog 27 #[gv g pv lv sv, tvv av ov cv, .agg #[xs, xt], .int .i64 t] w fun e w' => SetP B w ab ar ae (setS g tb t 10000 σ) e w' := by
  obtain ⟨hB0, hsz, hBX, hBT, hBS, hBR⟩ := boxS_all w g pv lv sv av ov cv xs xt
  have HWB : Hid ((((w.alloc (.cells (gvs g pv lv sv) 25)).alloc (.cells (tvs av ov cv) 30)).alloc (.cells #[xs, xt] 75)).alloc (.cells #[.slice none 0 0, .slice none 0 0] 75) = boxS w g pv lv sv av ov cv xs xt) := rfl
  generalize hR : setS g tb t 10000 σ = R at *
  have HI0 : Hid (SetI B w g pv lv sv tb av ov cv σ.length 0 t R (boxS w g pv lv sv av ov cv xs xt) σ xs xt us) := ⟨hB0, hBX, hBT, hBS, hBR, hX.below hB0, hok, Nat.le_refl _, hR⟩
  have HRed : Hid (∀ w' xs' xt' σ' us' p, Below w.heap.size w w' → StM B w' xs' xt' σ' us' → PlOk g tb σ' → σ'.length ≤ 1000000 → 0 ≤ p ∧ p < (g.prods.length : Int) → Calls Tryd.prog 43 #[gv g pv lv sv, tvv av ov cv, .agg #[xs', xt'], .int .i64 p] w' fun e w'' => RedP B w' xs' xt' (errE ar) (redS g tb p σ') e w'') := fun w' xs' xt' σ' us' p hb h1 h2 h3 h4 => rred_any g pv lv sv tb av ov cv xs' xt' (errE ar) B σ' us' p w' hf (hG.below hb) (hT.below hb) h1 h2 (Nat.le_trans hB hb.size) h3 h4 (hE.below hb).rul
  have HE : Hid (∀ w', Below w.heap.size w w' → ErG w' ab ar ae) := fun w' hb => hE.below hb
  have HA : Hid (∀ w' s, Below w.heap.size w w' → 0 ≤ s ∧ s < (tb.acts.length : Int) → ∃ ab aoff ac rb roff rc, av = .slice (some ⟨ab, aoff, none⟩) tb.acts.length ac ∧ ab < w'.heap.size ∧ rb < w'.heap.size ∧ t < (tb.acts.getD s.toNat []).length ∧ w'.cell? ⟨ab, aoff + s.toNat, none⟩ = some (.slice (some ⟨rb, roff, none⟩) (tb.acts.getD s.toNat []).length rc) ∧ w'.cell? ⟨rb, roff + t.toNat * 2, none⟩ = some (.int .i64 (actOf tb s t).kind) ∧ w'.cell? ⟨rb, roff + t.toNat * 2 + 1, none⟩ = some (.int .i64 (actOf tb s t).to)) := fun w' s hb hs => act_cells (hT.below hb) hf hs ht
  have HAB : Hid (∀ s, 0 ≤ s ∧ s < (tb.acts.length : Int) → actB (decide (t = g.terms)) tb.acts.length g.prods.length (actOf tb s t) = true) := fun s hs => (act_ok hf hs ht).2
  have HG : Hid (∀ w', Below w.heap.size w w' → GrM w' g pv lv sv) := fun w' hb => hG.below hb
  have HF : Hid (1 ≤ tb.acts.length) := (fits_parts hf).2.1
  have HEL : Hid (1 < w.heap.size ∧ 2 < w.heap.size ∧ 6 < w.heap.size) := ⟨lt_of_cellY hE.bnd, lt_of_cellY hE.rul, lt_of_cellY hE.fin⟩
  have HFT : Hid (fitsB g tb = true) := hf
  obtain ⟨ht0, ht1⟩ := ht
  have hLL : σ.length ≤ 900000 := hlen
  generalize hLn : σ.length = L at *
  clear hR hLn hB0 hBX hBT hBS hBR hsz hf hG hT hX hok hE hlen
  generalize boxS w g pv lv sv av ov cv xs xt = W at *
  unfold gv gvs tvv tvs at *
  go_enter Tryd.func27, Tryd.ntmps27
  go_upto_region 1 with fail
  rw [HWB.out]
  clear HWB
  go_wp2_with fail
  go_loopw [11] (fun iv wr => ∃ (n : Nat) (σ : Pl) (xs xt : Value) (us : List Value), n ≤ 10000 ∧ iv = .int .i64 n ∧ Hid (SetI B w g pv lv sv tb av ov cv L n t R wr σ xs xt us)) (fun iv _ => 10001 - (intOf iv).toNat)
  case atStart => exact ⟨0, σ, xs, xt, us, by omega, rfl, HI0⟩
  case round =>
    clear HI0
    obtain ⟨n, σ, xs, xt, us, hn, rfl, HI⟩ := hrel
    obtain ⟨gs, cs, rfl, hgs, hcs1, hcs2, hxs⟩ := HI.out.st.states
    obtain ⟨ta, tc, rfl, hul, hxt⟩ := HI.out.st.trees
    have hlast := hxs σ.length (Nat.le_refl _)
    rw [stL_last] at hlast
    have HXT : Hid ((ta = none ∧ tc = 0 ∧ σ.length = 0) ∨ ∃ g, ta = some ⟨g, 0, none⟩ ∧ g < wr.heap.size ∧ σ.length ≤ tc ∧ tc ≤ maxLen ∧ ∀ j, j < σ.length → wr.cell? ⟨g, j, none⟩ = some (us.getD j .nilFunc)) := hxt
    clear hxs hxt
    have hsok := topS_ok HI.out.ok HF.out
    obtain ⟨kb, koff, kc, rb, roff, rc, rfl, hkb, hrb, htl, hk0, hk1, hk2⟩ := HA.out wr _ HI.out.bel hsok
    have HKO : Hid (actB (decide (t = g.terms)) tb.acts.length g.prods.length (actOf tb (topS σ) t) = true) := HAB.out _ hsok
    have HRS : Hid (R = _) := HI.out.res.symm.trans (setS_at g tb t (10000 - n) σ)
    generalize hS : topS σ = s at *
    obtain ⟨hs0, hs1⟩ := hsok
    generalize (tb.acts.getD s.toNat []).length = rl at *
    generalize hAct : actOf tb s t = act at *
    obtain ⟨kind, to⟩ := act
    have HKE : Hid (actOf tb (topS σ) t = ⟨kind, to⟩) := by show _ = _; rw [hS]; exact hAct
    clear hAct
    simp only at *
    have hx0 := HI.out.bx.c0
    have hx1 := HI.out.bx.c1
    have hxl := HI.out.bx.lt
    have ht0' := HI.out.bt.c0
    have htl' := HI.out.bt.lt
    have hll := HI.out.len
    generalize hLn : σ.length = N at *
    have HLN : Hid (σ.length = N) := hLn
    clear hLn
    have hwN : IntKind.i64.wrap (((N + 1 : Nat) : Int) - 1) = (N : Int) := by rw [IntKind.wrap_i64]; omega
    have hwM : IntKind.i64.wrap (N : Int) = (N : Int) := by rw [IntKind.wrap_i64]; omega
    have hn2 : (n : Int) ≤ 10000 := by omega
    go_wp2_with fail
    go_region
    all_goals
      have HI4 : Hid (SetI B w g pv lv sv tb (.slice (some ⟨kb, koff, none⟩) tb.acts.length kc) ov cv L n t R (wr.alloc (.cells #[.int .i64 kind, .int .i64 to] 53)).drew σ (.slice (some ⟨gs, 0, none⟩) (N + 1) cs) (.slice ta N tc) us) := HI.out.below (below_drewY (alloc_below _ _))
      have HA4 : Hid ((wr.alloc (.cells #[.int .i64 kind, .int .i64 to] 53)).drew.heap[wr.heap.size]? = some (.cells #[.int .i64 kind, .int .i64 to] 53 (0, 0))) := heap_alloc_new wr _
      have HB4 : Hid (Below wr.heap.size wr (wr.alloc (.cells #[.int .i64 kind, .int .i64 to] 53)).drew) := below_drewY (alloc_below _ _)
      clear hx0 hx1 hxl ht0' htl' hlast hk0 hk1 hk2 hwN hwM hn2 hgs hcs1 hcs2 hkb hrb htl hs0 hs1
      generalize (wr.alloc (.cells #[.int .i64 kind, .int .i64 to] 53)).drew = W4 at *
      have hAge : w.heap.size + 3 < wr.heap.size := HI.out.br.lt
      generalize hAe : wr.heap.size = A at *
      have HAe : Hid (wr.heap.size = A) := hAe
      clear hAe
      have a0 : W4.cell? ⟨A, 0, none⟩ = some (.int .i64 kind) := by simp [World.cell?, HA4.out]
      have a1 : W4.cell? ⟨A, 1, none⟩ = some (.int .i64 to) := by simp [World.cell?, HA4.out]
      have al : A < W4.heap.size := (Array.getElem?_eq_some_iff.1 HA4.out).1
      have hx0 := HI4.out.bx.c0
      have hx1 := HI4.out.bx.c1
      have hxl := HI4.out.bx.lt
      have herr := HE.out W4 HI4.out.bel
      have hg1 := herr.bnd
      have hg2 := herr.rul
      have hg3 := herr.fin
      unfold errE at hg1 hg2 hg3
      clear herr
      have hH := HEL.out
      have hne1 : ¬ 1 = w.heap.size + 1 + 1 + 1 := by omega
      have hne2 : ¬ 2 = w.heap.size + 1 + 1 + 1 := by omega
      have hne3 : ¬ 6 = w.heap.size + 1 + 1 + 1 := by omega
      have hne4 : ¬ A = w.heap.size + 1 + 1 + 1 := by omega
      have hkc : kind = 0 ∨ kind = 1 ∨ kind = 2 ∨ kind = 3 := by
        have h := HKO.out
        unfold actB at h
        simp at h
        omega
      rcases hkc with rfl | rfl | rfl | rfl
      · have HRR : Hid (R = (7, 0, σ)) := by show _ = _; rw [HRS.out]; rfl
        have HAn := HI4.out.answer (Below.refl _ _)
        have HFB : Hid (Below w.heap.size w ((W4.setCell ⟨w.heap.size + 1 + 1 + 1, 0, none⟩ (.slice (some ⟨gs, 0, none⟩) (N + 1) cs)).setCell ⟨w.heap.size + 1 + 1 + 1, 1, none⟩ (.slice ta N tc)).drew) := below_drewY HAn.1
        have HFR : Hid (BoxX ((W4.setCell ⟨w.heap.size + 1 + 1 + 1, 0, none⟩ (.slice (some ⟨gs, 0, none⟩) (N + 1) cs)).setCell ⟨w.heap.size + 1 + 1 + 1, 1, none⟩ (.slice ta N tc)).drew (w.heap.size + 1 + 1 + 1) (.slice (some ⟨gs, 0, none⟩) (N + 1) cs) (.slice ta N tc)) := HAn.2.1.drewY
        have HFS : Hid (StM B ((W4.setCell ⟨w.heap.size + 1 + 1 + 1, 0, none⟩ (.slice (some ⟨gs, 0, none⟩) (N + 1) cs)).setCell ⟨w.heap.size + 1 + 1 + 1, 1, none⟩ (.slice ta N tc)).drew (.slice (some ⟨gs, 0, none⟩) (N + 1) cs) (.slice ta N tc) σ us) := HAn.2.2.below (below_drewY (Below.refl _ _))
        clear HAn
        have hr0 := HI4.out.br.c0
        have hr1 := HI4.out.br.c1
        have hrf0 := HI4.out.br.f0 0
        have hrf1 := HI4.out.br.f0 1
        have hrlt := HI4.out.br.lt
        go_wp2_with fail
        go_region
        all_goals
          generalize ((W4.setCell ⟨w.heap.size + 1 + 1 + 1, 0, none⟩ (.slice (some ⟨gs, 0, none⟩) (N + 1) cs)).setCell ⟨w.heap.size + 1 + 1 + 1, 1, none⟩ (.slice ta N tc)).drew = W9 at *
          have k0 := HFR.out.c0
          have k1 := HFR.out.c1
          go_wp2_with fail
          refine bodyPost_ret (v := .tuple #[.agg #[.slice (some ⟨gs, 0, none⟩) (N + 1) cs, .slice ta N tc], .int .i64 0, errE ae]) (by simp [results, go_sem, k0, k1, errE]) rfl ?_
          exact ⟨HFB.out, _, _, us, by rw [HRR.out]; rfl, by rw [HRR.out]; exact HFS.out⟩

      · have HRR : Hid (R = (0, to, σ)) := by show _ = _; rw [HRS.out]; rfl
        have HAn := HI4.out.answer (Below.refl _ _)
        have HFB : Hid (Below w.heap.size w ((W4.setCell ⟨w.heap.size + 1 + 1 + 1, 0, none⟩ (.slice (some ⟨gs, 0, none⟩) (N + 1) cs)).setCell ⟨w.heap.size + 1 + 1 + 1, 1, none⟩ (.slice ta N tc)).drew) := below_drewY HAn.1
        have HFR : Hid (BoxX ((W4.setCell ⟨w.heap.size + 1 + 1 + 1, 0, none⟩ (.slice (some ⟨gs, 0, none⟩) (N + 1) cs)).setCell ⟨w.heap.size + 1 + 1 + 1, 1, none⟩ (.slice ta N tc)).drew (w.heap.size + 1 + 1 + 1) (.slice (some ⟨gs, 0, none⟩) (N + 1) cs) (.slice ta N tc)) := HAn.2.1.drewY
        have HFS : Hid (StM B ((W4.setCell ⟨w.heap.size + 1 + 1 + 1, 0, none⟩ (.slice (some ⟨gs, 0, none⟩) (N + 1) cs)).setCell ⟨w.heap.size + 1 + 1 + 1, 1, none⟩ (.slice ta N tc)).drew (.slice (some ⟨gs, 0, none⟩) (N + 1) cs) (.slice ta N tc) σ us) := HAn.2.2.below (below_drewY (Below.refl _ _))
        clear HAn
        have hr0 := HI4.out.br.c0
        have hr1 := HI4.out.br.c1
        have hrf0 := HI4.out.br.f0 0
        have hrf1 := HI4.out.br.f0 1
        have hrlt := HI4.out.br.lt
        go_wp2_with fail
        go_region
        all_goals
          generalize ((W4.setCell ⟨w.heap.size + 1 + 1 + 1, 0, none⟩ (.slice (some ⟨gs, 0, none⟩) (N + 1) cs)).setCell ⟨w.heap.size + 1 + 1 + 1, 1, none⟩ (.slice ta N tc)).drew = W9 at *
          have k0 := HFR.out.c0
          have k1 := HFR.out.c1
          go_wp2_with fail
          refine bodyPost_ret (v := .tuple #[.agg #[.slice (some ⟨gs, 0, none⟩) (N + 1) cs, .slice ta N tc], .int .i64 to, .nilIface]) (by simp [results, go_sem, k0, k1]) rfl ?_
          exact ⟨HFB.out, _, _, us, by rw [HRR.out]; rfl, by rw [HRR.out]; exact HFS.out⟩

      · have hpr : 0 ≤ to ∧ to < (g.prods.length : Int) := by
          have h := HKO.out
          unfold actB at h
          simp at h
          exact h
        by_cases hn3 : n = 10000
        · subst hn3
          have HRR : Hid (R = (2, 0, σ)) := by show _ = _; rw [HRS.out]; rfl
          have HAn := HI4.out.answer (Below.refl _ _)
          have HFB : Hid (Below w.heap.size w ((W4.setCell ⟨w.heap.size + 1 + 1 + 1, 0, none⟩ (.slice (some ⟨gs, 0, none⟩) (N + 1) cs)).setCell ⟨w.heap.size + 1 + 1 + 1, 1, none⟩ (.slice ta N tc)).drew) := below_drewY HAn.1
          have HFR : Hid (BoxX ((W4.setCell ⟨w.heap.size + 1 + 1 + 1, 0, none⟩ (.slice (some ⟨gs, 0, none⟩) (N + 1) cs)).setCell ⟨w.heap.size + 1 + 1 + 1, 1, none⟩ (.slice ta N tc)).drew (w.heap.size + 1 + 1 + 1) (.slice (some ⟨gs, 0, none⟩) (N + 1) cs) (.slice ta N tc)) := HAn.2.1.drewY
          have HFS : Hid (StM B ((W4.setCell ⟨w.heap.size + 1 + 1 + 1, 0, none⟩ (.slice (some ⟨gs, 0, none⟩) (N + 1) cs)).setCell ⟨w.heap.size + 1 + 1 + 1, 1, none⟩ (.slice ta N tc)).drew (.slice (some ⟨gs, 0, none⟩) (N + 1) cs) (.slice ta N tc) σ us) := HAn.2.2.below (below_drewY (Below.refl _ _))
          clear HAn
          have hr0 := HI4.out.br.c0
          have hr1 := HI4.out.br.c1
          have hrf0 := HI4.out.br.f0 0
          have hrf1 := HI4.out.br.f0 1
          have hrlt := HI4.out.br.lt
          go_wp2_with fail
          go_region
          all_goals
            generalize ((W4.setCell ⟨w.heap.size + 1 + 1 + 1, 0, none⟩ (.slice (some ⟨gs, 0, none⟩) (N + 1) cs)).setCell ⟨w.heap.size + 1 + 1 + 1, 1, none⟩ (.slice ta N tc)).drew = W9 at *
            have k0 := HFR.out.c0
            have k1 := HFR.out.c1
            go_wp2_with fail
            refine bodyPost_ret (v := .tuple #[.agg #[.slice (some ⟨gs, 0, none⟩) (N + 1) cs, .slice ta N tc], .int .i64 0, errE ab]) (by simp [results, go_sem, k0, k1, errE]) rfl ?_
            exact ⟨HFB.out, _, _, us, by rw [HRR.out]; rfl, by rw [HRR.out]; exact HFS.out⟩

        · have hn4 : ¬ (n : Int) = 10000 := by omega
          have HRC : Hid (Calls Tryd.prog 43 #[.agg #[.int .i64 g.terms, .int .i64 g.names, .int .i64 g.start, pv, lv, sv], .agg #[.slice (some ⟨kb, koff, none⟩) tb.acts.length kc, ov, cv], .agg #[.slice (some ⟨gs, 0, none⟩) (N + 1) cs, .slice ta N tc], .int .i64 to] W4 fun e w'' => RedP B W4 (.slice (some ⟨gs, 0, none⟩) (N + 1) cs) (.slice ta N tc) (errE ar) (redS g tb to σ) e w'') := HRed.out W4 _ _ σ us to HI4.out.bel HI4.out.st HI4.out.ok (by have := HI4.out.len; omega) hpr
          obtain ⟨q0, q1, q2, q3, q4, q5, q6⟩ := HI4.out.bg
          obtain ⟨t0, t1, t2, t3⟩ := HI4.out.bt
          go_wp2_with fail
          go_at_call 43
          refine HRC.out.mono ?_
          rintro e w6 ⟨hb6, hres⟩
          have HI6 : Hid (SetI B w g pv lv sv tb (.slice (some ⟨kb, koff, none⟩) tb.acts.length kc) ov cv L n t R w6 σ (.slice (some ⟨gs, 0, none⟩) (N + 1) cs) (.slice ta N tc) us) := HI4.out.below hb6
          clear q0 q1 q2 q3 q4 q5 q6 t0 t1 t2 t3 hx0 hx1 hxl a0 a1 al hg1 hg2 hg3 HRC hne1 hne2 hne3 hne4
          have hx0 := HI6.out.bx.c0
          have hx1 := HI6.out.bx.c1
          have hxl := HI6.out.bx.lt
          have hxf0 := HI6.out.bx.f0 0
          have hxf1 := HI6.out.bx.f0 1
          rcases hres with ⟨ho, rfl⟩ | ⟨σ', xs', xt', us', ho, rfl, hst⟩
          · have HRR : Hid (R = (3, 0, σ)) := by
              show _ = _
              rw [HRS.out]
              simp only [show ((2 : Int) = 0) = False by simp, show ((2 : Int) = 1) = False by simp, show ((2 : Int) = 3) = False by simp, if_false]
              rw [if_neg (by omega), ho]
            have HI7 : Hid (SetI B w g pv lv sv tb (.slice (some ⟨kb, koff, none⟩) tb.acts.length kc) ov cv L n t R (w6.alloc (.cells #[.slice (some ⟨gs, 0, none⟩) (N + 1) cs, .slice ta N tc] 75)) σ (.slice (some ⟨gs, 0, none⟩) (N + 1) cs) (.slice ta N tc) us) := HI6.out.below (alloc_below _ _)
            clear ho hb6
            unfold errE
            have HAn := HI7.out.answer (Below.refl _ _)
            have HFB : Hid (Below w.heap.size w (((w6.alloc (.cells #[.slice (some ⟨gs, 0, none⟩) (N + 1) cs, .slice ta N tc] 75)).setCell ⟨w.heap.size + 1 + 1 + 1, 0, none⟩ (.slice (some ⟨gs, 0, none⟩) (N + 1) cs)).setCell ⟨w.heap.size + 1 + 1 + 1, 1, none⟩ (.slice ta N tc))) := HAn.1
            have HFR : Hid (BoxX (((w6.alloc (.cells #[.slice (some ⟨gs, 0, none⟩) (N + 1) cs, .slice ta N tc] 75)).setCell ⟨w.heap.size + 1 + 1 + 1, 0, none⟩ (.slice (some ⟨gs, 0, none⟩) (N + 1) cs)).setCell ⟨w.heap.size + 1 + 1 + 1, 1, none⟩ (.slice ta N tc)) (w.heap.size + 1 + 1 + 1) (.slice (some ⟨gs, 0, none⟩) (N + 1) cs) (.slice ta N tc)) := HAn.2.1
            have HFS : Hid (StM B (((w6.alloc (.cells #[.slice (some ⟨gs, 0, none⟩) (N + 1) cs, .slice ta N tc] 75)).setCell ⟨w.heap.size + 1 + 1 + 1, 0, none⟩ (.slice (some ⟨gs, 0, none⟩) (N + 1) cs)).setCell ⟨w.heap.size + 1 + 1 + 1, 1, none⟩ (.slice ta N tc)) (.slice (some ⟨gs, 0, none⟩) (N + 1) cs) (.slice ta N tc) σ us) := HAn.2.2
            clear HAn
            have hr0 := HI7.out.br.c0
            have hr1 := HI7.out.br.c1
            have hrf0 := HI7.out.br.f0 0
            have hrf1 := HI7.out.br.f0 1
            have hrlt := HI7.out.br.lt
            go_wp2_with fail
            all_goals
              generalize (((w6.alloc (.cells #[.slice (some ⟨gs, 0, none⟩) (N + 1) cs, .slice ta N tc] 75)).setCell ⟨w.heap.size + 1 + 1 + 1, 0, none⟩ (.slice (some ⟨gs, 0, none⟩) (N + 1) cs)).setCell ⟨w.heap.size + 1 + 1 + 1, 1, none⟩ (.slice ta N tc)) = W9 at *
              have k0 := HFR.out.c0
              have k1 := HFR.out.c1
              refine bodyPost_ret (v := .tuple #[.agg #[.slice (some ⟨gs, 0, none⟩) (N + 1) cs, .slice ta N tc], .int .i64 0, errE ar]) (by simp [results, go_sem, k0, k1, errE]) rfl ?_
              exact ⟨HFB.out, _, _, us, by rw [HRR.out]; rfl, by rw [HRR.out]; exact HFS.out⟩

          · obtain ⟨gs', cs', rfl, _, _, _, _⟩ := hst.states
            obtain ⟨ta', tc', rfl, _, _⟩ := hst.trees
            have HN7 : Hid (SetI B w g pv lv sv tb (.slice (some ⟨kb, koff, none⟩) tb.acts.length kc) ov cv L (n + 1) t R (((w6.setCell ⟨w.heap.size + 2, 0, none⟩ (.slice (some ⟨gs', 0, none⟩) (σ'.length + 1) cs')).setCell ⟨w.heap.size + 2, 1, none⟩ (.slice ta' σ'.length tc')).alloc (.cells #[.slice (some ⟨gs', 0, none⟩) (σ'.length + 1) cs', .slice ta' σ'.length tc'] 75)) σ' (.slice (some ⟨gs', 0, none⟩) (σ'.length + 1) cs') (.slice ta' σ'.length tc') us') := (SetI.next HI4.out HFT.out hpr (by omega) HKE.out ho hb6 hst).below (alloc_below _ _)
            clear hst ho hb6
            generalize σ'.length = N' at *
            go_wp2_with fail
            go_roundw
            case rel => exact ⟨n + 1, σ', _, _, us', by omega, by go_num, HN7⟩
            case measure => simp [intOf]; omega
      · obtain ⟨q0, q1, q2, q3, q4, q5, q6⟩ := HI4.out.bg
        by_cases hN1 : N = 1
        · subst hN1
          obtain ⟨gt, rfl, hgt, _, _, hxc⟩ : ∃ g, ta = some ⟨g, 0, none⟩ ∧ g < A ∧ 1 ≤ tc ∧ tc ≤ maxLen ∧ ∀ j, j < 1 → wr.cell? ⟨g, j, none⟩ = some (us.getD j .nilFunc) := by
            rcases HXT.out with ⟨_, _, h⟩ | h
            · omega
            · exact h
          obtain ⟨x, hx⟩ := List.length_eq_one_iff.1 HLN.out
          obtain ⟨tbk, htb, htlt, htc⟩ := HI4.out.st.treeAt 0 (by rw [HLN.out]; omega)
          have z0 := (HB4.out.cell (p := ⟨gt, 0, none⟩) hgt).trans (hxc 0 (by omega))
          rw [htb] at z0
          have ztl := HI4.out.ok.trees x (by rw [hx]; simp)
          rw [hx] at htc
          have htc' : W4.cell? ⟨tbk, 0, none⟩ = some (.int .i64 x.1.prod) := by simpa [trL] using htc
          have zgl : gt < W4.heap.size := by have h1 := HB4.out.size; rw [HAe.out] at h1; omega
          have HAC : Hid (accB g σ = (decide (0 ≤ x.1.prod) && decide ((prodOf g x.1.prod).left = g.start))) := by show _ = _; rw [hx]; rfl
          have HGR := HG.out W4 HI4.out.bel
          obtain ⟨pa, pc, rfl⟩ := HGR.prods.slice
          clear hxc htc hgt
          obtain ⟨_, zl1, zl2⟩ := ztl
          generalize x.1.prod = xp at *
          by_cases hxp : xp < 0
          · have HRR : Hid (R = (3, 0, σ)) := by
              show _ = _
              rw [HRS.out, HAC.out, decide_eq_false (by omega)]
              rfl
            clear HGR
            go_wp2_with fail
            go_quiet (fail)
            clear hx0 hx1 a0 a1 q0 q1 q2 q3 q4 q5 q6 z0 htc' hg1 hg2 hg3
            have HI5 : Hid (SetI B w g (.slice pa g.prods.length pc) lv sv tb (.slice (some ⟨kb, koff, none⟩) tb.acts.length kc) ov cv L n t R (W4.drewN nq) σ (.slice (some ⟨gs, 0, none⟩) (1 + 1) cs) (.slice (some ⟨gt, 0, none⟩) 1 tc) us) := HI4.out.below (below_drewG (Below.refl _ _) nq)
            generalize W4.drewN nq = W5 at *
            have hx0 := HI5.out.bx.c0
            have hx1 := HI5.out.bx.c1
            have hxl := HI5.out.bx.lt
            have hg2 := (HE.out W5 HI5.out.bel).rul
            unfold errE at hg2
            have HAn := HI5.out.answer (Below.refl _ _)
            have HFB : Hid (Below w.heap.size w ((W5.setCell ⟨w.heap.size + 1 + 1 + 1, 0, none⟩ (.slice (some ⟨gs, 0, none⟩) (1 + 1) cs)).setCell ⟨w.heap.size + 1 + 1 + 1, 1, none⟩ (.slice (some ⟨gt, 0, none⟩) 1 tc)).drew) := below_drewY HAn.1
            have HFR : Hid (BoxX ((W5.setCell ⟨w.heap.size + 1 + 1 + 1, 0, none⟩ (.slice (some ⟨gs, 0, none⟩) (1 + 1) cs)).setCell ⟨w.heap.size + 1 + 1 + 1, 1, none⟩ (.slice (some ⟨gt, 0, none⟩) 1 tc)).drew (w.heap.size + 1 + 1 + 1) (.slice (some ⟨gs, 0, none⟩) (1 + 1) cs) (.slice (some ⟨gt, 0, none⟩) 1 tc)) := HAn.2.1.drewY
            have HFS : Hid (StM B ((W5.setCell ⟨w.heap.size + 1 + 1 + 1, 0, none⟩ (.slice (some ⟨gs, 0, none⟩) (1 + 1) cs)).setCell ⟨w.heap.size + 1 + 1 + 1, 1, none⟩ (.slice (some ⟨gt, 0, none⟩) 1 tc)).drew (.slice (some ⟨gs, 0, none⟩) (1 + 1) cs) (.slice (some ⟨gt, 0, none⟩) 1 tc) σ us) := HAn.2.2.below (below_drewY (Below.refl _ _))
            clear HAn
            have hr0 := HI5.out.br.c0
            have hr1 := HI5.out.br.c1
            have hrf0 := HI5.out.br.f0 0
            have hrf1 := HI5.out.br.f0 1
            have hrlt := HI5.out.br.lt
            go_wp2_with fail
            go_region
            all_goals
              generalize ((W5.setCell ⟨w.heap.size + 1 + 1 + 1, 0, none⟩ (.slice (some ⟨gs, 0, none⟩) (1 + 1) cs)).setCell ⟨w.heap.size + 1 + 1 + 1, 1, none⟩ (.slice (some ⟨gt, 0, none⟩) 1 tc)).drew = W9 at *
              have k0 := HFR.out.c0
              have k1 := HFR.out.c1
              go_wp2_with fail
              refine bodyPost_ret (v := .tuple #[.agg #[.slice (some ⟨gs, 0, none⟩) (1 + 1) cs, .slice (some ⟨gt, 0, none⟩) 1 tc], .int .i64 0, errE ar]) (by simp [results, go_sem, k0, k1, errE]) rfl ?_
              exact ⟨HFB.out, _, _, us, by rw [HRR.out]; rfl, by rw [HRR.out]; exact HFS.out⟩

          · have hxp0 : 0 ≤ xp := by omega
            obtain ⟨pb, poff, pvv, rfl, hpb, hpm⟩ := HGR.prods.at (k := xp.toNat) (by omega)
            obtain ⟨m0, m1, m2, _⟩ := hpm
            have HPE : Hid (g.prods.getD xp.toNat noPd = prodOf g xp) := rfl
            rw [HPE.out] at m0
            generalize (prodOf g xp).left = lf at *
            clear m1 m2 HGR
            by_cases hls : lf = g.start
            · have d1 : (lf != g.start) = false := by rw [bne_eq_false_iff_eq]; exact hls
              have HRR : Hid (R = (0, 0, σ)) := by
                show _ = _
                rw [HRS.out, HAC.out, decide_eq_true hxp0, decide_eq_true hls]
                rfl
              clear hls
              go_wp2_with fail
              go_quiet (fail)
              clear hx0 hx1 a0 a1 q0 q1 q2 q3 q4 q5 q6 z0 htc' hg1 hg2 hg3 m0
              have HI5 : Hid (SetI B w g (.slice (some ⟨pb, poff, none⟩) g.prods.length pc) lv sv tb (.slice (some ⟨kb, koff, none⟩) tb.acts.length kc) ov cv L n t R (W4.drewN nq) σ (.slice (some ⟨gs, 0, none⟩) (1 + 1) cs) (.slice (some ⟨gt, 0, none⟩) 1 tc) us) := HI4.out.below (below_drewG (Below.refl _ _) nq)
              generalize W4.drewN nq = W5 at *
              have hx0 := HI5.out.bx.c0
              have hx1 := HI5.out.bx.c1
              have hxl := HI5.out.bx.lt
              have HAn := HI5.out.answer (Below.refl _ _)
              have HFB : Hid (Below w.heap.size w ((W5.setCell ⟨w.heap.size + 1 + 1 + 1, 0, none⟩ (.slice (some ⟨gs, 0, none⟩) (1 + 1) cs)).setCell ⟨w.heap.size + 1 + 1 + 1, 1, none⟩ (.slice (some ⟨gt, 0, none⟩) 1 tc))) := HAn.1
              have HFR : Hid (BoxX ((W5.setCell ⟨w.heap.size + 1 + 1 + 1, 0, none⟩ (.slice (some ⟨gs, 0, none⟩) (1 + 1) cs)).setCell ⟨w.heap.size + 1 + 1 + 1, 1, none⟩ (.slice (some ⟨gt, 0, none⟩) 1 tc)) (w.heap.size + 1 + 1 + 1) (.slice (some ⟨gs, 0, none⟩) (1 + 1) cs) (.slice (some ⟨gt, 0, none⟩) 1 tc)) := HAn.2.1
              have HFS : Hid (StM B ((W5.setCell ⟨w.heap.size + 1 + 1 + 1, 0, none⟩ (.slice (some ⟨gs, 0, none⟩) (1 + 1) cs)).setCell ⟨w.heap.size + 1 + 1 + 1, 1, none⟩ (.slice (some ⟨gt, 0, none⟩) 1 tc)) (.slice (some ⟨gs, 0, none⟩) (1 + 1) cs) (.slice (some ⟨gt, 0, none⟩) 1 tc) σ us) := HAn.2.2
              clear HAn
              have hr0 := HI5.out.br.c0
              have hr1 := HI5.out.br.c1
              have hrf0 := HI5.out.br.f0 0
              have hrf1 := HI5.out.br.f0 1
              have hrlt := HI5.out.br.lt
              go_wp2_with fail
              all_goals
                generalize ((W5.setCell ⟨w.heap.size + 1 + 1 + 1, 0, none⟩ (.slice (some ⟨gs, 0, none⟩) (1 + 1) cs)).setCell ⟨w.heap.size + 1 + 1 + 1, 1, none⟩ (.slice (some ⟨gt, 0, none⟩) 1 tc)) = W9 at *
                have k0 := HFR.out.c0
                have k1 := HFR.out.c1
                refine bodyPost_ret (v := .tuple #[.agg #[.slice (some ⟨gs, 0, none⟩) (1 + 1) cs, .slice (some ⟨gt, 0, none⟩) 1 tc], .int .i64 0, .nilIface]) (by simp [results, go_sem, k0, k1]) rfl ?_
                exact ⟨HFB.out, _, _, us, by rw [HRR.out]; rfl, by rw [HRR.out]; exact HFS.out⟩

            · have d1 : (lf != g.start) = true := by rw [bne_iff_ne]; exact hls
              have HRR : Hid (R = (3, 0, σ)) := by
                show _ = _
                rw [HRS.out, HAC.out, decide_eq_true hxp0, decide_eq_false hls]
                rfl
              clear hls
              go_wp2_with fail
              go_quiet (fail)
              clear hx0 hx1 a0 a1 q0 q1 q2 q3 q4 q5 q6 z0 htc' hg1 hg2 hg3 m0
              have HI5 : Hid (SetI B w g (.slice (some ⟨pb, poff, none⟩) g.prods.length pc) lv sv tb (.slice (some ⟨kb, koff, none⟩) tb.acts.length kc) ov cv L n t R (W4.drewN nq) σ (.slice (some ⟨gs, 0, none⟩) (1 + 1) cs) (.slice (some ⟨gt, 0, none⟩) 1 tc) us) := HI4.out.below (below_drewG (Below.refl _ _) nq)
              generalize W4.drewN nq = W5 at *
              have hx0 := HI5.out.bx.c0
              have hx1 := HI5.out.bx.c1
              have hxl := HI5.out.bx.lt
              have hg2 := (HE.out W5 HI5.out.bel).rul
              unfold errE at hg2
              have HAn := HI5.out.answer (Below.refl _ _)
              have HFB : Hid (Below w.heap.size w ((W5.setCell ⟨w.heap.size + 1 + 1 + 1, 0, none⟩ (.slice (some ⟨gs, 0, none⟩) (1 + 1) cs)).setCell ⟨w.heap.size + 1 + 1 + 1, 1, none⟩ (.slice (some ⟨gt, 0, none⟩) 1 tc)).drew) := below_drewY HAn.1
              have HFR : Hid (BoxX ((W5.setCell ⟨w.heap.size + 1 + 1 + 1, 0, none⟩ (.slice (some ⟨gs, 0, none⟩) (1 + 1) cs)).setCell ⟨w.heap.size + 1 + 1 + 1, 1, none⟩ (.slice (some ⟨gt, 0, none⟩) 1 tc)).drew (w.heap.size + 1 + 1 + 1) (.slice (some ⟨gs, 0, none⟩) (1 + 1) cs) (.slice (some ⟨gt, 0, none⟩) 1 tc)) := HAn.2.1.drewY
              have HFS : Hid (StM B ((W5.setCell ⟨w.heap.size + 1 + 1 + 1, 0, none⟩ (.slice (some ⟨gs, 0, none⟩) (1 + 1) cs)).setCell ⟨w.heap.size + 1 + 1 + 1, 1, none⟩ (.slice (some ⟨gt, 0, none⟩) 1 tc)).drew (.slice (some ⟨gs, 0, none⟩) (1 + 1) cs) (.slice (some ⟨gt, 0, none⟩) 1 tc) σ us) := HAn.2.2.below (below_drewY (Below.refl _ _))
              clear HAn
              have hr0 := HI5.out.br.c0
              have hr1 := HI5.out.br.c1
              have hrf0 := HI5.out.br.f0 0
              have hrf1 := HI5.out.br.f0 1
              have hrlt := HI5.out.br.lt
              go_wp2_with fail
              go_region
              all_goals
                generalize ((W5.setCell ⟨w.heap.size + 1 + 1 + 1, 0, none⟩ (.slice (some ⟨gs, 0, none⟩) (1 + 1) cs)).setCell ⟨w.heap.size + 1 + 1 + 1, 1, none⟩ (.slice (some ⟨gt, 0, none⟩) 1 tc)).drew = W9 at *
                have k0 := HFR.out.c0
                have k1 := HFR.out.c1
                go_wp2_with fail
                refine bodyPost_ret (v := .tuple #[.agg #[.slice (some ⟨gs, 0, none⟩) (1 + 1) cs, .slice (some ⟨gt, 0, none⟩) 1 tc], .int .i64 0, errE ar]) (by simp [results, go_sem, k0, k1, errE]) rfl ?_
                exact ⟨HFB.out, _, _, us, by rw [HRR.out]; rfl, by rw [HRR.out]; exact HFS.out⟩

        · have hN2 : ((N : Int) != 1) = true := by rw [bne_iff_ne]; omega
          have HRR : Hid (R = (3, 0, σ)) := by
            show _ = _
            have ha : accB g σ = false := by
              have hl := HLN.out
              match σ, hl with
              | [], _ => rfl
              | [x], hl => simp at hl; omega
              | x :: y :: r, _ => rfl
            rw [HRS.out, ha]
            rfl
          go_wp2_with fail
          go_quiet (fail)
          clear hx0 hx1 a0 a1 q0 q1 q2 q3 q4 q5 q6 hg1 hg2 hg3
          have HI5 : Hid (SetI B w g pv lv sv tb (.slice (some ⟨kb, koff, none⟩) tb.acts.length kc) ov cv L n t R (W4.drewN nq) σ (.slice (some ⟨gs, 0, none⟩) (N + 1) cs) (.slice ta N tc) us) := HI4.out.below (below_drewG (Below.refl _ _) nq)
          generalize W4.drewN nq = W5 at *
          have hx0 := HI5.out.bx.c0
          have hx1 := HI5.out.bx.c1
          have hxl := HI5.out.bx.lt
          have hg2 := (HE.out W5 HI5.out.bel).rul
          unfold errE at hg2
          have HAn := HI5.out.answer (Below.refl _ _)
          have HFB : Hid (Below w.heap.size w ((W5.setCell ⟨w.heap.size + 1 + 1 + 1, 0, none⟩ (.slice (some ⟨gs, 0, none⟩) (N + 1) cs)).setCell ⟨w.heap.size + 1 + 1 + 1, 1, none⟩ (.slice ta N tc)).drew) := below_drewY HAn.1
          have HFR : Hid (BoxX ((W5.setCell ⟨w.heap.size + 1 + 1 + 1, 0, none⟩ (.slice (some ⟨gs, 0, none⟩) (N + 1) cs)).setCell ⟨w.heap.size + 1 + 1 + 1, 1, none⟩ (.slice ta N tc)).drew (w.heap.size + 1 + 1 + 1) (.slice (some ⟨gs, 0, none⟩) (N + 1) cs) (.slice ta N tc)) := HAn.2.1.drewY
          have HFS : Hid (StM B ((W5.setCell ⟨w.heap.size + 1 + 1 + 1, 0, none⟩ (.slice (some ⟨gs, 0, none⟩) (N + 1) cs)).setCell ⟨w.heap.size + 1 + 1 + 1, 1, none⟩ (.slice ta N tc)).drew (.slice (some ⟨gs, 0, none⟩) (N + 1) cs) (.slice ta N tc) σ us) := HAn.2.2.below (below_drewY (Below.refl _ _))
          clear HAn
          have hr0 := HI5.out.br.c0
          have hr1 := HI5.out.br.c1
          have hrf0 := HI5.out.br.f0 0
          have hrf1 := HI5.out.br.f0 1
          have hrlt := HI5.out.br.lt
          go_wp2_with fail
          go_region
          all_goals
            generalize ((W5.setCell ⟨w.heap.size + 1 + 1 + 1, 0, none⟩ (.slice (some ⟨gs, 0, none⟩) (N + 1) cs)).setCell ⟨w.heap.size + 1 + 1 + 1, 1, none⟩ (.slice ta N tc)).drew = W9 at *
            have k0 := HFR.out.c0
            have k1 := HFR.out.c1
            go_wp2_with fail
            refine bodyPost_ret (v := .tuple #[.agg #[.slice (some ⟨gs, 0, none⟩) (N + 1) cs, .slice ta N tc], .int .i64 0, errE ar]) (by simp [results, go_sem, k0, k1, errE]) rfl ?_
            exact ⟨HFB.out, _, _, us, by rw [HRR.out]; rfl, by rw [HRR.out]; exact HFS.out⟩


end Go.Proofs.YtdihdnhofgjhnaaDoor
