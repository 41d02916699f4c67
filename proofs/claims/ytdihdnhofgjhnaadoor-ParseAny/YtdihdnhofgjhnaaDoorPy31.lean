/- Texts of the proof, put together: YPnx. -/
import Derived.Test.YtdihdnhofgjhnaaDoorPy30
namespace Go.Proofs.YtdihdnhofgjhnaaDoor
open Go.RowKit
set_option linter.unusedVariables false
set_option maxRecDepth 100000

theorem step_err_set {g : Gm} {tb : Tb} {inp : List Int} {a r : Nat} {σ : Pl} (hr : r ≤ 10000) (ho : oobB g inp a = false) (h : (stepS g tb inp a r σ).code ≠ 0) : (setS g tb (termAt g inp a) (10000 - r) σ).1 = (stepS g tb inp a r σ).code := by
  have hS := setS_eqn g tb (termAt g inp a) (10000 - r) σ
  unfold stepS at h ⊢
  rw [if_neg (by rw [ho]; simp)] at h ⊢
  by_cases h0 : (actOf tb (topS σ) (termAt g inp a)).kind = 0
  · rw [if_pos h0] at h hS ⊢; rw [hS]
  · rw [if_neg h0] at h hS ⊢
    by_cases h1 : (actOf tb (topS σ) (termAt g inp a)).kind = 1
    · rw [if_pos h1] at h; exact absurd rfl h
    · rw [if_neg h1] at h hS ⊢
      by_cases h3 : (actOf tb (topS σ) (termAt g inp a)).kind = 3
      · rw [if_pos h3] at h hS ⊢
        by_cases hA : accB g σ = true
        · rw [if_pos hA] at h; exact absurd rfl h
        · rw [if_neg hA] at h hS ⊢; rw [hS]
      · rw [if_neg h3] at h hS ⊢
        by_cases hr0 : r = 10000
        · rw [if_pos hr0] at h ⊢
          rw [if_pos (by omega)] at hS
          rw [hS]
        · rw [if_neg hr0] at h ⊢
          rw [if_neg (by omega)] at hS
          cases hq : redS g tb (actOf tb (topS σ) (termAt g inp a)).to σ with
          | none => rw [hq] at hS; rw [hS]
          | some σ' => rw [hq] at h; exact absurd rfl h
/-- a trial on its way -/
structure TrI (w wr : World) (c : PC) (tb : Tb) (one : List Int) (L : Nat) (S : Int × Int × Pl) (P a r : Nat) (σ : Pl) (acc : Bool) (tq : Nat) : Prop where
  ps : PsI w wr c P a r σ acc tq
  ok : PlOk c.g tb σ
  ha : a ≤ one.length
  hr : r ≤ 10000
  hl : a = 0 → σ.length ≤ L + r
  no : a = 0 → acc = false → setS c.g tb (termAt c.g one 0) (10000 - r) σ = S
  yes : a ≠ 0 ∨ acc = true → S.1 = 0
def mzT (a r : Nat) (acc : Bool) : Nat := if a = 0 ∧ acc = false then 10001 - r else 0
theorem TrI.step {w wr w2 : World} {c : PC} {tb : Tb} {one : List Int} {L : Nat} {S : Int × Int × Pl} {P r : Nat} {σ : Pl} {tq tq' : Nat} (h : TrI w wr c tb one L S P 0 r σ false tq) (hf : fitsB c.g tb = true) (h0 : (stepS c.g tb one 0 r σ).code = 0) (hps : PsI w w2 c P (stepS c.g tb one 0 r σ).at_ (stepS c.g tb one 0 r σ).red (stepS c.g tb one 0 r σ).pl (stepS c.g tb one 0 r σ).acc tq') :
    TrI w w2 c tb one L S P (stepS c.g tb one 0 r σ).at_ (stepS c.g tb one 0 r σ).red (stepS c.g tb one 0 r σ).pl (stepS c.g tb one 0 r σ).acc tq' ∧ mzT (stepS c.g tb one 0 r σ).at_ (stepS c.g tb one 0 r σ).red (stepS c.g tb one 0 r σ).acc < mzT 0 r false := by
  obtain ⟨k1, k2, k3, k4, k5, k6, k7⟩ := step_ok hf h.ok h.ha h.hr h0
  have hacc := @acc_is c.g tb one 0 r σ
  have hl := h.hl rfl
  have hno := h.no rfl rfl
  have hr := h.hr
  generalize stepS c.g tb one 0 r σ = q at *
  cases hq : q.acc with
  | true =>
    obtain ⟨j1, j2, j3, j4, j5⟩ := k6 hq
    have j6 := (hacc hq).2
    rw [hq] at hps
    refine ⟨⟨hps, k1, k2, k4, fun _ => by rw [j3, j6]; exact hl, fun _ e => by simp at e, fun _ => by rw [← hno]; exact j5⟩, ?_⟩
    unfold mzT
    simp
    omega
  | false =>
    obtain ⟨j1, j2, j3⟩ := k7 hq
    rw [hq] at hps
    rcases j3 with ⟨e1, e2, e3⟩ | ⟨e1, e2, e3⟩
    · refine ⟨⟨hps, k1, k2, k4, fun e => by omega, fun e => by omega, fun _ => by rw [← hno]; exact e3⟩, ?_⟩
      rw [e1]
      unfold mzT
      simp
      omega
    · refine ⟨⟨hps, k1, k2, k4, fun _ => by rw [e2]; omega, fun _ _ => by rw [e2, e3]; exact hno, fun e => by simp [e1] at e⟩, ?_⟩
      rw [e1, e2]
      unfold mzT
      simp
      omega

set_option maxHeartbeats 8000000 in
theorem goesOn_any {w0 w : World} {c : PC} {tb : Tb} {inp : List Int} {P a r : Nat} {σ : Pl} {tq : Nat} {ab ar ae : Addr} (h : PsI w0 w c P a r σ false tq) (hN : Gnd w0 c tb inp ab ar ae) (hok : PlOk c.g tb σ) (hlen : σ.length ≤ 880000) (one : List Int) (iv : Value) (hI : IntsR w iv one) (ho1 : one.length ≤ 1) (ho2 : oobB c.g one 0 = false) :
    Calls Tryd.prog 36 #[.pointer (some ⟨P, 0, none⟩), iv] w fun e w' => e = .returned (.bool (decide ((setS c.g tb (termAt c.g one 0) 10000 σ).1 = 0))) ∧ Below w.heap.size w w' := by
  have hNw := hN.below h.bel
  have c16 : w.cell? ⟨P, 16, none⟩ = some (.pointer (some ⟨tq, 0, none⟩)) := h.par.at 16
  have e0 : w.cell? ⟨P, 0, none⟩ = some (.int .i64 c.g.terms) := h.par.at 0
  have e1 : w.cell? ⟨P, 1, none⟩ = some (.int .i64 c.g.names) := h.par.at 1
  have e2 : w.cell? ⟨P, 2, none⟩ = some (.int .i64 c.g.start) := h.par.at 2
  have e3 : w.cell? ⟨P, 3, none⟩ = some c.pv := h.par.at 3
  have e4 : w.cell? ⟨P, 4, none⟩ = some c.lv := h.par.at 4
  have e5 : w.cell? ⟨P, 5, none⟩ = some c.sv := h.par.at 5
  have e6 : w.cell? ⟨P, 6, none⟩ = some c.av := h.par.at 6
  have e7 : w.cell? ⟨P, 7, none⟩ = some c.ov := h.par.at 7
  have e8 : w.cell? ⟨P, 8, none⟩ = some c.cv := h.par.at 8
  have hlt := h.par.lt
  obtain ⟨ia, ic, rfl⟩ := hI.slice
  have HG2 : Hid (Gnd w ⟨c.g, c.pv, c.lv, c.sv, c.av, c.ov, c.cv, .slice ia one.length ic⟩ tb one ab ar ae) := ⟨hN.fit, hNw.gr, hNw.tbl, hI, by omega, hNw.err⟩
  have HFr : Hid (Calls Tryd.prog 33 #[.pointer (some ⟨tq, 0, none⟩), gv c.g c.pv c.lv c.sv, tvv c.av c.ov c.cv, .slice ia one.length ic] w.drew fun e w' => ∃ P', e = .returned (.pointer (some ⟨P', 0, none⟩)) ∧ Hid (PsI w w' ⟨c.g, c.pv, c.lv, c.sv, c.av, c.ov, c.cv, .slice ia one.length ic⟩ P' 0 0 σ false tq)) := by
    obtain ⟨h1, h2, h3, h4, h5, h6, h7⟩ := slices_of (c := ⟨c.g, c.pv, c.lv, c.sv, c.av, c.ov, c.cv, .slice ia one.length ic⟩) HG2.out.gr HG2.out.tbl HG2.out.inn
    refine (from_any ⟨c.g, c.pv, c.lv, c.sv, c.av, c.ov, c.cv, .slice ia one.length ic⟩ tq w.drew h1 h2 h3 h4 h5 h6 h7).mono ?_
    rintro e w' ⟨rfl, hb, hp⟩
    have hb' : Below w.heap.size w w' := (below_drewY (Below.refl _ w)).trans hb
    refine ⟨_, rfl, hb', Nat.le_trans (Nat.le_refl _) (Nat.le_add_right _ 2), hp, h.pil.moved hb'.size (fun b hb1 _ => ⟨?_, hb'.block b hb1⟩) (fun b cs hb1 => hb'.block b (Array.getElem?_eq_some_iff.1 hb1).1) σ⟩
    show b ≠ w.heap.size + 2
    omega
  have HX : Hid (∀ w' P' c', PsI w w' c' P' 0 0 σ false tq → w'.cell? ⟨P, 16, none⟩ = some (.pointer (some ⟨tq, 0, none⟩)) ∧ w'.cell? ⟨P, 0, none⟩ = some (.int .i64 c.g.terms) ∧ w'.cell? ⟨P, 1, none⟩ = some (.int .i64 c.g.names) ∧ w'.cell? ⟨P, 2, none⟩ = some (.int .i64 c.g.start) ∧ w'.cell? ⟨P, 3, none⟩ = some (c.pv) ∧ w'.cell? ⟨P, 4, none⟩ = some (c.lv) ∧ w'.cell? ⟨P, 5, none⟩ = some (c.sv) ∧ w'.cell? ⟨P, 6, none⟩ = some (c.av) ∧ w'.cell? ⟨P, 7, none⟩ = some (c.ov) ∧ w'.cell? ⟨P, 8, none⟩ = some (c.cv)) := fun w' P' c' hp => by
    have hb := hp.bel
    exact ⟨(hb.cell (p := ⟨P, 16, none⟩) hlt).trans c16, (hb.cell (p := ⟨P, 0, none⟩) hlt).trans e0, (hb.cell (p := ⟨P, 1, none⟩) hlt).trans e1, (hb.cell (p := ⟨P, 2, none⟩) hlt).trans e2, (hb.cell (p := ⟨P, 3, none⟩) hlt).trans e3, (hb.cell (p := ⟨P, 4, none⟩) hlt).trans e4, (hb.cell (p := ⟨P, 5, none⟩) hlt).trans e5, (hb.cell (p := ⟨P, 6, none⟩) hlt).trans e6, (hb.cell (p := ⟨P, 7, none⟩) hlt).trans e7, (hb.cell (p := ⟨P, 8, none⟩) hlt).trans e8⟩
  have HST : Hid (∀ wr P a r σ tq, PsI w wr ⟨c.g, c.pv, c.lv, c.sv, c.av, c.ov, c.cv, .slice ia one.length ic⟩ P a r σ false tq → PlOk c.g tb σ → a ≤ one.length → r ≤ 10000 → σ.length ≤ 900000 → Calls Tryd.prog 22 #[.pointer (some ⟨P, 0, none⟩)] wr fun e w' => StpP w wr ⟨c.g, c.pv, c.lv, c.sv, c.av, c.ov, c.cv, .slice ia one.length ic⟩ P a (stepS c.g tb one a r σ) ab ar ae e w') := fun wr P a r σ tq h h1 h2 h3 h4 => step_any h HG2.out h1 h2 h3 h4
  have HFT : Hid (fitsB c.g tb = true) := hN.fit
  have HO2 : Hid (oobB c.g one 0 = false) := ho2
  have HOK : Hid (PlOk c.g tb σ) := hok
  generalize hS : setS c.g tb (termAt c.g one 0) 10000 σ = S at *
  have HS : Hid (setS c.g tb (termAt c.g one 0) 10000 σ = S) := hS
  clear hS h hN hNw hI HG2 ho2 hok
  unfold gv gvs tvv tvs at *
  generalize hOn : one.length = n1 at *
  have HOn : Hid (one.length = n1) := hOn
  clear hOn
  go_enter Tryd.func36, Tryd.ntmps36
  go_wp2_with fail
  go_region_held3 (fun w' => w'.cell? ⟨P, 16, none⟩ = some (.pointer (some ⟨tq, 0, none⟩)) ∧ w'.cell? ⟨P, 0, none⟩ = some (.int .i64 c.g.terms) ∧ w'.cell? ⟨P, 1, none⟩ = some (.int .i64 c.g.names) ∧ w'.cell? ⟨P, 2, none⟩ = some (.int .i64 c.g.start) ∧ w'.cell? ⟨P, 3, none⟩ = some (c.pv) ∧ w'.cell? ⟨P, 4, none⟩ = some (c.lv) ∧ w'.cell? ⟨P, 5, none⟩ = some (c.sv) ∧ w'.cell? ⟨P, 6, none⟩ = some (c.av) ∧ w'.cell? ⟨P, 7, none⟩ = some (c.ov) ∧ w'.cell? ⟨P, 8, none⟩ = some (c.cv)) (go_keep) ((go_at_call 33; refine HFr.out.mono ?_; rintro e w2 ⟨P', rfl, HP2⟩; have f := HX.out w2 _ _ HP2.out; obtain ⟨f0, f1, f2, f3, f4, f5, f6, f7, f8, f9⟩ := f))
  all_goals
    clear c16 e0 e1 e2 e3 e4 e5 e6 e7 e8 hlt HFr f0 f1 f2 f3 f4 f5 f6 f7 f8 f9 HX
    have HI2 : Hid (TrI w w2 ⟨c.g, c.pv, c.lv, c.sv, c.av, c.ov, c.cv, .slice ia n1 ic⟩ tb one σ.length S P' 0 0 σ false tq) := ⟨HP2.out, HOK.out, by omega, by omega, fun _ => by omega, fun _ _ => HS.out, fun e => by simp at e⟩
    clear HP2
    go_wp2_with fail
    go_loopg [4] (mzT 0 0 false) (fun gn ev wr => ∃ (a r : Nat) (τ : Pl) (acc : Bool) (tz : Nat), Hid (mzT a r acc ≤ gn) ∧ Hid (TrI w wr ⟨c.g, c.pv, c.lv, c.sv, c.av, c.ov, c.cv, .slice ia n1 ic⟩ tb one σ.length S P' a r τ acc tz))
    case atStart => exact ⟨0, 0, σ, false, tq, (show _ ≤ _ from Nat.le_refl _), HI2⟩
    case round =>
      clear HI2
      obtain ⟨a, r, τ, acc, tz, HM, HI⟩ := hrel
      have c17 : wr.cell? ⟨P', 17, none⟩ = some (.bool acc) := HI.out.ps.par.at 17
      have c14 : wr.cell? ⟨P', 14, none⟩ = some (.int .i64 a) := HI.out.ps.par.at 14
      have plt := HI.out.ps.par.lt
      have hbel := HI.out.ps.bel
      cases acc with
      | true =>
        have HY : Hid (decide (S.1 = 0) = true) := by show _ = _; rw [decide_eq_true (HI.out.yes (.inr rfl))]
        go_wp2_with fail
        go_ret
        exact ⟨by rw [HY.out]; rfl, hbel⟩
      | false =>
        by_cases ha : a = 0
        · subst ha
          have c14' : wr.cell? ⟨P', 14, none⟩ = some (.int .i64 0) := c14
          have HC : Hid (Calls Tryd.prog 22 #[.pointer (some ⟨P', 0, none⟩)] wr fun e w' => StpP w wr ⟨c.g, c.pv, c.lv, c.sv, c.av, c.ov, c.cv, .slice ia n1 ic⟩ P' 0 (stepS c.g tb one 0 r τ) ab ar ae e w') := HST.out wr P' 0 r τ tz HI.out.ps HI.out.ok (by omega) HI.out.hr (by
            have h1 := HI.out.hl rfl
            have h3 := HI.out.hr
            omega)
          clear c14
          go_wp2_with fail
          go_at_call 22
          refine HC.out.mono ?_
          rintro e w4 ⟨hg4, hres⟩
          have HB4 : Hid (Below w.heap.size w w4) := below_grownP HI.out.ps.bel hg4 HI.out.ps.low
          rcases hres with ⟨h0, rfl, tq', hps⟩ | ⟨h0, fb, rfl, f0, f1⟩
          · obtain ⟨h5, h6⟩ := HI.out.step HFT.out h0 hps
            have HI5 : Hid (TrI w w4 ⟨c.g, c.pv, c.lv, c.sv, c.av, c.ov, c.cv, .slice ia n1 ic⟩ tb one σ.length S P' (stepS c.g tb one 0 r τ).at_ (stepS c.g tb one 0 r τ).red (stepS c.g tb one 0 r τ).pl (stepS c.g tb one 0 r τ).acc tq') := h5
            have HM5 : Hid (mzT (stepS c.g tb one 0 r τ).at_ (stepS c.g tb one 0 r τ).red (stepS c.g tb one 0 r τ).acc < mzT 0 r false) := h6
            clear h5 h6 hps hg4 h0 c14' c17 HC
            generalize stepS c.g tb one 0 r τ = q at *
            go_wp2_with fail
            go_roundg (mzT q.at_ q.red q.acc)
            case rel => exact ⟨q.at_, q.red, q.pl, q.acc, tq', (show _ ≤ _ from Nat.le_refl _), HI5⟩
            case measure => exact Nat.lt_of_lt_of_le HM5.out HM.out
          · have HY : Hid (decide (S.1 = 0) = false) := by
              show _ = _
              have e1 := HI.out.no rfl rfl
              have e2 := step_err_set (g := c.g) (tb := tb) (inp := one) (a := 0) (σ := τ) HI.out.hr HO2.out h0
              rw [← e1]
              refine decide_eq_false ?_
              rw [show (setS c.g tb (termAt c.g one 0) (10000 - r) τ).1 = _ from e2]
              exact h0
            clear hg4 c14' c17 HC
            go_wp2_with fail
            go_ret
            exact ⟨by rw [HY.out]; rfl, HB4.out⟩
        · have HY : Hid (decide (S.1 = 0) = true) := by show _ = _; rw [decide_eq_true (HI.out.yes (.inl ha))]
          have hne : ¬ (a : Int) = 0 := by omega
          go_wp2_with fail
          go_ret
          exact ⟨by rw [HY.out]; rfl, hbel⟩

end Go.Proofs.YtdihdnhofgjhnaaDoor
