/- Texts of the proof, put together: YStp. -/
import Derived.Test.YtdihdnhofgjhnaaDoorPy27
import Derived.Test.YtdihdnhofgjhnaaDoorPy28
namespace Go.Proofs.YtdihdnhofgjhnaaDoor
open Go.RowKit
set_option linter.unusedVariables false
set_option maxRecDepth 100000

/-- what a step answers -/
def StpP (w0 w : World) (c : PC) (P a : Nat) (q : Stp) (ab ar ae : Addr) (e : Ending) (w' : World) : Prop :=
  w.grownBy w' (some P) ∧ ((q.code = 0 ∧ e = .returned .nilIface ∧ ∃ tq', PsI w0 w' c P q.at_ q.red q.pl q.acc tq') ∨ (q.code ≠ 0 ∧ FltP w' e (errV ab ar ae q.code) a))

set_option maxHeartbeats 8000000 in
theorem step_any {w0 w : World} {c : PC} {tb : Tb} {inp : List Int} {P a r : Nat} {σ : Pl} {tq : Nat} {ab ar ae : Addr} (h : PsI w0 w c P a r σ false tq) (hN : Gnd w0 c tb inp ab ar ae) (hok : PlOk c.g tb σ) (ha : a ≤ inp.length) (hr : r ≤ 10000) (hlen : σ.length ≤ 900000) :
    Calls Tryd.prog 22 #[.pointer (some ⟨P, 0, none⟩)] w fun e w' => StpP w0 w c P a (stepS c.g tb inp a r σ) ab ar ae e w' := by
  have hN1 := hN.below h.bel
  have HAh : Hid (Calls Tryd.prog 34 #[.pointer (some ⟨P, 0, none⟩)] w fun e w' => e = .returned (.tuple #[.int .i64 (termAt c.g inp a), .bool (!oobB c.g inp a)]) ∧ Below w.heap.size w w') := ahead_any h.par hN1.inn ha hN.len
  have HI : Hid (PsI w0 w c P a r σ false tq) := h
  have HN : Hid (Gnd w0 c tb inp ab ar ae) := hN
  have HST : Hid (stepS c.g tb inp a r σ = stepS c.g tb inp a r σ) := rfl
  generalize hq : stepS c.g tb inp a r σ = q at *
  have HQ : Hid (stepS c.g tb inp a r σ = q) := hq
  clear hq HST
  unfold stepS at HQ
  have hai : a ≤ 80 := Nat.le_trans ha hN.len
  by_cases ho : oobB c.g inp a = true
  · have HR : Hid (q = ⟨7, a, r, σ, false⟩) := by show _ = _; rw [← HQ.out, if_pos ho]
    rw [ho] at HAh
    have HF : Hid (∀ w1, Below w.heap.size w w1 → w1.cell? ⟨6, 0, none⟩ = some (.iface 137 (.pointer (some ae))) ∧ Calls Tryd.prog 35 #[.pointer (some ⟨P, 0, none⟩), .iface 137 (.pointer (some ae))] w1 fun e w' => FltP w' e (.iface 137 (.pointer (some ae))) a ∧ Below w1.heap.size w1 w') := fun w1 hb => ⟨(hN1.err.below hb).fin, fault_any (h.par.below hb) ae⟩
    clear h hN hN1 hok HQ ho
    generalize termAt c.g inp a = T at *
    go_enter Tryd.func22, Tryd.ntmps22
    go_wp2_with fail
    go_at_call 34
    refine HAh.out.mono ?_
    rintro e w1 ⟨rfl, hb1⟩
    have HB1 : Hid (Below w.heap.size w w1) := hb1
    obtain ⟨hg, hF⟩ := HF.out w1 hb1
    have HF1 : Hid (Calls Tryd.prog 35 #[.pointer (some ⟨P, 0, none⟩), .iface 137 (.pointer (some ae))] w1 fun e w' => FltP w' e (.iface 137 (.pointer (some ae))) a ∧ Below w1.heap.size w1 w') := hF
    clear hb1 hF HF
    go_wp2_with fail
    go_at_call 35
    refine HF1.out.mono ?_
    rintro e w2 ⟨⟨fb, rfl, f0, f1⟩, hb2⟩
    go_wp2_with fail
    go_ret
    exact ⟨grownP (HB1.out.trans (hb2.mono HB1.out.size)), .inr ⟨by rw [HR.out]; simp, fb, rfl, by rw [HR.out]; exact f0, f1⟩⟩
  · have ho2 : oobB c.g inp a = false := by simpa using ho
    rw [ho2] at HAh
    have hT0 : 0 ≤ c.g.terms := by
      have h := (fits_parts hN.fit).1
      unfold gOkB at h
      simp only [Bool.and_eq_true, decide_eq_true_eq] at h
      exact h.1.1
    have htm : 0 ≤ termAt c.g inp a ∧ termAt c.g inp a ≤ c.g.terms := by
      unfold termAt
      by_cases hl : a < inp.length
      · rw [if_pos hl]
        unfold oobB at ho2
        rw [decide_eq_true hl, Bool.true_and] at ho2
        rw [Bool.or_eq_false_iff] at ho2
        have h1 := of_decide_eq_false ho2.1
        have h2 := of_decide_eq_false ho2.2
        omega
      · rw [if_neg hl]; omega
    have hF := fits_parts hN.fit
    have hsok := topS_ok hok hF.2.1
    have HKO : Hid (actB (decide (termAt c.g inp a = c.g.terms)) tb.acts.length c.g.prods.length (actOf tb (topS σ) (termAt c.g inp a)) = true) := (act_ok hN.fit hsok htm).2
    have HQ2 : Hid (q = _) := HQ.out.symm.trans (by rw [if_neg ho])
    have HOK : Hid (PlOk c.g tb σ) := hok
    obtain ⟨ht0, ht1⟩ := htm
    generalize hT : termAt c.g inp a = T at *
    clear hT
    have HA : Hid (∀ w1, Below w0.heap.size w0 w1 → ∃ ab aoff ac rb roff rc, c.av = .slice (some ⟨ab, aoff, none⟩) tb.acts.length ac ∧ ab < w1.heap.size ∧ rb < w1.heap.size ∧ T < (tb.acts.getD (topS σ).toNat []).length ∧ w1.cell? ⟨ab, aoff + (topS σ).toNat, none⟩ = some (.slice (some ⟨rb, roff, none⟩) (tb.acts.getD (topS σ).toNat []).length rc) ∧ w1.cell? ⟨rb, roff + T.toNat * 2, none⟩ = some (.int .i64 (actOf tb (topS σ) T).kind) ∧ w1.cell? ⟨rb, roff + T.toNat * 2 + 1, none⟩ = some (.int .i64 (actOf tb (topS σ) T).to)) := fun w1 hb => act_cells (hN.tbl.below hb) hN.fit hsok ⟨ht0, ht1⟩
    clear h hN hN1 hok HQ ho ho2 hT0 hF
    go_enter Tryd.func22, Tryd.ntmps22
    go_wp2_with fail
    go_at_call 34
    refine HAh.out.mono ?_
    rintro e w1 ⟨rfl, hb1⟩
    have HB1 : Hid (Below w.heap.size w w1) := hb1
    have HI1 : Hid (PsI w0 w1 c P a r σ false tq) := HI.out.below hb1
    clear hb1 HAh
    obtain ⟨kb, koff, kc, rb, roff, rc, hav, hkb, hrb, htl, hk0, hk1, hk2⟩ := HA.out w1 HI1.out.bel
    clear HA
    have c6 : w1.cell? ⟨P, 6, none⟩ = some (.slice (some ⟨kb, koff, none⟩) tb.acts.length kc) := (HI1.out.par.at 6).trans (by rw [← hav]; rfl)
    have c16 : w1.cell? ⟨P, 16, none⟩ = some (.pointer (some ⟨tq, 0, none⟩)) := HI1.out.par.at 16
    have hlt := HI1.out.par.lt
    obtain ⟨b, zpv, ztv, e, hb, hc⟩ := HI1.out.pil.head
    simp only [Value.pointer.injEq, Option.some.injEq, Addr.mk.injEq, and_true] at e
    subst e
    have t3 : w1.cell? ⟨tq, 3, none⟩ = some (.int .i64 (topS σ)) := by simp [World.cell?, hc]
    obtain ⟨hs0, hs1⟩ := hsok
    generalize hS : topS σ = s at *
    clear hS hc hav
    generalize (tb.acts.getD s.toNat []).length = rl at *
    generalize actOf tb s T = act at *
    obtain ⟨kind, to⟩ := act
    simp only at *
    go_wp2_with fail
    go_region
    all_goals
      have HB2 : Hid (Below w.heap.size w (w1.alloc (.cells #[.int .i64 kind, .int .i64 to] 53)).drew) := below_drewY (HB1.out.trans ((alloc_below _ _).mono HB1.out.size))
      have HI2 : Hid (PsI w0 (w1.alloc (.cells #[.int .i64 kind, .int .i64 to] 53)).drew c P a r σ false tq) := HI1.out.below (below_drewY (alloc_below _ _))
      have HA4 : Hid ((w1.alloc (.cells #[.int .i64 kind, .int .i64 to] 53)).drew.heap[w1.heap.size]? = some (.cells #[.int .i64 kind, .int .i64 to] 53 (0, 0))) := heap_alloc_new w1 _
      clear c6 c16 hlt t3 hk0 hk1 hk2 hkb hrb htl hb
      generalize (w1.alloc (.cells #[.int .i64 kind, .int .i64 to] 53)).drew = W2 at *
      generalize w1.heap.size = A at *
      have a0 : W2.cell? ⟨A, 0, none⟩ = some (.int .i64 kind) := by simp [World.cell?, HA4.out]
      have a1 : W2.cell? ⟨A, 1, none⟩ = some (.int .i64 to) := by simp [World.cell?, HA4.out]
      have al : A < W2.heap.size := (Array.getElem?_eq_some_iff.1 HA4.out).1
      have plt := HI2.out.par.lt
      have hkc : kind = 0 ∨ kind = 1 ∨ kind = 2 ∨ kind = 3 := by
        have h := HKO.out
        unfold actB at h
        simp at h
        omega
      have HIW : Hid (∀ w3, Below W2.heap.size W2 w3 → PsI w0 w3 c P a r σ false tq ∧ Gnd w3 c tb inp ab ar ae ∧ Below w.heap.size w w3) := fun w3 hb => ⟨HI2.out.below hb, HN.out.below ((HI2.out.below hb).bel), HB2.out.trans (hb.mono HB2.out.size)⟩
      rcases hkc with rfl | rfl | rfl | rfl
      · have cf : W2.cell? ⟨P, 9, none⟩ = some (.func (.func 52) #[.pointer (some ⟨P, 0, none⟩)] #[]) := HI2.out.par.at 9
        have HR : Hid (q = ⟨7, a, r, σ, false⟩) := by show _ = _; rw [HQ2.out]; rfl
        have HV : Hid (∀ (e : Ending) (w' : World), Hid (FltP w' e (errE ae) a ∧ w.grownBy w' (some P)) → ∃ v, e = .returned v) := fun e w' h => ⟨_, h.out.1.choose_spec.1⟩
        have HC : Hid (∀ w3, Below W2.heap.size W2 w3 → Calls Tryd.prog 52 #[.pointer (some ⟨P, 0, none⟩), .int .i64 to] w3 fun e w' => Hid (FltP w' e (errE ae) a ∧ w.grownBy w' (some P))) := fun w3 hb => (refuse_any (HIW.out w3 hb).1.par to (HIW.out w3 hb).2.1.err).mono fun e w' h => ⟨h.1, grownP ((HIW.out w3 hb).2.2.trans (h.2.mono (HIW.out w3 hb).2.2.size))⟩
        go_wp2_with fail
        go_region_law (go_simp; go_at_call 52; refine (HC.out _ (below_drewY (Below.refl _ _))).mono ?_; rintro e w4 HP4; obtain ⟨v4, rfl⟩ : ∃ v, e = .returned v := HV.out e w4 HP4)
        all_goals
          have hp4 := HP4.out
          go_wp2_with fail
          go_ret
          exact ⟨hp4.2, .inr ⟨by rw [HR.out]; simp, by rw [HR.out]; exact hp4.1⟩⟩
      · have cf : W2.cell? ⟨P, 10, none⟩ = some (.func (.func 53) #[.pointer (some ⟨P, 0, none⟩)] #[]) := HI2.out.par.at 10
        have HR : Hid (q = ⟨0, a + 1, 0, (leafT a, to) :: σ, false⟩) := by show _ = _; rw [HQ2.out]; rfl
        have HV : Hid (∀ (e : Ending) (w' : World), Hid (e = .returned .nilIface ∧ w.grownBy w' (some P) ∧ ∃ tq', PsI w0 w' c P (a + 1) 0 ((leafT a, to) :: σ) false tq') → ∃ v, e = .returned v) := fun e w' h => ⟨_, h.out.1⟩
        have HC : Hid (∀ w3, Below W2.heap.size W2 w3 → Calls Tryd.prog 53 #[.pointer (some ⟨P, 0, none⟩), .int .i64 to] w3 fun e w' => Hid (e = .returned .nilIface ∧ w.grownBy w' (some P) ∧ ∃ tq', PsI w0 w' c P (a + 1) 0 ((leafT a, to) :: σ) false tq')) := fun w3 hb => (shift_any (HIW.out w3 hb).1 to (by omega) hlen).mono fun e w' h => ⟨h.1, grown_trans (grownP (HIW.out w3 hb).2.2) h.2.1, h.2.2⟩
        go_wp2_with fail
        go_region_law (go_simp; go_at_call 53; refine (HC.out _ (below_drewY (Below.refl _ _))).mono ?_; rintro e w4 HP4; obtain ⟨v4, rfl⟩ : ∃ v, e = .returned v := HV.out e w4 HP4)
        all_goals
          have hp4 := HP4.out
          go_wp2_with fail
          go_ret
          exact ⟨hp4.2.1, .inl ⟨by rw [HR.out], hp4.1, by rw [HR.out]; exact hp4.2.2⟩⟩
      · have cf : W2.cell? ⟨P, 11, none⟩ = some (.func (.func 54) #[.pointer (some ⟨P, 0, none⟩)] #[]) := HI2.out.par.at 11
        have hpr : 0 ≤ to ∧ to < (c.g.prods.length : Int) := by
          have h := HKO.out
          unfold actB at h
          simp at h
          exact h
        have HR : Hid ((r = 10000 → q = ⟨2, a, r, σ, false⟩) ∧ (r ≠ 10000 → redS c.g tb to σ = none → q = ⟨3, a, r, σ, false⟩) ∧ (∀ σ', r ≠ 10000 → redS c.g tb to σ = some σ' → q = ⟨0, a, r + 1, σ', false⟩)) := by
          have e : q = if r = 10000 then ⟨2, a, r, σ, false⟩ else match redS c.g tb to σ with | none => ⟨3, a, r, σ, false⟩ | some σ' => ⟨0, a, r + 1, σ', false⟩ := by rw [HQ2.out]; rfl
          refine ⟨fun h => by rw [e, if_pos h], fun h1 h2 => by rw [e, if_neg h1, h2], fun σ' h1 h2 => by rw [e, if_neg h1, h2]⟩
        have HV : Hid (∀ (e : Ending) (w' : World), Hid (RedQ w0 w c P a r false ab ar (redS c.g tb to σ) e w') → ∃ v, e = .returned v) := fun e w' h => by
          rcases h.out.2 with ⟨_, h⟩ | ⟨_, _, h⟩ | ⟨_, _, _, _, h, _⟩
          · exact ⟨_, h.choose_spec.1⟩
          · exact ⟨_, h.choose_spec.1⟩
          · exact ⟨_, h⟩
        have HC : Hid (∀ w3, Below W2.heap.size W2 w3 → Calls Tryd.prog 54 #[.pointer (some ⟨P, 0, none⟩), .int .i64 to] w3 fun e w' => Hid (RedQ w0 w c P a r false ab ar (redS c.g tb to σ) e w')) := fun w3 hb => (preduce_any (HIW.out w3 hb).1 HN.out.fit HOK.out (HIW.out w3 hb).2.1.gr (HIW.out w3 hb).2.1.tbl (HIW.out w3 hb).2.1.err to hpr hr hlen).mono fun e w' h => ⟨grown_trans (grownP (HIW.out w3 hb).2.2) h.1, h.2⟩
        go_wp2_with fail
        go_region_law (go_simp; go_at_call 54; refine (HC.out _ (below_drewY (Below.refl _ _))).mono ?_; rintro e w4 HP4; obtain ⟨v4, rfl⟩ : ∃ v, e = .returned v := HV.out e w4 HP4)
        all_goals
          have hp4 := HP4.out
          go_wp2_with fail
          go_ret
          refine ⟨hp4.1, ?_⟩
          rcases hp4.2 with ⟨h1, h2⟩ | ⟨h1, h2, h3⟩ | ⟨σ', tq', h1, h2, h3, h4⟩
          · exact .inr ⟨by rw [HR.out.1 h1]; simp, by rw [HR.out.1 h1]; exact h2⟩
          · exact .inr ⟨by rw [HR.out.2.1 h1 h2]; simp, by rw [HR.out.2.1 h1 h2]; exact h3⟩
          · exact .inl ⟨by rw [HR.out.2.2 σ' h1 h2], h3, tq', by rw [HR.out.2.2 σ' h1 h2]; exact h4⟩
      · have cf : W2.cell? ⟨P, 12, none⟩ = some (.func (.func 55) #[.pointer (some ⟨P, 0, none⟩)] #[]) := HI2.out.par.at 12
        have HR : Hid (q = if accB c.g σ then ⟨0, a, r, σ, true⟩ else ⟨3, a, r, σ, false⟩) := by show _ = _; rw [HQ2.out]; rfl
        have HV : Hid (∀ (e : Ending) (w' : World), Hid (w.grownBy w' (some P) ∧ ((accB c.g σ = true ∧ e = .returned .nilIface ∧ PsI w0 w' c P a r σ true tq) ∨ (accB c.g σ = false ∧ FltP w' e (errE ar) a))) → ∃ v, e = .returned v) := fun e w' h => by
          rcases h.out.2 with ⟨_, h, _⟩ | ⟨_, h⟩
          · exact ⟨_, h⟩
          · exact ⟨_, h.choose_spec.1⟩
        have HC : Hid (∀ w3, Below W2.heap.size W2 w3 → Calls Tryd.prog 55 #[.pointer (some ⟨P, 0, none⟩), .int .i64 to] w3 fun e w' => Hid (w.grownBy w' (some P) ∧ ((accB c.g σ = true ∧ e = .returned .nilIface ∧ PsI w0 w' c P a r σ true tq) ∨ (accB c.g σ = false ∧ FltP w' e (errE ar) a)))) := fun w3 hb => (accept_any (HIW.out w3 hb).1 HOK.out (HIW.out w3 hb).2.1.gr (HIW.out w3 hb).2.1.err to hlen).mono fun e w' h => ⟨grown_trans (grownP (HIW.out w3 hb).2.2) h.1, h.2⟩
        go_wp2_with fail
        go_region_law (go_simp; go_at_call 55; refine (HC.out _ (below_drewY (Below.refl _ _))).mono ?_; rintro e w4 HP4; obtain ⟨v4, rfl⟩ : ∃ v, e = .returned v := HV.out e w4 HP4)
        all_goals
          have hp4 := HP4.out
          go_wp2_with fail
          go_ret
          refine ⟨hp4.1, ?_⟩
          rcases hp4.2 with ⟨h1, h2, h3⟩ | ⟨h1, h2⟩
          · have e1 : q = ⟨0, a, r, σ, true⟩ := by rw [HR.out, if_pos h1]
            exact .inl ⟨by rw [e1], h2, tq, by rw [e1]; exact h3⟩
          · have e1 : q = ⟨3, a, r, σ, false⟩ := by rw [HR.out, if_neg (by rw [h1]; decide)]
            exact .inr ⟨by rw [e1]; simp, by rw [e1]; exact h2⟩

end Go.Proofs.YtdihdnhofgjhnaaDoor
