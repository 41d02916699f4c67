/- Texts of the proof, put together: YPsrE. -/
import Derived.Test.YtdihdnhofgjhnaaDoorPy26
namespace Go.Proofs.YtdihdnhofgjhnaaDoor
open Go.RowKit
set_option linter.unusedVariables false
set_option maxRecDepth 100000

theorem PtrsP.rev {ok : Nat → Prop} {w : World} {τ : Pl} {us : List Value} (h : PtrsP ok w τ us) : us.reverse.length = ((τ.map Prod.fst).reverse).length ∧ ∀ j, j < ((τ.map Prod.fst).reverse).length → Tree ok w (us.reverse.getD j .nilFunc) (((τ.map Prod.fst).reverse).getD j nilT) := by
  obtain ⟨h1, h2⟩ := h
  refine ⟨by simp [h1], fun j hj => ?_⟩
  have hj' : j < τ.length := by simpa using hj
  have h3 := (h2 (τ.length - 1 - j) (by omega)).2
  have e1 : us.reverse.getD j .nilFunc = us.getD (τ.length - 1 - j) .nilFunc := by
    rw [List.getD_eq_getElem?_getD, List.getD_eq_getElem?_getD, List.getElem?_reverse (by omega), h1]
  have e2 : ((τ.map Prod.fst).reverse).getD j nilT = (τ.getD (τ.length - 1 - j) (nilT, 0)).1 := by
    rw [List.getD_eq_getElem?_getD, List.getD_eq_getElem?_getD, List.getElem?_reverse (by simpa using hj')]
    simp only [List.length_map, List.getElem?_map]
    rw [List.getElem?_eq_getElem (show τ.length - 1 - j < τ.length by omega)]
    rfl
  rw [e1, e2]
  exact h3
/-- what a reduction answers -/
def RedQ (w0 w : World) (c : PC) (P a r : Nat) (acc : Bool) (ab ar : Addr) (o : Option Pl) (e : Ending) (w' : World) : Prop :=
  w.grownBy w' (some P) ∧ ((r = 10000 ∧ FltP w' e (errE ab) a) ∨ (r ≠ 10000 ∧ o = none ∧ FltP w' e (errE ar) a) ∨ ∃ σ' tq', r ≠ 10000 ∧ o = some σ' ∧ e = .returned .nilIface ∧ PsI w0 w' c P a (r + 1) σ' acc tq')

set_option maxHeartbeats 8000000 in
theorem preduce_any {w0 w : World} {c : PC} {tb : Tb} {P a r : Nat} {σ : Pl} {acc : Bool} {tq : Nat} {ab ar ae : Addr} (h : PsI w0 w c P a r σ acc tq) (hf : fitsB c.g tb = true) (hok : PlOk c.g tb σ) (hG : GrM w c.g c.pv c.lv c.sv) (hT : TbM w tb c.av c.ov c.cv) (hE : ErG w ab ar ae) (p : Int) (hp : 0 ≤ p ∧ p < c.g.prods.length) (hr : r ≤ 10000) (hlen : σ.length ≤ 900000) :
    Calls Tryd.prog 54 #[.pointer (some ⟨P, 0, none⟩), .int .i64 p] w fun e w' => RedQ w0 w c P a r acc ab ar (redS c.g tb p σ) e w' := by
  have c15 : w.cell? ⟨P, 15, none⟩ = some (.int .i64 r) := h.par.at 15
  have c16 : w.cell? ⟨P, 16, none⟩ = some (.pointer (some ⟨tq, 0, none⟩)) := h.par.at 16
  have hlt := h.par.lt
  have HF : Hid (∀ w1 x, Below w.heap.size w w1 → Calls Tryd.prog 35 #[.pointer (some ⟨P, 0, none⟩), .iface 137 (.pointer (some x))] w1 fun e w' => FltP w' e (.iface 137 (.pointer (some x))) a ∧ Below w1.heap.size w1 w') := fun w1 x hb => fault_any (h.par.below hb) x
  have HER : Hid (∀ w1, Below w.heap.size w w1 → w1.cell? ⟨2, 0, none⟩ = some (.iface 137 (.pointer (some ar)))) := fun w1 hb => (hE.below hb).rul
  have hgb : w.cell? ⟨1, 0, none⟩ = some (.iface 137 (.pointer (some ab))) := hE.bnd
  by_cases hr0 : r = 10000
  · subst hr0
    have HF3 : Hid (Calls Tryd.prog 35 #[.pointer (some ⟨P, 0, none⟩), .iface 137 (.pointer (some ab))] w fun e w' => FltP w' e (.iface 137 (.pointer (some ab))) a ∧ Below w.heap.size w w') := HF.out w ab (Below.refl _ _)
    have c15' : w.cell? ⟨P, 15, none⟩ = some (.int .i64 10000) := c15
    clear h hok hG hT hE HF HER c15
    go_enter Tryd.func54, Tryd.ntmps54
    go_wp2_with fail
    go_at_call 35
    refine HF3.out.mono ?_
    rintro e w3 ⟨⟨fb, rfl, f0, f1⟩, hb3⟩
    go_wp2_with fail
    go_ret
    exact ⟨grownP hb3, .inl ⟨rfl, fb, rfl, f0, f1⟩⟩
  · have hr1 : ¬ ((r : Int) = 10000) := by omega
    obtain ⟨hf1, hf2, hf3, hf4, _⟩ := fits_parts hf
    obtain ⟨hl0, hl1, hl2⟩ := pd_ok hf1 hp
    obtain ⟨hst0, hst1⟩ := topS_ok (hok.drop (prodOf c.g p).right.length) hf2
    obtain ⟨hgl, hg0, hg1⟩ := goto_ok hf ⟨hst0, hst1⟩ ⟨hl0, hl1⟩
    obtain ⟨pa, pc, hpv⟩ := hG.prods.slice
    obtain ⟨oa, oc, hov⟩ := hT.gotos.slice
    obtain ⟨hp0, hp1⟩ := hp
    have hGG := hG.prods
    rw [hpv] at hGG
    obtain ⟨pb, poff, rv, rfl, hpb, hpm⟩ := hGG.at (k := p.toNat) (by omega)
    have hTT := hT.gotos
    rw [hov] at hTT
    obtain ⟨ob, ooff, orv, rfl, hob, hoc, hor⟩ := hTT.at (k := (topS (σ.drop (prodOf c.g p).right.length)).toNat) (by omega)
    obtain ⟨ra, rc, rfl⟩ := hpm.right.slice
    obtain ⟨oa2, oc2, rfl⟩ := hor.slice
    obtain ⟨rb, roff, rfl, hrb, hrc⟩ := hor.at hgl
    obtain ⟨m0, m1, m2, hrr⟩ := hpm
    have hkey : (tb.gotos.getD (topS (σ.drop (prodOf c.g p).right.length)).toNat []).getD ((prodOf c.g p).left).toNat 0 = gotoOf tb (topS (σ.drop (prodOf c.g p).right.length)) (prodOf c.g p).left := rfl
    rw [hkey] at hrc
    have hpo : c.g.prods.getD p.toNat noPd = prodOf c.g p := rfl
    rw [hpo] at m0 m1 m2 hrr
    clear hkey hpo
    have c3 : w.cell? ⟨P, 3, none⟩ = some (.slice (some ⟨pb, poff, none⟩) c.g.prods.length pc) := (h.par.at 3).trans (by rw [← hpv]; rfl)
    have c7 : w.cell? ⟨P, 7, none⟩ = some (.slice (some ⟨ob, ooff, none⟩) tb.gotos.length oc) := (h.par.at 7).trans (by rw [← hov]; rfl)
    obtain ⟨b, pv, tv, e, hb, hc⟩ := h.pil.head
    simp only [Value.pointer.injEq, Option.some.injEq, Addr.mk.injEq, and_true] at e
    subst e
    have t1 : w.cell? ⟨tq, 1, none⟩ = some (.int .i64 (σ.length : Nat)) := by simp [World.cell?, hc]
    have HI : Hid (PsI w0 w c P a r σ acc tq) := h
    have HRD : Hid ((σ.length < (prodOf c.g p).right.length → redS c.g tb p σ = none) ∧ (¬ σ.length < (prodOf c.g p).right.length → gotoOf tb (topS (σ.drop (prodOf c.g p).right.length)) (prodOf c.g p).left < 0 → redS c.g tb p σ = none) ∧ (¬ σ.length < (prodOf c.g p).right.length → ¬ gotoOf tb (topS (σ.drop (prodOf c.g p).right.length)) (prodOf c.g p).left < 0 → redS c.g tb p σ = some ((nodeT p ((σ.take (prodOf c.g p).right.length).map Prod.fst).reverse, gotoOf tb (topS (σ.drop (prodOf c.g p).right.length)) (prodOf c.g p).left) :: σ.drop (prodOf c.g p).right.length))) := by
      unfold redS
      refine ⟨fun h => by rw [if_pos h], fun h1 h2 => by rw [if_neg h1, if_pos h2], fun h1 h2 => by rw [if_neg h1, if_neg h2]⟩
    have HCall : Hid (∀ w1, Below w.heap.size w w1 → (prodOf c.g p).right.length ≤ σ.length → Calls Tryd.prog 63 #[.pointer (some ⟨tq, 0, none⟩), .int .i64 ((prodOf c.g p).right.length : Nat)] w1 fun e w' => ∃ kv pb us, e = .returned (.tuple #[kv, .pointer (some ⟨pb, 0, none⟩)]) ∧ Below w1.heap.size w1 w' ∧ PilM (fun b => b ≠ P) w1 (.pointer (some ⟨pb, 0, none⟩)) (σ.drop (prodOf c.g p).right.length) ∧ w'.ownsRow w1.heap.size 34 1 kv (prodOf c.g p).right.length us.reverse ∧ PtrsP (fun b => b ≠ P) w1 (σ.take (prodOf c.g p).right.length) us) := fun w1 hb hle => parted_any _ σ _ _ w1 (h.pil.below hb) hle (by omega)
    generalize hS : topS (σ.drop (prodOf c.g p).right.length) = st at *
    have HS : Hid (topS (σ.drop (prodOf c.g p).right.length) = st) := hS
    generalize gotoOf tb st (prodOf c.g p).left = to at *
    generalize (tb.gotos.getD st.toNat []).length = ol at *
    generalize redS c.g tb p σ = oR at *
    generalize (prodOf c.g p).level = lev at *
    generalize hlf : (prodOf c.g p).left = lf at *
    clear hlf
    generalize hrl : (prodOf c.g p).right.length = rl at *
    clear hrl
    have hstL : st < (tb.gotos.length : Int) := by omega
    have hlfL : lf < (ol : Int) := by omega
    clear hS h hok hG hT hE hf hf1 hf2 hf3 hf4 hor hrr hGG hTT hpv hov hc hgl hst1 hl1
    by_cases hfew : σ.length < rl
    · have HRR : Hid (oR = none) := HRD.out.1 hfew
      have HB1 : Hid (Below w.heap.size w (w.alloc (.cells #[.int .i64 lf, .slice ra rl rc, .int .i64 lev] 49))) := alloc_below _ _
      clear HRD HCall hoc hrc
      generalize σ.length = N at *
      go_enter Tryd.func54, Tryd.ntmps54
      go_wp2_with fail
      go_quiet (fail)
      have HB2 : Hid (Below w.heap.size w ((w.alloc (.cells #[.int .i64 lf, .slice ra rl rc, .int .i64 lev] 49)).drewN nq)) := below_drewG HB1.out nq
      generalize (w.alloc (.cells #[.int .i64 lf, .slice ra rl rc, .int .i64 lev] 49)).drewN nq = W2 at *
      have hg2 := HER.out W2 HB2.out
      have HF3 : Hid (Calls Tryd.prog 35 #[.pointer (some ⟨P, 0, none⟩), .iface 137 (.pointer (some ar))] W2 fun e w' => FltP w' e (.iface 137 (.pointer (some ar))) a ∧ Below W2.heap.size W2 w') := HF.out W2 ar HB2.out
      clear HF HER c15 c16 c3 c7 m0 m1 m2 t1 hgb
      go_wp2_with fail
      go_at_call 35
      refine HF3.out.mono ?_
      rintro e w3 ⟨⟨fb, rfl, f0, f1⟩, hb3⟩
      go_wp2_with fail
      go_ret
      exact ⟨grownP (HB2.out.trans (hb3.mono HB2.out.size)), .inr (.inl ⟨hr0, HRR.out, fb, rfl, f0, f1⟩)⟩
    · have HB1 : Hid (Below w.heap.size w (w.alloc (.cells #[.int .i64 lf, .slice ra rl rc, .int .i64 lev] 49))) := alloc_below _ _
      have HN1 : Hid ((w.alloc (.cells #[.int .i64 lf, .slice ra rl rc, .int .i64 lev] 49)).heap[w.heap.size]? = some (.cells #[.int .i64 lf, .slice ra rl rc, .int .i64 lev] 49 (0, 0))) := heap_alloc_new _ _
      generalize hLn : σ.length = N at *
      have HLn : Hid (σ.length = N) := hLn
      clear hLn
      go_enter Tryd.func54, Tryd.ntmps54
      go_wp2_with fail
      go_quiet (fail)
      have HB2 : Hid (Below w.heap.size w ((w.alloc (.cells #[.int .i64 lf, .slice ra rl rc, .int .i64 lev] 49)).drewN nq)) := below_drewG HB1.out nq
      have HN2 : Hid (((w.alloc (.cells #[.int .i64 lf, .slice ra rl rc, .int .i64 lev] 49)).drewN nq).heap[w.heap.size]? = some (.cells #[.int .i64 lf, .slice ra rl rc, .int .i64 lev] 49 (0, 0))) := HN1.out
      generalize (w.alloc (.cells #[.int .i64 lf, .slice ra rl rc, .int .i64 lev] 49)).drewN nq = W2 at *
      clear HB1 HN1
      have HI2 : Hid (PsI w0 W2 c P a r σ acc tq) := HI.out.below HB2.out
      have r1 : W2.cell? ⟨w.heap.size, 1, none⟩ = some (.slice ra rl rc) := by simp [World.cell?, HN2.out]
      have rlt : w.heap.size < W2.heap.size := (Array.getElem?_eq_some_iff.1 HN2.out).1
      have d16 : W2.cell? ⟨P, 16, none⟩ = some (.pointer (some ⟨tq, 0, none⟩)) := HI2.out.par.at 16
      have dlt := HI2.out.par.lt
      have HC2 : Hid (∀ w1, Below W2.heap.size W2 w1 → Calls Tryd.prog 63 #[.pointer (some ⟨tq, 0, none⟩), .int .i64 (rl : Nat)] w1 fun e w' => ∃ kv pb us, e = .returned (.tuple #[kv, .pointer (some ⟨pb, 0, none⟩)]) ∧ Below w1.heap.size w1 w' ∧ PilM (fun b => b ≠ P) w1 (.pointer (some ⟨pb, 0, none⟩)) (σ.drop rl) ∧ w'.ownsRow w1.heap.size 34 1 kv rl us.reverse ∧ PtrsP (fun b => b ≠ P) w1 (σ.take rl) us) := fun w1 hb => HCall.out w1 (HB2.out.trans (hb.mono HB2.out.size)) (by omega)
      clear c15 c16 t1 HCall
      go_wp2_with fail
      have HC3 : Hid (Calls Tryd.prog 63 #[.pointer (some ⟨tq, 0, none⟩), .int .i64 (rl : Nat)] W2.drew fun e w' => ∃ ka kc zb us, e = .returned (.tuple #[.slice ka rl kc, .pointer (some ⟨zb, 0, none⟩)]) ∧ Hid (Below W2.heap.size W2 w') ∧ Hid (PilM (fun b => b ≠ P) W2 (.pointer (some ⟨zb, 0, none⟩)) (σ.drop rl)) ∧ Hid (w'.ownsRow W2.heap.size 34 1 (.slice ka rl kc) rl us.reverse) ∧ Hid (PtrsP (fun b => b ≠ P) W2 (σ.take rl) us)) := by
        refine (HC2.out W2.drew (below_drewY (Below.refl _ _))).mono ?_
        rintro e w' ⟨kv, zb, us, rfl, h1, h2, h3, h4⟩
        obtain ⟨ka, kc, rfl⟩ := own_sliceE h3
        have hd : Below W2.drew.heap.size W2.drew W2 := ⟨rfl, rfl, rfl, Nat.le_refl _, fun _ _ => rfl⟩
        exact ⟨ka, kc, zb, us, rfl, (below_drewY (Below.refl _ W2)).trans h1, h2.below hd, h3, ⟨h4.1, fun j hj => ⟨(h4.2 j hj).1, (h4.2 j hj).2.moved hd.size fun b hb hok => ⟨hok, hd.block b hb⟩⟩⟩⟩
      clear HC2
      go_region_law (go_simp; go_at_call 63; refine HC3.out.mono ?_; rintro e w3 ⟨ka, kc, zb, us, rfl, HB3, HZ3, HK3, HU3⟩)
      all_goals
        have HBW3 : Hid (Below w.heap.size w w3) := HB2.out.trans (HB3.out.mono HB2.out.size)
        have HI3 : Hid (PsI w0 w3 c P a r σ acc tq) := HI2.out.below HB3.out
        have HPZ : Hid (PilM (fun b => b ≠ P) w3 (.pointer (some ⟨zb, 0, none⟩)) (σ.drop rl)) := HZ3.out.below HB3.out
        obtain ⟨zb', zpv, ztv, ze, hzb, hzc⟩ := HPZ.out.head
        simp only [Value.pointer.injEq, Option.some.injEq, Addr.mk.injEq, and_true] at ze
        subst ze
        have z3 : w3.cell? ⟨zb, 3, none⟩ = some (.int .i64 st) := by
          have e := HS.out
          simp only [World.cell?, hzc]
          simp [e]
        have y7 : w3.cell? ⟨P, 7, none⟩ = some (.slice (some ⟨ob, ooff, none⟩) tb.gotos.length oc) := (HI3.out.par.at 7).trans ((HI.out.par.at 7).symm.trans c7)
        have y0 : w3.cell? ⟨w.heap.size, 0, none⟩ = some (.int .i64 lf) := by
          have e := (HB3.out.block w.heap.size rlt).trans HN2.out
          simp [World.cell?, e]
        have yl : w.heap.size < w3.heap.size := Nat.lt_of_lt_of_le rlt HB3.out.size
        have yo := (HBW3.out.cell (p := ⟨ob, ooff + st.toNat, none⟩) hob).trans hoc
        have yr := (HBW3.out.cell (p := ⟨rb, roff + lf.toNat, none⟩) hrb).trans hrc
        have ylt := HI3.out.par.lt
        have yob : ob < w3.heap.size := Nat.lt_of_lt_of_le hob HBW3.out.size
        have yrb : rb < w3.heap.size := Nat.lt_of_lt_of_le hrb HBW3.out.size
        clear r1 rlt d16 dlt HC3 c3 c7 m0 m1 m2 hoc hrc hzc hgb
        go_wp2_with fail
        go_quiet (fail)
        have HB4 : Hid (Below w3.heap.size w3 (w3.drewN nq)) := below_drewG (Below.refl _ _) nq
        generalize w3.drewN nq = W4 at *
        have HBW4 : Hid (Below w.heap.size w W4) := HBW3.out.trans (HB4.out.mono HBW3.out.size)
        have HI4 : Hid (PsI w0 W4 c P a r σ acc tq) := HI3.out.below HB4.out
        clear z3 y7 y0 yl yo yr ylt yob yrb
        by_cases hto : to < 0
        · obtain rfl : to = -1 := by omega
          have HRR : Hid (oR = none) := HRD.out.2.1 hfew hto
          have hg2 := HER.out W4 HBW4.out
          have HF3 : Hid (Calls Tryd.prog 35 #[.pointer (some ⟨P, 0, none⟩), .iface 137 (.pointer (some ar))] W4 fun e w' => FltP w' e (.iface 137 (.pointer (some ar))) a ∧ Below W4.heap.size W4 w') := HF.out W4 ar HBW4.out
          clear HF HER HRD
          go_wp2_with fail
          go_at_call 35
          refine HF3.out.mono ?_
          rintro e w5 ⟨⟨fb, rfl, f0, f1⟩, hb5⟩
          go_wp2_with fail
          go_ret
          exact ⟨grownP (HBW4.out.trans (hb5.mono HBW4.out.size)), .inr (.inl ⟨hr0, HRR.out, fb, rfl, f0, f1⟩)⟩
        · have HRR : Hid (oR = some ((nodeT p ((σ.take rl).map Prod.fst).reverse, to) :: σ.drop rl)) := HRD.out.2.2 hfew (by omega)
          have hne : ¬ to = -1 := by omega
          have HB5 : Hid (Below W4.heap.size W4 (W4.alloc (.cells #[.int .i64 p, .int .i64 0, .slice ka rl kc] 81))) := alloc_below _ _
          have HN5 : Hid ((W4.alloc (.cells #[.int .i64 p, .int .i64 0, .slice ka rl kc] 81)).heap[W4.heap.size]? = some (.cells #[.int .i64 p, .int .i64 0, .slice ka rl kc] 81 (0, 0))) := heap_alloc_new _ _
          have HS5 : Hid ((W4.alloc (.cells #[.int .i64 p, .int .i64 0, .slice ka rl kc] 81)).heap.size = W4.heap.size + 1) := alloc_size _ _
          have HW5 : Hid (∀ W5, W5 = W4.alloc (.cells #[.int .i64 p, .int .i64 0, .slice ka rl kc] 81) → Calls Tryd.prog 62 #[.pointer (some ⟨zb, 0, none⟩), .pointer (some ⟨W4.heap.size, 0, none⟩), .int .i64 to] W5 fun e w' => e = .returned (.pointer (some ⟨W4.heap.size + 1, 0, none⟩)) ∧ Hid (w' = W5.alloc (.cells #[.pointer (some ⟨zb, 0, none⟩), .int .i64 (((σ.drop rl).length + 1 : Nat) : Int), .pointer (some ⟨W4.heap.size, 0, none⟩), .int .i64 to] 86))) := fun W5 e => by
            subst e
            have hh := with_any (fun b => b ≠ P) (σ.drop rl) (.pointer (some ⟨zb, 0, none⟩)) W4.heap.size to _ ((HPZ.out.below HB4.out).below HB5.out) (by rw [List.length_drop, HLn.out]; omega)
            rw [HS5.out] at hh
            exact hh
          have HFin : Hid (∀ W5 w6, W5 = W4.alloc (.cells #[.int .i64 p, .int .i64 0, .slice ka rl kc] 81) → w6 = W5.alloc (.cells #[.pointer (some ⟨zb, 0, none⟩), .int .i64 (((σ.drop rl).length + 1 : Nat) : Int), .pointer (some ⟨W4.heap.size, 0, none⟩), .int .i64 to] 86) → (w6.cell? ⟨P, 16, none⟩ = some (.pointer (some ⟨tq, 0, none⟩)) ∧ w6.frozen? ⟨P, 16, none⟩ = false ∧ P < w6.heap.size ∧ w6.cell? ⟨P, 15, none⟩ = some (.int .i64 r) ∧ w6.frozen? ⟨P, 15, none⟩ = false) ∧ w.grownBy ((w6.setCell ⟨P, 16, none⟩ (.pointer (some ⟨W4.heap.size + 1, 0, none⟩))).setCell ⟨P, 15, none⟩ (.int .i64 ((r : Int) + 1))) (some P) ∧ PsI w0 ((w6.setCell ⟨P, 16, none⟩ (.pointer (some ⟨W4.heap.size + 1, 0, none⟩))).setCell ⟨P, 15, none⟩ (.int .i64 ((r : Int) + 1))) c P a (r + 1) ((nodeT p ((σ.take rl).map Prod.fst).reverse, to) :: σ.drop rl) acc (W4.heap.size + 1)) := fun W5 w6 e1 e2 => by
            subst e1
            subst e2
            have hb5 := HBW4.out.trans (HB5.out.mono HBW4.out.size)
            have hPlt : P < W4.heap.size := HI4.out.par.lt
            have h24 : Below W2.heap.size W2 W4 := HB3.out.trans (HB4.out.mono HB3.out.size)
            have h25 := h24.trans (HB5.out.mono h24.size)
            have hPl2 := HI2.out.par.lt
            obtain ⟨hu1, hu2⟩ := HU3.out.rev
            have hll : (((σ.take rl).map Prod.fst).reverse).length = rl := by rw [List.length_reverse, List.length_map, List.length_take, HLn.out]; omega
            have htr : Tree (fun b => b ≠ P) (W4.alloc (.cells #[.int .i64 p, .int .i64 0, .slice ka rl kc] 81)) (.pointer (some ⟨W4.heap.size, 0, none⟩)) (nodeT p ((σ.take rl).map Prod.fst).reverse) := by
              have hk := own_belowE (own_belowE HK3.out HB4.out) HB5.out
              have hn := node_tree (k := 0) (C := W2.heap.size) (Q := W4.heap.size) (p := p) (kv := .slice ka rl kc) (ok' := fun b => b ≠ P) hu1 hu2 (Nat.zero_le _) h25.size (fun b hb hok => ⟨hok, h25.block b hb⟩) (by omega) HN5.out (by rw [hll, List.drop_zero]; exact hk) (fun b e => by have := (HK3.out.lt b e).1; omega)
              rw [List.drop_zero] at hn
              exact hn
            have h1 := HI.out.top (x := (nodeT p ((σ.take rl).map Prod.fst).reverse, to)) hb5 htr ((HPZ.out.below HB4.out).below HB5.out)
            rw [HS5.out] at h1
            have hp6 : PaM ((W4.alloc (.cells #[.int .i64 p, .int .i64 0, .slice ka rl kc] 81)).alloc (.cells #[.pointer (some ⟨zb, 0, none⟩), .int .i64 (((σ.drop rl).length + 1 : Nat) : Int), .pointer (some ⟨W4.heap.size, 0, none⟩), .int .i64 to] 86)) c P a r (.pointer (some ⟨tq, 0, none⟩)) acc := (HI4.out.par.below HB5.out).below (alloc_below _ _)
            exact ⟨⟨hp6.at 16, hp6.fz 16, hp6.lt, hp6.at 15, hp6.fz 15⟩, grown_trans h1.2 (grown_setY _ _ _ _), h1.1.setRed (r + 1)⟩
          have hwr : IntKind.i64.wrap ((r : Int) + 1) = (r : Int) + 1 := by rw [IntKind.wrap_i64]; omega
          clear HF HER HRD HB5 HN5
          go_upto_region 10 with fail
          go_wp2_with fail
          generalize hW5 : W4.alloc (.cells #[.int .i64 p, .int .i64 0, .slice ka rl kc] 81) = W5 at *
          clear hW5
          go_at_call 62
          refine (HW5.out W5 rfl).mono ?_
          rintro e w6 ⟨rfl, hw6⟩
          obtain ⟨⟨f1, f2, f3, f4, f5⟩, hg6, hps⟩ := HFin.out W5 w6 rfl hw6.out
          clear hw6 HW5 HFin
          go_wp2_with fail
          go_ret
          exact ⟨hg6, .inr (.inr ⟨_, _, hr0, HRR.out, rfl, hps⟩)⟩

end Go.Proofs.YtdihdnhofgjhnaaDoor
