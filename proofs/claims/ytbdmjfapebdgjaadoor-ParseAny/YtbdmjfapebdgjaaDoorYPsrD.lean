/- The program's parser: the end is accepted, or not. -/
import Derived.Test.YtbdmjfapebdgjaaDoorYPsrC
namespace Go.Proofs.YtbdmjfapebdgjaaDoor
open Go.RowKit
set_option linter.unusedVariables false
set_option maxRecDepth 100000

def ofStart (g : Gm) (xp : Int) : Bool := decide (0 ≤ xp) && decide ((prodOf g xp).left = g.start)

set_option maxHeartbeats 4000000 in
theorem isOfStart_any {w : World} {c : PC} {P a r : Nat} {tv : Value} {acc : Bool} (h : PaM w c P a r tv acc) (hG : GrM w c.g c.pv c.lv c.sv) (tq : Nat) (xp : Int) (htl : tq < w.heap.size) (ht : w.cell? ⟨tq, 0, none⟩ = some (.int .i64 xp)) (hx : -1 ≤ xp ∧ xp < c.g.prods.length) :
    Calls Tryd.prog 63 #[.pointer (some ⟨P, 0, none⟩), .pointer (some ⟨tq, 0, none⟩)] w fun e w' => e = .returned (.bool (ofStart c.g xp)) ∧ Below w.heap.size w w' := by
  obtain ⟨pa, pc, hpv⟩ := hG.prods.slice
  have c2 : w.cell? ⟨P, 2, none⟩ = some (.int .i64 c.g.start) := h.at 2
  have c3 : w.cell? ⟨P, 3, none⟩ = some (.slice pa c.g.prods.length pc) := (h.at 3).trans (by rw [← hpv]; rfl)
  have hlt := h.lt
  have hGG := hG.prods
  rw [hpv] at hGG
  clear h hG hpv
  generalize c.g = g at *
  obtain ⟨hx0, hx1⟩ := hx
  by_cases hm : xp = -1
  · subst hm
    have HZ : Hid (ofStart g (-1) = false) := by show _ = _; unfold ofStart; rw [decide_eq_false (by omega)]; rfl
    have d0 : ((-1 : Int) != -1) = false := rfl
    clear hGG
    go_enter Tryd.func63, Tryd.ntmps63
    go_wp2_with fail
    go_quiet (fail)
    go_wp2_with fail
    go_ret
    exact ⟨by rw [HZ.out]; rfl, below_drewG (Below.refl _ _) _⟩
  · have hx2 : 0 ≤ xp := by omega
    obtain ⟨pb, poff, rv, rfl, hpb, hpm⟩ := hGG.at (k := xp.toNat) (by omega)
    obtain ⟨m0, m1, m2, _⟩ := hpm
    have HPE : Hid (g.prods.getD xp.toNat noPd = prodOf g xp) := rfl
    rw [HPE.out] at m0
    have HZ : Hid (ofStart g xp = decide ((prodOf g xp).left = g.start)) := by show _ = _; unfold ofStart; rw [decide_eq_true hx2]; rfl
    generalize (prodOf g xp).left = lf at *
    generalize ofStart g xp = O at *
    clear m1 m2 hGG
    have d0 : (xp != -1) = true := by rw [bne_iff_ne]; exact hm
    by_cases hls : lf = g.start
    · have d1 : (lf == g.start) = true := by rw [beq_iff_eq]; exact hls
      have HZ2 : Hid (O = true) := by show _ = _; rw [HZ.out, decide_eq_true hls]
      clear HZ hls
      go_enter Tryd.func63, Tryd.ntmps63
      go_wp2_with fail
      go_quiet (fail)
      go_wp2_with fail
      go_ret
      exact ⟨by rw [HZ2.out]; rfl, below_drewG (Below.refl _ _) _⟩
    · have d1 : (lf == g.start) = false := by rw [beq_eq_false_iff_ne]; exact hls
      have HZ2 : Hid (O = false) := by show _ = _; rw [HZ.out, decide_eq_false hls]
      clear HZ hls
      go_enter Tryd.func63, Tryd.ntmps63
      go_wp2_with fail
      go_quiet (fail)
      go_wp2_with fail
      go_ret
      exact ⟨by rw [HZ2.out]; rfl, below_drewG (Below.refl _ _) _⟩

set_option maxHeartbeats 4000000 in
theorem accept_any {w0 w : World} {c : PC} {tb : Tb} {P a r : Nat} {σ : Pl} {acc : Bool} {tq : Nat} {ab ar ae : Addr} (h : PsI w0 w c P a r σ acc tq) (hok : PlOk c.g tb σ) (hG : GrM w c.g c.pv c.lv c.sv) (hE : ErG w ab ar ae) (x : Int) (hl : σ.length ≤ 900000) :
    Calls Tryd.prog 54 #[.pointer (some ⟨P, 0, none⟩), .int .i64 x] w fun e w' => w.grownBy w' (some P) ∧ ((accB c.g σ = true ∧ e = .returned .nilIface ∧ PsI w0 w' c P a r σ true tq) ∨ (accB c.g σ = false ∧ FltP w' e (errE ar) a)) := by
  have c16 : w.cell? ⟨P, 16, none⟩ = some (.pointer (some ⟨tq, 0, none⟩)) := h.par.at 16
  have hlt := h.par.lt
  obtain ⟨b, pv, tv, e, hb, hc⟩ := h.pil.head
  simp only [Value.pointer.injEq, Option.some.injEq, Addr.mk.injEq, and_true] at e
  subst e
  have t1 : w.cell? ⟨tq, 1, none⟩ = some (.int .i64 (σ.length : Nat)) := by simp [World.cell?, hc]
  have t2 : w.cell? ⟨tq, 2, none⟩ = some (.pointer tv) := by simp [World.cell?, hc]
  have hg := hE.rul
  have HF : Hid (∀ w1, Below w.heap.size w w1 → Calls Tryd.prog 34 #[.pointer (some ⟨P, 0, none⟩), errE ar] w1 fun e w' => FltP w' e (errE ar) a ∧ Below w1.heap.size w1 w') := fun w1 hb => fault_any (h.par.below hb) ar
  have HER : Hid (∀ w1, Below w.heap.size w w1 → w1.cell? ⟨2, 0, none⟩ = some (errE ar)) := fun w1 hb => (hE.below hb).rul
  unfold errE at hg HF HER
  by_cases hN : σ.length = 1
  · obtain ⟨y, rfl⟩ := List.length_eq_one_iff.1 hN
    obtain ⟨b2, pv2, tl, e2, h2, h3, h4⟩ := h.pil
    simp only [Value.pointer.injEq, Option.some.injEq, Addr.mk.injEq, and_true] at e2
    subst e2
    have htv : tv = some ⟨tl, 0, none⟩ := by
      have h9 := h2
      rw [hc] at h9
      simp [topS] at h9
      exact h9.2
    subst htv
    obtain ⟨n, hn⟩ := h3
    have htc : tl < w.heap.size ∧ w.cell? ⟨tl, 0, none⟩ = some (.int .i64 y.1.prod) := by
      cases n with
      | zero => exact hn.elim
      | succ n =>
        rcases hn with ⟨_, e⟩ | ⟨_, b', kv, e, _, k3, _⟩
        · simp at e
        · simp only [Value.pointer.injEq, Option.some.injEq, Addr.mk.injEq, and_true] at e
          subst e
          exact ⟨(Array.getElem?_eq_some_iff.1 k3).1, by simp [World.cell?, k3]⟩
    obtain ⟨_, hy1, hy2⟩ := hok.trees y (by simp)
    have HS : Hid (Calls Tryd.prog 63 #[.pointer (some ⟨P, 0, none⟩), .pointer (some ⟨tl, 0, none⟩)] w fun e w' => e = .returned (.bool (ofStart c.g y.1.prod)) ∧ Below w.heap.size w w') := isOfStart_any h.par hG tl y.1.prod htc.1 htc.2 ⟨hy1, hy2⟩
    have HA : Hid (accB c.g [y] = ofStart c.g y.1.prod) := rfl
    have HI : Hid (PsI w0 w c P a r [y] acc tq) := h
    generalize ofStart c.g y.1.prod = O at *
    have t1' : w.cell? ⟨tq, 1, none⟩ = some (.int .i64 1) := t1
    clear h t1 hc h2 hn h4 hok hG hE htc hy1 hy2 hN
    go_enter Tryd.func54, Tryd.ntmps54
    go_wp2_with fail
    go_at_call 63
    refine HS.out.mono ?_
    rintro e w2 ⟨rfl, hb2⟩
    have HI2 : Hid (PsI w0 w2 c P a r [y] acc tq) := HI.out.below hb2
    have HB2 : Hid (Below w.heap.size w w2) := hb2
    have hg2 := HER.out w2 hb2
    have HF2 := HF.out w2 hb2
    clear c16 t1' t2 hg hb2 HER HF
    have hlt2 := HI2.out.par.lt
    have c17 : w2.cell? ⟨P, 17, none⟩ = some (.bool acc) := HI2.out.par.at 17
    have f17 : w2.frozen? ⟨P, 17, none⟩ = false := HI2.out.par.fz 17
    cases O with
    | true =>
      clear HF2 hg2
      go_wp2_with fail
      go_ret
      exact ⟨grown_trans (grownP HB2.out) (grown_setY _ _ _ _), .inl ⟨HA.out, rfl, HI2.out.setAcc⟩⟩
    | false =>
      have HF3 : Hid (Calls Tryd.prog 34 #[.pointer (some ⟨P, 0, none⟩), .iface 136 (.pointer (some ar))] w2 fun e w' => FltP w' e (.iface 136 (.pointer (some ar))) a ∧ Below w2.heap.size w2 w') := HF2
      clear HF2
      go_wp2_with fail
      go_at_call 34
      refine HF3.out.mono ?_
      rintro e w3 ⟨⟨fb, rfl, f0, f1⟩, hb3⟩
      go_wp2_with fail
      go_ret
      exact ⟨grownP (HB2.out.trans (hb3.mono HB2.out.size)), .inr ⟨HA.out, fb, rfl, f0, f1⟩⟩
  · have HA : Hid (accB c.g σ = false) := by
      match σ, hN with
      | [], _ => rfl
      | [x], hl => simp at hl
      | x :: y :: r, _ => rfl
    generalize σ.length = N at *
    have d0 : ((N : Int) != 1) = true := by rw [bne_iff_ne]; omega
    have HF3 : Hid (Calls Tryd.prog 34 #[.pointer (some ⟨P, 0, none⟩), .iface 136 (.pointer (some ar))] w fun e w' => FltP w' e (.iface 136 (.pointer (some ar))) a ∧ Below w.heap.size w w') := HF.out w (Below.refl _ _)
    clear h hc hok hG hE HF HER
    go_enter Tryd.func54, Tryd.ntmps54
    go_wp2_with fail
    go_at_call 34
    refine HF3.out.mono ?_
    rintro e w3 ⟨⟨fb, rfl, f0, f1⟩, hb3⟩
    go_wp2_with fail
    go_ret
    exact ⟨grownP hb3, .inr ⟨HA.out, fb, rfl, f0, f1⟩⟩

end Go.Proofs.YtbdmjfapebdgjaaDoor
