/- Texts of the proof, put together: YPsrC, YPsrD. -/
import Derived.Test.YtdihdnhofgjhnaaDoorPy25
import Derived.Deep.RegionHeldLaw
namespace Go.Proofs.YtdihdnhofgjhnaaDoor
open Go.RowKit
set_option linter.unusedVariables false
set_option maxRecDepth 100000

/-- a leaf in memory -/
theorem leaf_tree {w : World} {Q : Nat} {a : Nat} {ok : Nat → Prop} (h : w.heap[Q]? = some (.cells #[.int .i64 (-1), .int .i64 a, .slice none 0 0] 81 (0, 0))) (hok : ok Q) : Tree ok w (.pointer (some ⟨Q, 0, none⟩)) (leafT a) :=
  ⟨1, .inr ⟨rfl, Q, .slice none 0 0, rfl, hok, h, .inl ⟨rfl, none, 0, rfl⟩⟩⟩
/-- the top is set -/
theorem PsI.top {w0 w w1 : World} {c : PC} {P a r : Nat} {σ : Pl} {acc : Bool} {tq tl : Nat} {x : Tr × Int} (h : PsI w0 w c P a r σ acc tq) {tz : Nat} {τ : Pl} (hb : Below w.heap.size w w1) (ht : Tree (fun b => b ≠ P) w1 (.pointer (some ⟨tl, 0, none⟩)) x.1) (hτ : PilM (fun b => b ≠ P) w1 (.pointer (some ⟨tz, 0, none⟩)) τ) :
    PsI w0 ((w1.alloc (.cells #[.pointer (some ⟨tz, 0, none⟩), .int .i64 ((τ.length + 1 : Nat) : Int), .pointer (some ⟨tl, 0, none⟩), .int .i64 x.2] 86)).setCell ⟨P, 16, none⟩ (.pointer (some ⟨w1.heap.size, 0, none⟩))) c P a r (x :: τ) acc w1.heap.size ∧ w.grownBy ((w1.alloc (.cells #[.pointer (some ⟨tz, 0, none⟩), .int .i64 ((τ.length + 1 : Nat) : Int), .pointer (some ⟨tl, 0, none⟩), .int .i64 x.2] 86)).setCell ⟨P, 16, none⟩ (.pointer (some ⟨w1.heap.size, 0, none⟩))) (some P) := by
  have hp := hτ.push (x := x) ht
  have hb2 := hb.trans ((alloc_below w1 (.cells #[.pointer (some ⟨tz, 0, none⟩), .int .i64 ((τ.length + 1 : Nat) : Int), .pointer (some ⟨tl, 0, none⟩), .int .i64 x.2] 86)).mono hb.size)
  generalize w1.alloc (.cells #[.pointer (some ⟨tz, 0, none⟩), .int .i64 ((τ.length + 1 : Nat) : Int), .pointer (some ⟨tl, 0, none⟩), .int .i64 x.2] 86) = W at *
  have hpar := h.par.below hb2
  have hg := grown_setY W P 16 (.pointer (some ⟨w1.heap.size, 0, none⟩))
  have hg2 : w.grownBy (W.setCell ⟨P, 16, none⟩ (.pointer (some ⟨w1.heap.size, 0, none⟩))) (some P) := grown_trans (grownP hb2) hg
  exact ⟨⟨below_grownP h.bel hg2 h.low, h.low, hpar.setTop _, hp.keep hpar (by decide) hg⟩, hg2⟩
theorem PsI.setAt {w0 w : World} {c : PC} {P a r : Nat} {σ : Pl} {acc : Bool} {tq : Nat} (h : PsI w0 w c P a r σ acc tq) (a' : Nat) : PsI w0 (w.setCell ⟨P, 14, none⟩ (.int .i64 a')) c P a' r σ acc tq :=
  ⟨below_grownP h.bel (grown_setY _ _ _ _) h.low, h.low, h.par.setAt _, h.pil.keep h.par (by decide) (grown_setY _ _ _ _)⟩
theorem PsI.setRed {w0 w : World} {c : PC} {P a r : Nat} {σ : Pl} {acc : Bool} {tq : Nat} (h : PsI w0 w c P a r σ acc tq) (r' : Nat) : PsI w0 (w.setCell ⟨P, 15, none⟩ (.int .i64 r')) c P a r' σ acc tq :=
  ⟨below_grownP h.bel (grown_setY _ _ _ _) h.low, h.low, h.par.setRed _, h.pil.keep h.par (by decide) (grown_setY _ _ _ _)⟩
theorem PsI.setAcc {w0 w : World} {c : PC} {P a r : Nat} {σ : Pl} {acc : Bool} {tq : Nat} (h : PsI w0 w c P a r σ acc tq) : PsI w0 (w.setCell ⟨P, 17, none⟩ (.bool true)) c P a r σ true tq :=
  ⟨below_grownP h.bel (grown_setY _ _ _ _) h.low, h.low, h.par.setAcc, h.pil.keep h.par (by decide) (grown_setY _ _ _ _)⟩

set_option maxHeartbeats 4000000 in
theorem shift_any {w0 w : World} {c : PC} {P a r : Nat} {σ : Pl} {acc : Bool} {tq : Nat} (h : PsI w0 w c P a r σ acc tq) (s : Int) (ha : a ≤ 100) (hl : σ.length ≤ 900000) :
    Calls Tryd.prog 53 #[.pointer (some ⟨P, 0, none⟩), .int .i64 s] w fun e w' => e = .returned .nilIface ∧ w.grownBy w' (some P) ∧ ∃ tq', PsI w0 w' c P (a + 1) 0 ((leafT a, s) :: σ) acc tq' := by
  have c14 : w.cell? ⟨P, 14, none⟩ = some (.int .i64 a) := h.par.at 14
  have c16 : w.cell? ⟨P, 16, none⟩ = some (.pointer (some ⟨tq, 0, none⟩)) := h.par.at 16
  have hlt := h.par.lt
  have HW : Hid (∀ w1, Below w.heap.size w w1 → Calls Tryd.prog 62 #[.pointer (some ⟨tq, 0, none⟩), .pointer (some ⟨w.heap.size, 0, none⟩), .int .i64 s] w1 fun e w' => e = .returned (.pointer (some ⟨w1.heap.size, 0, none⟩)) ∧ Hid (w' = w1.alloc (.cells #[.pointer (some ⟨tq, 0, none⟩), .int .i64 ((σ.length + 1 : Nat) : Int), .pointer (some ⟨w.heap.size, 0, none⟩), .int .i64 s] 86))) := fun w1 hb => with_any _ σ _ w.heap.size s w1 (h.pil.below hb) (by omega)
  have HI : Hid (PsI w0 w c P a r σ acc tq) := h
  clear h
  have HB1 : Hid (Below w.heap.size w (w.alloc (.cells #[.int .i64 (-1), .int .i64 a, .slice none 0 0] 81)).drew) := below_drewY (alloc_below _ _)
  have HS1 : Hid ((w.alloc (.cells #[.int .i64 (-1), .int .i64 a, .slice none 0 0] 81)).drew.heap.size = w.heap.size + 1) := alloc_size _ _
  have HQ1 : Hid ((w.alloc (.cells #[.int .i64 (-1), .int .i64 a, .slice none 0 0] 81)).drew.heap[w.heap.size]? = some (.cells #[.int .i64 (-1), .int .i64 a, .slice none 0 0] 81 (0, 0))) := heap_alloc_new w _
  generalize hW1 : (w.alloc (.cells #[.int .i64 (-1), .int .i64 a, .slice none 0 0] 81)).drew = W1 at *
  have HW1 : Hid ((w.alloc (.cells #[.int .i64 (-1), .int .i64 a, .slice none 0 0] 81)).drew = W1) := hW1
  clear hW1
  have HX : Hid (∀ w2, w2 = W1.alloc (.cells #[.pointer (some ⟨tq, 0, none⟩), .int .i64 ((σ.length + 1 : Nat) : Int), .pointer (some ⟨w.heap.size, 0, none⟩), .int .i64 s] 86) → w2.cell? ⟨P, 16, none⟩ = some (.pointer (some ⟨tq, 0, none⟩)) ∧ w2.frozen? ⟨P, 16, none⟩ = false ∧ P < w2.heap.size ∧ w2.cell? ⟨P, 14, none⟩ = some (.int .i64 a) ∧ w2.frozen? ⟨P, 14, none⟩ = false ∧ w2.cell? ⟨P, 15, none⟩ = some (.int .i64 r) ∧ w2.frozen? ⟨P, 15, none⟩ = false) := fun w2 e => by
    have hp : PaM w2 c P a r (.pointer (some ⟨tq, 0, none⟩)) acc := by
      rw [e]
      exact (HI.out.par.below HB1.out).below (alloc_below _ _)
    exact ⟨hp.at 16, hp.fz 16, hp.lt, hp.at 14, hp.fz 14, hp.at 15, hp.fz 15⟩
  have HFin : Hid (∀ w2, w2 = W1.alloc (.cells #[.pointer (some ⟨tq, 0, none⟩), .int .i64 ((σ.length + 1 : Nat) : Int), .pointer (some ⟨w.heap.size, 0, none⟩), .int .i64 s] 86) → w.grownBy (((w2.setCell ⟨P, 16, none⟩ (.pointer (some ⟨w.heap.size + 1, 0, none⟩))).setCell ⟨P, 14, none⟩ (.int .i64 ((a : Int) + 1))).setCell ⟨P, 15, none⟩ (.int .i64 0)) (some P) ∧ PsI w0 (((w2.setCell ⟨P, 16, none⟩ (.pointer (some ⟨w.heap.size + 1, 0, none⟩))).setCell ⟨P, 14, none⟩ (.int .i64 ((a : Int) + 1))).setCell ⟨P, 15, none⟩ (.int .i64 0)) c P (a + 1) 0 ((leafT a, s) :: σ) acc (w.heap.size + 1)) := fun w2 e => by
    subst e
    have h1 := HI.out.top (x := (leafT a, s)) HB1.out (leaf_tree HQ1.out (by have := HI.out.par.lt; omega)) (HI.out.pil.below HB1.out)
    rw [HS1.out] at h1
    exact ⟨grown_trans (grown_trans h1.2 (grown_setY _ _ _ _)) (grown_setY _ _ _ _), (h1.1.setAt (a + 1)).setRed 0⟩
  have hwa : IntKind.i64.wrap ((a : Int) + 1) = (a : Int) + 1 := by rw [IntKind.wrap_i64]; omega
  have hsz : W1.heap.size = w.heap.size + 1 := HS1.out
  go_enter Tryd.func53, Tryd.ntmps53
  go_wp2_with fail
  go_region_law (go_simp; rw [HW1.out]; go_at_call 62; refine (HW.out W1 HB1.out).mono ?_; rintro e w2 ⟨rfl, hw2⟩; have f := HX.out w2 hw2.out; obtain ⟨f1, f2, f3, f4, f5, f6, f7⟩ := f)
  all_goals
    have hfin := HFin.out w2 hw2.out
    clear hw2
    go_wp2_with fail
    go_ret
    exact ⟨rfl, hfin.1, _, hfin.2⟩

end Go.Proofs.YtdihdnhofgjhnaaDoor

namespace Go.Proofs.YtdihdnhofgjhnaaDoor
open Go.RowKit
set_option linter.unusedVariables false
set_option maxRecDepth 100000

def ofStart (g : Gm) (xp : Int) : Bool := decide (0 ≤ xp) && decide ((prodOf g xp).left = g.start)

set_option maxHeartbeats 4000000 in
theorem isOfStart_any {w : World} {c : PC} {P a r : Nat} {tv : Value} {acc : Bool} (h : PaM w c P a r tv acc) (hG : GrM w c.g c.pv c.lv c.sv) (tq : Nat) (xp : Int) (htl : tq < w.heap.size) (ht : w.cell? ⟨tq, 0, none⟩ = some (.int .i64 xp)) (hx : -1 ≤ xp ∧ xp < c.g.prods.length) :
    Calls Tryd.prog 64 #[.pointer (some ⟨P, 0, none⟩), .pointer (some ⟨tq, 0, none⟩)] w fun e w' => e = .returned (.bool (ofStart c.g xp)) ∧ Below w.heap.size w w' := by
  obtain ⟨pa, pc, hpv⟩ := hG.prods.slice
  have c2 : w.cell? ⟨P, 2, none⟩ = some (.int .i64 c.g.start) := h.at 2
  have c3 : w.cell? ⟨P, 3, none⟩ = some (.slice pa c.g.prods.length pc) := (h.at 3).trans (by rw [← hpv]; rfl)
  have hlt := h.lt
  have hGG := hG.prods
  rw [hpv] at hGG
  clear h hG hpv
  generalize c.g = g at *
  obtain ⟨hx0, hx1⟩ := hx
  by_cases hm : xp = -1
  · subst hm
    have HZ : Hid (ofStart g (-1) = false) := by show _ = _; unfold ofStart; rw [decide_eq_false (by omega)]; rfl
    have d0 : ((-1 : Int) != -1) = false := rfl
    clear hGG
    go_enter Tryd.func64, Tryd.ntmps64
    go_wp2_with fail
    go_quiet (fail)
    go_wp2_with fail
    go_ret
    exact ⟨by rw [HZ.out]; rfl, below_drewG (Below.refl _ _) _⟩
  · have hx2 : 0 ≤ xp := by omega
    obtain ⟨pb, poff, rv, rfl, hpb, hpm⟩ := hGG.at (k := xp.toNat) (by omega)
    obtain ⟨m0, m1, m2, _⟩ := hpm
    have HPE : Hid (g.prods.getD xp.toNat noPd = prodOf g xp) := rfl
    rw [HPE.out] at m0
    have HZ : Hid (ofStart g xp = decide ((prodOf g xp).left = g.start)) := by show _ = _; unfold ofStart; rw [decide_eq_true hx2]; rfl
    generalize (prodOf g xp).left = lf at *
    generalize ofStart g xp = O at *
    clear m1 m2 hGG
    have d0 : (xp != -1) = true := by rw [bne_iff_ne]; exact hm
    by_cases hls : lf = g.start
    · have d1 : (lf == g.start) = true := by rw [beq_iff_eq]; exact hls
      have HZ2 : Hid (O = true) := by show _ = _; rw [HZ.out, decide_eq_true hls]
      clear HZ hls
      go_enter Tryd.func64, Tryd.ntmps64
      go_wp2_with fail
      go_quiet (fail)
      go_wp2_with fail
      go_ret
      exact ⟨by rw [HZ2.out]; rfl, below_drewG (Below.refl _ _) _⟩
    · have d1 : (lf == g.start) = false := by rw [beq_eq_false_iff_ne]; exact hls
      have HZ2 : Hid (O = false) := by show _ = _; rw [HZ.out, decide_eq_false hls]
      clear HZ hls
      go_enter Tryd.func64, Tryd.ntmps64
      go_wp2_with fail
      go_quiet (fail)
      go_wp2_with fail
      go_ret
      exact ⟨by rw [HZ2.out]; rfl, below_drewG (Below.refl _ _) _⟩

set_option maxHeartbeats 4000000 in
theorem accept_any {w0 w : World} {c : PC} {tb : Tb} {P a r : Nat} {σ : Pl} {acc : Bool} {tq : Nat} {ab ar ae : Addr} (h : PsI w0 w c P a r σ acc tq) (hok : PlOk c.g tb σ) (hG : GrM w c.g c.pv c.lv c.sv) (hE : ErG w ab ar ae) (x : Int) (hl : σ.length ≤ 900000) :
    Calls Tryd.prog 55 #[.pointer (some ⟨P, 0, none⟩), .int .i64 x] w fun e w' => w.grownBy w' (some P) ∧ ((accB c.g σ = true ∧ e = .returned .nilIface ∧ PsI w0 w' c P a r σ true tq) ∨ (accB c.g σ = false ∧ FltP w' e (errE ar) a)) := by
  have c16 : w.cell? ⟨P, 16, none⟩ = some (.pointer (some ⟨tq, 0, none⟩)) := h.par.at 16
  have hlt := h.par.lt
  obtain ⟨b, pv, tv, e, hb, hc⟩ := h.pil.head
  simp only [Value.pointer.injEq, Option.some.injEq, Addr.mk.injEq, and_true] at e
  subst e
  have t1 : w.cell? ⟨tq, 1, none⟩ = some (.int .i64 (σ.length : Nat)) := by simp [World.cell?, hc]
  have t2 : w.cell? ⟨tq, 2, none⟩ = some (.pointer tv) := by simp [World.cell?, hc]
  have hg := hE.rul
  have HF : Hid (∀ w1, Below w.heap.size w w1 → Calls Tryd.prog 35 #[.pointer (some ⟨P, 0, none⟩), errE ar] w1 fun e w' => FltP w' e (errE ar) a ∧ Below w1.heap.size w1 w') := fun w1 hb => fault_any (h.par.below hb) ar
  have HER : Hid (∀ w1, Below w.heap.size w w1 → w1.cell? ⟨2, 0, none⟩ = some (errE ar)) := fun w1 hb => (hE.below hb).rul
  unfold errE at hg HF HER
  by_cases hN : σ.length = 1
  · obtain ⟨y, rfl⟩ := List.length_eq_one_iff.1 hN
    obtain ⟨b2, pv2, tl, e2, h2, h3, h4⟩ := h.pil
    simp only [Value.pointer.injEq, Option.some.injEq, Addr.mk.injEq, and_true] at e2
    subst e2
    have htv : tv = some ⟨tl, 0, none⟩ := by
      have h9 := h2
      rw [hc] at h9
      simp [topS] at h9
      exact h9.2
    subst htv
    obtain ⟨n, hn⟩ := h3
    have htc : tl < w.heap.size ∧ w.cell? ⟨tl, 0, none⟩ = some (.int .i64 y.1.prod) := by
      cases n with
      | zero => exact hn.elim
      | succ n =>
        rcases hn with ⟨_, e⟩ | ⟨_, b', kv, e, _, k3, _⟩
        · simp at e
        · simp only [Value.pointer.injEq, Option.some.injEq, Addr.mk.injEq, and_true] at e
          subst e
          exact ⟨(Array.getElem?_eq_some_iff.1 k3).1, by simp [World.cell?, k3]⟩
    obtain ⟨_, hy1, hy2⟩ := hok.trees y (by simp)
    have HS : Hid (Calls Tryd.prog 64 #[.pointer (some ⟨P, 0, none⟩), .pointer (some ⟨tl, 0, none⟩)] w fun e w' => e = .returned (.bool (ofStart c.g y.1.prod)) ∧ Below w.heap.size w w') := isOfStart_any h.par hG tl y.1.prod htc.1 htc.2 ⟨hy1, hy2⟩
    have HA : Hid (accB c.g [y] = ofStart c.g y.1.prod) := rfl
    have HI : Hid (PsI w0 w c P a r [y] acc tq) := h
    generalize ofStart c.g y.1.prod = O at *
    have t1' : w.cell? ⟨tq, 1, none⟩ = some (.int .i64 1) := t1
    clear h t1 hc h2 hn h4 hok hG hE htc hy1 hy2 hN
    go_enter Tryd.func55, Tryd.ntmps55
    go_wp2_with fail
    go_at_call 64
    refine HS.out.mono ?_
    rintro e w2 ⟨rfl, hb2⟩
    have HI2 : Hid (PsI w0 w2 c P a r [y] acc tq) := HI.out.below hb2
    have HB2 : Hid (Below w.heap.size w w2) := hb2
    have hg2 := HER.out w2 hb2
    have HF2 := HF.out w2 hb2
    clear c16 t1' t2 hg hb2 HER HF
    have hlt2 := HI2.out.par.lt
    have c17 : w2.cell? ⟨P, 17, none⟩ = some (.bool acc) := HI2.out.par.at 17
    have f17 : w2.frozen? ⟨P, 17, none⟩ = false := HI2.out.par.fz 17
    cases O with
    | true =>
      clear HF2 hg2
      go_wp2_with fail
      go_ret
      exact ⟨grown_trans (grownP HB2.out) (grown_setY _ _ _ _), .inl ⟨HA.out, rfl, HI2.out.setAcc⟩⟩
    | false =>
      have HF3 : Hid (Calls Tryd.prog 35 #[.pointer (some ⟨P, 0, none⟩), .iface 137 (.pointer (some ar))] w2 fun e w' => FltP w' e (.iface 137 (.pointer (some ar))) a ∧ Below w2.heap.size w2 w') := HF2
      clear HF2
      go_wp2_with fail
      go_at_call 35
      refine HF3.out.mono ?_
      rintro e w3 ⟨⟨fb, rfl, f0, f1⟩, hb3⟩
      go_wp2_with fail
      go_ret
      exact ⟨grownP (HB2.out.trans (hb3.mono HB2.out.size)), .inr ⟨HA.out, fb, rfl, f0, f1⟩⟩
  · have HA : Hid (accB c.g σ = false) := by
      match σ, hN with
      | [], _ => rfl
      | [x], hl => simp at hl
      | x :: y :: r, _ => rfl
    generalize σ.length = N at *
    have d0 : ((N : Int) != 1) = true := by rw [bne_iff_ne]; omega
    have HF3 : Hid (Calls Tryd.prog 35 #[.pointer (some ⟨P, 0, none⟩), .iface 137 (.pointer (some ar))] w fun e w' => FltP w' e (.iface 137 (.pointer (some ar))) a ∧ Below w.heap.size w w') := HF.out w (Below.refl _ _)
    clear h hc hok hG hE HF HER
    go_enter Tryd.func55, Tryd.ntmps55
    go_wp2_with fail
    go_at_call 35
    refine HF3.out.mono ?_
    rintro e w3 ⟨⟨fb, rfl, f0, f1⟩, hb3⟩
    go_wp2_with fail
    go_ret
    exact ⟨grownP hb3, .inr ⟨HA.out, fb, rfl, f0, f1⟩⟩

end Go.Proofs.YtdihdnhofgjhnaaDoor
