/- The program's parser: a shift. -/
import Derived.Test.YtbdmjfapebdgjaaDoorYPsrB
import Derived.Deep.RegionHeldLaw
namespace Go.Proofs.YtbdmjfapebdgjaaDoor
open Go.RowKit
set_option linter.unusedVariables false
set_option maxRecDepth 100000

/-- a leaf in memory -/
theorem leaf_tree {w : World} {Q : Nat} {a : Nat} {ok : Nat → Prop} (h : w.heap[Q]? = some (.cells #[.int .i64 (-1), .int .i64 a, .slice none 0 0] 82 (0, 0))) (hok : ok Q) : Tree ok w (.pointer (some ⟨Q, 0, none⟩)) (leafT a) :=
  ⟨1, .inr ⟨rfl, Q, .slice none 0 0, rfl, hok, h, .inl ⟨rfl, none, 0, rfl⟩⟩⟩
/-- the top is set -/
theorem PsI.top {w0 w w1 : World} {c : PC} {P a r : Nat} {σ : Pl} {acc : Bool} {tq tl : Nat} {x : Tr × Int} (h : PsI w0 w c P a r σ acc tq) {tz : Nat} {τ : Pl} (hb : Below w.heap.size w w1) (ht : Tree (fun b => b ≠ P) w1 (.pointer (some ⟨tl, 0, none⟩)) x.1) (hτ : PilM (fun b => b ≠ P) w1 (.pointer (some ⟨tz, 0, none⟩)) τ) :
    PsI w0 ((w1.alloc (.cells #[.pointer (some ⟨tz, 0, none⟩), .int .i64 ((τ.length + 1 : Nat) : Int), .pointer (some ⟨tl, 0, none⟩), .int .i64 x.2] 65)).setCell ⟨P, 16, none⟩ (.pointer (some ⟨w1.heap.size, 0, none⟩))) c P a r (x :: τ) acc w1.heap.size ∧ w.grownBy ((w1.alloc (.cells #[.pointer (some ⟨tz, 0, none⟩), .int .i64 ((τ.length + 1 : Nat) : Int), .pointer (some ⟨tl, 0, none⟩), .int .i64 x.2] 65)).setCell ⟨P, 16, none⟩ (.pointer (some ⟨w1.heap.size, 0, none⟩))) (some P) := by
  have hp := hτ.push (x := x) ht
  have hb2 := hb.trans ((alloc_below w1 (.cells #[.pointer (some ⟨tz, 0, none⟩), .int .i64 ((τ.length + 1 : Nat) : Int), .pointer (some ⟨tl, 0, none⟩), .int .i64 x.2] 65)).mono hb.size)
  generalize w1.alloc (.cells #[.pointer (some ⟨tz, 0, none⟩), .int .i64 ((τ.length + 1 : Nat) : Int), .pointer (some ⟨tl, 0, none⟩), .int .i64 x.2] 65) = W at *
  have hpar := h.par.below hb2
  have hg := grown_setY W P 16 (.pointer (some ⟨w1.heap.size, 0, none⟩))
  have hg2 : w.grownBy (W.setCell ⟨P, 16, none⟩ (.pointer (some ⟨w1.heap.size, 0, none⟩))) (some P) := grown_trans (grownP hb2) hg
  exact ⟨⟨below_grownP h.bel hg2 h.low, h.low, hpar.setTop _, hp.keep hpar (by decide) hg⟩, hg2⟩
theorem PsI.setAt {w0 w : World} {c : PC} {P a r : Nat} {σ : Pl} {acc : Bool} {tq : Nat} (h : PsI w0 w c P a r σ acc tq) (a' : Nat) : PsI w0 (w.setCell ⟨P, 14, none⟩ (.int .i64 a')) c P a' r σ acc tq :=
  ⟨below_grownP h.bel (grown_setY _ _ _ _) h.low, h.low, h.par.setAt _, h.pil.keep h.par (by decide) (grown_setY _ _ _ _)⟩
theorem PsI.setRed {w0 w : World} {c : PC} {P a r : Nat} {σ : Pl} {acc : Bool} {tq : Nat} (h : PsI w0 w c P a r σ acc tq) (r' : Nat) : PsI w0 (w.setCell ⟨P, 15, none⟩ (.int .i64 r')) c P a r' σ acc tq :=
  ⟨below_grownP h.bel (grown_setY _ _ _ _) h.low, h.low, h.par.setRed _, h.pil.keep h.par (by decide) (grown_setY _ _ _ _)⟩
theorem PsI.setAcc {w0 w : World} {c : PC} {P a r : Nat} {σ : Pl} {acc : Bool} {tq : Nat} (h : PsI w0 w c P a r σ acc tq) : PsI w0 (w.setCell ⟨P, 17, none⟩ (.bool true)) c P a r σ true tq :=
  ⟨below_grownP h.bel (grown_setY _ _ _ _) h.low, h.low, h.par.setAcc, h.pil.keep h.par (by decide) (grown_setY _ _ _ _)⟩

set_option maxHeartbeats 4000000 in
theorem shift_any {w0 w : World} {c : PC} {P a r : Nat} {σ : Pl} {acc : Bool} {tq : Nat} (h : PsI w0 w c P a r σ acc tq) (s : Int) (ha : a ≤ 100) (hl : σ.length ≤ 900000) :
    Calls Tryd.prog 52 #[.pointer (some ⟨P, 0, none⟩), .int .i64 s] w fun e w' => e = .returned .nilIface ∧ w.grownBy w' (some P) ∧ ∃ tq', PsI w0 w' c P (a + 1) 0 ((leafT a, s) :: σ) acc tq' := by
  have c14 : w.cell? ⟨P, 14, none⟩ = some (.int .i64 a) := h.par.at 14
  have c16 : w.cell? ⟨P, 16, none⟩ = some (.pointer (some ⟨tq, 0, none⟩)) := h.par.at 16
  have hlt := h.par.lt
  have HW : Hid (∀ w1, Below w.heap.size w w1 → Calls Tryd.prog 61 #[.pointer (some ⟨tq, 0, none⟩), .pointer (some ⟨w.heap.size, 0, none⟩), .int .i64 s] w1 fun e w' => e = .returned (.pointer (some ⟨w1.heap.size, 0, none⟩)) ∧ Hid (w' = w1.alloc (.cells #[.pointer (some ⟨tq, 0, none⟩), .int .i64 ((σ.length + 1 : Nat) : Int), .pointer (some ⟨w.heap.size, 0, none⟩), .int .i64 s] 65))) := fun w1 hb => with_any _ σ _ w.heap.size s w1 (h.pil.below hb) (by omega)
  have HI : Hid (PsI w0 w c P a r σ acc tq) := h
  clear h
  have HB1 : Hid (Below w.heap.size w (w.alloc (.cells #[.int .i64 (-1), .int .i64 a, .slice none 0 0] 82)).drew) := below_drewY (alloc_below _ _)
  have HS1 : Hid ((w.alloc (.cells #[.int .i64 (-1), .int .i64 a, .slice none 0 0] 82)).drew.heap.size = w.heap.size + 1) := alloc_size _ _
  have HQ1 : Hid ((w.alloc (.cells #[.int .i64 (-1), .int .i64 a, .slice none 0 0] 82)).drew.heap[w.heap.size]? = some (.cells #[.int .i64 (-1), .int .i64 a, .slice none 0 0] 82 (0, 0))) := heap_alloc_new w _
  generalize hW1 : (w.alloc (.cells #[.int .i64 (-1), .int .i64 a, .slice none 0 0] 82)).drew = W1 at *
  have HW1 : Hid ((w.alloc (.cells #[.int .i64 (-1), .int .i64 a, .slice none 0 0] 82)).drew = W1) := hW1
  clear hW1
  have HX : Hid (∀ w2, w2 = W1.alloc (.cells #[.pointer (some ⟨tq, 0, none⟩), .int .i64 ((σ.length + 1 : Nat) : Int), .pointer (some ⟨w.heap.size, 0, none⟩), .int .i64 s] 65) → w2.cell? ⟨P, 16, none⟩ = some (.pointer (some ⟨tq, 0, none⟩)) ∧ w2.frozen? ⟨P, 16, none⟩ = false ∧ P < w2.heap.size ∧ w2.cell? ⟨P, 14, none⟩ = some (.int .i64 a) ∧ w2.frozen? ⟨P, 14, none⟩ = false ∧ w2.cell? ⟨P, 15, none⟩ = some (.int .i64 r) ∧ w2.frozen? ⟨P, 15, none⟩ = false) := fun w2 e => by
    have hp : PaM w2 c P a r (.pointer (some ⟨tq, 0, none⟩)) acc := by
      rw [e]
      exact (HI.out.par.below HB1.out).below (alloc_below _ _)
    exact ⟨hp.at 16, hp.fz 16, hp.lt, hp.at 14, hp.fz 14, hp.at 15, hp.fz 15⟩
  have HFin : Hid (∀ w2, w2 = W1.alloc (.cells #[.pointer (some ⟨tq, 0, none⟩), .int .i64 ((σ.length + 1 : Nat) : Int), .pointer (some ⟨w.heap.size, 0, none⟩), .int .i64 s] 65) → w.grownBy (((w2.setCell ⟨P, 16, none⟩ (.pointer (some ⟨w.heap.size + 1, 0, none⟩))).setCell ⟨P, 14, none⟩ (.int .i64 ((a : Int) + 1))).setCell ⟨P, 15, none⟩ (.int .i64 0)) (some P) ∧ PsI w0 (((w2.setCell ⟨P, 16, none⟩ (.pointer (some ⟨w.heap.size + 1, 0, none⟩))).setCell ⟨P, 14, none⟩ (.int .i64 ((a : Int) + 1))).setCell ⟨P, 15, none⟩ (.int .i64 0)) c P (a + 1) 0 ((leafT a, s) :: σ) acc (w.heap.size + 1)) := fun w2 e => by
    subst e
    have h1 := HI.out.top (x := (leafT a, s)) HB1.out (leaf_tree HQ1.out (by have := HI.out.par.lt; omega)) (HI.out.pil.below HB1.out)
    rw [HS1.out] at h1
    exact ⟨grown_trans (grown_trans h1.2 (grown_setY _ _ _ _)) (grown_setY _ _ _ _), (h1.1.setAt (a + 1)).setRed 0⟩
  have hwa : IntKind.i64.wrap ((a : Int) + 1) = (a : Int) + 1 := by rw [IntKind.wrap_i64]; omega
  have hsz : W1.heap.size = w.heap.size + 1 := HS1.out
  go_enter Tryd.func52, Tryd.ntmps52
  go_wp2_with fail
  go_region_law (go_simp; rw [HW1.out]; go_at_call 61; refine (HW.out W1 HB1.out).mono ?_; rintro e w2 ⟨rfl, hw2⟩; have f := HX.out w2 hw2.out; obtain ⟨f1, f2, f3, f4, f5, f6, f7⟩ := f)
  all_goals
    have hfin := HFin.out w2 hw2.out
    clear hw2
    go_wp2_with fail
    go_ret
    exact ⟨rfl, hfin.1, _, hfin.2⟩

end Go.Proofs.YtbdmjfapebdgjaaDoor
