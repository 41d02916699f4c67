/- Texts of the proof, put together: RUni, RUniB, RInn, RRec, RBrk, RBrkB. -/
import Derived.Test.YtbjohedenfindaaGreatDoorPb17
import Derived.Test.YtbjohedenfindaaGreatDoorPb15
namespace Go.Proofs.YtbjohedenfindaaGreatDoor
open Go.RowKit
set_option linter.unusedVariables false
set_option maxRecDepth 100000

theorem below_allocU (w : World) (o : Obj) : Below w.heap.size w (w.alloc o) := Below.alloc (Below.refl _ _) (Nat.le_refl _) _
theorem point_x {W0 w : World} (L : LibC W0) {R i o : Nat} {s S : ByteArray} {bar signs : Int → Bool} (B : Bars S bar) (hb : bar 92 = false) (hsg : ∀ c, c ≠ 92 → signs c = bar c) (h : XR W0 w R s i o) :
    Calls Tryz.prog 140 #[.pointer (some ⟨R, 0, none⟩), .string S] w fun e w' => ∃ (z : Int) (j : Nat), e = .returned (.int .i64 z) ∧ 0 ≤ z ∧ z ≤ 1114111 ∧ w.grownBy w' (some R) ∧ XR W0 w' R s j o ∧ (BR W0 w' R s ∨ (SR W0 w R s i o ∧ pointS s signs i = some (z, j))) := by
  rcases h with ⟨h, ho⟩ | h
  · refine (rpoint_any (signs := signs) L B bars_esc (digC_any L s) h ho hb hsg).mono ?_
    rintro e w' ⟨z, rfl, z0, z1, hg, hB | ⟨j, h1, h2⟩⟩
    · exact ⟨z, 0, rfl, z0, z1, hg, .inr hB, .inl hB⟩
    · exact ⟨z, j, rfl, z0, z1, hg, .inl ⟨h2, ho⟩, .inr ⟨h, h1⟩⟩
  · refine (rpoint_bad L B h).mono ?_
    rintro e w' ⟨rfl, hg, hB⟩
    exact ⟨0, 0, rfl, by omega, by omega, hg, .inr hB, .inl hB⟩
theorem out92 : outBar 92 = false := by rw [outBar_eq]; decide
theorem in92 : inBar 92 = false := by rw [inBar_eq]; decide

/-- a set of one range -/
theorem set_tree1 (w : World) (a b : Int) : RT' w.heap.size ((w.alloc (.cells #[.int .i64 a, .int .i64 b] 101)).alloc (.cells #[.int .i64 1, .slice (some ⟨w.heap.size, 0, none⟩) 1 1, .int .i64 0, .int .i64 0, .slice none 0 0] 48)) (.pointer (some ⟨w.heap.size + 1, 0, none⟩)) (setRe [(a, b)]) := by
  have h1 : ((w.alloc (.cells #[.int .i64 a, .int .i64 b] 101)).alloc (.cells #[.int .i64 1, .slice (some ⟨w.heap.size, 0, none⟩) 1 1, .int .i64 0, .int .i64 0, .slice none 0 0] 48)).heap[w.heap.size]? = some (.cells #[.int .i64 a, .int .i64 b] 101 (0, 0)) := by
    rw [Below.heap_alloc _ _ _ (by simp)]
    exact heap_alloc_new w _
  have h2 := heap_alloc_new (w.alloc (.cells #[.int .i64 a, .int .i64 b] 101)) (.cells #[.int .i64 1, .slice (some ⟨w.heap.size, 0, none⟩) 1 1, .int .i64 0, .int .i64 0, .slice none 0 0] 48)
  rw [show (w.alloc _).heap.size = w.heap.size + 1 from by simp] at h2
  have h3 := h2
  refine ⟨1, w.heap.size + 1, _, _, rfl, Nat.le_succ _, h3, .inr ⟨w.heap.size, 0, 1, rfl, by simp; omega, Nat.le_refl _, fun j hj => ?_⟩, .inl ⟨rfl, none, 0, rfl⟩⟩
  have : j = 0 := by simp [setRe] at hj; exact hj
  subst this
  constructor <;> simp [World.cell?, h1, setRe]
theorem set_tree2 (w : World) (a b c d : Int) : RT' w.heap.size ((w.alloc (.cells #[.int .i64 a, .int .i64 b, .int .i64 c, .int .i64 d] 101)).alloc (.cells #[.int .i64 1, .slice (some ⟨w.heap.size, 0, none⟩) 2 2, .int .i64 0, .int .i64 0, .slice none 0 0] 48)) (.pointer (some ⟨w.heap.size + 1, 0, none⟩)) (setRe [(a, b), (c, d)]) := by
  have h1 : ((w.alloc (.cells #[.int .i64 a, .int .i64 b, .int .i64 c, .int .i64 d] 101)).alloc (.cells #[.int .i64 1, .slice (some ⟨w.heap.size, 0, none⟩) 2 2, .int .i64 0, .int .i64 0, .slice none 0 0] 48)).heap[w.heap.size]? = some (.cells #[.int .i64 a, .int .i64 b, .int .i64 c, .int .i64 d] 101 (0, 0)) := by
    rw [Below.heap_alloc _ _ _ (by simp)]
    exact heap_alloc_new w _
  have h2 := heap_alloc_new (w.alloc (.cells #[.int .i64 a, .int .i64 b, .int .i64 c, .int .i64 d] 101)) (.cells #[.int .i64 1, .slice (some ⟨w.heap.size, 0, none⟩) 2 2, .int .i64 0, .int .i64 0, .slice none 0 0] 48)
  rw [show (w.alloc _).heap.size = w.heap.size + 1 from by simp] at h2
  have h3 := h2
  refine ⟨1, w.heap.size + 1, _, _, rfl, Nat.le_succ _, h3, .inr ⟨w.heap.size, 0, 2, rfl, by simp; omega, Nat.le_refl _, fun j hj => ?_⟩, .inl ⟨rfl, none, 0, rfl⟩⟩
  have : j = 0 ∨ j = 1 := by simp [setRe] at hj; omega
  rcases this with rfl | rfl
  · constructor <;> simp [World.cell?, h1, setRe]
  · constructor <;> simp [World.cell?, h1, setRe]

set_option maxHeartbeats 4000000 in
theorem runit_leaf {W0 w : World} (L : LibC W0) {R i o : Nat} {s : ByteArray} {mk : List Rg → Bool → List Rg} (hmk : mk [(10, 10)] true = [(0, 9), (11, 1114111)]) (h : XR W0 w R s i o) (hc : BR W0 w R s ∨ (cpAt s i ≠ 40 ∧ cpAt s i ≠ 91 ∧ cpAt s i ≠ 126)) :
    Calls Tryz.prog 127 #[.pointer (some ⟨R, 0, none⟩)] w fun e w' => GotT W0 w R s i o (leafS s mk i) e w' := by
  have hRB := h.lt
  have HN : Hid (Calls Tryz.prog 74 #[.pointer (some ⟨R, 0, none⟩)] w fun e w' => ∃ c : Int, e = .returned (.int .i64 c) ∧ -1 ≤ c ∧ c ≤ 1114111 ∧ w.grownBy w' (some R) ∧ XR W0 w' R s i o ∧ ((BR W0 w' R s ∧ c = -1) ∨ (SR W0 w R s i o ∧ c = cpAt s i ∧ SR W0 w' R s i o))) := now_x L h
  have HC : Hid (BR W0 w R s ∨ (cpAt s i ≠ 40 ∧ cpAt s i ≠ 91 ∧ cpAt s i ≠ 126)) := hc
  clear h hc
  go_enter Tryz.func127, Tryz.ntmps127
  go_wp2_with fail
  refine HN.out.mono ?_
  rintro e w2 ⟨c, rfl, c0, c1, hg2, hx2, hh2⟩
  have hcn : c ≠ 40 ∧ c ≠ 91 ∧ c ≠ 126 := by
    rcases hh2 with ⟨_, e⟩ | ⟨k1, k2, k3⟩
    · omega
    · rcases HC.out with hB | hq
      · exact (k1.not_br hB).elim
      · rw [k2]; exact hq
  have n1 : (c == 40) = false := by rw [beq_eq_false_iff_ne]; exact hcn.1
  have n2 : (c == 91) = false := by rw [beq_eq_false_iff_ne]; exact hcn.2.1
  have n3 : (c == 126) = false := by rw [beq_eq_false_iff_ne]; exact hcn.2.2
  have hsz2 := hg2.size
  clear HN HC hcn
  by_cases h46 : c = 46
  · subst h46
    obtain ⟨k1, k2, k3⟩ : SR W0 w R s i o ∧ (46 : Int) = cpAt s i ∧ SR W0 w2 R s i o := by
      rcases hh2 with ⟨_, e⟩ | h
      · omega
      · exact h
    have ho : o ≤ 1000 := by
      rcases hx2 with h | h
      · exact h.2
      · exact (k3.not_br h).elim
    have hce := cp_eq_size k2.symm (by omega) (by omega)
    have HSk : Hid (Calls Tryz.prog 75 #[.pointer (some ⟨R, 0, none⟩)] w2 fun e w3 => e = .returned (.tuple #[]) ∧ GotT W0 w R s i o (leafS s mk i) (.returned (.pointer (some ⟨w3.heap.size + 1, 0, none⟩))) ((w3.alloc (.cells #[.int .i64 0, .int .i64 9, .int .i64 11, .int .i64 1114111] 101)).alloc (.cells #[.int .i64 1, .slice (some ⟨w3.heap.size, 0, none⟩) 2 2, .int .i64 0, .int .i64 0, .slice none 0 0] 48))) := by
      refine (skip_in k3 (by omega)).mono ?_
      rintro e w3 ⟨h1, hg3, hS3⟩
      rw [hce.2] at hS3
      have hga := ((below_allocU w3 (.cells #[.int .i64 0, .int .i64 9, .int .i64 11, .int .i64 1114111] 101)).trans ((below_allocU _ (.cells #[.int .i64 1, .slice (some ⟨w3.heap.size, 0, none⟩) 2 2, .int .i64 0, .int .i64 0, .slice none 0 0] 48)).mono (by simp)))
      have hg23 := Lib.grownBy_trans hg2 hg3
      refine ⟨h1, _, i + 1, rfl, Lib.grownBy_trans hg23 (grownBy_of_below hga _), .inl ⟨hS3.kept (grownBy_of_below hga none), ho⟩, .inr ⟨k1, setRe [(0, 9), (11, 1114111)], ?_, Tree.imp (set_tree2 w3 0 9 11 1114111) fun b _ hb => Nat.le_trans hg23.size hb⟩⟩
      unfold leafS
      rw [if_pos k2.symm, hmk]
    clear hh2 hx2 hg2 k1 k2 k3 hce
    go_wp2_with fail
    go_at_call 75
    refine HSk.out.mono ?_
    rintro e w3 ⟨rfl, hG⟩
    have HG : Hid (_) := hG
    clear hG HSk
    go_wp2
    go_ret
    exact HG.out
  · have n4 : (c == 46) = false := by rw [beq_eq_false_iff_ne]; exact h46
    have HP : Hid (Calls Tryz.prog 140 #[.pointer (some ⟨R, 0, none⟩), .string outB] w2 fun e w3 => ∃ z : Int, e = .returned (.int .i64 z) ∧ 0 ≤ z ∧ z ≤ 1114111 ∧ GotT W0 w R s i o (leafS s mk i) (.returned (.pointer (some ⟨w3.heap.size + 1, 0, none⟩))) ((w3.alloc (.cells #[.int .i64 z, .int .i64 z] 101)).alloc (.cells #[.int .i64 1, .slice (some ⟨w3.heap.size, 0, none⟩) 1 1, .int .i64 0, .int .i64 0, .slice none 0 0] 48))) := by
      refine (point_x (signs := outerS) L bars_out out92 out_signs hx2).mono ?_
      rintro e w3 ⟨z, j, rfl, z0, z1, hg3, hx3, hh3⟩
      have hga := ((below_allocU w3 (.cells #[.int .i64 z, .int .i64 z] 101)).trans ((below_allocU _ (.cells #[.int .i64 1, .slice (some ⟨w3.heap.size, 0, none⟩) 1 1, .int .i64 0, .int .i64 0, .slice none 0 0] 48)).mono (by simp)))
      have hg23 := Lib.grownBy_trans hg2 hg3
      refine ⟨z, rfl, z0, z1, _, j, rfl, Lib.grownBy_trans hg23 (grownBy_of_below hga _), hx3.kept (grownBy_of_below hga none), ?_⟩
      rcases hh3 with hB | ⟨q1, q2⟩
      · exact .inl (hB.kept (grownBy_of_below hga none))
      · rcases hh2 with ⟨hB, _⟩ | ⟨k1, k2, k3⟩
        · exact (q1.not_br hB).elim
        · refine .inr ⟨k1, setRe [(z, z)], ?_, Tree.imp (set_tree1 w3 z z) fun b _ hb => Nat.le_trans hg23.size hb⟩
          unfold leafS
          rw [if_neg (by omega), q2]
          rfl
    clear hh2 hx2 hg2
    go_wp2_with fail
    go_at_call 140
    refine HP.out.mono ?_
    rintro e w3 ⟨z, rfl, z0, z1, hG⟩
    have HG : Hid (_) := hG
    clear hG HP
    go_wp2
    go_ret
    exact HG.out

end Go.Proofs.YtbjohedenfindaaGreatDoor

namespace Go.Proofs.YtbjohedenfindaaGreatDoor
open Go.RowKit
set_option linter.unusedVariables false
set_option maxRecDepth 100000

/-- inner, by the sign ahead of it -/
def InnC (W0 : World) (R : Nat) (s : ByteArray) (o : Nat) (q : Int → Nat → Option (Re × Nat)) : Prop := ∀ (w : World) (i : Nat) (c : Int), (c = 40 ∨ c = 91 ∨ c = 126) → XR W0 w R s i o → Calls Tryz.prog 139 #[.pointer (some ⟨R, 0, none⟩), .int .i64 c] w fun e w' => GotT W0 w R s i o (q c i) e w'

theorem SR.setO {W0 w : World} {R i o o' : Nat} {s : ByteArray} (h : SR W0 w R s i o) : SR W0 (w.setCell ⟨R, 2, none⟩ (.int .i64 (o' : Int))) R s i o' := by
  obtain ⟨z, hz⟩ := h.at_
  exact h.step (z := z) (Lib.grownBy_setCell w R 2 _) h.inn (hz.set2 _)
theorem BR.setO {W0 w : World} {R : Nat} {s : ByteArray} (h : BR W0 w R s) (y : Int) : BR W0 (w.setCell ⟨R, 2, none⟩ (.int .i64 y)) R s := by
  obtain ⟨i, o, te, pe, z, h1, h2, hz⟩ := h.at_
  exact ⟨h.env.grown (Lib.grownBy_setCell w R 2 _) h.r16, ⟨i, y, te, pe, z, h1, h2, hz.set2 _⟩, h.r16, h.text⟩

set_option maxHeartbeats 4000000 in
theorem runit_full {W0 w : World} (L : LibC W0) {R i : Nat} {s : ByteArray} {r : Option (Re × Nat)} (h : SR W0 w R s i 100) {c : Int} (hce : cpAt s i = c) (hc : c = 40 ∨ c = 91 ∨ c = 126) :
    Calls Tryz.prog 127 #[.pointer (some ⟨R, 0, none⟩)] w fun e w' => GotT W0 w R s i 100 r e w' := by
  have HN : Hid (Calls Tryz.prog 74 #[.pointer (some ⟨R, 0, none⟩)] w fun e w' => e = .returned (.int .i64 c) ∧ ∃ n, w' = w.drewN n) := by
    have := now_in h (by omega)
    rw [hce] at this
    exact this
  have HF : Hid (∀ n, ∃ te pe, ((w.drewN n).setCell ⟨R, 2, none⟩ (.int .i64 (101 : Int))).cell? ⟨1, 0, none⟩ = some (.iface te pe) ∧ ((w.drewN n).setCell ⟨R, 2, none⟩ (.int .i64 (101 : Int))).cell? ⟨R, 1, none⟩ = some (.int .i64 (i : Int)) ∧ (w.drewN n).cell? ⟨R, 2, none⟩ = some (.int .i64 100) ∧ (w.drewN n).frozen? ⟨R, 2, none⟩ = false ∧ Calls Tryz.prog 22 #[.pointer (some ⟨R, 0, none⟩), .iface te pe, .int .i64 i] ((w.drewN n).setCell ⟨R, 2, none⟩ (.int .i64 (101 : Int))).drew fun e w' => e = .returned (.tuple #[]) ∧ (∃ te pe, w'.cell? ⟨R, 3, none⟩ = some (.iface te pe)) ∧ GotT W0 w R s i 100 r (.returned (.pointer none)) w') := by
    intro n
    have h1 := h.kept (grown_drewN w n none)
    have h2 : SR W0 ((w.drewN n).setCell ⟨R, 2, none⟩ (.int .i64 (101 : Int))) R s i 101 := h1.setO (o' := 101)
    obtain ⟨te, pe, cs⟩ := env_bnd L h2.env
    obtain ⟨z, hz⟩ := h1.at_
    refine ⟨te, pe, cs, h2.cell1.1, hz.cells.2.2.1, hz.frozen 2, ?_⟩
    refine (fail_first (h2.kept (grown_drewN _ 1 none)) (by omega) te pe i).mono ?_
    rintro e w' ⟨q1, q2, q3⟩
    refine ⟨q1, q3.cell3, none, 0, rfl, Lib.grownBy_trans (grown_drewN w n (some R)) (Lib.grownBy_trans (Lib.grownBy_setCell _ R 2 _) (Lib.grownBy_trans (grown_drewN _ 1 (some R)) q2)), .inr q3, .inl q3⟩
  clear h hce
  go_enter Tryz.func127, Tryz.ntmps127
  rcases hc with rfl | rfl | rfl
  all_goals
    go_wp2_with fail
    refine HN.out.mono ?_
    rintro e w2 ⟨rfl, n, rfl⟩
    obtain ⟨te, pe, f1, f2, f3, f4, f5⟩ := HF.out n
    have HF5 : Hid (Calls Tryz.prog 22 #[.pointer (some ⟨R, 0, none⟩), .iface te pe, .int .i64 i] ((w.drewN n).setCell ⟨R, 2, none⟩ (.int .i64 (101 : Int))).drew fun e w' => e = .returned (.tuple #[]) ∧ (∃ te pe, w'.cell? ⟨R, 3, none⟩ = some (.iface te pe)) ∧ GotT W0 w R s i 100 r (.returned (.pointer none)) w') := f5
    clear f5
    go_wp2
    go_region_with (go_at_call 22; refine HF5.out.mono ?_; rintro e w4 ⟨rfl, ⟨te4, pe4, g1⟩, g2⟩)
    all_goals
      have HG2 : Hid (GotT W0 w R s i 100 r (.returned (.pointer none)) w4) := g2
      clear g2
      go_wp2
      go_ret
      exact HG2.out

set_option maxHeartbeats 4000000 in
theorem runit_open {W0 w : World} (L : LibC W0) {R i o : Nat} {s : ByteArray} {q : Int → Nat → Option (Re × Nat)} (I : InnC W0 R s (o + 1) q) (h : SR W0 w R s i o) (ho : o < 100) {c : Int} (hce : cpAt s i = c) (hc : c = 40 ∨ c = 91 ∨ c = 126) :
    Calls Tryz.prog 127 #[.pointer (some ⟨R, 0, none⟩)] w fun e w' => GotT W0 w R s i o (q c (i + 1)) e w' := by
  have HN : Hid (Calls Tryz.prog 74 #[.pointer (some ⟨R, 0, none⟩)] w fun e w' => e = .returned (.int .i64 c) ∧ ∃ n, w' = w.drewN n) := by
    have := now_in h (by omega)
    rw [hce] at this
    exact this
  have hsz := cp_eq_size hce (by omega) (by omega)
  have HF : Hid (∀ n, (w.drewN n).cell? ⟨R, 2, none⟩ = some (.int .i64 (o : Int)) ∧ (w.drewN n).frozen? ⟨R, 2, none⟩ = false ∧ (w.drewN n).cell? ⟨R, 3, none⟩ = some .nilIface ∧ Calls Tryz.prog 75 #[.pointer (some ⟨R, 0, none⟩)] ((w.drewN n).setCell ⟨R, 2, none⟩ (.int .i64 ((o : Int) + 1))) fun e w4 => e = .returned (.tuple #[]) ∧ Hid (Calls Tryz.prog 139 #[.pointer (some ⟨R, 0, none⟩), .int .i64 c] w4 fun e w5 => ∃ (p : Option Addr) (x : Int), e = .returned (.pointer p) ∧ w5.cell? ⟨R, 2, none⟩ = some (.int .i64 x) ∧ w5.frozen? ⟨R, 2, none⟩ = false ∧ ((x = (o : Int) + 1 ∧ GotT W0 w R s i o (q c (i + 1)) (.returned (.pointer p)) (w5.setCell ⟨R, 2, none⟩ (.int .i64 (o : Int)))) ∨ ∀ y, GotT W0 w R s i o (q c (i + 1)) (.returned (.pointer p)) (w5.setCell ⟨R, 2, none⟩ (.int .i64 y))))) := by
    intro n
    have h1 := h.kept (grown_drewN w n none)
    have h2 : SR W0 ((w.drewN n).setCell ⟨R, 2, none⟩ (.int .i64 ((o : Int) + 1))) R s i (o + 1) := h1.setO (o' := o + 1)
    obtain ⟨z, hz⟩ := h1.at_
    refine ⟨hz.cells.2.2.1, hz.frozen 2, hz.cells.2.2.2.1, ?_⟩
    refine (skip_in h2 (by omega)).mono ?_
    rintro e w4 ⟨q1, q2, q3⟩
    rw [hsz.2] at q3
    refine ⟨q1, ?_⟩
    have hg4 : w.grownBy w4 (some R) := Lib.grownBy_trans (grown_drewN w n (some R)) (Lib.grownBy_trans (Lib.grownBy_setCell _ R 2 _) q2)
    refine (I w4 (i + 1) c hc (.inl ⟨q3, by omega⟩)).mono ?_
    rintro e w5 ⟨p, j, rfl, hg5, hx5, hh5⟩
    have hg6 : ∀ y : Int, w.grownBy (w5.setCell ⟨R, 2, none⟩ (.int .i64 y)) (some R) := fun y => Lib.grownBy_trans hg4 (Lib.grownBy_trans hg5 (Lib.grownBy_setCell _ R 2 _))
    rcases hx5 with ⟨hS5, _⟩ | hB5
    · obtain ⟨z5, hz5⟩ := hS5.at_
      refine ⟨p, _, rfl, hz5.cells.2.2.1, hz5.frozen 2, .inl ⟨by simp, p, j, rfl, hg6 _, .inl ⟨hS5.setO, by omega⟩, ?_⟩⟩
      rcases hh5 with hB | ⟨_, t, k1, k2⟩
      · exact (hS5.not_br hB).elim
      · refine .inr ⟨h, t, k1, Tree.grown (Tree.imp k2 fun b _ hb => Nat.le_trans hg4.size hb) (Lib.grownBy_setCell w5 R 2 _) fun b hb e => ?_⟩
        have := h.lt
        simp at e
        omega
    · obtain ⟨i5, o5, te, pe, z5, _, _, hz5⟩ := hB5.at_
      exact ⟨p, o5, rfl, hz5.cells.2.2.1, hz5.frozen 2, .inr fun y => ⟨p, 0, rfl, hg6 y, .inr (hB5.setO y), .inl (hB5.setO y)⟩⟩
  clear h hce I hsz
  go_enter Tryz.func127, Tryz.ntmps127
  rcases hc with rfl | rfl | rfl
  all_goals
    go_wp2_with fail
    refine HN.out.mono ?_
    rintro e w2 ⟨rfl, n, rfl⟩
    obtain ⟨f1, f2, f3, f4⟩ := HF.out n
    have HF4 : Hid (Calls Tryz.prog 75 #[.pointer (some ⟨R, 0, none⟩)] ((w.drewN n).setCell ⟨R, 2, none⟩ (.int .i64 ((o : Int) + 1))) _) := f4
    clear f4
    go_wp2_with fail
    go_at_call 75
    refine HF4.out.mono ?_
    rintro e w4 ⟨rfl, HI⟩
    clear HF4
    go_wp2_with fail
    go_at_call 139
    refine HI.out.mono ?_
    rintro e w5 ⟨p, x, rfl, g1, g2, ⟨rfl, g3⟩ | g3⟩
    · have HG3 : Hid (GotT W0 w R s i o _ (.returned (.pointer p)) (w5.setCell ⟨R, 2, none⟩ (.int .i64 (o : Int)))) := g3
      clear g3 HI
      go_wp2
      go_ret
      exact HG3.out
    · have HG3 : Hid (∀ y, GotT W0 w R s i o _ (.returned (.pointer p)) (w5.setCell ⟨R, 2, none⟩ (.int .i64 y))) := g3
      clear g3 HI
      go_wp2
      go_ret
      exact HG3.out _

end Go.Proofs.YtbjohedenfindaaGreatDoor

namespace Go.Proofs.YtbjohedenfindaaGreatDoor
open Go.RowKit
set_option linter.unusedVariables false
set_option maxRecDepth 100000

def parS (s : ByteArray) (r : Option (Re × Nat)) : Option (Re × Nat) := match r with
  | none => none
  | some (p, j) => if cpAt s j = 41 then some (p, j + 1) else none

theorem not_tree {B : Nat} {w : World} {p : Value} {t : Re} (hB : B ≤ w.heap.size) (hp : RT' B w p t) : RT' B ((w.alloc (.cells #[p] 22)).alloc (.cells #[.int .i64 5, .slice none 0 0, .int .i64 0, .int .i64 0, .slice (some ⟨w.heap.size, 0, none⟩) 1 1] 48)) (.pointer (some ⟨w.heap.size + 1, 0, none⟩)) (notRe t) := by
  have hga := ((below_allocU w (.cells #[p] 22)).trans ((below_allocU _ (.cells #[.int .i64 5, .slice none 0 0, .int .i64 0, .int .i64 0, .slice (some ⟨w.heap.size, 0, none⟩) 1 1] 48)).mono (by simp)))
  have h1 : ((w.alloc (.cells #[p] 22)).alloc (.cells #[.int .i64 5, .slice none 0 0, .int .i64 0, .int .i64 0, .slice (some ⟨w.heap.size, 0, none⟩) 1 1] 48)).heap[w.heap.size]? = some (.cells #[p] 22 (0, 0)) := by
    rw [Below.heap_alloc _ _ _ (by simp)]
    exact heap_alloc_new w _
  have h2 := heap_alloc_new (w.alloc (.cells #[p] 22)) (.cells #[.int .i64 5, .slice none 0 0, .int .i64 0, .int .i64 0, .slice (some ⟨w.heap.size, 0, none⟩) 1 1] 48)
  rw [show (w.alloc _).heap.size = w.heap.size + 1 from by simp] at h2
  obtain ⟨n, hn⟩ := Tree.moved hp hga.size fun b hb hok => ⟨hok, hga.block b hb⟩
  refine ⟨n + 1, w.heap.size + 1, _, _, rfl, by omega, h2, .inl ⟨rfl, none, 0, rfl⟩, .inr ⟨w.heap.size, 0, 1, rfl, by simp; omega, hB, fun j hj => ?_⟩⟩
  have hj0 : j = 0 := by simp [notRe] at hj; omega
  subst hj0
  exact ⟨p, by simp [World.cell?, h1], by simpa [notRe] using hn⟩

set_option maxHeartbeats 2000000 in
theorem rinner_not {W0 w : World} {R i o : Nat} {s : ByteArray} {u : Nat → Option (Re × Nat)} (U : RUnitC W0 R s o u) (h : XR W0 w R s i o) :
    Calls Tryz.prog 139 #[.pointer (some ⟨R, 0, none⟩), .int .i64 126] w fun e w' => GotT W0 w R s i o ((u i).map fun x => (notRe x.1, x.2)) e w' := by
  have HU : Hid (Calls Tryz.prog 127 #[.pointer (some ⟨R, 0, none⟩)] w fun e w1 => ∃ p, e = .returned (.pointer p) ∧ GotT W0 w R s i o ((u i).map fun x => (notRe x.1, x.2)) (.returned (.pointer (some ⟨w1.heap.size + 1, 0, none⟩))) ((w1.alloc (.cells #[.pointer p] 22)).alloc (.cells #[.int .i64 5, .slice none 0 0, .int .i64 0, .int .i64 0, .slice (some ⟨w1.heap.size, 0, none⟩) 1 1] 48))) := by
    refine (U w i h).mono ?_
    rintro e w1 ⟨p, j, rfl, hg, hx, hh⟩
    have hga := ((below_allocU w1 (.cells #[.pointer p] 22)).trans ((below_allocU _ (.cells #[.int .i64 5, .slice none 0 0, .int .i64 0, .int .i64 0, .slice (some ⟨w1.heap.size, 0, none⟩) 1 1] 48)).mono (by simp)))
    refine ⟨p, rfl, _, j, rfl, Lib.grownBy_trans hg (grownBy_of_below hga _), hx.kept (grownBy_of_below hga none), ?_⟩
    rcases hh with hB | ⟨h1, t, h2, h3⟩
    · exact .inl (hB.kept (grownBy_of_below hga none))
    · exact .inr ⟨h1, notRe t, by rw [h2]; rfl, not_tree hg.size h3⟩
  clear U h
  go_enter Tryz.func139, Tryz.ntmps139
  go_wp2_with fail
  go_at_call 127
  refine HU.out.mono ?_
  rintro e w1 ⟨p, rfl, hG⟩
  have HG : Hid (_) := hG
  clear hG HU
  go_wp2
  go_ret
  exact HG.out

set_option maxHeartbeats 2000000 in
theorem rinner_par {W0 w : World} (L : LibC W0) {R i o : Nat} {s : ByteArray} {r : Nat → Option (Re × Nat)} (U : RdC W0 R s o 21 r) (h : XR W0 w R s i o) :
    Calls Tryz.prog 139 #[.pointer (some ⟨R, 0, none⟩), .int .i64 40] w fun e w' => GotT W0 w R s i o (parS s (r i)) e w' := by
  have hRB := h.lt
  have HU : Hid (Calls Tryz.prog 21 #[.pointer (some ⟨R, 0, none⟩)] w fun e w1 => ∃ p, e = .returned (.pointer p) ∧ Hid (Calls Tryz.prog 142 #[.pointer (some ⟨R, 0, none⟩), .int .i64 41] w1 fun e w2 => e = .returned (.tuple #[]) ∧ GotT W0 w R s i o (parS s (r i)) (.returned (.pointer p)) w2)) := by
    refine (U w i h).mono ?_
    rintro e w1 ⟨p, j, rfl, hg, hx, hh⟩
    refine ⟨p, rfl, ?_⟩
    have ho : BR W0 w1 R s ∨ o ≤ 1000 := hx.elim (fun h => .inr h.2) .inl
    refine (need_x L hx 41 (by omega) (by omega)).mono ?_
    rintro e w2 ⟨h1, hg2, hh2⟩
    have hg12 := Lib.grownBy_trans hg hg2
    rcases hh2 with hB | ⟨k1, k2, k3⟩
    · exact ⟨h1, p, 0, rfl, hg12, .inr hB, .inl hB⟩
    · have ho2 : o ≤ 1000 := ho.elim (fun hB => (k1.not_br hB).elim) id
      refine ⟨h1, p, j + 1, rfl, hg12, .inl ⟨k3, ho2⟩, ?_⟩
      rcases hh with hB | ⟨q1, t, q2, q3⟩
      · exact (k1.not_br hB).elim
      · refine .inr ⟨q1, t, ?_, tree_grown q3 hRB hg2⟩
        rw [q2]
        show (if cpAt s j = 41 then some (t, j + 1) else none) = _
        rw [if_pos k2]
  clear U h
  go_enter Tryz.func139, Tryz.ntmps139
  go_wp2_with fail
  go_at_call 21
  refine HU.out.mono ?_
  rintro e w1 ⟨p, rfl, HNd⟩
  clear HU
  go_wp2_with fail
  go_at_call 142
  refine HNd.out.mono ?_
  rintro e w2 ⟨rfl, hG⟩
  have HG : Hid (_) := hG
  clear hG HNd
  go_wp2
  go_ret
  exact HG.out

end Go.Proofs.YtbjohedenfindaaGreatDoor

namespace Go.Proofs.YtbjohedenfindaaGreatDoor
open Go.RowKit
set_option linter.unusedVariables false
set_option maxRecDepth 100000

/-- brackets, as they are read -/
def BrC (W0 : World) (R : Nat) (s : ByteArray) (mk : List Rg → Bool → List Rg) : Prop := ∀ (o : Nat) (w : World) (i : Nat), XR W0 w R s i o → Calls Tryz.prog 139 #[.pointer (some ⟨R, 0, none⟩), .int .i64 91] w fun e w' => GotT W0 w R s i o (brackS s mk i) e w'
/-- what stands behind an opening sign -/
def innS (s : ByteArray) (mk : List Rg → Bool → List Rg) (n : Nat) (c : Int) (i : Nat) : Option (Re × Nat) :=
  if c = 126 then (unitS s mk n i).map fun x => (notRe x.1, x.2) else if c = 40 then parS s (patS s (fun j => unitS s mk n j) i) else brackS s mk i
theorem unitS_open {s : ByteArray} {mk : List Rg → Bool → List Rg} {n i : Nat} {c : Int} (hc : cpAt s i = c) (h : c = 40 ∨ c = 91 ∨ c = 126) : unitS s mk (n + 1) i = innS s mk n c (i + 1) := by
  subst hc
  unfold innS
  rw [unitS]
  rcases h with h | h | h
  · rw [if_neg (by omega), if_pos h, if_neg (by omega), if_pos h]
    rfl
  · rw [if_neg (by omega), if_neg (by omega), if_pos h, if_neg (by omega), if_neg (by omega)]
  · rw [if_pos h, if_pos h]
theorem unitS_leaf {s : ByteArray} {mk : List Rg → Bool → List Rg} {n i : Nat} (h1 : cpAt s i ≠ 40) (h2 : cpAt s i ≠ 91) (h3 : cpAt s i ≠ 126) : unitS s mk n i = leafS s mk i := by
  cases n with
  | zero => rfl
  | succ n => rw [unitS, if_neg h3, if_neg h1, if_neg h2]

theorem part_goes {s : ByteArray} {u : Nat → Option (Re × Nat)} (hu : Goes s u) : Goes s fun i => (u i).bind fun x => partS s (s.size + 1) x.1 x.2 := fun i t j hi hx => by
  cases hui : u i with
  | none => simp [hui] at hx
  | some x =>
    obtain ⟨q, m⟩ := x
    simp [hui] at hx
    have h1 := hu i q m hi hui
    have h2 := partS_some _ (by omega) hx
    omega
theorem runit_all {W0 : World} (L : LibC W0) {R : Nat} {s : ByteArray} {mk : List Rg → Bool → List Rg} (hmk : mk [(10, 10)] true = [(0, 9), (11, 1114111)]) (HBr : BrC W0 R s mk) :
    ∀ n o, n + o = 100 → RUnitC W0 R s o (unitS s mk n) := by
  intro n
  induction n with
  | zero =>
    intro o ho w i h
    obtain rfl : o = 100 := by omega
    by_cases hc : cpAt s i = 40 ∨ cpAt s i = 91 ∨ cpAt s i = 126
    · rcases h with ⟨h, _⟩ | h
      · exact runit_full L h rfl hc
      · exact runit_leaf (i := i) (o := 100) L hmk (.inr h) (.inl h)
    · refine (runit_leaf L hmk h (.inr ⟨fun e => hc (.inl e), fun e => hc (.inr (.inl e)), fun e => hc (.inr (.inr e))⟩)).mono ?_
      exact fun e w' h => h
  | succ n ih =>
    intro o ho w i h
    have hU := ih (o + 1) (by omega)
    by_cases hc : cpAt s i = 40 ∨ cpAt s i = 91 ∨ cpAt s i = 126
    · rw [unitS_open rfl hc]
      rcases h with ⟨h, _⟩ | h
      · refine runit_open L (q := innS s mk n) (fun w i c hc h => ?_) h (by omega) rfl hc
        rcases hc with rfl | rfl | rfl
        · exact rinner_par L (rpat_any L hU (unitS_goes n) (part_goes (unitS_goes n))) h
        · exact HBr (o + 1) w i h
        · exact rinner_not hU h
      · refine (runit_leaf (mk := mk) (i := i) (o := o) L hmk (.inr h) (.inl h)).mono ?_
        rintro e w' ⟨p, j, h1, h2, h3, h4⟩
        refine ⟨p, j, h1, h2, h3, ?_⟩
        rcases h4 with h4 | ⟨h5, _⟩
        · exact .inl h4
        · exact (h5.not_br h).elim
    · have hl := unitS_leaf (s := s) (mk := mk) (n := n + 1) (i := i) (fun e => hc (.inl e)) (fun e => hc (.inr (.inl e))) (fun e => hc (.inr (.inr e)))
      rw [hl]
      exact runit_leaf L hmk h (.inr ⟨fun e => hc (.inl e), fun e => hc (.inr (.inl e)), fun e => hc (.inr (.inr e))⟩)

end Go.Proofs.YtbjohedenfindaaGreatDoor

namespace Go.Proofs.YtbjohedenfindaaGreatDoor
open Go.RowKit
set_option linter.unusedVariables false
set_option maxRecDepth 100000

/-- the document's sets -/
structure SetD (mk : List Rg → Bool → List Rg) : Prop where
  canon : ∀ (v : Value) (l : List Rg) (w : World), l.length ≤ 2002 → Rngs w v l → Calls Tryz.prog 51 #[v] w fun e w' => ∃ u, e = .returned u ∧ RowR (fun b => w.heap.size ≤ b) w' u (mk l false) ∧ Below w.heap.size w w'
  all : ∀ (w : World), Calls Tryz.prog 157 #[] w fun e w' => ∃ u, e = .returned u ∧ Rngs w' u [(0, 1114111)] ∧ Below w.heap.size w w'
  both : ∀ (v1 v : Value) (l : List Rg) (w : World), l.length ≤ 2002 → Rngs w v1 [(0, 1114111)] → Rngs w v l → Calls Tryz.prog 82 #[v1, v, .int .i64 3] w fun e w' => ∃ u, e = .returned u ∧ RowR (fun b => w.heap.size ≤ b) w' u (mk l true) ∧ Below w.heap.size w w'

/-- what is to be read of items from here on -/
def ItZ (s : ByteArray) (res : Option (List Rg × Nat)) (acc : List Rg) (j : Nat) : Prop := ∃ f, res = itemsS s f acc j ∧ s.size + 1 ≤ f + j
theorem ItZ.stop {s : ByteArray} {res : Option (List Rg × Nat)} {acc : List Rg} {j : Nat} (h : ItZ s res acc j) (hj : j ≤ s.size) (he : cpAt s j = 93) : res = some (acc, j + 1) := by
  obtain ⟨f, h1, h2⟩ := h
  obtain ⟨f', rfl⟩ : ∃ f', f = f' + 1 := ⟨f - 1, by omega⟩
  rw [h1, itemsS, if_pos he]
theorem ItZ.next {s : ByteArray} {res : Option (List Rg × Nat)} {acc : List Rg} {j k : Nat} {r : Rg} (h : ItZ s res acc j) (hj : j ≤ s.size) (he : cpAt s j ≠ 93) (hr : itemS s j = some (r, k)) (hk : j < k) : ItZ s res (acc ++ [r]) k := by
  obtain ⟨f, h1, h2⟩ := h
  obtain ⟨f', rfl⟩ : ∃ f', f = f' + 1 := ⟨f - 1, by omega⟩
  refine ⟨f', ?_, by omega⟩
  rw [h1, itemsS, if_neg he, hr]

/-- items that are being read -/
structure BI (W0 w0 w : World) (R : Nat) (s : ByteArray) (i o : Nat) (res : Option (List Rg × Nat)) (v : Value) (acc : List Rg) (j : Nat) : Prop where
  x : XR W0 w R s j o
  g : w0.grownBy w (some R)
  own : OwnR w w0.heap.size v acc
  hist : BR W0 w R s ∨ (SR W0 w0 R s i o ∧ ItZ s res acc j)
theorem BI.keep {W0 w0 w w' : World} {R i o j : Nat} {s : ByteArray} {res : Option (List Rg × Nat)} {v : Value} {acc : List Rg} (h : BI W0 w0 w R s i o res v acc j) (hR : R < w0.heap.size) (hg : w.grownBy w' (some R)) (hx : XR W0 w' R s j o) (hS : BR W0 w' R s ∨ SR W0 w R s j o) : BI W0 w0 w' R s i o res v acc j :=
  ⟨hx, Lib.grownBy_trans h.g hg, h.own.grown hR hg, hS.elim .inl fun hS => h.hist.elim (fun hB => (hS.not_br hB).elim) .inr⟩
theorem itemS_one {s : ByteArray} {j k : Nat} {lo : Int} (h : pointS s innerS j = some (lo, k)) (h45 : cpAt s k ≠ 45) : itemS s j = some ((lo, lo), k) := by
  unfold itemS; rw [h]; simp only; rw [if_neg h45]
theorem itemS_two {s : ByteArray} {j k m : Nat} {lo hi : Int} (h : pointS s innerS j = some (lo, k)) (h45 : cpAt s k = 45) (h2 : pointS s innerS (k + 1) = some (hi, m)) (hle : ¬ hi < lo) : itemS s j = some ((lo, hi), m) := by
  unfold itemS; rw [h]; simp only; rw [if_pos h45, h2]; simp only; rw [if_neg hle]
/-- one item more -/
theorem BI.snoc {W0 w0 w2 w3 w5 : World} {R i o j k : Nat} {s : ByteArray} {res : Option (List Rg × Nat)} {v v' : Value} {acc : List Rg} {r : Rg} {ob : Obj} (h : BI W0 w0 w2 R s i o res v acc j) (hR : R < w0.heap.size) (hg3 : w2.grownBy w3 (some R)) (hx3 : XR W0 w3 R s k o) (hh3 : BR W0 w3 R s ∨ (SR W0 w2 R s j o ∧ cpAt s j ≠ 93 ∧ itemS s j = some (r, k)))
    (hown : OwnR w5 w0.heap.size v' (acc ++ [r])) (hg : (w3.alloc ob).grownBy w5 v.ownBlock) : BI W0 w0 w5 R s i o res v' (acc ++ [r]) k ∧ (BR W0 w5 R s ∨ j < k) := by
  have hlt : ∀ q, v.ownBlock = some q → w0.heap.size ≤ q ∧ q < w2.heap.size := fun q hq => World.ownsRow.lt h.own q hq
  have h16 := hx3.r16
  have hb5 : ∀ b, b < w3.heap.size → v.ownBlock ≠ some b → w5.heap[b]? = w3.heap[b]? := fun b hb hn => (hg.block b (by simp; omega) (fun e => hn e.symm)).trans (Below.heap_alloc w3 ob b hb)
  have hsz5 : w3.heap.size ≤ w5.heap.size := Nat.le_trans (by simp) hg.size
  have hRlt := hx3.lt
  have hkeep : ∀ b, b = R ∨ b < 16 → w5.heap[b]? = w3.heap[b]? := fun b hb => hb5 b (by omega) (fun e => by have := hlt b e; omega)
  have hx5 := hx3.other hsz5 hkeep
  have hg35 := Lib.grownBy_trans h.g hg3
  have hbr : BR W0 w3 R s → BR W0 w5 R s := fun hB => by
    obtain ⟨i1, o1, te, pe, z, h1, h2, hz⟩ := hB.at_
    exact ⟨⟨Nat.le_trans hB.env.1 hsz5, fun k hk => (hkeep k (.inr hk)).trans (hB.env.2 k hk)⟩, ⟨i1, o1, te, pe, z, h1, h2, (hkeep R (.inl rfl)).trans hz⟩, hB.r16, hB.text⟩
  refine ⟨⟨hx5, grownBy_own (Lib.grownBy_allocR hg35 ob) hg (fun q hq => (hlt q hq).1), hown, ?_⟩, ?_⟩
  · rcases hh3 with hB | ⟨hS, h93, hr⟩
    · exact .inl (hbr hB)
    · rcases h.hist with hB | ⟨h1, hZ⟩
      · exact (hS.not_br hB).elim
      · exact .inr ⟨h1, hZ.next hS.inn h93 hr (itemS_some hS.inn hr).1⟩
  · rcases hh3 with hB | ⟨hS, h93, hr⟩
    · exact .inl (hbr hB)
    · exact .inr (itemS_some hS.inn hr).1
theorem set_node {B : Nat} {w : World} {u : Value} {l : List Rg} (hB : B ≤ w.heap.size) (h : RowR (fun b => B ≤ b) w u l) : RT' B (w.alloc (.cells #[.int .i64 1, u, .int .i64 0, .int .i64 0, .slice none 0 0] 48)) (.pointer (some ⟨w.heap.size, 0, none⟩)) (setRe l) := by
  have hga := below_allocU w (.cells #[.int .i64 1, u, .int .i64 0, .int .i64 0, .slice none 0 0] 48)
  exact ⟨1, w.heap.size, _, _, rfl, hB, heap_alloc_new w _, h.moved hga.size fun b hb hok => ⟨hok, hga.block b hb⟩, .inl ⟨rfl, none, 0, rfl⟩⟩

end Go.Proofs.YtbjohedenfindaaGreatDoor

namespace Go.Proofs.YtbjohedenfindaaGreatDoor
open Go.RowKit
set_option linter.unusedVariables false
set_option maxRecDepth 100000

theorem RowR.slice {ok : Nat → Prop} {w : World} {v : Value} {l : List Rg} (h : RowR ok w v l) : ∃ a n c, v = .slice a n c := by
  rcases h with ⟨rfl, a, c, rfl⟩ | ⟨b, off, c, rfl, _⟩ <;> exact ⟨_, _, _, rfl⟩
theorem Rngs.slice' {w : World} {v : Value} {l : List Rg} (h : Rngs w v l) : ∃ a n c, v = .slice a n c := by
  rcases h with ⟨rfl, a, c, rfl⟩ | ⟨b, off, c, rfl, _⟩ <;> exact ⟨_, _, _, rfl⟩
/-- the end of it: a set is made -/
def BrEnd (W0 w : World) (R : Nat) (s : ByteArray) (i o : Nat) (mk : List Rg → Bool → List Rg) (w1 : World) (u : Value) : Prop := GotT W0 w R s i o (brackS s mk i) (.returned (.pointer (some ⟨w1.heap.size, 0, none⟩))) (w1.alloc (.cells #[.int .i64 1, u, .int .i64 0, .int .i64 0, .slice none 0 0] 48))
theorem br_end {W0 w wt w1 : World} {R i o jf : Nat} {s : ByteArray} {mk : List Rg → Bool → List Rg} {u : Value} {acc : List Rg} {nt : Bool} {res : Option (List Rg × Nat)} (hx : XR W0 wt R s jf o) (hg : w.grownBy wt (some R)) (hh : BR W0 wt R s ∨ (SR W0 w R s i o ∧ res = some (acc, jf))) (hE : SR W0 w R s i o → brackS s mk i = res.map fun x => (setRe (mk x.1 nt), x.2)) (hb : Below wt.heap.size wt w1) (hu : RowR (fun b => wt.heap.size ≤ b) w1 u (mk acc nt)) : BrEnd W0 w R s i o mk w1 u := by
  have hga := below_allocU w1 (.cells #[.int .i64 1, u, .int .i64 0, .int .i64 0, .slice none 0 0] 48)
  have hbb := hb.trans (hga.mono hb.size)
  refine ⟨_, jf, rfl, Lib.grownBy_trans hg (grownBy_of_below hbb _), hx.kept (grownBy_of_below hbb none), ?_⟩
  rcases hh with hB | ⟨h1, h2⟩
  · exact .inl (hB.kept (grownBy_of_below hbb none))
  · refine .inr ⟨h1, _, by rw [hE h1, h2]; rfl, set_node (Nat.le_trans hg.size hb.size) (hu.moved (Nat.le_refl _) fun b _ hok => ⟨Nat.le_trans hg.size hok, rfl⟩)⟩
/-- .. by which calls -/
def TailC (W0 w wt : World) (R : Nat) (s : ByteArray) (i o : Nat) (mk : List Rg → Bool → List Rg) (nt : Bool) (v : Value) : Prop :=
  Calls Tryz.prog 51 #[v] wt fun e w1 => ∃ ua un uc, e = .returned (.slice ua un uc) ∧ (nt = false → Hid (BrEnd W0 w R s i o mk w1 (.slice ua un uc))) ∧ (nt = true → Hid (Calls Tryz.prog 157 #[] w1 fun e w2 => ∃ va vn vc, e = .returned (.slice va vn vc) ∧ Hid (Calls Tryz.prog 82 #[.slice va vn vc, v, .int .i64 3] w2 fun e w3 => ∃ xa xn xc, e = .returned (.slice xa xn xc) ∧ Hid (BrEnd W0 w R s i o mk w3 (.slice xa xn xc)))))
theorem tail_any {W0 w wt : World} {R i o jf : Nat} {s : ByteArray} {mk : List Rg → Bool → List Rg} (D : SetD mk) {v : Value} {acc : List Rg} {nt : Bool} {res : Option (List Rg × Nat)} (hl : acc.length ≤ 2002) (hx : XR W0 wt R s jf o) (hg : w.grownBy wt (some R)) (hown : OwnR wt w.heap.size v acc) (hh : BR W0 wt R s ∨ (SR W0 w R s i o ∧ res = some (acc, jf))) (hE : SR W0 w R s i o → brackS s mk i = res.map fun x => (setRe (mk x.1 nt), x.2)) : TailC W0 w wt R s i o mk nt v := by
  refine (D.canon v acc wt hl hown.rngs).mono ?_
  rintro e w1 ⟨u, rfl, hu, hb⟩
  obtain ⟨ua, un, uc, rfl⟩ := hu.slice
  refine ⟨ua, un, uc, rfl, fun hn => ?_, fun hn => ?_⟩
  · subst hn
    exact br_end hx hg hh hE hb hu
  · subst hn
    show Calls _ _ _ _ _
    refine (D.all w1).mono ?_
    rintro e w2 ⟨u2, rfl, hu2, hb2⟩
    obtain ⟨va, vn, vc, rfl⟩ := hu2.slice'
    refine ⟨va, vn, vc, rfl, ?_⟩
    show Calls _ _ _ _ _
    have hbb := hb.trans (hb2.mono hb.size)
    have hown2 : OwnR w2 w.heap.size v acc := World.ownsRow.kept hown (row := none) (grownBy_of_below hbb none) (by cases hq : v.ownBlock <;> simp)
    refine (D.both _ v acc w2 hl hu2 hown2.rngs).mono ?_
    rintro e w3 ⟨u3, rfl, hu3, hb3⟩
    obtain ⟨xa, xn, xc, rfl⟩ := hu3.slice
    refine ⟨xa, xn, xc, rfl, br_end hx hg hh hE (hbb.trans (hb3.mono hbb.size)) (hu3.moved (Nat.le_refl _) fun b _ hok => ⟨Nat.le_trans hbb.size hok, rfl⟩)⟩

end Go.Proofs.YtbjohedenfindaaGreatDoor
