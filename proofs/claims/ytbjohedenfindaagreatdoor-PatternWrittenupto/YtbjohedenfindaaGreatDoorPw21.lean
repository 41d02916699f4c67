/- Texts of the proof, put together: RUni, RUniB, RInn. -/
import Derived.Test.YtbjohedenfindaaGreatDoorPw20
namespace Go.Proofs.YtbjohedenfindaaGreatDoor
open Go.RowKit
set_option linter.unusedVariables false
set_option maxRecDepth 100000

theorem below_allocU (w : World) (o : Obj) : Below w.heap.size w (w.alloc o) := Below.alloc (Below.refl _ _) (Nat.le_refl _) _
theorem point_x {W0 w : World} (L : LibR W0) {R i o : Nat} {s S : ByteArray} {bar signs : Int → Bool} (B : Bars S bar) (hb : bar 92 = false) (hsg : ∀ c, c ≠ 92 → signs c = bar c) (h : XR W0 w R s i o) :
    Calls Tryz.prog 140 #[.pointer (some ⟨R, 0, none⟩), .string S] w fun e w' => ∃ (z : Int) (j : Nat), e = .returned (.int .i64 z) ∧ 0 ≤ z ∧ z ≤ 1114111 ∧ w.grownBy w' (some R) ∧ XR W0 w' R s j o ∧ (BR W0 w' R s ∨ (SR W0 w R s i o ∧ pointS s signs i = some (z, j))) ∧ (SR W0 w R s i o → BR W0 w' R s → pointS s signs i = none) := by
  rcases h with ⟨h, ho⟩ | h
  · refine (rpoint_any (signs := signs) L B bars_esc (digC_any L s) h ho hb hsg).mono ?_
    rintro e w' ⟨z, rfl, z0, z1, hg, (hB | ⟨j, h1, h2⟩), hn⟩
    · exact ⟨z, 0, rfl, z0, z1, hg, .inr hB, .inl hB, fun _ => hn⟩
    · exact ⟨z, j, rfl, z0, z1, hg, .inl ⟨h2, ho⟩, .inr ⟨h, h1⟩, fun _ => hn⟩
  · refine (rpoint_bad L B h).mono ?_
    rintro e w' ⟨rfl, hg, hB⟩
    exact ⟨0, 0, rfl, by omega, by omega, hg, .inr hB, .inl hB, fun hS => (sr_not_br hS h).elim⟩
theorem point_broken {s : ByteArray} {signs : Int → Bool} {i : Nat} (h : cpAt s i = -2) : pointS s signs i = none := by
  unfold pointS
  rw [if_neg (by omega), if_pos (.inl (by omega))]
theorem leaf_broken {s : ByteArray} {mk : List Rg → Bool → List Rg} {i : Nat} (h : cpAt s i = -2) : leafS s mk i = none := by
  unfold leafS
  rw [if_neg (by omega), point_broken h]
  rfl
theorem out92 : outBar 92 = false := by rw [outBar_eq]; decide
theorem in92 : inBar 92 = false := by rw [inBar_eq]; decide

/-- a set of one range -/
theorem set_tree1 (w : World) (a b : Int) : RT' w.heap.size ((w.alloc (.cells #[.int .i64 a, .int .i64 b] 101)).alloc (.cells #[.int .i64 1, .slice (some ⟨w.heap.size, 0, none⟩) 1 1, .int .i64 0, .int .i64 0, .slice none 0 0] 48)) (.pointer (some ⟨w.heap.size + 1, 0, none⟩)) (setRe [(a, b)]) := by
  have h1 : ((w.alloc (.cells #[.int .i64 a, .int .i64 b] 101)).alloc (.cells #[.int .i64 1, .slice (some ⟨w.heap.size, 0, none⟩) 1 1, .int .i64 0, .int .i64 0, .slice none 0 0] 48)).heap[w.heap.size]? = some (.cells #[.int .i64 a, .int .i64 b] 101 (0, 0)) := by
    rw [Below.heap_alloc _ _ _ (by simp)]
    exact heap_alloc_new w _
  have h2 := heap_alloc_new (w.alloc (.cells #[.int .i64 a, .int .i64 b] 101)) (.cells #[.int .i64 1, .slice (some ⟨w.heap.size, 0, none⟩) 1 1, .int .i64 0, .int .i64 0, .slice none 0 0] 48)
  rw [show (w.alloc _).heap.size = w.heap.size + 1 from by simp] at h2
  have h3 := h2
  refine ⟨1, w.heap.size + 1, _, _, rfl, Nat.le_succ _, h3, .inr ⟨w.heap.size, 0, 1, rfl, by simp; omega, Nat.le_refl _, fun j hj => ?_⟩, .inl ⟨rfl, none, 0, rfl⟩⟩
  have : j = 0 := by simp [setRe] at hj; exact hj
  subst this
  constructor <;> simp [World.cell?, h1, setRe]
theorem set_tree2 (w : World) (a b c d : Int) : RT' w.heap.size ((w.alloc (.cells #[.int .i64 a, .int .i64 b, .int .i64 c, .int .i64 d] 101)).alloc (.cells #[.int .i64 1, .slice (some ⟨w.heap.size, 0, none⟩) 2 2, .int .i64 0, .int .i64 0, .slice none 0 0] 48)) (.pointer (some ⟨w.heap.size + 1, 0, none⟩)) (setRe [(a, b), (c, d)]) := by
  have h1 : ((w.alloc (.cells #[.int .i64 a, .int .i64 b, .int .i64 c, .int .i64 d] 101)).alloc (.cells #[.int .i64 1, .slice (some ⟨w.heap.size, 0, none⟩) 2 2, .int .i64 0, .int .i64 0, .slice none 0 0] 48)).heap[w.heap.size]? = some (.cells #[.int .i64 a, .int .i64 b, .int .i64 c, .int .i64 d] 101 (0, 0)) := by
    rw [Below.heap_alloc _ _ _ (by simp)]
    exact heap_alloc_new w _
  have h2 := heap_alloc_new (w.alloc (.cells #[.int .i64 a, .int .i64 b, .int .i64 c, .int .i64 d] 101)) (.cells #[.int .i64 1, .slice (some ⟨w.heap.size, 0, none⟩) 2 2, .int .i64 0, .int .i64 0, .slice none 0 0] 48)
  rw [show (w.alloc _).heap.size = w.heap.size + 1 from by simp] at h2
  have h3 := h2
  refine ⟨1, w.heap.size + 1, _, _, rfl, Nat.le_succ _, h3, .inr ⟨w.heap.size, 0, 2, rfl, by simp; omega, Nat.le_refl _, fun j hj => ?_⟩, .inl ⟨rfl, none, 0, rfl⟩⟩
  have : j = 0 ∨ j = 1 := by simp [setRe] at hj; omega
  rcases this with rfl | rfl
  · constructor <;> simp [World.cell?, h1, setRe]
  · constructor <;> simp [World.cell?, h1, setRe]

set_option maxHeartbeats 4000000 in
theorem runit_leaf {W0 w : World} (L : LibR W0) {R i o : Nat} {s : ByteArray} {mk : List Rg → Bool → List Rg} (hmk : mk [(10, 10)] true = [(0, 9), (11, 1114111)]) (h : XR W0 w R s i o) (hc : BR W0 w R s ∨ (cpAt s i ≠ 40 ∧ cpAt s i ≠ 91 ∧ cpAt s i ≠ 126)) :
    Calls Tryz.prog 127 #[.pointer (some ⟨R, 0, none⟩)] w fun e w' => GotT W0 w R s i o (leafS s mk i) e w' := by
  have hRB := h.lt
  have HN : Hid (Calls Tryz.prog 74 #[.pointer (some ⟨R, 0, none⟩)] w fun e w' => ∃ c : Int, e = .returned (.int .i64 c) ∧ -1 ≤ c ∧ c ≤ 1114111 ∧ w.grownBy w' (some R) ∧ XR W0 w' R s i o ∧ ((BR W0 w' R s ∧ c = -1) ∨ (SR W0 w R s i o ∧ c = cpAt s i ∧ SR W0 w' R s i o)) ∧ (SR W0 w R s i o → BR W0 w' R s → cpAt s i = -2)) := now_x L h
  have HC : Hid (BR W0 w R s ∨ (cpAt s i ≠ 40 ∧ cpAt s i ≠ 91 ∧ cpAt s i ≠ 126)) := hc
  clear h hc
  go_enter Tryz.func127, Tryz.ntmps127
  go_wp2_with fail
  refine HN.out.mono ?_
  rintro e w2 ⟨c, rfl, c0, c1, hg2, hx2, hh2, hh2n⟩
  have hcn : c ≠ 40 ∧ c ≠ 91 ∧ c ≠ 126 := by
    rcases hh2 with ⟨_, e⟩ | ⟨k1, k2, k3⟩
    · omega
    · rcases HC.out with hB | hq
      · exact (k1.not_br hB).elim
      · rw [k2]; exact hq
  have n1 : (c == 40) = false := by rw [beq_eq_false_iff_ne]; exact hcn.1
  have n2 : (c == 91) = false := by rw [beq_eq_false_iff_ne]; exact hcn.2.1
  have n3 : (c == 126) = false := by rw [beq_eq_false_iff_ne]; exact hcn.2.2
  have hsz2 := hg2.size
  clear HN HC hcn
  by_cases h46 : c = 46
  · subst h46
    obtain ⟨k1, k2, k3⟩ : SR W0 w R s i o ∧ (46 : Int) = cpAt s i ∧ SR W0 w2 R s i o := by
      rcases hh2 with ⟨_, e⟩ | h
      · omega
      · exact h
    have ho : o ≤ 1000 := by
      rcases hx2 with h | h
      · exact h.2
      · exact (k3.not_br h).elim
    have hce := cp_eq_size k2.symm (by omega) (by omega)
    have HSk : Hid (Calls Tryz.prog 75 #[.pointer (some ⟨R, 0, none⟩)] w2 fun e w3 => e = .returned (.tuple #[]) ∧ GotT W0 w R s i o (leafS s mk i) (.returned (.pointer (some ⟨w3.heap.size + 1, 0, none⟩))) ((w3.alloc (.cells #[.int .i64 0, .int .i64 9, .int .i64 11, .int .i64 1114111] 101)).alloc (.cells #[.int .i64 1, .slice (some ⟨w3.heap.size, 0, none⟩) 2 2, .int .i64 0, .int .i64 0, .slice none 0 0] 48))) := by
      refine (skip_in k3 (by omega)).mono ?_
      rintro e w3 ⟨h1, hg3, hS3⟩
      rw [hce.2] at hS3
      have hga := ((below_allocU w3 (.cells #[.int .i64 0, .int .i64 9, .int .i64 11, .int .i64 1114111] 101)).trans ((below_allocU _ (.cells #[.int .i64 1, .slice (some ⟨w3.heap.size, 0, none⟩) 2 2, .int .i64 0, .int .i64 0, .slice none 0 0] 48)).mono (by simp)))
      have hg23 := Lib.grownBy_trans hg2 hg3
      refine ⟨h1, _, i + 1, rfl, Lib.grownBy_trans hg23 (grownBy_of_below hga _), .inl ⟨hS3.kept (grownBy_of_below hga none), ho⟩, .inr ⟨k1, setRe [(0, 9), (11, 1114111)], ?_, Tree.imp (set_tree2 w3 0 9 11 1114111) fun b _ hb => Nat.le_trans hg23.size hb⟩, fun _ hB => (sr_not_br (hS3.kept (grownBy_of_below hga none)) hB).elim⟩
      unfold leafS
      rw [if_pos k2.symm, hmk]
    clear hh2 hh2n hx2 hg2 k1 k2 k3 hce
    go_wp2_with fail
    go_at_call 75
    refine HSk.out.mono ?_
    rintro e w3 ⟨rfl, hG⟩
    have HG : Hid (_) := hG
    clear hG HSk
    go_wp2
    go_ret
    exact HG.out
  · have n4 : (c == 46) = false := by rw [beq_eq_false_iff_ne]; exact h46
    have HP : Hid (Calls Tryz.prog 140 #[.pointer (some ⟨R, 0, none⟩), .string outB] w2 fun e w3 => ∃ z : Int, e = .returned (.int .i64 z) ∧ 0 ≤ z ∧ z ≤ 1114111 ∧ GotT W0 w R s i o (leafS s mk i) (.returned (.pointer (some ⟨w3.heap.size + 1, 0, none⟩))) ((w3.alloc (.cells #[.int .i64 z, .int .i64 z] 101)).alloc (.cells #[.int .i64 1, .slice (some ⟨w3.heap.size, 0, none⟩) 1 1, .int .i64 0, .int .i64 0, .slice none 0 0] 48))) := by
      refine (point_x (signs := outerS) L bars_out out92 out_signs hx2).mono ?_
      rintro e w3 ⟨z, j, rfl, z0, z1, hg3, hx3, hh3, hh3n⟩
      have hga := ((below_allocU w3 (.cells #[.int .i64 z, .int .i64 z] 101)).trans ((below_allocU _ (.cells #[.int .i64 1, .slice (some ⟨w3.heap.size, 0, none⟩) 1 1, .int .i64 0, .int .i64 0, .slice none 0 0] 48)).mono (by simp)))
      have hg23 := Lib.grownBy_trans hg2 hg3
      refine ⟨z, rfl, z0, z1, _, j, rfl, Lib.grownBy_trans hg23 (grownBy_of_below hga _), hx3.kept (grownBy_of_below hga none), ?_, fun hS0 hB => ?_⟩
      · rcases hh3 with hB | ⟨q1, q2⟩
        · exact .inl (hB.kept (grownBy_of_below hga none))
        · rcases hh2 with ⟨hB, _⟩ | ⟨k1, k2, k3⟩
          · exact (q1.not_br hB).elim
          · refine .inr ⟨k1, setRe [(z, z)], ?_, Tree.imp (set_tree1 w3 z z) fun b _ hb => Nat.le_trans hg23.size hb⟩
            unfold leafS
            rw [if_neg (by omega), q2]
            rfl
      · have hB3 := hx3.back (grownBy_of_below hga none) hB
        rcases hh2 with ⟨hB2, _⟩ | ⟨k1, k2, k3⟩
        · exact leaf_broken (hh2n hS0 hB2)
        · unfold leafS
          rw [if_neg (by omega), hh3n k3 hB3]
          rfl
    clear hh2 hh2n hx2 hg2
    go_wp2_with fail
    go_at_call 140
    refine HP.out.mono ?_
    rintro e w3 ⟨z, rfl, z0, z1, hG⟩
    have HG : Hid (_) := hG
    clear hG HP
    go_wp2
    go_ret
    exact HG.out

end Go.Proofs.YtbjohedenfindaaGreatDoor

namespace Go.Proofs.YtbjohedenfindaaGreatDoor
open Go.RowKit
set_option linter.unusedVariables false
set_option maxRecDepth 100000

/-- inner, by the sign ahead of it -/
def InnC (W0 : World) (R : Nat) (s : ByteArray) (o : Nat) (q : Int → Nat → Option (Re × Nat)) : Prop := ∀ (w : World) (i : Nat) (c : Int), (c = 40 ∨ c = 91 ∨ c = 126) → XR W0 w R s i o → Calls Tryz.prog 139 #[.pointer (some ⟨R, 0, none⟩), .int .i64 c] w fun e w' => GotT W0 w R s i o (q c i) e w'

theorem SR.setO {W0 w : World} {R i o o' : Nat} {s : ByteArray} (h : SR W0 w R s i o) : SR W0 (w.setCell ⟨R, 2, none⟩ (.int .i64 (o' : Int))) R s i o' := by
  obtain ⟨z, hz⟩ := h.at_
  exact h.step (z := z) (Lib.grownBy_setCell w R 2 _) h.inn (hz.set2 _)
theorem BR.setO {W0 w : World} {R : Nat} {s : ByteArray} (h : BR W0 w R s) (y : Int) : BR W0 (w.setCell ⟨R, 2, none⟩ (.int .i64 y)) R s := by
  obtain ⟨i, o, te, pe, z, h1, h2, hz⟩ := h.at_
  exact ⟨h.env.grown (Lib.grownBy_setCell w R 2 _) h.r16, ⟨i, y, te, pe, z, h1, h2, hz.set2 _⟩, h.r16, h.text⟩

set_option maxHeartbeats 4000000 in
theorem runit_full {W0 w : World} (L : LibR W0) {R i : Nat} {s : ByteArray} {r : Option (Re × Nat)} (hr : r = none) (h : SR W0 w R s i 100) {c : Int} (hce : cpAt s i = c) (hc : c = 40 ∨ c = 91 ∨ c = 126) :
    Calls Tryz.prog 127 #[.pointer (some ⟨R, 0, none⟩)] w fun e w' => GotT W0 w R s i 100 r e w' := by
  have HN : Hid (Calls Tryz.prog 74 #[.pointer (some ⟨R, 0, none⟩)] w fun e w' => e = .returned (.int .i64 c) ∧ ∃ n, w' = w.drewN n) := by
    have := now_in h (by omega)
    rw [hce] at this
    exact this
  have HF : Hid (∀ n, ∃ te pe, ((w.drewN n).setCell ⟨R, 2, none⟩ (.int .i64 (101 : Int))).cell? ⟨1, 0, none⟩ = some (.iface te pe) ∧ ((w.drewN n).setCell ⟨R, 2, none⟩ (.int .i64 (101 : Int))).cell? ⟨R, 1, none⟩ = some (.int .i64 (i : Int)) ∧ (w.drewN n).cell? ⟨R, 2, none⟩ = some (.int .i64 100) ∧ (w.drewN n).frozen? ⟨R, 2, none⟩ = false ∧ Calls Tryz.prog 22 #[.pointer (some ⟨R, 0, none⟩), .iface te pe, .int .i64 i] ((w.drewN n).setCell ⟨R, 2, none⟩ (.int .i64 (101 : Int))).drew fun e w' => e = .returned (.tuple #[]) ∧ (∃ te pe, w'.cell? ⟨R, 3, none⟩ = some (.iface te pe)) ∧ GotT W0 w R s i 100 r (.returned (.pointer none)) w') := by
    intro n
    have h1 := h.kept (grown_drewN w n none)
    have h2 : SR W0 ((w.drewN n).setCell ⟨R, 2, none⟩ (.int .i64 (101 : Int))) R s i 101 := h1.setO (o' := 101)
    obtain ⟨te, pe, cs⟩ := env_bnd L h2.env
    obtain ⟨z, hz⟩ := h1.at_
    refine ⟨te, pe, cs, h2.cell1.1, hz.cells.2.2.1, hz.frozen 2, ?_⟩
    refine (fail_first (h2.kept (grown_drewN _ 1 none)) (by omega) te pe i).mono ?_
    rintro e w' ⟨q1, q2, q3⟩
    refine ⟨q1, q3.cell3, none, 0, rfl, Lib.grownBy_trans (grown_drewN w n (some R)) (Lib.grownBy_trans (Lib.grownBy_setCell _ R 2 _) (Lib.grownBy_trans (grown_drewN _ 1 (some R)) q2)), .inr q3, .inl q3, fun _ _ => hr⟩
  clear h hce
  go_enter Tryz.func127, Tryz.ntmps127
  rcases hc with rfl | rfl | rfl
  all_goals
    go_wp2_with fail
    refine HN.out.mono ?_
    rintro e w2 ⟨rfl, n, rfl⟩
    obtain ⟨te, pe, f1, f2, f3, f4, f5⟩ := HF.out n
    have HF5 : Hid (Calls Tryz.prog 22 #[.pointer (some ⟨R, 0, none⟩), .iface te pe, .int .i64 i] ((w.drewN n).setCell ⟨R, 2, none⟩ (.int .i64 (101 : Int))).drew fun e w' => e = .returned (.tuple #[]) ∧ (∃ te pe, w'.cell? ⟨R, 3, none⟩ = some (.iface te pe)) ∧ GotT W0 w R s i 100 r (.returned (.pointer none)) w') := f5
    clear f5
    go_wp2
    go_region_with (go_at_call 22; refine HF5.out.mono ?_; rintro e w4 ⟨rfl, ⟨te4, pe4, g1⟩, g2⟩)
    all_goals
      have HG2 : Hid (GotT W0 w R s i 100 r (.returned (.pointer none)) w4) := g2
      clear g2
      go_wp2
      go_ret
      exact HG2.out

set_option maxHeartbeats 4000000 in
theorem runit_open {W0 w : World} (L : LibR W0) {R i o : Nat} {s : ByteArray} {q : Int → Nat → Option (Re × Nat)} (I : InnC W0 R s (o + 1) q) (h : SR W0 w R s i o) (ho : o < 100) {c : Int} (hce : cpAt s i = c) (hc : c = 40 ∨ c = 91 ∨ c = 126) :
    Calls Tryz.prog 127 #[.pointer (some ⟨R, 0, none⟩)] w fun e w' => GotT W0 w R s i o (q c (i + 1)) e w' := by
  have HN : Hid (Calls Tryz.prog 74 #[.pointer (some ⟨R, 0, none⟩)] w fun e w' => e = .returned (.int .i64 c) ∧ ∃ n, w' = w.drewN n) := by
    have := now_in h (by omega)
    rw [hce] at this
    exact this
  have hsz := cp_eq_size hce (by omega) (by omega)
  have HF : Hid (∀ n, (w.drewN n).cell? ⟨R, 2, none⟩ = some (.int .i64 (o : Int)) ∧ (w.drewN n).frozen? ⟨R, 2, none⟩ = false ∧ (w.drewN n).cell? ⟨R, 3, none⟩ = some .nilIface ∧ Calls Tryz.prog 75 #[.pointer (some ⟨R, 0, none⟩)] ((w.drewN n).setCell ⟨R, 2, none⟩ (.int .i64 ((o : Int) + 1))) fun e w4 => e = .returned (.tuple #[]) ∧ Hid (Calls Tryz.prog 139 #[.pointer (some ⟨R, 0, none⟩), .int .i64 c] w4 fun e w5 => ∃ (p : Option Addr) (x : Int), e = .returned (.pointer p) ∧ w5.cell? ⟨R, 2, none⟩ = some (.int .i64 x) ∧ w5.frozen? ⟨R, 2, none⟩ = false ∧ ((x = (o : Int) + 1 ∧ GotT W0 w R s i o (q c (i + 1)) (.returned (.pointer p)) (w5.setCell ⟨R, 2, none⟩ (.int .i64 (o : Int)))) ∨ ∀ y, GotT W0 w R s i o (q c (i + 1)) (.returned (.pointer p)) (w5.setCell ⟨R, 2, none⟩ (.int .i64 y))))) := by
    intro n
    have h1 := h.kept (grown_drewN w n none)
    have h2 : SR W0 ((w.drewN n).setCell ⟨R, 2, none⟩ (.int .i64 ((o : Int) + 1))) R s i (o + 1) := h1.setO (o' := o + 1)
    obtain ⟨z, hz⟩ := h1.at_
    refine ⟨hz.cells.2.2.1, hz.frozen 2, hz.cells.2.2.2.1, ?_⟩
    refine (skip_in h2 (by omega)).mono ?_
    rintro e w4 ⟨q1, q2, q3⟩
    rw [hsz.2] at q3
    refine ⟨q1, ?_⟩
    have hg4 : w.grownBy w4 (some R) := Lib.grownBy_trans (grown_drewN w n (some R)) (Lib.grownBy_trans (Lib.grownBy_setCell _ R 2 _) q2)
    refine (I w4 (i + 1) c hc (.inl ⟨q3, by omega⟩)).mono ?_
    rintro e w5 ⟨p, j, rfl, hg5, hx5, hh5, hh5n⟩
    have hg6 : ∀ y : Int, w.grownBy (w5.setCell ⟨R, 2, none⟩ (.int .i64 y)) (some R) := fun y => Lib.grownBy_trans hg4 (Lib.grownBy_trans hg5 (Lib.grownBy_setCell _ R 2 _))
    rcases hx5 with ⟨hS5, _⟩ | hB5
    · obtain ⟨z5, hz5⟩ := hS5.at_
      refine ⟨p, _, rfl, hz5.cells.2.2.1, hz5.frozen 2, .inl ⟨by simp, p, j, rfl, hg6 _, .inl ⟨hS5.setO, by omega⟩, ?_, fun _ hB => (sr_not_br hS5.setO hB).elim⟩⟩
      rcases hh5 with hB | ⟨_, t, k1, k2⟩
      · exact (hS5.not_br hB).elim
      · refine .inr ⟨h, t, k1, Tree.grown (Tree.imp k2 fun b _ hb => Nat.le_trans hg4.size hb) (Lib.grownBy_setCell w5 R 2 _) fun b hb e => ?_⟩
        have := h.lt
        simp at e
        omega
    · obtain ⟨i5, o5, te, pe, z5, _, _, hz5⟩ := hB5.at_
      exact ⟨p, o5, rfl, hz5.cells.2.2.1, hz5.frozen 2, .inr fun y => ⟨p, 0, rfl, hg6 y, .inr (hB5.setO y), .inl (hB5.setO y), fun _ _ => hh5n q3 hB5⟩⟩
  clear h hce I hsz
  go_enter Tryz.func127, Tryz.ntmps127
  rcases hc with rfl | rfl | rfl
  all_goals
    go_wp2_with fail
    refine HN.out.mono ?_
    rintro e w2 ⟨rfl, n, rfl⟩
    obtain ⟨f1, f2, f3, f4⟩ := HF.out n
    have HF4 : Hid (Calls Tryz.prog 75 #[.pointer (some ⟨R, 0, none⟩)] ((w.drewN n).setCell ⟨R, 2, none⟩ (.int .i64 ((o : Int) + 1))) _) := f4
    clear f4
    go_wp2_with fail
    go_at_call 75
    refine HF4.out.mono ?_
    rintro e w4 ⟨rfl, HI⟩
    clear HF4
    go_wp2_with fail
    go_at_call 139
    refine HI.out.mono ?_
    rintro e w5 ⟨p, x, rfl, g1, g2, ⟨rfl, g3⟩ | g3⟩
    · have HG3 : Hid (GotT W0 w R s i o _ (.returned (.pointer p)) (w5.setCell ⟨R, 2, none⟩ (.int .i64 (o : Int)))) := g3
      clear g3 HI
      go_wp2
      go_ret
      exact HG3.out
    · have HG3 : Hid (∀ y, GotT W0 w R s i o _ (.returned (.pointer p)) (w5.setCell ⟨R, 2, none⟩ (.int .i64 y))) := g3
      clear g3 HI
      go_wp2
      go_ret
      exact HG3.out _

end Go.Proofs.YtbjohedenfindaaGreatDoor

namespace Go.Proofs.YtbjohedenfindaaGreatDoor
open Go.RowKit
set_option linter.unusedVariables false
set_option maxRecDepth 100000

def parS (s : ByteArray) (r : Option (Re × Nat)) : Option (Re × Nat) := match r with
  | none => none
  | some (p, j) => if cpAt s j = 41 then some (p, j + 1) else none

theorem not_tree {B : Nat} {w : World} {p : Value} {t : Re} (hB : B ≤ w.heap.size) (hp : RT' B w p t) : RT' B ((w.alloc (.cells #[p] 22)).alloc (.cells #[.int .i64 5, .slice none 0 0, .int .i64 0, .int .i64 0, .slice (some ⟨w.heap.size, 0, none⟩) 1 1] 48)) (.pointer (some ⟨w.heap.size + 1, 0, none⟩)) (notRe t) := by
  have hga := ((below_allocU w (.cells #[p] 22)).trans ((below_allocU _ (.cells #[.int .i64 5, .slice none 0 0, .int .i64 0, .int .i64 0, .slice (some ⟨w.heap.size, 0, none⟩) 1 1] 48)).mono (by simp)))
  have h1 : ((w.alloc (.cells #[p] 22)).alloc (.cells #[.int .i64 5, .slice none 0 0, .int .i64 0, .int .i64 0, .slice (some ⟨w.heap.size, 0, none⟩) 1 1] 48)).heap[w.heap.size]? = some (.cells #[p] 22 (0, 0)) := by
    rw [Below.heap_alloc _ _ _ (by simp)]
    exact heap_alloc_new w _
  have h2 := heap_alloc_new (w.alloc (.cells #[p] 22)) (.cells #[.int .i64 5, .slice none 0 0, .int .i64 0, .int .i64 0, .slice (some ⟨w.heap.size, 0, none⟩) 1 1] 48)
  rw [show (w.alloc _).heap.size = w.heap.size + 1 from by simp] at h2
  obtain ⟨n, hn⟩ := Tree.moved hp hga.size fun b hb hok => ⟨hok, hga.block b hb⟩
  refine ⟨n + 1, w.heap.size + 1, _, _, rfl, by omega, h2, .inl ⟨rfl, none, 0, rfl⟩, .inr ⟨w.heap.size, 0, 1, rfl, by simp; omega, hB, fun j hj => ?_⟩⟩
  have hj0 : j = 0 := by simp [notRe] at hj; omega
  subst hj0
  exact ⟨p, by simp [World.cell?, h1], by simpa [notRe] using hn⟩

set_option maxHeartbeats 2000000 in
theorem rinner_not {W0 w : World} {R i o : Nat} {s : ByteArray} {u : Nat → Option (Re × Nat)} (U : RUnitC W0 R s o u) (h : XR W0 w R s i o) :
    Calls Tryz.prog 139 #[.pointer (some ⟨R, 0, none⟩), .int .i64 126] w fun e w' => GotT W0 w R s i o ((u i).map fun x => (notRe x.1, x.2)) e w' := by
  have HU : Hid (Calls Tryz.prog 127 #[.pointer (some ⟨R, 0, none⟩)] w fun e w1 => ∃ p, e = .returned (.pointer p) ∧ GotT W0 w R s i o ((u i).map fun x => (notRe x.1, x.2)) (.returned (.pointer (some ⟨w1.heap.size + 1, 0, none⟩))) ((w1.alloc (.cells #[.pointer p] 22)).alloc (.cells #[.int .i64 5, .slice none 0 0, .int .i64 0, .int .i64 0, .slice (some ⟨w1.heap.size, 0, none⟩) 1 1] 48))) := by
    refine (U w i h).mono ?_
    rintro e w1 ⟨p, j, rfl, hg, hx, hh, hhn⟩
    have hga := ((below_allocU w1 (.cells #[.pointer p] 22)).trans ((below_allocU _ (.cells #[.int .i64 5, .slice none 0 0, .int .i64 0, .int .i64 0, .slice (some ⟨w1.heap.size, 0, none⟩) 1 1] 48)).mono (by simp)))
    refine ⟨p, rfl, _, j, rfl, Lib.grownBy_trans hg (grownBy_of_below hga _), hx.kept (grownBy_of_below hga none), ?_, fun hS0 hB => by rw [hhn hS0 (hx.back (grownBy_of_below hga none) hB)]; rfl⟩
    rcases hh with hB | ⟨h1, t, h2, h3⟩
    · exact .inl (hB.kept (grownBy_of_below hga none))
    · exact .inr ⟨h1, notRe t, by rw [h2]; rfl, not_tree hg.size h3⟩
  clear U h
  go_enter Tryz.func139, Tryz.ntmps139
  go_wp2_with fail
  go_at_call 127
  refine HU.out.mono ?_
  rintro e w1 ⟨p, rfl, hG⟩
  have HG : Hid (_) := hG
  clear hG HU
  go_wp2
  go_ret
  exact HG.out

set_option maxHeartbeats 2000000 in
theorem rinner_par {W0 w : World} (L : LibR W0) {R i o : Nat} {s : ByteArray} {r : Nat → Option (Re × Nat)} (U : RdC W0 R s o 21 r) (h : XR W0 w R s i o) :
    Calls Tryz.prog 139 #[.pointer (some ⟨R, 0, none⟩), .int .i64 40] w fun e w' => GotT W0 w R s i o (parS s (r i)) e w' := by
  have hRB := h.lt
  have HU : Hid (Calls Tryz.prog 21 #[.pointer (some ⟨R, 0, none⟩)] w fun e w1 => ∃ p, e = .returned (.pointer p) ∧ Hid (Calls Tryz.prog 142 #[.pointer (some ⟨R, 0, none⟩), .int .i64 41] w1 fun e w2 => e = .returned (.tuple #[]) ∧ GotT W0 w R s i o (parS s (r i)) (.returned (.pointer p)) w2)) := by
    refine (U w i h).mono ?_
    rintro e w1 ⟨p, j, rfl, hg, hx, hh, hhn⟩
    refine ⟨p, rfl, ?_⟩
    have ho : BR W0 w1 R s ∨ o ≤ 1000 := hx.elim (fun h => .inr h.2) .inl
    refine (need_x L hx 41 (by omega) (by omega)).mono ?_
    rintro e w2 ⟨h1, hg2, hh2, hh2n⟩
    have hNo : SR W0 w R s i o → BR W0 w2 R s → parS s (r i) = none := fun hS0 hB => by
      rcases hx with ⟨hS1, _⟩ | hB1
      · rcases hh with hB1 | ⟨_, t, q2, _⟩
        · exact (sr_not_br hS1 hB1).elim
        · rw [q2]
          show (if cpAt s j = 41 then some (t, j + 1) else none) = _
          rw [if_neg (hh2n hS1 hB)]
      · rw [hhn hS0 hB1]; rfl
    have hg12 := Lib.grownBy_trans hg hg2
    rcases hh2 with hB | ⟨k1, k2, k3⟩
    · exact ⟨h1, p, 0, rfl, hg12, .inr hB, .inl hB, hNo⟩
    · have ho2 : o ≤ 1000 := ho.elim (fun hB => (k1.not_br hB).elim) id
      refine ⟨h1, p, j + 1, rfl, hg12, .inl ⟨k3, ho2⟩, ?_, hNo⟩
      rcases hh with hB | ⟨q1, t, q2, q3⟩
      · exact (k1.not_br hB).elim
      · refine .inr ⟨q1, t, ?_, tree_grown q3 hRB hg2⟩
        rw [q2]
        show (if cpAt s j = 41 then some (t, j + 1) else none) = _
        rw [if_pos k2]
  clear U h
  go_enter Tryz.func139, Tryz.ntmps139
  go_wp2_with fail
  go_at_call 21
  refine HU.out.mono ?_
  rintro e w1 ⟨p, rfl, HNd⟩
  clear HU
  go_wp2_with fail
  go_at_call 142
  refine HNd.out.mono ?_
  rintro e w2 ⟨rfl, hG⟩
  have HG : Hid (_) := hG
  clear hG HNd
  go_wp2
  go_ret
  exact HG.out

end Go.Proofs.YtbjohedenfindaaGreatDoor
