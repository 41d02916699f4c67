/- Texts of the proof, put together: RRea, RPok, Dv, DvB, DvC, DvD, DvE, DvF, DvG, DvH, PUnit, PUnitB. -/
import Derived.Test.YtbjohedenfindaaGreatDoorPw23
import Derived.Test.YtbjohedenfindaaGreatDoorPw10
import Derived.Test.YtbjohedenfindaaGreatDoorPw18
import Derived.Shelf.Abstract
namespace Go.Proofs.YtbjohedenfindaaGreatDoor
open Go.RowKit
set_option linter.unusedVariables false
set_option maxRecDepth 100000

/-- the reader's block as it begins -/
theorem reader_new {W0 w : World} {s : ByteArray} (hE : Env W0 w) (hs : s.size ≤ 60000) : SR W0 (w.alloc (.cells #[.string s, .int .i64 0, .int .i64 0, .nilIface, .int .i64 0] 54)) w.heap.size s 0 0 := by
  refine ⟨⟨by simp; have := hE.1; omega, fun k hk => ?_⟩, ⟨0, ?_⟩, hE.1, by omega, by omega⟩
  · rw [Below.heap_alloc _ _ _ (by have := hE.1; omega)]
    exact hE.2 k hk
  · have := heap_alloc_new w (.cells #[.string s, .int .i64 0, .int .i64 0, .nilIface, .int .i64 0] 54)
    exact this
theorem below_reader {w w' : World} {o : Obj} (hg : (w.alloc o).grownBy w' (some w.heap.size)) : Below w.heap.size w w' :=
  ⟨hg.os, hg.tape, hg.output, Nat.le_trans (by simp) hg.size, fun b hb => (hg.block b (by simp; omega) (by simp; omega)).trans (Below.heap_alloc w o b hb)⟩

theorem below_drewU {B : Nat} {a w : World} (h : Below B a w) (n : Nat) : Below B a (w.drewN n) := ⟨h.os, h.tape, h.output, h.size, h.block⟩
/-- a text that has a pattern which is valid is read -/
theorem whole_pat {s : ByteArray} {mk : List Rg → Bool → List Rg} {t : Re} (h : wholeS s mk = some t) : ∃ j, patS s (fun j => unitS s mk 100 j) 0 = some (t, j) ∧ cpAt s j = -1 := by
  unfold wholeS at h
  cases hp : patS s (fun j => unitS s mk 100 j) 0 with
  | none => rw [hp] at h; cases h
  | some x =>
    obtain ⟨q, j⟩ := x
    rw [hp] at h
    simp only at h
    by_cases hj : cpAt s j = -1
    · rw [if_pos hj] at h
      injection h with h
      exact ⟨j, by rw [h], hj⟩
    · rw [if_neg hj] at h; cases h
theorem cp_end {s : ByteArray} {j : Nat} (h : cpAt s j = -1) : s.size ≤ j := by
  rcases Nat.lt_or_ge j s.size with hlt | hge
  · exfalso
    unfold cpAt at h
    rw [if_pos hlt] at h
    split at h <;> omega
  · exact hge
set_option maxHeartbeats 8000000 in
theorem rread_good {W0 w : World} (L : LibR W0) (hE : Env W0 w) {mk : List Rg → Bool → List Rg} (D : SetD mk) (hmk : mk [(10, 10)] true = [(0, 9), (11, 1114111)]) {s : ByteArray} (hs : s.size ≤ 60000) {t : Re} (hw : wholeS s mk = some t)
    (P : ∀ (B : Nat) (w : World) (v : Value), Tree (fun b => B ≤ b) w v t → Calls Tryz.prog 13 #[v] w fun e w' => e = .returned (.bool true) ∧ Below w.heap.size w w') :
    Calls Tryz.prog 8 #[.string s] w fun e w' => ∃ b, e = .returned (.tuple #[.pointer (some ⟨b, 0, none⟩), .nilIface, .int .i64 0]) ∧ Below w.heap.size w w' ∧ Tree (fun b => w.heap.size ≤ b) w' (.pointer (some ⟨b, 0, none⟩)) t := by
  have hl : ¬ (65536 : Int) < (s.size : Int) := by omega
  have hS1 := reader_new (s := s) hE hs
  have hU := runit_all (R := w.heap.size) (s := s) L hmk (fun o w i h => rinner_brack L D hs h) 100 0 (by omega)
  obtain ⟨j0, hp0, hj0⟩ := whole_pat hw
  have HA : Hid (Calls Tryz.prog 21 #[.pointer (some ⟨w.heap.size, 0, none⟩)] (w.alloc (.cells #[.string s, .int .i64 0, .int .i64 0, .nilIface, .int .i64 0] 54)) fun e w2 => ∃ (b i1 : Nat), e = .returned (.pointer (some ⟨b, 0, none⟩)) ∧ s.size ≤ i1 ∧ i1 ≤ s.size ∧ w2.cell? ⟨w.heap.size, 1, none⟩ = some (.int .i64 (i1 : Int)) ∧ w2.cell? ⟨w.heap.size, 3, none⟩ = some .nilIface ∧
      Calls Tryz.prog 13 #[.pointer (some ⟨b, 0, none⟩)] w2 fun e w3 => e = .returned (.bool true) ∧ Below w.heap.size w w3 ∧ Tree (fun b => w.heap.size ≤ b) w3 (.pointer (some ⟨b, 0, none⟩)) t) := by
    refine (rpat_any L hU (unitS_goes 100) (part_goes (unitS_goes 100)) (unit_broken 100) _ 0 (.inl ⟨hS1, by omega⟩)).mono ?_
    rintro e w2 ⟨p, j, rfl, hg, hx, hh, hhn⟩
    rcases hh with hB | ⟨_, t', h2, h3⟩
    · have := hhn hS1 hB
      rw [hp0] at this
      cases this
    · rw [hp0] at h2
      simp only [Option.some.injEq, Prod.mk.injEq] at h2
      obtain ⟨rfl, rfl⟩ := h2
      obtain ⟨b, hb, _⟩ := h3.ptr
      have hp : p = some ⟨b, 0, none⟩ := by injection hb
      subst hp
      rcases hx with ⟨hS2, _⟩ | hB
      · have hT : Tree (fun b => w.heap.size ≤ b) w2 (.pointer (some ⟨b, 0, none⟩)) t := Tree.imp h3 fun c _ hc => by
          have : w.heap.size ≤ (w.alloc (.cells #[.string s, .int .i64 0, .int .i64 0, .nilIface, .int .i64 0] 54)).heap.size := by simp
          exact Nat.le_trans this hc
        have hb2 := below_reader hg
        refine ⟨b, j0, rfl, cp_end hj0, hS2.inn, hS2.cell1.1, hS2.cell1.2, (P _ w2 _ hT).mono ?_⟩
        rintro e w3 ⟨q1, q2⟩
        exact ⟨q1, hb2.trans (q2.mono hb2.size), Tree.moved hT q2.size fun c hc hok => ⟨hok, q2.block c hc⟩⟩
      · have := hhn hS1 hB
        rw [hp0] at this
        cases this
  clear hS1 hU D hE P hmk hw hp0 hj0
  go_enter Tryz.func8, Tryz.ntmps8
  go_wp2_with fail
  go_at_call 21
  refine HA.out.mono ?_
  rintro e w2 ⟨b, i1, rfl, hi0, hi1, c1, c3, hP⟩
  obtain rfl : i1 = s.size := by omega
  have HP : Hid (Calls Tryz.prog 13 #[.pointer (some ⟨b, 0, none⟩)] w2 fun e w3 => e = .returned (.bool true) ∧ Below w.heap.size w w3 ∧ Tree (fun b => w.heap.size ≤ b) w3 (.pointer (some ⟨b, 0, none⟩)) t) := hP
  clear HA hP hi0 hi1
  go_wp2_with fail
  go_at_call 13
  refine HP.out.mono ?_
  rintro e w3 ⟨rfl, hb3, hT3⟩
  have HT3 : Hid (Tree (fun b => w.heap.size ≤ b) w3 (.pointer (some ⟨b, 0, none⟩)) t) := hT3
  clear hT3 HP
  go_wp2
  go_ret3
  exact ⟨b, rfl, hb3, HT3.out⟩

end Go.Proofs.YtbjohedenfindaaGreatDoor

namespace Go.Proofs.YtbjohedenfindaaGreatDoor
open Go.RowKit
set_option linter.unusedVariables false
set_option maxRecDepth 100000

end Go.Proofs.YtbjohedenfindaaGreatDoor

namespace Go.Proofs.YtbjohedenfindaaGreatDoor
set_option linter.unusedVariables false

/-- a pattern as the document's answer writes it -/
structure Tm where
  kind : Int
  set : List Rg
  mn : Int
  mx : Int
  kids : List Tm

theorem Tm.ind {P : Tm → Prop} (h : ∀ t : Tm, (∀ k ∈ t.kids, P k) → P t) : ∀ t, P t := fun t => by
  match t with
  | ⟨k, s, a, b, ks⟩ => exact h _ fun k hk => Tm.ind h k

def setT (l : List Rg) : Tm := ⟨1, l, 0, 0, []⟩
def nothT : Tm := ⟨1, [], 0, 0, []⟩
def sevT (k : Int) (l : List Tm) : Tm := ⟨k, [], 0, 0, l⟩
def notT (a : Tm) : Tm := ⟨5, [], 0, 0, [a]⟩
def repT (a : Tm) (lo hi : Int) : Tm := ⟨6, [], lo, hi, [a]⟩
/-! ## Order: by the numbers that tell a tree -/
/-! ## Rows in order, each once -/
end Go.Proofs.YtbjohedenfindaaGreatDoor

namespace Go.Proofs.YtbjohedenfindaaGreatDoor
set_option linter.unusedVariables false

/-! ## One behind the other -/
end Go.Proofs.YtbjohedenfindaaGreatDoor

namespace Go.Proofs.YtbjohedenfindaaGreatDoor
set_option linter.unusedVariables false

/-! ## Rows -/
end Go.Proofs.YtbjohedenfindaaGreatDoor

namespace Go.Proofs.YtbjohedenfindaaGreatDoor
set_option linter.unusedVariables false

/-! ## The family -/
end Go.Proofs.YtbjohedenfindaaGreatDoor

namespace Go.Proofs.YtbjohedenfindaaGreatDoor
set_option linter.unusedVariables false

end Go.Proofs.YtbjohedenfindaaGreatDoor

namespace Go.Proofs.YtbjohedenfindaaGreatDoor
set_option linter.unusedVariables false

/-! ## Repetitions -/
end Go.Proofs.YtbjohedenfindaaGreatDoor

namespace Go.Proofs.YtbjohedenfindaaGreatDoor
set_option linter.unusedVariables false

/-! ## Small all the way down -/
end Go.Proofs.YtbjohedenfindaaGreatDoor

namespace Go.Proofs.YtbjohedenfindaaGreatDoor
set_option linter.unusedVariables false

/-! ## Rows, one of several, both -/
/-! ## The empty text -/
/-! ## Behind a point -/
end Go.Proofs.YtbjohedenfindaaGreatDoor

namespace Go.Proofs.YtbjohedenfindaaGreatDoor
open Go.RowKit
set_option linter.unusedVariables false
set_option maxRecDepth 100000

set_option maxHeartbeats 1000000 in
theorem anyBut_any {mk : List Rg → Bool → List Rg} (C : SetC mk) (w : World) :
    Calls Tryz.prog 88 #[] w fun e w' => ∃ v, e = .returned v ∧ OwnR w' w.heap.size v (mk [(10, 10)] true) ∧ Below w.heap.size w w' := by
  have hR : Rngs (w.alloc (.cells #[.int .i64 10, .int .i64 10] 101)) (.slice (some ⟨w.heap.size, 0, none⟩) 1 1) [(10, 10)] := by
    refine Or.inr ⟨w.heap.size, 0, 1, rfl, by simp, fun j hj => ?_⟩
    have hj0 : j = 0 := by simpa using hj
    subst hj0
    exact ⟨by simp, by simp⟩
  have HC : Hid (Calls Tryz.prog 90 #[.slice (some ⟨w.heap.size, 0, none⟩) 1 1] (w.alloc (.cells #[.int .i64 10, .int .i64 10] 101)) fun e w' => ∃ v, e = .returned v ∧ OwnR w' (w.alloc (.cells #[.int .i64 10, .int .i64 10] 101)).heap.size v (mk [(10, 10)] true) ∧ Below (w.alloc (.cells #[.int .i64 10, .int .i64 10] 101)).heap.size (w.alloc (.cells #[.int .i64 10, .int .i64 10] 101)) w') := C.other _ [(10, 10)] _ (by simp) hR
  clear hR
  go_enter Tryz.func88, Tryz.ntmps88
  go_wp2_with fail
  refine HC.out.mono ?_
  rintro e w1 ⟨v, rfl, hO, hb⟩
  obtain ⟨a, c, rfl⟩ := own_slice hO
  have hb2 : Below w.heap.size w w1 := ((Below.refl _ w).alloc (Nat.le_refl _) _).trans (hb.mono (by simp))
  have hO2 : OwnR w1 w.heap.size (.slice a (mk [(10, 10)] true).length c) (mk [(10, 10)] true) := by
    refine ⟨hO.1, ?_⟩
    rcases hO.2 with h | ⟨g, cap, cur, e1, e2, e3⟩
    · exact Or.inl h
    · exact Or.inr ⟨g, cap, cur, e1, by simp at e2; omega, e3⟩
  clear hO hb
  go_wp2
  go_ret
  exact ⟨_, rfl, hO2, hb2⟩

end Go.Proofs.YtbjohedenfindaaGreatDoor

namespace Go.Proofs.YtbjohedenfindaaGreatDoor
open Go.RowKit
set_option linter.unusedVariables false
set_option maxRecDepth 100000

end Go.Proofs.YtbjohedenfindaaGreatDoor
