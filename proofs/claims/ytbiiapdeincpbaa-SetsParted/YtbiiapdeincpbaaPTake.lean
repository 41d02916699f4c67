import Derived.Test.YtbiiapdeincpbaaPExt
import Derived.Test.YtbiiapdeincpbaaPTurn
import Derived.Lib.OwnKind
import Derived.Lib.OthersKept
namespace Go.Proofs.Ytbiiapdeincpbaa
open Go.RowKit
set_option linter.unusedVariables false
set_option maxRecDepth 100000

/-- a function of the program that answers of two bools, and does nothing else -/
structure Wants (g : Nat) (want : Bool → Bool → Bool) : Prop where
  enter : ∀ args w, (callFunc g args).run Try.prog w = .ok (.enter g args) w
  calls : ∀ (x y : Bool) (W : World), Calls Try.prog g #[.bool x, .bool y] W fun e w' => e = .returned (.bool (want x y)) ∧ w' = W

set_option maxHeartbeats 1000000 in
theorem take_no (g : Nat) (want : Bool → Bool → Bool) (hw : Wants g want) (F D O : Nat) (d0 d1 lo hi : Int) (w : World)
    (cF : w.cell? ⟨F, 0, none⟩ = some (.func (.func g) #[] #[])) (c0 : w.cell? ⟨D, 0, none⟩ = some (.int .i64 d0)) (c1 : w.cell? ⟨D, 1, none⟩ = some (.int .i64 d1)) (hF : F < w.heap.size) (hD : D < w.heap.size)
    (hno : want (decide (0 < d0)) (decide (0 < d1)) = false) :
    Calls Try.prog 54 #[.agg #[.int .i64 lo, .int .i64 hi], .pointer (some ⟨F, 0, none⟩), .pointer (some ⟨D, 0, none⟩), .pointer (some ⟨O, 0, none⟩)] w fun e w' => e = .returned (.tuple #[]) ∧ w.grownBy w' none := by
  have eg := hw.enter
  have HW : Hid (∀ (x y : Bool) (W : World), Calls Try.prog g #[.bool x, .bool y] W fun e w' => e = .returned (.bool (want x y)) ∧ w' = W) := hw.calls
  clear hw
  have HN : Hid (want (decide (0 < d0)) (decide (0 < d1)) = false) := hno
  clear hno
  go_enter Try.func54, Try.ntmps54
  go_wp2_with fail
  refine (HW.out _ _ _).mono ?_
  rw [HN.out]
  rintro e w' ⟨rfl, rfl⟩
  go_wp2
  go_end0
  exact ⟨rfl, World.grownBy_alloc w _ _⟩

set_option maxHeartbeats 1000000 in
theorem take_yes (g : Nat) (want : Bool → Bool → Bool) (hw : Wants g want) (B F D O : Nat) (d0 d1 lo hi : Int) (v : Value) (l : List Rg) (w : World)
    (cF : w.cell? ⟨F, 0, none⟩ = some (.func (.func g) #[] #[])) (c0 : w.cell? ⟨D, 0, none⟩ = some (.int .i64 d0)) (c1 : w.cell? ⟨D, 1, none⟩ = some (.int .i64 d1)) (hF : F < w.heap.size) (hD : D < w.heap.size)
    (cO : w.heap[O]? = some (.cells #[v] 28 (0, 0))) (hO : O < w.heap.size) (hown : OwnR w B v l) (hB : B ≤ w.heap.size) (hlen : l.length ≤ 1000000) (hbd : ∀ r ∈ l, 0 ≤ r.2 ∧ r.2 ≤ 1114111)
    (hyes : want (decide (0 < d0)) (decide (0 < d1)) = true) :
    Calls Try.prog 54 #[.agg #[.int .i64 lo, .int .i64 hi], .pointer (some ⟨F, 0, none⟩), .pointer (some ⟨D, 0, none⟩), .pointer (some ⟨O, 0, none⟩)] w fun e w' => e = .returned (.tuple #[]) ∧ ∃ v' w1, OwnR w1 B v' (growL l lo hi) ∧ w.grownBy w1 v.ownBlock ∧ w' = w1.setCell ⟨O, 0, none⟩ v' := by
  have eg := hw.enter
  have HW : Hid (∀ (x y : Bool) (W : World), Calls Try.prog g #[.bool x, .bool y] W fun e w' => e = .returned (.bool (want x y)) ∧ w' = W) := hw.calls
  clear hw
  have HN : Hid (want (decide (0 < d0)) (decide (0 < d1)) = true) := hyes
  clear hyes
  have cO1 : w.cell? ⟨O, 0, none⟩ = some v := by simp [World.cell?, cO]
  have cO2 : (w.alloc (.cells #[.int .i64 lo, .int .i64 hi] 56)).cell? ⟨O, 0, none⟩ = some v := by
    rw [World.cell?_alloc_past _ _ _ hO]; exact cO1
  have hne : v.ownBlock ≠ some O := by
    intro e1
    obtain ⟨cc, fz, hc⟩ := Lib.ownsRow_kind hown O e1
    rw [cO] at hc
    simp at hc
  go_enter Try.func54, Try.ntmps54
  go_wp2_with fail
  refine (HW.out _ _ _).mono ?_
  rw [HN.out]
  rintro e w' ⟨rfl, rfl⟩
  go_wp2_with fail
  refine (extend_any B v l lo hi _ (World.ownsRow.alloc hown _) (by simp; omega) hlen hbd).mono ?_
  rintro e w1 ⟨v', rfl, hO1, hg1⟩
  have hb1 : w1.heap[O]? = some (.cells #[v] 28 (0, 0)) := by
    rw [hg1.block O (by simp; omega) (fun e => hne e.symm), Lib.alloc_old _ _ _ hO]; exact cO
  have f1 : w1.frozen? ⟨O, 0, none⟩ = false := by simp [World.frozen?, hb1]
  have f2 : w1.cell? ⟨O, 0, none⟩ = some v := by simp [World.cell?, hb1]
  have hg2 := (World.grownBy_alloc w _ _).trans hg1
  clear hg1 cO cO1 cO2
  obtain ⟨a', n', c', rfl⟩ : ∃ a n c, v' = .slice a n c := by
    rcases hO1.2 with ⟨rfl, _⟩ | ⟨g, cap, cur, rfl, _⟩
    · exact ⟨_, _, _, rfl⟩
    · exact ⟨_, _, _, rfl⟩
  go_wp2
  go_end0
  exact ⟨rfl, _, w1, hO1, hg2, rfl⟩

end Go.Proofs.Ytbiiapdeincpbaa
