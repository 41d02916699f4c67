/- Texts of the proof, put together: Code. -/
import Derived.Test.YtdihdnhofgjhnaaDoorPy02
import Derived.Test.YtdihdnhofgjhnaaDoorPy03
namespace Go.Proofs.YtdihdnhofgjhnaaDoor
open Go.RowKit Go.Extern.Stop Go.Stop Go.Extern
set_option linter.unusedVariables false
set_option maxRecDepth 100000

/-- What the walk is told of the errors of package api and of the package errors' own variable: each error is a pointer of its own. -/
structure Errs (w : World) (a : Nat → Addr) : Prop where
  cell : ∀ j, j < 7 → w.cell? ⟨j, 0, none⟩ = some (.iface 137 (.pointer (some (a j))))
  row : ∀ j, j < 7 → ∃ c t, w.heap[(a j).block]? = some (.cells c t (0, 0))
  apart : ∀ i j, i < 7 → j < 7 → i ≠ j → a i ≠ a j
  type : w.cell? ⟨7, 0, none⟩ = some (.iface 116 (.agg #[.pointer (some ⟨8, 36, none⟩)]))

theorem Errs.size {w : World} {a : Nat → Addr} (h : Errs w a) : 7 < w.heap.size := lt_of_cell h.type
theorem Errs.below {w w' : World} {a : Nat → Addr} (h : Errs w a) {B : Nat} (hb : Below B w w') (hB : w.heap.size ≤ B) : Errs w' a := by
  have hs := h.size
  have hbs := hb.size
  refine ⟨fun j hj => (hb.cell (p := ⟨j, 0, none⟩) (by show j < B; omega)).trans (h.cell j hj), fun j hj => ?_, h.apart, (hb.cell (p := ⟨7, 0, none⟩) (by show 7 < B; omega)).trans h.type⟩
  obtain ⟨c, t, hc⟩ := h.row j hj
  have hlt : (a j).block < w.heap.size := (Array.getElem?_eq_some_iff.1 hc).1
  exact ⟨c, t, (hb.block _ (by omega)).trans hc⟩

def hitE (i j : Nat) : Bool := decide (i = j)

theorem is_list (w : World) (a : Nat → Addr) (h : Errs w a) (i j : Nat) (hi : i < 7) (hj : j < 7) :
    Calls Tryd.prog 25 #[.iface 137 (.pointer (some (a i))), .iface 137 (.pointer (some (a j)))] w fun e w' => e = .returned (.bool (hitE i j)) ∧ w' = w := by
  by_cases e : i = j
  · subst e
    have : hitE i i = true := by simp [hitE]
    rw [this]
    exact is_same (a i) w
  · obtain ⟨ca, ta, ha⟩ := h.row i hi
    obtain ⟨cb, tb, hb⟩ := h.row j hj
    have : hitE i j = false := by simp [hitE, e]
    rw [this]
    exact is_other (a i) (a j) ca cb ta tb w (h.apart i j hi hj e) ha hb

theorem is_fault (w : World) (a : Nat → Addr) (h : Errs w a) (f : Addr) (hf : f.spot = none) (i j : Nat) (hi : i < 7) (hj : j < 7) (h1 : w.cell? f = some (.iface 137 (.pointer (some (a i))))) :
    Calls Tryd.prog 25 #[.iface 66 (.pointer (some f)), .iface 137 (.pointer (some (a j)))] w fun e w' => e = .returned (.bool (hitE i j)) ∧ w' = w := by
  by_cases e : i = j
  · subst e
    have : hitE i i = true := by simp [hitE]
    rw [this]
    exact is_wrap_same f (a i) w hf h1
  · obtain ⟨ca, ta, ha⟩ := h.row i hi
    obtain ⟨cb, tb, hb⟩ := h.row j hj
    have : hitE i j = false := by simp [hitE, e]
    rw [this]
    exact is_wrap_other f (a i) (a j) ca cb ta tb w hf h1 (h.apart i j hi hj e) ha hb

theorem list_cell (W : World) (a : Nat → Addr) (j : Nat) (hj : j < 7) : (W.alloc (.cells #[.iface 137 (.pointer (some (a 0))), .iface 137 (.pointer (some (a 1))), .iface 137 (.pointer (some (a 2))), .iface 137 (.pointer (some (a 3))), .iface 137 (.pointer (some (a 4))), .iface 137 (.pointer (some (a 5))), .iface 137 (.pointer (some (a 6)))] 36)).cell? ⟨W.heap.size, j, none⟩ = some (.iface 137 (.pointer (some (a j)))) := by
  rw [World.cell?_alloc_at _ _ _ _ rfl]
  match j, hj with
  | 0, _ => rfl
  | 1, _ => rfl
  | 2, _ => rfl
  | 3, _ => rfl
  | 4, _ => rfl
  | 5, _ => rfl
  | 6, _ => rfl

set_option maxHeartbeats 1000000 in
theorem code_nil (w : World) : Calls Tryd.prog 10 #[.nilIface] w fun e w' => e = .returned (.tuple #[.int .i64 0, .int .i64 (-1)]) ∧ w' = w := by
  go_enter Tryd.func10, Tryd.ntmps10
  go_wp2
  go_ret2
  exact ⟨rfl, rfl⟩

set_option maxHeartbeats 2000000 in
theorem code_err (w : World) (a : Nat → Addr) (h : Errs w a) (i : Nat) (hi : i < 7) :
    Calls Tryd.prog 10 #[.iface 137 (.pointer (some (a i)))] w fun e w' => e = .returned (.tuple #[.int .i64 ((i : Int) + 1), .int .i64 (-1)]) ∧ Below w.heap.size w w' := by
  have b1 : Below w.heap.size w (w.alloc (.cells #[.pointer none] 66)) := (Below.refl _ w).alloc (Nat.le_refl _) _
  have hE1 := (h.below b1 (Nat.le_refl _)).type
  go_enter Tryd.func10, Tryd.ntmps10
  go_wp2_with (go_at_call 24; refine (as_miss (a i) _ (.pointer none) _ hE1).mono ?_)
  rintro e w1 ⟨rfl, hw1⟩
  have b2 : Below w.heap.size w w1 := by
    rw [hw1]
    exact ((b1.alloc (by simp) _).alloc (by simp; omega) _).alloc (by simp; omega) _
  clear hw1
  have H1 := h.below b2 (Nat.le_refl _)
  have c0 := H1.cell 0 (by omega)
  have c1 := H1.cell 1 (by omega)
  have c2 := H1.cell 2 (by omega)
  have c3 := H1.cell 3 (by omega)
  have c4 := H1.cell 4 (by omega)
  have c5 := H1.cell 5 (by omega)
  have c6 := H1.cell 6 (by omega)
  go_wp2
  go_loop [26] (fun k => ∃ j : Nat, j ≤ i ∧ k = .int .i64 j) (fun k => 7 - (intOf k).toNat)
  case atStart => exact ⟨0, Nat.zero_le _, rfl⟩
  case round =>
    obtain ⟨j, hj, rfl⟩ := hrel
    clear c0 c1 c2 c3 c4 c5 c6
    have hj7 : j < 7 := by omega
    have cj := list_cell w1 a j hj7
    have b3 := b2.alloc (w := w1) b2.size (.cells #[.iface 137 (.pointer (some (a 0))), .iface 137 (.pointer (some (a 1))), .iface 137 (.pointer (some (a 2))), .iface 137 (.pointer (some (a 3))), .iface 137 (.pointer (some (a 4))), .iface 137 (.pointer (some (a 5))), .iface 137 (.pointer (some (a 6)))] 36)
    have H3 := h.below b3 (Nat.le_refl _)
    by_cases e : i = j
    · subst e
      have hd : hitE i i = true := by simp [hitE]
      go_wp2_with (go_at_call 25; refine (is_list _ a H3 i i hi hj7).mono ?_; rintro e w' ⟨rfl, rfl⟩)
      go_ret2
      exact ⟨rfl, b3⟩
    · have hd : hitE i j = false := by simp [hitE, e]
      have hlt : j < i := by omega
      clear e
      go_wp2_with (go_at_call 25; refine (is_list _ a H3 i j hi hj7).mono ?_; rintro e w' ⟨rfl, rfl⟩)
      go_round
      case rel => exact ⟨j + 1, by omega, by go_num⟩
      case measure => simp [intOf]; omega

set_option maxHeartbeats 2000000 in
theorem code_fault (w : World) (a : Nat → Addr) (h : Errs w a) (i : Nat) (hi : i < 7) (fb : Nat) (z : Int) (h1 : w.cell? ⟨fb, 0, none⟩ = some (.iface 137 (.pointer (some (a i))))) (h2 : w.cell? ⟨fb, 1, none⟩ = some (.int .i64 z)) :
    Calls Tryd.prog 10 #[.iface 66 (.pointer (some ⟨fb, 0, none⟩))] w fun e w' => e = .returned (.tuple #[.int .i64 ((i : Int) + 1), .int .i64 z]) ∧ Below w.heap.size w w' := by
  have b1 : Below w.heap.size w (w.alloc (.cells #[.pointer none] 66)) := (Below.refl _ w).alloc (Nat.le_refl _) _
  have hE1 := (h.below b1 (Nat.le_refl _)).type
  have hfb : fb < w.heap.size := lt_of_cell h1
  have ht0 : (w.alloc (.cells #[.pointer none] 66)).cell? ⟨w.heap.size, 0, none⟩ = some (.pointer none) := by simp
  have hf0 : (w.alloc (.cells #[.pointer none] 66)).frozen? ⟨w.heap.size, 0, none⟩ = false := by simp
  go_enter Tryd.func10, Tryd.ntmps10
  go_wp2_with (go_at_call 24; refine (as_hit ⟨fb, 0, none⟩ ⟨w.heap.size, 0, none⟩ (.pointer none) _ hE1 ht0 hf0).mono ?_)
  rintro e w1 ⟨rfl, hw1⟩
  have b2 : Below w.heap.size w w1 := by
    rw [hw1]
    exact ((((b1.alloc (by simp) _).alloc (by simp; omega) _).alloc (by simp; omega) _).alloc (by simp; omega) _).setCell (p := ⟨w.heap.size, 0, none⟩) (Nat.le_refl _) _
  have ct : w1.cell? ⟨w.heap.size, 0, none⟩ = some (.pointer (some ⟨fb, 0, none⟩)) := by
    rw [hw1]
    refine World.cell?_setCell_same _ _ _ (u := .pointer none) ?_
    rw [World.cell?_alloc_lt _ _ _ (by simp; omega), World.cell?_alloc_lt _ _ _ (by simp; omega), World.cell?_alloc_lt _ _ _ (by simp; omega), World.cell?_alloc_lt _ _ _ (by simp)]
    exact ht0
  clear hw1
  have H1 := h.below b2 (Nat.le_refl _)
  have c0 := H1.cell 0 (by omega)
  have c1 := H1.cell 1 (by omega)
  have c2 := H1.cell 2 (by omega)
  have c3 := H1.cell 3 (by omega)
  have c4 := H1.cell 4 (by omega)
  have c5 := H1.cell 5 (by omega)
  have c6 := H1.cell 6 (by omega)
  have d1 := (b2.cell (p := ⟨fb, 0, none⟩) hfb).trans h1
  have d2 := (b2.cell (p := ⟨fb, 1, none⟩) hfb).trans h2
  go_wp2
  go_loop [26] (fun k => ∃ j : Nat, j ≤ i ∧ k = .int .i64 j) (fun k => 7 - (intOf k).toNat)
  case atStart => exact ⟨0, Nat.zero_le _, rfl⟩
  case round =>
    obtain ⟨j, hj, rfl⟩ := hrel
    clear c0 c1 c2 c3 c4 c5 c6 ct
    have hj7 : j < 7 := by omega
    have cj := list_cell w1 a j hj7
    have b3 := b2.alloc (w := w1) b2.size (.cells #[.iface 137 (.pointer (some (a 0))), .iface 137 (.pointer (some (a 1))), .iface 137 (.pointer (some (a 2))), .iface 137 (.pointer (some (a 3))), .iface 137 (.pointer (some (a 4))), .iface 137 (.pointer (some (a 5))), .iface 137 (.pointer (some (a 6)))] 36)
    have H3 := h.below b3 (Nat.le_refl _)
    have e1 := (b3.cell (p := ⟨fb, 0, none⟩) hfb).trans h1
    by_cases e : i = j
    · subst e
      have hd : hitE i i = true := by simp [hitE]
      go_wp2_with (go_at_call 25; refine (is_fault _ a H3 ⟨fb, 0, none⟩ rfl i i hi hj7 e1).mono ?_; rintro e w' ⟨rfl, rfl⟩)
      go_ret2
      exact ⟨rfl, b3⟩
    · have hd : hitE i j = false := by simp [hitE, e]
      have hlt : j < i := by omega
      clear e
      go_wp2_with (go_at_call 25; refine (is_fault _ a H3 ⟨fb, 0, none⟩ rfl i j hi hj7 e1).mono ?_; rintro e w' ⟨rfl, rfl⟩)
      go_round
      case rel => exact ⟨j + 1, by omega, by go_num⟩
      case measure => simp [intOf]; omega

end Go.Proofs.YtdihdnhofgjhnaaDoor
