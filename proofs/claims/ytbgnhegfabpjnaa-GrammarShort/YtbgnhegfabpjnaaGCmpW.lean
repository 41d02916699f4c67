/- The program: compare. -/
import Derived.Test.YtbgnhegfabpjnaaGCmp
import Derived.StillTailTactics
namespace Go.Proofs.Ytbgnhegfabpjnaa
open Go.RowKit
set_option linter.unusedVariables false
set_option maxRecDepth 100000

set_option maxHeartbeats 4000000 in
theorem compare_any (a b : SF) (w : World) : Calls Try.prog 27 #[sfV a, sfV b] w fun e w' => e = .returned (.int .i64 (cmpF a b)) ∧ Below w.heap.size w w' := by
  have hC1 := Try.cmp_Compare_int (knF b) (knF a)
  have hC2 := Try.cmp_Compare_int ((encL (txF a)).length : Int) ((encL (txF b)).length : Int)
  have hC3 := compareS_any (encB a) (encB b)
  rw [encB_list, encB_list] at hC3
  have hOr := or_any (Lib.compareInt (knF b) (knF a)) (Lib.compareInt ((encL (txF a)).length : Int) ((encL (txF b)).length : Int)) (cmpY (encL (txF a)) (encL (txF b)))
  have hs1 : (encB a).size = (encL (txF a)).length := encB_size a
  have hs2 : (encB b).size = (encL (txF b)).length := encB_size b
  have HE : Hid (cmpF a b = orZ [Lib.compareInt (knF b) (knF a), Lib.compareInt ((encL (txF a)).length : Int) ((encL (txF b)).length : Int), cmpY (encL (txF a)) (encL (txF b))]) := rfl
  unfold sfV
  generalize Lib.compareInt (knF b) (knF a) = z1 at *
  generalize cmpY (encL (txF a)) (encL (txF b)) = z3 at *
  generalize knF a = ka at *
  generalize knF b = kb at *
  rw [← hs1, ← hs2] at hC2 hOr HE
  generalize Lib.compareInt ((encB a).size : Int) ((encB b).size : Int) = z2 at *
  generalize encB a = sa at *
  generalize encB b = sb at *
  clear hs1 hs2
  go_enter Try.func27, Try.ntmps27
  go_wp2_with fail
  have two : ∀ (W : World) (x y : Value), Below W.heap.size W (W.alloc (.cells #[x, y] 35)) ∧ W.heap.size < (W.alloc (.cells #[x, y] 35)).heap.size ∧ (W.alloc (.cells #[x, y] 35)).cell? ⟨W.heap.size, 0, none⟩ = some x ∧ (W.alloc (.cells #[x, y] 35)).cell? ⟨W.heap.size, 1, none⟩ = some y := fun W x y => by
    have h : (W.alloc (.cells #[x, y] 35)).heap[W.heap.size]? = some (.cells #[x, y] 35) := by
      show (W.heap.push _)[W.heap.size]? = _
      exact Array.getElem?_push_size
    refine ⟨alloc_below _ _, by rw [alloc_size]; omega, ?_, ?_⟩ <;> · simp only [World.cell?, h]; rfl
  obtain ⟨p1, p2, p3, p4⟩ := two w (.int .i64 ka) (.string sa)
  have hsz1 := alloc_size w (.cells #[.int .i64 ka, .string sa] 35)
  obtain ⟨r1, r2, r3, r4⟩ := two (w.alloc (.cells #[.int .i64 ka, .string sa] 35)) (.int .i64 kb) (.string sb)
  rw [hsz1] at r1 r2 r3 r4
  have p3' := (r1.cell (p := ⟨w.heap.size, 0, none⟩) (by show w.heap.size < _; omega)).trans p3
  have p4' := (r1.cell (p := ⟨w.heap.size, 1, none⟩) (by show w.heap.size < _; omega)).trans p4
  have hbb : Below w.heap.size w ((w.alloc (.cells #[.int .i64 ka, .string sa] 35)).alloc (.cells #[.int .i64 kb, .string sb] 35)) := p1.trans (r1.mono (by omega))
  generalize (w.alloc (.cells #[.int .i64 ka, .string sa] 35)).alloc (.cells #[.int .i64 kb, .string sb] 35) = W at *
  have hWl : w.heap.size < W.heap.size := by omega
  clear p1 p2 p3 p4 r1 hsz1 two
  go_still_tail 17, (show Try.prog.follows .mixedOrders = true by kernel_rfl)
  still_call (hC1 _)
  repeat still_step
  still_call (hC2 _)
  repeat still_step
  still_call (hC3 _)
  repeat still_step
  refine wpStill_nil ?_
  have hb9 : Below w.heap.size w (W.alloc (.cells #[.int .i64 z1, .int .i64 z2, .int .i64 z3] 3)).drew := (hbb.trans ((alloc_below W _).mono (show w.heap.size ≤ W.heap.size by omega))).trans ⟨rfl, rfl, rfl, Nat.le_refl _, fun _ _ => rfl⟩
  obtain ⟨o0, o1, o2⟩ := box3_cells W (.int .i64 z1) (.int .i64 z2) (.int .i64 z3) 3
  have hO9 := hOr W.heap.size (W.alloc (.cells #[.int .i64 z1, .int .i64 z2, .int .i64 z3] 3)).drew (by show _ < (W.alloc _).heap.size; rw [alloc_size]; exact Nat.lt_succ_self _) o0 o1 o2
  clear o0 o1 o2
  go_wp2_with fail
  refine hO9.mono ?_
  rintro e w1 ⟨rfl, hw1⟩
  rw [hw1]
  clear hw1
  go_wp2
  go_ret
  exact ⟨by rw [HE.out]; rfl, hb9⟩

end Go.Proofs.Ytbgnhegfabpjnaa
