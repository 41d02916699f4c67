import Derived.Test.YtbiiapdeincpbaaDoorCode
namespace Go.Proofs.YtbiiapdeincpbaaDoor
open Go.RowKit Go.Extern.Stop Go.Stop Go.Extern
set_option linter.unusedVariables false
set_option maxRecDepth 100000

set_option maxHeartbeats 2000000 in
theorem law_names (w : World) (a : Nat → Addr) (h : Errs w a) :
    Calls Tryd.prog 3 #[] w fun e w' => e = .returned (.bool true) ∧ Below w.heap.size w w' := by
  have c0 := h.cell 0 (by omega)
  have c1 := h.cell 1 (by omega)
  have c2 := h.cell 2 (by omega)
  have c3 := h.cell 3 (by omega)
  have c4 := h.cell 4 (by omega)
  have c5 := h.cell 5 (by omega)
  have c6 := h.cell 6 (by omega)
  go_enter Tryd.func3, Tryd.ntmps3
  go_wp2
  have b0 : Below w.heap.size w (w.alloc (.cells #[.iface 63 (.pointer (some (a 0))), .iface 63 (.pointer (some (a 1))), .iface 63 (.pointer (some (a 2))), .iface 63 (.pointer (some (a 3))), .iface 63 (.pointer (some (a 4))), .iface 63 (.pointer (some (a 5))), .iface 63 (.pointer (some (a 6)))] 23)) := (Below.refl _ w).alloc (Nat.le_refl _) _
  go_loopw [2] (fun k wr => ∃ j : Nat, j ≤ 7 ∧ k = .int .i64 j ∧ Below (w.heap.size + 1) (w.alloc (.cells #[.iface 63 (.pointer (some (a 0))), .iface 63 (.pointer (some (a 1))), .iface 63 (.pointer (some (a 2))), .iface 63 (.pointer (some (a 3))), .iface 63 (.pointer (some (a 4))), .iface 63 (.pointer (some (a 5))), .iface 63 (.pointer (some (a 6)))] 23)) wr) (fun k _ => 7 - (intOf k).toNat)
  case atStart => exact ⟨0, by omega, rfl, Below.refl _ _⟩
  case round =>
    obtain ⟨j, hj, rfl, hbr⟩ := hrel
    clear c0 c1 c2 c4 c5 c6
    have hb2 : Below w.heap.size w wr := b0.trans (hbr.mono (by omega))
    have Hr := h.below hb2 (Nat.le_refl _)
    have hsz := hb2.size
    by_cases hlt : j < 7
    · have cj := list_cell w a j hlt
      have cj2 : wr.cell? ⟨w.heap.size, j, none⟩ = some (.iface 63 (.pointer (some (a j)))) := (hbr.cell (p := ⟨w.heap.size, j, none⟩) (Nat.lt_succ_self _)).trans cj
      clear cj
      have hq : (((j : Int) + 1) != ((j : Int) + 1)) = false := by simp
      go_wp2_with (go_at_call 4; refine (code_err wr a Hr j hlt).mono ?_)
      rintro e w1 ⟨rfl, hb3⟩
      have hb4 : Below (w.heap.size + 1) (w.alloc (.cells #[.iface 63 (.pointer (some (a 0))), .iface 63 (.pointer (some (a 1))), .iface 63 (.pointer (some (a 2))), .iface 63 (.pointer (some (a 3))), .iface 63 (.pointer (some (a 4))), .iface 63 (.pointer (some (a 5))), .iface 63 (.pointer (some (a 6)))] 23)) w1 := hbr.trans (hb3.mono (by have := hbr.size; simp at this; omega))
      go_wp2
      go_roundw
      case rel => exact ⟨j + 1, by omega, by go_num, hb4⟩
      case measure => simp [intOf]; omega
    · have e7 : j = 7 := by omega
      subst e7
      have c3r := Hr.cell 3 (by omega)
      have b5 : Below w.heap.size w (wr.alloc (.cells #[.iface 63 (.pointer (some (a 3))), .int .i64 7] 29)) := hb2.alloc hsz _
      have H5 := h.below b5 (Nat.le_refl _)
      have f0 : (wr.alloc (.cells #[.iface 63 (.pointer (some (a 3))), .int .i64 7] 29)).cell? ⟨wr.heap.size, 0, none⟩ = some (.iface 63 (.pointer (some (a 3)))) := by simp
      have f1 : (wr.alloc (.cells #[.iface 63 (.pointer (some (a 3))), .int .i64 7] 29)).cell? ⟨wr.heap.size, 1, none⟩ = some (.int .i64 7) := by simp
      go_wp2_with (go_at_call 4; refine (code_fault _ a H5 3 (by omega) wr.heap.size 7 f0 f1).mono ?_)
      rintro e w1 ⟨rfl, hb6⟩
      go_wp2_with (go_at_call 4; refine (code_nil _).mono ?_; rintro e w' ⟨rfl, rfl⟩)
      go_ret
      exact ⟨rfl, b5.trans (hb6.mono b5.size)⟩

end Go.Proofs.YtbiiapdeincpbaaDoor
