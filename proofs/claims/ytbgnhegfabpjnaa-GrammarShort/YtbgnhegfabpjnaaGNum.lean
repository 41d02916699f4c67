/- The program: the first numbers. -/
import Derived.Test.YtbgnhegfabpjnaaGWrk
namespace Go.Proofs.Ytbgnhegfabpjnaa
open Go.RowKit
set_option linter.unusedVariables false
set_option maxRecDepth 100000

def numsL (N : Nat) : List Int := (List.range N).map fun n : Nat => (n : Int)
theorem numsL_len (N : Nat) : (numsL N).length = N := by simp [numsL]

set_option maxHeartbeats 2000000 in
theorem firstNumbers_any (N : Nat) (hN : N ≤ 300) (w : World) :
    Calls Try.prog 37 #[.int .i64 N] w fun e w' => e = .returned (.slice (some ⟨w.heap.size, 0, none⟩) N N) ∧ Row w' w.heap.size (numsL N) ∧ w'.heap.size = w.heap.size + 1 ∧ Below w.heap.size w w' := by
  have hmk := makeInts N (by omega)
  have HR0 : Hid (Row (w.alloc (.cells (intsA (List.replicate N 0)) 3)) w.heap.size (List.replicate N 0)) := by
    show (w.alloc _).heap[w.heap.size]? = _
    show (w.heap.push _)[w.heap.size]? = _
    exact Array.getElem?_push_size
  have hb0 := alloc_below w (.cells (intsA (List.replicate N 0)) 3)
  have hs0 := alloc_size w (.cells (intsA (List.replicate N 0)) 3)
  go_enter Try.func37, Try.ntmps37
  go_wp2
  clear hmk
  generalize w.alloc (.cells (intsA (List.replicate N 0)) 3) = w1 at *
  have HS0 : Hid (w1.heap.size = w.heap.size + 1) := hs0
  clear hs0
  go_loopw [9] (fun i wr => ∃ (k : Nat) (L : List Int), k ≤ N ∧ i = .int .i64 k ∧ Hid (Row wr w.heap.size L) ∧ Hid (L.length = N) ∧ Hid (∀ j, j < k → L.getD j 0 = j) ∧ Hid (wr.heap.size = w.heap.size + 1) ∧ Below w.heap.size w wr) (fun i _ => N - (intOf i).toNat)
  case atStart => exact ⟨0, List.replicate N 0, Nat.zero_le _, rfl, HR0, (by show _ = _; simp), (fun j hj => by omega), HS0, hb0⟩
  case round =>
    obtain ⟨k, L, hk, rfl, HR, HL, HA, HS, hbw⟩ := hrel
    have hDlt := HR.out.lt
    by_cases hlt : k < N
    · have cD := HR.out.cell (j := k) (by rw [HL.out]; exact hlt)
      have fz := HR.out.fz k
      have HR2 : Hid (Row (wr.setCell ⟨w.heap.size, k, none⟩ (.int .i64 (k : Int))) w.heap.size (L.set k (k : Int))) := HR.out.set k (k : Int)
      have HA2 : Hid (∀ j, j < k + 1 → (L.set k (k : Int)).getD j 0 = j) := fun j hj => by
        by_cases e : j = k
        · subst e; simp [List.getD, HL.out, hlt]
        · have := HA.out j (by omega)
          simp only [List.getD] at *
          rw [List.getElem?_set_ne (Ne.symm e)]; exact this
      have HL2 : Hid ((L.set k (k : Int)).length = N) := by show _ = _; rw [List.length_set]; exact HL.out
      have hb2 := below_set hbw (Nat.le_refl _) k (.int .i64 (k : Int))
      have HS2 : Hid ((wr.setCell ⟨w.heap.size, k, none⟩ (.int .i64 (k : Int))).heap.size = w.heap.size + 1) := by
        show _ = _
        rw [← HS.out]; simp
      generalize L.getD k 0 = old at *
      clear HR HA HL HS
      go_wp2
      go_roundw
      case rel => exact ⟨k + 1, _, by omega, by go_num, HR2, HL2, HA2, HS2, hb2⟩
      case measure => simp [intOf]; omega
    · have HE : Hid (L = numsL N) := by
        show _ = _
        apply List.ext_getElem
        · rw [HL.out, numsL_len]
        · intro j h1 h2
          have := HA.out j (by rw [HL.out] at h1; omega)
          simp [List.getD, h1] at this
          simp [numsL, this]
      clear HA HL
      go_wp2
      go_ret
      exact ⟨rfl, by rw [← HE.out]; exact HR.out, HS.out, hbw⟩

end Go.Proofs.Ytbgnhegfabpjnaa
