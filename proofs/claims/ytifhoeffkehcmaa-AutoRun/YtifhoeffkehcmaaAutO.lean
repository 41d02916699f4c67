/- The program: whether an automaton is valid. -/
import Derived.Test.YtifhoeffkehcmaaAutI
namespace Go.Proofs.Ytifhoeffkehcmaa
open Go.RowKit
set_option linter.unusedVariables false
set_option maxRecDepth 100000

/-- an automaton as a value -/
def av (v : Value) : Value := .agg #[v]
/-- the block of a boxed automaton -/
def boxA (w : World) (v : Value) : World := w.alloc (.cells #[v] 24)
theorem box_below (w : World) (v : Value) : Below w.heap.size w (boxA w v) := (Below.refl _ w).alloc (Nat.le_refl _) _
theorem box_size (w : World) (v : Value) : (boxA w v).heap.size = w.heap.size + 1 := Array.size_push ..
theorem box_cell (w : World) (v : Value) : (boxA w v).cell? ⟨w.heap.size, 0, none⟩ = some v := by
  have h : (boxA w v).heap[w.heap.size]? = some (.cells #[v] 24) := by
    show (w.heap.push _)[w.heap.size]? = _
    exact Array.getElem?_push_size
  simp only [World.cell?, h]; rfl

set_option maxHeartbeats 400000 in
theorem aok_long (a : Option Addr) (n c : Nat) (w : World) (h : 500 < n) :
    Calls Try.prog 6 #[.agg #[.slice a n c]] w fun e w' => e = .returned (.bool false) ∧ Below w.heap.size w w' := by
  go_enter Try.func6, Try.ntmps6
  go_wp2
  go_ret
  exact ⟨rfl, box_below w _⟩

set_option maxHeartbeats 400000 in
theorem aok_empty (a : Option Addr) (c : Nat) (w : World) :
    Calls Try.prog 6 #[.agg #[.slice a 0 c]] w fun e w' => e = .returned (.bool true) ∧ Below w.heap.size w w' := by
  go_enter Try.func6, Try.ntmps6
  go_wp2
  refine wp_loop_rounds 1 ?_
  rw [rounds_succ]
  go_wp2
  go_ret
  exact ⟨rfl, box_below w _⟩

set_option maxHeartbeats 2000000 in
theorem aok_row (b off c : Nat) (l : List St) (w : World) (hl : l.length ≤ 500) (hb : b < w.heap.size) (hc0 : StCells w b off l) :
    Calls Try.prog 6 #[.agg #[.slice (some ⟨b, off, none⟩) l.length c]] w fun e w' => e = .returned (.bool (l.all (stOk l.length))) ∧ Below w.heap.size w w' := by
  have HC : Hid (StCells w b off l) := hc0
  clear hc0
  have hl5 : ¬ (500 : Int) < (l.length : Int) := by omega
  go_enter Try.func6, Try.ntmps6
  go_wp2
  have hB0 := box_below w (.slice (some ⟨b, off, none⟩) l.length c)
  have hB1 := box_size w (.slice (some ⟨b, off, none⟩) l.length c)
  have hB2 := box_cell w (.slice (some ⟨b, off, none⟩) l.length c)
  unfold boxA at hB0 hB1 hB2
  generalize hw0 : w.alloc (.cells #[.slice (some ⟨b, off, none⟩) l.length c] 24) = w0 at *
  have HW0 : Hid (w.alloc (.cells #[.slice (some ⟨b, off, none⟩) l.length c] 24) = w0) := hw0
  clear hw0
  go_loopw [12] (fun i wr => ∃ k : Nat, k ≤ l.length ∧ i = .int .i64 k ∧ Hid (l.all (stOk l.length) = (l.drop k).all (stOk l.length)) ∧ Below (w.heap.size + 1) w0 wr) (fun i _ => l.length - (intOf i).toNat)
  case atStart => exact ⟨0, Nat.zero_le _, rfl, (by show _ = _; rw [List.drop_zero]), Below.refl _ _⟩
  case round =>
    obtain ⟨k, hk, rfl, HM, hbw⟩ := hrel
    have hbx := hB0.trans (hbw.mono (Nat.le_succ _))
    have hsz := hbw.size
    have hlt0 : w.heap.size < wr.heap.size := by omega
    by_cases hlt : k < l.length
    · have HC2 := HC.out.below hb hbx
      obtain ⟨c0, mv, c1, hM⟩ := HC2 k hlt
      have cB := (hbw.cell (p := ⟨w.heap.size, 0, none⟩) (Nat.lt_succ_self _)).trans hB2
      have HA : Hid ((l.drop k).all (stOk l.length) = (stOk l.length (l.getD k s0) && (l.drop (k + 1)).all (stOk l.length))) := all_drop l s0 _ k hlt
      clear HC2 hB2
      generalize l.getD k s0 = r at *
      obtain ⟨rule, ms⟩ := r
      simp only at c0 hM
      by_cases g1 : rule < -1
      · have HS : Hid (l.all (stOk l.length) = false) := by
          show _ = _; rw [HM.out, HA.out]
          have : stOk l.length (rule, ms) = false := by unfold stOk; simp only; rw [decide_eq_false (by omega), Bool.false_and]
          rw [this, Bool.false_and]
        obtain ⟨ma, mc, rfl⟩ := hM.slice
        clear hM
        go_wp2
        go_ret
        exact ⟨by rw [HS.out]; rfl, hB0.trans ((hbw.alloc (by omega) _).mono (by omega))⟩
      · have HS : Hid (l.all (stOk l.length) = (mvOk l.length (-1) ms && (l.drop (k + 1)).all (stOk l.length))) := by
          show _ = _; rw [HM.out, HA.out]
          have : stOk l.length (rule, ms) = mvOk l.length (-1) ms := by unfold stOk; simp only; rw [decide_eq_true (by omega), Bool.true_and]
          rw [this]
        have HV : Hid (Mvs wr mv ms) := hM
        obtain ⟨ma, mc, rfl⟩ := hM.slice
        clear hM HA HM
        go_wp2_with fail
        refine (inorder_any _ l.length ms _ (HV.out.below ((Below.refl _ _).alloc (Nat.le_refl _) _))).mono ?_
        rintro e w1 ⟨rfl, hb1⟩
        have hb2 : Below (w.heap.size + 1) w0 w1 := (hbw.alloc (by omega) _).trans (hb1.mono (by simp; omega))
        cases hq : mvOk l.length (-1) ms
        · rw [hq] at HS
          clear hb1
          go_wp2
          go_ret
          exact ⟨by rw [HS.out]; rfl, hB0.trans (hb2.mono (by omega))⟩
        · rw [hq] at HS
          clear hb1
          go_wp2
          go_roundw
          case rel => exact ⟨k + 1, by omega, by go_num, by show _ = _; rw [HS.out, Bool.true_and], hb2⟩
          case measure => simp [intOf]; omega
    · have HS : Hid (l.all (stOk l.length) = true) := by
        show _ = _; rw [HM.out, List.drop_eq_nil_of_le (by omega)]; rfl
      go_wp2
      go_ret
      exact ⟨by rw [HS.out]; rfl, hbx⟩

theorem autoOk_long {l : List St} (h : 500 < l.length) : autoOk l = false := by
  unfold autoOk; rw [decide_eq_false (by omega), Bool.false_and]
theorem autoOk_short {l : List St} (h : l.length ≤ 500) : autoOk l = l.all (stOk l.length) := by
  unfold autoOk; rw [decide_eq_true h, Bool.true_and]

theorem aok_any (v : Value) (l : List St) (w : World) (hv : Sts w v l) :
    Calls Try.prog 6 #[.agg #[v]] w fun e w' => e = .returned (.bool (autoOk l)) ∧ Below w.heap.size w w' := by
  by_cases hl : 500 < l.length
  · obtain ⟨a, c, rfl⟩ := hv.slice
    rw [autoOk_long hl]
    exact aok_long a _ c w hl
  · rw [autoOk_short (by omega)]
    rcases hv with ⟨rfl, a, c, rfl⟩ | ⟨b, off, c, rfl, hb, hc⟩
    · exact aok_empty a c w
    · exact aok_row b off c l w (by omega) hb hc

end Go.Proofs.Ytifhoeffkehcmaa
