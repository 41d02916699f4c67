/- The document's answer: whether an automaton is valid. -/
import Derived.Test.YtifhoeffkehcmaaAutO
namespace Go.Proofs.Ytifhoeffkehcmaa
open Go.RowKit
set_option linter.unusedVariables false
set_option maxRecDepth 100000

theorem Mvs.cell {w : World} {a : Option Addr} {n c : Nat} {ms : List Mv} (h : Mvs w (.slice a n c) ms) {j : Nat} (hj : j < ms.length) : ∃ g o, a = some ⟨g, o, none⟩ ∧ n = ms.length ∧ g < w.heap.size ∧ w.cell? ⟨g, o + j * 3, none⟩ = some (.int .i64 (ms.getD j m0).1) ∧ w.cell? ⟨g, o + j * 3 + 1, none⟩ = some (.int .i64 (ms.getD j m0).2.1) ∧ w.cell? ⟨g, o + j * 3 + 2, none⟩ = some (.int .i64 (ms.getD j m0).2.2) := by
  rcases h with ⟨rfl, _⟩ | ⟨b, off, c, e, hb, hc⟩
  · simp at hj
  · simp only [Value.slice.injEq] at e
    obtain ⟨rfl, rfl, rfl⟩ := e
    exact ⟨b, off, rfl, rfl, hb, hc j hj⟩
theorem Sts.cell {w : World} {a : Option Addr} {n c : Nat} {l : List St} (h : Sts w (.slice a n c) l) {j : Nat} (hj : j < l.length) : ∃ g o ma mc, a = some ⟨g, o, none⟩ ∧ n = l.length ∧ g < w.heap.size ∧ w.cell? ⟨g, o + j * 2, none⟩ = some (.int .i64 (l.getD j s0).1) ∧ w.cell? ⟨g, o + j * 2 + 1, none⟩ = some (.slice ma (l.getD j s0).2.length mc) ∧ Mvs w (.slice ma (l.getD j s0).2.length mc) (l.getD j s0).2 := by
  rcases h with ⟨rfl, _⟩ | ⟨b, off, c, e, hb, hc⟩
  · simp at hj
  · simp only [Value.slice.injEq] at e
    obtain ⟨rfl, rfl, rfl⟩ := e
    obtain ⟨h1, mv, h2, h3⟩ := hc j hj
    obtain ⟨ma, mc, rfl⟩ := h3.slice
    exact ⟨b, off, ma, mc, rfl, rfl, hb, h1, h2, h3⟩

set_option maxHeartbeats 400000 in
theorem rok_long (a : Option Addr) (n c : Nat) (w : World) (h : 500 < n) :
    Calls Try.prog 5 #[.agg #[.slice a n c]] w fun e w' => e = .returned (.bool false) ∧ Below w.heap.size w w' := by
  go_enter Try.func5, Try.ntmps5
  go_wp2
  go_ret
  exact ⟨rfl, box_below w _⟩

set_option maxHeartbeats 4000000 in
theorem rok_row (a : Option Addr) (c : Nat) (l : List St) (w : World) (hl : l.length ≤ 500) (hv0 : Sts w (.slice a l.length c) l) :
    Calls Try.prog 5 #[.agg #[.slice a l.length c]] w fun e w' => e = .returned (.bool (l.all (stOk l.length))) ∧ Below w.heap.size w w' := by
  have HC : Hid (Sts w (.slice a l.length c) l) := hv0
  clear hv0
  have hl5 : ¬ (500 : Int) < (l.length : Int) := by omega
  go_enter Try.func5, Try.ntmps5
  go_wp2
  have hB0 := box_below w (.slice a l.length c)
  have hB1 := box_size w (.slice a l.length c)
  have hB2 := box_cell w (.slice a l.length c)
  unfold boxA at hB0 hB1 hB2
  generalize hw0 : w.alloc (.cells #[.slice a l.length c] 24) = w0 at *
  have HW0 : Hid (w.alloc (.cells #[.slice a l.length c] 24) = w0) := hw0
  clear hw0
  go_loopw [3] (fun i wr => ∃ k : Nat, k ≤ l.length ∧ i = .int .i64 k ∧ Hid (l.all (stOk l.length) = (l.drop k).all (stOk l.length)) ∧ Below (w.heap.size + 1) w0 wr) (fun i _ => l.length - (intOf i).toNat)
  case atStart => exact ⟨0, Nat.zero_le _, rfl, (by show _ = _; rw [List.drop_zero]), Below.refl _ _⟩
  case round =>
    obtain ⟨k, hk, rfl, HM, hbw⟩ := hrel
    have hbx := hB0.trans (hbw.mono (Nat.le_succ _))
    have hsz := hbw.size
    have hlt0 : w.heap.size < wr.heap.size := by omega
    have cB := (hbw.cell (p := ⟨w.heap.size, 0, none⟩) (Nat.lt_succ_self _)).trans hB2
    by_cases hlt : k < l.length
    · have HA : Hid ((l.drop k).all (stOk l.length) = (stOk l.length (l.getD k s0) && (l.drop (k + 1)).all (stOk l.length))) := all_drop l s0 _ k hlt
      obtain ⟨g, o, ma, mc, rfl, _, hg, d0, d1, hM⟩ := HC.out.cell hlt
      generalize l.getD k s0 = r at *
      obtain ⟨rule, ms⟩ := r
      simp only at d0 d1 hM
      have HD : Hid (w.cell? ⟨g, o + k * 2, none⟩ = some (.int .i64 rule)) := d0
      have HD1 : Hid (w.cell? ⟨g, o + k * 2 + 1, none⟩ = some (.slice ma ms.length mc)) := d1
      have HV : Hid (Mvs w (.slice ma ms.length mc) ms) := hM
      clear d0 d1 hM
      go_wp2
      go_loopw [4, 5] (fun x i wq => ∃ (j : Nat) (last : Int), j ≤ ms.length ∧ x = .int .i64 last ∧ i = .int .i64 j ∧ -1 ≤ last ∧ last ≤ 1114111 ∧ (j : Int) ≤ last + 1 ∧ Hid (mvOk l.length (-1) ms = mvOk l.length last (ms.drop j)) ∧ Below (w.heap.size + 1) w0 wq) (fun _ i _ => ms.length - (intOf i).toNat)
      case atStart => exact ⟨0, -1, Nat.zero_le _, rfl, rfl, by omega, by omega, by omega, (by show _ = _; rw [List.drop_zero]), hbw⟩
      case round =>
        clear hbw hbx hsz hlt0 cB
        obtain ⟨j, last, hj, rfl, rfl, hl0, hl1, hjl, HX, hbq⟩ := hrel
        have hbx := hB0.trans (hbq.mono (Nat.le_succ _))
        have hsz := hbq.size
        have hlt0 : w.heap.size < wr.heap.size := by omega
        have cB := (hbq.cell (p := ⟨w.heap.size, 0, none⟩) (Nat.lt_succ_self _)).trans hB2
        have c0 := (hbx.cell (p := ⟨g, o + k * 2, none⟩) hg).trans HD.out
        have c1 := (hbx.cell (p := ⟨g, o + k * 2 + 1, none⟩) hg).trans HD1.out
        by_cases hjt : j < ms.length
        · obtain ⟨g1, o1, rfl, _, hg1, e0, e1, e2⟩ := HV.out.cell hjt
          have f0 := (hbx.cell (p := ⟨g1, o1 + j * 3, none⟩) hg1).trans e0
          have f1 := (hbx.cell (p := ⟨g1, o1 + j * 3 + 1, none⟩) hg1).trans e1
          have f2 := (hbx.cell (p := ⟨g1, o1 + j * 3 + 2, none⟩) hg1).trans e2
          have HY : Hid (_ → _) := mvOk_step l.length last ms j hjt
          have HN : Hid (_ → _) := mvOk_no l.length last ms j hjt
          clear e0 e1 e2
          generalize ms.getD j m0 = q at *
          obtain ⟨lo, hi, to⟩ := q
          simp only at f0 f1 f2
          have fin : ¬ (last < lo ∧ lo ≤ hi ∧ hi ≤ 1114111 ∧ 0 ≤ to ∧ to < (l.length : Int)) → l.all (stOk l.length) = false := fun hn => by
            rw [HM.out, HA.out]
            have : stOk l.length (rule, ms) = false := by unfold stOk; simp only; rw [HX.out, HN.out hn, Bool.and_false]
            rw [this, Bool.false_and]
          have FIN : Hid (_ → _) := fin
          clear fin
          by_cases a1 : lo ≤ last
          · have HS : Hid (l.all (stOk l.length) = false) := FIN.out (by omega)
            clear FIN HY HN
            go_wp2
            go_ret
            exact ⟨by rw [HS.out]; rfl, hB0.trans ((hbq.alloc (by omega) _).mono (by omega))⟩
          · by_cases a2 : hi < lo
            · have HS : Hid (l.all (stOk l.length) = false) := FIN.out (by omega)
              clear FIN HY HN
              go_wp2
              go_ret
              exact ⟨by rw [HS.out]; rfl, hB0.trans ((hbq.alloc (by omega) _).mono (by omega))⟩
            · by_cases a3 : hi > 1114111
              · have HS : Hid (l.all (stOk l.length) = false) := FIN.out (by omega)
                clear FIN HY HN
                go_wp2
                go_ret
                exact ⟨by rw [HS.out]; rfl, hB0.trans ((hbq.alloc (by omega) _).mono (by omega))⟩
              · by_cases a4 : to < 0
                · have HS : Hid (l.all (stOk l.length) = false) := FIN.out (by omega)
                  clear FIN HY HN
                  go_wp2
                  go_ret
                  exact ⟨by rw [HS.out]; rfl, hB0.trans ((hbq.alloc (by omega) _).mono (by omega))⟩
                · by_cases a5 : to ≥ (l.length : Int)
                  · have HS : Hid (l.all (stOk l.length) = false) := FIN.out (by omega)
                    clear FIN HY HN
                    go_wp2
                    go_ret
                    exact ⟨by rw [HS.out]; rfl, hB0.trans ((hbq.alloc (by omega) _).mono (by omega))⟩
                  · have HS : Hid (mvOk l.length (-1) ms = mvOk l.length hi (ms.drop (j + 1))) := by show _ = _; rw [HX.out]; exact HY.out (by simp only; omega)
                    clear FIN HY HN
                    go_wp2
                    go_roundw
                    case rel => exact ⟨j + 1, hi, by omega, by go_num, by go_num, by omega, by omega, by omega, HS, hbq.alloc (by omega) _⟩
                    case measure => simp [intOf]; omega
        · have HS : Hid (mvOk l.length (-1) ms = true) := by
            show _ = _; rw [HX.out, List.drop_eq_nil_of_le (by omega)]; rfl
          by_cases a6 : rule < -1
          · have HT : Hid (l.all (stOk l.length) = false) := by
              show _ = _; rw [HM.out, HA.out]
              have : stOk l.length (rule, ms) = false := by unfold stOk; simp only; rw [decide_eq_false (by omega), Bool.false_and]
              rw [this, Bool.false_and]
            go_wp2
            go_ret
            exact ⟨by rw [HT.out]; rfl, hbx⟩
          · have HT : Hid (l.all (stOk l.length) = (l.drop (k + 1)).all (stOk l.length)) := by
              show _ = _; rw [HM.out, HA.out]
              have : stOk l.length (rule, ms) = true := by unfold stOk; simp only; rw [decide_eq_true (by omega), HS.out]; rfl
              rw [this, Bool.true_and]
            go_wp2
            go_roundw
            case rel => exact ⟨k + 1, by omega, by go_num, HT, hbq⟩
            case measure => simp [intOf]; omega
    · have HS : Hid (l.all (stOk l.length) = true) := by
        show _ = _; rw [HM.out, List.drop_eq_nil_of_le (by omega)]; rfl
      go_wp2
      go_ret
      exact ⟨by rw [HS.out]; rfl, hbx⟩

theorem rok_any (v : Value) (l : List St) (w : World) (hv : Sts w v l) :
    Calls Try.prog 5 #[.agg #[v]] w fun e w' => e = .returned (.bool (autoOk l)) ∧ Below w.heap.size w w' := by
  obtain ⟨a, c, rfl⟩ := hv.slice
  by_cases hl : 500 < l.length
  · rw [autoOk_long hl]
    exact rok_long a _ c w hl
  · rw [autoOk_short (by omega)]
    exact rok_row a c l w (by omega) hv

end Go.Proofs.Ytifhoeffkehcmaa
