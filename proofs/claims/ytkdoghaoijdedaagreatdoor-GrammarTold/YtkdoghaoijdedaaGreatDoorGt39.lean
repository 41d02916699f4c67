/- Texts of the proof, put together: GLvW, GLvE. -/
import Derived.Test.YtkdoghaoijdedaaGreatDoorGt07
import Derived.StillTailTactics
namespace Go.Proofs.YtkdoghaoijdedaaGreatDoor
open Go.RowKit
set_option linter.unusedVariables false
set_option maxRecDepth 100000

set_option maxHeartbeats 8000000 in
theorem rlives_any (t s : Int) (N : Nat) (ps : List PdR) (ls ss : List Int) (pv lv sv : Value) (w : World) (hN : N ≤ 300) (hps : ps.length ≤ 400) (hok : ∀ m, m < ps.length → PdOk N (ps.getD m noPd)) (h : PdsM w pv ps) :
    Calls Tryz.prog 14 #[gv ⟨t, N, s, ps, ls, ss⟩ pv lv sv] w fun e w' => ∃ L, e = .returned (.slice (some ⟨w.heap.size + 1, 0, none⟩) N N) ∧ RowB w' (w.heap.size + 1) L ∧ L.length = N ∧ (∀ n, factB L n = hgtB true (prsS ps) N n) ∧ Below w.heap.size w w' := by
  have hB0 := boxG_below w ⟨t, N, s, ps, ls, ss⟩ pv lv sv
  have hB1 := boxG_size w ⟨t, N, s, ps, ls, ss⟩ pv lv sv
  have hB2 := boxG_box w ⟨t, N, s, ps, ls, ss⟩ pv lv sv
  obtain ⟨pa, pc, rfl⟩ := h.slice
  have HP : Hid (PdsM w (.slice pa ps.length pc) ps) := h
  have HOK : Hid (∀ m, m < ps.length → PdOk N (ps.getD m noPd)) := hok
  clear h hok
  have HLT : Hid (∀ p ∈ prsS ps, p.left < N) := by
    intro p hp
    obtain ⟨q, hq, rfl⟩ := List.mem_map.1 hp
    obtain ⟨m, hm, e⟩ := List.getElem_of_mem hq
    have := HOK.out m hm
    simp only [List.getD, List.getElem?_eq_getElem hm, Option.getD_some, e] at this
    unfold PdOk at this
    show q.left.toNat < N
    omega
  have hmk := makeBoolsT N (by omega) (boxG w ⟨t, N, s, ps, ls, ss⟩ (.slice pa ps.length pc) lv sv)
  have hA1 := alloc_below (boxG w ⟨t, N, s, ps, ls, ss⟩ (.slice pa ps.length pc) lv sv) (.cells (boolsA (List.replicate N false)) 4)
  have HR0 : Hid (RowB ((boxG w ⟨t, N, s, ps, ls, ss⟩ (.slice pa ps.length pc) lv sv).alloc (.cells (boolsA (List.replicate N false)) 4)) (w.heap.size + 1) (List.replicate N false)) := by
    show ((boxG w _ _ lv sv).heap.push _)[w.heap.size + 1]? = _
    rw [← hB1]
    exact Array.getElem?_push_size
  have HBX : Hid (BoxG (boxG w ⟨t, N, s, ps, ls, ss⟩ (.slice pa ps.length pc) lv sv) w.heap.size ⟨t, N, s, ps, ls, ss⟩ (.slice pa ps.length pc) lv sv) := hB2
  rw [hB1] at hmk hA1
  obtain ⟨q0, q1, q2, q3, q4, q5, q6⟩ := hB2
  unfold boxG gvs at hB0 hB1 hmk hA1 HR0 q0 q1 q2 q3 q4 q5 q6 HBX
  unfold gv gvs
  simp only at *
  go_enter Tryz.func14, Tryz.ntmps14
  go_wp2
  clear hmk q0 q1 q2 q3 q4 q5 q6
  generalize w.alloc (.cells #[.int .i64 t, .int .i64 N, .int .i64 s, .slice pa ps.length pc, lv, sv] 25) = w0 at *
  generalize w0.alloc (.cells (boolsA (List.replicate N false)) 4) = w1 at *
  have HB1 : Hid (w0.heap.size = w.heap.size + 1) := hB1
  clear hB1
  go_loopw [4] (fun rv wr => ∃ (r : Nat) (L : List Bool), r ≤ N ∧ rv = .int .i64 r ∧ Hid (RowB wr (w.heap.size + 1) L) ∧ Hid (LvI true (prsS ps) N r 0 L) ∧ Below (w.heap.size + 1) w0 wr) (fun rv _ => N - (intOf rv).toNat)
  case atStart => exact ⟨0, _, Nat.zero_le _, rfl, HR0, LvI.start _ _ _, hA1⟩
  case round =>
    clear HR0 hA1
    obtain ⟨r, L, hr, rfl, HR, HI, hbw⟩ := hrel
    have hbx := hB0.trans (hbw.mono (Nat.le_succ _))
    obtain ⟨q0, q1, q2, q3, q4, q5, q6⟩ := HBX.out.below (Nat.lt_succ_self _) hbw
    simp only at q0 q1 q2 q3 q4 q5 q6
    by_cases hrN : r < N
    · go_wp2
      clear q0 q1 q2 q3 q4 q5 q6 hbx
      go_loopw [5] (fun iv wr => ∃ (i : Nat) (L : List Bool), i ≤ ps.length ∧ iv = .int .i64 i ∧ Hid (RowB wr (w.heap.size + 1) L) ∧ Hid (LvI true (prsS ps) N r i L) ∧ Below (w.heap.size + 1) w0 wr) (fun iv _ => ps.length - (intOf iv).toNat)
      case atStart => exact ⟨0, L, Nat.zero_le _, rfl, HR, HI, hbw⟩
      case round =>
        clear HR HI hbw L
        obtain ⟨i, L, hi, rfl, HR, HI, hbw⟩ := hrel
        have hbx := hB0.trans (hbw.mono (Nat.le_succ _))
        obtain ⟨q0, q1, q2, q3, q4, q5, q6⟩ := HBX.out.below (Nat.lt_succ_self _) hbw
        simp only at q0 q1 q2 q3 q4 q5 q6
        by_cases hlt : i < ps.length
        · obtain ⟨bb, off, rv, rfl, hb, hpd⟩ := (HP.out.below hbx).at hlt
          obtain ⟨hl0, hl1, hl2, hl3⟩ := HOK.out i hlt
          have HST : Hid (LvI true (prsS ps) N r (i + 1) (L.set (ps.getD i noPd).left.toNat (factB L (ps.getD i noPd).left.toNat || hasB true (factB L) (ps.getD i noPd).right))) := by
            have hp : (prsS ps)[i]? = some (prS (ps.getD i noPd)) := by unfold prsS; simp [List.getD, hlt]
            exact HI.out.step hp (by show (ps.getD i noPd).left.toNat < N; omega)
          generalize ps.getD i noPd = p at *
          obtain ⟨left, right, level⟩ := p
          simp only at hl0 hl1 hl2 hl3 HST
          obtain ⟨lf, rfl⟩ : ∃ lf : Nat, left = (lf : Int) := ⟨left.toNat, by omega⟩
          rw [Int.toNat_natCast] at HST
          have hlf : lf < N := by omega
          obtain ⟨c0, c1, c2, hrr⟩ := hpd
          simp only at c0 c1 c2 hrr
          have HRw : Hid (IntsR wr rv right) := hrr
          obtain ⟨ra, rc, rfl⟩ := hrr.slice
          have HSY : Hid (∀ j, j < right.length → -(N : Int) ≤ right.getD j 0) := hl3
          have hLl : L.length = N := HI.out.len
          clear hrr hl0 hl1 hl3 c2
          have lR := HR.out.lt
          rename World => wo
          go_wp2
          go_loopw [6, 7] (fun okv kv wr => ∃ (k : Nat) (b : Bool), k ≤ right.length ∧ okv = .bool b ∧ kv = .int .i64 k ∧ Hid (hasB true (factB L) (right.take k) = b) ∧ wr = wo) (fun _ kv _ => right.length - (intOf kv).toNat)
          case atStart => exact ⟨0, true, Nat.zero_le _, rfl, rfl, rfl, rfl⟩
          case round =>
            obtain ⟨k, b, hk, rfl, rfl, HB, rfl⟩ := hrel
            by_cases hkl : k < right.length
            · obtain ⟨b2, off2, rfl, hb2, hc2⟩ := HRw.out.at hkl
              have hs1 := HSY.out k hkl
              have HT : Hid (hasB true (factB L) (right.take (k + 1)) = (b && (if right.getD k 0 < 0 then factB L (-1 - right.getD k 0).toNat else true))) := by show _ = _; rw [hasB_take _ _ _ _ hkl, HB.out]
              generalize right.getD k 0 = sy at *
              cases b
              · have HT2 : Hid (hasB true (factB L) (right.take (k + 1)) = false) := by show _ = _; rw [HT.out]; rfl
                clear HT HB
                go_wp2
                go_roundw
                case rel => exact ⟨k + 1, false, by omega, rfl, by go_num, HT2, trivial⟩
                case measure => simp [intOf]; omega
              · by_cases hs : 0 ≤ sy
                · have HT2 : Hid (hasB true (factB L) (right.take (k + 1)) = true) := by show _ = _; rw [HT.out, if_neg (by omega)]; rfl
                  have d1 : decide (sy ≥ 0) = true := decide_eq_true hs
                  clear HT HB
                  go_wp2
                  go_roundw
                  case rel => exact ⟨k + 1, true, by omega, rfl, by go_num, HT2, trivial⟩
                  case measure => simp [intOf]; omega
                · obtain ⟨q, hq⟩ : ∃ q : Nat, -1 - sy = (q : Int) := ⟨(-1 - sy).toNat, by omega⟩
                  have hqN : q < N := by omega
                  have HT2 : Hid (hasB true (factB L) (right.take (k + 1)) = factB L q) := by show _ = _; rw [HT.out, if_pos (by omega), hq, Int.toNat_natCast, Bool.true_and]
                  have cL := HR.out.cell (j := q) (by rw [hLl]; exact hqN)
                  have d1 : decide (sy ≥ 0) = false := decide_eq_false (by omega)
                  have d1' : ¬ 0 ≤ sy := hs
                  generalize factB L q = fq at *
                  clear HT HB
                  go_wp2
                  go_roundw
                  case rel => exact ⟨k + 1, fq, by omega, rfl, by go_num, HT2, trivial⟩
                  case measure => simp [intOf]; omega
            · have HE : Hid (hasB true (factB L) right = b) := by
                have h9 := HB.out
                rw [List.take_of_length_le (by omega)] at h9
                exact h9
              have cL := HR.out.cell (j := lf) (by rw [hLl]; exact hlf)
              have fL := HR.out.fz lf
              have HSet2 : Hid (∀ x, RowB (wr.setCell ⟨w.heap.size + 1, lf, none⟩ (.bool x)).drew (w.heap.size + 1) (L.set lf x)) := fun x => HR.out.set lf x
              have HST2 : Hid (LvI true (prsS ps) N r (i + 1) (L.set lf (factB L lf || b))) := by
                have h9 := HST.out
                rw [HE.out] at h9
                exact h9
              have hbS2 : ∀ x : Value, Below (w.heap.size + 1) w0 (wr.setCell ⟨w.heap.size + 1, lf, none⟩ x).drew := fun x => ⟨hbw.os, hbw.tape, hbw.output, by simpa using hbw.size, fun k hk => (Below.heap_setCell wr ⟨w.heap.size + 1, lf, none⟩ x k (by simp; omega)).trans (hbw.block k hk)⟩
              clear HB HST HE HI
              generalize factB L lf = fl at *
              cases fl <;> cases b
              all_goals
                go_wp2
                go_still_tail 20, (show Tryz.prog.follows .mixedOrders = true by kernel_rfl)
                go_wp2
                go_roundw
                case rel => exact ⟨i + 1, _, by omega, by go_num, HSet2.out _, HST2, hbS2 _⟩
                case measure => simp [intOf]; omega
        · have HNx : Hid (LvI true (prsS ps) N (r + 1) 0 L) := by
            have e : i = (prsS ps).length := by unfold prsS; rw [List.length_map]; omega
            have h9 := HI.out
            rw [e] at h9
            exact h9.next
          clear HI
          go_wp2
          go_roundw
          case rel => exact ⟨r + 1, L, by omega, by go_num, HR, HNx, hbw⟩
          case measure => simp [intOf]; omega
    · obtain rfl : r = N := by omega
      have HF : Hid (∀ n, factB L n = hgtB true (prsS ps) r n) := HI.out.final HLT.out
      have HLn : Hid (L.length = r) := HI.out.len
      clear HI
      go_wp2
      go_ret
      exact ⟨L, rfl, HR.out, HLn.out, HF.out, hbx⟩

end Go.Proofs.YtkdoghaoijdedaaGreatDoor

namespace Go.Proofs.YtkdoghaoijdedaaGreatDoor
open Go.RowKit
set_option linter.unusedVariables false
set_option maxRecDepth 100000

set_option maxHeartbeats 8000000 in
theorem rempty_any (t s : Int) (N : Nat) (ps : List PdR) (ls ss : List Int) (pv lv sv : Value) (w : World) (hN : N ≤ 300) (hps : ps.length ≤ 400) (hok : ∀ m, m < ps.length → PdOk N (ps.getD m noPd)) (h : PdsM w pv ps) :
    Calls Tryz.prog 16 #[gv ⟨t, N, s, ps, ls, ss⟩ pv lv sv] w fun e w' => ∃ L, e = .returned (.slice (some ⟨w.heap.size + 1, 0, none⟩) N N) ∧ RowB w' (w.heap.size + 1) L ∧ L.length = N ∧ (∀ n, factB L n = hgtB false (prsS ps) N n) ∧ Below w.heap.size w w' := by
  have hB0 := boxG_below w ⟨t, N, s, ps, ls, ss⟩ pv lv sv
  have hB1 := boxG_size w ⟨t, N, s, ps, ls, ss⟩ pv lv sv
  have hB2 := boxG_box w ⟨t, N, s, ps, ls, ss⟩ pv lv sv
  obtain ⟨pa, pc, rfl⟩ := h.slice
  have HP : Hid (PdsM w (.slice pa ps.length pc) ps) := h
  have HOK : Hid (∀ m, m < ps.length → PdOk N (ps.getD m noPd)) := hok
  clear h hok
  have HLT : Hid (∀ p ∈ prsS ps, p.left < N) := by
    intro p hp
    obtain ⟨q, hq, rfl⟩ := List.mem_map.1 hp
    obtain ⟨m, hm, e⟩ := List.getElem_of_mem hq
    have := HOK.out m hm
    simp only [List.getD, List.getElem?_eq_getElem hm, Option.getD_some, e] at this
    unfold PdOk at this
    show q.left.toNat < N
    omega
  have hmk := makeBoolsT N (by omega) (boxG w ⟨t, N, s, ps, ls, ss⟩ (.slice pa ps.length pc) lv sv)
  have hA1 := alloc_below (boxG w ⟨t, N, s, ps, ls, ss⟩ (.slice pa ps.length pc) lv sv) (.cells (boolsA (List.replicate N false)) 4)
  have HR0 : Hid (RowB ((boxG w ⟨t, N, s, ps, ls, ss⟩ (.slice pa ps.length pc) lv sv).alloc (.cells (boolsA (List.replicate N false)) 4)) (w.heap.size + 1) (List.replicate N false)) := by
    show ((boxG w _ _ lv sv).heap.push _)[w.heap.size + 1]? = _
    rw [← hB1]
    exact Array.getElem?_push_size
  have HBX : Hid (BoxG (boxG w ⟨t, N, s, ps, ls, ss⟩ (.slice pa ps.length pc) lv sv) w.heap.size ⟨t, N, s, ps, ls, ss⟩ (.slice pa ps.length pc) lv sv) := hB2
  rw [hB1] at hmk hA1
  obtain ⟨q0, q1, q2, q3, q4, q5, q6⟩ := hB2
  unfold boxG gvs at hB0 hB1 hmk hA1 HR0 q0 q1 q2 q3 q4 q5 q6 HBX
  unfold gv gvs
  simp only at *
  go_enter Tryz.func16, Tryz.ntmps16
  go_wp2
  clear hmk q0 q1 q2 q3 q4 q5 q6
  generalize w.alloc (.cells #[.int .i64 t, .int .i64 N, .int .i64 s, .slice pa ps.length pc, lv, sv] 25) = w0 at *
  generalize w0.alloc (.cells (boolsA (List.replicate N false)) 4) = w1 at *
  have HB1 : Hid (w0.heap.size = w.heap.size + 1) := hB1
  clear hB1
  go_loopw [4] (fun rv wr => ∃ (r : Nat) (L : List Bool), r ≤ N ∧ rv = .int .i64 r ∧ Hid (RowB wr (w.heap.size + 1) L) ∧ Hid (LvI false (prsS ps) N r 0 L) ∧ Below (w.heap.size + 1) w0 wr) (fun rv _ => N - (intOf rv).toNat)
  case atStart => exact ⟨0, _, Nat.zero_le _, rfl, HR0, LvI.start _ _ _, hA1⟩
  case round =>
    clear HR0 hA1
    obtain ⟨r, L, hr, rfl, HR, HI, hbw⟩ := hrel
    have hbx := hB0.trans (hbw.mono (Nat.le_succ _))
    obtain ⟨q0, q1, q2, q3, q4, q5, q6⟩ := HBX.out.below (Nat.lt_succ_self _) hbw
    simp only at q0 q1 q2 q3 q4 q5 q6
    by_cases hrN : r < N
    · go_wp2
      clear q0 q1 q2 q3 q4 q5 q6 hbx
      go_loopw [5] (fun iv wr => ∃ (i : Nat) (L : List Bool), i ≤ ps.length ∧ iv = .int .i64 i ∧ Hid (RowB wr (w.heap.size + 1) L) ∧ Hid (LvI false (prsS ps) N r i L) ∧ Below (w.heap.size + 1) w0 wr) (fun iv _ => ps.length - (intOf iv).toNat)
      case atStart => exact ⟨0, L, Nat.zero_le _, rfl, HR, HI, hbw⟩
      case round =>
        clear HR HI hbw L
        obtain ⟨i, L, hi, rfl, HR, HI, hbw⟩ := hrel
        have hbx := hB0.trans (hbw.mono (Nat.le_succ _))
        obtain ⟨q0, q1, q2, q3, q4, q5, q6⟩ := HBX.out.below (Nat.lt_succ_self _) hbw
        simp only at q0 q1 q2 q3 q4 q5 q6
        by_cases hlt : i < ps.length
        · obtain ⟨bb, off, rv, rfl, hb, hpd⟩ := (HP.out.below hbx).at hlt
          obtain ⟨hl0, hl1, hl2, hl3⟩ := HOK.out i hlt
          have HST : Hid (LvI false (prsS ps) N r (i + 1) (L.set (ps.getD i noPd).left.toNat (factB L (ps.getD i noPd).left.toNat || hasB false (factB L) (ps.getD i noPd).right))) := by
            have hp : (prsS ps)[i]? = some (prS (ps.getD i noPd)) := by unfold prsS; simp [List.getD, hlt]
            exact HI.out.step hp (by show (ps.getD i noPd).left.toNat < N; omega)
          generalize ps.getD i noPd = p at *
          obtain ⟨left, right, level⟩ := p
          simp only at hl0 hl1 hl2 hl3 HST
          obtain ⟨lf, rfl⟩ : ∃ lf : Nat, left = (lf : Int) := ⟨left.toNat, by omega⟩
          rw [Int.toNat_natCast] at HST
          have hlf : lf < N := by omega
          obtain ⟨c0, c1, c2, hrr⟩ := hpd
          simp only at c0 c1 c2 hrr
          have HRw : Hid (IntsR wr rv right) := hrr
          obtain ⟨ra, rc, rfl⟩ := hrr.slice
          have HSY : Hid (∀ j, j < right.length → -(N : Int) ≤ right.getD j 0) := hl3
          have hLl : L.length = N := HI.out.len
          clear hrr hl0 hl1 hl3 c2
          have lR := HR.out.lt
          rename World => wo
          go_wp2
          go_loopw [6, 7] (fun okv kv wr => ∃ (k : Nat) (b : Bool), k ≤ right.length ∧ okv = .bool b ∧ kv = .int .i64 k ∧ Hid (hasB false (factB L) (right.take k) = b) ∧ wr = wo) (fun _ kv _ => right.length - (intOf kv).toNat)
          case atStart => exact ⟨0, true, Nat.zero_le _, rfl, rfl, rfl, rfl⟩
          case round =>
            obtain ⟨k, b, hk, rfl, rfl, HB, rfl⟩ := hrel
            by_cases hkl : k < right.length
            · obtain ⟨b2, off2, rfl, hb2, hc2⟩ := HRw.out.at hkl
              have hs1 := HSY.out k hkl
              have HT : Hid (hasB false (factB L) (right.take (k + 1)) = (b && (if right.getD k 0 < 0 then factB L (-1 - right.getD k 0).toNat else false))) := by show _ = _; rw [hasB_take _ _ _ _ hkl, HB.out]
              generalize right.getD k 0 = sy at *
              cases b
              · have HT2 : Hid (hasB false (factB L) (right.take (k + 1)) = false) := by show _ = _; rw [HT.out]; rfl
                clear HT HB
                go_wp2
                go_roundw
                case rel => exact ⟨k + 1, false, by omega, rfl, by go_num, HT2, trivial⟩
                case measure => simp [intOf]; omega
              · by_cases hs : 0 ≤ sy
                · have HT2 : Hid (hasB false (factB L) (right.take (k + 1)) = false) := by show _ = _; rw [HT.out, if_neg (by omega)]; rfl
                  have d1 : decide (sy < 0) = false := decide_eq_false (by omega)
                  have d1' : ¬ sy < 0 := by omega
                  clear HT HB
                  go_wp2
                  go_roundw
                  case rel => exact ⟨k + 1, false, by omega, rfl, by go_num, HT2, trivial⟩
                  case measure => simp [intOf]; omega
                · obtain ⟨q, hq⟩ : ∃ q : Nat, -1 - sy = (q : Int) := ⟨(-1 - sy).toNat, by omega⟩
                  have hqN : q < N := by omega
                  have HT2 : Hid (hasB false (factB L) (right.take (k + 1)) = factB L q) := by show _ = _; rw [HT.out, if_pos (by omega), hq, Int.toNat_natCast, Bool.true_and]
                  have cL := HR.out.cell (j := q) (by rw [hLl]; exact hqN)
                  have d1 : decide (sy < 0) = true := decide_eq_true (by omega)
                  have d1' : sy < 0 := by omega
                  generalize factB L q = fq at *
                  clear HT HB
                  go_wp2
                  go_roundw
                  case rel => exact ⟨k + 1, fq, by omega, rfl, by go_num, HT2, trivial⟩
                  case measure => simp [intOf]; omega
            · have HE : Hid (hasB false (factB L) right = b) := by
                have h9 := HB.out
                rw [List.take_of_length_le (by omega)] at h9
                exact h9
              have cL := HR.out.cell (j := lf) (by rw [hLl]; exact hlf)
              have fL := HR.out.fz lf
              have HSet2 : Hid (∀ x, RowB (wr.setCell ⟨w.heap.size + 1, lf, none⟩ (.bool x)).drew (w.heap.size + 1) (L.set lf x)) := fun x => HR.out.set lf x
              have HST2 : Hid (LvI false (prsS ps) N r (i + 1) (L.set lf (factB L lf || b))) := by
                have h9 := HST.out
                rw [HE.out] at h9
                exact h9
              have hbS2 : ∀ x : Value, Below (w.heap.size + 1) w0 (wr.setCell ⟨w.heap.size + 1, lf, none⟩ x).drew := fun x => ⟨hbw.os, hbw.tape, hbw.output, by simpa using hbw.size, fun k hk => (Below.heap_setCell wr ⟨w.heap.size + 1, lf, none⟩ x k (by simp; omega)).trans (hbw.block k hk)⟩
              clear HB HST HE HI
              generalize factB L lf = fl at *
              cases fl <;> cases b
              all_goals
                go_wp2
                go_still_tail 20, (show Tryz.prog.follows .mixedOrders = true by kernel_rfl)
                go_wp2
                go_roundw
                case rel => exact ⟨i + 1, _, by omega, by go_num, HSet2.out _, HST2, hbS2 _⟩
                case measure => simp [intOf]; omega
        · have HNx : Hid (LvI false (prsS ps) N (r + 1) 0 L) := by
            have e : i = (prsS ps).length := by unfold prsS; rw [List.length_map]; omega
            have h9 := HI.out
            rw [e] at h9
            exact h9.next
          clear HI
          go_wp2
          go_roundw
          case rel => exact ⟨r + 1, L, by omega, by go_num, HR, HNx, hbw⟩
          case measure => simp [intOf]; omega
    · obtain rfl : r = N := by omega
      have HF : Hid (∀ n, factB L n = hgtB false (prsS ps) r n) := HI.out.final HLT.out
      have HLn : Hid (L.length = r) := HI.out.len
      clear HI
      go_wp2
      go_ret
      exact ⟨L, rfl, HR.out, HLn.out, HF.out, hbx⟩

end Go.Proofs.YtkdoghaoijdedaaGreatDoor
