/- The run of a text: the program's, and the document's. -/
import Derived.Test.YtifhoeffkehcmaaAutG
import Derived.Test.YtifhoeffkehcmaaRPts
import Derived.Deep.RegionWith
namespace Go.Proofs.Ytifhoeffkehcmaa
open Go.RowKit
set_option linter.unusedVariables false
set_option maxRecDepth 100000

/-- points in memory -/
def Pts (w : World) (v : Value) (zs : List Int) : Prop := ∃ a c, v = .slice a zs.length c ∧ ∀ j, j < zs.length → ∃ g o, a = some ⟨g, o, none⟩ ∧ g < w.heap.size ∧ w.cell? ⟨g, o + j, none⟩ = some (.int .i64 (zs.getD j 0))
theorem addr_add0 (g j : Nat) : (⟨g, 0, none⟩ : Addr).add j = ⟨g, 0 + j, none⟩ := by
  unfold Addr.add
  split <;> simp_all
theorem pts_of_own {w : World} {B : Nat} {v : Value} {zs : List Int} (h : w.ownsRow B 3 1 v zs.length (zs.map (Value.int .i64))) : Pts w v zs := by
  have hl := h.lt
  have hc : ∀ g, v.ownBlock = some g → ∀ j u, (zs.map (Value.int .i64))[j]? = some u → w.cell? ((⟨g, 0, none⟩ : Addr).add j) = some u := fun g hg => h.cells hg
  rcases h.2 with ⟨rfl, h0⟩ | ⟨g, cap, cur, rfl, _⟩
  · obtain rfl := List.eq_nil_of_length_eq_zero h0
    exact ⟨_, _, rfl, fun j hj => by simp at hj⟩
  · refine ⟨_, _, rfl, fun j hj => ⟨g, 0, rfl, (hl g rfl).2, ?_⟩⟩
    have := hc g rfl j (.int .i64 (zs.getD j 0)) (by simp [hj])
    rw [addr_add0] at this
    exact this
theorem Pts.below {w w' : World} {v : Value} {zs : List Int} (h : Pts w v zs) (hw : Below w.heap.size w w') : Pts w' v zs := by
  obtain ⟨a, c, rfl, hc⟩ := h
  refine ⟨a, c, rfl, fun j hj => ?_⟩
  obtain ⟨g, o, rfl, hg, hcell⟩ := hc j hj
  exact ⟨g, o, rfl, by have := hw.size; omega, (hw.cell (p := ⟨g, o + j, none⟩) hg).trans hcell⟩

set_option maxHeartbeats 2000000 in
theorem step_at (a : Option Addr) (c k n : Nat) (p : Int) (l : List St) (w : World) (hk : k < l.length) (hl : l.length ≤ 500) (hm : mvOk n (-1) (l.getD k s0).2 = true) (hv : Sts w (.slice a l.length c) l) :
    Calls Try.prog 30 #[.agg #[.slice a l.length c], .int .i64 k, .int .i64 p] w fun e w' => e = .returned (.int .i64 (stepL (l.getD k s0).2 p)) ∧ Below w.heap.size w w' := by
  obtain ⟨g, o, ma, mc, rfl, _, hg, d0, d1, hM⟩ := hv.cell hk
  have hlen := mvOk_len n _ (-1) hm (by omega)
  generalize hr : l.getD k s0 = r at *
  have HE : Hid (l.getD k s0 = r) := hr
  clear hr d0
  obtain ⟨rule, ms⟩ := r
  simp only at d1 hM hlen
  have HD1 : Hid (w.cell? ⟨g, o + k * 2 + 1, none⟩ = some (.slice ma ms.length mc)) := d1
  have HV : Hid (Mvs w (.slice ma ms.length mc) ms) := hM
  clear d1 hM hv hm
  go_enter Try.func30, Try.ntmps30
  go_wp2
  have hB0 := box_below w (.slice (some ⟨g, o, none⟩) l.length c)
  have hB1 := box_size w (.slice (some ⟨g, o, none⟩) l.length c)
  have hB2 := box_cell w (.slice (some ⟨g, o, none⟩) l.length c)
  unfold boxA at hB0 hB1 hB2
  generalize hw0 : w.alloc (.cells #[.slice (some ⟨g, o, none⟩) l.length c] 24) = w0 at *
  have HW0 : Hid (w.alloc (.cells #[.slice (some ⟨g, o, none⟩) l.length c] 24) = w0) := hw0
  clear hw0
  go_loopw [7] (fun i wr => ∃ j : Nat, j ≤ ms.length ∧ i = .int .i64 j ∧ Hid (stepL ms p = stepL (ms.drop j) p) ∧ Below (w.heap.size + 1) w0 wr) (fun i _ => ms.length - (intOf i).toNat)
  case atStart => exact ⟨0, Nat.zero_le _, rfl, (by show _ = _; rw [List.drop_zero]), Below.refl _ _⟩
  case round =>
    obtain ⟨j, hj, rfl, HX, hbq⟩ := hrel
    have hbx := hB0.trans (hbq.mono (Nat.le_succ _))
    have hsz := hbq.size
    have hlt0 : w.heap.size < wr.heap.size := by omega
    have cB := (hbq.cell (p := ⟨w.heap.size, 0, none⟩) (Nat.lt_succ_self _)).trans hB2
    have c1 := (hbx.cell (p := ⟨g, o + k * 2 + 1, none⟩) hg).trans HD1.out
    by_cases hjt : j < ms.length
    · obtain ⟨g1, o1, rfl, _, hg1, e0, e1, e2⟩ := HV.out.cell hjt
      have f0 := (hbx.cell (p := ⟨g1, o1 + j * 3, none⟩) hg1).trans e0
      have f1 := (hbx.cell (p := ⟨g1, o1 + j * 3 + 1, none⟩) hg1).trans e1
      have f2 := (hbx.cell (p := ⟨g1, o1 + j * 3 + 2, none⟩) hg1).trans e2
      have HY : Hid (_ → _) := stepL_yes ms j p hjt
      have HN : Hid (_ → _) := stepL_no ms j p hjt
      clear e0 e1 e2
      generalize ms.getD j m0 = q at *
      obtain ⟨lo, hi, to⟩ := q
      simp only at f0 f1 f2
      by_cases a1 : lo ≤ p
      · by_cases a2 : p ≤ hi
        · have HS : Hid (stepL ms p = to) := by show _ = _; rw [HX.out]; exact HY.out ⟨a1, a2⟩
          clear HY HN
          go_wp2
          go_ret
          exact ⟨congrArg (fun z => Ending.returned (Value.int .i64 z)) HS.out.symm, hB0.trans ((hbq.alloc (by omega) _).mono (by omega))⟩
        · have HS : Hid (stepL ms p = stepL (ms.drop (j + 1)) p) := by show _ = _; rw [HX.out]; exact HN.out (fun h => a2 h.2)
          clear HY HN
          go_wp2
          go_roundw
          case rel => exact ⟨j + 1, by omega, by go_num, HS, hbq.alloc (by omega) _⟩
          case measure => simp [intOf]; omega
      · have HS : Hid (stepL ms p = stepL (ms.drop (j + 1)) p) := by show _ = _; rw [HX.out]; exact HN.out (fun h => a1 h.1)
        clear HY HN
        go_wp2
        go_roundw
        case rel => exact ⟨j + 1, by omega, by go_num, HS, hbq.alloc (by omega) _⟩
        case measure => simp [intOf]; omega
    · have HS : Hid (stepL ms p = -1) := by show _ = _; rw [HX.out, List.drop_eq_nil_of_le (by omega)]; rfl
      go_wp2
      go_ret
      exact ⟨congrArg (fun z => Ending.returned (Value.int .i64 z)) HS.out.symm, hbx⟩

theorem below_drewA {B : Nat} {a w : World} (h : Below B a w) : Below B a w.drew := ⟨h.os, h.tape, h.output, h.size, h.block⟩
theorem below_undrewA {B : Nat} {w w' : World} (h : Below B w.drew w') : Below B w w' := ⟨h.os, h.tape, h.output, h.size, h.block⟩

theorem stL_nat (l : List St) (k : Nat) (p : Int) : stL l (k : Int) p = stepL (l.getD k s0).2 p := by
  unfold stL; rw [if_neg (by omega)]; simp

set_option maxHeartbeats 2000000 in
theorem runpoints_row (a : Option Addr) (c : Nat) (v : Value) (zs : List Int) (l : List St) (w : World) (hne : l ≠ []) (hzl : zs.length ≤ 4398046511104) (hok : autoOk l = true) (hv : Sts w (.slice a l.length c) l) (hz : Pts w v zs) :
    Calls Try.prog 19 #[.agg #[.slice a l.length c], v] w fun e w' => e = .returned (.int .i64 (ruleL l (goL l 0 zs))) ∧ Below w.heap.size w w' := by
  have hl0 : 0 < l.length := List.length_pos_iff.2 hne
  have hl5 : l.length ≤ 500 := by simp [autoOk] at hok; exact hok.1
  have hq : ((l.length : Int) == 0) = false := by rw [beq_eq_false_iff_ne]; omega
  have HV : Hid (Sts w (.slice a l.length c) l) := hv
  have HZ : Hid (Pts w v zs) := hz
  have HO : Hid (autoOk l = true) := hok
  obtain ⟨za, zc, rfl, _⟩ := hz
  clear hv hok hne
  have hB0 := box_below w (.slice a l.length c)
  have hB1 := box_size w (.slice a l.length c)
  have hB2 := box_cell w (.slice a l.length c)
  unfold boxA at hB0 hB1 hB2
  go_enter Try.func19, Try.ntmps19
  go_wp2
  generalize hw0 : w.alloc (.cells #[.slice a l.length c] 24) = w0 at *
  have HW0 : Hid (w.alloc (.cells #[.slice a l.length c] 24) = w0) := hw0
  clear hw0
  go_loopw [5, 6] (fun x i wr => ∃ (k z : Nat), k ≤ zs.length ∧ x = .int .i64 z ∧ i = .int .i64 k ∧ z < l.length ∧ Hid (goL l 0 (zs.take k) = (z : Int)) ∧ Below (w.heap.size + 1) w0 wr) (fun _ i _ => zs.length - (intOf i).toNat)
  case atStart => exact ⟨0, 0, Nat.zero_le _, rfl, rfl, hl0, (by show _ = _; simp [goL]), Below.refl _ _⟩
  case round =>
    obtain ⟨k, z, hk, rfl, rfl, hzz, HG, hbq⟩ := hrel
    have hbx := hB0.trans (hbq.mono (Nat.le_succ _))
    have hsz := hbq.size
    have hlt0 : w.heap.size < wr.heap.size := by omega
    have cB := (hbq.cell (p := ⟨w.heap.size, 0, none⟩) (Nat.lt_succ_self _)).trans hB2
    by_cases hkt : k < zs.length
    · obtain ⟨za', zc', e, hcs⟩ := HZ.out.below hbx
      simp only [Value.slice.injEq, true_and] at e
      obtain ⟨rfl, rfl⟩ := e
      obtain ⟨g, o, rfl, hg, cz⟩ := hcs k hkt
      have HG2 : Hid (goL l 0 (zs.take (k + 1)) = stL l (z : Int) (zs.getD k 0)) := by show _ = _; rw [goL_succ l 0 zs k hkt, HG.out]
      clear hcs
      generalize zs.getD k 0 = p at *
      have HSt : Hid (Calls Try.prog 30 #[.agg #[.slice a l.length c], .int .i64 z, .int .i64 p] wr.drew fun e w' => e = .returned (.int .i64 (stL l (z : Int) p)) ∧ Below wr.heap.size wr w') := by
        rw [stL_nat]
        refine (step_at a c z l.length p l _ hzz hl5 (autoOk_st HO.out z hzz).2 (HV.out.below (below_drewA hbx))).mono ?_
        rintro e w' ⟨he, hb⟩
        exact ⟨he, below_undrewA hb⟩
      have HRg : Hid (stL l (z : Int) p = -1 ∨ (0 ≤ stL l (z : Int) p ∧ stL l (z : Int) p < l.length)) := stL_range HO.out z p (by omega)
      generalize stL l (z : Int) p = y at *
      go_wp2
      go_region_with (go_at_call 30; refine HSt.out.mono ?_; rintro e w5 ⟨rfl, h5⟩)
      all_goals
        have hb5 := hbq.trans (h5.mono (by omega))
        have hb6 := hB0.trans (hb5.mono (Nat.le_succ _))
        clear h5
        rcases HRg.out with rfl | ⟨y0, y1⟩
        · have HS : Hid (goL l 0 zs < 0) := goL_stop l 0 zs (k + 1) (by rw [HG2.out]; omega)
          have HR : Hid (ruleL l (goL l 0 zs) = -1) := by show _ = _; unfold ruleL; rw [if_pos HS.out]
          go_wp2
          go_ret
          exact ⟨by rw [HR.out]; rfl, hb6⟩
        · obtain ⟨yk, rfl⟩ : ∃ yk : Nat, y = yk := ⟨y.toNat, by omega⟩
          go_wp2
          go_roundw
          case rel => exact ⟨k + 1, yk, by omega, rfl, by go_num, by omega, HG2, hb5⟩
          case measure => simp [intOf]; omega
    · have HS : Hid (goL l 0 zs = (z : Int)) := by show _ = _; rw [← HG.out, List.take_of_length_le (by omega)]
      have HR : Hid (ruleL l (z : Int) = (l.getD z s0).1) := by show _ = _; unfold ruleL; rw [if_neg (by omega)]; simp
      obtain ⟨g, o, ma, mc, rfl, _, hg, d0, d1, hM⟩ := (HV.out.below hbx).cell hzz
      clear hM d1
      generalize (l.getD z s0).1 = rule at *
      go_wp2
      go_ret
      exact ⟨by rw [HS.out, HR.out]; rfl, hbx⟩

end Go.Proofs.Ytifhoeffkehcmaa
