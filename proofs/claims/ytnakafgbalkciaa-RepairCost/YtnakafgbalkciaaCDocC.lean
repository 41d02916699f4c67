/- The document's Cost: the walk. -/
import Derived.Test.YtnakafgbalkciaaCDocB
namespace Go.Proofs.Ytnakafgbalkciaa
open Go.RowKit
set_option linter.unusedVariables false
set_option maxRecDepth 100000

theorem drop_getD {l : List Int} {k : Nat} (h : k < l.length) : l.drop k = l.getD k 0 :: l.drop (k + 1) := by
  rw [List.drop_eq_getElem_cons h]
  simp [List.getD, h]
theorem dist_end (P L : Int → Int) (fr to : List Int) : dist P L (fr.drop fr.length) (to.drop to.length) = 0 := by simp [dist_nn]
theorem dist_put (P L : Int → Int) (fr to : List Int) {k : Nat} (h : k < to.length) : dist P L (fr.drop fr.length) (to.drop k) = dist P L (fr.drop fr.length) (to.drop (k + 1)) + P (to.getD k 0) := by
  rw [drop_getD h, List.drop_length, dist_nc]
theorem dist_leave (P L : Int → Int) (fr to : List Int) {i : Nat} (h : i < fr.length) : dist P L (fr.drop i) (to.drop to.length) = dist P L (fr.drop (i + 1)) (to.drop to.length) + L (fr.getD i 0) := by
  rw [drop_getD h, List.drop_length, dist_cn]
theorem dist_both (P L : Int → Int) (fr to : List Int) {i k : Nat} (h : i < fr.length) (h2 : k < to.length) : dist P L (fr.drop i) (to.drop k) = if fr.getD i 0 = to.getD k 0 then min (min (dist P L (fr.drop (i + 1)) (to.drop k) + L (fr.getD i 0)) (dist P L (fr.drop i) (to.drop (k + 1)) + P (to.getD k 0))) (dist P L (fr.drop (i + 1)) (to.drop (k + 1))) else min (dist P L (fr.drop (i + 1)) (to.drop k) + L (fr.getD i 0)) (dist P L (fr.drop i) (to.drop (k + 1)) + P (to.getD k 0)) := by
  have := dist_cc P L (fr.getD i 0) (to.getD k 0) (fr.drop (i + 1)) (to.drop (k + 1))
  rw [← drop_getD h, ← drop_getD h2] at this
  exact this

theorem below_drew1 {B : Nat} {w w' : World} (h : Below B w w') : Below B w w'.drew := h.trans ⟨rfl, rfl, rfl, Nat.le_refl _, fun _ _ => rfl⟩
/-- what the walk of the table keeps hidden -/
structure CoH (put leave fr to : List Int) (pv lv fv tv : Value) (w : World) : Prop where
  mP : IntsR w pv put
  mL : IntsR w lv leave
  mF : IntsR w fv fr
  mT : IntsR w tv to
  frI : ∀ k, k < fr.length → 0 ≤ fr.getD k 0 ∧ fr.getD k 0 < leave.length
  toI : ∀ k, k < to.length → 0 ≤ to.getD k 0 ∧ to.getD k 0 < put.length
  bP : ∀ t, 0 ≤ costP put t ∧ costP put t ≤ 1000
  bL : ∀ t, 0 ≤ costP leave t ∧ costP leave t ≤ 1000
  bD : ∀ (i k : Nat), 0 ≤ dist (costP put) (costP leave) (fr.drop i) (to.drop k) ∧ dist (costP put) (costP leave) (fr.drop i) (to.drop k) ≤ 82000

set_option maxHeartbeats 16000000 in
theorem rCost_yes (put leave fr to : List Int) (pv lv fv tv : Value) (w : World) (hza : fr.length ≤ 40) (hzt : to.length ≤ 40) (hzp : put.length ≤ 10) (hzl : leave.length ≤ 10)
    (hcp : costsB put = true) (hcl : costsB leave = true) (hfr : insB (min put.length leave.length) fr = true) (hto : insB (min put.length leave.length) to = true)
    (hp : IntsR w pv put) (hl : IntsR w lv leave) (hf : IntsR w fv fr) (ht : IntsR w tv to) :
    Calls Try.prog 6 #[.agg #[pv, lv], fv, tv] w fun e w' => e = .returned (.int .i64 (dist (costP put) (costP leave) fr to)) ∧ Below w.heap.size w w' := by
  have hB0 := boxC_below w pv lv
  have hB1 := boxC_size w pv lv
  have hB2 := boxC_box w pv lv
  have HC : Hid (CoH put leave fr to pv lv fv tv w) := by
    have b1 := fun t => costP_bound hcp t
    have b2 := fun t => costP_bound hcl t
    refine ⟨hp, hl, hf, ht, fun k hk => ?_, fun k hk => ?_, b1, b2, fun i k => ?_⟩
    · have := insB_at hfr hk; omega
    · have := insB_at hto hk; omega
    · have := dist_bound _ _ b1 b2 82 (fr.drop i) (to.drop k) (by rw [List.length_drop, List.length_drop]; omega)
      omega
  have hC1 := costsOk_any pv put (boxC w pv lv) (by omega) (hp.below hB0)
  have hC2 := costsOk_any lv leave (boxC w pv lv) (by omega) (hl.below hB0)
  have hC3 := inside_any fv fr (min put.length leave.length) (boxC w pv lv) (by omega) (hf.below hB0)
  have hC4 := inside_any tv to (min put.length leave.length) (boxC w pv lv) (by omega) (ht.below hB0)
  have hC0 := rleast_any put.length leave.length (boxC w pv lv)
  rw [hcp] at hC1
  rw [hcl] at hC2
  rw [hfr] at hC3
  rw [hto] at hC4
  rw [show min (put.length : Int) (leave.length : Int) = ((min put.length leave.length : Nat) : Int) by omega] at hC0
  generalize min put.length leave.length = n at *
  clear hcp hcl hfr hto
  obtain ⟨pa, pc, rfl⟩ := hp.slice
  obtain ⟨la, lc, rfl⟩ := hl.slice
  obtain ⟨fa, fc, rfl⟩ := hf.slice
  obtain ⟨ta, tc, rfl⟩ := ht.slice
  clear hp hl hf ht
  have hmk := makeRows (fr.length + 1) (by omega) (boxC w (.slice pa put.length pc) (.slice la leave.length lc))
  have hA1 := alloc_below (boxC w (.slice pa put.length pc) (.slice la leave.length lc)) (.cells (sliA (List.replicate (fr.length + 1) (.slice none 0 0))) 22)
  have HR0 : Hid (RowV ((boxC w (.slice pa put.length pc) (.slice la leave.length lc)).alloc (.cells (sliA (List.replicate (fr.length + 1) (.slice none 0 0))) 22)) (w.heap.size + 1) (List.replicate (fr.length + 1) (.slice none 0 0))) := by
    show ((boxC w _ _).heap.push _)[w.heap.size + 1]? = _
    rw [← hB1]
    exact Array.getElem?_push_size
  have HBX : Hid (BoxC (boxC w (.slice pa put.length pc) (.slice la leave.length lc)) w.heap.size (.slice pa put.length pc) (.slice la leave.length lc)) := hB2
  rw [hB1] at hmk hA1
  rw [show ((fr.length + 1 : Nat) : Int) = (fr.length : Int) + 1 by omega] at hmk
  obtain ⟨q0, q1, q2⟩ := hB2
  unfold boxC at *
  have hwt := wrap_d64 ((fr.length : Int) + 1) (by omega) (by omega)
  have d1 : decide ((fr.length : Int) > 1000) = false := decide_eq_false (by omega)
  have d2 : decide ((to.length : Int) > 1000) = false := decide_eq_false (by omega)
  go_enter Try.func6, Try.ntmps6
  go_wp2_with fail
  refine hC0.mono ?_
  rintro e w2 ⟨rfl, rfl⟩
  clear hC0
  go_wp2_with fail
  refine hC1.mono ?_
  rintro e w2 ⟨rfl, rfl⟩
  clear hC1
  go_wp2_with fail
  refine hC2.mono ?_
  rintro e w2 ⟨rfl, rfl⟩
  clear hC2
  go_wp2_with fail
  refine hC3.mono ?_
  rintro e w2 ⟨rfl, rfl⟩
  clear hC3
  go_wp2_with fail
  refine hC4.mono ?_
  rintro e w2 ⟨rfl, rfl⟩
  clear hC4
  go_wp2
  clear hmk q0 q1 q2 d1 d2
  generalize w.alloc (.cells #[.slice pa put.length pc, .slice la leave.length lc] 24) = w0 at *
  generalize w0.alloc (.cells (sliA (List.replicate (fr.length + 1) (.slice none 0 0))) 22) = w1 at *
  have HB1 : Hid (w0.heap.size = w.heap.size + 1) := hB1
  clear hB1 hwt hzp hzl
  go_loopw [13] (fun iv wr => ∃ (r : Nat) (bl : Nat → Nat) (RL : List Value), r ≤ fr.length + 1 ∧ iv = .int .i64 ((r : Int) - 1) ∧ Hid (TbI (costP put) (costP leave) fr to (w.heap.size + 1) r 0 bl RL wr) ∧ Below (w.heap.size + 1) w0 wr) (fun iv _ => (intOf iv + 1).toNat)
  case atStart => exact ⟨fr.length + 1, _, _, Nat.le_refl _, (by rw [show (((fr.length + 1 : Nat) : Int) - 1) = (fr.length : Int) by omega]), TbI.start _ _ _ _ _ _ HR0.out, hA1⟩
  case round =>
    clear HR0 hA1
    obtain ⟨r, bl, RL, hr, rfl, HI, hbw⟩ := hrel
    have hbx := hB0.trans (hbw.mono (Nat.le_succ _))
    rcases r with _ | i
    · obtain ⟨g1, g2, g3⟩ := HI.out.get (j := 0) (m := 0) (Nat.le_refl _) (Nat.zero_le _) (.inr (Nat.le_refl _)) (Nat.zero_le _)
      rw [List.drop_zero, List.drop_zero] at g3
      have hlD := HI.out.rows.lt
      clear HI
      generalize bl 0 = b0 at *
      generalize hz : dist (costP put) (costP leave) fr to = z at g3
      have HZ : Hid (dist (costP put) (costP leave) fr to = z) := hz
      clear hz
      have e0 : ((0 : Nat) : Int) - 1 = -1 := by omega
      rw [e0]
      clear e0
      have hi5 : (0 : Int) < (fr.length : Int) + 1 := by omega
      have hi6 : (0 : Int) < (to.length : Int) + 1 := by omega
      go_wp2
      go_ret
      exact ⟨by rw [HZ.out]; rfl, hbx⟩
    · have e0 : ((i + 1 : Nat) : Int) - 1 = (i : Int) := by omega
      rw [e0]
      clear e0
      have hmk := makeInts (to.length + 1) (by omega) wr
      rw [show ((to.length + 1 : Nat) : Int) = (to.length : Int) + 1 by omega] at hmk
      have hwt := wrap_d64 ((to.length : Int) + 1) (by omega) (by omega)
      have hlD := HI.out.rows.lt
      have HO : Hid _ := HI.out.open (by omega) hlD
      have hi5 : (i : Int) < (fr.length : Int) + 1 := by omega
      have hAs := alloc_size wr (.cells (intsA (List.replicate (to.length + 1) 0)) 3)
      have hAb := alloc_below wr (.cells (intsA (List.replicate (to.length + 1) 0)) 3)
      have h9 : RowV (wr.alloc (.cells (intsA (List.replicate (to.length + 1) 0)) 3)) (w.heap.size + 1) RL := by
        unfold RowV
        rw [hAb.block _ hlD]
        exact HI.out.rows
      have fD := h9.fz i
      obtain ⟨v0, hv0⟩ : ∃ v, RL[i]? = some v := ⟨RL[i]'(by rw [HI.out.len]; omega), List.getElem?_eq_getElem _⟩
      have cD := h9.cell hv0
      clear h9 hv0
      have hbS : Below (w.heap.size + 1) w0 ((wr.setCell ⟨w.heap.size + 1, i, none⟩ (.slice (some ⟨wr.heap.size, 0, none⟩) (to.length + 1) (to.length + 1))).alloc (.cells (intsA (List.replicate (to.length + 1) 0)) 3)) := by
        have h8 := below_set hbw (Nat.le_refl (w.heap.size + 1)) i (.slice (some ⟨wr.heap.size, 0, none⟩) (to.length + 1) (to.length + 1))
        exact h8.trans ((alloc_below _ _).mono (by simp; omega))
      clear HI
      go_wp2
      clear cD fD hmk hAs hAb hlD
      generalize (fun j => if j = i then wr.heap.size else bl j) = bl2 at *
      generalize RL.set i (.slice (some ⟨wr.heap.size, 0, none⟩) (to.length + 1) (to.length + 1)) = RL2 at *
      generalize (wr.setCell ⟨w.heap.size + 1, i, none⟩ (.slice (some ⟨wr.heap.size, 0, none⟩) (to.length + 1) (to.length + 1))).alloc (.cells (intsA (List.replicate (to.length + 1) 0)) 3) = w5 at *
      clear hbx hbw bl RL
      rename World => wo
      go_loopw [14] (fun kv wr => ∃ (s : Nat), s ≤ to.length + 1 ∧ kv = .int .i64 ((s : Int) - 1) ∧ Hid (TbI (costP put) (costP leave) fr to (w.heap.size + 1) i s bl2 RL2 wr) ∧ Below (w.heap.size + 1) w0 wr) (fun kv _ => (intOf kv + 1).toNat)
      case atStart => exact ⟨to.length + 1, Nat.le_refl _, (by rw [show (((to.length + 1 : Nat) : Int) - 1) = (to.length : Int) by omega]), HO, hbS⟩
      case round =>
        clear HO hbS
        obtain ⟨s, hs, rfl, HI, hbw⟩ := hrel
        have hbx := hB0.trans (hbw.mono (Nat.le_succ _))
        have hwi := wrap_d64 ((i : Int) - 1) (by omega) (by omega)
        rcases s with _ | k
        · have e0 : ((0 : Nat) : Int) - 1 = -1 := by omega
          rw [e0]
          clear e0
          go_wp2
          go_roundw
          case rel => exact ⟨i, bl2, RL2, by omega, by go_num, HI, hbw⟩
          case measure => simp [intOf]
        · have e0 : ((k + 1 : Nat) : Int) - 1 = (k : Int) := by omega
          rw [e0]
          clear e0
          have hwk := wrap_d64 ((k : Int) - 1) (by omega) (by omega)
          by_cases hin : i = fr.length
          · by_cases hkn : k = to.length
            · have HN : Hid _ := HI.out.keep (by rw [hin, hkn]; exact dist_end _ _ _ _)
              subst hin hkn
              go_wp2
              go_roundw
              case rel => exact ⟨to.length, by omega, by go_num, HN, hbw⟩
              case measure => simp [intOf]
            · have hkl : k < to.length := by omega
              subst hin
              obtain ⟨q0, q1, q2⟩ := HBX.out.below (Nat.lt_succ_self _) hbw
              obtain ⟨s1, s2, ⟨z0, s3⟩, s4, s5⟩ := HI.out.slot (by omega) (m := k) (by omega)
              obtain ⟨_, _, g3⟩ := HI.out.get (j := fr.length) (m := k + 1) (Nat.le_refl _) (by omega) (.inr (Nat.le_refl _)) (by omega)
              have hlD := HI.out.rows.lt
              have hdd := HC.out.bD fr.length (k + 1)
              have hdP := HC.out.bP (to.getD k 0)
              have HN := HI.out.put (by omega) (by omega) (v := dist (costP put) (costP leave) (fr.drop fr.length) (to.drop (k + 1)) + costP put (to.getD k 0)) (dist_put _ _ fr to hkl).symm
              obtain ⟨tb, toff, hta, htb, htc⟩ := (HC.out.mT.below hbx).at hkl
              obtain ⟨ht0, ht1⟩ := HC.out.toI k hkl
              obtain ⟨t, hte⟩ : ∃ t : Nat, to.getD k 0 = (t : Int) := ⟨(to.getD k 0).toNat, by omega⟩
              rw [hte] at HN hdP ht1 htc
              clear hte ht0
              have htp : t < put.length := by omega
              obtain ⟨pb, poff, hpa, hpb, hpc⟩ := (HC.out.mP.below hbx).at htp
              have e1 : costP put (t : Int) = put.getD t 0 := by simp [costP]
              rw [e1] at HN hdP
              clear e1
              subst hta hpa
              generalize dist (costP put) (costP leave) (fr.drop fr.length) (to.drop (k + 1)) = d0 at *
              generalize put.getD t 0 = p at *
              have HN2 : Hid _ := HN.drew
              have hbS : Below (w.heap.size + 1) w0 (wr.setCell ⟨bl2 fr.length, k, none⟩ (.int .i64 (d0 + p))).drew := below_drew1 (below_set hbw (Nat.le_of_lt s5) _ _)
              generalize bl2 fr.length = bi at *
              have hw2 := wrap_d64 (d0 + p) (by omega) (by omega)
              have hwk1 := wrap_d64 ((k : Int) + 1) (by omega) (by omega)
              have hi1 : 0 ≤ (k : Int) + 1 := by omega
              have hi2 : (k : Int) + 1 < (to.length : Int) + 1 := by omega
              have hi4 : (k : Int) < (to.length : Int) + 1 := by omega
              have hi3 : ((k : Int) + 1).toNat = k + 1 := by omega
              have hkn2 : ¬ (k : Int) = (to.length : Int) := by omega
              clear HN hdd hdP HI
              go_wp2
              go_still_tail 23, (show Try.prog.follows .mixedOrders = true by kernel_rfl)
              go_wp2
              go_roundw
              case rel => exact ⟨k, by omega, by go_num, HN2, hbS⟩
              case measure => simp [intOf]
          · have hil : i < fr.length := by omega
            obtain ⟨q0, q1, q2⟩ := HBX.out.below (Nat.lt_succ_self _) hbw
            obtain ⟨s1, s2, ⟨z0, s3⟩, s4, s5⟩ := HI.out.slot (by omega) (m := k) (by omega)
            obtain ⟨g1, g2, g3⟩ := HI.out.get (j := i + 1) (m := k) (by omega) (by omega) (.inl (by omega)) (by omega)
            have hlD := HI.out.rows.lt
            have hdd := HC.out.bD (i + 1) k
            have hdL := HC.out.bL (fr.getD i 0)
            obtain ⟨fb, foff, hfa, hfb, hfc⟩ := (HC.out.mF.below hbx).at hil
            obtain ⟨hf0, hf1⟩ := HC.out.frI i hil
            obtain ⟨f, hfe⟩ : ∃ f : Nat, fr.getD i 0 = (f : Int) := ⟨(fr.getD i 0).toNat, by omega⟩
            rw [hfe] at hdL hf1 hfc
            have hfl : f < leave.length := by omega
            obtain ⟨lb, loff, hla, hlb, hlc⟩ := (HC.out.mL.below hbx).at hfl
            have e1 : costP leave (f : Int) = leave.getD f 0 := by simp [costP]
            rw [e1] at hdL
            have hwi1 := wrap_d64 ((i : Int) + 1) (by omega) (by omega)
            have hj1 : 0 ≤ (i : Int) + 1 := by omega
            have hj2 : (i : Int) + 1 < (fr.length : Int) + 1 := by omega
            have hj3 : ((i : Int) + 1).toNat = i + 1 := by omega
            have hin2 : ¬ (i : Int) = (fr.length : Int) := by omega
            by_cases hkn : k = to.length
            · have HN := HI.out.put (by omega) (by omega) (v := dist (costP put) (costP leave) (fr.drop (i + 1)) (to.drop k) + costP leave (fr.getD i 0)) (by rw [hkn]; exact (dist_leave _ _ fr to hil).symm)
              rw [hfe, e1] at HN
              clear hfe e1
              subst hkn hfa hla
              generalize dist (costP put) (costP leave) (fr.drop (i + 1)) (to.drop to.length) = d0 at *
              generalize leave.getD f 0 = p at *
              have HN2 : Hid _ := HN.drew
              have hbS : Below (w.heap.size + 1) w0 (wr.setCell ⟨bl2 i, to.length, none⟩ (.int .i64 (d0 + p))).drew := below_drew1 (below_set hbw (Nat.le_of_lt s5) _ _)
              generalize bl2 i = bi at *
              generalize bl2 (i + 1) = bi1 at *
              have hw2 := wrap_d64 (d0 + p) (by omega) (by omega)
              have hi4 : (to.length : Int) < (to.length : Int) + 1 := by omega
              clear HN hdd hdL HI hf0
              go_wp2
              go_still_tail 23, (show Try.prog.follows .mixedOrders = true by kernel_rfl)
              go_wp2
              go_roundw
              case rel => exact ⟨to.length, by omega, by go_num, HN2, hbS⟩
              case measure => simp [intOf]
            · have hkl : k < to.length := by omega
              obtain ⟨_, _, g5⟩ := HI.out.get (j := i) (m := k + 1) (Nat.le_refl _) (by omega) (.inr (Nat.le_refl _)) (by omega)
              obtain ⟨_, _, g6⟩ := HI.out.get (j := i + 1) (m := k + 1) (by omega) (by omega) (.inl (by omega)) (by omega)
              have hdd2 := HC.out.bD i (k + 1)
              have hdd3 := HC.out.bD (i + 1) (k + 1)
              have hdP := HC.out.bP (to.getD k 0)
              obtain ⟨tb, toff, hta, htb, htc⟩ := (HC.out.mT.below hbx).at hkl
              obtain ⟨ht0, ht1⟩ := HC.out.toI k hkl
              obtain ⟨t, hte⟩ : ∃ t : Nat, to.getD k 0 = (t : Int) := ⟨(to.getD k 0).toNat, by omega⟩
              rw [hte] at hdP ht1 htc
              have htp : t < put.length := by omega
              obtain ⟨pb, poff, hpa, hpb, hpc⟩ := (HC.out.mP.below hbx).at htp
              have e2 : costP put (t : Int) = put.getD t 0 := by simp [costP]
              rw [e2] at hdP
              have hV := dist_both (costP put) (costP leave) fr to hil hkl
              rw [hfe, hte, e1, e2] at hV
              have HNe : Hid (∀ v, v = (if (f : Int) = (t : Int) then min (min (dist (costP put) (costP leave) (fr.drop (i + 1)) (to.drop k) + leave.getD f 0) (dist (costP put) (costP leave) (fr.drop i) (to.drop (k + 1)) + put.getD t 0)) (dist (costP put) (costP leave) (fr.drop (i + 1)) (to.drop (k + 1))) else min (dist (costP put) (costP leave) (fr.drop (i + 1)) (to.drop k) + leave.getD f 0) (dist (costP put) (costP leave) (fr.drop i) (to.drop (k + 1)) + put.getD t 0)) → TbI (costP put) (costP leave) fr to (w.heap.size + 1) i k bl2 RL2 (wr.setCell ⟨bl2 i, k, none⟩ (.int .i64 v))) := fun v hv => HI.out.put (by omega) (by omega) (hv.trans hV.symm)
              have HNa : Hid (∀ u v, v = (if (f : Int) = (t : Int) then min (min (dist (costP put) (costP leave) (fr.drop (i + 1)) (to.drop k) + leave.getD f 0) (dist (costP put) (costP leave) (fr.drop i) (to.drop (k + 1)) + put.getD t 0)) (dist (costP put) (costP leave) (fr.drop (i + 1)) (to.drop (k + 1))) else min (dist (costP put) (costP leave) (fr.drop (i + 1)) (to.drop k) + leave.getD f 0) (dist (costP put) (costP leave) (fr.drop i) (to.drop (k + 1)) + put.getD t 0)) → TbI (costP put) (costP leave) fr to (w.heap.size + 1) i k bl2 RL2 ((wr.setCell ⟨bl2 i, k, none⟩ (.int .i64 u)).drew.setCell ⟨bl2 i, k, none⟩ (.int .i64 v))) := fun u v hv => HI.out.again (by omega) (by omega) (hv.trans hV.symm)
              have HAf : Hid (∀ u, AfT (wr.setCell ⟨bl2 i, k, none⟩ (.int .i64 u)).drew (w.heap.size + 1) i k (bl2 i) (bl2 (i + 1)) (to.length + 1) u (dist (costP put) (costP leave) (fr.drop (i + 1)) (to.drop (k + 1)))) := fun u => HI.out.after hil hkl u
              have hne : bl2 (i + 1) ≠ bl2 i := by have := HI.out.inj i (i + 1) (Nat.le_refl _) (by omega) (by omega); omega
              have hfe2 : Hid (fr.getD i 0 = (f : Int)) := hfe
              have hte2 : Hid (to.getD k 0 = (t : Int)) := hte
              clear hV e1 e2 hfe hte HI ht0 hf0
              subst hfa hla hta hpa
              generalize dist (costP put) (costP leave) (fr.drop (i + 1)) (to.drop k) = dA at *
              generalize dist (costP put) (costP leave) (fr.drop i) (to.drop (k + 1)) = dB at *
              generalize dist (costP put) (costP leave) (fr.drop (i + 1)) (to.drop (k + 1)) = dC at *
              generalize leave.getD f 0 = l at *
              generalize put.getD t 0 = p at *
              have hbS : ∀ v, Below (w.heap.size + 1) w0 (wr.setCell ⟨bl2 i, k, none⟩ (.int .i64 v)).drew := fun v => below_drew1 (below_set hbw (Nat.le_of_lt s5) _ _)
              have HbS : Hid (∀ v, Below (w.heap.size + 1) w0 (wr.setCell ⟨bl2 i, k, none⟩ (.int .i64 v)).drew) := hbS
              clear hbS
              generalize bl2 i = bi at *
              generalize bl2 (i + 1) = bi1 at *
              have hw1 := wrap_d64 (dA + l) (by omega) (by omega)
              have hw2 := wrap_d64 (dB + p) (by omega) (by omega)
              have hi1 : 0 ≤ (k : Int) + 1 := by omega
              have hi2 : (k : Int) + 1 < (to.length : Int) + 1 := by omega
              have hi4 : (k : Int) < (to.length : Int) + 1 := by omega
              have hi3 : ((k : Int) + 1).toNat = k + 1 := by omega
              have hwk1 := wrap_d64 ((k : Int) + 1) (by omega) (by omega)
              have hkn2 : ¬ (k : Int) = (to.length : Int) := by omega
              have hL1 : ∀ wx, Calls Try.prog 10 #[.int .i64 (dA + l), .int .i64 (dB + p)] wx fun e w' => e = .returned (.int .i64 (min (dA + l) (dB + p))) ∧ w' = wx := fun wx => rleast_any _ _ wx
              have HL1 : Hid _ := hL1
              clear hL1
              clear hdd hdd2 hdd3 hdP hdL
              go_wp2
              go_still_tail 41, (show Try.prog.follows .mixedOrders = true by kernel_rfl)
              still_call (HL1.out _)
              repeat still_step
              refine wpStill_nil ?_
              go_wp2
              have HAf2 : Hid _ := HAf.out (min (dA + l) (dB + p))
              have hb6 := HbS.out (min (dA + l) (dB + p))
              by_cases hft : (f : Int) = (t : Int)
              · obtain rfl : f = t := by omega
                have HN2 : Hid _ := (HNa.out (min (dA + l) (dB + p)) (min (min (dA + l) (dB + p)) dC) (by rw [if_pos rfl])).drew
                clear HNa HNe HAf HbS s1 s2 s3 s4 g1 g2 g3 g5 g6 q0 q1 q2 hw1 hw2 hlc hpc htc hfc hbw hbx hlb hpb htb hfb HL1
                generalize min (dA + l) (dB + p) = m1 at *
                generalize (wr.setCell ⟨bi, k, none⟩ (.int .i64 m1)).drew = w6 at *
                have hbx6 := hB0.trans (hb6.mono (Nat.le_succ _))
                have HA7 : Hid (∀ n, AfT (w6.drewN n) (w.heap.size + 1) i k bi bi1 (to.length + 1) m1 dC) := fun n => ⟨HAf2.out.c, HAf2.out.f, HAf2.out.s, HAf2.out.s1, HAf2.out.c1, HAf2.out.l1, HAf2.out.l2, HAf2.out.l3⟩
                obtain ⟨fb', foff', hfa, hfb, hfc⟩ := (HC.out.mF.below hbx6).at hil
                obtain ⟨rfl, rfl⟩ : fb = fb' ∧ foff = foff' := by simpa using hfa
                obtain ⟨tb', toff', hta, htb, htc⟩ := (HC.out.mT.below hbx6).at hkl
                obtain ⟨rfl, rfl⟩ : tb = tb' ∧ toff = toff' := by simpa using hta
                rw [hfe2.out] at hfc
                rw [hte2.out] at htc
                have HL2 : Hid (∀ wx, Calls Try.prog 10 #[.int .i64 m1, .int .i64 dC] wx fun e w' => e = .returned (.int .i64 (min m1 dC)) ∧ w' = wx) := fun wx => rleast_any _ _ wx
                clear hfa hta HAf2
                have hbS6 : Below (w.heap.size + 1) w0 (w6.setCell ⟨bi, k, none⟩ (.int .i64 (min m1 dC))).drew := below_drew1 (below_set hb6 (Nat.le_of_lt s5) _ _)
                have HN3 : Hid (∀ n, TbI (costP put) (costP leave) fr to (w.heap.size + 1) i k bl2 RL2 ((w6.drewN n).setCell ⟨bi, k, none⟩ (.int .i64 (min m1 dC))).drew) := fun n => ⟨HN2.out.rows, HN2.out.len, HN2.out.at_, HN2.out.ne, HN2.out.inj, HN2.out.cells⟩
                have HbS7 : Hid (∀ n, Below (w.heap.size + 1) w0 ((w6.drewN n).setCell ⟨bi, k, none⟩ (.int .i64 (min m1 dC))).drew) := fun n => ⟨hbS6.os, hbS6.tape, hbS6.output, hbS6.size, hbS6.block⟩
                clear HN2 hbS6
                go_quiet (fail)
                go_wp2
                have HN8 := HN3.out nq
                have HB8 := HbS7.out nq
                obtain ⟨c, fz, s, s1, c1, l1, l2, l3⟩ := HA7.out nq
                clear HN3 HbS7 HA7
                generalize w6.drewN nq = w7 at *
                have HN9 : Hid _ := HN8
                have HB9 : Hid _ := HB8
                clear HN8 HB8
                go_still_tail 23, (show Try.prog.follows .mixedOrders = true by kernel_rfl)
                still_call (HL2.out _)
                repeat still_step
                refine wpStill_nil ?_
                go_wp2
                go_roundw
                case rel => exact ⟨k, by omega, by go_num, HN9, HB9.out⟩
                case measure => simp [intOf]
              · have HN2 : Hid _ := (HNe.out (min (dA + l) (dB + p)) (by rw [if_neg hft])).drew
                have hft2 : ((f : Int) == (t : Int)) = false := by rw [beq_eq_false_iff_ne]; exact hft
                have hft3 : ¬ f = t := by omega
                clear HNa HNe HAf HbS s1 s2 s3 s4 g1 g2 g3 g5 g6 q0 q1 q2 hw1 hw2 hlc hpc htc hfc hbw hbx hlb hpb htb hfb HL1 HAf2
                generalize min (dA + l) (dB + p) = m1 at *
                generalize (wr.setCell ⟨bi, k, none⟩ (.int .i64 m1)).drew = w6 at *
                have hbx6 := hB0.trans (hb6.mono (Nat.le_succ _))
                obtain ⟨fb', foff', hfa, hfb, hfc⟩ := (HC.out.mF.below hbx6).at hil
                obtain ⟨rfl, rfl⟩ : fb = fb' ∧ foff = foff' := by simpa using hfa
                obtain ⟨tb', toff', hta, htb, htc⟩ := (HC.out.mT.below hbx6).at hkl
                obtain ⟨rfl, rfl⟩ : tb = tb' ∧ toff = toff' := by simpa using hta
                rw [hfe2.out] at hfc
                rw [hte2.out] at htc
                clear hfa hta
                have HN3 : Hid (∀ n, TbI (costP put) (costP leave) fr to (w.heap.size + 1) i k bl2 RL2 (w6.drewN n)) := fun n => ⟨HN2.out.rows, HN2.out.len, HN2.out.at_, HN2.out.ne, HN2.out.inj, HN2.out.cells⟩
                have HbS7 : Hid (∀ n, Below (w.heap.size + 1) w0 (w6.drewN n)) := fun n => ⟨hb6.os, hb6.tape, hb6.output, hb6.size, hb6.block⟩
                go_quiet (fail)
                go_wp2
                go_roundw
                case rel => exact ⟨k, by omega, by go_num, HN3.out _, HbS7.out _⟩
                case measure => simp [intOf]

end Go.Proofs.Ytnakafgbalkciaa
