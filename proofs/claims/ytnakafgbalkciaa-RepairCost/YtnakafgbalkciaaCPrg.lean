/- The program: what it costs to turn one list into another. -/
import Derived.Test.YtnakafgbalkciaaCBhd
namespace Go.Proofs.Ytnakafgbalkciaa
open Go.RowKit
set_option linter.unusedVariables false
set_option maxRecDepth 100000

/-- the row of what is put in -/
structure PuI (P L : Int → Int) (to : List Int) (k : Nat) (O : List Int) : Prop where
  len : O.length = to.length + 1
  facts : ∀ j, j ≤ k → O.getD j 0 = dist P L [] (to.take j)
theorem PuI.start (P L : Int → Int) (to : List Int) : PuI P L to 0 (List.replicate (to.length + 1) 0) := by
  refine ⟨by simp, fun j hj => ?_⟩
  obtain rfl : j = 0 := by omega
  rw [List.take_zero, dist_nn]
  simp [List.getD]
theorem PuI.step {P L : Int → Int} {to : List Int} {k : Nat} {O : List Int} (h : PuI P L to k O) (hk : k < to.length) : PuI P L to (k + 1) (O.set (k + 1) (O.getD k 0 + P (to.getD k 0))) := by
  refine ⟨by simp [h.len], fun j hj => ?_⟩
  by_cases e : j = k + 1
  · subst e
    have h1 : k + 1 < O.length := by rw [h.len]; omega
    have e2 : to.take (k + 1) = to.take k ++ [to.getD k 0] := by rw [List.take_add_one]; simp [List.getD, hk]
    rw [e2, dist_n_snoc, ← h.facts k (Nat.le_refl _)]
    simp [List.getD, h1]
  · rw [← h.facts j (by omega)]
    simp [List.getD, List.getElem?_set_ne (show k + 1 ≠ j from fun e' => e e'.symm)]
theorem PuI.final {P L : Int → Int} {to : List Int} {O : List Int} (h : PuI P L to to.length O) : O = knL P L [] to := by
  apply List.ext_getElem
  · rw [h.len, knL_len]
  · intro j h1 h2
    have h3 := h.facts j (by rw [h.len] at h1; omega)
    have h4 := knL_at P L [] to (j := j) (by rw [h.len] at h1; omega)
    simp only [List.getD, List.getElem?_eq_getElem h1, List.getElem?_eq_getElem h2, Option.getD_some] at h3 h4
    rw [h3, h4]

set_option maxHeartbeats 8000000 in
theorem leastCost_any (put leave fr to : List Int) (pv lv fv tv : Value) (w : World) (hcp : costsB put = true) (hcl : costsB leave = true) (hfr : insB leave.length fr = true) (hto : insB put.length to = true) (hza : fr.length ≤ 40) (hzt : to.length ≤ 40) (hzp : put.length ≤ 10) (hzl : leave.length ≤ 10)
    (hp : IntsR w pv put) (hl : IntsR w lv leave) (hf : IntsR w fv fr) (ht : IntsR w tv to) :
    Calls Try.prog 9 #[.agg #[pv, lv], fv, tv] w fun e w' => e = .returned (.int .i64 (dist (costP put) (costP leave) fr to)) ∧ Below w.heap.size w w' := by
  have hB0 := boxC_below w pv lv
  have hB1 := boxC_size w pv lv
  have hB2 := boxC_box w pv lv
  obtain ⟨pa, pc, rfl⟩ := hp.slice
  obtain ⟨la, lc, rfl⟩ := hl.slice
  obtain ⟨fa, fc, rfl⟩ := hf.slice
  obtain ⟨ta, tc, rfl⟩ := ht.slice
  have HP : Hid (IntsR w (.slice pa put.length pc) put) := hp
  have HF : Hid (IntsR w (.slice fa fr.length fc) fr) := hf
  have HT : Hid (IntsR w (.slice ta to.length tc) to) := ht
  have HTO : Hid (∀ k, k < to.length → 0 ≤ to.getD k 0 ∧ to.getD k 0 < put.length) := fun k hk => insB_at hto hk
  have HBP : Hid (∀ t, 0 ≤ costP put t ∧ costP put t ≤ 1000) := fun t => costP_bound hcp t
  have HBL : Hid (∀ t, 0 ≤ costP leave t ∧ costP leave t ≤ 1000) := fun t => costP_bound hcl t
  have HBD : Hid (∀ (a b : List Int), a.length ≤ 41 → b.length ≤ 41 → 0 ≤ dist (costP put) (costP leave) a b ∧ dist (costP put) (costP leave) a b ≤ 82000) := fun a b h1 h2 => by
    have := dist_bound _ _ HBP.out HBL.out 82 a b (by omega)
    omega
  have HBH : Hid (∀ (k : Nat) (kv : Value) (wx : World), k < fr.length → Below w.heap.size w wx → IntsR wx kv (knL (costP put) (costP leave) (fr.take k) to) → Calls Try.prog 16 #[.agg #[.slice pa put.length pc, .slice la leave.length lc], kv, .int .i64 (fr.getD k 0), .slice ta to.length tc] wx fun e w' => ∃ v, e = .returned v ∧ IntsR w' v (knL (costP put) (costP leave) (fr.take (k + 1)) to) ∧ Below wx.heap.size wx w') := fun k kv wx hk hb hkv => by
    have hx := insB_at hfr hk
    have e2 : fr.take (k + 1) = fr.take k ++ [fr.getD k 0] := by rw [List.take_add_one]; simp [List.getD, hk]
    rw [e2]
    exact behind_any put leave (fr.take k) to (fr.getD k 0) _ _ kv _ wx hcp hcl hx.1 hx.2 hto (by rw [List.length_take]; omega) hzt hzp hzl (hp.below hb) (hl.below hb) hkv (ht.below hb)
  clear hp hl hf ht hcp hcl hfr hto
  have hmk := makeInts (to.length + 1) (by omega) (boxC w (.slice pa put.length pc) (.slice la leave.length lc))
  have hA1 := alloc_below (boxC w (.slice pa put.length pc) (.slice la leave.length lc)) (.cells (intsA (List.replicate (to.length + 1) 0)) 3)
  have HR0 : Hid (Row ((boxC w (.slice pa put.length pc) (.slice la leave.length lc)).alloc (.cells (intsA (List.replicate (to.length + 1) 0)) 3)) (w.heap.size + 1) (List.replicate (to.length + 1) 0)) := by
    show ((boxC w _ _).heap.push _)[w.heap.size + 1]? = _
    rw [← hB1]
    exact Array.getElem?_push_size
  have HBX : Hid (BoxC (boxC w (.slice pa put.length pc) (.slice la leave.length lc)) w.heap.size (.slice pa put.length pc) (.slice la leave.length lc)) := hB2
  rw [hB1] at hmk hA1
  rw [show ((to.length + 1 : Nat) : Int) = (to.length : Int) + 1 by omega] at hmk
  unfold boxC at *
  clear hB2
  have hwt := wrap_c64 ((to.length : Int) + 1) (by omega) (by omega)
  go_enter Try.func9, Try.ntmps9
  go_wp2
  clear hmk
  generalize w.alloc (.cells #[.slice pa put.length pc, .slice la leave.length lc] 24) = w0 at *
  generalize w0.alloc (.cells (intsA (List.replicate (to.length + 1) 0)) 3) = w1 at *
  have HB1 : Hid (w0.heap.size = w.heap.size + 1) := hB1
  clear hB1
  go_loopw [18] (fun iv wr => ∃ (k : Nat) (O : List Int), k ≤ to.length ∧ iv = .int .i64 k ∧ Hid (Row wr (w.heap.size + 1) O) ∧ Hid (PuI (costP put) (costP leave) to k O) ∧ Below (w.heap.size + 1) w0 wr) (fun iv _ => to.length - (intOf iv).toNat)
  case atStart => exact ⟨0, _, Nat.zero_le _, rfl, HR0, PuI.start _ _ _, hA1⟩
  case round =>
    clear HR0 hA1
    obtain ⟨k, O, hk, rfl, HR, HI, hbw⟩ := hrel
    have hbx := hB0.trans (hbw.mono (Nat.le_succ _))
    obtain ⟨q0, q1, q2⟩ := HBX.out.below (Nat.lt_succ_self _) hbw
    by_cases hlt : k < to.length
    · obtain ⟨tb, toff, rfl, htb, htc⟩ := (HT.out.below hbx).at hlt
      obtain ⟨ht0, ht1⟩ := HTO.out k hlt
      have HN := HI.out.step hlt
      have hdP := HBP.out (to.getD k 0)
      obtain ⟨t, hte⟩ : ∃ t : Nat, to.getD k 0 = (t : Int) := ⟨(to.getD k 0).toNat, by omega⟩
      rw [hte] at HN hdP ht1 htc
      clear hte ht0
      have htp : t < put.length := by omega
      obtain ⟨pb, poff, rfl, hpb, hpc⟩ := (HP.out.below hbx).at htp
      have hdO := HBD.out [] (to.take k) (by simp) (by rw [List.length_take]; omega)
      rw [← HI.out.facts k (Nat.le_refl _)] at hdO
      have hOl : O.length = to.length + 1 := HI.out.len
      have cO := HR.out.cell (j := k) (by rw [hOl]; omega)
      have fO := HR.out.fz (k + 1)
      have cO1 := HR.out.cell (j := k + 1) (by rw [hOl]; omega)
      have lO := HR.out.lt
      have e1 : costP put (t : Int) = put.getD t 0 := by simp [costP]
      rw [e1] at HN hdP
      have HRS : Hid (Row (wr.setCell ⟨w.heap.size + 1, k + 1, none⟩ (.int .i64 (O.getD k 0 + put.getD t 0))).drew (w.heap.size + 1) (O.set (k + 1) (O.getD k 0 + put.getD t 0))) := HR.out.set (k + 1) _
      have hbS : Below (w.heap.size + 1) w0 (wr.setCell ⟨w.heap.size + 1, k + 1, none⟩ (.int .i64 (O.getD k 0 + put.getD t 0))).drew := ⟨hbw.os, hbw.tape, hbw.output, by simpa using hbw.size, fun k' hk => (Below.heap_setCell wr ⟨w.heap.size + 1, k + 1, none⟩ _ k' (by simp; omega)).trans (hbw.block k' hk)⟩
      have HN2 : Hid _ := HN
      clear hOl HI HR HN e1
      generalize O.getD k 0 = o at *
      generalize O.getD (k + 1) 0 = o1 at *
      generalize put.getD t 0 = p at *
      have hw2 := wrap_c64 (o + p) (by omega) (by omega)
      have hwk := wrap_c64 ((k : Int) + 1) (by omega) (by omega)
      have hi1 : 0 ≤ (k : Int) + 1 := by omega
      have hi2 : (k : Int) + 1 < (to.length : Int) + 1 := by omega
      have hi4 : (k : Int) < (to.length : Int) + 1 := by omega
      have hi3 : ((k : Int) + 1).toNat = k + 1 := by omega
      clear hdO hdP
      go_wp2
      go_still_tail 14, (show Try.prog.follows .mixedOrders = true by kernel_rfl)
      go_wp2
      go_roundw
      case rel => exact ⟨k + 1, _, by omega, by go_num, HRS, HN2, hbS⟩
      case measure => simp [intOf]; omega
    · obtain rfl : k = to.length := by omega
      have HRi : Hid (IntsR wr (.slice (some ⟨w.heap.size + 1, 0, none⟩) (to.length + 1) (to.length + 1)) (knL (costP put) (costP leave) (fr.take 0) to)) := by
        have h9 := HR.out.ints
        rw [HI.out.len, HI.out.final] at h9
        exact h9
      clear HI HR HTO HBP HBL
      go_wp2
      clear q0 q1 q2 hbx
      rename World => wo
      go_loopw [7, 40] (fun kv iv wr => ∃ (i : Nat), i ≤ fr.length ∧ iv = .int .i64 i ∧ Hid (IntsR wr kv (knL (costP put) (costP leave) (fr.take i) to)) ∧ Below (w.heap.size + 1) w0 wr) (fun _ iv _ => fr.length - (intOf iv).toNat)
      case atStart => exact ⟨0, Nat.zero_le _, rfl, HRi, hbw⟩
      case round =>
        clear HRi hbw
        obtain ⟨i, hi, rfl, HKn, hbw⟩ := hrel
        have hbx := hB0.trans (hbw.mono (Nat.le_succ _))
        obtain ⟨q0, q1, q2⟩ := HBX.out.below (Nat.lt_succ_self _) hbw
        by_cases hlt : i < fr.length
        · obtain ⟨fb, foff, rfl, hfb, hfc⟩ := (HF.out.below hbx).at hlt
          have hC := HBH.out i _ wr hlt hbx HKn.out
          obtain ⟨ka, kc, hke⟩ := HKn.out.slice
          subst hke
          generalize fr.getD i 0 = x at *
          clear HBH
          go_wp2_with fail
          refine hC.mono ?_
          rintro e w2 ⟨v, rfl, hv, hb2⟩
          have HKn2 : Hid (IntsR w2 v (knL (costP put) (costP leave) (fr.take (i + 1)) to)) := hv
          have hbw2 := hbw.trans (hb2.mono (by have h8 := hbw.size; rw [HB1.out] at h8; exact h8))
          clear hC hv hb2 HKn
          go_wp2
          go_roundw
          case rel => exact ⟨i + 1, by omega, by go_num, HKn2, hbw2⟩
          case measure => simp [intOf]; omega
        · obtain rfl : i = fr.length := by omega
          obtain ⟨ka, kc, hke⟩ := HKn.out.slice
          rw [knL_len] at hke
          subst hke
          obtain ⟨kb, koff, rfl, hkb, hkc⟩ := HKn.out.at (k := to.length) (by rw [knL_len]; omega)
          rw [knL_at _ _ _ _ (Nat.le_refl _), List.take_length, List.take_length] at hkc
          clear HKn HBH
          have hi5 : (to.length : Int) < (to.length : Int) + 1 := by omega
          generalize hz : dist (costP put) (costP leave) fr to = z at hkc
          have HZ : Hid (dist (costP put) (costP leave) fr to = z) := hz
          clear hz
          go_wp2
          go_ret
          exact ⟨by rw [HZ.out]; rfl, hbx⟩

end Go.Proofs.Ytnakafgbalkciaa
