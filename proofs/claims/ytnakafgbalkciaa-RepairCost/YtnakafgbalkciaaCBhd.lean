/- The program: what it costs behind one terminal more. -/
import Derived.Test.YtnakafgbalkciaaCMemB
import Derived.StillTailTactics
import Derived.Lib.MinMax
namespace Go.Proofs.Ytnakafgbalkciaa
open Go.RowKit
set_option linter.unusedVariables false
set_option maxRecDepth 100000

def knL (P L : Int → Int) (a to : List Int) : List Int := (List.range (to.length + 1)).map fun j => dist P L a (to.take j)
theorem knL_len (P L : Int → Int) (a to : List Int) : (knL P L a to).length = to.length + 1 := by simp [knL]
theorem knL_at (P L : Int → Int) (a to : List Int) {j : Nat} (h : j ≤ to.length) : (knL P L a to).getD j 0 = dist P L a (to.take j) := by
  have : j < to.length + 1 := by omega
  simp [knL, List.getD, this]
structure BhI (P L : Int → Int) (a to : List Int) (x : Int) (k : Nat) (O : List Int) : Prop where
  len : O.length = to.length + 1
  facts : ∀ j, j ≤ k → O.getD j 0 = dist P L (a ++ [x]) (to.take j)
theorem BhI.start (P L : Int → Int) (a to : List Int) (x v : Int) (hv : v = dist P L a [] + L x) : BhI P L a to x 0 ((List.replicate (to.length + 1) 0).set 0 v) := by
  refine ⟨by simp, fun j hj => ?_⟩
  obtain rfl : j = 0 := by omega
  rw [List.take_zero, dist_snoc_n, ← hv]
  simp [List.getD]
theorem BhI.step {P L : Int → Int} {a to : List Int} {x : Int} {k : Nat} {O : List Int} (h : BhI P L a to x k O) (hk : k < to.length) (v : Int) (hv : v = dist P L (a ++ [x]) (to.take (k + 1))) : BhI P L a to x (k + 1) (O.set (k + 1) v) := by
  refine ⟨by simp [h.len], fun j hj => ?_⟩
  by_cases e : j = k + 1
  · subst e
    have : k + 1 < O.length := by rw [h.len]; omega
    rw [← hv]
    simp [List.getD, this]
  · rw [← h.facts j (by omega)]
    simp [List.getD, List.getElem?_set_ne (show k + 1 ≠ j from fun e' => e e'.symm)]
theorem BhI.value {P L : Int → Int} {a to : List Int} {x : Int} {k : Nat} {O : List Int} (h : BhI P L a to x k O) (hk : k < to.length) :
    dist P L (a ++ [x]) (to.take (k + 1)) = if x = to.getD k 0 then min (min (dist P L a (to.take (k + 1)) + L x) (O.getD k 0 + P (to.getD k 0))) (dist P L a (to.take k)) else min (dist P L a (to.take (k + 1)) + L x) (O.getD k 0 + P (to.getD k 0)) := by
  have e : to.take (k + 1) = to.take k ++ [to.getD k 0] := by rw [List.take_add_one]; simp [List.getD, hk]
  rw [h.facts k (Nat.le_refl _), e]
  exact dist_snoc P L x _ _ a _ (Nat.le_refl _)
theorem BhI.final {P L : Int → Int} {a to : List Int} {x : Int} {O : List Int} (h : BhI P L a to x to.length O) : O = knL P L (a ++ [x]) to := by
  apply List.ext_getElem
  · rw [h.len, knL_len]
  · intro j h1 h2
    have h3 := h.facts j (by rw [h.len] at h1; omega)
    have h4 := knL_at P L (a ++ [x]) to (j := j) (by rw [h.len] at h1; omega)
    simp only [List.getD, List.getElem?_eq_getElem h1, List.getElem?_eq_getElem h2, Option.getD_some] at h3 h4
    rw [h3, h4]
theorem wrap_c64 (n : Int) (h0 : 0 ≤ n) (h1 : n ≤ 1000000) : IntKind.i64.wrap n = n := by
  simp [IntKind.wrap, IntKind.bits, IntKind.signed]
  split <;> omega

set_option maxHeartbeats 8000000 in
theorem behind_any (put leave a to : List Int) (x : Int) (pv lv kv tv : Value) (w : World) (hcp : costsB put = true) (hcl : costsB leave = true) (hx0 : 0 ≤ x) (hx1 : x < leave.length) (hto : insB put.length to = true) (hza : a.length ≤ 40) (hzt : to.length ≤ 40) (hzp : put.length ≤ 10) (hzl : leave.length ≤ 10)
    (hp : IntsR w pv put) (hl : IntsR w lv leave) (hk : IntsR w kv (knL (costP put) (costP leave) a to)) (ht : IntsR w tv to) :
    Calls Try.prog 16 #[.agg #[pv, lv], kv, .int .i64 x, tv] w fun e w' => ∃ v, e = .returned v ∧ IntsR w' v (knL (costP put) (costP leave) (a ++ [x]) to) ∧ Below w.heap.size w w' := by
  have hB0 := boxC_below w pv lv
  have hB1 := boxC_size w pv lv
  have hB2 := boxC_box w pv lv
  obtain ⟨pa, pc, rfl⟩ := hp.slice
  obtain ⟨la, lc, rfl⟩ := hl.slice
  obtain ⟨ka, kc, rfl⟩ := hk.slice
  obtain ⟨ta, tc, rfl⟩ := ht.slice
  have HP : Hid (IntsR w (.slice pa put.length pc) put) := hp
  have HL : Hid (IntsR w (.slice la leave.length lc) leave) := hl
  have HK : Hid (IntsR w (.slice ka (knL (costP put) (costP leave) a to).length kc) (knL (costP put) (costP leave) a to)) := hk
  have HT : Hid (IntsR w (.slice ta to.length tc) to) := ht
  clear hp hl hk ht
  have HTO : Hid (∀ k, k < to.length → 0 ≤ to.getD k 0 ∧ to.getD k 0 < put.length) := fun k hk => insB_at hto hk
  have HBP : Hid (∀ t, 0 ≤ costP put t ∧ costP put t ≤ 1000) := fun t => costP_bound hcp t
  have HBL : Hid (∀ t, 0 ≤ costP leave t ∧ costP leave t ≤ 1000) := fun t => costP_bound hcl t
  have HBD : Hid (∀ (a b : List Int), a.length ≤ 41 → b.length ≤ 41 → 0 ≤ dist (costP put) (costP leave) a b ∧ dist (costP put) (costP leave) a b ≤ 82000) := fun a b h1 h2 => by
    have := dist_bound _ _ HBP.out HBL.out 82 a b (by omega)
    omega
  clear hto hcp hcl
  rw [knL_len] at HK ⊢
  have hmk := makeInts (to.length + 1) (by omega) (boxC w (.slice pa put.length pc) (.slice la leave.length lc))
  have hA1 := alloc_below (boxC w (.slice pa put.length pc) (.slice la leave.length lc)) (.cells (intsA (List.replicate (to.length + 1) 0)) 3)
  have hA2 := alloc_size (boxC w (.slice pa put.length pc) (.slice la leave.length lc)) (.cells (intsA (List.replicate (to.length + 1) 0)) 3)
  have HR0 : Hid (Row ((boxC w (.slice pa put.length pc) (.slice la leave.length lc)).alloc (.cells (intsA (List.replicate (to.length + 1) 0)) 3)) (w.heap.size + 1) (List.replicate (to.length + 1) 0)) := by
    show ((boxC w _ _).heap.push _)[w.heap.size + 1]? = _
    rw [← hB1]
    exact Array.getElem?_push_size
  have HBX : Hid (BoxC (boxC w (.slice pa put.length pc) (.slice la leave.length lc)) w.heap.size (.slice pa put.length pc) (.slice la leave.length lc)) := hB2
  rw [hB1] at hmk hA1 hA2
  rw [show ((to.length + 1 : Nat) : Int) = (to.length : Int) + 1 by omega] at hmk
  unfold boxC at *
  clear hB2
  go_enter Try.func16, Try.ntmps16
  go_wp2
  clear hmk
  generalize w.alloc (.cells #[.slice pa put.length pc, .slice la leave.length lc] 24) = w0 at *
  generalize w0.alloc (.cells (intsA (List.replicate (to.length + 1) 0)) 3) = w1 at *
  have HB1 : Hid (w0.heap.size = w.heap.size + 1) := hB1
  have HA2 : Hid (w1.heap.size = w.heap.size + 1 + 1) := hA2
  clear hB1 hA2
  obtain ⟨q0, q1, q2⟩ := HBX.out.below (Nat.lt_succ_self _) hA1
  have hb1 := hB0.trans (hA1.mono (Nat.le_succ _))
  obtain ⟨kb, koff, rfl, hkb, hk0⟩ := (HK.out.below hb1).at (k := 0) (by rw [knL_len]; omega)
  obtain ⟨xn, rfl⟩ : ∃ xn : Nat, x = (xn : Int) := ⟨x.toNat, by omega⟩
  obtain ⟨lb, loff, rfl, hlb, hl0⟩ := (HL.out.below hb1).at (k := xn) (by omega)
  rw [Nat.add_zero, knL_at _ _ _ _ (Nat.zero_le _), List.take_zero] at hk0
  have hd0 := HBD.out a [] (by omega) (by simp)
  have hd1 := HBL.out xn
  have HST : Hid (BhI (costP put) (costP leave) a to xn 0 ((List.replicate (to.length + 1) 0).set 0 (dist (costP put) (costP leave) a [] + leave.getD xn 0))) := BhI.start _ _ _ _ _ _ rfl
  unfold costP at hd1
  rw [Int.toNat_natCast] at hd1
  generalize dist (costP put) (costP leave) a [] = d0 at *
  have hxl : xn < leave.length := by omega
  generalize hlx : leave.getD xn 0 = lx at *
  have HLX : Hid (leave.getD xn 0 = lx) := hlx
  clear hlx
  have hw1 := wrap_c64 (d0 + lx) (by omega) (by omega)
  have fz := HR0.out.fz 0
  have HSet : Hid (Row (w1.setCell ⟨w.heap.size + 1, 0, none⟩ (.int .i64 (d0 + lx))).drew (w.heap.size + 1) ((List.replicate (to.length + 1) 0).set 0 (d0 + lx))) := HR0.out.set 0 _
  have c0 := HR0.out.cell (j := 0) (by simp)
  have l0 := HR0.out.lt
  have hbS : Below (w.heap.size + 1) w0 (w1.setCell ⟨w.heap.size + 1, 0, none⟩ (.int .i64 (d0 + lx))).drew := ⟨hA1.os, hA1.tape, hA1.output, by simpa using hA1.size, fun k hk => (Below.heap_setCell w1 ⟨w.heap.size + 1, 0, none⟩ _ k (by simp; omega)).trans (hA1.block k hk)⟩
  go_still_tail 11, (show Try.prog.follows .mixedOrders = true by kernel_rfl)
  go_wp2
  clear c0 fz l0 hd0 hk0 hlb hkb hw1 q0 q1 q2 hb1
  generalize (w1.setCell ⟨w.heap.size + 1, 0, none⟩ (.int .i64 (d0 + lx))).drew = w2 at *
  go_loopw [28] (fun iv wr => ∃ (k : Nat) (O : List Int), k ≤ to.length ∧ iv = .int .i64 k ∧ Hid (Row wr (w.heap.size + 1) O) ∧ Hid (BhI (costP put) (costP leave) a to xn k O) ∧ Below (w.heap.size + 1) w0 wr) (fun iv _ => to.length - (intOf iv).toNat)
  case atStart => exact ⟨0, _, Nat.zero_le _, rfl, HSet, HST, hbS⟩
  case round =>
    clear HSet HST hbS HR0 HA2 hA1 hl0
    obtain ⟨k, O, hk, rfl, HR, HI, hbw⟩ := hrel
    have hbx := hB0.trans (hbw.mono (Nat.le_succ _))
    obtain ⟨q0, q1, q2⟩ := HBX.out.below (Nat.lt_succ_self _) hbw
    by_cases hlt : k < to.length
    · obtain ⟨tb, toff, rfl, htb, htc⟩ := (HT.out.below hbx).at hlt
      obtain ⟨ht0, ht1⟩ := HTO.out k hlt
      have HV := HI.out.value hlt
      have hdP := HBP.out (to.getD k 0)
      have HSt : Hid (∀ v, v = dist (costP put) (costP leave) (a ++ [(xn : Int)]) (to.take (k + 1)) → BhI (costP put) (costP leave) a to xn (k + 1) (O.set (k + 1) v)) := fun v hv => HI.out.step hlt v hv
      obtain ⟨t, hte⟩ : ∃ t : Nat, to.getD k 0 = (t : Int) := ⟨(to.getD k 0).toNat, by omega⟩
      rw [hte] at HV hdP ht1 htc
      clear hte ht0
      have htp : t < put.length := by omega
      obtain ⟨pb, poff, rfl, hpb, hpc⟩ := (HP.out.below hbx).at htp
      obtain ⟨lb', loff', hle, hlb, hlc⟩ := (HL.out.below hbx).at hxl
      obtain ⟨rfl, rfl⟩ : lb = lb' ∧ loff = loff' := by simpa using hle
      obtain ⟨kb', koff', hke, hkb, hkc0⟩ := (HK.out.below hbx).at (k := k) (by rw [knL_len]; omega)
      obtain ⟨rfl, rfl⟩ : kb = kb' ∧ koff = koff' := by simpa using hke
      obtain ⟨kb', koff', hke2, _, hkc1⟩ := (HK.out.below hbx).at (k := k + 1) (by rw [knL_len]; omega)
      obtain ⟨rfl, rfl⟩ : kb = kb' ∧ koff = koff' := by simpa using hke2
      clear hle hke hke2
      rw [knL_at _ _ _ _ (by omega)] at hkc0 hkc1
      have hdA := HBD.out a (to.take (k + 1)) (by omega) (by rw [List.length_take]; omega)
      have hdB := HBD.out a (to.take k) (by omega) (by rw [List.length_take]; omega)
      have hdO := HBD.out (a ++ [(xn : Int)]) (to.take k) (by simp; omega) (by rw [List.length_take]; omega)
      rw [← HI.out.facts k (Nat.le_refl _)] at hdO
      have hOl : O.length = to.length + 1 := HI.out.len
      have cO := HR.out.cell (j := k) (by rw [hOl]; omega)
      have cO1 := HR.out.cell (j := k + 1) (by rw [hOl]; omega)
      have fO := HR.out.fz (k + 1)
      have lO := HR.out.lt
      have HRS : Hid (∀ x, Row (wr.setCell ⟨w.heap.size + 1, k + 1, none⟩ (.int .i64 x)).drew (w.heap.size + 1) (O.set (k + 1) x)) := fun x => HR.out.set (k + 1) x
      have HbS : Hid (∀ x : Value, Below (w.heap.size + 1) w0 (wr.setCell ⟨w.heap.size + 1, k + 1, none⟩ x).drew) := fun x => ⟨hbw.os, hbw.tape, hbw.output, by simpa using hbw.size, fun k' hk => (Below.heap_setCell wr ⟨w.heap.size + 1, k + 1, none⟩ x k' (by simp; omega)).trans (hbw.block k' hk)⟩
      have hOl2 : Hid (O.length = to.length + 1) := hOl
      clear hOl HI HR
      have e1 : costP put (t : Int) = put.getD t 0 := by simp [costP]
      have e2 : costP leave (xn : Int) = lx := by simp only [costP, Int.toNat_natCast]; exact HLX.out
      rw [e1] at HV hdP
      rw [e2] at HV
      rw [HLX.out] at hlc
      clear e1 e2 HLX
      have HW : Hid (∀ v, v = (if (xn : Int) = (t : Int) then min (min (dist (costP put) (costP leave) a (to.take (k + 1)) + lx) (O.getD k 0 + put.getD t 0)) (dist (costP put) (costP leave) a (to.take k)) else min (dist (costP put) (costP leave) a (to.take (k + 1)) + lx) (O.getD k 0 + put.getD t 0)) → BhI (costP put) (costP leave) a to xn (k + 1) (O.set (k + 1) v)) := fun v hv => HSt.out v (hv.trans HV.symm)
      clear HV HSt
      generalize dist (costP put) (costP leave) a (to.take (k + 1)) = dA at *
      generalize hdBe : dist (costP put) (costP leave) a (to.take k) = dB at *
      have HdB : Hid (dist (costP put) (costP leave) a (to.take k) = dB) := hdBe
      clear hdBe
      generalize O.getD k 0 = o at *
      generalize O.getD (k + 1) 0 = o1 at *
      generalize put.getD t 0 = p at *
      have hw1 := wrap_c64 (dA + lx) (by omega) (by omega)
      have hw2 := wrap_c64 (o + p) (by omega) (by omega)
      have hwk := wrap_c64 ((k : Int) + 1) (by omega) (by omega)
      have hi1 : 0 ≤ (k : Int) + 1 := by omega
      have hi2 : (k : Int) + 1 < (to.length : Int) + 1 := by omega
      have hi4 : (k : Int) < (to.length : Int) + 1 := by omega
      have hi3 : ((k : Int) + 1).toNat = k + 1 := by omega
      have HKB : Hid (∀ wx, Below w.heap.size w wx → kb < wx.heap.size ∧ wx.cell? ⟨kb, koff + k, none⟩ = some (.int .i64 dB)) := fun wx hx => by
        obtain ⟨b', o', he, h1, h2⟩ := (HK.out.below hx).at (k := k) (by rw [knL_len]; omega)
        obtain ⟨rfl, rfl⟩ : kb = b' ∧ koff = o' := by simpa using he
        rw [knL_at _ _ _ _ (by omega), HdB.out] at h2
        exact ⟨h1, h2⟩
      clear HK HL HP HT HTO HBP HBL HBD HBX HB1 hdA hdB hdO hdP hd1
      clear hza
      go_wp2
      go_still_tail 26, (show Try.prog.follows .mixedOrders = true by kernel_rfl)
      by_cases hxt : (xn : Int) = (t : Int)
      · obtain rfl : xn = t := by omega
        have HV2 : Hid (BhI (costP put) (costP leave) a to xn (k + 1) (O.set (k + 1) (min (min (dA + lx) (o + p)) dB))) := HW.out _ (by rw [if_pos rfl])
        clear HW
        go_wp2
        have HR5 : Hid (Row (wr.setCell ⟨w.heap.size + 1, k + 1, none⟩ (.int .i64 (min (dA + lx) (o + p)))).drew (w.heap.size + 1) (O.set (k + 1) (min (dA + lx) (o + p)))) := HRS.out _
        have hb5 := HbS.out (.int .i64 (min (dA + lx) (o + p)))
        clear HRS HbS hkc1 hkc0 cO cO1 hpc hlc q1 q2 hbw fO lO
        generalize (wr.setCell ⟨w.heap.size + 1, k + 1, none⟩ (.int .i64 (min (dA + lx) (o + p)))).drew = w5 at *
        have hbx5 := hB0.trans (hb5.mono (Nat.le_succ _))
        obtain ⟨hkb5, hkc5⟩ := HKB.out w5 hbx5
        have c5 := HR5.out.cell (j := k + 1) (by rw [List.length_set, hOl2.out]; omega)
        rw [show (O.set (k + 1) (min (dA + lx) (o + p))).getD (k + 1) 0 = min (dA + lx) (o + p) by simp [List.getD, show k + 1 < O.length by rw [hOl2.out]; omega]] at c5
        generalize min (dA + lx) (o + p) = m at *
        have HSet5 : Hid (Row (w5.setCell ⟨w.heap.size + 1, k + 1, none⟩ (.int .i64 (min m dB))).drew (w.heap.size + 1) (O.set (k + 1) (min m dB))) := by
          have h9 := HR5.out.set (k + 1) (min m dB)
          rw [List.set_set] at h9
          exact h9
        have hbS5 : Below (w.heap.size + 1) w0 (w5.setCell ⟨w.heap.size + 1, k + 1, none⟩ (.int .i64 (min m dB))).drew := ⟨hb5.os, hb5.tape, hb5.output, by simpa using hb5.size, fun k' hk => (Below.heap_setCell w5 ⟨w.heap.size + 1, k + 1, none⟩ _ k' (by simp; omega)).trans (hb5.block k' hk)⟩
        have f5 := HR5.out.fz (k + 1)
        have l5 := HR5.out.lt
        clear HR5
        go_still_tail 14, (show Try.prog.follows .mixedOrders = true by kernel_rfl)
        go_wp2
        go_roundw
        case rel => exact ⟨k + 1, _, by omega, by go_num, HSet5, HV2, hbS5⟩
        case measure => simp [intOf]; omega
      · have HV2 : Hid (BhI (costP put) (costP leave) a to xn (k + 1) (O.set (k + 1) (min (dA + lx) (o + p)))) := HW.out _ (by rw [if_neg hxt])
        clear HW
        have hxt2 : ((t : Int) == (xn : Int)) = false := by rw [beq_eq_false_iff_ne]; omega
        have hxt3 : ¬ t = xn := by omega
        go_wp2
        have HR5 : Hid (Row (wr.setCell ⟨w.heap.size + 1, k + 1, none⟩ (.int .i64 (min (dA + lx) (o + p)))).drew (w.heap.size + 1) (O.set (k + 1) (min (dA + lx) (o + p)))) := HRS.out _
        have hb5 := HbS.out (.int .i64 (min (dA + lx) (o + p)))
        go_roundw
        case rel => exact ⟨k + 1, _, by omega, by go_num, HR5, HV2, hb5⟩
        case measure => simp [intOf]; omega
    · obtain rfl : k = to.length := by omega
      have HF := HI.out.final
      have HRi : Hid (IntsR wr (.slice (some ⟨w.heap.size + 1, 0, none⟩) (to.length + 1) (to.length + 1)) (knL (costP put) (costP leave) (a ++ [(xn : Int)]) to)) := by
        have h9 := HR.out.ints
        rw [HI.out.len, HF] at h9
        exact h9
      clear HI HR HF
      go_wp2
      go_ret
      exact ⟨_, rfl, HRi.out, hbx⟩

end Go.Proofs.Ytnakafgbalkciaa
