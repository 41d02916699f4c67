/- Texts of the proof, put together: YRefB. -/
import Derived.Test.YtdihdnhofgjhnaaDoorPy10
import Derived.Test.YtdihdnhofgjhnaaDoorPy14
namespace Go.Proofs.YtdihdnhofgjhnaaDoor
open Go.RowKit
set_option linter.unusedVariables false
set_option maxRecDepth 100000

/-- a row of a table -/
def rowB (g : Gm) (tb : Tb) (n s : Nat) : Bool := actsB g.terms n g.prods.length (tb.acts.getD s []) && gotosB g.names n (tb.gotos.getD s [])

set_option maxHeartbeats 8000000 in
theorem rfits_any (g : Gm) (pv lv sv : Value) (tb : Tb) (av ov cv : Value) (w : World) (h : GrM w g pv lv sv) (hT : TbM w tb av ov cv) :
    Calls Tryd.prog 6 #[gv g pv lv sv, tvv av ov cv] w fun e w' => e = .returned (.bool (fitsB g tb)) ∧ Below w.heap.size w w' := by
  obtain ⟨hB0, hBX, hBT⟩ := boxT_all w g pv lv sv av ov cv
  have HOk : Hid (∀ w', Below w.heap.size w w' → Calls Tryd.prog 16 #[gv g pv lv sv] w' fun e w'' => e = .returned (.bool (gOkB g)) ∧ Below w'.heap.size w' w'') := fun w' hb => gok_any g pv lv sv w' (h.below hb)
  have HHd : Hid (gOkB g = true → 0 ≤ g.terms ∧ g.terms ≤ 300 ∧ 0 ≤ g.names ∧ g.names ≤ 300 ∧ g.prods.length ≤ 400) := fun hok => by
    unfold gOkB at hok
    simp only [Bool.and_eq_true, decide_eq_true_eq] at hok
    have hh := hok.1
    unfold HeadG at hh
    omega
  have HT : Hid (TbM w tb av ov cv) := hT
  have hTT := hT
  obtain ⟨pa, pc, rfl⟩ := h.prods.slice
  obtain ⟨aa, ac, rfl⟩ := hTT.acts.slice
  obtain ⟨oa, oc, rfl⟩ := hTT.gotos.slice
  clear h hT hTT
  generalize hR : fitsB g tb = R at *
  have HR : Hid (fitsB g tb = R) := hR
  clear hR
  unfold fitsB tabB at HR
  generalize gOkB g = b1 at *
  have HBX : Hid (BoxG (boxT w g (.slice pa g.prods.length pc) lv sv (.slice aa tb.acts.length ac) (.slice oa tb.gotos.length oc) cv) w.heap.size g (.slice pa g.prods.length pc) lv sv) := hBX
  have HBT : Hid (BoxT (boxT w g (.slice pa g.prods.length pc) lv sv (.slice aa tb.acts.length ac) (.slice oa tb.gotos.length oc) cv) (w.heap.size + 1) (.slice aa tb.acts.length ac) (.slice oa tb.gotos.length oc) cv) := hBT
  clear hBX hBT
  obtain ⟨q0, q1, q2, q3, q4, q5, q6⟩ := HBX.out
  unfold gv gvs tvv tvs at *
  have HWB : Hid ((w.alloc (.cells #[.int .i64 g.terms, .int .i64 g.names, .int .i64 g.start, .slice pa g.prods.length pc, lv, sv] 25)).alloc (.cells #[.slice aa tb.acts.length ac, .slice oa tb.gotos.length oc, cv] 30) = boxT w g (.slice pa g.prods.length pc) lv sv (.slice aa tb.acts.length ac) (.slice oa tb.gotos.length oc) cv) := rfl
  have HB0 : Hid (Below w.heap.size w (boxT w g (.slice pa g.prods.length pc) lv sv (.slice aa tb.acts.length ac) (.slice oa tb.gotos.length oc) cv)) := hB0
  clear hB0
  generalize boxT w g (.slice pa g.prods.length pc) lv sv (.slice aa tb.acts.length ac) (.slice oa tb.gotos.length oc) cv = W1 at *
  generalize hN : tb.acts.length = n at *
  have HN : Hid (tb.acts.length = n) := hN
  clear hN
  generalize hM : tb.gotos.length = m at *
  have HMm : Hid (tb.gotos.length = m) := hM
  clear hM
  go_enter Tryd.func6, Tryd.ntmps6
  go_wp2_with fail
  rw [HWB.out]
  go_wp2_with fail
  go_at_call 16
  refine (HOk.out _ HB0.out).mono ?_
  rintro e w2 ⟨rfl, hb2⟩
  have HB2 : Hid (Below w.heap.size w w2) := HB0.out.trans (hb2.mono HB0.out.size)
  have HX2 : Hid (BoxG w2 w.heap.size g (.slice pa g.prods.length pc) lv sv) := HBX.out.below HBX.out.lt hb2
  have HT2 : Hid (BoxT w2 (w.heap.size + 1) (.slice aa n ac) (.slice oa m oc) cv) := HBT.out.below HBT.out.lt hb2
  clear q0 q1 q2 q3 q4 q5 q6 hb2 HBX HBT HB0 HWB HOk
  obtain ⟨q0, q1, q2, q3, q4, q5, q6⟩ := HX2.out
  obtain ⟨t0, t1, t2, t3⟩ := HT2.out
  cases b1 with
  | false =>
    have HZ : Hid (R = false) := by show _ = _; rw [← HR.out]; rfl
    clear HR
    go_wp2
    go_ret
    exact ⟨by rw [HZ.out]; rfl, HB2.out⟩
  | true =>
  obtain ⟨ht0, ht1, hn0, hn1, hp1⟩ := HHd.out rfl
  clear HHd
  by_cases h0 : (n : Int) < 1
  · have d0 : decide ((n : Int) < 1) = true := decide_eq_true h0
    have HZ : Hid (R = false) := by show _ = _; rw [← HR.out, decide_eq_false (by omega)]; rfl
    clear HR
    go_wp2
    go_ret
    exact ⟨by rw [HZ.out]; rfl, HB2.out⟩
  have d0 : decide ((n : Int) < 1) = false := decide_eq_false h0
  by_cases h1 : (n : Int) > 2000
  · have d1 : decide ((n : Int) > 2000) = true := decide_eq_true h1
    have HZ : Hid (R = false) := by show _ = _; rw [← HR.out, decide_eq_false (by omega)]; rfl
    clear HR
    go_wp2
    go_ret
    exact ⟨by rw [HZ.out]; rfl, HB2.out⟩
  have d1 : decide ((n : Int) > 2000) = false := decide_eq_false h1
  by_cases h2 : m = n
  case neg =>
    have d2 : ((m : Int) != (n : Int)) = true := by rw [bne_iff_ne]; omega
    have HZ : Hid (R = false) := by show _ = _; rw [← HR.out, decide_eq_false (by omega)]; rfl
    clear HR h2
    go_wp2
    go_ret
    exact ⟨by rw [HZ.out]; rfl, HB2.out⟩
  subst h2
  have HR2 : Hid (R = ((List.range m).drop 0).all (rowB g tb m)) := by
    show _ = _
    rw [← HR.out, List.drop_zero, decide_eq_true (by omega), Bool.true_and, Bool.true_and]
    rfl
  have hml : m ≤ 2000 := by omega
  clear HR h0 h1
  go_wp2
  clear q0 q1 q2 q3 q4 q5 q6 t0 t1 t2 t3 d0 d1
  have hs2 : w.heap.size + 2 ≤ w2.heap.size := by have := HT2.out.lt; omega
  have hw1 : IntKind.i64.wrap (g.terms + 1) = g.terms + 1 := by rw [IntKind.wrap_i64]; omega
  go_loopw [7] (fun iv wr => ∃ i : Nat, i ≤ m ∧ iv = .int .i64 i ∧ Hid (R = ((List.range m).drop i).all (rowB g tb m)) ∧ Hid (Below (w.heap.size + 2) w2 wr)) (fun iv _ => m - (intOf iv).toNat)
  case atStart => exact ⟨0, Nat.zero_le _, rfl, HR2, Below.refl _ _⟩
  case round =>
    obtain ⟨i, hi, rfl, HM, HBW⟩ := hrel
    have hbw := HB2.out.trans (HBW.out.mono (by omega))
    by_cases hlt : i < m
    · obtain ⟨ab, aoff, arv, rfl, hab, hac, har⟩ := (HT.out.below hbw).acts.at (k := i) (by rw [HN.out]; exact hlt)
      obtain ⟨ob, ooff, orv, rfl, hob, hoc, hor⟩ := (HT.out.below hbw).gotos.at (k := i) (by rw [HMm.out]; exact hlt)
      obtain ⟨ra, rc, rfl⟩ := har.slice
      obtain ⟨sa, sc, rfl⟩ := hor.slice
      have HA : Hid (R = (rowB g tb m i && ((List.range m).drop (i + 1)).all (rowB g tb m))) := by show _ = _; rw [HM.out]; exact all_rangeG _ _ _ hlt
      clear HM
      have HNO : Hid (rowB g tb m i = false → R = false) := fun hz => by rw [HA.out, hz]; rfl
      have HYE : Hid (rowB g tb m i = true → R = ((List.range m).drop (i + 1)).all (rowB g tb m)) := fun hz => by rw [HA.out, hz]; rfl
      clear HA
      have HRB : Hid (rowB g tb m i = (actsB g.terms m g.prods.length (tb.acts.getD i []) && gotosB g.names m (tb.gotos.getD i []))) := rfl
      generalize tb.acts.getD i [] = al at *
      generalize tb.gotos.getD i [] = ol at *
      unfold actsB gotosB at HRB
      have HAL : Hid (AcsM wr (.slice ra al.length rc) al) := har
      have HOL : Hid (IntsR wr (.slice sa ol.length sc) ol) := hor
      clear har hor
      have hsz : w.heap.size + 2 ≤ wr.heap.size := Nat.le_trans hs2 HBW.out.size
      obtain ⟨q0, q1, q2, q3, q4, q5, q6⟩ := HX2.out.below (K := w.heap.size + 2) (by omega) HBW.out
      obtain ⟨t0, t1, t2, t3⟩ := HT2.out.below (K := w.heap.size + 2) (by omega) HBW.out
      by_cases g1 : (al.length : Int) = g.terms + 1
      case neg =>
        have d1 : ((al.length : Int) != g.terms + 1) = true := by rw [bne_iff_ne]; exact g1
        have HZ : Hid (R = false) := HNO.out (by rw [HRB.out, decide_eq_false g1]; rfl)
        go_wp2_with fail
        go_quiet (fail)
        go_wp2
        go_ret
        exact ⟨by rw [HZ.out]; rfl, below_drewG hbw _⟩
      have d1 : ((al.length : Int) != g.terms + 1) = false := by rw [bne_eq_false_iff_eq]; exact g1
      by_cases g2 : (ol.length : Int) = g.names
      case neg =>
        have d2 : ((ol.length : Int) != g.names) = true := by rw [bne_iff_ne]; exact g2
        have HZ : Hid (R = false) := HNO.out (by rw [HRB.out, decide_eq_false g2]; simp)
        go_wp2_with fail
        go_quiet (fail)
        go_wp2
        go_ret
        exact ⟨by rw [HZ.out]; rfl, below_drewG hbw _⟩
      have d2 : ((ol.length : Int) != g.names) = false := by rw [bne_eq_false_iff_eq]; exact g2
      have HRC : Hid (rowB g tb m i = ((((List.range al.length).drop 0).all fun k => actB (decide ((k : Int) = g.terms)) m g.prods.length (al.getD k noAc)) && (ol.drop 0).all (gotoB m))) := by
        show _ = _; rw [HRB.out, decide_eq_true g1, decide_eq_true g2, Bool.true_and, Bool.true_and, List.drop_zero, List.drop_zero]
      clear HRB
      go_wp2_with fail
      go_quiet (fail)
      go_wp2
      rename World => w3
      clear q0 q1 q2 q3 q4 q5 q6 t0 t1 t2 t3 d1 d2
      have HC : Hid (∀ w' (k : Int) (a : Ac), Calls Tryd.prog 17 #[.agg #[.int .i64 a.kind, .int .i64 a.to], .bool (k == g.terms), .int .i64 m, .int .i64 g.prods.length] w' fun e w'' => e = .returned (.bool (actB (decide (k = g.terms)) m g.prods.length a)) ∧ Below w'.heap.size w' w'') := fun w' k a => ractOk_any (k == g.terms) m g.prods.length a w'
      have HXA : Hid (∀ w', Below w3.heap.size w3 w' → BoxG w' w.heap.size g (.slice pa g.prods.length pc) lv sv ∧ BoxT w' (w.heap.size + 1) (.slice (some ⟨ab, aoff, none⟩) m ac) (.slice (some ⟨ob, ooff, none⟩) m oc) cv ∧ w'.cell? ⟨ab, aoff + i, none⟩ = some (.slice ra al.length rc) ∧ w'.cell? ⟨ob, ooff + i, none⟩ = some (.slice sa ol.length sc) ∧ ab < w'.heap.size ∧ ob < w'.heap.size) := fun w' hb => by
        have h2 : Below (w.heap.size + 2) w2 w' := HBW.out.trans (hb.mono hsz)
        exact ⟨HX2.out.below (K := w.heap.size + 2) (by omega) h2, HT2.out.below (K := w.heap.size + 2) (by omega) h2, (hb.cell (p := ⟨ab, aoff + i, none⟩) hab).trans hac, (hb.cell (p := ⟨ob, ooff + i, none⟩) hob).trans hoc, Nat.lt_of_lt_of_le hab hb.size, Nat.lt_of_lt_of_le hob hb.size⟩
      have HFB : Hid (∀ w', Below w3.heap.size w3 w' → Below (w.heap.size + 2) w2 w' ∧ Below w.heap.size w w') := fun w' hb => by
        have h2 : Below (w.heap.size + 2) w2 w' := HBW.out.trans (hb.mono hsz)
        exact ⟨h2, HB2.out.trans (h2.mono (by omega))⟩
      have hall : al.length ≤ 301 := by omega
      have holl : ol.length ≤ 300 := by omega
      clear hac hoc hab hob hbw HBW HX2 HT2 HB2 HT HN HMm HR2 hsz hs2
      go_loopw [8] (fun kv wr => ∃ k : Nat, k ≤ al.length ∧ kv = .int .i64 k ∧ Hid (rowB g tb m i = ((((List.range al.length).drop k).all fun k => actB (decide ((k : Int) = g.terms)) m g.prods.length (al.getD k noAc)) && (ol.drop 0).all (gotoB m))) ∧ Hid (Below w3.heap.size w3 wr)) (fun kv _ => al.length - (intOf kv).toNat)
      case atStart => exact ⟨0, Nat.zero_le _, rfl, HRC, below_drewG (Below.refl _ _) _⟩
      case round =>
        obtain ⟨k, hk, rfl, HM, HBK⟩ := hrel
        obtain ⟨⟨q0, q1, q2, q3, q4, q5, q6⟩, ⟨t0, t1, t2, t3⟩, x1, x2, x3, x4⟩ := HXA.out wr HBK.out
        by_cases hlk : k < al.length
        · have dk : decide ((k : Int) ≤ g.terms) = true := decide_eq_true (by omega)
          obtain ⟨b, off, rfl, hb, hc0, hc1⟩ := (HAL.out.below HBK.out).at hlk
          have HA : Hid (((List.range al.length).drop k).all (fun k => actB (decide ((k : Int) = g.terms)) m g.prods.length (al.getD k noAc)) = (actB (decide ((k : Int) = g.terms)) m g.prods.length (al.getD k noAc) && ((List.range al.length).drop (k + 1)).all fun k => actB (decide ((k : Int) = g.terms)) m g.prods.length (al.getD k noAc))) := all_rangeG _ _ _ hlk
          have HCK : Hid (∀ w', Calls Tryd.prog 17 #[.agg #[.int .i64 (al.getD k noAc).kind, .int .i64 (al.getD k noAc).to], .bool ((k : Int) == g.terms), .int .i64 m, .int .i64 g.prods.length] w' fun e w'' => e = .returned (.bool (actB (decide ((k : Int) = g.terms)) m g.prods.length (al.getD k noAc))) ∧ Below w'.heap.size w' w'') := fun w' => HC.out w' k (al.getD k noAc)
          generalize actB (decide ((k : Int) = g.terms)) m g.prods.length (al.getD k noAc) = bk at *
          generalize al.getD k noAc = a at *
          obtain ⟨kind, to⟩ := a
          simp only at *
          have hk0 : (0 : Int) ≤ (k : Int) := by omega
          have hk1 : (k : Int) < (al.length : Int) := by omega
          have hk2 : (k : Int) < g.terms + 1 := by omega
          have hsk : wr.heap.size = wr.drew.heap.size := rfl
          have HD : Hid (Below wr.heap.size wr wr.drew) := ⟨rfl, rfl, rfl, Nat.le_refl _, fun _ _ => rfl⟩
          have HX : Hid (∀ w', Below wr.drew.heap.size wr.drew w' → w'.cell? ⟨w.heap.size, 0, none⟩ = some (.int .i64 g.terms) ∧ w'.cell? ⟨w.heap.size, 3, none⟩ = some (.slice pa g.prods.length pc) ∧ w'.cell? ⟨w.heap.size + 1, 0, none⟩ = some (.slice (some ⟨ab, aoff, none⟩) m ac) ∧ w'.cell? ⟨ab, aoff + i, none⟩ = some (.slice (some ⟨b, off, none⟩) al.length rc) ∧ w'.cell? ⟨b, off + k * 2, none⟩ = some (.int .i64 kind) ∧ w'.cell? ⟨b, off + k * 2 + 1, none⟩ = some (.int .i64 to)) := fun w' h => by
            have h1 : Below wr.heap.size wr w' := HD.out.trans h
            exact ⟨(h1.cell (p := ⟨w.heap.size, 0, none⟩) q0).trans q1, (h1.cell (p := ⟨w.heap.size, 3, none⟩) q0).trans q4, (h1.cell (p := ⟨w.heap.size + 1, 0, none⟩) t0).trans t1, (h1.cell (p := ⟨ab, aoff + i, none⟩) x3).trans x1, (h1.cell (p := ⟨b, off + k * 2, none⟩) hb).trans hc0, (h1.cell (p := ⟨b, off + k * 2 + 1, none⟩) hb).trans hc1⟩
          have HB4 : Hid (∀ w', Below wr.drew.heap.size wr.drew w' → Hid (Below w3.heap.size w3 w')) := fun w' h => HBK.out.trans ((HD.out.trans h).mono HBK.out.size)
          clear q2 q3 q5 q6 t2 t3 x2 x4 hsk
          cases bk with
          | false =>
            have HZ : Hid (R = false) := HNO.out (by rw [HM.out, HA.out]; rfl)
            clear HM HA
            go_wp2_with fail
            go_region_held3 (fun w' => w'.cell? ⟨w.heap.size, 0, none⟩ = some (.int .i64 g.terms) ∧ w'.cell? ⟨w.heap.size, 3, none⟩ = some (.slice pa g.prods.length pc) ∧ w'.cell? ⟨w.heap.size + 1, 0, none⟩ = some (.slice (some ⟨ab, aoff, none⟩) m ac) ∧ w'.cell? ⟨ab, aoff + i, none⟩ = some (.slice (some ⟨b, off, none⟩) al.length rc) ∧ w'.cell? ⟨b, off + k * 2, none⟩ = some (.int .i64 kind) ∧ w'.cell? ⟨b, off + k * 2 + 1, none⟩ = some (.int .i64 to)) (go_keep) ((go_at_call 17; refine (HCK.out _).mono ?_; rintro e w4 ⟨rfl, hb4⟩; obtain ⟨f0, f1, f2, f3, f4, f5⟩ := HX.out w4 hb4))
            all_goals
              have hf := (HFB.out w4 (HB4.out w4 hb4).out).2
              clear q0 q1 q4 t0 t1 x1 x3 hc0 hc1 f0 f1 f2 f3 f4 f5 hb4
              go_wp2
              go_ret
              exact ⟨by rw [HZ.out]; rfl, hf⟩
          | true =>
            have HM2 : Hid (rowB g tb m i = ((((List.range al.length).drop (k + 1)).all fun k => actB (decide ((k : Int) = g.terms)) m g.prods.length (al.getD k noAc)) && (ol.drop 0).all (gotoB m))) := by show _ = _; rw [HM.out, HA.out, Bool.true_and]
            clear HM HA
            go_wp2_with fail
            go_region_held3 (fun w' => w'.cell? ⟨w.heap.size, 0, none⟩ = some (.int .i64 g.terms) ∧ w'.cell? ⟨w.heap.size, 3, none⟩ = some (.slice pa g.prods.length pc) ∧ w'.cell? ⟨w.heap.size + 1, 0, none⟩ = some (.slice (some ⟨ab, aoff, none⟩) m ac) ∧ w'.cell? ⟨ab, aoff + i, none⟩ = some (.slice (some ⟨b, off, none⟩) al.length rc) ∧ w'.cell? ⟨b, off + k * 2, none⟩ = some (.int .i64 kind) ∧ w'.cell? ⟨b, off + k * 2 + 1, none⟩ = some (.int .i64 to)) (go_keep) ((go_at_call 17; refine (HCK.out _).mono ?_; rintro e w4 ⟨rfl, hb4⟩; obtain ⟨f0, f1, f2, f3, f4, f5⟩ := HX.out w4 hb4))
            all_goals
              have HF := HB4.out w4 hb4
              clear q0 q1 q4 t0 t1 x1 x3 hc0 hc1 f0 f1 f2 f3 f4 f5 hb4
              go_wp2
              go_roundw
              case rel => exact ⟨k + 1, by omega, by go_num, HM2, HF⟩
              case measure => simp [intOf]; omega
        · have dk : decide ((k : Int) ≤ g.terms) = false := decide_eq_false (by omega)
          have HRD : Hid (rowB g tb m i = (ol.drop 0).all (gotoB m)) := by show _ = _; rw [HM.out, List.drop_eq_nil_of_le (by simp; omega)]; rfl
          clear HM HRC hlk
          go_wp2
          rename World => w5
          clear q0 q1 q2 q3 q4 q5 q6 t0 t1 t2 t3 x1 x2 x3 x4 dk
          go_loopw [9] (fun kv wr => ∃ k : Nat, k ≤ ol.length ∧ kv = .int .i64 k ∧ Hid (rowB g tb m i = (ol.drop k).all (gotoB m)) ∧ Hid (Below w3.heap.size w3 wr)) (fun kv _ => ol.length - (intOf kv).toNat)
          case atStart => exact ⟨0, Nat.zero_le _, rfl, HRD, HBK⟩
          case round =>
            obtain ⟨l, hl, rfl, HM, HBL⟩ := hrel
            obtain ⟨⟨q0, q1, q2, q3, q4, q5, q6⟩, ⟨t0, t1, t2, t3⟩, x1, x2, x3, x4⟩ := HXA.out wr HBL.out
            obtain ⟨hfa, hfb⟩ := HFB.out wr HBL.out
            by_cases hll : l < ol.length
            · have dk : decide ((l : Int) < g.names) = true := decide_eq_true (by omega)
              obtain ⟨b, off, rfl, hb, hc⟩ := (HOL.out.below HBL.out).at hll
              have HAi : Hid _ := all_dropG ol 0 (gotoB m) l hll
              generalize ol.getD l 0 = x at *
              by_cases g3 : x < -1
              · have e1 : decide (x < -1) = true := decide_eq_true g3
                have HZ : Hid (R = false) := HNO.out (by rw [HM.out, HAi.out, show gotoB m x = false by unfold gotoB; rw [decide_eq_false (by omega)]; rfl]; rfl)
                clear HM HAi
                go_wp2
                go_ret
                exact ⟨by rw [HZ.out]; rfl, hfb⟩
              have e1 : decide (x < -1) = false := decide_eq_false g3
              by_cases g4 : x ≥ (m : Int)
              · have e2 : decide (x ≥ (m : Int)) = true := decide_eq_true g4
                have HZ : Hid (R = false) := HNO.out (by rw [HM.out, HAi.out, show gotoB m x = false by unfold gotoB; rw [decide_eq_false (p := x < (m : Int)) (by omega), Bool.and_false]]; rfl)
                clear HM HAi g3 g4
                go_wp2
                go_ret
                exact ⟨by rw [HZ.out]; rfl, hfb⟩
              have e2 : decide (x ≥ (m : Int)) = false := decide_eq_false g4
              have HZ : Hid (rowB g tb m i = (ol.drop (l + 1)).all (gotoB m)) := by
                show _ = _; rw [HM.out, HAi.out, show gotoB m x = true by unfold gotoB; rw [decide_eq_true (by omega), decide_eq_true (by omega)]; rfl, Bool.true_and]
              clear HM HAi g3 g4
              go_wp2
              go_roundw
              case rel => exact ⟨l + 1, by omega, by go_num, HZ, HBL⟩
              case measure => simp [intOf]; omega
            · have dk : decide ((l : Int) < g.names) = false := decide_eq_false (by omega)
              have HZ : Hid (R = ((List.range m).drop (i + 1)).all (rowB g tb m)) := HYE.out (by rw [HM.out, List.drop_eq_nil_of_le (by omega)]; rfl)
              clear HM
              go_wp2
              go_roundw
              case rel => exact ⟨i + 1, by omega, by go_num, HZ, hfa⟩
              case measure => simp [intOf]; omega
    · have HZ : Hid (R = true) := by show _ = _; rw [HM.out, List.drop_eq_nil_of_le (by simp; omega)]; rfl
      clear HM
      go_wp2
      go_ret
      exact ⟨by rw [HZ.out]; rfl, hbw⟩

end Go.Proofs.YtdihdnhofgjhnaaDoor
