/- Texts of the proof, put together: GFoW, GRwh. -/
import Derived.Test.YtkdoghaoijdedaaGreatDoorGt34
import Derived.Test.YtkdoghaoijdedaaGreatDoorGt26
import Derived.Test.YtkdoghaoijdedaaGreatDoorGt39
import Derived.Test.YtkdoghaoijdedaaGreatDoorGt15
import Derived.BigRegion
import Derived.Test.YtkdoghaoijdedaaGreatDoorGt07
namespace Go.Proofs.YtkdoghaoijdedaaGreatDoor
open Go.RowKit
set_option linter.unusedVariables false
set_option maxRecDepth 100000

theorem below_drwT {K : Nat} {w w' : World} (h : Below K w w') : Below K w w'.drew := ⟨h.os, h.tape, h.output, h.size, h.block⟩
/-- a grammar in a variable -/
def BoxH (w : World) (b : Nat) (T N s : Int) (pv lv sv : Value) : Prop := w.heap[b]? = some (.cells #[.int .i64 T, .int .i64 N, .int .i64 s, pv, lv, sv] 25 (0, 0))
theorem BoxH.lt {w : World} {b : Nat} {T N s : Int} {pv lv sv : Value} (h : BoxH w b T N s pv lv sv) : b < w.heap.size := (Array.getElem?_eq_some_iff.1 h).1
theorem BoxH.other {w : World} {b B o : Nat} {T N s : Int} {pv lv sv v : Value} (h : BoxH w b T N s pv lv sv) (hne : b ≠ B) : BoxH (w.setCell ⟨B, o, none⟩ v) b T N s pv lv sv := by
  unfold BoxH at *
  rw [Below.heap_setCell _ _ _ _ (by simpa using hne)]
  exact h
theorem BoxH.drew {w : World} {b : Nat} {T N s : Int} {pv lv sv : Value} (h : BoxH w b T N s pv lv sv) : BoxH w.drew b T N s pv lv sv := h
theorem getD_drop (l : List Int) (k u : Nat) : (l.drop k).getD u 0 = l.getD (k + u) 0 := by simp [List.getD]

/-- but for the table's rows all is as it was -/
def KeepT (w wr : World) (K N : Nat) (bl : Nat → Nat) : Prop := ∀ q, q < K → (∀ j, j < N → q ≠ bl j) → wr.heap[q]? = w.heap[q]?
theorem KeepT.set {w wr : World} {K N : Nat} {bl : Nat → Nat} (h : KeepT w wr K N bl) {n : Nat} (hn : n < N) (t : Nat) (x : Value) : KeepT w (wr.setCell ⟨bl n, t, none⟩ x) K N bl := fun q hq hne => (Below.heap_setCell _ _ _ _ (by simpa using hne n hn)).trans (h q hq hne)
theorem KeepT.drew {w wr : World} {K N : Nat} {bl : Nat → Nat} (h : KeepT w wr K N bl) : KeepT w wr.drew K N bl := h

set_option maxHeartbeats 16000000 in
theorem rflw_any (T N : Nat) (s : Int) (hT : T ≤ 300) (ps : List PdR) (pv lv sv : Value) (p : PdR) (rv : Value) (k n lf : Nat) (E : List Bool) (EB FD fc D c : Nat) (fbl bl : Nat → Nat) (FF LL : Nat → List Bool) (wb w : World) (hN : N ≤ 300) (hSy : SymsL N p.right) (hTr : ∀ j, j < p.right.length → p.right.getD j 0 < (T : Int)) (hk : k < p.right.length) (hn : -1 - p.right.getD k 0 = (n : Int)) (hnN : n < N) (hlf : p.left = (lf : Int)) (hlN : lf < N) (hE : E.length = N) (hEf : factB E = hgtB false (prsS ps) N) (hRE : RowB wb EB E) (hFT : TabM wb FD N T fbl FF) (hFF : ∀ x t, x < N → (factB (FF x) t = true ↔ fstP N ps x t)) (hrv : IntsR wb rv p.right) (hb : Below wb.heap.size wb w) (htab : TabM w D N (T + 1) bl LL) (hD : wb.heap.size ≤ D) (hbl : ∀ j, j < N → wb.heap.size ≤ bl j) (hpv : ∃ a n c, pv = .slice a n c) (hlv : ∃ a n c, lv = .slice a n c) (hsv : ∃ a n c, sv = .slice a n c) :
    Calls Tryz.prog 35 #[.agg #[.int .i64 T, .int .i64 N, .int .i64 s, pv, lv, sv], .agg #[.int .i64 p.left, rv, .int .i64 p.level], .int .i64 k, .slice (some ⟨EB, 0, none⟩) N N, .slice (some ⟨FD, 0, none⟩) N fc, .slice (some ⟨D, 0, none⟩) N c] w fun e w' => e = .returned (.tuple #[]) ∧ (∃ LL', TabM w' D N (T + 1) bl LL' ∧ FoP N T ps p.right k n lf LL LL') ∧ KeepT w w' w.heap.size N bl ∧ Below wb.heap.size wb w' := by
  obtain ⟨h1, h2, h3, hb1⟩ := boxes2 w (.cells #[.int .i64 (T : Int), .int .i64 (N : Int), .int .i64 s, pv, lv, sv] 25) (.cells #[.int .i64 p.left, rv, .int .i64 p.level] 34)
  have hrl := hSy.1
  have HFN : Hid (∀ (u m : Nat) (LL' LL'' : Nat → List Bool), FoI N T ps p.right k n LL u LL' → m < N → AtP (hgtB false (prsS ps) N) (p.right.drop (k + 1)) u → -1 - (p.right.drop (k + 1)).getD u 0 = (m : Int) → OrI N (T + 1) LL' n (factB (FF m)) T LL'' → FoI N T ps p.right k n LL (u + 1) LL'') := fun u m LL' LL'' g1 g2 g3 g4 g5 => g1.name hnN (fun t => hFF m t g2) (hFT.len m g2) g3 g4 g5
  have HF0 : Hid (FoI N T ps p.right k n LL 0 LL) := FoI.start htab.len
  have HTb0 : Hid (TabM ((w.alloc (.cells #[.int .i64 (T : Int), .int .i64 (N : Int), .int .i64 s, pv, lv, sv] 25)).alloc (.cells #[.int .i64 p.left, rv, .int .i64 p.level] 34)) D N (T + 1) bl LL) := htab.below hb1
  have HNG : Hid (∀ j, j < N → w.heap.size ≠ bl j) := fun j hj => by have := htab.bl_lt hj; omega
  have HNP : Hid (∀ j, j < N → w.heap.size + 1 ≠ bl j) := fun j hj => by have := htab.bl_lt hj; omega
  have hbw0 : Below wb.heap.size wb ((w.alloc (.cells #[.int .i64 (T : Int), .int .i64 (N : Int), .int .i64 s, pv, lv, sv] 25)).alloc (.cells #[.int .i64 p.left, rv, .int .i64 p.level] 34)) := hb.trans (hb1.mono hb.size)
  have HKT0 : Hid (KeepT w ((w.alloc (.cells #[.int .i64 (T : Int), .int .i64 (N : Int), .int .i64 s, pv, lv, sv] 25)).alloc (.cells #[.int .i64 p.left, rv, .int .i64 p.level] 34)) w.heap.size N bl) := fun q hq _ => hb1.block q hq
  have HBL : Hid (∀ j, j < N → wb.heap.size ≤ bl j) := hbl
  have HRE : Hid (RowB wb EB E) := hRE
  have HEN : Hid (E.length = N) := hE
  have HEF : Hid (factB E = hgtB false (prsS ps) N) := hEf
  have HFT : Hid (TabM wb FD N T fbl FF) := hFT
  have HRV : Hid (IntsR wb rv p.right) := hrv
  have HSY : Hid (SymsL N p.right) := hSy
  have HTR : Hid (∀ j, j < p.right.length → p.right.getD j 0 < (T : Int)) := hTr
  rw [hlf] at h1 h2 h3 hb1 HTb0 HKT0 hbw0 ⊢
  generalize p.right = R at *
  generalize p.level = plv at *
  obtain ⟨ra, rc, rfl⟩ := hrv.slice
  obtain ⟨pa, pn, pc, rfl⟩ := hpv
  obtain ⟨la, ln, lc, rfl⟩ := hlv
  obtain ⟨sa, sn, sc, rfl⟩ := hsv
  have HB0 : Hid (BoxH ((w.alloc (.cells #[.int .i64 (T : Int), .int .i64 (N : Int), .int .i64 s, .slice pa pn pc, .slice la ln lc, .slice sa sn sc] 25)).alloc (.cells #[.int .i64 (lf : Int), .slice ra R.length rc, .int .i64 plv] 34)) w.heap.size T N s (.slice pa pn pc) (.slice la ln lc) (.slice sa sn sc)) := h1
  have HP0 : Hid (BoxP ((w.alloc (.cells #[.int .i64 (T : Int), .int .i64 (N : Int), .int .i64 s, .slice pa pn pc, .slice la ln lc, .slice sa sn sc] 25)).alloc (.cells #[.int .i64 (lf : Int), .slice ra R.length rc, .int .i64 plv] 34)) (w.heap.size + 1) lf (.slice ra R.length rc) plv) := h2
  have e0 := HP0.out.c0
  have e1 := HP0.out.c1
  have lpb := HP0.out.lt
  obtain ⟨b0, off0, hra, hb0, hc0⟩ := (hrv.below hbw0).at hk
  subst hra
  obtain ⟨hs1, hs2⟩ := hSy.2 k hk
  have hwn : IntKind.i64.wrap (-1 - R.getD k 0) = (n : Int) := by rw [wrap_g64 _ (by unfold I64 at hs2; omega) (by unfold I64 at hs2; omega), hn]
  clear hE hEf hRE hFT hFF hrv hSy hTr hbl htab hb h1 h2 h3 hb1 hn hs1 hs2
  generalize R.getD k 0 = sk at *
  go_enter Tryz.func35, Tryz.ntmps35
  go_wp2
  clear e0 e1 lpb hc0 hb0
  generalize (w.alloc (.cells #[.int .i64 (T : Int), .int .i64 (N : Int), .int .i64 s, .slice pa pn pc, .slice la ln lc, .slice sa sn sc] 25)).alloc (.cells #[.int .i64 (lf : Int), .slice (some ⟨b0, off0, none⟩) R.length rc, .int .i64 plv] 34) = W at *
  generalize hgb : w.heap.size = gb at *
  have HGB : Hid (w.heap.size = gb) := hgb
  clear hgb
  have hst : hasB false (hgtB false (prsS ps) N) ((R.drop (k + 1)).take 0) = true := by rw [List.take_zero]; rfl
  have HST : Hid (hasB false (hgtB false (prsS ps) N) ((R.drop (k + 1)).take 0) = true) := hst
  clear hst
  go_loopw [13] (fun jv wr => ∃ (u : Nat) (LL' : Nat → List Bool), k + 1 + u ≤ R.length ∧ jv = .int .i64 ((k + 1 + u : Nat) : Int) ∧ Hid (hasB false (hgtB false (prsS ps) N) ((R.drop (k + 1)).take u) = true) ∧ Hid (TabM wr D N (T + 1) bl LL') ∧ Hid (FoI N T ps R k n LL u LL') ∧ Hid (BoxH wr gb T N s (.slice pa pn pc) (.slice la ln lc) (.slice sa sn sc)) ∧ Hid (BoxP wr (gb + 1) lf (.slice (some ⟨b0, off0, none⟩) R.length rc) plv) ∧ Hid (KeepT w wr gb N bl) ∧ Below wb.heap.size wb wr) (fun jv _ => R.length - (intOf jv).toNat)
  case atStart => exact ⟨0, LL, by omega, by go_num, HST, HTb0, HF0, HB0, HP0, HKT0, hbw0⟩
  case round =>
    clear HST HTb0 HF0 HB0 HP0 HKT0 hbw0
    obtain ⟨u, LL', hu, rfl, HST, HTb, HI, HBG, HBP, HKT, hbw⟩ := hrel
    have e0 := HBP.out.c0
    have e1 := HBP.out.c1
    have lpb := HBP.out.lt
    have hdl : (R.drop (k + 1)).length = R.length - (k + 1) := List.length_drop
    by_cases hul : k + 1 + u < R.length
    · obtain ⟨b3, off3, e3, hb3, hc3⟩ := (HRV.out.below hbw).at hul
      obtain ⟨rfl, rfl⟩ : b0 = b3 ∧ off0 = off3 := by simpa using e3
      obtain ⟨hs1, hs2⟩ := HSY.out.2 _ hul
      have hs3 := HTR.out _ hul
      have hAt : AtP (hgtB false (prsS ps) N) (R.drop (k + 1)) u := ⟨by omega, HST.out⟩
      have hgd : (R.drop (k + 1)).getD u 0 = R.getD (k + 1 + u) 0 := getD_drop R (k + 1) u
      have HTN : Hid (hasB false (hgtB false (prsS ps) N) ((R.drop (k + 1)).take (u + 1)) = (if R.getD (k + 1 + u) 0 < 0 then hgtB false (prsS ps) N (-1 - R.getD (k + 1 + u) 0).toNat else false)) := by show _ = _; rw [take_name (by omega), HST.out, Bool.true_and, hgd]
      have cD := HTb.out.at_ n hnN
      have lD := HTb.out.lt
      have lbl := HTb.out.bl_lt hnN
      by_cases hsn : R.getD (k + 1 + u) 0 < 0
      · obtain ⟨m, hm⟩ : ∃ m : Nat, -1 - R.getD (k + 1 + u) 0 = (m : Int) := ⟨(-1 - R.getD (k + 1 + u) 0).toNat, by omega⟩
        have hmN : m < N := by omega
        have hwq : IntKind.i64.wrap (-1 - R.getD (k + 1 + u) 0) = (m : Int) := by rw [wrap_g64 _ (by unfold I64 at hs2; omega) (by unfold I64 at hs2; omega), hm]
        have HTE : Hid (hasB false (hgtB false (prsS ps) N) ((R.drop (k + 1)).take (u + 1)) = factB E m) := by show _ = _; rw [HTN.out, if_pos hsn, hm, Int.toNat_natCast, HEF.out]
        have HOR0 : Hid (OrI N (T + 1) LL' n (factB (FF m)) 0 LL') := OrI.start HTb.out.len _ _
        have HNx : Hid (∀ LL'', OrI N (T + 1) LL' n (factB (FF m)) T LL'' → FoI N T ps R k n LL (u + 1) LL'') := fun LL'' ho => HFN.out u m LL' LL'' HI.out hmN hAt (by rw [hgd]; exact hm) ho
        clear HTN hAt hs3 hs1 hs2 HI hm hgd e3
        generalize R.getD (k + 1 + u) 0 = sy at *
        go_wp2
        clear e0 e1 lpb hc3 hb3 cD lD lbl
        go_loopw [15] (fun tv wr => ∃ (t : Nat) (LL'' : Nat → List Bool), t ≤ T ∧ tv = .int .i64 t ∧ Hid (TabM wr D N (T + 1) bl LL'') ∧ Hid (OrI N (T + 1) LL' n (factB (FF m)) t LL'') ∧ Hid (BoxH wr gb T N s (.slice pa pn pc) (.slice la ln lc) (.slice sa sn sc)) ∧ Hid (BoxP wr (gb + 1) lf (.slice (some ⟨b0, off0, none⟩) R.length rc) plv) ∧ Hid (KeepT w wr gb N bl) ∧ Below wb.heap.size wb wr) (fun tv _ => T - (intOf tv).toNat)
        case atStart => exact ⟨0, LL', Nat.zero_le _, rfl, HTb, HOR0, HBG, HBP, HKT, hbw⟩
        case round =>
          clear HTb HOR0 HBP HBG HKT hbw
          obtain ⟨t, LL'', ht, rfl, HTb, HOR, HBG, HBP, HKT, hbw⟩ := hrel
          obtain ⟨q0, q1, q2, q3, q4, q5, _, lgb⟩ := six_cells HBG.out
          by_cases htT : t < T
          · have cD := HTb.out.at_ n hnN
            have lD := HTb.out.lt
            have lbl := HTb.out.bl_lt hnN
            have hF := HFT.out.below hbw
            have cM := hF.at_ m hmN
            have lF := hF.lt
            have lbm := hF.bl_lt hmN
            have cx := HTb.out.cell (k := t) hnN (by omega)
            have cm := hF.cell (k := t) hmN htT
            have fx := (HTb.out.row n hnN).fz t
            have htT1 : (t : Int) < (T : Int) + 1 := by omega
            have HTn : Hid (∀ x, TabM (wr.setCell ⟨bl n, t, none⟩ (.bool x)).drew D N (T + 1) bl (setT LL'' n t x)) := fun x => (HTb.out.setT hnN x).drew
            have HORn : Hid (OrI N (T + 1) LL' n (factB (FF m)) (t + 1) (setT LL'' n t (factB (LL'' n) t || factB (FF m) t))) := HOR.out.step hnN (by omega)
            have HBGn : Hid (∀ x, BoxH (wr.setCell ⟨bl n, t, none⟩ x).drew gb T N s (.slice pa pn pc) (.slice la ln lc) (.slice sa sn sc)) := fun x => (HBG.out.other (HNG.out n hnN)).drew
            have HBPn : Hid (∀ x, BoxP (wr.setCell ⟨bl n, t, none⟩ x).drew (gb + 1) lf (.slice (some ⟨b0, off0, none⟩) R.length rc) plv) := fun x => (HBP.out.other (HNP.out n hnN)).drew
            have HKTn : Hid (∀ x, KeepT w (wr.setCell ⟨bl n, t, none⟩ x).drew gb N bl) := fun x => (HKT.out.set hnN t x).drew
            have hbn : ∀ x, Below wb.heap.size wb (wr.setCell ⟨bl n, t, none⟩ x).drew := fun x => below_drwT (below_set hbw (HBL.out n hnN) _ _)
            have Hbn : Hid _ := hbn
            clear hbn HTb HOR HBP HBG HKT hF
            generalize bl n = bx at *
            generalize fbl m = bm at *
            generalize factB (LL'' n) t = fl at *
            generalize factB (FF m) t = fm at *
            cases fl
            all_goals
              go_wp2
              go_region
              all_goals
                go_wp2
                go_roundw
                case rel => exact ⟨t + 1, _, by omega, by go_num, HTn.out _, HORn, HBGn.out _, HBPn.out _, HKTn.out _, Hbn.out _⟩
                case measure => simp [intOf]; omega
          · obtain rfl : t = T := by omega
            have HIn : Hid (FoI N t ps R k n LL (u + 1) LL'') := HNx.out LL'' HOR.out
            have cE := (HRE.out.below hbw).cell (j := m) (by rw [HEN.out]; exact hmN)
            have lE := (HRE.out.below hbw).lt
            clear HOR HNx
            cases hem : factB E m with
            | true =>
              have HSn : Hid (hasB false (hgtB false (prsS ps) N) ((R.drop (k + 1)).take (u + 1)) = true) := by show _ = _; rw [HTE.out, hem]
              rw [hem] at cE
              clear HTE hem
              go_wp2
              go_roundw
              case rel => exact ⟨u + 1, LL'', by omega, by go_num, HSn, HTb, HIn, HBG, HBP, HKT, hbw⟩
              case measure => simp [intOf]; omega
            | false =>
              have HPn : Hid (FoP N t ps R k n lf LL LL'') := HIn.out.stop (by rw [HTE.out, hem])
              rw [hem] at cE
              clear HTE hem HIn
              go_wp2
              first | go_end0 | refine bodyPost_ret (results_none rfl _ _ _) rfl ?_
              exact ⟨rfl, ⟨LL'', HTb.out, HPn.out⟩, (by rw [HGB.out]; exact HKT.out), hbw⟩
      · obtain ⟨ts, hts⟩ : ∃ ts : Nat, R.getD (k + 1 + u) 0 = (ts : Int) := ⟨(R.getD (k + 1 + u) 0).toNat, by omega⟩
        have htsT : ts < T := by omega
        have HPn : Hid (FoP N T ps R k n lf LL (setT LL' n ts true)) := (HI.out.term hnN hAt (by rw [hgd]; exact hts) htsT).stop (by rw [HTN.out, if_neg hsn])
        have cx := HTb.out.cell (k := ts) hnN (by omega)
        have fx := (HTb.out.row n hnN).fz ts
        have htT1 : (ts : Int) < (T : Int) + 1 := by omega
        have HTn : Hid (TabM (wr.setCell ⟨bl n, ts, none⟩ (.bool true)) D N (T + 1) bl (setT LL' n ts true)) := HTb.out.setT hnN true
        have HKTn : Hid (KeepT w (wr.setCell ⟨bl n, ts, none⟩ (.bool true)) gb N bl) := HKT.out.set hnN ts _
        have hbn : Below wb.heap.size wb (wr.setCell ⟨bl n, ts, none⟩ (.bool true)) := below_set hbw (HBL.out n hnN) _ _
        have Hbn : Hid _ := hbn
        rw [hts] at hc3
        have hsp : (0 : Int) ≤ (ts : Int) := by omega
        clear hbn HTb HI HTN hs1 hs2 hs3 hsn hts HBP HBG HKT hAt hgd e3
        generalize bl n = bx at *
        generalize factB (LL' n) ts = fl at *
        go_wp2
        first | go_end0 | refine bodyPost_ret (results_none rfl _ _ _) rfl ?_
        exact ⟨rfl, ⟨_, HTn.out, HPn.out⟩, (by rw [HGB.out]; exact HKTn.out), Hbn.out⟩
    · have hue : (R.drop (k + 1)).length ≤ u := by omega
      have HOR0 : Hid (OrI N (T + 1) LL' n (factB (LL' lf)) 0 LL') := OrI.start HTb.out.len _ _
      have HPx : Hid (∀ LL'', OrI N (T + 1) LL' n (factB (LL' lf)) (T + 1) LL'' → FoP N T ps R k n lf LL LL'') := fun LL'' ho => HI.out.all hue HST.out hnN hlN ho
      clear HI HST hue
      go_wp2
      clear e0 e1 lpb
      go_loopw [16] (fun tv wr => ∃ (t : Nat) (LL'' : Nat → List Bool), t ≤ T + 1 ∧ tv = .int .i64 t ∧ Hid (TabM wr D N (T + 1) bl LL'') ∧ Hid (OrI N (T + 1) LL' n (factB (LL' lf)) t LL'') ∧ Hid (BoxH wr gb T N s (.slice pa pn pc) (.slice la ln lc) (.slice sa sn sc)) ∧ Hid (BoxP wr (gb + 1) lf (.slice (some ⟨b0, off0, none⟩) R.length rc) plv) ∧ Hid (KeepT w wr gb N bl) ∧ Below wb.heap.size wb wr) (fun tv _ => T + 1 - (intOf tv).toNat)
      case atStart => exact ⟨0, LL', Nat.zero_le _, rfl, HTb, HOR0, HBG, HBP, HKT, hbw⟩
      case round =>
        clear HTb HOR0 HBP HBG HKT hbw
        obtain ⟨t, LL'', ht, rfl, HTb, HOR, HBG, HBP, HKT, hbw⟩ := hrel
        obtain ⟨q0, q1, q2, q3, q4, q5, _, lgb⟩ := six_cells HBG.out
        by_cases htT : t ≤ T
        · have e0 := HBP.out.c0
          have lpb := HBP.out.lt
          have cD := HTb.out.at_ n hnN
          have cM := HTb.out.at_ lf hlN
          have lD := HTb.out.lt
          have lbl := HTb.out.bl_lt hnN
          have lbm := HTb.out.bl_lt hlN
          have cx := HTb.out.cell (k := t) hnN (by omega)
          have cm := HTb.out.cell (k := t) hlN (by omega)
          have fx := (HTb.out.row n hnN).fz t
          rw [HOR.out.own hlN t] at cm
          have htT1 : (t : Int) < (T : Int) + 1 := by omega
          have HTn : Hid (∀ x, TabM (wr.setCell ⟨bl n, t, none⟩ (.bool x)).drew D N (T + 1) bl (setT LL'' n t x)) := fun x => (HTb.out.setT hnN x).drew
          have HORn : Hid (OrI N (T + 1) LL' n (factB (LL' lf)) (t + 1) (setT LL'' n t (factB (LL'' n) t || factB (LL' lf) t))) := HOR.out.step hnN (by omega)
          have HBGn : Hid (∀ x, BoxH (wr.setCell ⟨bl n, t, none⟩ x).drew gb T N s (.slice pa pn pc) (.slice la ln lc) (.slice sa sn sc)) := fun x => (HBG.out.other (HNG.out n hnN)).drew
          have HBPn : Hid (∀ x, BoxP (wr.setCell ⟨bl n, t, none⟩ x).drew (gb + 1) lf (.slice (some ⟨b0, off0, none⟩) R.length rc) plv) := fun x => (HBP.out.other (HNP.out n hnN)).drew
          have HKTn : Hid (∀ x, KeepT w (wr.setCell ⟨bl n, t, none⟩ x).drew gb N bl) := fun x => (HKT.out.set hnN t x).drew
          have hbn : ∀ x, Below wb.heap.size wb (wr.setCell ⟨bl n, t, none⟩ x).drew := fun x => below_drwT (below_set hbw (HBL.out n hnN) _ _)
          have Hbn : Hid _ := hbn
          clear hbn HTb HOR HBP HBG HKT
          generalize bl n = bx at *
          generalize bl lf = bm at *
          generalize factB (LL'' n) t = fl at *
          generalize factB (LL' lf) t = fm at *
          cases fl
          all_goals
            go_wp2
            go_region
            all_goals
              go_wp2
              go_roundw
              case rel => exact ⟨t + 1, _, by omega, by go_num, HTn.out _, HORn, HBGn.out _, HBPn.out _, HKTn.out _, Hbn.out _⟩
              case measure => simp [intOf]; omega
        · obtain rfl : t = T + 1 := by omega
          have HPn : Hid (FoP N T ps R k n lf LL LL'') := HPx.out LL'' HOR.out
          clear HOR HPx
          go_wp2
          first | go_end0 | refine bodyPost_ret (results_none rfl _ _ _) rfl ?_
          exact ⟨rfl, ⟨LL'', HTb.out, HPn.out⟩, (by rw [HGB.out]; exact HKT.out), hbw⟩

end Go.Proofs.YtkdoghaoijdedaaGreatDoor

namespace Go.Proofs.YtkdoghaoijdedaaGreatDoor
open Go.RowKit
set_option linter.unusedVariables false
set_option maxRecDepth 100000

set_option maxHeartbeats 4000000 in
theorem rwhole_any (t s : Int) (N : Nat) (hN : N ≤ 300) (ps : List PdR) (ls ss : List Int) (pv lv sv : Value) (i : Nat) (hi : i < ps.length) (L : List Bool) (B : Nat) (w : World) (hr : SymsL N (ps.getD i noPd).right) (hL : L.length = N) (hv : RowB w B L) (h : PdsM w pv ps) :
    Calls Tryz.prog 30 #[gv ⟨t, N, s, ps, ls, ss⟩ pv lv sv, .int .i64 i, .slice (some ⟨B, 0, none⟩) N N] w fun e w' => e = .returned (.bool (hasB true (factB L) (ps.getD i noPd).right)) ∧ Below w.heap.size w w' := by
  have hB0 := boxG_below w ⟨t, N, s, ps, ls, ss⟩ pv lv sv
  have hB2 := boxG_box w ⟨t, N, s, ps, ls, ss⟩ pv lv sv
  have hV0 : RowB (boxG w ⟨t, N, s, ps, ls, ss⟩ pv lv sv) B L := (hB0.block B hv.lt).trans hv
  have hP0 := h.below hB0
  obtain ⟨pa, pc, rfl⟩ := h.slice
  clear h hv
  unfold boxG gvs at hB0 hB2 hV0 hP0
  unfold gv gvs
  simp only at *
  obtain ⟨q0, q1, q2, q3, q4, q5, q6⟩ := hB2
  simp only at q0 q1 q2 q3 q4 q5 q6
  obtain ⟨b, off, rv, rfl, hb, hpd⟩ := hP0.at hi
  obtain ⟨c0, c1, c2, hrr⟩ := hpd
  generalize (ps.getD i noPd).right = r at *
  obtain ⟨ra, rc, rfl⟩ := hrr.slice
  have HRV : Hid (IntsR (w.alloc (.cells #[.int .i64 t, .int .i64 N, .int .i64 s, .slice (some ⟨b, off, none⟩) ps.length pc, lv, sv] 25)) (.slice ra r.length rc) r) := hrr
  have HV : Hid (RowB (w.alloc (.cells #[.int .i64 t, .int .i64 N, .int .i64 s, .slice (some ⟨b, off, none⟩) ps.length pc, lv, sv] 25)) B L) := hV0
  have HL : Hid (L.length = N) := hL
  have HSY : Hid (SymsL N r) := hr
  have hrl := hr.1
  have hBl := hV0.lt
  clear hrr hV0 hL hr hP0 c0 c2
  generalize hR : hasB true (factB L) r = R at *
  have HR : Hid (hasB true (factB L) r = R) := hR
  clear hR
  go_enter Tryz.func30, Tryz.ntmps30
  go_wp2
  generalize w.alloc (.cells #[.int .i64 t, .int .i64 N, .int .i64 s, .slice (some ⟨b, off, none⟩) ps.length pc, lv, sv] 25) = w0 at *
  go_loopw [7] (fun iv wr => ∃ (k : Nat), k ≤ r.length ∧ iv = .int .i64 k ∧ Hid (R = hasB true (factB L) (r.drop k)) ∧ wr = w0) (fun iv _ => r.length - (intOf iv).toNat)
  case atStart => exact ⟨0, Nat.zero_le _, rfl, (by show _ = _; rw [List.drop_zero, HR.out]), rfl⟩
  case round =>
    obtain ⟨k, hk, rfl, HZ, hwe⟩ := hrel
    subst hwe
    by_cases hlt : k < r.length
    · obtain ⟨b2, off2, rfl, hb2, hc⟩ := HRV.out.at hlt
      obtain ⟨hs1, hs2⟩ := HSY.out.2 k hlt
      have HT : Hid (R = _) := HZ.out.trans (hasB_drop true (factB L) r k hlt)
      generalize r.getD k 0 = sy at *
      by_cases hs : sy < 0
      · obtain ⟨q, hq⟩ : ∃ q : Nat, -1 - sy = (q : Int) := ⟨(-1 - sy).toNat, by omega⟩
        have hqN : q < N := by omega
        have hqn : (-1 - sy).toNat = q := by omega
        have hwq : IntKind.i64.wrap (-1 - sy) = (q : Int) := by rw [wrap_g64 _ (by unfold I64 at hs2; omega) (by unfold I64 at hs2; omega), hq]
        rw [if_pos hs, hqn] at HT
        have hc2 := HV.out.cell (j := q) (by rw [HL.out]; exact hqN)
        clear hq hqn hs1 hs2
        generalize factB L q = x at *
        cases x with
        | false =>
          have HE : Hid (R = false) := by rw [Bool.false_and] at HT; exact HT.out
          go_wp2
          go_ret
          exact ⟨by rw [HE.out]; rfl, hB0⟩
        | true =>
          have HE : Hid (R = hasB true (factB L) (r.drop (k + 1))) := by rw [Bool.true_and] at HT; exact HT.out
          clear HT
          go_wp2
          go_roundw
          case rel => exact ⟨k + 1, by omega, by go_num, HE, trivial⟩
          case measure => simp [intOf]; omega
      · rw [if_neg hs] at HT
        have HE : Hid (R = hasB true (factB L) (r.drop (k + 1))) := by rw [Bool.true_and] at HT; exact HT.out
        clear HT hs1 hs2
        go_wp2
        go_roundw
        case rel => exact ⟨k + 1, by omega, by go_num, HE, trivial⟩
        case measure => simp [intOf]; omega
    · have HE : Hid (R = true) := by
        show _ = _
        rw [HZ.out, List.drop_eq_nil_of_le (by omega)]; rfl
      go_wp2
      go_ret
      exact ⟨by rw [HE.out]; rfl, hB0⟩

end Go.Proofs.YtkdoghaoijdedaaGreatDoor
