/- Texts of the proof, put together: GLpW. -/
import Derived.Test.YtkdoghaoijdedaaGreatDoorGt43
import Derived.Test.YtkdoghaoijdedaaGreatDoorGt34
import Derived.Test.YtkdoghaoijdedaaGreatDoorGt41
namespace Go.Proofs.YtkdoghaoijdedaaGreatDoor
open Go.RowKit
set_option linter.unusedVariables false
set_option maxRecDepth 100000

set_option maxHeartbeats 16000000 in
theorem rloops_any (t s : Int) (N : Nat) (hN1 : 1 ≤ N) (ps : List PdR) (ls ss : List Int) (pv lv sv : Value) (w : World) (hG : GOkM N ps) (h : PdsM w pv ps) :
    Calls Tryz.prog 17 #[gv ⟨t, N, s, ps, ls, ss⟩ pv lv sv] w fun e w' => ∃ B L, e = .returned (.slice (some ⟨B, 0, none⟩) N N) ∧ RowB w' B L ∧ L.length = N ∧ (∀ n, n < N → (factB L n = true ↔ loopP N ps n)) ∧ Below w.heap.size w w' := by
  have hB0 := boxG_below w ⟨t, N, s, ps, ls, ss⟩ pv lv sv
  have hB1 := boxG_size w ⟨t, N, s, ps, ls, ss⟩ pv lv sv
  have hB2 := boxG_box w ⟨t, N, s, ps, ls, ss⟩ pv lv sv
  have hLv := rlives_any t s N ps ls ss pv lv sv (boxG w ⟨t, N, s, ps, ls, ss⟩ pv lv sv) hG.n hG.len (fun m hm => (hG.pd m hm).1) (h.below hB0)
  have HEm : Hid (∀ W, Below w.heap.size w W → _) := fun W (hb : Below w.heap.size w W) => rempty_any t s N ps ls ss pv lv sv W hG.n hG.len (fun m hm => (hG.pd m hm).1) (h.below hb)
  have HWh : Hid (∀ (W : World) (i B : Nat) (L : List Bool), Below w.heap.size w W → i < ps.length → L.length = N → RowB W B L → _) := fun W i B L (hb : Below w.heap.size w W) (hi : i < ps.length) (hL : L.length = N) (hv : RowB W B L) => rwhole_any t s N hG.n ps ls ss pv lv sv i hi L B W (hG.mem (p := ps.getD i noPd) (by simp [List.getD, hi])).2 hL hv (h.below hb)
  obtain ⟨pa, pc, rfl⟩ := h.slice
  have HP : Hid (PdsM w (.slice pa ps.length pc) ps) := h
  have HBX : Hid (∀ w', Below (boxG w ⟨t, N, s, ps, ls, ss⟩ (.slice pa ps.length pc) lv sv).heap.size (boxG w ⟨t, N, s, ps, ls, ss⟩ (.slice pa ps.length pc) lv sv) w' → BoxG w' w.heap.size ⟨t, N, s, ps, ls, ss⟩ (.slice pa ps.length pc) lv sv) := fun w' hb => hB2.below (by omega) hb
  clear h
  unfold gv gvs at HWh HEm
  unfold boxG gv gvs at hLv
  unfold boxG gvs at hB0 hB1 hB2 HBX
  unfold gv gvs
  simp only at *
  obtain ⟨q0, q1, q2, q3, q4, q5, q6⟩ := hB2
  simp only at q0 q1 q2 q3 q4 q5 q6
  go_enter Tryz.func17, Tryz.ntmps17
  go_wp2_with fail
  refine hLv.mono ?_
  rintro e w2 ⟨L, rfl, hrow, hlen, hf, hb2⟩
  clear hLv q0 q1 q2 q3 q4 q5 q6
  generalize w.alloc (.cells #[.int .i64 t, .int .i64 N, .int .i64 s, .slice pa ps.length pc, lv, sv] 25) = w0 at *
  have HFE : Hid (factB L = hgtB true (prsS ps) N) := funext hf
  rw [hB1] at hrow
  have HLn : Hid (L.length = N) := hlen
  have hpl := hG.len
  have hN3 := hG.n
  have hb20 : Below w.heap.size w w2 := hB0.trans (hb2.mono (by omega))
  have hCe := HEm.out w2 hb20
  have hQ := HBX.out w2 hb2
  obtain ⟨q0, q1, q2, q3, q4, q5, q6⟩ := hQ
  simp only at q0 q1 q2 q3 q4 q5 q6
  clear HEm
  go_wp2_with fail
  refine hCe.mono ?_
  rintro e w3 ⟨E, rfl, hrowE, hlenE, hfE, hb3⟩
  clear hCe q0 q1 q2 q3 q4 q5 q6 hf
  have HFEm : Hid (factB E = hgtB false (prsS ps) N) := funext hfE
  have HEn : Hid (E.length = N) := hlenE
  have hb30 : Below w.heap.size w w3 := hb20.trans (hb3.mono hb20.size)
  have HRE : Hid (RowB w3 (w2.heap.size + 1) E) := hrowE
  have HRL : Hid (RowB w3 (w.heap.size + 1 + 1) L) := hrow.below hb3
  have HX : Hid (∀ W, Below w3.heap.size w3 W → BoxG W w.heap.size ⟨t, N, s, ps, ls, ss⟩ (.slice pa ps.length pc) lv sv ∧ Below w.heap.size w W) := fun W hb => by
    have k := (hb2.trans (hb3.mono hb2.size)).trans (hb.mono (hb2.trans (hb3.mono hb2.size)).size)
    exact ⟨HBX.out W k, hb30.trans (hb.mono hb30.size)⟩
  clear hrow hrowE hfE HBX hb2 hb3 hb20
  have hCt := rtable_any N N hN1 hN3 (by omega) w3
  obtain ⟨⟨q0, q1, q2, q3, q4, q5, q6⟩, _⟩ := HX.out w3 (Below.refl _ _)
  simp only at q0 q1 q2 q3 q4 q5 q6
  go_wp2_with fail
  refine hCt.mono ?_
  rintro e w4 ⟨D, c, bl, rfl, htab, hD3, hbl3, hb4⟩
  clear hCt q0 q1 q2 q3 q4 q5 q6
  have HT0 : Hid (TabM w4 D N N bl (fun _ => List.replicate N false)) := htab
  have HBL : Hid (∀ j, j < N → w3.heap.size ≤ bl j) := hbl3
  have HF0 : Hid (∀ x y, x < N → (factB ((fun _ => List.replicate N false) x) y = true ↔ dlR N ps (hgtB false (prsS ps) N) 0 x y)) := fun x y _ => ⟨fun h => (by rw [factB_none] at h; cases h), fun ⟨m, hm, _⟩ => by omega⟩
  clear htab hbl3
  go_wp2
  go_loopw [6] (fun iv wr => ∃ (i : Nat) (LL : Nat → List Bool), i ≤ ps.length ∧ iv = .int .i64 i ∧ Hid (TabM wr D N N bl LL) ∧ Hid (∀ x y, x < N → (factB (LL x) y = true ↔ dlR N ps (hgtB false (prsS ps) N) i x y)) ∧ Below w3.heap.size w3 wr) (fun iv _ => ps.length - (intOf iv).toNat)
  case atStart => exact ⟨0, _, Nat.zero_le _, rfl, HT0, HF0, hb4⟩
  case round =>
    clear HT0 HF0 hb4
    obtain ⟨i, LL, hi, rfl, HTb, HI, hbw⟩ := hrel
    obtain ⟨⟨q0, q1, q2, q3, q4, q5, q6⟩, hbx⟩ := HX.out wr hbw
    simp only at q0 q1 q2 q3 q4 q5 q6
    by_cases hlt : i < ps.length
    · have hCa := HWh.out wr i (w.heap.size + 1 + 1) L hbx hlt HLn.out (HRL.out.below hbw)
      rw [HFE.out] at hCa
      have HKp : Hid (hasB true (hgtB true (prsS ps) N) (ps.getD i noPd).right = keepP N ps (ps.getD i noPd)) := rfl
      rw [HKp.out] at hCa
      go_wp2_with fail
      refine hCa.mono ?_
      rintro e w6 ⟨rfl, hb6⟩
      have hbw6 := hbw.trans (hb6.mono hbw.size)
      have HT6 : Hid (TabM w6 D N N bl LL) := HTb.out.below hb6
      clear hCa HKp HTb q0 q1 q2 q3 q4 q5 q6 hbx hb6 hbw
      obtain ⟨⟨q0, q1, q2, q3, q4, q5, q6⟩, hbx⟩ := HX.out w6 hbw6
      simp only at q0 q1 q2 q3 q4 q5 q6
      obtain ⟨b, off, rv, rfl, hb0, hpd0⟩ := HP.out.at hlt
      have hb := Nat.lt_of_lt_of_le hb0 hbx.size
      have hpd := hpd0.below hb0 hbx
      have hrr0 := hpd0.right
      clear hpd0 hb0
      obtain ⟨hPk, hSy⟩ := hG.mem (p := ps.getD i noPd) (by simp [List.getD, hlt])
      obtain ⟨lf, hlf⟩ : ∃ lf : Nat, (ps.getD i noPd).left = (lf : Int) := ⟨(ps.getD i noPd).left.toNat, by have := hPk.1; omega⟩
      have hlN : lf < N := by have := hPk.2.1; omega
      obtain ⟨kp, hkp⟩ : ∃ kp, keepP N ps (ps.getD i noPd) = kp := ⟨_, rfl⟩
      rw [hkp]
      have HD0 : Hid (dkP N ps (hgtB false (prsS ps) N) i kp 0 LL) := dkP_start HI.out
      obtain ⟨R, hR⟩ : ∃ R, (ps.getD i noPd).right = R := ⟨_, rfl⟩
      have HDF : Hid (∀ (k : Nat) (LL' : Nat → List Bool), dkP N ps (hgtB false (prsS ps) N) i kp k LL' → (kp = true → k = R.length) → ∀ x y, x < N → (factB (LL' x) y = true ↔ dlR N ps (hgtB false (prsS ps) N) (i + 1) x y)) := fun k LL' h1 h2 => dkP_fin h1 hkp (by rw [hR]; exact h2)
      have HDN : Hid (∀ (k : Nat) (LL' : Nat → List Bool), dkP N ps (hgtB false (prsS ps) N) i kp k LL' → alkAt (hgtB false (prsS ps) N) R k = false → dkP N ps (hgtB false (prsS ps) N) i kp (k + 1) LL') := fun k LL' h1 h2 => dkP_no h1 (by rw [hR]; exact h2)
      have HDY : Hid (∀ (k q : Nat) (LL' : Nat → List Bool), kp = true → dkP N ps (hgtB false (prsS ps) N) i kp k LL' → (∀ j, j < N → (LL' j).length = N) → alkAt (hgtB false (prsS ps) N) R k = true → -1 - R.getD k 0 = (q : Int) → q < N → dkP N ps (hgtB false (prsS ps) N) i kp (k + 1) (setT LL' lf q true)) := fun k q LL' h0 h1 h2 h3 h4 h5 => by
        subst h0
        exact dkP_yes h1 h2 hlf hlN (by rw [hR]; exact h3) (by rw [hR]; exact h4) h5
      obtain ⟨c0, c1, c2, hrr⟩ := hpd
      rw [hlf] at c0
      generalize (ps.getD i noPd).level = plv at c2
      rw [hR] at hrr hSy hrr0
      obtain ⟨ra, rc, rfl⟩ := hrr.slice
      have hA := alloc_below w6 (.cells #[.int .i64 (lf : Int), .slice ra R.length rc, .int .i64 plv] 34)
      have HBP : Hid (BoxP (w6.alloc (.cells #[.int .i64 (lf : Int), .slice ra R.length rc, .int .i64 plv] 34)) w6.heap.size (lf : Int) (.slice ra R.length rc) plv) := alloc_at _ _
      have HT7 : Hid (TabM (w6.alloc (.cells #[.int .i64 (lf : Int), .slice ra R.length rc, .int .i64 plv] 34)) D N N bl LL) := HT6.out.below hA
      have hbw7 : Below w3.heap.size w3 (w6.alloc (.cells #[.int .i64 (lf : Int), .slice ra R.length rc, .int .i64 plv] 34)) := hbw6.trans (hA.mono hbw6.size)
      have HPB : Hid (∀ j, j < N → w6.heap.size ≠ bl j) := fun j hj => by have := HT6.out.bl_lt hj; omega
      obtain ⟨d0, d1, d2⟩ := box3_cells w6 (.int .i64 (lf : Int)) (.slice ra R.length rc) (.int .i64 plv) 34
      have hAs := alloc_size w6 (.cells #[.int .i64 (lf : Int), .slice ra R.length rc, .int .i64 plv] 34)
      have HRI : Hid (∀ wx, Below w3.heap.size w3 wx → IntsR wx (.slice ra R.length rc) R) := fun wx hx => hrr0.below (HX.out wx hx).2
      have HSY : Hid (SymsL N R) := hSy
      have hrl := hSy.1
      clear hR hrr hSy hPk HI HT6 hA hlf hrr0 hkp
      go_wp2
      clear q0 q1 q2 q3 q4 q5 q6 hbx c0 c1 c2 hb d0 d1 d2 hAs
      generalize w6.alloc (.cells #[.int .i64 (lf : Int), .slice ra R.length rc, .int .i64 plv] 34) = w7 at *
      generalize w6.heap.size = pb at *
      go_loopw [9] (fun kv wr => ∃ (k : Nat) (LL' : Nat → List Bool), k ≤ R.length ∧ kv = .int .i64 k ∧ Hid (TabM wr D N N bl LL') ∧ Hid (dkP N ps (hgtB false (prsS ps) N) i kp k LL') ∧ Hid (BoxP wr pb (lf : Int) (.slice ra R.length rc) plv) ∧ Below w3.heap.size w3 wr) (fun kv _ => R.length - (intOf kv).toNat)
      case atStart => exact ⟨0, LL, Nat.zero_le _, rfl, HT7, HD0, HBP, hbw7⟩
      case round =>
        clear HT7 HD0 HBP hbw7
        obtain ⟨k, LL', hk, rfl, HTb, HK, HBP, hbw⟩ := hrel
        have e0 := HBP.out.c0
        have e1 := HBP.out.c1
        have lpb := HBP.out.lt
        by_cases hkl : k < R.length
        · cases kp with
          | false =>
            have HN : Hid (∀ x y, x < N → (factB (LL' x) y = true ↔ dlR N ps (hgtB false (prsS ps) N) (i + 1) x y)) := HDF.out k LL' HK.out (fun h9 => by cases h9)
            clear HK HDF HDN HDY
            go_wp2
            go_roundw
            case rel => exact ⟨i + 1, LL', by omega, by go_num, HTb, HN, hbw⟩
            case measure => simp [intOf]; omega
          | true =>
            obtain ⟨b3, off3, hra, hb3, hc3⟩ := (HRI.out wr hbw).at hkl
            subst hra
            obtain ⟨hs1, hs2⟩ := HSY.out.2 k hkl
            have HA0 : Hid (decide (R.getD k 0 < 0) = alnB (hgtB false (prsS ps) N) R k 0) := (aln_start _ _ _).symm
            have HAE : Hid (alnB (hgtB false (prsS ps) N) R k R.length = alkAt (hgtB false (prsS ps) N) R k) := aln_end _ _ _ hkl
            obtain ⟨sk, hsk⟩ : ∃ sk, R.getD k 0 = sk := ⟨_, rfl⟩
            have HSK : Hid (R.getD k 0 = sk) := hsk
            rw [hsk] at hc3 hs1 hs2 HA0
            clear hsk
            rename World => wo
            go_wp2
            go_loopw [10, 11] (fun av jv wr => ∃ (j : Nat) (a : Bool), j ≤ R.length ∧ jv = .int .i64 j ∧ av = .bool a ∧ Hid (a = alnB (hgtB false (prsS ps) N) R k j) ∧ wr = wo) (fun _ jv _ => R.length - (intOf jv).toNat)
            case atStart => exact ⟨0, _, Nat.zero_le _, rfl, rfl, HA0, rfl⟩
            case round =>
              clear HA0
              obtain ⟨j, a, hj, rfl, rfl, HA, hwe⟩ := hrel
              subst hwe
              by_cases hjl : j < R.length
              · by_cases hjk : j = k
                · have HA2 : Hid (a = alnB (hgtB false (prsS ps) N) R k (j + 1)) := by
                    show _ = _
                    rw [HA.out, hjk]; exact (aln_own _ _ _).symm
                  have hjk2 : (j : Int) = (k : Int) := by omega
                  clear HA
                  go_wp2
                  go_roundw
                  case rel => exact ⟨j + 1, a, by omega, by go_num, rfl, HA2, trivial⟩
                  case measure => simp [intOf]; omega
                · have HT : Hid (alnB (hgtB false (prsS ps) N) R k (j + 1) = (a && (decide (R.getD j 0 < 0) && factB E (-1 - R.getD j 0).toNat))) := by
                    show _ = _
                    rw [aln_step _ _ _ _ hjk, ← HA.out, HFEm.out]
                  have hjk2 : ¬ (j : Int) = (k : Int) := by omega
                  obtain ⟨b4, off4, e4, hb4, hc4⟩ := (HRI.out wr hbw).at hjl
                  obtain ⟨rfl, rfl⟩ : b3 = b4 ∧ off3 = off4 := by simpa using e4
                  obtain ⟨hu1, hu2⟩ := HSY.out.2 j hjl
                  clear HA e4
                  cases a with
                  | false =>
                    have HA2 : Hid (false = alnB (hgtB false (prsS ps) N) R k (j + 1)) := by show _ = _; rw [HT.out]; rfl
                    clear HT
                    generalize R.getD j 0 = sy at *
                    go_wp2
                    go_roundw
                    case rel => exact ⟨j + 1, false, by omega, by go_num, rfl, HA2, trivial⟩
                    case measure => simp [intOf]; omega
                  | true =>
                    by_cases hy : R.getD j 0 < 0
                    · obtain ⟨q, hq⟩ : ∃ q : Nat, -1 - R.getD j 0 = (q : Int) := ⟨(-1 - R.getD j 0).toNat, by omega⟩
                      have hqN : q < N := by omega
                      have hwq : IntKind.i64.wrap (-1 - R.getD j 0) = (q : Int) := by rw [wrap_g64 _ (by unfold I64 at hu2; omega) (by unfold I64 at hu2; omega), hq]
                      have HA2 : Hid (factB E q = alnB (hgtB false (prsS ps) N) R k (j + 1)) := by show _ = _; rw [HT.out, hq, Int.toNat_natCast, decide_eq_true hy, Bool.true_and, Bool.true_and]
                      have cE := (HRE.out.below hbw).cell (j := q) (by rw [HEn.out]; exact hqN)
                      have lE := (HRE.out.below hbw).lt
                      clear HT hq hu1 hu2
                      generalize factB E q = fq at *
                      generalize R.getD j 0 = sy at *
                      have d1 : decide (sy < 0) = true := decide_eq_true hy
                      go_wp2
                      go_roundw
                      case rel => exact ⟨j + 1, fq, by omega, by go_num, rfl, HA2, trivial⟩
                      case measure => simp [intOf]; omega
                    · have HA2 : Hid (false = alnB (hgtB false (prsS ps) N) R k (j + 1)) := by show _ = _; rw [HT.out, decide_eq_false hy]; rfl
                      clear HT
                      generalize R.getD j 0 = sy at *
                      have d1 : decide (sy < 0) = false := decide_eq_false hy
                      go_wp2
                      go_roundw
                      case rel => exact ⟨j + 1, false, by omega, by go_num, rfl, HA2, trivial⟩
                      case measure => simp [intOf]; omega
              · obtain rfl : j = R.length := by omega
                have HAK : Hid (a = alkAt (hgtB false (prsS ps) N) R k) := by show _ = _; rw [HA.out, HAE.out]
                clear HA HAE
                cases a with
                | false =>
                  have HN : Hid (dkP N ps (hgtB false (prsS ps) N) i true (k + 1) LL') := HDN.out k LL' HK.out HAK.out.symm
                  clear HK HAK
                  go_wp2
                  go_roundw
                  case rel => exact ⟨k + 1, LL', by omega, by go_num, HTb, HN, HBP, hbw⟩
                  case measure => simp [intOf]; omega
                | true =>
                  have hneg : sk < 0 := by
                    have := HAK.out.symm
                    unfold alkAt at this
                    rw [Bool.and_eq_true, HSK.out] at this
                    exact of_decide_eq_true this.1
                  obtain ⟨q, hq⟩ : ∃ q : Nat, -1 - sk = (q : Int) := ⟨(-1 - sk).toNat, by omega⟩
                  have hqN : q < N := by omega
                  have hwq : IntKind.i64.wrap (-1 - sk) = (q : Int) := by rw [wrap_g64 _ (by unfold I64 at hs2; omega) (by unfold I64 at hs2; omega), hq]
                  have HN : Hid (dkP N ps (hgtB false (prsS ps) N) i true (k + 1) (setT LL' lf q true)) := HDY.out k q LL' (by first | trivial | rfl) HK.out HTb.out.len HAK.out.symm (by rw [HSK.out]; exact hq) hqN
                  have cD := HTb.out.at_ lf hlN
                  have lD := HTb.out.lt
                  have lbl := HTb.out.bl_lt hlN
                  have cx := HTb.out.cell (k := q) hlN hqN
                  have fx := (HTb.out.row lf hlN).fz q
                  have HTn : Hid (TabM (wr.setCell ⟨bl lf, q, none⟩ (.bool true)).drew D N N bl (setT LL' lf q true)) := (HTb.out.setT hlN true).drew
                  have HBPn : Hid (BoxP (wr.setCell ⟨bl lf, q, none⟩ (.bool true)).drew pb (lf : Int) (.slice (some ⟨b3, off3, none⟩) R.length rc) plv) := (HBP.out.other (HPB.out lf hlN)).drew
                  have hbn : Below w3.heap.size w3 (wr.setCell ⟨bl lf, q, none⟩ (.bool true)).drew := below_drew1T (below_set hbw (HBL.out lf hlN) _ _)
                  have Hbn : Hid _ := hbn
                  clear hbn HTb HK HAK HBP hq hs1 hs2
                  generalize bl lf = bx at *
                  generalize factB (LL' lf) q = fl at *
                  go_wp2
                  go_region
                  all_goals
                    go_wp2
                    go_roundw
                    case rel => exact ⟨k + 1, _, by omega, by go_num, HTn, HN, HBPn, Hbn.out⟩
                    case measure => simp [intOf]; omega
        · have HN : Hid (∀ x y, x < N → (factB (LL' x) y = true ↔ dlR N ps (hgtB false (prsS ps) N) (i + 1) x y)) := HDF.out k LL' HK.out (fun _ => by omega)
          clear HK
          go_wp2
          go_roundw
          case rel => exact ⟨i + 1, LL', by omega, by go_num, HTb, HN, hbw⟩
          case measure => simp [intOf]; omega
    · obtain rfl : i = ps.length := by omega
      have HW0 : Hid (WaI (lpR N ps) N 0 0 0 LL) := dl_loop hG HI.out
      clear HI
      go_wp2
      clear q0 q1 q2 q3 q4 q5 q6 hbx
      go_loopw [12] (fun mv wr => ∃ (m : Nat) (LL : Nat → List Bool), m ≤ N ∧ mv = .int .i64 m ∧ Hid (TabM wr D N N bl LL) ∧ Hid (WaI (lpR N ps) N m 0 0 LL) ∧ Below w3.heap.size w3 wr) (fun mv _ => N - (intOf mv).toNat)
      case atStart => exact ⟨0, LL, Nat.zero_le _, rfl, HTb, HW0, hbw⟩
      case round =>
        clear HTb HW0 hbw LL
        obtain ⟨m, LL, hm, rfl, HTb, HI, hbw⟩ := hrel
        obtain ⟨⟨q0, q1, q2, q3, q4, q5, q6⟩, hbx⟩ := HX.out wr hbw
        simp only at q0 q1 q2 q3 q4 q5 q6
        by_cases hmN : m < N
        · go_wp2
          clear q0 q1 q2 q3 q4 q5 q6 hbx
          go_loopw [13] (fun av wr => ∃ (a : Nat) (LL : Nat → List Bool), a ≤ N ∧ av = .int .i64 a ∧ Hid (TabM wr D N N bl LL) ∧ Hid (WaI (lpR N ps) N m a 0 LL) ∧ Below w3.heap.size w3 wr) (fun av _ => N - (intOf av).toNat)
          case atStart => exact ⟨0, LL, Nat.zero_le _, rfl, HTb, HI, hbw⟩
          case round =>
            clear HTb HI hbw LL
            obtain ⟨a, LL, ha, rfl, HTb, HI, hbw⟩ := hrel
            obtain ⟨⟨q0, q1, q2, q3, q4, q5, q6⟩, hbx⟩ := HX.out wr hbw
            simp only at q0 q1 q2 q3 q4 q5 q6
            by_cases haN : a < N
            · go_wp2
              clear q0 q1 q2 q3 q4 q5 q6 hbx
              go_loopw [14] (fun bv wr => ∃ (b : Nat) (LL : Nat → List Bool), b ≤ N ∧ bv = .int .i64 b ∧ Hid (TabM wr D N N bl LL) ∧ Hid (WaI (lpR N ps) N m a b LL) ∧ Below w3.heap.size w3 wr) (fun bv _ => N - (intOf bv).toNat)
              case atStart => exact ⟨0, LL, Nat.zero_le _, rfl, HTb, HI, hbw⟩
              case round =>
                clear HTb HI hbw LL
                obtain ⟨b, LL, hb, rfl, HTb, HI, hbw⟩ := hrel
                obtain ⟨⟨q0, q1, q2, q3, q4, q5, q6⟩, hbx⟩ := HX.out wr hbw
                simp only at q0 q1 q2 q3 q4 q5 q6
                by_cases hbN : b < N
                · have cA := HTb.out.at_ a haN
                  have cM := HTb.out.at_ m hmN
                  have lD := HTb.out.lt
                  have lba := HTb.out.bl_lt haN
                  have lbm := HTb.out.bl_lt hmN
                  have cab := HTb.out.cell (k := b) haN hbN
                  have cam := HTb.out.cell (k := m) haN hmN
                  have cmb := HTb.out.cell (k := b) hmN hbN
                  have fx := (HTb.out.row a haN).fz b
                  have HTn : Hid (∀ x, TabM (wr.setCell ⟨bl a, b, none⟩ (.bool x)).drew D N N bl (setT LL a b x)) := fun x => (HTb.out.setT haN x).drew
                  have HIn : Hid (WaI (lpR N ps) N m a (b + 1) (setT LL a b (factB (LL a) b || (factB (LL a) m && factB (LL m) b)))) := HI.out.stepT HTb.out.len hmN haN hbN
                  have hbn : ∀ x, Below w3.heap.size w3 (wr.setCell ⟨bl a, b, none⟩ x).drew := fun x => below_drew1T (below_set hbw (HBL.out a haN) _ _)
                  have Hbn : Hid _ := hbn
                  clear hbn HTb HI hbx hbw
                  generalize bl a = ba at *
                  generalize bl m = bm at *
                  generalize factB (LL a) b = x1 at *
                  generalize factB (LL a) m = x2 at *
                  generalize factB (LL m) b = x3 at *
                  rcases x1 with _ | _
                  · rcases x2 with _ | _
                    all_goals
                      go_wp2
                      go_region
                      all_goals
                        go_wp2
                        go_roundw
                        case rel => exact ⟨b + 1, _, by omega, by go_num, HTn.out _, HIn, Hbn.out _⟩
                        case measure => simp [intOf]; omega
                  · go_wp2
                    go_region
                    all_goals
                      go_wp2
                      go_roundw
                      case rel => exact ⟨b + 1, _, by omega, by go_num, HTn.out _, HIn, Hbn.out _⟩
                      case measure => simp [intOf]; omega
                · obtain rfl : b = N := by omega
                  have HN : Hid (WaI (lpR b ps) b m (a + 1) 0 LL) := HI.out.nextA
                  clear HI
                  go_wp2
                  go_roundw
                  case rel => exact ⟨a + 1, LL, by omega, by go_num, HTb, HN, hbw⟩
                  case measure => simp [intOf]; omega
            · obtain rfl : a = N := by omega
              have HN : Hid (WaI (lpR a ps) a (m + 1) 0 0 LL) := HI.out.nextM
              clear HI
              go_wp2
              go_roundw
              case rel => exact ⟨m + 1, LL, by omega, by go_num, HTb, HN, hbw⟩
              case measure => simp [intOf]; omega
        · obtain rfl : m = N := by omega
          have HF : Hid (∀ n, n < m → (factB (LL n) n = true ↔ loopP m ps n)) := HI.out.loops
          have hmk := makeBoolsT m (by omega) wr
          have hA := alloc_below wr (.cells (boolsA (List.replicate m false)) 4)
          have hAs := alloc_size wr (.cells (boolsA (List.replicate m false)) 4)
          have HR0 : Hid (RowB (wr.alloc (.cells (boolsA (List.replicate m false)) 4)) wr.heap.size (List.replicate m false)) := by
            show (wr.heap.push _)[wr.heap.size]? = _
            exact Array.getElem?_push_size
          have HT7 : Hid (TabM wr D m m bl LL) := HTb.out
          have hb7 : Below wr.heap.size wr (wr.alloc (.cells (boolsA (List.replicate m false)) 4)) := hA
          have HX2 : Hid (∀ W, Below wr.heap.size wr W → Below w3.heap.size w3 W) := fun W hb => hbw.trans (hb.mono hbw.size)
          clear HI HTb hA
          rename World => wo
          go_wp2
          clear q0 q1 q2 q3 q4 q5 q6 hbx hmk hAs
          generalize wo.alloc (.cells (boolsA (List.replicate m false)) 4) = w8 at *
          go_loopw [16] (fun nv wr => ∃ (n : Nat) (A : List Bool), n ≤ m ∧ nv = .int .i64 n ∧ Hid (RowB wr wo.heap.size A) ∧ Hid (A.length = m ∧ ∀ j, j < n → factB A j = factB (LL j) j) ∧ Below wo.heap.size wo wr) (fun nv _ => m - (intOf nv).toNat)
          case atStart => exact ⟨0, _, Nat.zero_le _, rfl, HR0, ⟨by simp, fun j hj => by omega⟩, hb7⟩
          case round =>
            clear HR0 hb7
            obtain ⟨n, A, hn, rfl, HR, HA, hbr⟩ := hrel
            have hbw8 := HX2.out wr hbr
            obtain ⟨⟨q0, q1, q2, q3, q4, q5, q6⟩, hbx⟩ := HX.out wr hbw8
            simp only at q0 q1 q2 q3 q4 q5 q6
            by_cases hnm : n < m
            · have hT := HT7.out.below hbr
              have cD := hT.at_ n hnm
              have lD := hT.lt
              have lbn := hT.bl_lt hnm
              have cnn := hT.cell (k := n) hnm hnm
              have cA := HR.out.cell (j := n) (by rw [HA.out.1]; exact hnm)
              have fA := HR.out.fz n
              have lA := HR.out.lt
              have HRn : Hid (RowB (wr.setCell ⟨wo.heap.size, n, none⟩ (.bool (factB (LL n) n))) wo.heap.size (A.set n (factB (LL n) n))) := HR.out.set n _
              have HAn : Hid ((A.set n (factB (LL n) n)).length = m ∧ ∀ j, j < n + 1 → factB (A.set n (factB (LL n) n)) j = factB (LL j) j) := ⟨by rw [List.length_set]; exact HA.out.1, fun j hj => by
                rw [factB_set HA.out.1 hnm]
                by_cases e : j = n
                · rw [if_pos e, e]
                · rw [if_neg e]; exact HA.out.2 j (by omega)⟩
              have hbn : Below wo.heap.size wo (wr.setCell ⟨wo.heap.size, n, none⟩ (.bool (factB (LL n) n))) := below_set hbr (Nat.le_refl _) _ _
              have Hbn : Hid _ := hbn
              clear hbn hT HA HR
              generalize bl n = bn at *
              obtain ⟨x, hx⟩ : ∃ x, factB (LL n) n = x := ⟨_, rfl⟩
              rw [hx] at HRn HAn Hbn cnn
              clear hx
              generalize factB A n = y at *
              go_wp2
              go_roundw
              case rel => exact ⟨n + 1, _, by omega, by go_num, HRn, HAn, Hbn.out⟩
              case measure => simp [intOf]; omega
            · obtain rfl : n = m := by omega
              have HE : Hid (∀ j, j < n → (factB A j = true ↔ loopP n ps j)) := fun j hj => by rw [HA.out.2 j hj]; exact HF.out j hj
              have HAl : Hid (A.length = n) := HA.out.1
              clear HA
              go_wp2
              go_ret
              exact ⟨_, A, rfl, HR.out, HAl.out, HE.out, hbx⟩

end Go.Proofs.YtkdoghaoijdedaaGreatDoor
