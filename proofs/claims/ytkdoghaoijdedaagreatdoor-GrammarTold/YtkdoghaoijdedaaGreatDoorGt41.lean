/- Texts of the proof, put together: GFtW, GUsR. -/
import Derived.Test.YtkdoghaoijdedaaGreatDoorGt34
import Derived.Test.YtkdoghaoijdedaaGreatDoorGt39
import Derived.Test.YtkdoghaoijdedaaGreatDoorGt40
import Derived.BigRegion
import Derived.Test.YtkdoghaoijdedaaGreatDoorGt23
namespace Go.Proofs.YtkdoghaoijdedaaGreatDoor
open Go.RowKit
set_option linter.unusedVariables false
set_option maxRecDepth 100000

theorem below_drew1T {K : Nat} {w w' : World} (h : Below K w w') : Below K w w'.drew := ⟨h.os, h.tape, h.output, h.size, h.block⟩

set_option maxHeartbeats 16000000 in
theorem rft_any (T : Nat) (s : Int) (N : Nat) (hT : T ≤ 300) (hN1 : 1 ≤ N) (ps : List PdR) (ls ss : List Int) (pv lv sv : Value) (w : World) (hG : GOkM N ps) (hTr : TrmP T ps) (h : PdsM w pv ps) :
    Calls Tryz.prog 33 #[gv ⟨T, N, s, ps, ls, ss⟩ pv lv sv] w fun e w' => ∃ D c bl LL, e = .returned (.slice (some ⟨D, 0, none⟩) N c) ∧ TabM w' D N T bl LL ∧ (∀ x t, x < N → (factB (LL x) t = true ↔ fstP N ps x t)) ∧ w.heap.size ≤ D ∧ (∀ j, j < N → w.heap.size ≤ bl j) ∧ Below w.heap.size w w' := by
  have hB0 := boxG_below w ⟨T, N, s, ps, ls, ss⟩ pv lv sv
  have hB1 := boxG_size w ⟨T, N, s, ps, ls, ss⟩ pv lv sv
  have hB2 := boxG_box w ⟨T, N, s, ps, ls, ss⟩ pv lv sv
  have hLv := rlives_any T s N ps ls ss pv lv sv (boxG w ⟨T, N, s, ps, ls, ss⟩ pv lv sv) hG.n hG.len (fun m hm => (hG.pd m hm).1) (h.below hB0)
  have HEm : Hid (∀ W, Below w.heap.size w W → _) := fun W (hb : Below w.heap.size w W) => rempty_any T s N ps ls ss pv lv sv W hG.n hG.len (fun m hm => (hG.pd m hm).1) (h.below hb)
  have HWh : Hid (∀ (W : World) (i B : Nat) (L : List Bool), Below w.heap.size w W → i < ps.length → L.length = N → RowB W B L → _) := fun W i B L (hb : Below w.heap.size w W) (hi : i < ps.length) (hL : L.length = N) (hv : RowB W B L) => rwhole_any T s N hG.n ps ls ss pv lv sv i hi L B W (hG.mem (p := ps.getD i noPd) (by simp [List.getD, hi])).2 hL hv (h.below hb)
  obtain ⟨pa, pc, rfl⟩ := h.slice
  have HP : Hid (PdsM w (.slice pa ps.length pc) ps) := h
  have HBX : Hid (∀ w', Below (boxG w ⟨T, N, s, ps, ls, ss⟩ (.slice pa ps.length pc) lv sv).heap.size (boxG w ⟨T, N, s, ps, ls, ss⟩ (.slice pa ps.length pc) lv sv) w' → BoxG w' w.heap.size ⟨T, N, s, ps, ls, ss⟩ (.slice pa ps.length pc) lv sv) := fun w' hb => hB2.below (by omega) hb
  clear h
  unfold gv gvs at HWh HEm
  unfold boxG gv gvs at hLv
  unfold boxG gvs at hB0 hB1 hB2 HBX
  unfold gv gvs
  simp only at *
  obtain ⟨q0, q1, q2, q3, q4, q5, q6⟩ := hB2
  simp only at q0 q1 q2 q3 q4 q5 q6
  go_enter Tryz.func33, Tryz.ntmps33
  go_wp2_with fail
  refine hLv.mono ?_
  rintro e w2 ⟨L, rfl, hrow, hlen, hf, hb2⟩
  clear hLv q0 q1 q2 q3 q4 q5 q6
  generalize w.alloc (.cells #[.int .i64 T, .int .i64 N, .int .i64 s, .slice pa ps.length pc, lv, sv] 25) = w0 at *
  have HFE : Hid (factB L = hgtB true (prsS ps) N) := funext hf
  rw [hB1] at hrow
  have HLn : Hid (L.length = N) := hlen
  have hpl := hG.len
  have hN3 := hG.n
  have hb20 : Below w.heap.size w w2 := hB0.trans (hb2.mono (by omega))
  have hCe := HEm.out w2 hb20
  have hQ := HBX.out w2 hb2
  obtain ⟨q0, q1, q2, q3, q4, q5, q6⟩ := hQ
  simp only at q0 q1 q2 q3 q4 q5 q6
  clear HEm
  go_wp2_with fail
  refine hCe.mono ?_
  rintro e w3 ⟨E, rfl, hrowE, hlenE, hfE, hb3⟩
  clear hCe q0 q1 q2 q3 q4 q5 q6 hf
  have HFEm : Hid (factB E = hgtB false (prsS ps) N) := funext hfE
  have HEn : Hid (E.length = N) := hlenE
  have hb30 : Below w.heap.size w w3 := hb20.trans (hb3.mono hb20.size)
  have HRE : Hid (RowB w3 (w2.heap.size + 1) E) := hrowE
  have HRL : Hid (RowB w3 (w.heap.size + 1 + 1) L) := hrow.below hb3
  have HX : Hid (∀ W, Below w3.heap.size w3 W → BoxG W w.heap.size ⟨T, N, s, ps, ls, ss⟩ (.slice pa ps.length pc) lv sv ∧ Below w.heap.size w W) := fun W hb => by
    have k := (hb2.trans (hb3.mono hb2.size)).trans (hb.mono (hb2.trans (hb3.mono hb2.size)).size)
    exact ⟨HBX.out W k, hb30.trans (hb.mono hb30.size)⟩
  clear hrow hrowE hfE HBX hb2 hb3 hb20
  have hCt := rtable_any N T hN1 hN3 (by omega) w3
  obtain ⟨⟨q0, q1, q2, q3, q4, q5, q6⟩, _⟩ := HX.out w3 (Below.refl _ _)
  simp only at q0 q1 q2 q3 q4 q5 q6
  go_wp2_with fail
  refine hCt.mono ?_
  rintro e w4 ⟨D, c, bl, rfl, htab, hD3, hbl3, hb4⟩
  clear hCt q0 q1 q2 q3 q4 q5 q6
  have HT0 : Hid (TabM w4 D N T bl (fun _ => List.replicate T false)) := htab
  have HBL : Hid (∀ j, j < N → w3.heap.size ≤ bl j) := hbl3
  have HF0 : Hid (FtI N T ps 0 0 (fun _ => List.replicate T false)) := FtI.start N T ps
  clear htab hbl3
  go_wp2
  go_loopw [6] (fun rv wr => ∃ (r : Nat) (LL : Nat → List Bool), r ≤ N ∧ rv = .int .i64 r ∧ Hid (TabM wr D N T bl LL) ∧ Hid (FtI N T ps r 0 LL) ∧ Below w3.heap.size w3 wr) (fun rv _ => N - (intOf rv).toNat)
  case atStart => exact ⟨0, _, Nat.zero_le _, rfl, HT0, HF0, hb4⟩
  case round =>
    clear HT0 HF0 hb4
    obtain ⟨r, LL, hr, rfl, HTb, HI, hbw⟩ := hrel
    obtain ⟨⟨q0, q1, q2, q3, q4, q5, q6⟩, hbx⟩ := HX.out wr hbw
    simp only at q0 q1 q2 q3 q4 q5 q6
    by_cases hrN : r < N
    · go_wp2
      clear q0 q1 q2 q3 q4 q5 q6 hbx
      go_loopw [7] (fun iv wr => ∃ (i : Nat) (LL : Nat → List Bool), i ≤ ps.length ∧ iv = .int .i64 i ∧ Hid (TabM wr D N T bl LL) ∧ Hid (FtI N T ps r i LL) ∧ Below w3.heap.size w3 wr) (fun iv _ => ps.length - (intOf iv).toNat)
      case atStart => exact ⟨0, LL, Nat.zero_le _, rfl, HTb, HI, hbw⟩
      case round =>
        clear HTb HI hbw LL
        obtain ⟨i, LL, hi, rfl, HTb, HI, hbw⟩ := hrel
        obtain ⟨⟨q0, q1, q2, q3, q4, q5, q6⟩, hbx⟩ := HX.out wr hbw
        simp only at q0 q1 q2 q3 q4 q5 q6
        by_cases hlt : i < ps.length
        · have hCa := HWh.out wr i (w.heap.size + 1 + 1) L hbx hlt HLn.out (HRL.out.below hbw)
          rw [HFE.out] at hCa
          have HKp : Hid (hasB true (hgtB true (prsS ps) N) (ps.getD i noPd).right = keepP N ps (ps.getD i noPd)) := rfl
          rw [HKp.out] at hCa
          go_wp2_with fail
          refine hCa.mono ?_
          rintro e w6 ⟨rfl, hb6⟩
          have hbw6 := hbw.trans (hb6.mono hbw.size)
          have HT6 : Hid (TabM w6 D N T bl LL) := HTb.out.below hb6
          clear hCa HKp HTb q0 q1 q2 q3 q4 q5 q6 hbx hb6 hbw
          obtain ⟨⟨q0, q1, q2, q3, q4, q5, q6⟩, hbx⟩ := HX.out w6 hbw6
          simp only at q0 q1 q2 q3 q4 q5 q6
          obtain ⟨b, off, rv, rfl, hb0, hpd0⟩ := HP.out.at hlt
          have hb := Nat.lt_of_lt_of_le hb0 hbx.size
          have hpd := hpd0.below hb0 hbx
          have hrr0 := hpd0.right
          clear hpd0 hb0
          obtain ⟨hPk, hSy⟩ := hG.mem (p := ps.getD i noPd) (by simp [List.getD, hlt])
          obtain ⟨lf, hlf⟩ : ∃ lf : Nat, (ps.getD i noPd).left = (lf : Int) := ⟨(ps.getD i noPd).left.toNat, by have := hPk.1; omega⟩
          have hlN : lf < N := by have := hPk.2.1; omega
          have hTr1 := hTr i hlt
          obtain ⟨kp, hkp⟩ : ∃ kp, keepP N ps (ps.getD i noPd) = kp := ⟨_, rfl⟩
          rw [hkp]
          have HKP : Hid (keepP N ps (ps.getD i noPd) = kp) := hkp
          clear hkp
          have HK0 : Hid (FkI N T ps r i lf LL 0 LL) := FkI.start HI.out lf
          have HLF : Hid ((ps.getD i noPd).left = (lf : Int)) := hlf
          obtain ⟨R, hR⟩ : ∃ R, (ps.getD i noPd).right = R := ⟨_, rfl⟩
          have HR : Hid ((ps.getD i noPd).right = R) := hR
          have HTM : Hid (∀ (k s : Nat) (LL' : Nat → List Bool), FkI N T ps r i lf LL k LL' → kp = true → AtP (hgtB false (prsS ps) N) R k → R.getD k 0 = (s : Int) → s < T → FkI N T ps r i lf LL (k + 1) (setT LL' lf s true)) := fun k s LL' h1 h2 h3 h4 h5 => h1.term hlt (by rw [HKP.out]; exact h2) hlN hlf (by rw [hR]; exact h3) (by rw [hR]; exact h4) h5
          have HNM : Hid (∀ (k m : Nat) (LL' LL'' : Nat → List Bool), FkI N T ps r i lf LL k LL' → kp = true → AtP (hgtB false (prsS ps) N) R k → -1 - R.getD k 0 = (m : Int) → m < N → OrI N T LL' lf (factB (LL' m)) T LL'' → FkI N T ps r i lf LL (k + 1) LL'') := fun k m LL' LL'' h1 h2 h3 h4 h5 h6 => h1.name HI.out hlt (by rw [HKP.out]; exact h2) hlN h5 hlf (by rw [hR]; exact h3) (by rw [hR]; exact h4) h6
          have HFI : Hid (∀ (k : Nat) (LL' : Nat → List Bool), FkI N T ps r i lf LL k LL' → (kp = true → ∀ k', k ≤ k' → ¬ AtP (hgtB false (prsS ps) N) R k') → FtI N T ps r (i + 1) LL') := fun k LL' h1 h2 => h1.fin HI.out hlN hlf (fun h3 => by rw [hR]; exact h2 (by rw [← HKP.out]; exact h3))
          obtain ⟨c0, c1, c2, hrr⟩ := hpd
          rw [hlf] at c0
          generalize (ps.getD i noPd).level = plv at c2
          rw [hR] at hrr hSy hTr1 hrr0
          obtain ⟨ra, rc, rfl⟩ := hrr.slice
          have hA := alloc_below w6 (.cells #[.int .i64 (lf : Int), .slice ra R.length rc, .int .i64 plv] 34)
          have HBP : Hid (BoxP (w6.alloc (.cells #[.int .i64 (lf : Int), .slice ra R.length rc, .int .i64 plv] 34)) w6.heap.size (lf : Int) (.slice ra R.length rc) plv) := alloc_at _ _
          have HT7 : Hid (TabM (w6.alloc (.cells #[.int .i64 (lf : Int), .slice ra R.length rc, .int .i64 plv] 34)) D N T bl LL) := HT6.out.below hA
          have hbw7 : Below w3.heap.size w3 (w6.alloc (.cells #[.int .i64 (lf : Int), .slice ra R.length rc, .int .i64 plv] 34)) := hbw6.trans (hA.mono hbw6.size)
          have HPB : Hid (∀ j, j < N → w6.heap.size ≠ bl j) := fun j hj => by have := HT6.out.bl_lt hj; omega
          have hw36 : w3.heap.size ≤ w6.heap.size := hbw6.size
          obtain ⟨d0, d1, d2⟩ := box3_cells w6 (.int .i64 (lf : Int)) (.slice ra R.length rc) (.int .i64 plv) 34
          have hAs := alloc_size w6 (.cells #[.int .i64 (lf : Int), .slice ra R.length rc, .int .i64 plv] 34)
          have HRI : Hid (∀ wx, Below w3.heap.size w3 wx → IntsR wx (.slice ra R.length rc) R) := fun wx hx => hrr0.below (HX.out wx hx).2
          have HSY : Hid (SymsL N R) := hSy
          have HTR : Hid (∀ k, k < R.length → R.getD k 0 < (T : Int)) := hTr1
          have hrl := hSy.1
          have hOK0 : (kp && hasB false (hgtB false (prsS ps) N) (R.take 0)) = kp := by
            rw [List.take_zero, show hasB false (hgtB false (prsS ps) N) [] = true from rfl, Bool.and_true]
          have HO0 : Hid (kp = (kp && hasB false (hgtB false (prsS ps) N) (R.take 0))) := hOK0.symm
          clear hR hrr hSy hTr1 hPk HI HT6 hA hlf hOK0 hrr0
          go_wp2
          clear q0 q1 q2 q3 q4 q5 q6 hbx c0 c1 c2 hb d0 d1 d2 hAs
          generalize w6.alloc (.cells #[.int .i64 (lf : Int), .slice ra R.length rc, .int .i64 plv] 34) = w7 at *
          generalize w6.heap.size = pb at *
          go_loopw [8, 10] (fun ov kv wr => ∃ (k : Nat) (ok : Bool) (LL' : Nat → List Bool), k ≤ R.length ∧ kv = .int .i64 k ∧ ov = .bool ok ∧ Hid (ok = (kp && hasB false (hgtB false (prsS ps) N) (R.take k))) ∧ Hid (TabM wr D N T bl LL') ∧ Hid (FkI N T ps r i lf LL k LL') ∧ Hid (BoxP wr pb (lf : Int) (.slice ra R.length rc) plv) ∧ Below w3.heap.size w3 wr) (fun _ kv _ => R.length - (intOf kv).toNat)
          case atStart => exact ⟨0, kp, LL, Nat.zero_le _, rfl, rfl, HO0, HT7, HK0, HBP, hbw7⟩
          case round =>
            clear HO0 HT7 HK0 HBP hbw7
            obtain ⟨k, ok, LL', hk, rfl, rfl, HO, HTb, HK, HBP, hbw⟩ := hrel
            have e0 := HBP.out.c0
            have e1 := HBP.out.c1
            have lpb := HBP.out.lt
            cases ok with
            | false =>
              have HN : Hid (FtI N T ps r (i + 1) LL') := HFI.out k LL' HK.out (fun h1 => atP_stop (by have := HO.out; rw [h1, Bool.true_and] at this; exact this.symm))
              clear HK HO
              by_cases hkl : k < R.length
              · go_wp2
                go_roundw
                case rel => exact ⟨i + 1, LL', by omega, by go_num, HTb, HN, hbw⟩
                case measure => simp [intOf]; omega
              · go_wp2
                go_roundw
                case rel => exact ⟨i + 1, LL', by omega, by go_num, HTb, HN, hbw⟩
                case measure => simp [intOf]; omega
            | true =>
              have hkT : kp = true ∧ hasB false (hgtB false (prsS ps) N) (R.take k) = true := by
                have := HO.out.symm
                rw [Bool.and_eq_true] at this
                exact this
              obtain ⟨hk1, hk2⟩ := hkT
              have HK1 : Hid (kp = true) := hk1
              have HK2 : Hid (hasB false (hgtB false (prsS ps) N) (R.take k) = true) := hk2
              clear hk1 hk2 HO
              by_cases hkl : k < R.length
              · have hAt : AtP (hgtB false (prsS ps) N) R k := ⟨hkl, HK2.out⟩
                obtain ⟨b3, off3, hra, hb3, hc3⟩ := (HRI.out wr hbw).at hkl
                obtain ⟨hs1, hs2⟩ := HSY.out.2 k hkl
                have hs3 := HTR.out k hkl
                have HTN : Hid (hasB false (hgtB false (prsS ps) N) (R.take (k + 1)) = (if R.getD k 0 < 0 then hgtB false (prsS ps) N (-1 - R.getD k 0).toNat else false)) := by show _ = _; rw [take_name hkl, HK2.out, Bool.true_and]
                have cD := HTb.out.at_ lf hlN
                have lD := HTb.out.lt
                have lbl := HTb.out.bl_lt hlN
                by_cases hsn : R.getD k 0 < 0
                · obtain ⟨m, hm⟩ : ∃ m : Nat, -1 - R.getD k 0 = (m : Int) := ⟨(-1 - R.getD k 0).toNat, by omega⟩
                  have hmN : m < N := by omega
                  have hwq : IntKind.i64.wrap (-1 - R.getD k 0) = (m : Int) := by rw [wrap_g64 _ (by unfold I64 at hs2; omega) (by unfold I64 at hs2; omega), hm]
                  have HTE : Hid (hasB false (hgtB false (prsS ps) N) (R.take (k + 1)) = factB E m) := by show _ = _; rw [HTN.out, if_pos hsn, hm, Int.toNat_natCast, HFEm.out]
                  have HOR0 : Hid (OrI N T LL' lf (factB (LL' m)) 0 LL') := OrI.start HTb.out.len _ _
                  have HFN : Hid (∀ LL'', OrI N T LL' lf (factB (LL' m)) T LL'' → FkI N T ps r i lf LL (k + 1) LL'') := fun LL'' ho => HNM.out k m LL' LL'' HK.out HK1.out hAt hm hmN ho
                  clear HTN hAt hs3 hs1 hs2 HK hm
                  generalize R.getD k 0 = sy at *
                  subst hra
                  go_wp2
                  clear e0 e1 lpb hc3 hb3 cD lD lbl
                  go_loopw [12] (fun tv wr => ∃ (t : Nat) (LL'' : Nat → List Bool), t ≤ T ∧ tv = .int .i64 t ∧ Hid (TabM wr D N T bl LL'') ∧ Hid (OrI N T LL' lf (factB (LL' m)) t LL'') ∧ Hid (BoxP wr pb (lf : Int) (.slice (some ⟨b3, off3, none⟩) R.length rc) plv) ∧ Below w3.heap.size w3 wr) (fun tv _ => T - (intOf tv).toNat)
                  case atStart => exact ⟨0, LL', Nat.zero_le _, rfl, HTb, HOR0, HBP, hbw⟩
                  case round =>
                    clear HTb HOR0 HBP hbw
                    obtain ⟨t, LL'', ht, rfl, HTb, HOR, HBP, hbw⟩ := hrel
                    have e0 := HBP.out.c0
                    have e1 := HBP.out.c1
                    have lpb := HBP.out.lt
                    obtain ⟨⟨q0, q1, q2, q3, q4, q5, q6⟩, hbx⟩ := HX.out wr hbw
                    simp only at q0 q1 q2 q3 q4 q5 q6
                    by_cases htT : t < T
                    · have cD := HTb.out.at_ lf hlN
                      have cM := HTb.out.at_ m hmN
                      have lD := HTb.out.lt
                      have lbl := HTb.out.bl_lt hlN
                      have lbm := HTb.out.bl_lt hmN
                      have cx := HTb.out.cell (k := t) hlN htT
                      have cm := HTb.out.cell (k := t) hmN htT
                      have fx := (HTb.out.row lf hlN).fz t
                      rw [HOR.out.own hmN t] at cm
                      have HTn : Hid (∀ x, TabM (wr.setCell ⟨bl lf, t, none⟩ (.bool x)).drew D N T bl (setT LL'' lf t x)) := fun x => (HTb.out.setT hlN x).drew
                      have HORn : Hid (OrI N T LL' lf (factB (LL' m)) (t + 1) (setT LL'' lf t (factB (LL'' lf) t || factB (LL' m) t))) := HOR.out.step hlN htT
                      have HBPn : Hid (∀ x, BoxP (wr.setCell ⟨bl lf, t, none⟩ x).drew pb (lf : Int) (.slice (some ⟨b3, off3, none⟩) R.length rc) plv) := fun x => (HBP.out.other (HPB.out lf hlN)).drew
                      have hbn : ∀ x, Below w3.heap.size w3 (wr.setCell ⟨bl lf, t, none⟩ x).drew := fun x => below_drew1T (below_set hbw (HBL.out lf hlN) _ _)
                      have Hbn : Hid _ := hbn
                      clear hbn HTb HOR HBP
                      generalize bl lf = bx at *
                      generalize bl m = bm at *
                      generalize factB (LL'' lf) t = fl at *
                      generalize factB (LL' m) t = fm at *
                      cases fl
                      all_goals
                        go_wp2
                        go_region
                        all_goals
                          go_wp2
                          go_roundw
                          case rel => exact ⟨t + 1, _, by omega, by go_num, HTn.out _, HORn, HBPn.out _, Hbn.out _⟩
                          case measure => simp [intOf]; omega
                    · obtain rfl : t = T := by omega
                      have HKn : Hid (FkI N t ps r i lf LL (k + 1) LL'') := HFN.out LL'' HOR.out
                      have cE := (HRE.out.below hbw).cell (j := m) (by rw [HEn.out]; exact hmN)
                      have lE := (HRE.out.below hbw).lt
                      have HOn : Hid (factB E m = (kp && hasB false (hgtB false (prsS ps) N) (R.take (k + 1)))) := by show _ = _; rw [HK1.out, Bool.true_and, HTE.out]
                      clear HOR HFN HTE
                      generalize factB E m = em at *
                      go_wp2
                      go_roundw
                      case rel => exact ⟨k + 1, em, LL'', by omega, by go_num, rfl, HOn, HTb, HKn, HBP, hbw⟩
                      case measure => simp [intOf]; omega
                · obtain ⟨sn, hsn2⟩ : ∃ sn : Nat, R.getD k 0 = (sn : Int) := ⟨(R.getD k 0).toNat, by omega⟩
                  have hsT : sn < T := by omega
                  have HN : Hid (FtI N T ps r (i + 1) (setT LL' lf sn true)) := HFI.out (k + 1) _ (HTM.out k sn LL' HK.out HK1.out hAt hsn2 hsT) (fun _ => atP_stop (by rw [HTN.out, if_neg hsn]))
                  have cx := HTb.out.cell (k := sn) hlN hsT
                  have fx := (HTb.out.row lf hlN).fz sn
                  have HTn : Hid (TabM (wr.setCell ⟨bl lf, sn, none⟩ (.bool true)) D N T bl (setT LL' lf sn true)) := HTb.out.setT hlN true
                  have hbn : Below w3.heap.size w3 (wr.setCell ⟨bl lf, sn, none⟩ (.bool true)) := below_set hbw (HBL.out lf hlN) _ _
                  have Hbn : Hid _ := hbn
                  rw [hsn2] at hc3
                  have hsp : (0 : Int) ≤ (sn : Int) := by omega
                  clear hbn HTb HK HTN hs1 hs2 hs3 hsn hsn2 HBP hAt
                  subst hra
                  generalize bl lf = bx at *
                  generalize factB (LL' lf) sn = fl at *
                  go_wp2
                  go_roundw
                  case rel => exact ⟨i + 1, _, by omega, by go_num, HTn, HN, Hbn.out⟩
                  case measure => simp [intOf]; omega
              · have HN : Hid (FtI N T ps r (i + 1) LL') := HFI.out k LL' HK.out (fun _ k' hk' ha => by have := ha.1; omega)
                clear HK
                go_wp2
                go_roundw
                case rel => exact ⟨i + 1, LL', by omega, by go_num, HTb, HN, hbw⟩
                case measure => simp [intOf]; omega
        · obtain rfl : i = ps.length := by omega
          have HN : Hid (FtI N T ps (r + 1) 0 LL) := HI.out.next
          clear HI
          go_wp2
          go_roundw
          case rel => exact ⟨r + 1, LL, by omega, by go_num, HTb, HN, hbw⟩
          case measure => simp [intOf]; omega
    · obtain rfl : r = N := by omega
      have HE : Hid (∀ x t, x < r → (factB (LL x) t = true ↔ fstP r ps x t)) := HI.out.final hG
      clear HI
      go_wp2
      go_ret
      exact ⟨D, c, bl, LL, rfl, HTb.out, HE.out, Nat.le_trans hb30.size hD3, fun j hj => Nat.le_trans hb30.size (HBL.out j hj), hbx⟩

end Go.Proofs.YtkdoghaoijdedaaGreatDoor

namespace Go.Proofs.YtkdoghaoijdedaaGreatDoor
set_option linter.unusedVariables false

theorem wholeP_mem {N : Nat} {ps : List PdR} {p : PdR} : p ∈ wholeP N ps ↔ ∃ j, j < ps.length ∧ ps.getD j noPd = p ∧ keepP N ps p = true := by
  constructor
  · intro h
    obtain ⟨h1, h2⟩ := List.mem_filter.1 h
    obtain ⟨j, hj, rfl⟩ := List.mem_iff_getElem.1 h1
    exact ⟨j, hj, by simp [List.getD, hj], h2⟩
  · rintro ⟨j, hj, rfl, h2⟩
    exact List.mem_filter.2 ⟨by simp [List.getD, hj], h2⟩
/-- what holds within a round -/
structure UsI (N : Nat) (ps : List PdR) (s : Int) (r i : Nat) (A U : List Bool) : Prop where
  lenA : A.length = N
  lenU : U.length = ps.length
  sndA : ∀ n, factB A n = true → ∃ h, reachH (wholeP N ps) s h n = true
  sndU : ∀ j, factB U j = true → keepP N ps (ps.getD j noPd) = true ∧ ∃ h, reachH (wholeP N ps) s h (ps.getD j noPd).left.toNat = true
  le : ∀ n, n < N → reachH (wholeP N ps) s (r + 1) n = true → factB A n = true
  old : ∀ j, j < ps.length → keepP N ps (ps.getD j noPd) = true → reachH (wholeP N ps) s r (ps.getD j noPd).left.toNat = true → factB U j = true
  done : ∀ j, j < i → keepP N ps (ps.getD j noPd) = true → reachH (wholeP N ps) s (r + 1) (ps.getD j noPd).left.toNat = true → factB U j = true ∧ ∀ n, n < N → inB (ps.getD j noPd) n = true → factB A n = true
theorem UsI.start {N : Nat} {ps : List PdR} {s : Nat} (hs : s < N) : UsI N ps s 0 0 ((List.replicate N false).set s true) (List.replicate ps.length false) := by
  have hf := factB_set (L := List.replicate N false) (N := N) (by simp) hs true
  refine ⟨by simp, by simp, fun n h => ?_, fun j h => ?_, fun n hn h => ?_, fun j _ _ h => ?_, fun j h => by omega⟩
  · rw [hf] at h
    by_cases e : n = s
    · exact ⟨1, (reachB_iff _ _ _ _).2 (.inr (by omega))⟩
    · rw [if_neg e, factB_none] at h; cases h
  · rw [factB_none] at h; cases h
  · rcases (reachB_iff _ _ _ _).1 (show reachB (wholeP N ps) s (reachH (wholeP N ps) s 0) n = true from h) with ⟨p, _, _, h3⟩ | h1
    · simp [reachH] at h3
    · rw [hf, if_pos (by omega)]
  · simp [reachH] at h
/-- a production that is not taken -/
theorem UsI.skip {N : Nat} {ps : List PdR} {s : Int} {r i : Nat} {A U : List Bool} (h : UsI N ps s r i A U) (hG : GOkM N ps) (hi : i < ps.length) (hno : keepP N ps (ps.getD i noPd) = false ∨ factB A (ps.getD i noPd).left.toNat = false) : UsI N ps s r (i + 1) A U := by
  refine ⟨h.lenA, h.lenU, h.sndA, h.sndU, h.le, h.old, fun j hj h1 h2 => ?_⟩
  by_cases e : j = i
  · subst e
    have hp := (hG.mem (p := ps.getD j noPd) (by simp [List.getD, hi])).1
    rcases hno with h3 | h3
    · rw [h3] at h1; cases h1
    · rw [h.le _ (by have := hp.1; have := hp.2.1; omega) h2] at h3; cases h3
  · exact h.done j (by omega) h1 h2
/-- a production that is taken -/
theorem UsI.take {N : Nat} {ps : List PdR} {s : Int} {r i : Nat} {A U A' : List Bool} (h : UsI N ps s r i A U) (hi : i < ps.length) (hk : keepP N ps (ps.getD i noPd) = true) (ha : factB A (ps.getD i noPd).left.toNat = true) (hl : A'.length = N) (hup : ∀ n, factB A n = true → factB A' n = true) (hall : ∀ n, n < N → inB (ps.getD i noPd) n = true → factB A' n = true) (hnew : ∀ n, factB A' n = true → factB A n = true ∨ inB (ps.getD i noPd) n = true) : UsI N ps s r (i + 1) A' (U.set i true) := by
  have hf := factB_set h.lenU hi true
  obtain ⟨k, hk2⟩ := h.sndA _ ha
  refine ⟨hl, by rw [List.length_set]; exact h.lenU, fun n hn => ?_, fun j hj => ?_, fun n hn h1 => hup n (h.le n hn h1), fun j hj h1 h2 => ?_, fun j hj h1 h2 => ?_⟩
  · rcases hnew n hn with h1 | h1
    · exact h.sndA n h1
    · exact ⟨k + 1, (reachB_iff _ _ _ _).2 (.inl ⟨_, wholeP_mem.2 ⟨i, hi, rfl, hk⟩, h1, hk2⟩)⟩
  · rw [hf] at hj
    by_cases e : j = i
    · rw [e]; exact ⟨hk, k, hk2⟩
    · rw [if_neg e] at hj; exact h.sndU j hj
  · rw [hf]
    split
    · rfl
    · exact h.old j hj h1 h2
  · by_cases e : j = i
    · subst e
      exact ⟨by rw [hf, if_pos rfl], hall⟩
    · obtain ⟨h3, h4⟩ := h.done j (by omega) h1 h2
      exact ⟨by rw [hf, if_neg e]; exact h3, fun n hn h5 => hup n (h4 n hn h5)⟩
/-- the next round -/
theorem UsI.next {N : Nat} {ps : List PdR} {s : Int} {r : Nat} {A U : List Bool} (h : UsI N ps s r ps.length A U) : UsI N ps s (r + 1) 0 A U := by
  refine ⟨h.lenA, h.lenU, h.sndA, h.sndU, fun n hn h1 => ?_, fun j hj h1 h2 => (h.done j hj h1 h2).1, fun j hj => by omega⟩
  rcases (reachB_iff _ _ _ _).1 (show reachB (wholeP N ps) s (reachH (wholeP N ps) s (r + 1)) n = true from h1) with ⟨p, hp, h2, h3⟩ | h2
  · obtain ⟨j, hj, rfl, hk⟩ := wholeP_mem.1 hp
    exact (h.done j hj hk h3).2 n hn h2
  · exact h.le n hn ((reachB_iff _ _ _ _).2 (.inr h2))
/-- after so many rounds -/
theorem UsI.final {N : Nat} {ps : List PdR} {s : Int} {A U : List Bool} (h : UsI N ps s (N + 1) 0 A U) (hG : GOkM N ps) : ∀ i, i < ps.length → (factB U i = true ↔ keepP N ps (ps.getD i noPd) = true ∧ ∃ h, reachH (wholeP N ps) s h (ps.getD i noPd).left.toNat = true) := fun i hi => by
  refine ⟨h.sndU i, fun ⟨h1, h2⟩ => h.old i hi h1 ?_⟩
  have hp := (hG.mem (p := ps.getD i noPd) (by simp [List.getD, hi])).1
  exact reachH_up _ _ _ _ ((reachH_iff hG.whole s _ (by have := hp.1; have := hp.2.1; omega)).1 h2)

end Go.Proofs.YtkdoghaoijdedaaGreatDoor
