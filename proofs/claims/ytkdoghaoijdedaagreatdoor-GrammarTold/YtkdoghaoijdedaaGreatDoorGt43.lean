/- Texts of the proof, put together: GFwW, GLpX. -/
import Derived.Test.YtkdoghaoijdedaaGreatDoorGt40
import Derived.Test.YtkdoghaoijdedaaGreatDoorGt41
import Derived.Test.YtkdoghaoijdedaaGreatDoorGt42
import Derived.Test.YtkdoghaoijdedaaGreatDoorGt33
import Derived.Test.YtkdoghaoijdedaaGreatDoorGt23
import Derived.Test.YtkdoghaoijdedaaGreatDoorGt25
namespace Go.Proofs.YtkdoghaoijdedaaGreatDoor
open Go.RowKit
set_option linter.unusedVariables false
set_option maxRecDepth 100000

set_option maxHeartbeats 4000000 in
theorem rfirst_any (T : Nat) (s : Int) (N : Nat) (hT : T ≤ 300) (hN1 : 1 ≤ N) (ps : List PdR) (ls ss : List Int) (pv lv sv : Value) (w : World) (hG : GOkM N ps) (hTr : TrmP T ps) (h : PdsM w pv ps) :
    Calls Tryz.prog 19 #[gv ⟨T, N, s, ps, ls, ss⟩ pv lv sv] w fun e w' => ∃ v LL, e = .returned v ∧ LssM w' v (numL N T LL) ∧ (∀ n, n < N → (LL n).length = T) ∧ (∀ x t, x < N → (factB (LL x) t = true ↔ fstP N ps x t)) ∧ Below w.heap.size w w' := by
  have hB0 := boxG_below w ⟨T, N, s, ps, ls, ss⟩ pv lv sv
  have hB1 := boxG_size w ⟨T, N, s, ps, ls, ss⟩ pv lv sv
  have hB2 := boxG_box w ⟨T, N, s, ps, ls, ss⟩ pv lv sv
  have hC := rft_any T s N hT hN1 ps ls ss pv lv sv (boxG w ⟨T, N, s, ps, ls, ss⟩ pv lv sv) hG hTr (h.below hB0)
  obtain ⟨pa, pc, rfl⟩ := h.slice
  have hN3 := hG.n
  clear h
  unfold boxG gv gvs at hC
  unfold boxG gvs at hB0 hB1 hB2
  unfold gv gvs
  simp only at *
  obtain ⟨q0, q1, q2, q3, q4, q5, q6⟩ := hB2
  simp only at q0 q1 q2 q3 q4 q5 q6
  go_enter Tryz.func19, Tryz.ntmps19
  go_wp2_with fail
  refine hC.mono ?_
  rintro e w2 ⟨D, c, bl, LL, rfl, htab, hf, _, _, hb2⟩
  clear hC q0 q1 q2 q3 q4 q5 q6
  generalize w.alloc (.cells #[.int .i64 T, .int .i64 N, .int .i64 s, .slice pa ps.length pc, lv, sv] 25) = w0 at *
  have hb20 : Below w.heap.size w w2 := hB0.trans (hb2.mono (by omega))
  have hCn := rnum_any N T D c bl LL hN3 (by omega) w2 htab
  have HF : Hid (∀ x t, x < N → (factB (LL x) t = true ↔ fstP N ps x t)) := hf
  have HLN : Hid (∀ n, n < N → (LL n).length = T) := htab.len
  clear htab hf
  go_wp2_with fail
  refine hCn.mono ?_
  rintro e w3 ⟨v, rfl, hls, hb3⟩
  have hb30 := hb20.trans (hb3.mono hb20.size)
  have HLS : Hid (LssM w3 v (numL N T LL)) := hls
  clear hCn hls hb2 hb3
  go_wp2
  go_ret
  exact ⟨v, LL, rfl, HLS.out, HLN.out, HF.out, hb30⟩

set_option maxHeartbeats 16000000 in
theorem rfollow_any (T s N : Nat) (hT : T ≤ 300) (hN1 : 1 ≤ N) (hs : s < N) (ps : List PdR) (ls ss : List Int) (pv lv sv : Value) (w : World) (hG : GOkM N ps) (hTr : TrmP T ps) (h : PdsM w pv ps) (hlv : ∃ a n c, lv = .slice a n c) (hsv : ∃ a n c, sv = .slice a n c) :
    Calls Tryz.prog 20 #[gv ⟨T, N, s, ps, ls, ss⟩ pv lv sv] w fun e w' => ∃ v LL, e = .returned v ∧ LssM w' v (numL N (T + 1) LL) ∧ (∀ n, n < N → (LL n).length = T + 1) ∧ (∀ x t, x < N → (factB (LL x) t = true ↔ flwP N T ps s x t)) ∧ Below w.heap.size w w' := by
  have hB0 := boxG_below w ⟨T, N, s, ps, ls, ss⟩ pv lv sv
  have hB1 := boxG_size w ⟨T, N, s, ps, ls, ss⟩ pv lv sv
  have hB2 := boxG_box w ⟨T, N, s, ps, ls, ss⟩ pv lv sv
  have HUs : Hid (∀ W, Below w.heap.size w W → _) := fun W (hb : Below w.heap.size w W) => rused_any T s N hs ps ls ss pv lv sv W hG (h.below hb)
  have HLv : Hid (∀ W, Below w.heap.size w W → _) := fun W (hb : Below w.heap.size w W) => rlives_any T s N ps ls ss pv lv sv W hG.n hG.len (fun m hm => (hG.pd m hm).1) (h.below hb)
  have HEm : Hid (∀ W, Below w.heap.size w W → _) := fun W (hb : Below w.heap.size w W) => rempty_any T s N ps ls ss pv lv sv W hG.n hG.len (fun m hm => (hG.pd m hm).1) (h.below hb)
  have HFs : Hid (∀ W, Below w.heap.size w W → _) := fun W (hb : Below w.heap.size w W) => rft_any T s N hT hN1 ps ls ss pv lv sv W hG hTr (h.below hb)
  obtain ⟨pa, pc, rfl⟩ := h.slice
  obtain ⟨la, ln, lc, rfl⟩ := hlv
  obtain ⟨sa, sn, sc, rfl⟩ := hsv
  have HP : Hid (PdsM w (.slice pa ps.length pc) ps) := h
  have HBX : Hid (∀ w', Below (boxG w ⟨T, N, s, ps, ls, ss⟩ (.slice pa ps.length pc) (.slice la ln lc) (.slice sa sn sc)).heap.size (boxG w ⟨T, N, s, ps, ls, ss⟩ (.slice pa ps.length pc) (.slice la ln lc) (.slice sa sn sc)) w' → BoxG w' w.heap.size ⟨T, N, s, ps, ls, ss⟩ (.slice pa ps.length pc) (.slice la ln lc) (.slice sa sn sc)) := fun w' hb => hB2.below (by omega) hb
  have hN3 := hG.n
  have hpl := hG.len
  clear h
  unfold gv gvs at HUs HLv HEm HFs
  unfold boxG gvs at hB0 hB1 hB2 HBX
  unfold gv gvs
  simp only at *
  have hC1 := HUs.out _ hB0
  obtain ⟨q0, q1, q2, q3, q4, q5, q6⟩ := hB2
  simp only at q0 q1 q2 q3 q4 q5 q6
  clear HUs
  go_enter Tryz.func20, Tryz.ntmps20
  go_wp2_with fail
  refine hC1.mono ?_
  rintro e w2 ⟨UB, U, rfl, hrU, hlU, hfU, hb2⟩
  clear hC1 q0 q1 q2 q3 q4 q5 q6
  generalize w.alloc (.cells #[.int .i64 T, .int .i64 N, .int .i64 s, .slice pa ps.length pc, .slice la ln lc, .slice sa sn sc] 25) = w0 at *
  have hb20 : Below w.heap.size w w2 := hB0.trans (hb2.mono (by omega))
  have HFU : Hid (∀ i, i < ps.length → (factB U i = true ↔ usdP N ps s i)) := hfU
  have HUL : Hid (U.length = ps.length) := hlU
  have HRU : Hid (RowB w2 UB U) := hrU
  clear hfU hlU hrU
  have hC2 := HEm.out w2 hb20
  obtain ⟨q0, q1, q2, q3, q4, q5, q6⟩ := HBX.out w2 hb2
  simp only at q0 q1 q2 q3 q4 q5 q6
  clear HEm
  go_wp2_with fail
  refine hC2.mono ?_
  rintro e w3 ⟨E, rfl, hrE, hlE, hfE, hb3⟩
  clear hC2 q0 q1 q2 q3 q4 q5 q6
  have hb30 : Below w.heap.size w w3 := hb20.trans (hb3.mono hb20.size)
  have hb03 := hb2.trans (hb3.mono hb2.size)
  have HRU3 : Hid (RowB w3 UB U) := HRU.out.below hb3
  have HRE : Hid (RowB w3 (w2.heap.size + 1) E) := hrE
  have HEN : Hid (E.length = N) := hlE
  have HEF : Hid (factB E = hgtB false (prsS ps) N) := funext hfE
  clear hrE hlE hfE hb2 hb3 hb20 HRU
  have hC3 := HFs.out w3 hb30
  obtain ⟨q0, q1, q2, q3, q4, q5, q6⟩ := HBX.out w3 hb03
  simp only at q0 q1 q2 q3 q4 q5 q6
  clear HFs
  go_wp2_with fail
  refine hC3.mono ?_
  rintro e w4 ⟨FD, fc, fbl, FF, rfl, htF, hfF, _, _, hb4⟩
  clear hC3 q0 q1 q2 q3 q4 q5 q6
  have hb40 : Below w.heap.size w w4 := hb30.trans (hb4.mono hb30.size)
  have hb04 := hb03.trans (hb4.mono hb03.size)
  have HRU4 : Hid (RowB w4 UB U) := HRU3.out.below hb4
  have HRE4 : Hid (RowB w4 (w2.heap.size + 1) E) := HRE.out.below hb4
  have HTF4 : Hid (TabM w4 FD N T fbl FF) := htF
  have HFF : Hid (∀ x t, x < N → (factB (FF x) t = true ↔ fstP N ps x t)) := hfF
  clear htF hfF hb4 HRU3 HRE hb30 hb03
  have hC4 := HLv.out w4 hb40
  obtain ⟨q0, q1, q2, q3, q4, q5, q6⟩ := HBX.out w4 hb04
  simp only at q0 q1 q2 q3 q4 q5 q6
  clear HLv
  go_wp2_with fail
  refine hC4.mono ?_
  rintro e w5 ⟨L, rfl, hrL, hlL, hfL, hb5⟩
  clear hC4 q0 q1 q2 q3 q4 q5 q6
  have hb50 : Below w.heap.size w w5 := hb40.trans (hb5.mono hb40.size)
  have hb05 := hb04.trans (hb5.mono hb04.size)
  have HRU : Hid (RowB w5 UB U) := HRU4.out.below hb5
  have HRE : Hid (RowB w5 (w2.heap.size + 1) E) := HRE4.out.below hb5
  have HTF : Hid (TabM w5 FD N T fbl FF) := HTF4.out.below hb5
  have HRL : Hid (RowB w5 (w4.heap.size + 1) L) := hrL
  have HLN : Hid (L.length = N) := hlL
  have HLF : Hid (factB L s = hgtB true (prsS ps) N s) := hfL s
  clear HRU4 HRE4 HTF4 hb5 hb40 hb04 hrL hlL hfL
  have hC5 := rtable_any N (T + 1) hN1 hN3 (by omega) w5
  have HX : Hid (∀ W, Below w5.heap.size w5 W → BoxG W w.heap.size ⟨T, N, s, ps, ls, ss⟩ (.slice pa ps.length pc) (.slice la ln lc) (.slice sa sn sc) ∧ Below w.heap.size w W) := fun W hb => ⟨HBX.out W (hb05.trans (hb.mono hb05.size)), hb50.trans (hb.mono hb50.size)⟩
  obtain ⟨⟨q0, q1, q2, q3, q4, q5, q6⟩, _⟩ := HX.out w5 (Below.refl _ _)
  simp only at q0 q1 q2 q3 q4 q5 q6
  have hwT : IntKind.i64.wrap ((T : Int) + 1) = ((T + 1 : Nat) : Int) := by rw [wrap_g64 _ (by omega) (by omega)]; omega
  have hCF : Hid (∀ (k n lf i : Nat) (LL : Nat → List Bool) (bl : Nat → Nat) (D c : Nat) (W : World) (rv : Value), i < ps.length → k < (ps.getD i noPd).right.length → -1 - (ps.getD i noPd).right.getD k 0 = (n : Int) → n < N → (ps.getD i noPd).left = (lf : Int) → lf < N → IntsR w5 rv (ps.getD i noPd).right → Below w5.heap.size w5 W → TabM W D N (T + 1) bl LL → w5.heap.size ≤ D → (∀ j, j < N → w5.heap.size ≤ bl j) → _) := fun k n lf i LL bl D c W rv (h1 : i < ps.length) h2 h3 h4 h5 h6 h7 h8 h9 h10 h11 => rflw_any T N s hT ps (.slice pa ps.length pc) (.slice la ln lc) (.slice sa sn sc) (ps.getD i noPd) rv k n lf E (w2.heap.size + 1) FD fc D c fbl bl FF LL w5 W hN3 (hG.mem (p := ps.getD i noPd) (by simp [List.getD, h1])).2 (hTr i h1) h2 h3 h4 h5 h6 HEN.out HEF.out HRE.out HTF.out HFF.out h7 h8 h9 h10 h11 ⟨_, _, _, rfl⟩ ⟨_, _, _, rfl⟩ ⟨_, _, _, rfl⟩
  clear HBX hb05
  go_wp2_with fail
  refine hC5.mono ?_
  rintro e w6 ⟨D, c, bl, rfl, htab, hD, hbl, hb6⟩
  clear hC5 q0 q1 q2 q3 q4 q5 q6
  obtain ⟨⟨q0, q1, q2, q3, q4, q5, q6⟩, _⟩ := HX.out w6 hb6
  simp only at q0 q1 q2 q3 q4 q5 q6
  have HBL : Hid (∀ j, j < N → w5.heap.size ≤ bl j) := hbl
  have HTb0 : Hid (TabM (w6.setCell ⟨bl s, T, none⟩ (.bool (factB L s))).drew D N (T + 1) bl (setT (fun _ => List.replicate (T + 1) false) s T (factB L s))) := (htab.setT hs _).drew
  have HFI0 : Hid (FwI N T ps s 0 0 0 (setT (fun _ => List.replicate (T + 1) false) s T (factB L s))) := by rw [HLF.out]; exact FwI.start hs
  have hb60 : Below w5.heap.size w5 (w6.setCell ⟨bl s, T, none⟩ (.bool (factB L s))).drew := below_drwT (below_set hb6 (hbl s hs) _ _)
  have cL := (HRL.out.below hb6).cell (j := s) (by rw [HLN.out]; exact hs)
  have lL := (HRL.out.below hb6).lt
  have cD := htab.at_ s hs
  have lD := htab.lt
  have lbl := htab.bl_lt hs
  have cx := htab.cell (k := T) hs (by omega)
  have fx := (htab.row s hs).fz T
  have hTT : (T : Int) < (T : Int) + 1 := by omega
  clear htab hbl hb6
  generalize factB L s = ls0 at *
  generalize factB (List.replicate (T + 1) false) T = old at *
  obtain ⟨bs, hbs⟩ : ∃ bs, bl s = bs := ⟨_, rfl⟩
  rw [hbs] at HTb0 hb60 cD lbl cx fx
  clear hbs
  go_wp2
  go_region
  go_wp2
  clear q0 q1 q2 q3 q4 q5 q6 cL lL cD lD lbl cx fx
  generalize (w6.setCell ⟨bs, T, none⟩ (.bool ls0)).drew = w7 at *
  go_loopw [8] (fun rv wr => ∃ (r : Nat) (LL : Nat → List Bool), r ≤ N + 1 ∧ rv = .int .i64 r ∧ Hid (TabM wr D N (T + 1) bl LL) ∧ Hid (FwI N T ps s r 0 0 LL) ∧ Below w5.heap.size w5 wr) (fun rv _ => N + 1 - (intOf rv).toNat)
  case atStart => exact ⟨0, _, Nat.zero_le _, rfl, HTb0, HFI0, hb60⟩
  case round =>
    clear HTb0 HFI0 hb60
    obtain ⟨r, LL, hr, rfl, HTb, HI, hbw⟩ := hrel
    obtain ⟨⟨q0, q1, q2, q3, q4, q5, q6⟩, hbx⟩ := HX.out wr hbw
    simp only at q0 q1 q2 q3 q4 q5 q6
    by_cases hrN : r ≤ N
    · go_wp2
      clear q0 q1 q2 q3 q4 q5 q6 hbx
      go_loopw [9] (fun iv wr => ∃ (i : Nat) (LL : Nat → List Bool), i ≤ ps.length ∧ iv = .int .i64 i ∧ Hid (TabM wr D N (T + 1) bl LL) ∧ Hid (FwI N T ps s r i 0 LL) ∧ Below w5.heap.size w5 wr) (fun iv _ => ps.length - (intOf iv).toNat)
      case atStart => exact ⟨0, LL, Nat.zero_le _, rfl, HTb, HI, hbw⟩
      case round =>
        clear HTb HI hbw LL
        obtain ⟨i, LL, hi, rfl, HTb, HI, hbw⟩ := hrel
        obtain ⟨⟨q0, q1, q2, q3, q4, q5, q6⟩, hbx⟩ := HX.out wr hbw
        simp only at q0 q1 q2 q3 q4 q5 q6
        by_cases hlt : i < ps.length
        · obtain ⟨b, off, rv, rfl, hb0, hpd0⟩ := HP.out.at hlt
          have hb := Nat.lt_of_lt_of_le hb0 hbx.size
          have hpd := hpd0.below hb0 hbx
          have hrr0 := hpd0.right.below hb50
          clear hpd0 hb0
          obtain ⟨hPk, hSy⟩ := hG.mem (p := ps.getD i noPd) (by simp [List.getD, hlt])
          obtain ⟨lf, hlf⟩ : ∃ lf : Nat, (ps.getD i noPd).left = (lf : Int) := ⟨(ps.getD i noPd).left.toNat, by have := hPk.1; omega⟩
          have hlN : lf < N := by have := hPk.2.1; omega
          have HIU := HFU.out i hlt
          have HCF : Hid (∀ (k n : Nat) (LL : Nat → List Bool) (W : World), k < (ps.getD i noPd).right.length → -1 - (ps.getD i noPd).right.getD k 0 = (n : Int) → n < N → Below w5.heap.size w5 W → TabM W D N (T + 1) bl LL → _) := fun k n LL W h1 h2 h3 h4 h5 => hCF.out k n lf i LL bl D c W rv hlt h1 h2 h3 hlf hlN hrr0 h4 h5 hD HBL.out
          have HNM : Hid (∀ (k n : Nat) (LL LL' : Nat → List Bool), FwI N T ps s r i k LL → k < (ps.getD i noPd).right.length → usdP N ps s i → -1 - (ps.getD i noPd).right.getD k 0 = (n : Int) → n < N → FoP N T ps (ps.getD i noPd).right k n lf LL LL' → FwI N T ps s r i (k + 1) LL') := fun k n LL LL' h1 h2 h3 h4 h5 h6 => h1.name hG hlt h2 h3 hs h4 h5 hlf hlN h6
          have HNK : Hid (∀ (k : Nat) (LL : Nat → List Bool), FwI N T ps s r i k LL → ¬ (ps.getD i noPd).right.getD k 0 < 0 → FwI N T ps s r i (k + 1) LL) := fun k LL h1 h2 => h1.nextK h2
          have HNP : Hid (∀ (k : Nat) (LL : Nat → List Bool), FwI N T ps s r i k LL → (usdP N ps s i → (ps.getD i noPd).right.length ≤ k) → FwI N T ps s r (i + 1) 0 LL) := fun k LL h1 h2 => h1.nextP h2
          obtain ⟨c0, c1, c2, hrr⟩ := hpd
          rw [hlf] at c0 HCF
          generalize (ps.getD i noPd).level = plv at c2 HCF
          generalize (ps.getD i noPd).right = R at *
          obtain ⟨ra, rc, rfl⟩ := hrr.slice
          have HRI : Hid (∀ wx, Below w5.heap.size w5 wx → IntsR wx (.slice ra R.length rc) R) := fun wx hx => hrr0.below hx
          have HSY : Hid (SymsL N R) := hSy
          have hrl := hSy.1
          have hA := alloc_below wr (.cells #[.int .i64 (lf : Int), .slice ra R.length rc, .int .i64 plv] 34)
          have hAs := alloc_size wr (.cells #[.int .i64 (lf : Int), .slice ra R.length rc, .int .i64 plv] 34)
          have HBP0 : Hid (BoxP (wr.alloc (.cells #[.int .i64 (lf : Int), .slice ra R.length rc, .int .i64 plv] 34)) wr.heap.size (lf : Int) (.slice ra R.length rc) plv) := alloc_at _ _
          have HT7 : Hid (TabM (wr.alloc (.cells #[.int .i64 (lf : Int), .slice ra R.length rc, .int .i64 plv] 34)) D N (T + 1) bl LL) := HTb.out.below hA
          have hbw7 : Below w5.heap.size w5 (wr.alloc (.cells #[.int .i64 (lf : Int), .slice ra R.length rc, .int .i64 plv] 34)) := hbw.trans (hA.mono hbw.size)
          have HPB : Hid (∀ j, j < N → wr.heap.size ≠ bl j) := fun j hj => by have := HTb.out.bl_lt hj; omega
          obtain ⟨d0, d1, d2⟩ := box3_cells wr (.int .i64 (lf : Int)) (.slice ra R.length rc) (.int .i64 plv) 34
          clear hrr hSy hPk hA hlf hrr0 HTb hbw
          rename World => wo
          go_wp2
          clear q0 q1 q2 q3 q4 q5 q6 hbx c0 c1 c2 hb d0 d1 d2 hAs
          generalize wo.alloc (.cells #[.int .i64 (lf : Int), .slice ra R.length rc, .int .i64 plv] 34) = w8 at *
          generalize wo.heap.size = pb at *
          go_loopw [11] (fun kv wr => ∃ (k : Nat) (LL : Nat → List Bool), k ≤ R.length ∧ kv = .int .i64 k ∧ Hid (TabM wr D N (T + 1) bl LL) ∧ Hid (FwI N T ps s r i k LL) ∧ Hid (BoxP wr pb (lf : Int) (.slice ra R.length rc) plv) ∧ Below w5.heap.size w5 wr) (fun kv _ => R.length - (intOf kv).toNat)
          case atStart => exact ⟨0, LL, Nat.zero_le _, rfl, HT7, HI, HBP0, hbw7⟩
          case round =>
            clear HT7 HI HBP0 hbw7 LL
            obtain ⟨k, LL, hk, rfl, HTb, HI, HBP, hbw⟩ := hrel
            have e0 := HBP.out.c0
            have e1 := HBP.out.c1
            have e2 := HBP.out.c2
            have lpb := HBP.out.lt
            have cU := (HRU.out.below hbw).cell (j := i) (by rw [HUL.out]; exact hlt)
            have lU := (HRU.out.below hbw).lt
            by_cases hkl : k < R.length
            · cases hu : factB U i with
              | false =>
                rw [hu] at cU
                have HN : Hid (FwI N T ps s r (i + 1) 0 LL) := HNP.out k LL HI.out (fun h9 => by rw [HIU.2 h9] at hu; cases hu)
                clear HI hu
                go_wp2
                go_roundw
                case rel => exact ⟨i + 1, LL, by omega, by go_num, HTb, HN, hbw⟩
                case measure => simp [intOf]; omega
              | true =>
                rw [hu] at cU
                have husd := HIU.1 hu
                obtain ⟨b3, off3, hra, hb3, hc3⟩ := (HRI.out wr hbw).at hkl
                obtain ⟨hs1, hs2⟩ := HSY.out.2 k hkl
                by_cases hsn : R.getD k 0 < 0
                · obtain ⟨n, hn⟩ : ∃ n : Nat, -1 - R.getD k 0 = (n : Int) := ⟨(-1 - R.getD k 0).toNat, by omega⟩
                  have hnN : n < N := by omega
                  have hCa := HCF.out k n LL wr hkl hn hnN hbw HTb.out
                  have HNn : Hid (∀ LL', FoP N T ps R k n lf LL LL' → FwI N T ps s r i (k + 1) LL') := fun LL' ho => HNM.out k n LL LL' HI.out hkl husd hn hnN ho
                  obtain ⟨⟨q0, q1, q2, q3, q4, q5, q6⟩, _⟩ := HX.out wr hbw
                  simp only at q0 q1 q2 q3 q4 q5 q6
                  have HBPn : Hid (∀ w9, KeepT wr w9 wr.heap.size N bl → BoxP w9 pb (lf : Int) (.slice ra R.length rc) plv) := fun w9 hk9 => (hk9 pb lpb HPB.out).trans HBP.out
                  clear HI hs1 hs2 hn HTb hu husd HBP
                  generalize R.getD k 0 = sy at *
                  subst hra
                  go_wp2_with fail
                  refine hCa.mono ?_
                  rintro e w9 ⟨rfl, ⟨LL', ht9, hf9⟩, hk9, hb9⟩
                  have HT9 : Hid (TabM w9 D N (T + 1) bl LL') := ht9
                  have HI9 : Hid (FwI N T ps s r i (k + 1) LL') := HNn.out LL' hf9
                  have HB9 : Hid (BoxP w9 pb (lf : Int) (.slice (some ⟨b3, off3, none⟩) R.length rc) plv) := HBPn.out w9 hk9
                  clear hCa ht9 hf9 hk9 HBPn HNn q0 q1 q2 q3 q4 q5 q6
                  go_wp2
                  go_roundw
                  case rel => exact ⟨k + 1, LL', by omega, by go_num, HT9, HI9, HB9, hb9⟩
                  case measure => simp [intOf]; omega
                · have HN : Hid (FwI N T ps s r i (k + 1) LL) := HNK.out k LL HI.out (by omega)
                  clear HI hs1 hs2 hu husd
                  generalize R.getD k 0 = sy at *
                  subst hra
                  go_wp2
                  go_roundw
                  case rel => exact ⟨k + 1, LL, by omega, by go_num, HTb, HN, HBP, hbw⟩
                  case measure => simp [intOf]; omega
            · have HN : Hid (FwI N T ps s r (i + 1) 0 LL) := HNP.out k LL HI.out (fun _ => by omega)
              clear HI
              go_wp2
              go_roundw
              case rel => exact ⟨i + 1, LL, by omega, by go_num, HTb, HN, hbw⟩
              case measure => simp [intOf]; omega
        · obtain rfl : i = ps.length := by omega
          have HN : Hid (FwI N T ps s (r + 1) 0 0 LL) := HI.out.next
          clear HI
          go_wp2
          go_roundw
          case rel => exact ⟨r + 1, LL, by omega, by go_num, HTb, HN, hbw⟩
          case measure => simp [intOf]; omega
    · obtain rfl : r = N + 1 := by omega
      have HE : Hid (∀ x t, x < N → (factB (LL x) t = true ↔ flwP N T ps s x t)) := HI.out.final hG
      have hCn := rnum_any N (T + 1) D c bl LL hN3 (by omega) wr HTb.out
      have HLZ : Hid (∀ n, n < N → (LL n).length = T + 1) := HTb.out.len
      clear HI
      go_wp2_with fail
      refine hCn.mono ?_
      rintro e w9 ⟨v, rfl, hls, hb9⟩
      have hb90 := hbx.trans (hb9.mono hbx.size)
      have HLS : Hid (LssM w9 v (numL N (T + 1) LL)) := hls
      clear hCn hls hb9 q0 q1 q2 q3 q4 q5 q6
      go_wp2
      go_ret
      exact ⟨v, LL, rfl, HLS.out, HLZ.out, HE.out, hb90⟩

end Go.Proofs.YtkdoghaoijdedaaGreatDoor

namespace Go.Proofs.YtkdoghaoijdedaaGreatDoor
set_option linter.unusedVariables false

theorem has_all (e : Nat → Bool) (r : List Int) : hasB false e r = true ↔ ∀ j, j < r.length → r.getD j 0 < 0 ∧ e (-1 - r.getD j 0).toNat = true := by
  unfold hasB
  rw [List.all_eq_true]
  have eg : ∀ (l : List Int) (j : Nat) (h : j < l.length), l.getD j 0 = l[j] := fun l j h => by simp [List.getD, h]
  constructor
  · intro h j hj
    have h1 := h (r.getD j 0) (by rw [eg r j hj]; exact List.getElem_mem hj)
    by_cases h0 : r.getD j 0 < 0
    · rw [if_pos h0] at h1; exact ⟨h0, h1⟩
    · rw [if_neg h0] at h1; cases h1
  · intro h s hs
    obtain ⟨j, hj, rfl⟩ := List.mem_iff_getElem.1 hs
    have h1 := h j hj
    rw [eg r j hj] at h1
    rw [if_pos h1.1]; exact h1.2
/-- a place alone, as far as the others are looked at -/
def alnB (e : Nat → Bool) (r : List Int) (k j : Nat) : Bool := decide (r.getD k 0 < 0) && (List.range j).all fun i => decide (i = k) || (decide (r.getD i 0 < 0) && e (-1 - r.getD i 0).toNat)
theorem aln_start (e : Nat → Bool) (r : List Int) (k : Nat) : alnB e r k 0 = decide (r.getD k 0 < 0) := by simp [alnB]
theorem aln_own (e : Nat → Bool) (r : List Int) (k : Nat) : alnB e r k (k + 1) = alnB e r k k := by
  unfold alnB
  rw [List.range_succ, List.all_append]
  simp
theorem aln_step (e : Nat → Bool) (r : List Int) (k j : Nat) (h : j ≠ k) : alnB e r k (j + 1) = (alnB e r k j && (decide (r.getD j 0 < 0) && e (-1 - r.getD j 0).toNat)) := by
  unfold alnB
  rw [List.range_succ, List.all_append]
  simp [h, Bool.and_assoc]
theorem aln_end (e : Nat → Bool) (r : List Int) (k : Nat) (hk : k < r.length) : alnB e r k r.length = alkAt e r k := by
  rw [Bool.eq_iff_iff]
  unfold alnB alkAt
  rw [Bool.and_eq_true, Bool.and_eq_true, Bool.and_eq_true, List.all_eq_true, has_all, has_all]
  refine and_congr_right fun _ => ?_
  have ht : ∀ j, j < k → (r.take k).getD j 0 = r.getD j 0 := fun j hj => by simp [List.getD, hj]
  have hd : ∀ j, (r.drop (k + 1)).getD j 0 = r.getD (k + 1 + j) 0 := fun j => by simp [List.getD]
  constructor
  · intro h
    have key : ∀ j, j < r.length → j ≠ k → r.getD j 0 < 0 ∧ e (-1 - r.getD j 0).toNat = true := fun j hj hne => by
      have := h j (List.mem_range.2 hj)
      simpa [hne] using this
    refine ⟨fun j hj => ?_, fun j hj => ?_⟩
    · rw [List.length_take] at hj
      rw [ht j (by omega)]
      exact key j (by omega) (by omega)
    · rw [List.length_drop] at hj
      rw [hd]
      exact key _ (by omega) (by omega)
  · rintro ⟨h1, h2⟩ j hj
    have hj' := List.mem_range.1 hj
    by_cases e1 : j = k
    · simp [e1]
    · have : r.getD j 0 < 0 ∧ e (-1 - r.getD j 0).toNat = true := by
        by_cases e2 : j < k
        · have := h1 j (by rw [List.length_take]; omega)
          rw [ht j e2] at this; exact this
        · have := h2 (j - (k + 1)) (by rw [List.length_drop]; omega)
          rw [hd, show k + 1 + (j - (k + 1)) = j by omega] at this; exact this
      rw [Bool.or_eq_true, Bool.and_eq_true]
      exact .inr ⟨decide_eq_true this.1, this.2⟩
/-- the table while a production is gone through -/
def dkP (N : Nat) (ps : List PdR) (e : Nat → Bool) (i : Nat) (kp : Bool) (k : Nat) (LL : Nat → List Bool) : Prop := ∀ x y, x < N → (factB (LL x) y = true ↔ dlR N ps e i x y ∨ (kp = true ∧ PdAlk e (ps.getD i noPd) k x y))
theorem dkP_start {N : Nat} {ps : List PdR} {e : Nat → Bool} {i : Nat} {kp : Bool} {LL : Nat → List Bool} (h : ∀ x y, x < N → (factB (LL x) y = true ↔ dlR N ps e i x y)) : dkP N ps e i kp 0 LL := fun x y hx => by
  rw [h x y hx]
  constructor
  · exact .inl
  · rintro (h1 | ⟨_, _, j, hj, _⟩)
    · exact h1
    · omega
theorem dkP_fin {N : Nat} {ps : List PdR} {e : Nat → Bool} {i k : Nat} {kp : Bool} {LL : Nat → List Bool} (h : dkP N ps e i kp k LL) (hkp : keepP N ps (ps.getD i noPd) = kp) (hk : kp = true → k = (ps.getD i noPd).right.length) : ∀ x y, x < N → (factB (LL x) y = true ↔ dlR N ps e (i + 1) x y) := fun x y hx => by
  rw [h x y hx, dlR_succ, hkp]
  refine or_congr_right ?_
  constructor
  · rintro ⟨h1, h2⟩; rw [hk h1] at h2; exact ⟨h1, h2⟩
  · rintro ⟨h1, h2⟩; rw [← hk h1] at h2; exact ⟨h1, h2⟩
theorem dkP_no {N : Nat} {ps : List PdR} {e : Nat → Bool} {i k : Nat} {kp : Bool} {LL : Nat → List Bool} (h : dkP N ps e i kp k LL) (ha : alkAt e (ps.getD i noPd).right k = false) : dkP N ps e i kp (k + 1) LL := fun x y hx => by
  rw [h x y hx, PdAlk_no _ _ _ _ _ ha]
theorem dkP_yes {N : Nat} {ps : List PdR} {e : Nat → Bool} {i k lf q : Nat} {LL : Nat → List Bool} (h : dkP N ps e i true k LL) (hl : ∀ j, j < N → (LL j).length = N) (hlf : (ps.getD i noPd).left = (lf : Int)) (hlN : lf < N) (ha : alkAt e (ps.getD i noPd).right k = true) (hq : -1 - (ps.getD i noPd).right.getD k 0 = (q : Int)) (hqN : q < N) : dkP N ps e i true (k + 1) (setT LL lf q true) := fun x y hx => by
  rw [setT_fact (hl lf hlN) hqN, PdAlk_yes _ _ _ _ _ _ _ hlf ha hq]
  by_cases e1 : x = lf ∧ y = q
  · rw [if_pos e1]
    exact ⟨fun _ => .inr ⟨rfl, .inr e1⟩, fun _ => rfl⟩
  · rw [if_neg e1, h x y hx]
    constructor
    · rintro (h1 | ⟨h1, h2⟩)
      · exact .inl h1
      · exact .inr ⟨h1, .inl h2⟩
    · rintro (h1 | ⟨h1, h2 | h2⟩)
      · exact .inl h1
      · exact .inr ⟨h1, h2⟩
      · exact absurd h2 e1
/-- the relation of 'loops' -/
def lpR (N : Nat) (ps : List PdR) (a b : Nat) : Prop := b < N ∧ alkB (hgtB false (prsS (wholeP N ps)) N) (wholeP N ps) a b = true
theorem dl_loop {N : Nat} {ps : List PdR} (hG : GOkM N ps) {LL : Nat → List Bool} (h : ∀ x y, x < N → (factB (LL x) y = true ↔ dlR N ps (hgtB false (prsS ps) N) ps.length x y)) : WaI (lpR N ps) N 0 0 0 LL := WaI.start fun x y hx => by
  rw [h x y hx, dlR_whole]
  unfold lpR
  rw [empty_whole hG]
  exact ⟨fun h1 => ⟨alkB_lt hG.whole _ x y h1, h1⟩, fun h1 => h1.2⟩
theorem WaI.stepT {r : Nat → Nat → Prop} {N m a b : Nat} {LL : Nat → List Bool} (h : WaI r N m a b LL) (hl : ∀ j, j < N → (LL j).length = N) (hm : m < N) (ha : a < N) (hb : b < N) : WaI r N m a (b + 1) (setT LL a b (factB (LL a) b || (factB (LL a) m && factB (LL m) b))) := h.step hm ha hb fun x y hx => by
  rw [setT_fact (hl a ha) hb]
  by_cases e : x = a ∧ y = b
  · rw [if_pos e, if_pos e, Bool.or_eq_true, Bool.and_eq_true]
  · rw [if_neg e, if_neg e]
theorem WaI.loops {N : Nat} {ps : List PdR} {LL : Nat → List Bool} (h : WaI (lpR N ps) N N 0 0 LL) : ∀ n, n < N → (factB (LL n) n = true ↔ loopP N ps n) := h.final fun a b hab => hab.1

end Go.Proofs.YtkdoghaoijdedaaGreatDoor
