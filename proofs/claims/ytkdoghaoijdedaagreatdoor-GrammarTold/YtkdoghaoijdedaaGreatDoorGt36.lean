/- Texts of the proof, put together: GBhW. -/
import Derived.Test.YtkdoghaoijdedaaGreatDoorGt35
import Derived.Deep.DeepCutAuto
namespace Go.Proofs.YtkdoghaoijdedaaGreatDoor
open Go.RowKit
set_option linter.unusedVariables false
set_option maxRecDepth 100000

/-- behind the first statement -/
structure BhF (w0 wx : World) (N : Nat) (ps : List PdR) (s : Int) (UB OD : Nat) (U : List Bool) (L : List Nat) (vs : List Value) : Prop where
  ur : RowB wx UB U
  ul : U.length = ps.length
  uf : ∀ i, i < ps.length → (factB U i = true ↔ usdP N ps s i)
  po : PoO wx OD (factM L) (hgtB false (prsS ps) N) ps vs ps.length
  vl : vs.length = ps.length
  fs : FsOk N ps L
  bl : Below w0.heap.size w0 wx
/-- behind the second -/
structure MkF (wc wx : World) (N NB D : Nat) : Prop where
  row : RowM wx NB (List.replicate N 0)
  lnk : LinksM wx D N (fun n => D + 1 + n) (fun _ => 0) (fun _ _ => False)
  ne : NB ≠ D
  nm : ∀ n, n < N → D + 1 + n ≠ NB
  lo : wc.heap.size ≤ NB
  ld : wc.heap.size ≤ D
  bl : Below wc.heap.size wc wx
theorem rowM_new (w : World) (N : Nat) : RowM (w.alloc (.cells (zerosL (N * 5)).toArray 64)) w.heap.size (List.replicate N 0) := by
  unfold RowM
  rw [zeros_mks]
  exact alloc_at _ _
theorem MkF.first {wc w5 : World} {N : Nat} {vs : List Value} (h : NewM w5 (wc.heap.size + 1) N N vs) (hb : Below (wc.alloc (.cells (zerosL (N * 5)).toArray 64)).heap.size (wc.alloc (.cells (zerosL (N * 5)).toArray 64)) w5) : MkF wc w5 N wc.heap.size (wc.heap.size + 1) := by
  have hs : (wc.alloc (.cells (zerosL (N * 5)).toArray 64)).heap.size = wc.heap.size + 1 := alloc_size _ _
  have hr := rowM_new wc N
  have hA := alloc_below wc (.cells (zerosL (N * 5)).toArray 64)
  exact ⟨hr.below hb, LinksM.new h, by omega, fun n _ => by omega, Nat.le_refl _, Nat.le_succ _, hA.trans (hb.mono (by omega))⟩
theorem MkF.second {wc w5 : World} {N d : Nat} {vs : List Value} (h : NewM w5 wc.heap.size N N vs) (hb : Below (wc.drewN d).heap.size (wc.drewN d) w5) : MkF wc (w5.alloc (.cells (zerosL (N * 5)).toArray 64)) N w5.heap.size wc.heap.size := by
  have hA := alloc_below w5 (.cells (zerosL (N * 5)).toArray 64)
  have h0 : Below wc.heap.size wc w5 := ⟨hb.os, hb.tape, hb.output, hb.size, hb.block⟩
  have hsz := h.size
  exact ⟨rowM_new w5 N, (LinksM.new h).below hA, by omega, fun n _ => by omega, h0.size, Nat.le_refl _, h0.trans (hA.mono h0.size)⟩
/-- in the loops -/
structure BhM (wb wr : World) (N NB D : Nat) (mp cnt : Nat → Nat) (r : Nat → Nat → Prop) (nx : List Nat) : Prop where
  row : RowM wr NB nx
  lnk : LinksM wr D N mp cnt r
  ne : NB ≠ D
  nm : ∀ n, n < N → mp n ≠ NB
  lo : wb.heap.size ≤ NB
  ld : wb.heap.size ≤ D
  lm : ∀ n, n < N → wb.heap.size ≤ mp n
  bl : Below wb.heap.size wb wr
theorem BhM.below {wb wr w' : World} {N NB D : Nat} {mp cnt : Nat → Nat} {r : Nat → Nat → Prop} {nx : List Nat} (h : BhM wb wr N NB D mp cnt r nx) (hb : Below wr.heap.size wr w') : BhM wb w' N NB D mp cnt r nx := ⟨h.row.below hb, h.lnk.below hb, h.ne, h.nm, h.lo, h.ld, h.lm, h.bl.trans (hb.mono h.bl.size)⟩
theorem BhM.iff {wb wr : World} {N NB D : Nat} {mp cnt : Nat → Nat} {r r' : Nat → Nat → Prop} {nx : List Nat} (h : BhM wb wr N NB D mp cnt r nx) (hr : ∀ n k, r n k ↔ r' n k) : BhM wb wr N NB D mp cnt r' nx := ⟨h.row, h.lnk.iff hr, h.ne, h.nm, h.lo, h.ld, h.lm, h.bl⟩
theorem BhM.fill {wb wr : World} {N NB D : Nat} {mp cnt : Nat → Nat} {r : Nat → Nat → Prop} {nx : List Nat} (h : BhM wb wr N NB D mp cnt r nx) {j : Nat} (hj : j < nx.length) (m : Nat) : BhM wb (fillO wr NB (j * 5) m) N NB D mp cnt r (nx.set j m) :=
  ⟨h.row.fill hj m, h.lnk.grown (fillO_grown wr NB (j * 5) m) h.ne h.nm, h.ne, h.nm, h.lo, h.ld, h.lm, fillO_below h.bl h.lo _ _⟩
theorem BhM.add {wb wr w' : World} {N NB D : Nat} {mp cnt cnt' : Nat → Nat} {r r' : Nat → Nat → Prop} {nx : List Nat} (h : BhM wb wr N NB D mp cnt r nx) {f : Nat} (hf : f < N) (hg : wr.grownBy w' (some (mp f))) (hl : LinksM w' D N mp cnt' r') : BhM wb w' N NB D mp cnt' r' nx :=
  ⟨h.row.grown hg (fun e => h.nm f hf (Option.some.inj e)), hl, h.ne, h.nm, h.lo, h.ld, h.lm, h.bl.trans (grown_below hg (h.lm f hf) h.bl.size)⟩

set_option maxHeartbeats 16000000 in
theorem behind_any (T s N : Nat) (ps : List PdR) (ls ss : List Int) (pv lv sv : Value) (w : World) (hN1 : 1 ≤ N) (hN8 : N ≤ 8) (hT8 : T ≤ 8) (hs : s < N) (hTr : TrmP T ps) (hG : GOkM N ps) (h : PdsM w pv ps) (hlv : ∃ a n c, lv = .slice a n c) (hsv : ∃ a n c, sv = .slice a n c) :
    Calls Tryz.prog 60 #[gv ⟨T, N, s, ps, ls, ss⟩ pv lv sv] w fun e w' => ∃ NB nx D mp cnt, e = .returned (.tuple #[.slice (some ⟨NB, 0, none⟩) N N, .slice (some ⟨D, 0, none⟩) N N]) ∧ RowM w' NB nx ∧ BhI N T ps s ps.length 0 nx ∧ LinksM w' D N mp cnt (bhR N ps s ps.length 0) ∧ (∀ n, cnt n ≤ 8000) ∧ Below w.heap.size w w' := by
  have hB0 := boxG_below w ⟨T, N, s, ps, ls, ss⟩ pv lv sv
  have hB1 := boxG_size w ⟨T, N, s, ps, ls, ss⟩ pv lv sv
  have hB2 := boxG_box w ⟨T, N, s, ps, ls, ss⟩ pv lv sv
  have HUS : Hid (∀ w', Below w.heap.size w w' → _) := fun w' (hb : Below w.heap.size w w') => usedProds_any T s N ps ls ss pv lv sv w' hG (h.below hb) hlv hsv
  have HPO : Hid (∀ w', Below w.heap.size w w' → _) := fun w' (hb : Below w.heap.size w w') => prodOp_any T T s N ps ls ss pv lv sv w' hN1 hN8 hT8 hTr hG (h.below hb)
  have HHT : Hid (∀ w', Below w.heap.size w w' → _) := fun w' (hb : Below w.heap.size w w') => haveTrees_any true T s N ps ls ss pv lv sv w' hG (h.below hb)
  obtain ⟨pa, pc, rfl⟩ := h.slice
  obtain ⟨la, ln, lc, rfl⟩ := hlv
  obtain ⟨sa, sn, sc, rfl⟩ := hsv
  have HP : Hid (PdsM w (.slice pa ps.length pc) ps) := h
  have HBX : Hid (∀ w', Below (boxG w ⟨T, N, s, ps, ls, ss⟩ (.slice pa ps.length pc) (.slice la ln lc) (.slice sa sn sc)).heap.size (boxG w ⟨T, N, s, ps, ls, ss⟩ (.slice pa ps.length pc) (.slice la ln lc) (.slice sa sn sc)) w' → BoxG w' w.heap.size ⟨T, N, s, ps, ls, ss⟩ (.slice pa ps.length pc) (.slice la ln lc) (.slice sa sn sc)) := fun w' hb => hB2.below (by omega) hb
  have hpl := hG.len
  clear h
  unfold gv gvs at HUS HPO HHT
  unfold boxG gvs at hB0 hB1 hB2 HBX
  unfold gv gvs
  simp only at *
  obtain ⟨q0, q1, q2, q3, q4, q5, q6⟩ := hB2
  simp only at q0 q1 q2 q3 q4 q5 q6
  go_enter Tryz.func60, Tryz.ntmps60
  go_upto_region 1 with fail
  generalize w.alloc (.cells #[.int .i64 T, .int .i64 N, .int .i64 s, .slice pa ps.length pc, .slice la ln lc, .slice sa sn sc] 25) = w0 at *
  have HD : Hid (∀ m w5, Below (w0.drewN m).heap.size (w0.drewN m) w5 → Below w0.heap.size w0 w5) := fun m w5 hb => ⟨hb.os, hb.tape, hb.output, hb.size, hb.block⟩
  have HW : Hid (∀ w5, Below w0.heap.size w0 w5 → Below w.heap.size w w5) := fun w5 hb => hB0.trans (hb.mono (by omega))
  go_cut [4, 5] from 15 (fun s4 s5 wx => ∃ UB OD U L vs, s4 = .slice (some ⟨UB, 0, none⟩) ps.length ps.length ∧ s5 = .slice (some ⟨OD, 0, none⟩) ps.length ps.length ∧ Hid (BhF w0 wx N ps s UB OD U L vs))
  case first =>
    go_region_with (first
      | (go_at_call 25; refine (HUS.out _ (below_drewG hB0 _)).mono ?_; rintro e w5 ⟨B1, L1, rfl, r1, l1, f1, hb5⟩; have hb6 := HD.out _ _ hb5; have q := HBX.out w5 hb6; obtain ⟨q0, q1, q2, q3, q4, q5, q6⟩ := q; clear hb5)
      | (go_at_call 79; refine (HPO.out _ (HW.out _ hb6)).mono ?_; rintro e w7 ⟨D2, L2, vs2, rfl, po2, vl2, fs2, hb7⟩))
    all_goals
      have hb9 : Below w0.heap.size w0 w7 := hb6.trans (hb7.mono hb6.size)
      have HPF : Hid (BhF w0 w7 N ps s B1 D2 L1 L2 vs2) := ⟨r1.below hb7, l1, f1, po2, vl2, fs2, hb9⟩
      clear q0 q1 q2 q3 q4 q5 q6 r1 l1 f1 po2 vl2 fs2 hb6 hb7 hb9
      try go_simp
      try go_wp2_with fail
      go_meet
      case rel => exact ⟨_, _, _, _, _, rfl, rfl, HPF⟩
  case rest =>
    clear q0 q1 q2 q3 q4 q5 q6 HUS HPO HD
    obtain ⟨UB, OD, U, L, vs, rfl, rfl, HPF⟩ := hcut
    rename World => wb
    have hb9 := HPF.out.bl
    have HX : Hid (∀ W, Below wb.heap.size wb W → BoxG W w.heap.size ⟨T, N, s, ps, ls, ss⟩ (.slice pa ps.length pc) (.slice la ln lc) (.slice sa sn sc) ∧ Below w.heap.size w W) := fun W hb => ⟨HBX.out W (hb9.trans (hb.mono hb9.size)), HW.out _ (hb9.trans (hb.mono hb9.size))⟩
    obtain ⟨⟨q0, q1, q2, q3, q4, q5, q6⟩, _⟩ := HX.out wb (Below.refl _ _)
    simp only at q0 q1 q2 q3 q4 q5 q6
    have hmkM : ∀ W : World, (Instr.makeSlice 37 (.int .i64 N) (.int .i64 N)).run Tryz.prog W = .ok (.slice (some ⟨W.heap.size, 0, none⟩) N N) (W.alloc (.cells (zerosL (N * 5)).toArray 64)) := fun W => makeMsets N (by omega) W
    have HNL : Hid (∀ W : World, Calls Tryz.prog 71 #[.int .i64 N] W fun e w' => e = .returned (.slice (some ⟨W.heap.size, 0, none⟩) N N) ∧ (∃ vs, NewM w' W.heap.size N N vs) ∧ Below W.heap.size W w') := fun W => newLinks_any N (by omega) W
    go_upto_region 2 with fail
    go_cut [6, 7] from 15 (fun s6 s7 wx => ∃ NB D, s6 = .slice (some ⟨NB, 0, none⟩) N N ∧ s7 = .slice (some ⟨D, 0, none⟩) N N ∧ Hid (MkF wb wx N NB D))
    case first =>
      have HY : Hid (∀ d w5, Below (wb.drewN d).heap.size (wb.drewN d) w5 → Below wb.heap.size wb w5) := fun m w5 hb => ⟨hb.os, hb.tape, hb.output, hb.size, hb.block⟩
      have HZ : Hid (∀ d w5, Below ((wb.drewN d).alloc (.cells (zerosL (N * 5)).toArray 64)).heap.size ((wb.drewN d).alloc (.cells (zerosL (N * 5)).toArray 64)) w5 → Below wb.heap.size wb w5) := fun d w5 hb => by
        have hA := alloc_below (wb.drewN d) (.cells (zerosL (N * 5)).toArray 64)
        have h0 : Below wb.heap.size wb (wb.drewN d) := below_drewG (Below.refl _ _) d
        have h1 := h0.trans hA
        exact h1.trans (hb.mono h1.size)
      go_region_with (go_at_call 71; refine (HNL.out _).mono ?_; rintro e w5 ⟨rfl, ⟨vs5, hnew⟩, hb5⟩; have hb6 : Below wb.heap.size wb w5 := (by first | exact HY.out _ _ hb5 | exact HZ.out _ _ hb5); have q := (HX.out w5 hb6).1; obtain ⟨q0, q1, q2, q3, q4, q5, q6⟩ := q)
      all_goals
        try go_simp
        try go_wp2_with fail
        go_meet
        case rel => first | exact ⟨_, _, rfl, rfl, MkF.first (by have e : (wb.alloc (.cells (zerosL (N * 5)).toArray 64)).drew.heap.size = wb.heap.size + 1 := alloc_size _ _; rw [e] at hnew; exact hnew) ⟨hb5.os, hb5.tape, hb5.output, hb5.size, hb5.block⟩⟩ | exact ⟨_, _, rfl, rfl, MkF.second hnew hb5⟩
    case rest =>
      clear q0 q1 q2 q3 q4 q5 q6 hmkM HNL
      obtain ⟨NB, D, rfl, rfl, HMK⟩ := hcut
      have hbm := HMK.out.bl
      obtain ⟨⟨q0, q1, q2, q3, q4, q5, q6⟩, hbmx⟩ := HX.out wc hbm
      simp only at q0 q1 q2 q3 q4 q5 q6
      have HY : Hid (∀ d w5, Below (wc.drewN d).heap.size (wc.drewN d) w5 → Below wc.heap.size wc w5) := fun m w5 hb => ⟨hb.os, hb.tape, hb.output, hb.size, hb.block⟩
      have HM0 : Hid (BhM wb wc N NB D (fun n => D + 1 + n) (fun _ => 0) (bhR N ps s 0 0) (List.replicate N 0)) := ⟨HMK.out.row, HMK.out.lnk.iff (fun n k => ⟨fun e => e.elim, fun e => bhR_start n k e⟩), HMK.out.ne, HMK.out.nm, HMK.out.lo, HMK.out.ld, fun n _ => by have := HMK.out.ld; show wb.heap.size ≤ D + 1 + n; omega, HMK.out.bl⟩
      clear HMK
      go_upto_region 3 with fail
      go_cut [30] from 15 (fun s30 wx => s30 = .bool (hgtB true (prsS ps) N s) ∧ Hid (Below wc.heap.size wc wx))
      case first =>
        have hb20 : Below w.heap.size w wc := hbmx
        go_region_with (go_at_call 24; refine (HHT.out _ (below_drewG hb20 _)).mono ?_; rintro e w5 ⟨B1, L1, rfl, r1, l1, f1, _, hb5⟩; have hb6 := HY.out _ _ hb5; have q := (HX.out w5 (hbm.trans (hb6.mono hbm.size))).1; obtain ⟨q0, q1, q2, q3, q4, q5, q6⟩ := q; have cs := r1.cell (j := s) (by rw [l1]; exact hs); have ls1 := r1.lt; rw [f1 s] at cs)
        all_goals
          try go_simp
          try go_wp2_with fail
          go_meet
          case rel => exact ⟨rfl, hb6⟩
      case rest =>
        clear q0 q1 q2 q3 q4 q5 q6 HHT HY
        obtain ⟨rfl, HB3⟩ := hcut
        rename World => w3
        have HM1 : Hid _ := HM0.out.below HB3.out
        clear HM0 HB3 hbm hbmx
        go_upto_if 30 with fail
        go_cut [6] from 15 (fun s6 wx => s6 = .slice (some ⟨NB, 0, none⟩) N N ∧ Hid (BhM wb wx N NB D (fun n => D + 1 + n) (fun _ => 0) (bhR N ps s 0 0) (if hgtB true (prsS ps) N s then (List.replicate N 0).set s (2 ^ T) else List.replicate N 0)))
        case first =>
          cases hl : hgtB true (prsS ps) N s with
          | false =>
            go_wp2_with fail
            go_meet
            case rel => exact ⟨rfl, by rw [if_neg (by rw [hl]; simp)]; exact HM1⟩
          | true =>
            obtain ⟨⟨q0, q1, q2, q3, q4, q5, q6⟩, _⟩ := HX.out w3 HM1.out.bl
            simp only at q0 q1 q2 q3 q4 q5 q6
            have HY : Hid (∀ d w5, Below (w3.drewN d).heap.size (w3.drewN d) w5 → Below w3.heap.size w3 w5) := fun m w5 hb => ⟨hb.os, hb.tape, hb.output, hb.size, hb.block⟩
            have HMO : Hid (∀ wx, Calls Tryz.prog 80 #[.int .i64 T] wx fun e w' => e = .returned (.agg #[.int .u64 ((2 ^ T : Nat) : Int), .int .u64 0, .int .u64 0, .int .u64 0, .int .u64 0]) ∧ Below wx.heap.size wx w') := fun wx => mof_any T hT8 wx
            have HFF : Hid (∀ w5, Below w3.heap.size w3 w5 → BhM wb w5 N NB D (fun n => D + 1 + n) (fun _ => 0) (bhR N ps s 0 0) (List.replicate N 0)) := fun w5 h5 => HM1.out.below h5
            have HFN : Hid (∀ w5 m, BhM wb w5 N NB D (fun n => D + 1 + n) (fun _ => 0) (bhR N ps s 0 0) (List.replicate N 0) → BhM wb (fillO w5 NB (s * 5) m) N NB D (fun n => D + 1 + n) (fun _ => 0) (bhR N ps s 0 0) ((List.replicate N 0).set s m)) := fun w5 m h5 => h5.fill (by simpa using hs) m
            have HL : Hid (hgtB true (prsS ps) N s = true) := hl
            clear hl
            generalize 2 ^ T = tt at *
            go_wp2_with fail
            go_region_with (go_at_call 80; refine (HMO.out _).mono ?_; rintro e w5 ⟨rfl, hb5⟩; have hb6 := HY.out _ _ hb5; have kk := HFF.out w5 hb6; have q := (HX.out w5 kk.bl).1; obtain ⟨q0, q1, q2, q3, q4, q5, q6⟩ := q; have kr := kk.row; have hj : s < (List.replicate N 0).length := (by simpa using hs); have z0 := kr.c0 hj; have z1 := kr.ck hj (k := 1) (by omega) (by omega); have z2 := kr.ck hj (k := 2) (by omega) (by omega); have z3 := kr.ck hj (k := 3) (by omega) (by omega); have z4 := kr.ck hj (k := 4) (by omega) (by omega); have g0 := kr.fz (s * 5); have g1 := kr.fz (s * 5 + 1); have g2 := kr.fz (s * 5 + 2); have g3 := kr.fz (s * 5 + 3); have g4 := kr.fz (s * 5 + 4); have lz := kr.lt; have KK : Hid _ := kk; clear hb5 kk kr hj)
            all_goals
              have HXf : Hid (((((w5.setCell ⟨NB, s * 5, none⟩ (.int .u64 (tt : Int))).setCell ⟨NB, s * 5 + 1, none⟩ (.int .u64 0)).setCell ⟨NB, s * 5 + 2, none⟩ (.int .u64 0)).setCell ⟨NB, s * 5 + 3, none⟩ (.int .u64 0)).setCell ⟨NB, s * 5 + 4, none⟩ (.int .u64 0) = fillO w5 NB (s * 5) tt) := by show _ = _; unfold fillO; rfl
              rw [HXf.out]
              have HMn : Hid _ := HFN.out w5 tt KK.out
              clear HXf KK HFN HFF HMO HY z0 z1 z2 z3 z4 g0 g1 g2 g3 g4 lz q0 q1 q2 q3 q4 q5 q6
              generalize fillO w5 NB (s * 5) tt = w9 at *
              try go_simp
              try go_wp2_with fail
              go_meet
              case rel => exact ⟨rfl, by rw [if_pos HL.out]; exact HMn⟩
        case rest =>
          obtain ⟨rfl, HM2⟩ := hcut
          clear HM1
          have HI0 : Hid (BhI N T ps s 0 0 (if hgtB true (prsS ps) N s then (List.replicate N 0).set s (2 ^ T) else List.replicate N 0)) := BhI.start hs hT8
          generalize (if hgtB true (prsS ps) N s then (List.replicate N 0).set s (2 ^ T) else List.replicate N 0) = nx0 at *
          have HMi : Hid (∀ n k, (fun _ : Nat => (0 : Nat)) n ≤ k) := fun n k => Nat.zero_le _
          obtain ⟨⟨q0, q1, q2, q3, q4, q5, q6⟩, _⟩ := HX.out wc HM2.out.bl
          simp only at q0 q1 q2 q3 q4 q5 q6
          have HFU : Hid (∀ i, i < ps.length → (factB U i = true ↔ usdP N ps s i)) := HPF.out.uf
          have HUL : Hid (U.length = ps.length) := HPF.out.ul
          have HRU : Hid (RowB wb UB U) := HPF.out.ur
          have HPO : Hid (PoO wb OD (factM L) (hgtB false (prsS ps) N) ps vs ps.length) := HPF.out.po
          have HVL : Hid (vs.length = ps.length) := HPF.out.vl
          have HFS : Hid (FsOk N ps L) := HPF.out.fs
          have hbW : Below w.heap.size w wb := HW.out _ hb9
          clear HPF hb9 HW HBX HMi
          go_wp2
          clear q0 q1 q2 q3 q4 q5 q6
          go_loopw [41] (fun iv wr => ∃ (q : Nat) (cnt : Nat → Nat) (nx : List Nat), q ≤ ps.length ∧ iv = .int .i64 q ∧ Hid (BhM wb wr N NB D (fun n => D + 1 + n) cnt (bhR N ps s q 0) nx) ∧ Hid (∀ n, cnt n ≤ q * 20) ∧ Hid (BhI N T ps s q 0 nx)) (fun iv _ => ps.length - (intOf iv).toNat)
          case atStart => exact ⟨0, _, nx0, Nat.zero_le _, rfl, HM2, (fun n => Nat.zero_le _), HI0⟩
          case round =>
            clear HM2 HI0
            obtain ⟨q, cnt, nx, hq, rfl, HM, HC, HI⟩ := hrel
            have hbw := HM.out.bl
            by_cases hlt : q < ps.length
            · have hbx := (HX.out wr hbw).2
              obtain ⟨b, off, rv, rfl, hb0, hpd0⟩ := HP.out.at hlt
              have hb := Nat.lt_of_lt_of_le hb0 hbx.size
              have hpd := hpd0.below hb0 hbx
              have hrr0 := hpd0.right.below hbW
              clear hpd0 hb0
              have hm : ps.getD q noPd ∈ ps := by simp [List.getD, hlt]
              obtain ⟨hPk, hSy⟩ := hG.mem hm
              obtain ⟨lf, hlf⟩ : ∃ lf : Nat, (ps.getD q noPd).left = (lf : Int) := ⟨(ps.getD q noPd).left.toNat, by have := hPk.1; omega⟩
              have hlN : lf < N := by have := hPk.2.1; omega
              have HIU := HFU.out q hlt
              have cU := (HRU.out.below hbw).cell (j := q) (by rw [HUL.out]; exact hlt)
              have lU := (HRU.out.below hbw).lt
              obtain ⟨R, hR⟩ : ∃ R, (ps.getD q noPd).right = R := ⟨_, rfl⟩
              obtain ⟨c0, c1, c2, hrr⟩ := hpd
              rw [hlf] at c0
              generalize (ps.getD q noPd).level = plv at c2
              rw [hR] at hrr hrr0 hSy
              obtain ⟨ra, rc, rfl⟩ := hrr.slice
              have hA := alloc_below wr (.cells #[.int .i64 (lf : Int), .slice ra R.length rc, .int .i64 plv] 34)
              have hAs := alloc_size wr (.cells #[.int .i64 (lf : Int), .slice ra R.length rc, .int .i64 plv] 34)
              obtain ⟨d0, d1, d2⟩ := box3_cells wr (.int .i64 (lf : Int)) (.slice ra R.length rc) (.int .i64 plv) 34
              have cU2 := (HRU.out.below (hbw.trans (hA.mono hbw.size))).cell (j := q) (by rw [HUL.out]; exact hlt)
              have HM7 : Hid (BhM wb (wr.alloc (.cells #[.int .i64 (lf : Int), .slice ra R.length rc, .int .i64 plv] 34)) N NB D (fun n => D + 1 + n) cnt (bhR N ps s q 0) nx) := HM.out.below hA
              cases hu : factB U q with
              | false =>
                rw [hu] at cU cU2
                have hnu : ¬ usdP N ps s q := fun h9 => by rw [HIU.2 h9] at hu; cases hu
                have HMn : Hid (BhM wb (wr.alloc (.cells #[.int .i64 (lf : Int), .slice ra R.length rc, .int .i64 plv] 34)) N NB D (fun n => D + 1 + n) cnt (bhR N ps s (q + 1) 0) nx) := HM7.out.iff (bhR_next (fun h9 => absurd h9 hnu))
                have HIn : Hid (BhI N T ps s (q + 1) 0 nx) := HI.out.next (fun h9 => absurd h9 hnu)
                have HCn : Hid (∀ n, cnt n ≤ (q + 1) * 20) := fun n => by have := HC.out n; show _ ≤ _; omega
                clear HM HM7 HI HC hnu hu hrr hrr0 hSy hPk HIU
                go_wp2
                go_roundw
                case rel => exact ⟨q + 1, cnt, nx, by omega, by go_num, HMn, HCn, HIn⟩
                case measure => simp [intOf]; omega
              | true =>
                rw [hu] at cU cU2
                have husd := HIU.1 hu
                have hkp : keepP N ps (ps.getD q noPd) = true := husd.1
                have HBN : Hid (∀ k t, (opnS (factM L) (hgtB false (prsS ps) N) (R.drop (k + 1))).1.testBit t = true ↔ bhP N ps R k t) := fun k t => by rw [← hR]; exact opn_bh hG HFS.out hm hkp k t
                have HBL : Hid (∀ k, (opnS (factM L) (hgtB false (prsS ps) N) (R.drop (k + 1))).1 < 512) := fun k => opn_lt HFS.out.lt _ fun x hx => by
                  rw [← hR] at hx
                  obtain ⟨j, hj, rfl⟩ := List.mem_iff_getElem.1 (List.mem_of_mem_drop hx)
                  have := hTr q hlt j hj
                  have e : ∀ (l : List Int) (j : Nat) (h : j < l.length), l.getD j 0 = l[j] := fun l j h => by simp [List.getD, h]
                  rw [e _ j hj] at this
                  omega
                have HOE : Hid (∀ k, (opnS (factM L) (hgtB false (prsS ps) N) (R.drop (k + 1))).2 = hasB false (hgtB false (prsS ps) N) (R.drop (k + 1))) := fun k => opn_emp _ _ _
                have HST : Hid (∀ k nx, BhI N T ps s q k nx → ¬ R.getD k 0 < 0 → BhI N T ps s q (k + 1) nx ∧ ∀ n m, bhR N ps s q k n m ↔ bhR N ps s q (k + 1) n m) := fun k nx h1 h2 => ⟨h1.term (by rw [hR]; exact h2), bhR_term (by rw [hR]; exact h2)⟩
                have HSN : Hid (∀ (k m a : Nat) (nx : List Nat), BhI N T ps s q k nx → -1 - R.getD k 0 = (m : Int) → m < N → a < 512 → (∀ t, a.testBit t = true ↔ bhP N ps R k t) → BhI N T ps s q (k + 1) (nx.set m (factM nx m ||| a))) := fun k m a nx h1 h2 h3 h4 h5 => h1.name husd (by rw [hR]; exact h2) h3 h4 (by rw [hR]; exact h5)
                have HRN : Hid (∀ k, hasB false (hgtB false (prsS ps) N) (R.drop (k + 1)) = false → ∀ n m, bhR N ps s q k n m ↔ bhR N ps s q (k + 1) n m) := fun k h1 => bhR_no (by rw [hR]; exact h1)
                have HRY : Hid (∀ (k x : Nat), -1 - R.getD k 0 = (x : Int) → hasB false (hgtB false (prsS ps) N) (R.drop (k + 1)) = true → ∀ n m, addR (bhR N ps s q k) x lf n m ↔ bhR N ps s q (k + 1) n m) := fun k x h1 h2 => bhR_yes husd hlf (by rw [hR]; exact h1) (by rw [hR]; exact h2)
                have HNX : Hid (∀ (k : Nat) (cnt : Nat → Nat) (nx : List Nat) (W : World), k = R.length → BhM wb W N NB D (fun n => D + 1 + n) cnt (bhR N ps s q k) nx → BhI N T ps s q k nx → BhM wb W N NB D (fun n => D + 1 + n) cnt (bhR N ps s (q + 1) 0) nx ∧ BhI N T ps s (q + 1) 0 nx) := fun k cnt nx W h1 h2 h3 => ⟨h2.iff (bhR_next (fun _ => by rw [hR]; exact h1)), h3.next (fun _ => by rw [hR]; exact h1)⟩
                have HOP : Hid (OpR wb OD (factM L) (hgtB false (prsS ps) N) R (vs.getD q (.slice none 0 0))) := by
                  have := HPO.out.done q hlt
                  rw [hR] at this
                  exact this
                have HRI : Hid (IntsR wb (.slice ra R.length rc) R) := hrr0
                have HSY : Hid (SymsL N R) := hSy
                have hrl := hSy.1
                have HBP0 : Hid (BoxP (wr.alloc (.cells #[.int .i64 (lf : Int), .slice ra R.length rc, .int .i64 plv] 34)) wr.heap.size (lf : Int) (.slice ra R.length rc) plv) := alloc_at _ _
                have HNB : Hid (wr.heap.size ≠ NB) := by have := HM.out.row.lt; show _ ≠ _; omega
                have HND : Hid (∀ n, n < N → wr.heap.size ≠ D + 1 + n) := fun n hn => by have := (HM.out.lnk.keys n hn).lt; show _ ≠ _; omega
                have HC0 : Hid (∀ n, cnt n ≤ q * 20 + 0) := HC.out
                clear HC HM hu hkp husd HIU hrr hrr0 hSy hPk hA hR hlf hm
                rename World => wo
                go_wp2
                clear c0 c1 c2 d0 d1 d2 hAs hb hbx cU cU2 lU
                generalize wo.alloc (.cells #[.int .i64 (lf : Int), .slice ra R.length rc, .int .i64 plv] 34) = w8 at *
                generalize wo.heap.size = pb at *
                go_loopw [54] (fun kv wr => ∃ (k : Nat) (cnt : Nat → Nat) (nx : List Nat), k ≤ R.length ∧ kv = .int .i64 k ∧ Hid (BhM wb wr N NB D (fun n => D + 1 + n) cnt (bhR N ps s q k) nx) ∧ Hid (∀ n, cnt n ≤ q * 20 + k) ∧ Hid (BhI N T ps s q k nx) ∧ Hid (BoxP wr pb (lf : Int) (.slice ra R.length rc) plv)) (fun kv _ => R.length - (intOf kv).toNat)
                case atStart => exact ⟨0, cnt, nx, Nat.zero_le _, rfl, HM7, HC0, HI, HBP0⟩
                case round =>
                  clear HM7 HC0 HI HBP0 cnt nx
                  obtain ⟨k, cnt, nx, hk, rfl, HM, HC, HI, HBP⟩ := hrel
                  have hbw := HM.out.bl
                  by_cases hkl : k < R.length
                  · obtain ⟨b3, off3, hra, hb3, hc3⟩ := (HRI.out.below hbw).at hkl
                    subst hra
                    obtain ⟨hs1, hs2⟩ := HSY.out.2 k hkl
                    have HC0k : Hid (∀ n, cnt n ≤ q * 20 + k) := HC.out
                    have HC1 : Hid (∀ n, cnt n ≤ q * 20 + (k + 1)) := fun n => by have := HC.out n; show _ ≤ _; omega
                    by_cases hsn : R.getD k 0 < 0
                    · obtain ⟨n, hn⟩ : ∃ n : Nat, -1 - R.getD k 0 = (n : Int) := ⟨(-1 - R.getD k 0).toNat, by omega⟩
                      have hnN : n < N := by omega
                      have hwq : IntKind.i64.wrap (-1 - R.getD k 0) = (n : Int) := by rw [wrap_g64 _ (by unfold I64 at hs2; omega) (by unfold I64 at hs2; omega), hn]
                      obtain ⟨ob, O, hov, _, hro, hOl, hOf⟩ := HOP.out.below hbw
                      have hOk := hOf (k + 1) (by omega)
                      have hkO : k + 1 < O.length := by omega
                      have cO := (HPO.out.below hbw).row.cell (j := q) (by rw [HVL.out]; exact hlt)
                      have lO := (HPO.out.below hbw).row.lt
                      rw [hov] at cO
                      have o0 := hro.c0 hkO
                      have o1 := hro.ck hkO (k := 1) (by omega) (by omega)
                      have o2 := hro.ck hkO (k := 2) (by omega) (by omega)
                      have o3 := hro.ck hkO (k := 3) (by omega) (by omega)
                      have o4 := hro.ck hkO (k := 4) (by omega) (by omega)
                      have o5 := hro.c5 hkO
                      have lo := hro.lt
                      rw [hOk] at o0 o5
                      have hnx : n < nx.length := by rw [HI.out.len]; exact hnN
                      have HIN : Hid (BhI N T ps s q (k + 1) (nx.set n (factM nx n ||| (opnS (factM L) (hgtB false (prsS ps) N) (R.drop (k + 1))).1))) := HSN.out k n _ nx HI.out hn hnN (HBL.out k) (HBN.out k)
                      have h512 := HBL.out k
                      have hm512 := HI.out.lt n
                      have HEM := HOE.out k
                      have HRNk := HRN.out k
                      have HRYk := HRY.out k n hn
                      rw [← HEM] at HRNk HRYk
                      obtain ⟨om, hom⟩ : ∃ om, (opnS (factM L) (hgtB false (prsS ps) N) (R.drop (k + 1))).1 = om := ⟨_, rfl⟩
                      obtain ⟨oe, hoe⟩ : ∃ oe, (opnS (factM L) (hgtB false (prsS ps) N) (R.drop (k + 1))).2 = oe := ⟨_, rfl⟩
                      rw [hom] at o0 HIN h512
                      rw [hoe] at o5 HRNk HRYk
                      have HRNh : Hid (oe = false → ∀ n m, bhR N ps s q k n m ↔ bhR N ps s q (k + 1) n m) := HRNk
                      have HRYh : Hid (oe = true → ∀ n' m, addR (bhR N ps s q k) n lf n' m ↔ bhR N ps s q (k + 1) n' m) := HRYk
                      obtain ⟨fm, hfm⟩ : ∃ fm, factM nx n = fm := ⟨_, rfl⟩
                      rw [hfm] at HIN hm512
                      have HFM : Hid (factM nx n = fm) := hfm
                      have HFI : Hid (∀ W m, BhM wb W N NB D (fun n => D + 1 + n) cnt (bhR N ps s q k) nx → BhM wb (fillO W NB (n * 5) m) N NB D (fun n => D + 1 + n) cnt (bhR N ps s q k) (nx.set n m)) := fun W m hW => hW.fill hnx m
                      have HCL : Hid (∀ W, BhM wb W N NB D (fun n => D + 1 + n) cnt (bhR N ps s q k) nx → (W.cell? ⟨NB, n * 5, none⟩ = some (.int .u64 fm) ∧ W.cell? ⟨NB, n * 5 + 1, none⟩ = some (.int .u64 0) ∧ W.cell? ⟨NB, n * 5 + 2, none⟩ = some (.int .u64 0) ∧ W.cell? ⟨NB, n * 5 + 3, none⟩ = some (.int .u64 0) ∧ W.cell? ⟨NB, n * 5 + 4, none⟩ = some (.int .u64 0) ∧ NB < W.heap.size) ∧ ∀ j, W.frozen? ⟨NB, j, none⟩ = false) := fun W hW => by
                        have c0 := hW.row.c0 hnx
                        rw [HFM.out] at c0
                        exact ⟨⟨c0, hW.row.ck hnx (by omega) (by omega), hW.row.ck hnx (by omega) (by omega), hW.row.ck hnx (by omega) (by omega), hW.row.ck hnx (by omega) (by omega), hW.row.lt⟩, hW.row.fz⟩
                      have hA := alloc_below wr (.cells #[.int .u64 om, .int .u64 0, .int .u64 0, .int .u64 0, .int .u64 0, .bool oe] 71)
                      have hAs := alloc_size wr (.cells #[.int .u64 om, .int .u64 0, .int .u64 0, .int .u64 0, .int .u64 0, .bool oe] 71)
                      have HBO : Hid (BoxO (wr.alloc (.cells #[.int .u64 om, .int .u64 0, .int .u64 0, .int .u64 0, .int .u64 0, .bool oe] 71)) wr.heap.size om oe) := alloc_at _ _
                      have HM1 : Hid (BhM wb (wr.alloc (.cells #[.int .u64 om, .int .u64 0, .int .u64 0, .int .u64 0, .int .u64 0, .bool oe] 71)) N NB D (fun n => D + 1 + n) cnt (bhR N ps s q k) nx) := HM.out.below hA
                      have HBP1 : Hid (BoxP (wr.alloc (.cells #[.int .u64 om, .int .u64 0, .int .u64 0, .int .u64 0, .int .u64 0, .bool oe] 71)) pb (lf : Int) (.slice (some ⟨b3, off3, none⟩) R.length rc) plv) := HBP.out.below HBP.out.lt hA
                      have HRB : Hid (wr.heap.size ≠ NB) := by have := HM.out.row.lt; show _ ≠ _; omega
                      have HRD : Hid (∀ n, n < N → wr.heap.size ≠ D + 1 + n) := fun n hn => by have := (HM.out.lnk.keys n hn).lt; show _ ≠ _; omega
                      have hwk : IntKind.i64.wrap ((k : Int) + 1) = ((k + 1 : Nat) : Int) := by rw [IntKind.wrap_i64]; omega
                      have hk1 : (k : Int) + 1 < (R.length : Int) + 1 := by omega
                      have hk0 : (0 : Int) ≤ (k : Int) + 1 := by omega
                      clear HM HI HBP hro hOl hOf hOk hkO hov hs1 hs2 hn HEM HRNk HRYk hom hoe hfm HC hnx hA
                      generalize R.getD k 0 = sy at *
                      rename World => wi
                      go_upto_region 15 with go_in
                      clear o0 o1 o2 o3 o4 o5 lo cO lO hc3 hb3 hAs
                      generalize wi.alloc (.cells #[.int .u64 om, .int .u64 0, .int .u64 0, .int .u64 0, .int .u64 0, .bool oe] 71) = W1 at *
                      generalize wi.heap.size = rb at *
                      go_cut [14] (fun s14 wx => s14 = .pointer (some ⟨rb, 0, none⟩) ∧ Hid (BhM wb wx N NB D (fun n => D + 1 + n) cnt (bhR N ps s q k) (nx.set n (fm ||| om))) ∧ Hid (BoxO wx rb om oe) ∧ Hid (BoxP wx pb (lf : Int) (.slice (some ⟨b3, off3, none⟩) R.length rc) plv))
                      case first =>
                        have HJ : Hid (∀ wx, Calls Tryz.prog 55 #[.agg #[.int .u64 fm, .int .u64 0, .int .u64 0, .int .u64 0, .int .u64 0], .agg #[.int .u64 om, .int .u64 0, .int .u64 0, .int .u64 0, .int .u64 0]] wx fun e w' => e = .returned (.agg #[.int .u64 ((fm ||| om : Nat) : Int), .int .u64 0, .int .u64 0, .int .u64 0, .int .u64 0]) ∧ Below wx.heap.size wx w') := fun wx => join_any fm om hm512 h512 wx
                        generalize fm ||| om = m2 at *
                        have HY : Hid (∀ d w5, Below (W1.drewN d).heap.size (W1.drewN d) w5 → Below W1.heap.size W1 w5) := fun m w5 hb => ⟨hb.os, hb.tape, hb.output, hb.size, hb.block⟩
                        have HWF : Hid (∀ w5, Below W1.heap.size W1 w5 → BhM wb w5 N NB D (fun n => D + 1 + n) cnt (bhR N ps s q k) nx ∧ BoxO w5 rb om oe ∧ BoxP w5 pb (lf : Int) (.slice (some ⟨b3, off3, none⟩) R.length rc) plv) := fun w5 h5 => ⟨HM1.out.below h5, HBO.out.below HBO.out.lt h5, HBP1.out.below HBP1.out.lt h5⟩
                        obtain ⟨⟨c0, c1, c2, c3, c4, c5⟩, _⟩ := HCL.out W1 HM1.out
                        have x0 := HBO.out.c0
                        have x1 := HBO.out.c1
                        have x2 := HBO.out.c2
                        have x3 := HBO.out.c3
                        have x4 := HBO.out.c4
                        have lx := HBO.out.lt
                        clear HM1 HBO HBP1
                        go_region_with (go_at_call 55; refine (HJ.out _).mono ?_; rintro e w6 ⟨rfl, hb6⟩; have hb7 := HY.out _ _ hb6; have kk := HCL.out w6 (HWF.out w6 hb7).1; obtain ⟨⟨z0, z1, z2, z3, z4, lz⟩, gz⟩ := kk; have g0 := gz (n * 5); have g1 := gz (n * 5 + 1); have g2 := gz (n * 5 + 2); have g3 := gz (n * 5 + 3); have g4 := gz (n * 5 + 4); clear hb6 gz)
                        all_goals
                          obtain ⟨y1, y2, y3⟩ := HWF.out w6 hb7
                          have HXf : Hid (((((w6.setCell ⟨NB, n * 5, none⟩ (.int .u64 (m2 : Int))).setCell ⟨NB, n * 5 + 1, none⟩ (.int .u64 0)).setCell ⟨NB, n * 5 + 2, none⟩ (.int .u64 0)).setCell ⟨NB, n * 5 + 3, none⟩ (.int .u64 0)).setCell ⟨NB, n * 5 + 4, none⟩ (.int .u64 0) = fillO w6 NB (n * 5) m2) := by show _ = _; unfold fillO; rfl
                          rw [HXf.out]
                          have hgF := fillO_grown w6 NB (n * 5) m2
                          have Y1 : Hid _ := HFI.out w6 m2 y1
                          have Y2 : Hid (BoxO (fillO w6 NB (n * 5) m2) rb om oe) := (hgF.block _ y2.lt (fun e => HRB.out (Option.some.inj e))).trans y2
                          have Y3 : Hid (BoxP (fillO w6 NB (n * 5) m2) pb (lf : Int) (.slice (some ⟨b3, off3, none⟩) R.length rc) plv) := (hgF.block _ y3.lt (fun e => HNB.out (Option.some.inj e))).trans y3
                          clear HXf hgF y1 y2 y3 HWF HJ HY HCL z0 z1 z2 z3 z4 lz g0 g1 g2 g3 g4 c0 c1 c2 c3 c4 c5 x0 x1 x2 x3 x4 lx hb7
                          generalize fillO w6 NB (n * 5) m2 = w9 at *
                          try go_simp
                          try go_wp2_with fail
                          go_meet
                          case rel => exact ⟨rfl, Y1, Y2, Y3⟩
                      case rest =>
                        obtain ⟨rfl, HM2, HBO2, HBP2⟩ := hcut
                        clear HM1 HBO HBP1 HFI HCL
                        have x5 := HBO2.out.c5
                        have lx := HBO2.out.lt
                        cases oe with
                        | false =>
                          have HMn : Hid (BhM wb wc N NB D (fun n => D + 1 + n) cnt (bhR N ps s q (k + 1)) (nx.set n (fm ||| om))) := HM2.out.iff (HRNh.out (by first | trivial | rfl))
                          clear HM2 HRNh HRYh
                          generalize fm ||| om = m2 at *
                          go_wp2
                          go_roundw
                          case rel => exact ⟨k + 1, cnt, _, by omega, by go_num, HMn, HC1, HIN, HBP2⟩
                          case measure => simp [intOf]; omega
                        | true =>
                          have hCA := add_any HM2.out.lnk n lf hnN (by omega) (by have := HC1.out n; omega)
                          have HRYt := HRYh.out (by first | trivial | rfl)
                          have HMA : Hid (∀ w5, LinksM w5 D N (fun n => D + 1 + n) (fun n' => if n' = n then cnt n' + 1 else cnt n') (addR (bhR N ps s q k) n lf) → wc.grownBy w5 (some (D + 1 + n)) → BhM wb w5 N NB D (fun n => D + 1 + n) (fun n' => if n' = n then cnt n' + 1 else cnt n') (bhR N ps s q (k + 1)) (nx.set n (fm ||| om)) ∧ BoxP w5 pb (lf : Int) (.slice (some ⟨b3, off3, none⟩) R.length rc) plv) := fun w5 h1 h2 => ⟨(HM2.out.add hnN h2 h1).iff HRYt, (h2.block _ HBP2.out.lt (fun e => HND.out n hnN (Option.some.inj e))).trans HBP2.out⟩
                          have HC2 : Hid (∀ n', (fun n' => if n' = n then cnt n' + 1 else cnt n') n' ≤ q * 20 + (k + 1)) := fun n' => by
                            show (if n' = n then cnt n' + 1 else cnt n') ≤ _
                            have := HC0k.out n'
                            split <;> omega
                          have e0 := HBP2.out.c0
                          have lpb := HBP2.out.lt
                          clear HM2 HRNh HRYh HRYt HBP2 HC1
                          generalize fm ||| om = m2 at *
                          go_wp2_with fail
                          refine hCA.mono ?_
                          rintro e w5 ⟨rfl, hl5, hg5⟩
                          obtain ⟨y1, y2⟩ := HMA.out w5 hl5 hg5
                          have Y1 : Hid _ := y1
                          have Y2 : Hid _ := y2
                          clear hCA y1 y2 hl5 hg5 HMA x5 lx e0 lpb
                          go_wp2
                          go_roundw
                          case rel => exact ⟨k + 1, _, _, by omega, by go_num, Y1, HC2, HIN, Y2⟩
                          case measure => simp [intOf]; omega
                    · obtain ⟨h1, h2⟩ := HST.out k nx HI.out (by omega)
                      have HIn : Hid (BhI N T ps s q (k + 1) nx) := h1
                      have HMn : Hid (BhM wb wr N NB D (fun n => D + 1 + n) cnt (bhR N ps s q (k + 1)) nx) := HM.out.iff h2
                      clear h1 h2 HI HM HC hs1 hs2
                      generalize R.getD k 0 = sy at *
                      go_wp2
                      go_roundw
                      case rel => exact ⟨k + 1, cnt, nx, by omega, by go_num, HMn, HC1, HIn, HBP⟩
                      case measure => simp [intOf]; omega
                  · obtain ⟨h1, h2⟩ := HNX.out k cnt nx wr (by omega) HM.out HI.out
                    have HMn : Hid _ := h1
                    have HIn : Hid _ := h2
                    have HCn : Hid (∀ n, cnt n ≤ (q + 1) * 20) := fun n => by have := HC.out n; show _ ≤ _; omega
                    clear h1 h2 HM HI HC
                    go_wp2
                    go_roundw
                    case rel => exact ⟨q + 1, cnt, nx, by omega, by go_num, HMn, HCn, HIn⟩
                    case measure => simp [intOf]; omega
            · obtain rfl : q = ps.length := by omega
              have hbx := (HX.out wr hbw).2
              have HCn : Hid (∀ n, cnt n ≤ 8000) := fun n => by have := HC.out n; show _ ≤ _; omega
              go_wp2
              go_ret2
              exact ⟨NB, nx, D, _, cnt, rfl, HM.out.row, HI.out, HM.out.lnk, HCn.out, hbx⟩

end Go.Proofs.YtkdoghaoijdedaaGreatDoor
