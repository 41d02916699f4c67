/- Texts of the proof, put together: GFlC, GFlW. -/
import Derived.Test.YtkdoghaoijdedaaGreatDoorGt21
import Derived.Test.YtkdoghaoijdedaaGreatDoorGt24
import Derived.Test.YtkdoghaoijdedaaGreatDoorGt36
import Derived.Test.YtkdoghaoijdedaaGreatDoorGt31
namespace Go.Proofs.YtkdoghaoijdedaaGreatDoor
open Go.RowKit
open Go.Maps (Keyed)
set_option linter.unusedVariables false
set_option maxRecDepth 100000

/-- a row of sets in a variable -/
structure VarM (w : World) (A B N : Nat) (L : List Nat) : Prop where
  lt : A < w.heap.size
  cell : w.cell? ⟨A, 0, none⟩ = some (.slice (some ⟨B, 0, none⟩) N N)
  row : RowM w B L
theorem VarM.below {w w' : World} {A B N : Nat} {L : List Nat} (h : VarM w A B N L) (hb : Below w.heap.size w w') : VarM w' A B N L :=
  ⟨Nat.lt_of_lt_of_le h.lt hb.size, (hb.cell (p := ⟨A, 0, none⟩) h.lt).trans h.cell, h.row.below hb⟩
/-- a set on its way: these of the hosts are gone through -/
structure HsI (r : Nat → Nat → Prop) (f : Nat → Nat) (n a : Nat) (left : Lit → Bool) (m : Nat) : Prop where
  lt : m < 512
  own : ∀ i, a.testBit i = true → m.testBit i = true
  sound : ∀ i, m.testBit i = true → a.testBit i = true ∨ ∃ k, r n k ∧ (f k).testBit i = true
  done : ∀ k, r n k → left (.int .i64 (k : Int)) = false → ∀ i, (f k).testBit i = true → m.testBit i = true
theorem HsI.start (r : Nat → Nat → Prop) (f : Nat → Nat) (n a : Nat) (left : Lit → Bool) (ha : a < 512) (hl : ∀ k, r n k → left (.int .i64 (k : Int)) = true) : HsI r f n a left a :=
  ⟨ha, fun _ h => h, fun _ h => .inl h, fun k hk h => by rw [hl k hk] at h; cases h⟩
theorem HsI.step {r : Nat → Nat → Prop} {f : Nat → Nat} {n a : Nat} {left : Lit → Bool} {m : Nat} (h : HsI r f n a left m) {q : Nat} (hq : r n q) (hf : f q < 512) : HsI r f n a (fun z => left z && !z.sameKey (.int .i64 (q : Int))) (m ||| f q) := by
  refine ⟨mk_join h.lt hf, fun i hi => ?_, fun i hi => ?_, fun k hk hl i hi => ?_⟩
  · rw [Nat.testBit_or, h.own i hi]; rfl
  · rw [Nat.testBit_or, Bool.or_eq_true] at hi
    rcases hi with hi | hi
    · exact h.sound i hi
    · exact .inr ⟨q, hq, hi⟩
  · by_cases e : k = q
    · subst e
      rw [Nat.testBit_or, hi, Bool.or_true]
    · have h3 : ¬ (k : Int) = (q : Int) := by omega
      have h4 : left (.int .i64 (k : Int)) = false := by simpa [Lit.sameKey, h3] using hl
      rw [Nat.testBit_or, h.done k hk h4 i hi]; rfl
theorem HsI.final {r : Nat → Nat → Prop} {f : Nat → Nat} {n a : Nat} {left : Lit → Bool} {m : Nat} (h : HsI r f n a left m) (hl : ∀ k, left k = false) {R : Nat} (hR : ∀ i, R.testBit i = true ↔ a.testBit i = true ∨ ∃ k, r n k ∧ (f k).testBit i = true) : m = R := by
  apply Nat.eq_of_testBit_eq
  intro i
  rw [Bool.eq_iff_iff, hR]
  constructor
  · exact h.sound i
  · rintro (h1 | ⟨k, hk, h1⟩)
    · exact h.own i h1
    · exact h.done k hk (hl _) i h1

set_option maxHeartbeats 8000000 in
theorem followsC_any (N : Nat) (hN : N ≤ 8) (r : Nat → Nat → Prop) (mp cnt : Nat → Nat) (L nx : List Nat) (B NB V n H D : Nat) (hn : n < N) (w : World) (hL : L.length = N) (hlt : ∀ m, factM L m < 512) (hv : RowM w B L) (hnl : nx.length = N) (hnlt : ∀ m, factM nx m < 512) (hV : VarM w V NB N nx) (hH : VarL w H D N mp cnt r) (hr : ∀ k, r n k → k < N) (R : Nat) (hR : ∀ i, R.testBit i = true ↔ (factM nx n).testBit i = true ∨ ∃ k, r n k ∧ (factM L k).testBit i = true) :
    Calls Tryz.prog 61 #[.slice (some ⟨B, 0, none⟩) N N, .int .i64 n, .pointer (some ⟨V, 0, none⟩), .pointer (some ⟨H, 0, none⟩)] w fun e w' => e = .returned (mkV R) ∧ Below w.heap.size w w' := by
  obtain ⟨a, hae⟩ : ∃ a, factM nx n = a := ⟨_, rfl⟩
  rw [hae] at hR
  have ha := hnlt n
  rw [hae] at ha
  have hA0 := alloc_below w (.cells #[.int .u64 0, .int .u64 0, .int .u64 0, .int .u64 0, .int .u64 0] 64)
  have hA1 := alloc_size w (.cells #[.int .u64 0, .int .u64 0, .int .u64 0, .int .u64 0, .int .u64 0] 64)
  have hQ0 : BoxM (w.alloc (.cells #[.int .u64 0, .int .u64 0, .int .u64 0, .int .u64 0, .int .u64 0] 64)) w.heap.size 0 := alloc_at _ _
  have hA2 := alloc_below (w.alloc (.cells #[.int .u64 0, .int .u64 0, .int .u64 0, .int .u64 0, .int .u64 0] 64)) (.cells #[.int .u64 a, .int .u64 0, .int .u64 0, .int .u64 0, .int .u64 0] 64)
  have hA3 := alloc_size (w.alloc (.cells #[.int .u64 0, .int .u64 0, .int .u64 0, .int .u64 0, .int .u64 0] 64)) (.cells #[.int .u64 a, .int .u64 0, .int .u64 0, .int .u64 0, .int .u64 0] 64)
  have HQ1 : Hid (BoxM ((w.alloc (.cells #[.int .u64 0, .int .u64 0, .int .u64 0, .int .u64 0, .int .u64 0] 64)).alloc (.cells #[.int .u64 a, .int .u64 0, .int .u64 0, .int .u64 0, .int .u64 0] 64)) (w.heap.size + 1) a) := by rw [← hA1]; exact alloc_at _ _
  have HQ0 : Hid (BoxM ((w.alloc (.cells #[.int .u64 0, .int .u64 0, .int .u64 0, .int .u64 0, .int .u64 0] 64)).alloc (.cells #[.int .u64 a, .int .u64 0, .int .u64 0, .int .u64 0, .int .u64 0] 64)) w.heap.size 0) := (hA2.block _ (by omega)).trans hQ0
  have hb1 : Below w.heap.size w ((w.alloc (.cells #[.int .u64 0, .int .u64 0, .int .u64 0, .int .u64 0, .int .u64 0] 64)).alloc (.cells #[.int .u64 a, .int .u64 0, .int .u64 0, .int .u64 0, .int .u64 0] 64)) := hA0.trans (hA2.mono (by omega))
  obtain ⟨vl, vc, vr⟩ := hV.below hA0
  have hnn : n < nx.length := by omega
  have n0 := vr.c0 hnn
  have n1 := vr.ck hnn (k := 1) (by omega) (by omega)
  have n2 := vr.ck hnn (k := 2) (by omega) (by omega)
  have n3 := vr.ck hnn (k := 3) (by omega) (by omega)
  have n4 := vr.ck hnn (k := 4) (by omega) (by omega)
  have nl := vr.lt
  rw [hae] at n0
  obtain ⟨hHl, cH, hlk⟩ := hH.below hb1
  have hDl := hlk.lt
  have cD := hlk.cell n hn
  obtain ⟨D0, hown, him, hkeys⟩ := hlk.keys n hn
  have hMl := (hH.lnk.keys n hn).lt
  have HK : Hid (∀ kl, Maps.has D0 kl = true ↔ ∃ q : Nat, kl = .int .i64 q ∧ r n q) := hkeys
  have HV : Hid (RowM w B L) := hv
  have HL : Hid (L.length = N) := hL
  have HLT : Hid (∀ m, factM L m < 512) := hlt
  have HRr : Hid (∀ k, r n k → k < N) := hr
  have HRR : Hid (∀ i, R.testBit i = true ↔ a.testBit i = true ∨ ∃ k, r n k ∧ (factM L k).testBit i = true) := hR
  have HS : Hid (((w.alloc (.cells #[.int .u64 0, .int .u64 0, .int .u64 0, .int .u64 0, .int .u64 0] 64)).alloc (.cells #[.int .u64 a, .int .u64 0, .int .u64 0, .int .u64 0, .int .u64 0] 64)).heap.size = w.heap.size + 1 + 1) := by show _ = _; omega
  clear hlk hkeys him hv hL hr hR hA0 hA1 hQ0 hA2 hA3 hH hlt hae vr hV hnn hnl hnlt
  go_enter Tryz.func61, Tryz.ntmps61
  go_wp2_with (first
    | (at_range; refine wpList_range_own _ rfl _ 65 rfl 3 3 Tryz.lawIntG Tryz.underlying65 _ (mp n) (cnt n) _ rfl hown ?_; intro w2 hrg0 hg0 hs0)
    | go_in)
  go_frame
  generalize (w.alloc (.cells #[.int .u64 0, .int .u64 0, .int .u64 0, .int .u64 0, .int .u64 0] 64)).alloc (.cells #[.int .u64 a, .int .u64 0, .int .u64 0, .int .u64 0, .int .u64 0] 64) = W at *
  have hb2 : Below W.heap.size W w2 := ⟨hg0.os, hg0.tape, hg0.output, hg0.size, fun q hq => hg0.block q hq (by simp)⟩
  have hb20 : Below w.heap.size w w2 := hb1.trans (hb2.mono hb1.size)
  have HQ2 : Hid (BoxM w2 (w.heap.size + 1) a) := (hb2.block _ (by rw [HS.out]; omega)).trans HQ1.out
  have HQ3 : Hid (BoxM w2 w.heap.size 0) := (hb2.block _ (by rw [HS.out]; omega)).trans HQ0.out
  have HPT : Hid (HsI r (factM L) n a (Maps.has D0) a) := HsI.start _ _ _ _ _ ha (fun k hk => (HK.out _).2 ⟨k, rfl, hk⟩)
  clear hown hg0 cD hDl cH hHl HQ0 HQ1 hb1 hb2 n0 n1 n2 n3 n4 nl vl vc
  rw [HS.out] at *
  go_loopw [8] (fun _ wr => ∃ (left : Lit → Bool) (ct m : Nat), wr.ranges Tryz.prog 3 (plainElem Tryz.prog 3) (mp n) (w.heap.size + 1 + 1) (cnt n) D0 left ct ∧ ct ≤ Maps.size D0 ∧ Hid (HsI r (factM L) n a left m) ∧ Hid (∀ kl, left kl = true → Maps.has D0 kl = true) ∧ Hid (BoxM wr (w.heap.size + 1) m) ∧ Hid (BoxM wr w.heap.size 0) ∧ Below w.heap.size w wr ∧ w.heap.size + 1 + 1 < wr.heap.size) (fun _ wr => wr.rangeLeft (mp n) (w.heap.size + 1 + 1))
  case atStart => exact ⟨_, _, a, hrg0, Nat.le_refl _, HPT, (fun kl h => h), HQ2, HQ3, hb20, by omega⟩
  case round =>
    clear hb20 hrg0 hs0 HQ2 HQ3 HPT
    obtain ⟨left, ct, m, hrg, hcs, HP, HF, HQ, HQ0, hbr, hsz⟩ := hrel
    go_wp2_with (first
      | (at_next; refine wpList_next_ranges_ii _ rfl _ rfl 3 3 .i64 .i64 Tryz.lawIntG Tryz.underlying3 Tryz.underlying3 (mp n) (w.heap.size + 1 + 1) (cnt n) _ _ _ rfl hrg ?_ ?_)
      | go_in)
    · intro hc0 hl0
      obtain rfl : m = R := HP.out.final hl0 HRR.out
      clear HP HF HRR
      have c0 := HQ.out.c0
      have c1 := HQ.out.c1
      have c2 := HQ.out.c2
      have c3 := HQ.out.c3
      have c4 := HQ.out.c4
      have lq := HQ.out.lt
      have r0 := HQ0.out.c0
      have r1 := HQ0.out.c1
      have r2 := HQ0.out.c2
      have r3 := HQ0.out.c3
      have r4 := HQ0.out.c4
      have g0 := HQ0.out.fz 0
      have g1 := HQ0.out.fz 1
      have g2 := HQ0.out.fz 2
      have g3 := HQ0.out.fz 3
      have g4 := HQ0.out.fz 4
      have lr := HQ0.out.lt
      go_wp2
      have HF : Hid (BoxM (fillM wr w.heap.size m) w.heap.size m) := HQ0.out.fill _
      have hbF := fill_below hbr (Nat.le_refl _) m
      have HX : Hid (((((wr.setCell ⟨w.heap.size, 0, none⟩ (.int .u64 (m : Int))).setCell ⟨w.heap.size, 1, none⟩ (.int .u64 0)).setCell ⟨w.heap.size, 2, none⟩ (.int .u64 0)).setCell ⟨w.heap.size, 3, none⟩ (.int .u64 0)).setCell ⟨w.heap.size, 4, none⟩ (.int .u64 0) = fillM wr w.heap.size m) := by show _ = _; unfold fillM; rfl
      rw [HX.out]
      clear HX
      generalize fillM wr w.heap.size m = W9 at *
      have z0 := HF.out.c0
      have z1 := HF.out.c1
      have z2 := HF.out.c2
      have z3 := HF.out.c3
      have z4 := HF.out.c4
      refine bodyPost_ret (v := .agg #[.int .u64 (m : Int), .int .u64 0, .int .u64 0, .int .u64 0, .int .u64 0]) ?_ rfl ?_
      · simp [results, go_sem, z0, z1, z2, z3, z4]
      · exact ⟨rfl, hbF⟩
    · intro x p w3 ct1 hwx hwc hlx hat hrg1 hlt1 hg1 hs1 hen
      obtain ⟨q, hq, hrq⟩ := (HK.out _).1 (HF.out _ hlx)
      obtain rfl : x = (q : Int) := by simpa using hq
      have hqN := HRr.out q hrq
      have hb3 : Below w.heap.size w w3 := hbr.trans (grown_below hg1 (by omega) (by omega))
      have HQ3 : Hid (BoxM w3 (w.heap.size + 1) m) := (hg1.block _ (by omega) (by simp)).trans HQ.out
      have HQ4 : Hid (BoxM w3 w.heap.size 0) := (hg1.block _ (by omega) (fun e => by have := Option.some.inj e; omega)).trans HQ0.out
      have HP2 : Hid (HsI r (factM L) n a (fun z => left z && !z.sameKey (.int .i64 (q : Int))) (m ||| factM L q)) := HP.out.step hrq (HLT.out q)
      have hm := HP.out.lt
      have hfq := HLT.out q
      have HW3 : Hid (∀ wx, Below w.heap.size w wx → wx.cell? ⟨B, q * 5, none⟩ = some (.int .u64 (factM L q)) ∧ wx.cell? ⟨B, q * 5 + 1, none⟩ = some (.int .u64 0) ∧ wx.cell? ⟨B, q * 5 + 2, none⟩ = some (.int .u64 0) ∧ wx.cell? ⟨B, q * 5 + 3, none⟩ = some (.int .u64 0) ∧ wx.cell? ⟨B, q * 5 + 4, none⟩ = some (.int .u64 0) ∧ B < wx.heap.size) := fun wx hx => by
        have hV := HV.out.below hx
        have hqL : q < L.length := by rw [HL.out]; exact hqN
        exact ⟨hV.c0 hqL, hV.ck hqL (by omega) (by omega), hV.ck hqL (by omega) (by omega), hV.ck hqL (by omega) (by omega), hV.ck hqL (by omega) (by omega), hV.lt⟩
      have HLE : Hid (wr.rangeLeft (mp n) (w.heap.size + 1 + 1) = ct) := hrg.left_eq
      clear hq HP HRR hbr HQ HQ0 hrg
      generalize factM L q = fq at *
      have HCJ : Hid (∀ wx, Calls Tryz.prog 55 #[.agg #[.int .u64 m, .int .u64 0, .int .u64 0, .int .u64 0, .int .u64 0], .agg #[.int .u64 fq, .int .u64 0, .int .u64 0, .int .u64 0, .int .u64 0]] wx fun e w' => e = .returned (.agg #[.int .u64 ((m ||| fq : Nat) : Int), .int .u64 0, .int .u64 0, .int .u64 0, .int .u64 0]) ∧ Below wx.heap.size wx w') := fun wx => join_any m fq hm hfq wx
      generalize m ||| fq = m2 at *
      have c0 := HQ3.out.c0
      have c1 := HQ3.out.c1
      have c2 := HQ3.out.c2
      have c3 := HQ3.out.c3
      have c4 := HQ3.out.c4
      have lq := HQ3.out.lt
      obtain ⟨k0, k1, k2, k3, k4, k5⟩ := HW3.out w3 hb3
      have HD : Hid (∀ d w5, Below (w3.drewN d).heap.size (w3.drewN d) w5 → Below w3.heap.size w3 w5) := fun d w5 hb => ⟨hb.os, hb.tape, hb.output, hb.size, hb.block⟩
      have HWF : Hid (∀ w5, Below w3.heap.size w3 w5 → wx_facts w5 B q fq ∧ BoxM w5 (w.heap.size + 1) m ∧ BoxM w5 w.heap.size 0 ∧ Below w.heap.size w w5 ∧ w.heap.size + 1 + 1 < w5.heap.size ∧ w5.ranges Tryz.prog 3 (plainElem Tryz.prog 3) (mp n) (w.heap.size + 1 + 1) (cnt n) D0 (fun z => left z && !z.sameKey (.int .i64 (q : Int))) ct1) := fun w5 h5 => by
        have h6 := hb3.trans (h5.mono hb3.size)
        refine ⟨HW3.out w5 h6, (h5.block _ HQ3.out.lt).trans HQ3.out, (h5.block _ HQ4.out.lt).trans HQ4.out, h6, by have := h5.size; omega, hrg1.kept (below_grownN h5) (by simp) (by simp)⟩
      have HM2 : Hid (ct1 < ct) := hlt1
      clear hrg1 HW3
      go_wp2_with fail
      go_region_with (first
        | (go_at_call 55; refine (HCJ.out _).mono ?_; rintro e w6 ⟨rfl, hb6⟩; have hb7 := HD.out _ _ hb6; have kk := (HWF.out w6 hb7).2.1; have z0 := kk.c0; have z1 := kk.c1; have z2 := kk.c2; have z3 := kk.c3; have z4 := kk.c4; have g0 := kk.fz 0; have g1 := kk.fz 1; have g2 := kk.fz 2; have g3 := kk.fz 3; have g4 := kk.fz 4; have lz := kk.lt; clear hb6 kk))
      all_goals
        obtain ⟨_, hx1, hx2, hx3, hx4, hx5⟩ := HWF.out w6 hb7
        have HX : Hid (((((w6.setCell ⟨w.heap.size + 1, 0, none⟩ (.int .u64 (m2 : Int))).setCell ⟨w.heap.size + 1, 1, none⟩ (.int .u64 0)).setCell ⟨w.heap.size + 1, 2, none⟩ (.int .u64 0)).setCell ⟨w.heap.size + 1, 3, none⟩ (.int .u64 0)).setCell ⟨w.heap.size + 1, 4, none⟩ (.int .u64 0) = fillM w6 (w.heap.size + 1) m2) := by show _ = _; unfold fillM; rfl
        rw [HX.out]
        have hgF := fillM_grown w6 (w.heap.size + 1) m2
        have y1 : Hid (BoxM (fillM w6 (w.heap.size + 1) m2) (w.heap.size + 1) m2) := hx1.fill _
        have y2 : Hid (BoxM (fillM w6 (w.heap.size + 1) m2) w.heap.size 0) := (hgF.block _ hx2.lt (by simp)).trans hx2
        have y3 := fill_below hx3 (Nat.le_succ _) m2
        have y4 : w.heap.size + 1 + 1 < (fillM w6 (w.heap.size + 1) m2).heap.size := Nat.lt_of_lt_of_le hx4 hgF.size
        have y5 := hx5.kept hgF (fun e => by have := Option.some.inj e; omega) (fun e => by have := Option.some.inj e; omega)
        clear HX hgF hx1 hx2 hx3 hx4 hx5 HWF HCJ HD k0 k1 k2 k3 k4 k5 z0 z1 z2 z3 z4 g0 g1 g2 g3 g4 lz hb7
        generalize fillM w6 (w.heap.size + 1) m2 = w9 at *
        try go_simp
        try go_wp2
        go_roundw
        case rel => exact ⟨_, ct1, m2, y5, by have := HM2.out; omega, HP2, (fun kl hkl => HF.out kl (by simp only [Bool.and_eq_true] at hkl; exact hkl.1)), y1, y2, y3, y4⟩
        case measure => rw [y5.left_eq, HLE.out]; exact HM2.out

end Go.Proofs.YtkdoghaoijdedaaGreatDoor

namespace Go.Proofs.YtkdoghaoijdedaaGreatDoor
open Go.RowKit
set_option linter.unusedVariables false
set_option maxRecDepth 100000

set_option maxHeartbeats 8000000 in
theorem follows_any (T s N : Nat) (ps : List PdR) (ls ss : List Int) (pv lv sv : Value) (w : World) (hN1 : 1 ≤ N) (hN8 : N ≤ 8) (hT8 : T ≤ 8) (hs : s < N) (hTr : TrmP T ps) (hG : GOkM N ps) (h : PdsM w pv ps) (hlv : ∃ a n c, lv = .slice a n c) (hsv : ∃ a n c, sv = .slice a n c) :
    Calls Tryz.prog 29 #[gv ⟨T, N, s, ps, ls, ss⟩ pv lv sv] w fun e w' => ∃ B L, e = .returned (.slice (some ⟨B, 0, none⟩) N N) ∧ RowM w' B L ∧ L.length = N ∧ (∀ n, factM L n < 512) ∧ (∀ n, n < N → ∀ i, ((factM L n).testBit i = true ↔ flwP N T ps s n i)) ∧ Below w.heap.size w w' := by
  have hB0 := boxG_below w ⟨T, N, s, ps, ls, ss⟩ pv lv sv
  have hB1 := boxG_size w ⟨T, N, s, ps, ls, ss⟩ pv lv sv
  have hB2 := boxG_box w ⟨T, N, s, ps, ls, ss⟩ pv lv sv
  have hBh := behind_any T s N ps ls ss pv lv sv (boxG w ⟨T, N, s, ps, ls, ss⟩ pv lv sv) hN1 hN8 hT8 hs hTr hG (h.below hB0) hlv hsv
  obtain ⟨pa, pc, rfl⟩ := h.slice
  obtain ⟨la, ln, lc, rfl⟩ := hlv
  obtain ⟨sa, sn, sc, rfl⟩ := hsv
  clear h
  unfold boxG gv gvs at hBh
  unfold boxG gvs at hB0 hB1 hB2
  unfold gv gvs
  simp only at *
  obtain ⟨q0, q1, q2, q3, q4, q5, q6⟩ := hB2
  simp only at q0 q1 q2 q3 q4 q5 q6
  have HFL : Hid (∀ n t, flwP N T ps s n t ↔ toP (fwR N ps s) (fwB N T ps s) N n t) := fun n t => Iff.rfl
  have HRL : Hid (∀ n m, fwR N ps s n m → m < N) := fwR_lt hG s
  have HBE : Hid (∀ n m, bhR N ps s ps.length 0 n m ↔ fwR N ps s n m) := bhR_end
  generalize flwP N T ps s = FL at *
  go_enter Tryz.func29, Tryz.ntmps29
  go_wp2_with fail
  refine hBh.mono ?_
  rintro e w2 ⟨NB, nx, D, mp, cnt, rfl, hrow, hbi, hlnk, hcb, hb2⟩
  clear hBh q0 q1 q2 q3 q4 q5 q6
  generalize w.alloc (.cells #[.int .i64 T, .int .i64 N, .int .i64 s, .slice pa ps.length pc, .slice la ln lc, .slice sa sn sc] 25) = w0 at *
  have hb20 : Below w.heap.size w w2 := hB0.trans (hb2.mono (by omega))
  obtain ⟨rb, hrb⟩ : ∃ rb : Nat → Nat → Bool, ∀ n k, (k < N ∧ rb n k = true) ↔ fwR N ps s n k := ⟨fun n k => @decide (fwR N ps s n k) (Classical.propDecidable _), fun n k => by
    rw [@decide_eq_true_iff _ (Classical.propDecidable _)]
    exact ⟨fun h => h.2, fun h => ⟨HRL.out n k h, h⟩⟩⟩
  have hlnk2 : LinksM w2 D N mp cnt (fun n k => k < N ∧ rb n k = true) := hlnk.iff fun n k => by rw [HBE.out, hrb]
  have hX := boxes2 w2 (.cells #[.slice (some ⟨NB, 0, none⟩) N N] 37) (.cells #[.slice (some ⟨D, 0, none⟩) N N] 56)
  obtain ⟨x1, x2, x3, x4⟩ := hX
  have hc1 : ((w2.alloc (.cells #[.slice (some ⟨NB, 0, none⟩) N N] 37)).alloc (.cells #[.slice (some ⟨D, 0, none⟩) N N] 56)).cell? ⟨w2.heap.size, 0, none⟩ = some (.slice (some ⟨NB, 0, none⟩) N N) := by
    simp only [World.cell?, x1]; rfl
  have hc2 : ((w2.alloc (.cells #[.slice (some ⟨NB, 0, none⟩) N N] 37)).alloc (.cells #[.slice (some ⟨D, 0, none⟩) N N] 56)).cell? ⟨w2.heap.size + 1, 0, none⟩ = some (.slice (some ⟨D, 0, none⟩) N N) := by
    simp only [World.cell?, x2]; rfl
  have hVM : VarM ((w2.alloc (.cells #[.slice (some ⟨NB, 0, none⟩) N N] 37)).alloc (.cells #[.slice (some ⟨D, 0, none⟩) N N] 56)) w2.heap.size NB N nx := ⟨by omega, hc1, hrow.below x4⟩
  have hVL : VarL ((w2.alloc (.cells #[.slice (some ⟨NB, 0, none⟩) N N] 37)).alloc (.cells #[.slice (some ⟨D, 0, none⟩) N N] 56)) (w2.heap.size + 1) D N mp cnt (fun n k => k < N ∧ rb n k = true) := ⟨by omega, hc2, hlnk2.below x4⟩
  have hbA : Below w.heap.size w ((w2.alloc (.cells #[.slice (some ⟨NB, 0, none⟩) N N] 37)).alloc (.cells #[.slice (some ⟨D, 0, none⟩) N N] 56)) := hb20.trans (x4.mono hb20.size)
  have hen : ∀ args w, (callFunc 61 args).run Tryz.prog w = .ok (.enter 61 args) w := enters_of Tryz.func61 (by kernel_rfl) rfl
  have hSy : SaysM ((w2.alloc (.cells #[.slice (some ⟨NB, 0, none⟩) N N] 37)).alloc (.cells #[.slice (some ⟨D, 0, none⟩) N N] 56)) 61 (.pointer (some ⟨w2.heap.size, 0, none⟩)) (.pointer (some ⟨w2.heap.size + 1, 0, none⟩)) N (hostM rb (factM nx) N) := by
    intro w' L B n hn hL hlt hv hb
    exact followsC_any N hN8 _ mp cnt L nx B NB w2.heap.size n (w2.heap.size + 1) D hn w' hL hlt hv hbi.len hbi.lt (hVM.below hb) (hVL.below hb) (fun k hk => hk.1) _ (fun i => by
      rw [host_iff]
      exact or_congr_right ⟨fun ⟨k, h1, h2, h3⟩ => ⟨k, ⟨h1, h2⟩, h3⟩, fun ⟨k, ⟨h1, h2⟩, h3⟩ => ⟨k, h1, h2, h3⟩⟩)
  have hLe := leastM_any N hN1 hG.n _ _ _ 8000 (by omega) (host_ok rb (factM nx) N hbi.lt) 61 hen (.pointer (some ⟨w2.heap.size, 0, none⟩)) (.pointer (some ⟨w2.heap.size + 1, 0, none⟩)) ((w2.alloc (.cells #[.slice (some ⟨NB, 0, none⟩) N N] 37)).alloc (.cells #[.slice (some ⟨D, 0, none⟩) N N] 56)) D mp cnt hVL.lnk (fun n _ => hcb n) (fun n k _ hk => hk.1) hSy
  unfold mkV mkA at hLe
  rw [show (((0 : Nat) : Int)) = 0 from rfl] at hLe
  have HBT : Hid (∀ n t, n < N → ((factM nx n).testBit t = true ↔ fwB N T ps s n t)) := fun n t hn => (hbi.bit n t hn).trans (bhN_end n t)
  clear hSy hVM hVL hlnk hlnk2 hrow hbi x1 x2 x4
  go_wp2_with fail
  refine hLe.mono ?_
  rintro e w5 ⟨B, L, rfl, hrw, hwk, hB, hb5⟩
  have HRw : Hid (RowM w5 B L) := hrw
  have HWk : Hid (∀ n, n < N → ∀ i, ((factM L n).testBit i = true ↔ FL n i)) := fun n hn i => by
    rw [HFL.out, hwk.hosts n i hn]
    exact toP_congr (fun n m _ => hrb n m) (fun n m hm => hm.1) (fun n t hn => HBT.out n t hn) N n i hn
  have HLn : Hid (L.length = N) := hwk.len
  have HLt : Hid (∀ n, factM L n < 512) := hwk.lt
  have hb6 := hbA.trans (hb5.mono hbA.size)
  clear hrw hwk hLe hB hb5 hbA hc1 hc2 x3
  go_wp2
  go_ret
  exact ⟨B, L, rfl, HRw.out, HLn.out, HLt.out, HWk.out, hb6⟩

end Go.Proofs.YtkdoghaoijdedaaGreatDoor
