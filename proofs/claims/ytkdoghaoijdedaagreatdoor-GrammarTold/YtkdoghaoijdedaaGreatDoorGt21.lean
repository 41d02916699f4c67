/- Texts of the proof, put together: GLpC, GLpP, GMkE. -/
import Derived.Test.YtkdoghaoijdedaaGreatDoorGt20
import Derived.Test.YtkdoghaoijdedaaGreatDoorGt15
import Derived.Deep.RegionHeld3
import Derived.Test.YtkdoghaoijdedaaGreatDoorGt18
import Derived.Laws.StructEq
namespace Go.Proofs.YtkdoghaoijdedaaGreatDoor
open Go.RowKit
open Go.Maps (Keyed)
set_option linter.unusedVariables false
set_option maxRecDepth 100000

/-- a set on its way: these of the parts are gone through -/
structure PtI (r : Nat → Nat → Prop) (f : Nat → Nat) (n : Nat) (left : Lit → Bool) (m : Nat) : Prop where
  lt : m < 512
  sound : ∀ i, m.testBit i = true → ∃ k, r n k ∧ (i = k ∨ (f k).testBit i = true)
  done : ∀ k, r n k → left (.int .i64 (k : Int)) = false → m.testBit k = true ∧ ∀ i, (f k).testBit i = true → m.testBit i = true
theorem PtI.start (r : Nat → Nat → Prop) (f : Nat → Nat) (n : Nat) (left : Lit → Bool) (hl : ∀ k, r n k → left (.int .i64 (k : Int)) = true) : PtI r f n left 0 :=
  ⟨by omega, fun i h => by simp at h, fun k hk h => by rw [hl k hk] at h; cases h⟩
theorem PtI.step {r : Nat → Nat → Prop} {f : Nat → Nat} {n : Nat} {left : Lit → Bool} {m : Nat} (h : PtI r f n left m) {q : Nat} (hq : r n q) (hq8 : q ≤ 8) (hf : f q < 512) : PtI r f n (fun z => left z && !z.sameKey (.int .i64 (q : Int))) ((m ||| 2 ^ q) ||| f q) := by
  refine ⟨mk_join (mk_or h.lt hq8) hf, fun i hi => ?_, fun k hk hl => ?_⟩
  · rw [Nat.testBit_or, Bool.or_eq_true, Nat.testBit_or, Bool.or_eq_true] at hi
    rcases hi with (hi | hi) | hi
    · exact h.sound i hi
    · have e : q = i := by simpa [Nat.testBit_two_pow] using hi
      exact ⟨q, hq, .inl e.symm⟩
    · exact ⟨q, hq, .inr hi⟩
  · by_cases e : k = q
    · subst e
      refine ⟨?_, fun i hi => ?_⟩
      · rw [Nat.testBit_or, Nat.testBit_or, Nat.testBit_two_pow]; simp
      · rw [Nat.testBit_or, hi, Bool.or_true]
    · have h3 : ¬ (k : Int) = (q : Int) := by omega
      have h4 : left (.int .i64 (k : Int)) = false := by simpa [Lit.sameKey, h3] using hl
      obtain ⟨h5, h6⟩ := h.done k hk h4
      refine ⟨?_, fun i hi => ?_⟩
      · rw [Nat.testBit_or, Nat.testBit_or, h5]; simp
      · rw [Nat.testBit_or, Nat.testBit_or, h6 i hi]; simp
theorem PtI.final {r : Nat → Nat → Prop} {f : Nat → Nat} {n : Nat} {left : Lit → Bool} {m : Nat} (h : PtI r f n left m) (hl : ∀ k, left k = false) {R : Nat} (hR : ∀ i, R.testBit i = true ↔ ∃ k, r n k ∧ (i = k ∨ (f k).testBit i = true)) : m = R := by
  apply Nat.eq_of_testBit_eq
  intro i
  rw [Bool.eq_iff_iff, hR]
  constructor
  · exact h.sound i
  · rintro ⟨k, hk, h1 | h1⟩
    · rw [h1]; exact (h.done k hk (hl _)).1
    · exact (h.done k hk (hl _)).2 i h1

theorem fillM_grown (w : World) (B m : Nat) : w.grownBy (fillM w B m) (some B) := by
  unfold fillM
  exact grown_more (grown_more (grown_more (grown_more (set_grown w B 0 _) (set_grown _ B _ _) (fun g e => .inr (by simpa using e.symm))) (set_grown _ B _ _) (fun g e => .inr (by simpa using e.symm))) (set_grown _ B _ _) (fun g e => .inr (by simpa using e.symm))) (set_grown _ B _ _) (fun g e => .inr (by simpa using e.symm))
def wx_facts (wx : World) (B q fq : Nat) : Prop := wx.cell? ⟨B, q * 5, none⟩ = some (.int .u64 fq) ∧ wx.cell? ⟨B, q * 5 + 1, none⟩ = some (.int .u64 0) ∧ wx.cell? ⟨B, q * 5 + 2, none⟩ = some (.int .u64 0) ∧ wx.cell? ⟨B, q * 5 + 3, none⟩ = some (.int .u64 0) ∧ wx.cell? ⟨B, q * 5 + 4, none⟩ = some (.int .u64 0) ∧ B < wx.heap.size

set_option maxHeartbeats 8000000 in
theorem loopC_any (N : Nat) (hN : N ≤ 8) (r : Nat → Nat → Prop) (mp cnt : Nat → Nat) (L : List Nat) (B n H D : Nat) (hn : n < N) (w : World) (hL : L.length = N) (hlt : ∀ m, factM L m < 512) (hv : RowM w B L) (hH : VarL w H D N mp cnt r) (hr : ∀ k, r n k → k < N) (R : Nat) (hR : ∀ i, R.testBit i = true ↔ ∃ k, r n k ∧ (i = k ∨ (factM L k).testBit i = true)) :
    Calls Tryz.prog 53 #[.slice (some ⟨B, 0, none⟩) N N, .int .i64 n, .pointer (some ⟨H, 0, none⟩)] w fun e w' => e = .returned (mkV R) ∧ Below w.heap.size w w' := by
  have hA0 := alloc_below w (.cells #[.int .u64 0, .int .u64 0, .int .u64 0, .int .u64 0, .int .u64 0] 64)
  have hA1 := alloc_size w (.cells #[.int .u64 0, .int .u64 0, .int .u64 0, .int .u64 0, .int .u64 0] 64)
  have hQ0 : BoxM (w.alloc (.cells #[.int .u64 0, .int .u64 0, .int .u64 0, .int .u64 0, .int .u64 0] 64)) w.heap.size 0 := alloc_at _ _
  have hA2 := alloc_below (w.alloc (.cells #[.int .u64 0, .int .u64 0, .int .u64 0, .int .u64 0, .int .u64 0] 64)) (.cells #[.int .u64 0, .int .u64 0, .int .u64 0, .int .u64 0, .int .u64 0] 64)
  have hA3 := alloc_size (w.alloc (.cells #[.int .u64 0, .int .u64 0, .int .u64 0, .int .u64 0, .int .u64 0] 64)) (.cells #[.int .u64 0, .int .u64 0, .int .u64 0, .int .u64 0, .int .u64 0] 64)
  have HQ1 : Hid (BoxM ((w.alloc (.cells #[.int .u64 0, .int .u64 0, .int .u64 0, .int .u64 0, .int .u64 0] 64)).alloc (.cells #[.int .u64 0, .int .u64 0, .int .u64 0, .int .u64 0, .int .u64 0] 64)) (w.heap.size + 1) 0) := by rw [← hA1]; exact alloc_at _ _
  have HQ0 : Hid (BoxM ((w.alloc (.cells #[.int .u64 0, .int .u64 0, .int .u64 0, .int .u64 0, .int .u64 0] 64)).alloc (.cells #[.int .u64 0, .int .u64 0, .int .u64 0, .int .u64 0, .int .u64 0] 64)) w.heap.size 0) := (hA2.block _ (by omega)).trans hQ0
  have hb1 : Below w.heap.size w ((w.alloc (.cells #[.int .u64 0, .int .u64 0, .int .u64 0, .int .u64 0, .int .u64 0] 64)).alloc (.cells #[.int .u64 0, .int .u64 0, .int .u64 0, .int .u64 0, .int .u64 0] 64)) := hA0.trans (hA2.mono (by omega))
  obtain ⟨hHl, cH, hlk⟩ := hH.below hb1
  have hDl := hlk.lt
  have cD := hlk.cell n hn
  obtain ⟨D0, hown, him, hkeys⟩ := hlk.keys n hn
  have hMl := (hH.lnk.keys n hn).lt
  have HK : Hid (∀ kl, Maps.has D0 kl = true ↔ ∃ q : Nat, kl = .int .i64 q ∧ r n q) := hkeys
  have HV : Hid (RowM w B L) := hv
  have HL : Hid (L.length = N) := hL
  have HLT : Hid (∀ m, factM L m < 512) := hlt
  have HRr : Hid (∀ k, r n k → k < N) := hr
  have HRR : Hid (∀ i, R.testBit i = true ↔ ∃ k, r n k ∧ (i = k ∨ (factM L k).testBit i = true)) := hR
  have HS : Hid (((w.alloc (.cells #[.int .u64 0, .int .u64 0, .int .u64 0, .int .u64 0, .int .u64 0] 64)).alloc (.cells #[.int .u64 0, .int .u64 0, .int .u64 0, .int .u64 0, .int .u64 0] 64)).heap.size = w.heap.size + 1 + 1) := by show _ = _; omega
  clear hlk hkeys him hv hL hr hR hA0 hA1 hQ0 hA2 hA3 hH hlt
  go_enter Tryz.func53, Tryz.ntmps53
  go_wp2_with (first
    | (at_range; refine wpList_range_own _ rfl _ 65 rfl 3 3 Tryz.lawIntG Tryz.underlying65 _ (mp n) (cnt n) _ rfl hown ?_; intro w2 hrg0 hg0 hs0)
    | go_in)
  go_frame
  generalize (w.alloc (.cells #[.int .u64 0, .int .u64 0, .int .u64 0, .int .u64 0, .int .u64 0] 64)).alloc (.cells #[.int .u64 0, .int .u64 0, .int .u64 0, .int .u64 0, .int .u64 0] 64) = W at *
  have hb2 : Below W.heap.size W w2 := ⟨hg0.os, hg0.tape, hg0.output, hg0.size, fun q hq => hg0.block q hq (by simp)⟩
  have hb20 : Below w.heap.size w w2 := hb1.trans (hb2.mono hb1.size)
  have HQ2 : Hid (BoxM w2 (w.heap.size + 1) 0) := (hb2.block _ (by rw [HS.out]; omega)).trans HQ1.out
  have HQ3 : Hid (BoxM w2 w.heap.size 0) := (hb2.block _ (by rw [HS.out]; omega)).trans HQ0.out
  have HPT : Hid (PtI r (factM L) n (Maps.has D0) 0) := PtI.start _ _ _ _ (fun k hk => (HK.out _).2 ⟨k, rfl, hk⟩)
  clear hown hg0 cD hDl cH hHl HQ0 HQ1 hb1 hb2
  rw [HS.out] at *
  go_loopw [7] (fun _ wr => ∃ (left : Lit → Bool) (ct m : Nat), wr.ranges Tryz.prog 3 (plainElem Tryz.prog 3) (mp n) (w.heap.size + 1 + 1) (cnt n) D0 left ct ∧ ct ≤ Maps.size D0 ∧ Hid (PtI r (factM L) n left m) ∧ Hid (∀ kl, left kl = true → Maps.has D0 kl = true) ∧ Hid (BoxM wr (w.heap.size + 1) m) ∧ Hid (BoxM wr w.heap.size 0) ∧ Below w.heap.size w wr ∧ w.heap.size + 1 + 1 < wr.heap.size) (fun _ wr => wr.rangeLeft (mp n) (w.heap.size + 1 + 1))
  case atStart => exact ⟨_, _, 0, hrg0, Nat.le_refl _, HPT, (fun kl h => h), HQ2, HQ3, hb20, by omega⟩
  case round =>
    clear hb20 hrg0 hs0 HQ2 HQ3 HPT
    obtain ⟨left, ct, m, hrg, hcs, HP, HF, HQ, HQ0, hbr, hsz⟩ := hrel
    go_wp2_with (first
      | (at_next; refine wpList_next_ranges_ii _ rfl _ rfl 3 3 .i64 .i64 Tryz.lawIntG Tryz.underlying3 Tryz.underlying3 (mp n) (w.heap.size + 1 + 1) (cnt n) _ _ _ rfl hrg ?_ ?_)
      | go_in)
    · intro hc0 hl0
      obtain rfl : m = R := HP.out.final hl0 HRR.out
      clear HP HF HRR
      have c0 := HQ.out.c0
      have c1 := HQ.out.c1
      have c2 := HQ.out.c2
      have c3 := HQ.out.c3
      have c4 := HQ.out.c4
      have lq := HQ.out.lt
      have r0 := HQ0.out.c0
      have r1 := HQ0.out.c1
      have r2 := HQ0.out.c2
      have r3 := HQ0.out.c3
      have r4 := HQ0.out.c4
      have g0 := HQ0.out.fz 0
      have g1 := HQ0.out.fz 1
      have g2 := HQ0.out.fz 2
      have g3 := HQ0.out.fz 3
      have g4 := HQ0.out.fz 4
      have lr := HQ0.out.lt
      go_wp2
      have HF : Hid (BoxM (fillM wr w.heap.size m) w.heap.size m) := HQ0.out.fill _
      have hbF := fill_below hbr (Nat.le_refl _) m
      have HX : Hid (((((wr.setCell ⟨w.heap.size, 0, none⟩ (.int .u64 (m : Int))).setCell ⟨w.heap.size, 1, none⟩ (.int .u64 0)).setCell ⟨w.heap.size, 2, none⟩ (.int .u64 0)).setCell ⟨w.heap.size, 3, none⟩ (.int .u64 0)).setCell ⟨w.heap.size, 4, none⟩ (.int .u64 0) = fillM wr w.heap.size m) := by show _ = _; unfold fillM; rfl
      rw [HX.out]
      clear HX
      generalize fillM wr w.heap.size m = W9 at *
      have z0 := HF.out.c0
      have z1 := HF.out.c1
      have z2 := HF.out.c2
      have z3 := HF.out.c3
      have z4 := HF.out.c4
      refine bodyPost_ret (v := .agg #[.int .u64 (m : Int), .int .u64 0, .int .u64 0, .int .u64 0, .int .u64 0]) ?_ rfl ?_
      · simp [results, go_sem, z0, z1, z2, z3, z4]
      · exact ⟨rfl, hbF⟩
    · intro x p w3 ct1 hwx hwc hlx hat hrg1 hlt1 hg1 hs1 hen
      obtain ⟨q, hq, hrq⟩ := (HK.out _).1 (HF.out _ hlx)
      obtain rfl : x = (q : Int) := by simpa using hq
      have hqN := HRr.out q hrq
      have hb3 : Below w.heap.size w w3 := hbr.trans (grown_below hg1 (by omega) (by omega))
      have HQ3 : Hid (BoxM w3 (w.heap.size + 1) m) := (hg1.block _ (by omega) (by simp)).trans HQ.out
      have HQ4 : Hid (BoxM w3 w.heap.size 0) := (hg1.block _ (by omega) (fun e => by have := Option.some.inj e; omega)).trans HQ0.out
      have HP2 : Hid (PtI r (factM L) n (fun z => left z && !z.sameKey (.int .i64 (q : Int))) ((m ||| 2 ^ q) ||| factM L q)) := HP.out.step hrq (by omega) (HLT.out q)
      have hm := HP.out.lt
      have hfq := HLT.out q
      have HW3 : Hid (∀ wx, Below w.heap.size w wx → wx.cell? ⟨B, q * 5, none⟩ = some (.int .u64 (factM L q)) ∧ wx.cell? ⟨B, q * 5 + 1, none⟩ = some (.int .u64 0) ∧ wx.cell? ⟨B, q * 5 + 2, none⟩ = some (.int .u64 0) ∧ wx.cell? ⟨B, q * 5 + 3, none⟩ = some (.int .u64 0) ∧ wx.cell? ⟨B, q * 5 + 4, none⟩ = some (.int .u64 0) ∧ B < wx.heap.size) := fun wx hx => by
        have hV := HV.out.below hx
        have hqL : q < L.length := by rw [HL.out]; exact hqN
        exact ⟨hV.c0 hqL, hV.ck hqL (by omega) (by omega), hV.ck hqL (by omega) (by omega), hV.ck hqL (by omega) (by omega), hV.ck hqL (by omega) (by omega), hV.lt⟩
      have HLE : Hid (wr.rangeLeft (mp n) (w.heap.size + 1 + 1) = ct) := hrg.left_eq
      clear hq HP HRR hbr HQ HQ0 hrg
      generalize factM L q = fq at *
      have HCW : Hid (∀ wx, Calls Tryz.prog 54 #[.agg #[.int .u64 m, .int .u64 0, .int .u64 0, .int .u64 0, .int .u64 0], .int .i64 q] wx fun e w' => e = .returned (.agg #[.int .u64 ((m ||| 2 ^ q : Nat) : Int), .int .u64 0, .int .u64 0, .int .u64 0, .int .u64 0]) ∧ Below wx.heap.size wx w') := fun wx => with_any m q hm (by omega) wx
      have HCJ : Hid (∀ wx, Calls Tryz.prog 55 #[.agg #[.int .u64 ((m ||| 2 ^ q : Nat) : Int), .int .u64 0, .int .u64 0, .int .u64 0, .int .u64 0], .agg #[.int .u64 fq, .int .u64 0, .int .u64 0, .int .u64 0, .int .u64 0]] wx fun e w' => e = .returned (.agg #[.int .u64 (((m ||| 2 ^ q) ||| fq : Nat) : Int), .int .u64 0, .int .u64 0, .int .u64 0, .int .u64 0]) ∧ Below wx.heap.size wx w') := fun wx => join_any _ fq (mk_or hm (by omega)) hfq wx
      generalize hm2 : (m ||| 2 ^ q) ||| fq = m2 at *
      generalize hm1 : m ||| 2 ^ q = m1 at *
      clear hm1 hm2
      have c0 := HQ3.out.c0
      have c1 := HQ3.out.c1
      have c2 := HQ3.out.c2
      have c3 := HQ3.out.c3
      have c4 := HQ3.out.c4
      have lq := HQ3.out.lt
      obtain ⟨k0, k1, k2, k3, k4, k5⟩ := HW3.out w3 hb3
      have HD : Hid (∀ d w5, Below (w3.drewN d).heap.size (w3.drewN d) w5 → Below w3.heap.size w3 w5) := fun d w5 hb => ⟨hb.os, hb.tape, hb.output, hb.size, hb.block⟩
      have HWF : Hid (∀ w5, Below w3.heap.size w3 w5 → wx_facts w5 B q fq ∧ BoxM w5 (w.heap.size + 1) m ∧ BoxM w5 w.heap.size 0 ∧ Below w.heap.size w w5 ∧ w.heap.size + 1 + 1 < w5.heap.size ∧ w5.ranges Tryz.prog 3 (plainElem Tryz.prog 3) (mp n) (w.heap.size + 1 + 1) (cnt n) D0 (fun z => left z && !z.sameKey (.int .i64 (q : Int))) ct1) := fun w5 h5 => by
        have h6 := hb3.trans (h5.mono hb3.size)
        refine ⟨HW3.out w5 h6, (h5.block _ HQ3.out.lt).trans HQ3.out, (h5.block _ HQ4.out.lt).trans HQ4.out, h6, by have := h5.size; omega, hrg1.kept (below_grownN h5) (by simp) (by simp)⟩
      have HM2 : Hid (ct1 < ct) := hlt1
      clear hrg1 HW3
      go_wp2_with fail
      go_region_with (first
        | (go_at_call 54; refine (HCW.out _).mono ?_; rintro e w4 ⟨rfl, hb4⟩; have hb5 := HD.out _ _ hb4; have kk := (HWF.out w4 hb5).1; obtain ⟨k0, k1, k2, k3, k4, k5⟩ := kk; clear hb4)
        | (go_at_call 55; refine (HCJ.out _).mono ?_; rintro e w6 ⟨rfl, hb6⟩; have hb7 := hb5.trans (hb6.mono hb5.size); have kk := (HWF.out w6 hb7).2.1; have z0 := kk.c0; have z1 := kk.c1; have z2 := kk.c2; have z3 := kk.c3; have z4 := kk.c4; have g0 := kk.fz 0; have g1 := kk.fz 1; have g2 := kk.fz 2; have g3 := kk.fz 3; have g4 := kk.fz 4; have lz := kk.lt; clear hb6 kk))
      all_goals
        obtain ⟨_, hx1, hx2, hx3, hx4, hx5⟩ := HWF.out w6 hb7
        have HX : Hid (((((w6.setCell ⟨w.heap.size + 1, 0, none⟩ (.int .u64 (m2 : Int))).setCell ⟨w.heap.size + 1, 1, none⟩ (.int .u64 0)).setCell ⟨w.heap.size + 1, 2, none⟩ (.int .u64 0)).setCell ⟨w.heap.size + 1, 3, none⟩ (.int .u64 0)).setCell ⟨w.heap.size + 1, 4, none⟩ (.int .u64 0) = fillM w6 (w.heap.size + 1) m2) := by show _ = _; unfold fillM; rfl
        rw [HX.out]
        have hgF := fillM_grown w6 (w.heap.size + 1) m2
        have y1 : Hid (BoxM (fillM w6 (w.heap.size + 1) m2) (w.heap.size + 1) m2) := hx1.fill _
        have y2 : Hid (BoxM (fillM w6 (w.heap.size + 1) m2) w.heap.size 0) := (hgF.block _ hx2.lt (by simp)).trans hx2
        have y3 := fill_below hx3 (Nat.le_succ _) m2
        have y4 : w.heap.size + 1 + 1 < (fillM w6 (w.heap.size + 1) m2).heap.size := Nat.lt_of_lt_of_le hx4 hgF.size
        have y5 := hx5.kept hgF (fun e => by have := Option.some.inj e; omega) (fun e => by have := Option.some.inj e; omega)
        clear HX hgF hx1 hx2 hx3 hx4 hx5 HWF HCW HCJ HD k0 k1 k2 k3 k4 k5 z0 z1 z2 z3 z4 g0 g1 g2 g3 g4 lz hb5 hb7
        generalize fillM w6 (w.heap.size + 1) m2 = w9 at *
        try go_simp
        try go_wp2
        go_roundw
        case rel => exact ⟨_, ct1, m2, y5, by have := HM2.out; omega, HP2, (fun kl hkl => HF.out kl (by simp only [Bool.and_eq_true] at hkl; exact hkl.1)), y1, y2, y3, y4⟩
        case measure => rw [y5.left_eq, HLE.out]; exact HM2.out

end Go.Proofs.YtkdoghaoijdedaaGreatDoor

namespace Go.Proofs.YtkdoghaoijdedaaGreatDoor
set_option linter.unusedVariables false

/-- so many steps and one -/
def stepsP (r : Nat → Nat → Prop) : Nat → Nat → Nat → Prop
  | 0, a, b => r a b
  | h + 1, a, b => ∃ c, r a c ∧ stepsP r h c b
theorem steps_append {r : Nat → Nat → Prop} : ∀ (h h' a c b : Nat), stepsP r h a c → stepsP r h' c b → ∃ k, stepsP r k a b
  | 0, h', a, c, b, h1, h2 => ⟨h' + 1, c, h1, h2⟩
  | h + 1, h', a, c, b, h1, h2 => by
    obtain ⟨d, h3, h4⟩ := h1
    obtain ⟨k, hk⟩ := steps_append h h' d c b h4 h2
    exact ⟨k + 1, d, h3, hk⟩
/-- through names below m alone -/
def pathP (r : Nat → Nat → Prop) : Nat → Nat → Nat → Prop
  | 0, a, b => r a b
  | m + 1, a, b => pathP r m a b ∨ (pathP r m a m ∧ pathP r m m b)
theorem path_steps {r : Nat → Nat → Prop} : ∀ (m a b : Nat), pathP r m a b → ∃ h, stepsP r h a b
  | 0, a, b, h => ⟨0, h⟩
  | m + 1, a, b, h => by
    rcases h with h | ⟨h1, h2⟩
    · exact path_steps m a b h
    · obtain ⟨x, hx⟩ := path_steps m a m h1
      obtain ⟨y, hy⟩ := path_steps m m b h2
      exact steps_append x y a m b hx hy
theorem path_trans {r : Nat → Nat → Prop} : ∀ (m a k b : Nat), k < m → pathP r m a k → pathP r m k b → pathP r m a b
  | 0, a, k, b, hk, _, _ => by omega
  | m + 1, a, k, b, hk, h1, h2 => by
    by_cases e : k = m
    · subst e
      have g1 : pathP r k a k := by rcases h1 with h1 | h1; exact h1; exact h1.1
      have g2 : pathP r k k b := by rcases h2 with h2 | h2; exact h2; exact h2.2
      exact .inr ⟨g1, g2⟩
    · have hk' : k < m := by omega
      rcases h1 with h1 | ⟨h1, h1'⟩ <;> rcases h2 with h2 | ⟨h2, h2'⟩
      · exact .inl (path_trans m a k b hk' h1 h2)
      · exact .inr ⟨path_trans m a k m hk' h1 h2, h2'⟩
      · exact .inr ⟨h1, path_trans m m k b hk' h1' h2⟩
      · exact .inr ⟨h1, h2'⟩
theorem path_up {r : Nat → Nat → Prop} (a b : Nat) (h : r a b) : ∀ m, pathP r m a b
  | 0 => h
  | m + 1 => .inl (path_up a b h m)
theorem steps_path {r : Nat → Nat → Prop} {N : Nat} (hr : ∀ a b, r a b → b < N) : ∀ (h a b : Nat), stepsP r h a b → pathP r N a b
  | 0, a, b, h1 => path_up a b h1 N
  | h + 1, a, b, h1 => by
    obtain ⟨c, h2, h3⟩ := h1
    exact path_trans N a c b (hr a c h2) (path_up a c h2 N) (steps_path hr h c b h3)
/-- what the parts of a name say, as a set -/
def partsM (r : Nat → Nat → Bool) (N : Nat) (f : Nat → Nat) (n : Nat) : Nat := (List.range N).foldl (fun m k => if r n k then (m ||| 2 ^ k) ||| f k else m) 0
theorem parts_fold (r : Nat → Nat → Bool) (f : Nat → Nat) (n i : Nat) : ∀ (l : List Nat) (m : Nat), (l.foldl (fun m k => if r n k then (m ||| 2 ^ k) ||| f k else m) m).testBit i = true ↔ m.testBit i = true ∨ ∃ k ∈ l, r n k = true ∧ (i = k ∨ (f k).testBit i = true)
  | [], m => by simp
  | k :: l, m => by
    rw [List.foldl_cons, parts_fold r f n i l]
    cases h : r n k
    · simp [h]
    · simp only [if_true, Nat.testBit_or, Bool.or_eq_true, Nat.testBit_two_pow, decide_eq_true_eq, List.mem_cons]
      constructor
      · rintro (((h1 | h1) | h1) | ⟨q, hq, h2⟩)
        · exact .inl h1
        · exact .inr ⟨k, .inl rfl, h, .inl h1.symm⟩
        · exact .inr ⟨k, .inl rfl, h, .inr h1⟩
        · exact .inr ⟨q, .inr hq, h2⟩
      · rintro (h1 | ⟨q, rfl | hq, h2, h3⟩)
        · exact .inl (.inl (.inl h1))
        · rcases h3 with h3 | h3
          · exact .inl (.inl (.inr h3.symm))
          · exact .inl (.inr h3)
        · exact .inr ⟨q, hq, h2, h3⟩
theorem parts_iff (r : Nat → Nat → Bool) (N : Nat) (f : Nat → Nat) (n i : Nat) : (partsM r N f n).testBit i = true ↔ ∃ k, k < N ∧ r n k = true ∧ (i = k ∨ (f k).testBit i = true) := by
  unfold partsM
  rw [parts_fold]
  simp
theorem parts_lt (r : Nat → Nat → Bool) (N : Nat) (hN : N ≤ 8) (f : Nat → Nat) (hf : ∀ n, f n < 512) (n : Nat) : partsM r N f n < 512 := by
  apply Nat.lt_pow_two_of_testBit (n := 9)
  intro i hi
  rw [← Bool.not_eq_true, parts_iff]
  rintro ⟨k, hk, _, h1 | h1⟩
  · omega
  · have := Nat.testBit_lt_two_pow (x := f k) (i := i) (Nat.lt_of_lt_of_le (hf k) (Nat.pow_le_pow_right (n := 2) (by omega) hi))
    rw [this] at h1; cases h1
theorem parts_ok (r : Nat → Nat → Bool) (N : Nat) (hN : N ≤ 8) : SayOkM N (partsM r N) (fun n k => k < N ∧ r n k = true) (fun n i => ∃ h, stepsP (fun a b => b < N ∧ r a b = true) h n i) where
  lt f hf n := parts_lt r N hN f hf n
  mono f g h n i hi := by
    rw [parts_iff] at *
    obtain ⟨k, h1, h2, h3⟩ := hi
    exact ⟨k, h1, h2, h3.imp id (h k i)⟩
  dep f g n hn h := by
    apply Nat.eq_of_testBit_eq
    intro i
    rw [Bool.eq_iff_iff, parts_iff, parts_iff]
    constructor
    · rintro ⟨k, h1, h2, h3⟩; exact ⟨k, h1, h2, by rw [← h k ⟨h1, h2⟩]; exact h3⟩
    · rintro ⟨k, h1, h2, h3⟩; exact ⟨k, h1, h2, by rw [h k ⟨h1, h2⟩]; exact h3⟩
  sound f h n i hn hs := by
    obtain ⟨k, h1, h2, h3⟩ := (parts_iff _ _ _ _ _).1 hs
    rcases h3 with rfl | h3
    · exact ⟨0, h1, h2⟩
    · obtain ⟨q, hq⟩ := h k i h3
      exact ⟨q + 1, k, ⟨h1, h2⟩, hq⟩
theorem WkM.parts {r : Nat → Nat → Bool} {N : Nat} {L : List Nat} (h : WkM (partsM r N) (fun n i => ∃ h, stepsP (fun a b => b < N ∧ r a b = true) h n i) N L (fun _ => False)) : ∀ n i, n < N → ((factM L n).testBit i = true ↔ pathP (fun a b => b < N ∧ r a b = true) N n i) := by
  have hup : ∀ k n i, n < N → stepsP (fun a b => b < N ∧ r a b = true) k n i → (factM L n).testBit i = true := by
    intro k
    induction k with
    | zero =>
      intro n i hn hs
      rw [h.closed n hn (fun e => e), parts_iff]
      exact ⟨i, hs.1, hs.2, .inl rfl⟩
    | succ k ih =>
      intro n i hn hs
      obtain ⟨c, h1, h2⟩ := hs
      rw [h.closed n hn (fun e => e), parts_iff]
      exact ⟨c, h1.1, h1.2, .inr (ih c i h1.1 h2)⟩
  intro n i hn
  constructor
  · intro hs
    obtain ⟨k, hk⟩ := h.sound n i hs
    exact steps_path (fun a b hab => hab.1) k n i hk
  · intro hp
    obtain ⟨k, hk⟩ := path_steps N n i hp
    exact hup k n i hn hk

end Go.Proofs.YtkdoghaoijdedaaGreatDoor

namespace Go.Proofs.YtkdoghaoijdedaaGreatDoor
open Go.RowKit
set_option linter.unusedVariables false
set_option maxRecDepth 100000

theorem eqM_in (d a b : Nat) (w : World) : (Op.equalIn (d + 1 + 1) 64 (.agg (mkA a)) (.agg (mkA b))).run Tryz.prog w = .ok (a == b) w := by
  have hsz := Tryz.szU64
  rw [Op.equalIn]
  by_cases h : a = b
  · subst h
    simp [run_underlying Tryz.underlying64, go_sem, Std.Legacy.Range.forIn_eq_forIn_range', show List.range' 0 5 = [0, 1, 2, 3, 4] from rfl, mkA]
  · have h2 : ((a : Int) == (b : Int)) = false := by rw [beq_eq_false_iff_ne]; omega
    have h3 : (a == b) = false := by rw [beq_eq_false_iff_ne]; exact h
    rw [h3]
    simp [run_underlying Tryz.underlying64, go_sem, Std.Legacy.Range.forIn_eq_forIn_range', show List.range' 0 5 = [0, 1, 2, 3, 4] from rfl, mkA, h2]
theorem eqM (a b : Nat) (w : World) : (binOp .eql 64 (.agg #[.int .u64 a, .int .u64 0, .int .u64 0, .int .u64 0, .int .u64 0]) (.agg #[.int .u64 b, .int .u64 0, .int .u64 0, .int .u64 0, .int .u64 0])).run Tryz.prog w = .ok (.bool (a == b)) w := by
  rw [run_eql_struct]
  have := eqM_in 9998 a b w
  unfold mkA at this
  rw [this]
  rfl

end Go.Proofs.YtkdoghaoijdedaaGreatDoor
