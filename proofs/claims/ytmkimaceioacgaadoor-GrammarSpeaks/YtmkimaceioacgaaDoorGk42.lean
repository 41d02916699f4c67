/- Texts of the proof, put together: GFsC. -/
import Derived.Test.YtmkimaceioacgaaDoorGk41
import Derived.Test.YtmkimaceioacgaaDoorGk06
import Derived.Test.YtmkimaceioacgaaDoorGk15
namespace Go.Proofs.YtmkimaceioacgaaDoor
open Go.RowKit
set_option linter.unusedVariables false
set_option maxRecDepth 100000

theorem getD_mem (l : List Int) (j : Nat) (h : j < l.length) : l.getD j 0 ∈ l := by simp [List.getD, h]
def foldF (e : Nat → Bool) (f : Nat → Nat) (l : List PdR) : Nat := l.foldl (fun m p => m ||| (opnS f e p.right).1) 0
theorem foldF_take (e : Nat → Bool) (f : Nat → Nat) (l : List PdR) (k : Nat) (hk : k < l.length) : foldF e f (l.take (k + 1)) = foldF e f (l.take k) ||| (opnS f e (l.getD k noPd).right).1 := by
  unfold foldF
  rw [List.take_succ_eq_append_getElem hk, List.foldl_append]
  simp [List.getD, hk]
theorem foldF_lt {e : Nat → Bool} {f : Nat → Nat} (hf : ∀ n, f n < 512) (l : List PdR) (h : ∀ p ∈ l, ∀ s ∈ p.right, s ≤ 8) : foldF e f l < 512 := lt_of_bits fun i hi => by
  obtain ⟨p, hp, h1⟩ := ((or_fold (fun p : PdR => (opnS f e p.right).1) i l 0).1 (show (foldF e f l).testBit i = true from hi)).resolve_left (by simp)
  exact bit_lt (opn_lt hf _ (h p hp)) h1
theorem boxM_cells {w : World} {B m : Nat} (h : BoxM w B m) : w.cell? ⟨B, 0, none⟩ = some (.int .u64 m) ∧ w.cell? ⟨B, 1, none⟩ = some (.int .u64 0) ∧ w.cell? ⟨B, 2, none⟩ = some (.int .u64 0) ∧ w.cell? ⟨B, 3, none⟩ = some (.int .u64 0) ∧ w.cell? ⟨B, 4, none⟩ = some (.int .u64 0) ∧ B < w.heap.size := ⟨h.c0, h.c1, h.c2, h.c3, h.c4, h.lt⟩

set_option maxHeartbeats 8000000 in
theorem firstsC_any (N : Nat) (hN : N ≤ 300) (pl : List PdR) (hpl : pl.length ≤ 400) (hSy : ∀ p ∈ pl, SymsL N p.right) (h8 : ∀ p ∈ pl, ∀ s ∈ p.right, s ≤ 8) (E : List Bool) (EB EV O : Nat) (own : Nat → List PdR) (L : List Nat) (B n : Nat) (hn : n < N) (hown : own n = pl) (w : World) (hL : L.length = N) (hlt : ∀ m, factM L m < 512) (hE : E.length = N) (hv : RowM w B L) (hO : OwnM w O N own) (hEV : VarB w EV EB N E) :
    Calls Tryd.prog 45 #[.slice (some ⟨B, 0, none⟩) N N, .int .i64 n, .pointer (some ⟨O, 0, none⟩), .pointer (some ⟨EV, 0, none⟩)] w fun e w' => e = .returned (mkV (foldF (factB E) (factM L) pl)) ∧ Below w.heap.size w w' := by
  obtain ⟨h1, h2, h3, hb1⟩ := boxes2 w (.cells #[.int .u64 0, .int .u64 0, .int .u64 0, .int .u64 0, .int .u64 0] 76) (.cells #[.int .u64 0, .int .u64 0, .int .u64 0, .int .u64 0, .int .u64 0] 76)
  have HQ0 : Hid (BoxM ((w.alloc (.cells #[.int .u64 0, .int .u64 0, .int .u64 0, .int .u64 0, .int .u64 0] 76)).alloc (.cells #[.int .u64 0, .int .u64 0, .int .u64 0, .int .u64 0, .int .u64 0] 76)) w.heap.size 0) := h1
  have HQ1 : Hid (BoxM ((w.alloc (.cells #[.int .u64 0, .int .u64 0, .int .u64 0, .int .u64 0, .int .u64 0] 76)).alloc (.cells #[.int .u64 0, .int .u64 0, .int .u64 0, .int .u64 0, .int .u64 0] 76)) (w.heap.size + 1) 0) := h2
  have HS : Hid (((w.alloc (.cells #[.int .u64 0, .int .u64 0, .int .u64 0, .int .u64 0, .int .u64 0] 76)).alloc (.cells #[.int .u64 0, .int .u64 0, .int .u64 0, .int .u64 0, .int .u64 0] 76)).heap.size = w.heap.size + 1 + 1) := h3
  obtain ⟨D, p1, p2, p3, p4⟩ := hO
  obtain ⟨pv, p5, p6⟩ := p4 n hn
  rw [hown] at p6
  have q1 := Nat.lt_of_lt_of_le p1 hb1.size
  have q2 := Nat.lt_of_lt_of_le p2 hb1.size
  have q3 := (hb1.cell (p := ⟨O, 0, none⟩) p1).trans p3
  have q5 := (hb1.cell (p := ⟨D, n, none⟩) p2).trans p5
  obtain ⟨pa, pc, rfl⟩ := p6.slice
  have HPW : Hid (PdsM w (.slice pa pl.length pc) pl) := p6
  have HRO : Hid (∀ wx rv k, Below w.heap.size w wx → k < pl.length → IntsR wx rv (pl.getD k noPd).right → Calls Tryd.prog 47 #[rv, .slice (some ⟨B, 0, none⟩) N N, .slice (some ⟨EB, 0, none⟩) N N] wx fun e w' => ∃ om, e = .returned (.slice (some ⟨wx.heap.size, 0, none⟩) ((pl.getD k noPd).right.length + 1) ((pl.getD k noPd).right.length + 1)) ∧ om = (opnS (factM L) (factB E) (pl.getD k noPd).right).1 ∧ (w'.cell? ⟨wx.heap.size, 0, none⟩ = some (.int .u64 (om : Nat)) ∧ w'.cell? ⟨wx.heap.size, 1, none⟩ = some (.int .u64 0) ∧ w'.cell? ⟨wx.heap.size, 2, none⟩ = some (.int .u64 0) ∧ w'.cell? ⟨wx.heap.size, 3, none⟩ = some (.int .u64 0) ∧ w'.cell? ⟨wx.heap.size, 4, none⟩ = some (.int .u64 0) ∧ wx.heap.size < w'.heap.size) ∧ Below wx.heap.size wx w') := fun wx rv k hx hk hr => by
    have hm : pl.getD k noPd ∈ pl := by simp [List.getD, hk]
    refine (rowOp_any N _ rv L E B EB wx hN (hSy _ hm) (fun j hj => h8 _ hm _ (getD_mem _ j hj)) hL hlt hE hr (hv.below hx) (hEV.below hx).row).mono ?_
    rintro e w' ⟨Ol, rfl, hro, hlen, hfq, hb⟩
    have hz : 0 < Ol.length := by omega
    have c0 := hro.c0 hz
    rw [hfq 0 (Nat.zero_le _), Nat.zero_mul, List.drop_zero] at c0
    have c1 := hro.ck hz (k := 1) (by omega) (by omega)
    have c2 := hro.ck hz (k := 2) (by omega) (by omega)
    have c3 := hro.ck hz (k := 3) (by omega) (by omega)
    have c4 := hro.ck hz (k := 4) (by omega) (by omega)
    rw [Nat.zero_mul, Nat.zero_add] at c1 c2 c3 c4
    exact ⟨_, rfl, rfl, ⟨c0, c1, c2, c3, c4, hro.lt⟩, hb⟩
  have HEV : Hid (∀ wx, Below w.heap.size w wx → wx.cell? ⟨EV, 0, none⟩ = some (.slice (some ⟨EB, 0, none⟩) N N) ∧ EV < wx.heap.size) := fun wx hx => ⟨(hEV.below hx).cell, (hEV.below hx).lt⟩
  have HOL : Hid (∀ k, k < pl.length → (opnS (factM L) (factB E) (pl.getD k noPd).right).1 < 512) := fun k hk => opn_lt hlt _ (h8 _ (by simp [List.getD, hk]))
  have HFL : Hid (∀ k, foldF (factB E) (factM L) (pl.take k) < 512) := fun k => foldF_lt hlt _ fun p hp => h8 p (List.mem_of_mem_take hp)
  have HFT : Hid (∀ k, k < pl.length → foldF (factB E) (factM L) (pl.take (k + 1)) = foldF (factB E) (factM L) (pl.take k) ||| (opnS (factM L) (factB E) (pl.getD k noPd).right).1) := fun k hk => foldF_take _ _ _ k hk
  have HF0 : Hid (foldF (factB E) (factM L) (pl.take 0) = 0) := by show _ = _; rw [List.take_zero]; rfl
  have HFE : Hid (foldF (factB E) (factM L) (pl.take pl.length) = foldF (factB E) (factM L) pl) := by show _ = _; rw [List.take_length]
  have HRL : Hid (∀ k, k < pl.length → (pl.getD k noPd).right.length ≤ 20) := fun k hk => (hSy _ (by simp [List.getD, hk])).1
  generalize foldF (factB E) (factM L) pl = R at *
  clear hv hEV hSy h8 hlt h1 h2 h3 p1 p2 p3 p4 p5 p6 hown
  go_enter Tryd.func45, Tryd.ntmps45
  go_wp2
  clear q1 q2 q3 q5
  generalize (w.alloc (.cells #[.int .u64 0, .int .u64 0, .int .u64 0, .int .u64 0, .int .u64 0] 76)).alloc (.cells #[.int .u64 0, .int .u64 0, .int .u64 0, .int .u64 0, .int .u64 0] 76) = W at *
  go_loopw [15] (fun iv wr => ∃ (k m : Nat), k ≤ pl.length ∧ iv = .int .i64 k ∧ Hid (m = foldF (factB E) (factM L) (pl.take k)) ∧ Hid (BoxM wr (w.heap.size + 1) m) ∧ Hid (BoxM wr w.heap.size 0) ∧ Below w.heap.size w wr) (fun iv _ => pl.length - (intOf iv).toNat)
  case atStart => exact ⟨0, 0, Nat.zero_le _, rfl, HF0.out.symm, HQ1, HQ0, hb1⟩
  case round =>
    clear HQ0 HQ1 hb1
    obtain ⟨k, m, hk, rfl, HM, HQ, HQ0, hbw⟩ := hrel
    by_cases hlt : k < pl.length
    · obtain ⟨b, off, rv, hpe, hb, hpd⟩ := (HPW.out.below hbw).at hlt
      subst hpe
      obtain ⟨c0, c1, c2, hrr⟩ := hpd
      have hA := alloc_below wr (.cells #[.int .i64 (pl.getD k noPd).left, rv, .int .i64 (pl.getD k noPd).level] 38)
      have hAs := alloc_size wr (.cells #[.int .i64 (pl.getD k noPd).left, rv, .int .i64 (pl.getD k noPd).level] 38)
      obtain ⟨d0, d1, d2⟩ := box3_cells wr (.int .i64 (pl.getD k noPd).left) rv (.int .i64 (pl.getD k noPd).level) 38
      have hm512 : m < 512 := by rw [HM.out]; exact HFL.out k
      obtain ⟨om, hom⟩ : ∃ om, om = (opnS (factM L) (factB E) (pl.getD k noPd).right).1 := ⟨_, rfl⟩
      have ho512 : om < 512 := by rw [hom]; exact HOL.out k hlt
      have HM2 : Hid (m ||| om = foldF (factB E) (factM L) (pl.take (k + 1))) := by show _ = _; rw [HFT.out k hlt, ← HM.out, ← hom]
      have HRO2 := fun wx hx hr => HRO.out wx rv k hx hlt hr
      rw [← hom] at HRO2
      have hrl := HRL.out k hlt
      obtain ⟨ra, rc, hre⟩ := hrr.slice
      subst hre
      have HIN : Hid (∀ wx, Below (wr.alloc (.cells #[.int .i64 (pl.getD k noPd).left, .slice ra (pl.getD k noPd).right.length rc, .int .i64 (pl.getD k noPd).level] 38)).heap.size (wr.alloc (.cells #[.int .i64 (pl.getD k noPd).left, .slice ra (pl.getD k noPd).right.length rc, .int .i64 (pl.getD k noPd).level] 38)) wx → IntsR wx (.slice ra (pl.getD k noPd).right.length rc) (pl.getD k noPd).right ∧ BoxM wx (w.heap.size + 1) m ∧ BoxM wx w.heap.size 0 ∧ Below w.heap.size w wx ∧ wx.cell? ⟨wr.heap.size, 1, none⟩ = some (.slice ra (pl.getD k noPd).right.length rc) ∧ wr.heap.size < wx.heap.size) := fun wx hx => by
        have hy : Below wr.heap.size wr wx := hA.trans (hx.mono (by omega))
        exact ⟨hrr.below hy, HQ.out.below HQ.out.lt hy, HQ0.out.below HQ0.out.lt hy, hbw.trans (hy.mono hbw.size), (hx.cell (p := ⟨wr.heap.size, 1, none⟩) (by show wr.heap.size < _; omega)).trans d1, by have := hx.size; omega⟩
      generalize hpr : (pl.getD k noPd).right = row at *
      have HRO3 : Hid (∀ wx, Below w.heap.size w wx → IntsR wx (.slice ra row.length rc) row → Calls Tryd.prog 47 #[.slice ra row.length rc, .slice (some ⟨B, 0, none⟩) N N, .slice (some ⟨EB, 0, none⟩) N N] wx fun e w' => e = .returned (.slice (some ⟨wx.heap.size, 0, none⟩) (row.length + 1) (row.length + 1)) ∧ (w'.cell? ⟨wx.heap.size, 0, none⟩ = some (.int .u64 (om : Nat)) ∧ w'.cell? ⟨wx.heap.size, 1, none⟩ = some (.int .u64 0) ∧ w'.cell? ⟨wx.heap.size, 2, none⟩ = some (.int .u64 0) ∧ w'.cell? ⟨wx.heap.size, 3, none⟩ = some (.int .u64 0) ∧ w'.cell? ⟨wx.heap.size, 4, none⟩ = some (.int .u64 0) ∧ wx.heap.size < w'.heap.size) ∧ Below wx.heap.size wx w') := fun wx hx hr => (HRO2 wx hx hr).mono fun e w' ⟨om', h1, h2, h3, h4⟩ => by
        rw [h2] at h3
        exact ⟨h1, h3, h4⟩
      generalize (pl.getD k noPd).left = lf at *
      generalize (pl.getD k noPd).level = lv at *
      have HSZ : Hid ((wr.alloc (.cells #[.int .i64 lf, .slice ra row.length rc, .int .i64 lv] 38)).heap.size = wr.heap.size + 1) := hAs
      clear HRO2 hom HM HRO hrr HQ HQ0 hpr hA d0 d2 hAs HFT HFL HOL HRL d1
      have HJ : Hid (∀ wx, Calls Tryd.prog 46 #[.agg #[.int .u64 m, .int .u64 0, .int .u64 0, .int .u64 0, .int .u64 0], .agg #[.int .u64 om, .int .u64 0, .int .u64 0, .int .u64 0, .int .u64 0]] wx fun e w' => e = .returned (.agg #[.int .u64 ((m ||| om : Nat) : Int), .int .u64 0, .int .u64 0, .int .u64 0, .int .u64 0]) ∧ Below wx.heap.size wx w') := fun wx => join_any m om hm512 ho512 wx
      generalize m ||| om = m2 at *
      go_upto_region 5 with fail
      clear c0 c1 c2
      generalize wr.alloc (.cells #[.int .i64 lf, .slice ra row.length rc, .int .i64 lv] 38) = W1 at *
      obtain ⟨_, x3, _, x5, x6, x7⟩ := HIN.out W1 (Below.refl _ _)
      obtain ⟨a0, a1, a2, a3, a4, a5⟩ := boxM_cells x3
      obtain ⟨y0, y1⟩ := HEV.out W1 x5
      have hpos : (0 : Int) < (row.length : Int) + 1 := by omega
      have HD : Hid (∀ d w5, Below (W1.drewN d).heap.size (W1.drewN d) w5 → Below W1.heap.size W1 w5) := fun d w5 hb => ⟨hb.os, hb.tape, hb.output, hb.size, hb.block⟩
      have HIN2 : Hid (∀ d, IntsR (W1.drewN d) (.slice ra row.length rc) row ∧ Below w.heap.size w (W1.drewN d)) := fun d => ⟨(HIN.out (W1.drewN d) (below_drewG (Below.refl _ _) d)).1, (HIN.out (W1.drewN d) (below_drewG (Below.refl _ _) d)).2.2.2.1⟩
      have HRO4 : Hid (∀ d, Calls Tryd.prog 47 #[.slice ra row.length rc, .slice (some ⟨B, 0, none⟩) N N, .slice (some ⟨EB, 0, none⟩) N N] (W1.drewN d) fun e w' => e = .returned (.slice (some ⟨W1.heap.size, 0, none⟩) (row.length + 1) (row.length + 1)) ∧ (w'.cell? ⟨W1.heap.size, 0, none⟩ = some (.int .u64 (om : Nat)) ∧ w'.cell? ⟨W1.heap.size, 1, none⟩ = some (.int .u64 0) ∧ w'.cell? ⟨W1.heap.size, 2, none⟩ = some (.int .u64 0) ∧ w'.cell? ⟨W1.heap.size, 3, none⟩ = some (.int .u64 0) ∧ w'.cell? ⟨W1.heap.size, 4, none⟩ = some (.int .u64 0) ∧ W1.heap.size < w'.heap.size) ∧ Below W1.heap.size W1 w') := fun d => (HRO3.out _ (HIN2.out d).2 (HIN2.out d).1).mono fun e w' ⟨h1, h2, h3⟩ => ⟨h1, h2, HD.out d w' h3⟩
      clear x3 x5 HRO3 HIN2
      go_wp2_with fail
      go_region_with (first
        | (go_at_call 47; refine (HRO4.out _).mono ?_; rintro e w4 ⟨rfl, ⟨o0, o1, o2, o3, o4, o5⟩, hb5⟩; obtain ⟨_, kk, _, _, _, _⟩ := HIN.out w4 hb5; obtain ⟨a0, a1, a2, a3, a4, a5⟩ := boxM_cells kk; clear kk)
        | (go_at_call 46; refine (HJ.out _).mono ?_; rintro e w6 ⟨rfl, hb6⟩; have hb7 := hb5.trans (hb6.mono hb5.size); obtain ⟨_, kk, _, _, _, _⟩ := HIN.out w6 hb7; have z0 := kk.c0; have z1 := kk.c1; have z2 := kk.c2; have z3 := kk.c3; have z4 := kk.c4; have g0 := kk.fz 0; have g1 := kk.fz 1; have g2 := kk.fz 2; have g3 := kk.fz 3; have g4 := kk.fz 4; have lz := kk.lt; clear hb6 kk))
      all_goals
        obtain ⟨_, hx1, hx2, hx3, _, _⟩ := HIN.out w6 hb7
        have HX : Hid (((((w6.setCell ⟨w.heap.size + 1, 0, none⟩ (.int .u64 (m2 : Int))).setCell ⟨w.heap.size + 1, 1, none⟩ (.int .u64 0)).setCell ⟨w.heap.size + 1, 2, none⟩ (.int .u64 0)).setCell ⟨w.heap.size + 1, 3, none⟩ (.int .u64 0)).setCell ⟨w.heap.size + 1, 4, none⟩ (.int .u64 0) = fillM w6 (w.heap.size + 1) m2) := by show _ = _; unfold fillM; rfl
        rw [HX.out]
        have hgF := fillM_grown w6 (w.heap.size + 1) m2
        have y1 : Hid (BoxM (fillM w6 (w.heap.size + 1) m2) (w.heap.size + 1) m2) := hx1.fill _
        have y2 : Hid (BoxM (fillM w6 (w.heap.size + 1) m2) w.heap.size 0) := (hgF.block _ hx2.lt (by simp)).trans hx2
        have y3 := fill_below hx3 (Nat.le_succ _) m2
        clear HX hgF hx1 hx2 hx3 HIN HRO4 HJ HD a0 a1 a2 a3 a4 a5 o0 o1 o2 o3 o4 o5 z0 z1 z2 z3 z4 g0 g1 g2 g3 g4 lz hb5 hb7 x6 x7
        generalize fillM w6 (w.heap.size + 1) m2 = w9 at *
        try go_simp
        try go_wp2
        go_roundw
        case rel => exact ⟨k + 1, m2, by omega, by go_num, HM2, y1, y2, y3⟩
        case measure => simp [intOf]; omega
    · obtain rfl : k = pl.length := by omega
      have hmR : m = R := by rw [HM.out, HFE.out]
      subst hmR
      clear HM HRO HFT HFL HOL HRL HFE HF0
      have c0 := HQ.out.c0
      have c1 := HQ.out.c1
      have c2 := HQ.out.c2
      have c3 := HQ.out.c3
      have c4 := HQ.out.c4
      have lq := HQ.out.lt
      have r0 := HQ0.out.c0
      have r1 := HQ0.out.c1
      have r2 := HQ0.out.c2
      have r3 := HQ0.out.c3
      have r4 := HQ0.out.c4
      have g0 := HQ0.out.fz 0
      have g1 := HQ0.out.fz 1
      have g2 := HQ0.out.fz 2
      have g3 := HQ0.out.fz 3
      have g4 := HQ0.out.fz 4
      have lr := HQ0.out.lt
      go_wp2
      have HF : Hid (BoxM (fillM wr w.heap.size m) w.heap.size m) := HQ0.out.fill _
      have hbF := fill_below hbw (Nat.le_refl _) m
      have HX : Hid (((((wr.setCell ⟨w.heap.size, 0, none⟩ (.int .u64 (m : Int))).setCell ⟨w.heap.size, 1, none⟩ (.int .u64 0)).setCell ⟨w.heap.size, 2, none⟩ (.int .u64 0)).setCell ⟨w.heap.size, 3, none⟩ (.int .u64 0)).setCell ⟨w.heap.size, 4, none⟩ (.int .u64 0) = fillM wr w.heap.size m) := by show _ = _; unfold fillM; rfl
      rw [HX.out]
      clear HX
      generalize fillM wr w.heap.size m = W9 at *
      have z0 := HF.out.c0
      have z1 := HF.out.c1
      have z2 := HF.out.c2
      have z3 := HF.out.c3
      have z4 := HF.out.c4
      refine bodyPost_ret (v := .agg #[.int .u64 (m : Int), .int .u64 0, .int .u64 0, .int .u64 0, .int .u64 0]) ?_ rfl ?_
      · simp [results, go_sem, z0, z1, z2, z3, z4]
      · exact ⟨rfl, hbF⟩

end Go.Proofs.YtmkimaceioacgaaDoor
