/- Texts of the proof, put together: YRedB. -/
import Derived.Test.YtdihdnhofgjhnaaDoorPy17
import Derived.Deep.RegionHeldLaw
namespace Go.Proofs.YtdihdnhofgjhnaaDoor
open Go.RowKit
set_option linter.unusedVariables false
set_option maxRecDepth 100000

theorem Tryd.infoIntY : (Tryd.prog.info? 3).map (fun i => (i.zero, i.size, i.bytes)) = some (some (.int .i64 0), 1, 8) := by kernel_rfl
theorem Tryd.infoTreeY : (Tryd.prog.info? 34).map (fun i => (i.zero, i.size, i.bytes)) = some (some (.pointer none), 1, 8) := by kernel_rfl
theorem pd_ok {g : Gm} (h : gOkB g = true) {p : Int} (hp : 0 ≤ p ∧ p < g.prods.length) : 0 ≤ (prodOf g p).left ∧ (prodOf g p).left < g.names ∧ (prodOf g p).right.length ≤ 20 := by
  unfold gOkB at h
  simp only [Bool.and_eq_true, List.all_eq_true] at h
  have hl : p.toNat < g.prods.length := by omega
  have h1 := h.2.2.2 (prodOf g p) (by
    unfold prodOf
    rw [List.getD_eq_getElem?_getD, List.getElem?_eq_getElem hl]
    exact List.getElem_mem hl)
  unfold pdB at h1
  simp only [Bool.and_eq_true, decide_eq_true_eq] at h1
  exact ⟨h1.1.1.1.1.1, h1.1.1.1.1.2, h1.1.2⟩
theorem BoxX.set0 {w : World} {Q : Nat} {a b : Value} (h : BoxX w Q a b) (x : Value) : BoxX (w.setCell ⟨Q, 0, none⟩ x) Q x b := by
  have h1 := heap_setCell_same w Q 0 _ 75 x h.blk
  exact ⟨by simpa using h.lt, by simpa using h1⟩
theorem BoxX.set1 {w : World} {Q : Nat} {a b : Value} (h : BoxX w Q a b) (x : Value) : BoxX (w.setCell ⟨Q, 1, none⟩ x) Q a x := by
  have h1 := heap_setCell_same w Q 1 _ 75 x h.blk
  exact ⟨by simpa using h.lt, by simpa using h1⟩
theorem grown_setY (w : World) (Q i : Nat) (x : Value) : w.grownBy (w.setCell ⟨Q, i, none⟩ x) (some Q) :=
  ⟨rfl, by simp, rfl, by simp, fun k _ hne => Below.heap_setCell _ _ _ _ (by simpa using fun e => hne (by rw [e]))⟩
theorem own_setY {w : World} {e : TypeId} {B n Q i : Nat} {v x : Value} {vs : List Value} (h : w.ownsRow B e 1 v n vs) (hne : v.ownBlock ≠ some Q) : (w.setCell ⟨Q, i, none⟩ x).ownsRow B e 1 v n vs :=
  h.kept (grown_setY w Q i x) (.inr hne)

theorem below_grownY {K : Nat} {w0 w w' : World} {o : Obj} {row : Option Nat} (h : Below K w0 w) (hg : (w.alloc o).grownBy w' row) (hrow : ∀ b, row = some b → K ≤ b) (hK : K ≤ w.heap.size) : Below K w0 w' := by
  have hs : w.heap.size + 1 ≤ w'.heap.size := by have := hg.size; simpa using this
  refine ⟨hg.os.trans h.os, by simpa using hg.tape.trans h.tape, hg.output.trans h.output, by have := h.size; omega, fun k hk => ?_⟩
  rw [hg.block k (by simp; omega) (fun e => by have := hrow k e.symm; omega), Below.heap_alloc w o k (by omega)]
  exact h.block k hk
theorem boxX_grownY {w w' : World} {Q : Nat} {a b : Value} {o : Obj} {row : Option Nat} (h : BoxX w Q a b) (hg : (w.alloc o).grownBy w' row) (hrow : row ≠ some Q) : BoxX w' Q a b := by
  have hs : w.heap.size + 1 ≤ w'.heap.size := by have := hg.size; simpa using this
  have hlt := h.lt
  refine ⟨by omega, ?_⟩
  rw [hg.block Q (by simp; omega) (fun e => hrow e.symm), Below.heap_alloc w o Q hlt]
  exact h.blk
theorem own_grownY {w w' : World} {e : TypeId} {B n : Nat} {v : Value} {vs : List Value} {o : Obj} {row : Option Nat} (h : w.ownsRow B e 1 v n vs) (hg : (w.alloc o).grownBy w' row) (hne : v.ownBlock = none ∨ v.ownBlock ≠ row) : w'.ownsRow B e 1 v n vs :=
  (World.ownsRow.alloc h o).kept hg hne
/-- what a reduction answers -/
def RedP (B : Nat) (w : World) (xs xt ev : Value) (o : Option Pl) (e : Ending) (w' : World) : Prop :=
  Below w.heap.size w w' ∧ ((o = none ∧ e = .returned (.tuple #[.agg #[xs, xt], ev])) ∨ ∃ σ' xs' xt' us', o = some σ' ∧ e = .returned (.tuple #[.agg #[xs', xt'], .nilIface]) ∧ StM B w' xs' xt' σ' us')
theorem own_drewN {w : World} {e : TypeId} {B n : Nat} {v : Value} {vs : List Value} (h : w.ownsRow B e 1 v n vs) (k : Nat) : (w.drewN k).ownsRow B e 1 v n vs := h

set_option maxHeartbeats 8000000 in
theorem rred_go (g : Gm) (pv lv sv : Value) (tb : Tb) (av ov cv : Value) (xs xt ev : Value) (B : Nat) (σ : Pl) (us : List Value) (p : Int) (w : World) (hf : fitsB g tb = true) (hG : GrM w g pv lv sv) (hT : TbM w tb av ov cv) (hX : StM B w xs xt σ us) (hok : PlOk g tb σ) (hB : B ≤ w.heap.size) (hlen : σ.length ≤ 1000000) (hp : 0 ≤ p ∧ p < g.prods.length) (hev : w.cell? ⟨2, 0, none⟩ = some ev) (hge : (prodOf g p).right.length ≤ σ.length) (hnz : xt ≠ .slice none 0 0) :
    Calls Tryd.prog 43 #[gv g pv lv sv, tvv av ov cv, .agg #[xs, xt], .int .i64 p] w fun e w' => RedP B w xs xt ev (redS g tb p σ) e w' := by
  obtain ⟨hB0, hsz, hBX, hBT, hBS, hBR⟩ := boxS_all w g pv lv sv av ov cv xs xt
  have HWB : Hid ((((w.alloc (.cells (gvs g pv lv sv) 25)).alloc (.cells (tvs av ov cv) 30)).alloc (.cells #[xs, xt] 75)).alloc (.cells #[.slice none 0 0, .slice none 0 0] 75) = boxS w g pv lv sv av ov cv xs xt) := rfl
  obtain ⟨hf1, hf2, hf3, hf4, _⟩ := fits_parts hf
  obtain ⟨hl0, hl1, hl2⟩ := pd_ok hf1 hp
  obtain ⟨hst0, hst1⟩ := topS_ok (hok.drop (prodOf g p).right.length) hf2
  obtain ⟨hgl, hg0, hg1⟩ := goto_ok hf ⟨hst0, hst1⟩ ⟨hl0, hl1⟩
  have htop := stL_top σ _ hge
  obtain ⟨i1, hi0, hi1, hi2, hi3⟩ := info_parts Tryd.infoIntY
  obtain ⟨j1, hj0, hj1, hj2, hj3⟩ := info_parts Tryd.infoTreeY
  obtain ⟨pa, pc, rfl⟩ := hG.prods.slice
  obtain ⟨oa, oc, rfl⟩ := hT.gotos.slice
  obtain ⟨hp0, hp1⟩ := hp
  obtain ⟨pb, poff, rv, rfl, hpb, hpm⟩ := hG.prods.at (k := p.toNat) (by omega)
  obtain ⟨ob, ooff, orv, rfl, hob, hoc, hor⟩ := hT.gotos.at (k := (topS (σ.drop (prodOf g p).right.length)).toNat) (by omega)
  obtain ⟨ra, rc, rfl⟩ := hpm.right.slice
  obtain ⟨oa2, oc2, rfl⟩ := hor.slice
  obtain ⟨rb, roff, rfl, hrb, hrc⟩ := hor.at hgl
  obtain ⟨m0, m1, m2, hrr⟩ := hpm
  obtain ⟨ta, tc, rfl, hul, hxt⟩ := hX.trees
  obtain ⟨gs, cs, rfl, hgs, hcs1, hcs2, hxs⟩ := hX.states
  have hxk := hxs (σ.length - (prodOf g p).right.length) (by omega)
  rw [htop] at hxk
  have hkey : (tb.gotos.getD (topS (σ.drop (prodOf g p).right.length)).toNat []).getD ((prodOf g p).left).toNat 0 = gotoOf tb (topS (σ.drop (prodOf g p).right.length)) (prodOf g p).left := rfl
  rw [hkey] at hrc
  clear hkey
  have hpo : g.prods.getD p.toNat noPd = prodOf g p := rfl
  rw [hpo] at m0 m1 m2 hrr
  generalize hS : topS (σ.drop (prodOf g p).right.length) = st at *
  generalize hTo : gotoOf tb st (prodOf g p).left = to at *
  generalize (tb.gotos.getD st.toNat []).length = ol at *
  have HX : Hid (StM B w (.slice (some ⟨gs, 0, none⟩) (σ.length + 1) cs) (.slice ta σ.length tc) σ us) := hX
  generalize hRL : (prodOf g p).right.length = rl at *
  generalize hLF : (prodOf g p).left = lf at *
  generalize hN : σ.length = n at *
  obtain ⟨k, rfl⟩ : ∃ k, n = k + rl := ⟨n - rl, by omega⟩
  rw [show k + rl - rl = k by omega] at hxk
  generalize boxS w g (.slice (some ⟨pb, poff, none⟩) g.prods.length pc) lv sv av (.slice (some ⟨ob, ooff, none⟩) tb.gotos.length oc) cv (.slice (some ⟨gs, 0, none⟩) (k + rl + 1) cs) (.slice ta (k + rl) tc) = W at *
  have HC : Hid (∀ wr, Below (w.heap.size + 4) W wr → Below w.heap.size w wr ∧ w.heap.size + 4 ≤ wr.heap.size ∧ wr.cell? ⟨w.heap.size, 3, none⟩ = some (.slice (some ⟨pb, poff, none⟩) g.prods.length pc) ∧ wr.cell? ⟨w.heap.size + 1, 1, none⟩ = some (.slice (some ⟨ob, ooff, none⟩) tb.gotos.length oc) ∧ wr.cell? ⟨w.heap.size + 2, 0, none⟩ = some (.slice (some ⟨gs, 0, none⟩) (k + rl + 1) cs) ∧ wr.cell? ⟨w.heap.size + 2, 1, none⟩ = some (.slice ta (k + rl) tc) ∧ wr.cell? ⟨pb, poff + p.toNat * 3, none⟩ = some (.int .i64 lf) ∧ wr.cell? ⟨pb, poff + p.toNat * 3 + 1, none⟩ = some (.slice ra rl rc) ∧ wr.cell? ⟨ob, ooff + st.toNat, none⟩ = some (.slice (some ⟨rb, roff, none⟩) ol oc2) ∧ wr.cell? ⟨rb, roff + lf.toNat, none⟩ = some (.int .i64 to) ∧ wr.cell? ⟨gs, k, none⟩ = some (.int .i64 st) ∧ wr.cell? ⟨2, 0, none⟩ = some ev ∧ BoxX wr (w.heap.size + 3) (.slice none 0 0) (.slice none 0 0)) := fun wr hb => by
    have h1 : Below w.heap.size w wr := hB0.trans (hb.mono (by omega))
    exact ⟨h1, by have := hb.size; omega, (hb.cell (p := ⟨w.heap.size, 3, none⟩) (show w.heap.size < w.heap.size + 4 by omega)).trans hBX.c3, (hb.cell (p := ⟨w.heap.size + 1, 1, none⟩) (show w.heap.size + 1 < w.heap.size + 4 by omega)).trans hBT.c1, (hb.cell (p := ⟨w.heap.size + 2, 0, none⟩) (show w.heap.size + 2 < w.heap.size + 4 by omega)).trans hBS.c0, (hb.cell (p := ⟨w.heap.size + 2, 1, none⟩) (show w.heap.size + 2 < w.heap.size + 4 by omega)).trans hBS.c1, (h1.cell (p := ⟨pb, poff + p.toNat * 3, none⟩) hpb).trans m0, (h1.cell (p := ⟨pb, poff + p.toNat * 3 + 1, none⟩) hpb).trans m1, (h1.cell (p := ⟨ob, ooff + st.toNat, none⟩) hob).trans hoc, (h1.cell (p := ⟨rb, roff + lf.toNat, none⟩) hrb).trans hrc, (h1.cell (p := ⟨gs, k, none⟩) hgs).trans hxk, (h1.cell (p := ⟨2, 0, none⟩) (lt_of_cellY hev)).trans hev, hBR.below (K := w.heap.size + 4) (by omega) hb⟩
  have HN : Hid (σ.length = k + rl) := hN
  have HRL : Hid ((prodOf g p).right.length = rl) := hRL
  have HLF : Hid ((prodOf g p).left = lf) := hLF
  have HS : Hid (topS (σ.drop rl) = st) := hS
  have HTo : Hid (gotoOf tb st lf = to) := hTo
  have hpb' : pb < W.heap.size := by omega
  have hstL : st < (tb.gotos.length : Int) := by omega
  have hlfL : lf < (ol : Int) := by omega
  have hwk : IntKind.i64.wrap (((k + rl : Nat) : Int) - (rl : Int)) = (k : Int) := by rw [IntKind.wrap_i64]; omega
  have HSZ : Hid (W.heap.size = w.heap.size + 4) := hsz
  have HRD : Hid ((to < 0 → redS g tb p σ = none) ∧ (¬ to < 0 → redS g tb p σ = some ((nodeT p ((σ.take rl).map Prod.fst).reverse, to) :: σ.drop rl))) := by
    unfold redS
    rw [hRL, hLF, hS, hTo, hN]
    refine ⟨fun h => ?_, fun h => ?_⟩
    · rw [if_neg (by omega), if_pos h]
    · rw [if_neg (by omega), if_neg h]
  generalize redS g tb p σ = oR at *
  clear hG hT hX hB0 hBX hBT hBS hBR m0 m1 m2 hrr hoc hrc hxk hxs hev hok hf hf1 hf2 hf3 hf4 htop hS hTo hRL hLF hN hge hor hst1 hl1 hl2 hgl hsz hpo hg1
  have hC0 := HC.out W (Below.refl _ _)
  obtain ⟨c0, c1, c2, c3, c4, c5, c6, c7, c8, c9, c10, c11, hR⟩ := hC0
  rcases hxt with ⟨rfl, rfl, h0⟩ | ⟨gt, rfl, hgt, htc, htm, hxc⟩
  · exact absurd (by rw [h0]) hnz
  · have hle : ¬ k + rl < rl := by omega
    unfold gv gvs tvv tvs at *
    go_enter Tryd.func43, Tryd.ntmps43
    go_upto_region 1 with fail
    rw [HWB.out]
    go_upto_region 6 with fail
    have HW1 : Hid (Below (w.heap.size + 4) W (W.alloc (.cells #[.int .i64 p, .int .i64 0, .slice none 0 0] 81))) := (alloc_below W _).mono (by have := HSZ.out; omega)
    have HQ1 : Hid ((W.alloc (.cells #[.int .i64 p, .int .i64 0, .slice none 0 0] 81)).heap[W.heap.size]? = some (.cells #[.int .i64 p, .int .i64 0, .slice none 0 0] 81 (0, 0))) := heap_alloc_new W _
    have HS1 : Hid ((W.alloc (.cells #[.int .i64 p, .int .i64 0, .slice none 0 0] 81)).heap.size = w.heap.size + 5) := by show _ = _; rw [alloc_size, HSZ.out]
    clear c0 c1 c2 c3 c4 c5 c6 c7 c8 c9 c10 c11 hR hpb' hle
    generalize W.alloc (.cells #[.int .i64 p, .int .i64 0, .slice none 0 0] 81) = W1 at *
    generalize W.heap.size = Q at *
    obtain ⟨d0, d1, d2, d3, d4, d5, d6, d7, d8, d9, d10, d11, hR⟩ := HC.out W1 HW1.out
    have hq2 : W1.cell? ⟨Q, 2, none⟩ = some (.slice none 0 0) := by simp [World.cell?, HQ1.out]
    have hqf : W1.frozen? ⟨Q, 2, none⟩ = false := by simp [World.frozen?, HQ1.out]
    have hql : Q < W1.heap.size := (Array.getElem?_eq_some_iff.1 HQ1.out).1
    clear d6 d7 d8 d9 d10 d11 hR
    have hkr : (k : Int) ≤ (k : Int) + (rl : Int) := by omega
    have HNW : Hid (rl = 0 ∨ ∃ b off, (if tc = k then some (⟨gt, 0, none⟩ : Addr) else some ⟨gt, k, none⟩) = some ⟨b, off, none⟩ ∧ ∀ j u, (us.drop k)[j]? = some u → W1.drew.cell? ⟨b, off + j, none⟩ = some u) := by
      rcases Nat.eq_zero_or_pos rl with h0 | h0
      · exact .inl h0
      · refine .inr ⟨gt, k, by rw [if_neg (by omega)], fun j u hu => ?_⟩
        have hj : k + j < k + rl := by
          have := (List.getElem?_eq_some_iff.1 hu).1
          rw [List.length_drop, hul] at this
          omega
        have h2 := (d0.cell (p := ⟨gt, k + j, none⟩) hgt).trans (hxc (k + j) hj)
        rw [List.getElem?_drop] at hu
        rw [List.getD_eq_getElem?_getD, hu] at h2
        exact h2
    have HLN : Hid ((us.drop k).length = rl) := by show _ = _; rw [List.length_drop]; omega
    have H1C : Hid (∀ u ∈ us.drop k, u.oneCell' = true) := fun u hu => by
      obtain ⟨j, hj, e⟩ := List.getElem_of_mem (List.mem_of_mem_drop hu)
      obtain ⟨b, hb⟩ := (HX.out.tr.2.2 j (by rw [trL_len]; have := HN.out; omega)).1
      rw [List.getD_eq_getElem?_getD, List.getElem?_eq_getElem hj, Option.getD_some, e] at hb
      rw [hb]; rfl
    have hrl : rl ≤ 1000000000 := by omega
    have HE : Hid (w.heap.size + 5 ≤ W1.drew.heap.size) := by show _ ≤ W1.heap.size; rw [HS1.out]; exact Nat.le_refl _
    have HQ6 : Hid (∀ w6, Below W1.drew.heap.size W1.drew w6 → w6.cell? ⟨Q, 2, none⟩ = some (.slice none 0 0) ∧ w6.frozen? ⟨Q, 2, none⟩ = false ∧ Q < w6.heap.size) := fun w6 hb => by
      have h1 := (hb.block Q hql).trans HQ1.out
      exact ⟨by simp [World.cell?, h1], by simp [World.frozen?, h1], (Array.getElem?_eq_some_iff.1 h1).1⟩
    have HN6 : Hid (∀ w6 ka kc, w6.ownsRow (w.heap.size + 5) 34 1 (.slice ka rl kc) rl (us.drop k) → Below W1.drew.heap.size W1.drew w6 → Below (w.heap.size + 4) W (w6.setCell ⟨Q, 2, none⟩ (.slice ka rl kc)) ∧ (w6.setCell ⟨Q, 2, none⟩ (.slice ka rl kc)).heap[Q]? = some (.cells #[.int .i64 p, .int .i64 0, .slice ka rl kc] 81 (0, 0)) ∧ (w6.setCell ⟨Q, 2, none⟩ (.slice ka rl kc)).ownsRow (w.heap.size + 5) 34 1 (.slice ka rl kc) rl (us.drop k)) := fun w6 ka kc hown hb => by
      have hb' : Below W1.heap.size W1 w6 := (below_drewY (Below.refl _ W1)).trans hb
      have h1 := (hb'.block Q hql).trans HQ1.out
      refine ⟨?_, ?_, own_setY hown fun e => ?_⟩
      · exact (HW1.out.trans (hb'.mono (by rw [HS1.out]; omega))).trans (((Below.refl _ _).setCell (p := ⟨Q, 2, none⟩) (Nat.le_refl _) _).mono (Nat.le_of_eq HSZ.out.symm))
      · have := heap_setCell_same w6 Q 2 _ 81 (.slice ka rl kc) h1
        simpa using this
      · have := (hown.lt Q e).1
        have := HSZ.out
        omega
    go_region_law (refine step_append_all rfl _ _ 73 34 j1 (.pointer none) Tryd.underlying73 hj0 hj1 hj2 hj3 rfl rfl _ _ _ (us.drop k) rfl rfl HLN.out HNW.out H1C.out hrl (w.heap.size + 5) HE.out ?_; intro ka kc w6 hown6 hb6; obtain ⟨e0, e1, e2⟩ := HQ6.out w6 hb6)
    all_goals
      have hn6 := HN6.out w6 ka kc hown6 hb6
      have HB7 : Hid (Below (w.heap.size + 4) W (w6.setCell ⟨Q, 2, none⟩ (.slice ka rl kc))) := hn6.1
      have HQ7 : Hid ((w6.setCell ⟨Q, 2, none⟩ (.slice ka rl kc)).heap[Q]? = some (.cells #[.int .i64 p, .int .i64 0, .slice ka rl kc] 81 (0, 0))) := hn6.2.1
      have HO7 : Hid ((w6.setCell ⟨Q, 2, none⟩ (.slice ka rl kc)).ownsRow (w.heap.size + 5) 34 1 (.slice ka rl kc) rl (us.drop k)) := hn6.2.2
      clear hn6 hown6 hb6 e0 e1 e2 HN6 HQ6 HE HNW HLN H1C hql hqf hq2 d0 d1 d2 d3 d4 d5 HW1 HQ1 HS1 hkr
      generalize w6.setCell ⟨Q, 2, none⟩ (.slice ka rl kc) = W7 at *
      clear w6
      obtain ⟨d0, d1, d2, d3, d4, d5, d6, d7, d8, d9, d10, d11, hR⟩ := HC.out W7 HB7.out
      generalize (if tc = k then some (⟨gt, 0, none⟩ : Addr) else some ⟨gt, k, none⟩) = ad6 at *
      have hdt : decide (to < 0) = decide (to < 0) := rfl
      go_wp2_with fail
      go_quiet (fail)
      clear d0 d1 d2 d3 d4 d5 d6 d7 d8 d9 d10 d11 hR hdt
      have HB8 : Hid (Below (w.heap.size + 4) W (W7.drewN nq)) := below_drewG HB7.out nq
      have HQ8 : Hid ((W7.drewN nq).heap[Q]? = some (.cells #[.int .i64 p, .int .i64 0, .slice ka rl kc] 81 (0, 0))) := HQ7.out
      have HO8 : Hid ((W7.drewN nq).ownsRow (w.heap.size + 5) 34 1 (.slice ka rl kc) rl (us.drop k)) := own_drewN HO7.out nq
      clear HB7 HQ7 HO7
      generalize W7.drewN nq = W8 at *
      obtain ⟨d0, d1, d2, d3, d4, d5, d6, d7, d8, d9, d10, d11, hR⟩ := HC.out W8 HB8.out
      by_cases hto : to < 0
      · have hdt : decide (to < 0) = true := decide_eq_true hto
        have hr0 := hR.c0
        have hr1 := hR.c1
        have hrf0 := hR.f0 0
        have hrf1 := hR.f0 1
        have hrlt := hR.lt
        have HFB : Hid (Below w.heap.size w ((W8.setCell ⟨w.heap.size + 1 + 1 + 1, 0, none⟩ (.slice (some ⟨gs, 0, none⟩) (k + rl + 1) cs)).setCell ⟨w.heap.size + 1 + 1 + 1, 1, none⟩ (.slice (some ⟨gt, 0, none⟩) (k + rl) tc)).drew) := below_drewY (d0.trans ((below_stored _ _).mono (by omega)))
        have HFR : Hid (BoxX ((W8.setCell ⟨w.heap.size + 1 + 1 + 1, 0, none⟩ (.slice (some ⟨gs, 0, none⟩) (k + rl + 1) cs)).setCell ⟨w.heap.size + 1 + 1 + 1, 1, none⟩ (.slice (some ⟨gt, 0, none⟩) (k + rl) tc)).drew (w.heap.size + 1 + 1 + 1) (.slice (some ⟨gs, 0, none⟩) (k + rl + 1) cs) (.slice (some ⟨gt, 0, none⟩) (k + rl) tc)) := (hR.stored _ _).drewY
        go_wp2
        go_region
        all_goals
          clear hr0 hr1 hrf0 hrf1 hrlt d0 d1 d2 d3 d4 d5 d6 d7 d8 d9 d10 d11 hR HQ8 HO8 HB8 HC
          generalize ((W8.setCell ⟨w.heap.size + 1 + 1 + 1, 0, none⟩ (.slice (some ⟨gs, 0, none⟩) (k + rl + 1) cs)).setCell ⟨w.heap.size + 1 + 1 + 1, 1, none⟩ (.slice (some ⟨gt, 0, none⟩) (k + rl) tc)).drew = W9 at *
          have k0 := HFR.out.c0
          have k1 := HFR.out.c1
          go_wp2
          refine bodyPost_ret (v := .tuple #[.agg #[.slice (some ⟨gs, 0, none⟩) (k + rl + 1) cs, .slice (some ⟨gt, 0, none⟩) (k + rl) tc], ev]) (by simp [results, go_sem, k0, k1]) rfl ?_
          exact ⟨HFB.out, .inl ⟨HRD.out.1 hto, rfl⟩⟩
      · have hdt : decide (to < 0) = false := decide_eq_false hto
        clear d6 d7 d8 d9 d10 d11 hR
        go_upto_region 11 with fail
        clear d0 d1 d2 d3 d4 d5
        have hd1 : w.heap.size + 4 ≤ W8.heap.size := (HC.out W8 HB8.out).2.1
        have HW9 : Hid (Below W8.heap.size W8 (W8.alloc (.cells #[.slice none 0 0, .slice none 0 0] 75))) := alloc_below _ _
        have HY9 : Hid (BoxX (W8.alloc (.cells #[.slice none 0 0, .slice none 0 0] 75)) W8.heap.size (.slice none 0 0) (.slice none 0 0)) := ⟨by simp, heap_alloc_new _ _⟩
        have HS9 : Hid ((W8.alloc (.cells #[.slice none 0 0, .slice none 0 0] 75)).heap.size = W8.heap.size + 1) := alloc_size _ _
        have HCB : Hid (∀ wr, Below W8.heap.size W8 wr → Below (w.heap.size + 4) W wr) := fun wr hb => HB8.out.trans (hb.mono hd1)
        generalize hY : W8.heap.size = Y at *
        have HY : Hid (W8.heap.size = Y) := hY
        clear hY
        generalize W8.alloc (.cells #[.slice none 0 0, .slice none 0 0] 75) = W9 at *
        obtain ⟨d0, d1, d2, d3, d4, d5, d6, d7, d8, d9, d10, d11, hR⟩ := HC.out W9 (HCB.out W9 HW9.out)
        clear d2 d3 d6 d7 d8 d9 d10 d11 hR
        have hy0 := HY9.out.c0
        have hy1 := HY9.out.c1
        have hyf := HY9.out.f0 0
        have hyl := HY9.out.lt
        have hk1 : (k : Int) + 1 ≤ (cs : Int) := by omega
        have hk2 : k + 1 ≤ cs := by omega
        have hk3 : 0 ≤ (k : Int) + 1 := by omega
        have hwk1 : IntKind.i64.wrap ((k : Int) + 1) = (k : Int) + 1 := by rw [IntKind.wrap_i64]; omega
        have hk4 : ((k : Int) + 1).toNat = k + 1 := by omega
        have HLI : Hid ((intV (stL (σ.drop rl))).length = k + 1) := by show _ = _; rw [intV_len, stL_len, List.length_drop]; have := HN.out; omega
        have HSL : Hid (stL (σ.drop rl) = (stL σ).take (k + 1)) := by
          show _ = _
          have ek : σ.length - rl = k := by have := HN.out; omega
          rw [stL_drop σ rl (by have := HN.out; omega), ek]
        have HNI : Hid (k + 1 = 0 ∨ ∃ b off, (some (⟨gs, 0, none⟩ : Addr)) = some ⟨b, off, none⟩ ∧ ∀ j u, (intV (stL (σ.drop rl)))[j]? = some u → W9.drew.cell? ⟨b, off + j, none⟩ = some u) := by
          refine .inr ⟨gs, 0, rfl, fun j u hu => ?_⟩
          obtain ⟨hj, e⟩ := List.getElem?_eq_some_iff.1 hu
          rw [HLI.out] at hj
          have hh := HX.out.st
          rw [HN.out] at hh
          have hc := own_cellE hh (j := j) (by omega)
          have h2 := (d0.cell (p := ⟨gs, j, none⟩) hgs).trans hc
          rw [Nat.zero_add]
          refine h2.trans ?_
          rw [intV_get _ _ (by rw [stL_len]; have := HN.out; omega)]
          have e2 : (intV (stL (σ.drop rl))).getD j .nilFunc = u := by rw [List.getD_eq_getElem?_getD, hu]; rfl
          rw [← e2, intV_get _ _ (by rw [stL_len, List.length_drop]; have := HN.out; omega), HSL.out, getD_take _ _ _ _ (by omega)]
        have H1I : Hid (∀ u ∈ intV (stL (σ.drop rl)), u.oneCell' = true) := intV_one _
        have hkm : k + 1 ≤ 1000000000 := by omega
        have HE9 : Hid (Y + 1 ≤ W9.drew.heap.size) := by show _ ≤ W9.heap.size; rw [HS9.out]; exact Nat.le_refl _
        have HY10 : Hid (∀ w10, Below W9.drew.heap.size W9.drew w10 → BoxX w10 Y (.slice none 0 0) (.slice none 0 0)) := fun w10 hb => (HY9.out.drewY).below (K := W9.drew.heap.size) hyl hb
        have HN10 : Hid (∀ w10 sa sc, w10.ownsRow (Y + 1) 3 1 (.slice sa (k + 1) sc) (k + 1) (intV (stL (σ.drop rl))) → Below W9.drew.heap.size W9.drew w10 → Below Y W8 (w10.setCell ⟨Y, 0, none⟩ (.slice sa (k + 1) sc)) ∧ BoxX (w10.setCell ⟨Y, 0, none⟩ (.slice sa (k + 1) sc)) Y (.slice sa (k + 1) sc) (.slice none 0 0) ∧ (w10.setCell ⟨Y, 0, none⟩ (.slice sa (k + 1) sc)).ownsRow (Y + 1) 3 1 (.slice sa (k + 1) sc) (k + 1) (intV (stL (σ.drop rl)))) := fun w10 sa sc hown hb => by
          have hb' : Below W9.heap.size W9 w10 := (below_drewY (Below.refl _ W9)).trans hb
          refine ⟨?_, (HY10.out w10 hb).set0 _, own_setY hown fun e => ?_⟩
          · exact (HW9.out.trans (hb'.mono (by rw [HS9.out]; omega))).trans ((Below.refl _ _).setCell (p := ⟨Y, 0, none⟩) (Nat.le_refl _) _)
          · have := (hown.lt Y e).1
            omega
        go_region_law (refine step_append_all rfl _ _ 23 3 i1 (.int .i64 0) Tryd.underlying23 hi0 hi1 hi2 hi3 rfl rfl _ _ _ (intV (stL (σ.drop rl))) rfl rfl HLI.out HNI.out H1I.out hkm (Y + 1) HE9.out ?_; intro sa sc w10 hown10 hb10; have hy10 := HY10.out w10 hb10; have e0 := hy10.c0; have e1 := hy10.f0 0; have e2 := hy10.lt)
        all_goals
          have hn10 := HN10.out w10 sa sc hown10 hb10
          have HB11 : Hid (Below Y W8 (w10.setCell ⟨Y, 0, none⟩ (.slice sa (k + 1) sc))) := hn10.1
          have HY11 : Hid (BoxX (w10.setCell ⟨Y, 0, none⟩ (.slice sa (k + 1) sc)) Y (.slice sa (k + 1) sc) (.slice none 0 0)) := hn10.2.1
          have HO11 : Hid ((w10.setCell ⟨Y, 0, none⟩ (.slice sa (k + 1) sc)).ownsRow (Y + 1) 3 1 (.slice sa (k + 1) sc) (k + 1) (intV (stL (σ.drop rl)))) := hn10.2.2
          clear hn10 hown10 hb10 hy10 e0 e1 e2 HN10 HY10 HE9 H1I HNI hk1 hk2 hk3 hwk1 hk4 hy0 hy1 hyf hyl d0 d1 d4 d5 HY9 HW9 HS9
          generalize w10.setCell ⟨Y, 0, none⟩ (.slice sa (k + 1) sc) = W11 at *
          clear w10
          have hy0 := HY11.out.c0
          have hyf := HY11.out.f0 0
          have hyl := HY11.out.lt
          have HN12 : Hid (∀ w12 g12 cap12, w12.ownsRow (Y + 1) 3 1 (.slice (some ⟨g12, 0, none⟩) (k + 1 + 1) cap12) (k + 1 + 1) (intV (stL (σ.drop rl)) ++ [.int .i64 to]) → (W11.alloc (.cells #[.int .i64 to] 3)).grownBy w12 (Value.slice sa (k + 1) sc).ownBlock → BoxX w12 Y (.slice sa (k + 1) sc) (.slice none 0 0) ∧ Below Y W8 (w12.setCell ⟨Y, 0, none⟩ (.slice (some ⟨g12, 0, none⟩) (k + 1 + 1) cap12)) ∧ BoxX (w12.setCell ⟨Y, 0, none⟩ (.slice (some ⟨g12, 0, none⟩) (k + 1 + 1) cap12)) Y (.slice (some ⟨g12, 0, none⟩) (k + 1 + 1) cap12) (.slice none 0 0) ∧ (w12.setCell ⟨Y, 0, none⟩ (.slice (some ⟨g12, 0, none⟩) (k + 1 + 1) cap12)).ownsRow (Y + 1) 3 1 (.slice (some ⟨g12, 0, none⟩) (k + 1 + 1) cap12) (k + 1 + 1) (intV (stL (σ.drop rl)) ++ [.int .i64 to])) := fun w12 g12 cap12 hown hg => by
            have hrow : ∀ b, (Value.slice sa (k + 1) sc).ownBlock = some b → Y + 1 ≤ b := fun b e => (HO11.out.lt b e).1
            have hbx := boxX_grownY HY11.out hg (fun e => by have := hrow Y e; omega)
            refine ⟨hbx, ?_, hbx.set0 _, own_setY hown fun e => ?_⟩
            · exact (below_grownY HB11.out hg (fun b e => by have := hrow b e; omega) (by omega)).trans ((Below.refl _ _).setCell (p := ⟨Y, 0, none⟩) (Nat.le_refl _) _)
            · have := (hown.lt Y e).1
              omega
          go_wp2_with (at_builtin; refine wpList_append_lies _ rfl _ _ 23 rfl (Y + 1) 3 i1 (.int .i64 0) 1 8 Tryd.underlying23 hi0 hi1 hi2 hi3 rfl (by decide) (.slice sa (k + 1) sc) (k + 1) (intV (stL (σ.drop rl))) rfl (World.ownsRow.alloc HO11.out _) ⟨W11.heap.size, 0, none⟩ 1 1 [.int .i64 to] rfl rfl (cell_one_new W11 _ _) (by intro x hx; simp at hx; subst hx; rfl) (by omega) (by unfold maxLen; omega) (by omega) (by simp; omega) (W11.heap.size + 1) (by simp) ?_)
          intro g12 cap12 w12 hown12 hg12 hat12 hlt12
          obtain ⟨b0, b1, b2, b3⟩ := HN12.out w12 g12 cap12 hown12 hg12
          have e0 := b0.c0
          have e1 := b0.f0 0
          have e2 := b0.lt
          have HB12 : Hid (Below Y W8 (w12.setCell ⟨Y, 0, none⟩ (.slice (some ⟨g12, 0, none⟩) (k + 1 + 1) cap12))) := b1
          have HY12 : Hid (BoxX (w12.setCell ⟨Y, 0, none⟩ (.slice (some ⟨g12, 0, none⟩) (k + 1 + 1) cap12)) Y (.slice (some ⟨g12, 0, none⟩) (k + 1 + 1) cap12) (.slice none 0 0)) := b2
          have HO12 : Hid ((w12.setCell ⟨Y, 0, none⟩ (.slice (some ⟨g12, 0, none⟩) (k + 1 + 1) cap12)).ownsRow (Y + 1) 3 1 (.slice (some ⟨g12, 0, none⟩) (k + 1 + 1) cap12) (k + 1 + 1) (intV (stL (σ.drop rl)) ++ [.int .i64 to])) := b3
          clear b0 b1 b2 b3 hown12 hg12 hat12 hlt12 HN12 hy0 hyf hyl HO11 HY11 HB11
          go_upto_region 13 with fail
          clear e0 e1 e2
          generalize w12.setCell ⟨Y, 0, none⟩ (.slice (some ⟨g12, 0, none⟩) (k + 1 + 1) cap12) = W12 at *
          clear w12
          obtain ⟨d0, d1, d2, d3, d4, d5, d6, d7, d8, d9, d10, d11, hR⟩ := HC.out W12 (HCB.out W12 HB12.out)
          clear d2 d3 d6 d7 d8 d9 d10 d11 hR
          have hy0 := HY12.out.c0
          have hy1 := HY12.out.c1
          have hyf := HY12.out.f0 1
          have hyl := HY12.out.lt
          have hk1 : (k : Int) ≤ (tc : Int) := by omega
          have hk2 : k ≤ tc := by omega
          have hk3 : 0 ≤ (k : Int) := by omega
          have HLT : Hid ((us.take k).length = k) := by show _ = _; rw [List.length_take]; omega
          have HNT : Hid (k = 0 ∨ ∃ b off, (some (⟨gt, 0, none⟩ : Addr)) = some ⟨b, off, none⟩ ∧ ∀ j u, (us.take k)[j]? = some u → W12.drew.cell? ⟨b, off + j, none⟩ = some u) := by
            refine .inr ⟨gt, 0, rfl, fun j u hu => ?_⟩
            obtain ⟨hj, e⟩ := List.getElem?_eq_some_iff.1 hu
            rw [HLT.out] at hj
            have h2 := (d0.cell (p := ⟨gt, j, none⟩) hgt).trans (hxc j (by omega))
            rw [Nat.zero_add]
            refine h2.trans ?_
            rw [← getD_take us k j .nilFunc hj, List.getD_eq_getElem?_getD, hu]
            rfl
          have H1T : Hid (∀ u ∈ us.take k, u.oneCell' = true) := fun u hu => by
            obtain ⟨j, hj, e⟩ := List.getElem_of_mem (List.mem_of_mem_take hu)
            obtain ⟨b, hb⟩ := (HX.out.tr.2.2 j (by rw [trL_len]; have := HN.out; omega)).1
            rw [List.getD_eq_getElem?_getD, List.getElem?_eq_getElem hj, Option.getD_some, e] at hb
            rw [hb]; rfl
          have hkn : k ≤ 1000000000 := by omega
          have HE12 : Hid (W12.heap.size ≤ W12.drew.heap.size) := Nat.le_refl _
          have HY13 : Hid (∀ w13, Below W12.drew.heap.size W12.drew w13 → BoxX w13 Y (.slice (some ⟨g12, 0, none⟩) (k + 1 + 1) cap12) (.slice none 0 0)) := fun w13 hb => (HY12.out.drewY).below (K := W12.drew.heap.size) hyl hb
          have HN13 : Hid (∀ w13 sa sc, w13.ownsRow W12.heap.size 34 1 (.slice sa k sc) k (us.take k) → Below W12.drew.heap.size W12.drew w13 → Below Y W8 (w13.setCell ⟨Y, 1, none⟩ (.slice sa k sc)) ∧ BoxX (w13.setCell ⟨Y, 1, none⟩ (.slice sa k sc)) Y (.slice (some ⟨g12, 0, none⟩) (k + 1 + 1) cap12) (.slice sa k sc) ∧ (w13.setCell ⟨Y, 1, none⟩ (.slice sa k sc)).ownsRow (Y + 1) 3 1 (.slice (some ⟨g12, 0, none⟩) (k + 1 + 1) cap12) (k + 1 + 1) (intV (stL (σ.drop rl)) ++ [.int .i64 to]) ∧ (w13.setCell ⟨Y, 1, none⟩ (.slice sa k sc)).ownsRow W12.heap.size 34 1 (.slice sa k sc) k (us.take k) ∧ W12.heap.size ≤ (w13.setCell ⟨Y, 1, none⟩ (.slice sa k sc)).heap.size) := fun w13 sa sc hown hb => by
            have hb' : Below W12.heap.size W12 w13 := (below_drewY (Below.refl _ W12)).trans hb
            refine ⟨?_, (HY13.out w13 hb).set1 _, own_setY (own_belowE HO12.out hb') (fun e => ?_), own_setY hown (fun e => ?_), by simpa using hb'.size⟩
            · exact (HB12.out.trans (hb'.mono (by omega))).trans ((Below.refl _ _).setCell (p := ⟨Y, 1, none⟩) (Nat.le_refl _) _)
            · have := (HO12.out.lt Y e).1
              omega
            · have := (hown.lt Y e).1
              omega
          have HG12 : Hid (g12 < W12.heap.size) := (HO12.out.lt g12 rfl).2
          go_region_law (refine step_append_all rfl _ _ 73 34 j1 (.pointer none) Tryd.underlying73 hj0 hj1 hj2 hj3 rfl rfl _ _ _ (us.take k) rfl rfl HLT.out HNT.out H1T.out hkn W12.heap.size HE12.out ?_; intro za zc w13 hown13 hb13; have hy13 := HY13.out w13 hb13; have e0 := hy13.c1; have e1 := hy13.f0 1; have e2 := hy13.lt)
          all_goals
            obtain ⟨n0, n1, n2, n3, n4⟩ := HN13.out w13 za zc hown13 hb13
            have HB13 : Hid (Below Y W8 (w13.setCell ⟨Y, 1, none⟩ (.slice za k zc))) := n0
            have HYA : Hid (BoxX (w13.setCell ⟨Y, 1, none⟩ (.slice za k zc)) Y (.slice (some ⟨g12, 0, none⟩) (k + 1 + 1) cap12) (.slice za k zc)) := n1
            have HOS : Hid ((w13.setCell ⟨Y, 1, none⟩ (.slice za k zc)).ownsRow (Y + 1) 3 1 (.slice (some ⟨g12, 0, none⟩) (k + 1 + 1) cap12) (k + 1 + 1) (intV (stL (σ.drop rl)) ++ [.int .i64 to])) := n2
            have HOT : Hid ((w13.setCell ⟨Y, 1, none⟩ (.slice za k zc)).ownsRow W12.heap.size 34 1 (.slice za k zc) k (us.take k)) := n3
            have HDL : Hid (W12.heap.size ≤ (w13.setCell ⟨Y, 1, none⟩ (.slice za k zc)).heap.size) := n4
            clear n0 n1 n2 n3 n4 hown13 hb13 hy13 e0 e1 e2 HN13 HY13 HE12 H1T HNT hk1 hk2 hk3 hy0 hy1 hyf d0 d1 d4 d5 HY12 HB12 HO12
            generalize w13.setCell ⟨Y, 1, none⟩ (.slice za k zc) = W13 at *
            generalize W12.heap.size = D at *
            clear w13
            have hy1 := HYA.out.c1
            have hyf := HYA.out.f0 1
            have hyl2 := HYA.out.lt
            have hDW := HDL.out
            have HN14 : Hid (∀ w14 g14 cap14, w14.ownsRow D 34 1 (.slice (some ⟨g14, 0, none⟩) (k + 1) cap14) (k + 1) (us.take k ++ [.pointer (some ⟨Q, 0, none⟩)]) → (W13.alloc (.cells #[.pointer (some ⟨Q, 0, none⟩)] 34)).grownBy w14 (Value.slice za k zc).ownBlock → BoxX w14 Y (.slice (some ⟨g12, 0, none⟩) (k + 1 + 1) cap12) (.slice za k zc) ∧ Below Y W8 (w14.setCell ⟨Y, 1, none⟩ (.slice (some ⟨g14, 0, none⟩) (k + 1) cap14)) ∧ BoxX (w14.setCell ⟨Y, 1, none⟩ (.slice (some ⟨g14, 0, none⟩) (k + 1) cap14)) Y (.slice (some ⟨g12, 0, none⟩) (k + 1 + 1) cap12) (.slice (some ⟨g14, 0, none⟩) (k + 1) cap14) ∧ (w14.setCell ⟨Y, 1, none⟩ (.slice (some ⟨g14, 0, none⟩) (k + 1) cap14)).ownsRow (Y + 1) 3 1 (.slice (some ⟨g12, 0, none⟩) (k + 1 + 1) cap12) (k + 1 + 1) (intV (stL (σ.drop rl)) ++ [.int .i64 to]) ∧ (w14.setCell ⟨Y, 1, none⟩ (.slice (some ⟨g14, 0, none⟩) (k + 1) cap14)).ownsRow D 34 1 (.slice (some ⟨g14, 0, none⟩) (k + 1) cap14) (k + 1) (us.take k ++ [.pointer (some ⟨Q, 0, none⟩)])) := fun w14 g14 cap14 hown hg => by
              have hrow : ∀ b, (Value.slice za k zc).ownBlock = some b → D ≤ b := fun b e => (HOT.out.lt b e).1
              have hG := HG12.out
              have hbx := boxX_grownY HYA.out hg (fun e => by have := hrow Y e; omega)
              have hso := own_grownY HOS.out hg (.inr fun e => by have := hrow g12 e.symm; omega)
              refine ⟨hbx, ?_, hbx.set1 _, own_setY hso (fun e => ?_), own_setY hown (fun e => ?_)⟩
              · exact (below_grownY HB13.out hg (fun b e => by have := hrow b e; omega) (by omega)).trans ((Below.refl _ _).setCell (p := ⟨Y, 1, none⟩) (Nat.le_refl _) _)
              · have := (HOS.out.lt Y e).1
                omega
              · have := (hown.lt Y e).1
                omega
            go_wp2_with (at_builtin; refine wpList_append_lies _ rfl _ _ 73 rfl D 34 j1 (.pointer none) 1 8 Tryd.underlying73 hj0 hj1 hj2 hj3 rfl (by decide) (.slice za k zc) k (us.take k) rfl (World.ownsRow.alloc HOT.out _) ⟨W13.heap.size, 0, none⟩ 1 1 [.pointer (some ⟨Q, 0, none⟩)] rfl rfl (cell_one_new W13 _ _) (by intro x hx; simp at hx; subst hx; rfl) (by omega) (by unfold maxLen; omega) (by omega) (by simp; omega) (W13.heap.size + 1) (by simp) ?_)
            intro g14 cap14 w14 hown14 hg14 hat14 hlt14
            obtain ⟨b0, b1, b2, b3, b4⟩ := HN14.out w14 g14 cap14 hown14 hg14
            have e0 := b0.c1
            have e1 := b0.f0 1
            have e2 := b0.lt
            have HB14 : Hid (Below Y W8 (w14.setCell ⟨Y, 1, none⟩ (.slice (some ⟨g14, 0, none⟩) (k + 1) cap14))) := b1
            have HY14 : Hid (BoxX (w14.setCell ⟨Y, 1, none⟩ (.slice (some ⟨g14, 0, none⟩) (k + 1) cap14)) Y (.slice (some ⟨g12, 0, none⟩) (k + 1 + 1) cap12) (.slice (some ⟨g14, 0, none⟩) (k + 1) cap14)) := b2
            have HS14 : Hid ((w14.setCell ⟨Y, 1, none⟩ (.slice (some ⟨g14, 0, none⟩) (k + 1) cap14)).ownsRow (Y + 1) 3 1 (.slice (some ⟨g12, 0, none⟩) (k + 1 + 1) cap12) (k + 1 + 1) (intV (stL (σ.drop rl)) ++ [.int .i64 to])) := b3
            have HT14 : Hid ((w14.setCell ⟨Y, 1, none⟩ (.slice (some ⟨g14, 0, none⟩) (k + 1) cap14)).ownsRow D 34 1 (.slice (some ⟨g14, 0, none⟩) (k + 1) cap14) (k + 1) (us.take k ++ [.pointer (some ⟨Q, 0, none⟩)])) := b4
            clear b0 b1 b2 b3 b4 hown14 hg14 hat14 hlt14 HN14 hy1 hyf hyl2 HOS HOT HYA HB13
            go_upto_region 15 with fail
            clear e0 e1 e2
            generalize w14.setCell ⟨Y, 1, none⟩ (.slice (some ⟨g14, 0, none⟩) (k + 1) cap14) = W14 at *
            clear w14
            obtain ⟨d0, d1, d2, d3, d4, d5, d6, d7, d8, d9, d10, d11, hR⟩ := HC.out W14 (HCB.out W14 HB14.out)
            clear d2 d3 d4 d5 d6 d7 d8 d9 d10 d11
            have hy0 := HY14.out.c0
            have hy1 := HY14.out.c1
            have hyl3 := HY14.out.lt
            have hr0 := hR.c0
            have hr1 := hR.c1
            have hrf0 := hR.f0 0
            have hrf1 := hR.f0 1
            have hrlt := hR.lt
            have HFB : Hid (Below w.heap.size w ((W14.setCell ⟨w.heap.size + 1 + 1 + 1, 0, none⟩ (.slice (some ⟨g12, 0, none⟩) (k + 1 + 1) cap12)).setCell ⟨w.heap.size + 1 + 1 + 1, 1, none⟩ (.slice (some ⟨g14, 0, none⟩) (k + 1) cap14))) := d0.trans ((below_stored _ _).mono (by omega))
            have HFR : Hid (BoxX ((W14.setCell ⟨w.heap.size + 1 + 1 + 1, 0, none⟩ (.slice (some ⟨g12, 0, none⟩) (k + 1 + 1) cap12)).setCell ⟨w.heap.size + 1 + 1 + 1, 1, none⟩ (.slice (some ⟨g14, 0, none⟩) (k + 1) cap14)) (w.heap.size + 1 + 1 + 1) (.slice (some ⟨g12, 0, none⟩) (k + 1 + 1) cap12) (.slice (some ⟨g14, 0, none⟩) (k + 1) cap14)) := hR.stored _ _
            have HFS : Hid (StM B ((W14.setCell ⟨w.heap.size + 1 + 1 + 1, 0, none⟩ (.slice (some ⟨g12, 0, none⟩) (k + 1 + 1) cap12)).setCell ⟨w.heap.size + 1 + 1 + 1, 1, none⟩ (.slice (some ⟨g14, 0, none⟩) (k + 1) cap14)) (.slice (some ⟨g12, 0, none⟩) (k + 1 + 1) cap12) (.slice (some ⟨g14, 0, none⟩) (k + 1) cap14) ((nodeT p ((σ.take rl).map Prod.fst).reverse, to) :: σ.drop rl) (us.take k ++ [.pointer (some ⟨Q, 0, none⟩)])) := by
              have hQH := HSZ.out
              have hYY := HY.out
              have hkk : σ.length - rl = k := by have := HN.out; omega
              have hQ8 := (Array.getElem?_eq_some_iff.1 HQ8.out).1
              have h0 := HX.out.reduced (n := rl) (C := Y + 1) (D := D) (Q := Q) (p := p) (to := to) (kv := .slice ka rl kc) (sv' := .slice (some ⟨g12, 0, none⟩) (k + 1 + 1) cap12) (tv' := .slice (some ⟨g14, 0, none⟩) (k + 1) cap14) (by have := HN.out; omega) HFB.out hB (by omega)
              rw [hkk] at h0
              have hs2 : ∀ {v : Value} {e : TypeId} {C n : Nat} {vs : List Value}, W14.ownsRow C e 1 v n vs → v.ownBlock ≠ some (w.heap.size + 1 + 1 + 1) → ((W14.setCell ⟨w.heap.size + 1 + 1 + 1, 0, none⟩ (.slice (some ⟨g12, 0, none⟩) (k + 1 + 1) cap12)).setCell ⟨w.heap.size + 1 + 1 + 1, 1, none⟩ (.slice (some ⟨g14, 0, none⟩) (k + 1) cap14)).ownsRow C e 1 v n vs := fun h hne => own_setY (own_setY h hne) hne
              refine h0 ?_ ?_ ?_ ?_ ?_ ?_ ?_
              · rw [Below.heap_setCell _ _ _ _ (by simp; omega), Below.heap_setCell _ _ _ _ (by simp; omega), HB14.out.block Q (by omega)]
                exact HQ8.out
              · refine hs2 (own_monoE (own_belowE HO8.out (by rw [hYY]; exact HB14.out)) (by omega)) fun e => ?_
                have := (HO8.out.lt _ e).1
                omega
              · intro b e
                have := (HO8.out.lt b e).2
                omega
              · refine hs2 HS14.out fun e => ?_
                have := (HS14.out.lt _ e).1
                omega
              · intro b e
                have hG := HG12.out
                have : g12 = b := by simpa [Value.ownBlock] using e
                omega
              · omega
              · refine hs2 HT14.out fun e => ?_
                have := (HT14.out.lt _ e).1
                omega
            go_wp2
            clear hy0 hy1 hr0 hr1 hrf0 hrf1 hrlt d0 d1 hR HQ8 HO8 HB8 HC HS14 HT14 HY14 HB14
            generalize (W14.setCell ⟨w.heap.size + 1 + 1 + 1, 0, none⟩ (.slice (some ⟨g12, 0, none⟩) (k + 1 + 1) cap12)).setCell ⟨w.heap.size + 1 + 1 + 1, 1, none⟩ (.slice (some ⟨g14, 0, none⟩) (k + 1) cap14) = W15 at *
            have k0 := HFR.out.c0
            have k1 := HFR.out.c1
            refine bodyPost_ret (v := .tuple #[.agg #[.slice (some ⟨g12, 0, none⟩) (k + 1 + 1) cap12, .slice (some ⟨g14, 0, none⟩) (k + 1) cap14], .nilIface]) (by simp [results, go_sem, k0, k1]) rfl ?_
            exact ⟨HFB.out, .inr ⟨_, _, _, _, HRD.out.2 hto, rfl, HFS.out⟩⟩

end Go.Proofs.YtdihdnhofgjhnaaDoor
