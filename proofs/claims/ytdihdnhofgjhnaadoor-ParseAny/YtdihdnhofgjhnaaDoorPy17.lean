/- Texts of the proof, put together: YRed. -/
import Derived.Test.YtdihdnhofgjhnaaDoorPy16
import Derived.Deep.Cut
namespace Go.Proofs.YtdihdnhofgjhnaaDoor
open Go.RowKit
set_option linter.unusedVariables false
set_option maxRecDepth 100000

/-- grammar, table, stand and an answer, boxed -/
def boxS (w : World) (g : Gm) (pv lv sv av ov cv xs xt : Value) : World := ((boxT w g pv lv sv av ov cv).alloc (.cells #[xs, xt] 75)).alloc (.cells #[.slice none 0 0, .slice none 0 0] 75)
/-- two cells -/
structure BoxX (w : World) (Q : Nat) (xs xt : Value) : Prop where
  lt : Q < w.heap.size
  blk : w.heap[Q]? = some (.cells #[xs, xt] 75 (0, 0))
theorem BoxX.c0 {w : World} {Q : Nat} {xs xt : Value} (h : BoxX w Q xs xt) : w.cell? ⟨Q, 0, none⟩ = some xs := by simp [World.cell?, h.blk]
theorem BoxX.c1 {w : World} {Q : Nat} {xs xt : Value} (h : BoxX w Q xs xt) : w.cell? ⟨Q, 1, none⟩ = some xt := by simp [World.cell?, h.blk]
theorem BoxX.f0 {w : World} {Q : Nat} {xs xt : Value} (h : BoxX w Q xs xt) (i : Nat) : w.frozen? ⟨Q, i, none⟩ = false := by simp [World.frozen?, h.blk]
theorem BoxX.below {w w' : World} {Q : Nat} {xs xt : Value} (h : BoxX w Q xs xt) {K : Nat} (hQ : Q < K) (hb : Below K w w') : BoxX w' Q xs xt :=
  ⟨Nat.lt_of_lt_of_le h.lt hb.size, (hb.block Q hQ).trans h.blk⟩
theorem BoxX.stored {w : World} {Q : Nat} {a b : Value} (h : BoxX w Q a b) (x y : Value) : BoxX ((w.setCell ⟨Q, 0, none⟩ x).setCell ⟨Q, 1, none⟩ y) Q x y := by
  have h1 := heap_setCell_same w Q 0 _ 75 x h.blk
  have h2 := heap_setCell_same (w.setCell ⟨Q, 0, none⟩ x) Q 1 _ 75 y h1
  refine ⟨by simpa using h.lt, ?_⟩
  simpa using h2
theorem below_stored {w : World} {Q : Nat} (x y : Value) : Below Q w ((w.setCell ⟨Q, 0, none⟩ x).setCell ⟨Q, 1, none⟩ y) := ((Below.refl _ _).setCell (p := ⟨Q, 0, none⟩) (Nat.le_refl _) _).setCell (p := ⟨Q, 1, none⟩) (Nat.le_refl _) _
theorem BoxX.drewY {w : World} {Q : Nat} {x y : Value} (h : BoxX w Q x y) : BoxX w.drew Q x y := ⟨h.lt, h.blk⟩
theorem below_drewY {K : Nat} {w w' : World} (h : Below K w w') : Below K w w'.drew := h.trans ⟨rfl, rfl, rfl, Nat.le_refl _, fun _ _ => rfl⟩
theorem boxS_all (w : World) (g : Gm) (pv lv sv av ov cv xs xt : Value) : Below w.heap.size w (boxS w g pv lv sv av ov cv xs xt) ∧ (boxS w g pv lv sv av ov cv xs xt).heap.size = w.heap.size + 4 ∧ BoxG (boxS w g pv lv sv av ov cv xs xt) w.heap.size g pv lv sv ∧ BoxT (boxS w g pv lv sv av ov cv xs xt) (w.heap.size + 1) av ov cv ∧ BoxX (boxS w g pv lv sv av ov cv xs xt) (w.heap.size + 2) xs xt ∧ BoxX (boxS w g pv lv sv av ov cv xs xt) (w.heap.size + 3) (.slice none 0 0) (.slice none 0 0) := by
  obtain ⟨h1, h2, h3⟩ := boxT_all w g pv lv sv av ov cv
  have s1 : (boxT w g pv lv sv av ov cv).heap.size = w.heap.size + 2 := by unfold boxT; rw [alloc_size, boxG_size]
  have b1 := alloc_below (boxT w g pv lv sv av ov cv) (.cells #[xs, xt] 75)
  have s2 := alloc_size (boxT w g pv lv sv av ov cv) (.cells #[xs, xt] 75)
  have n1 := heap_alloc_new (boxT w g pv lv sv av ov cv) (.cells #[xs, xt] 75)
  unfold boxS
  generalize (boxT w g pv lv sv av ov cv).alloc (.cells #[xs, xt] 75) = W at *
  generalize boxT w g pv lv sv av ov cv = V at *
  have b2 := alloc_below W (.cells #[.slice none 0 0, .slice none 0 0] 75)
  have s3 := alloc_size W (.cells #[.slice none 0 0, .slice none 0 0] 75)
  have n2 := heap_alloc_new W (.cells #[.slice none 0 0, .slice none 0 0] 75)
  generalize W.alloc (.cells #[.slice none 0 0, .slice none 0 0] 75) = U at *
  rw [s1] at n1
  rw [show W.heap.size = w.heap.size + 3 by omega] at n2
  have b3 := b1.trans (b2.mono (by omega))
  exact ⟨h1.trans (b3.mono (by omega)), by omega, h2.below h2.lt b3, h3.below h3.lt b3, ⟨by omega, (b2.block _ (by omega)).trans n1⟩, ⟨by omega, n2⟩⟩

set_option maxHeartbeats 8000000 in
/-- too few trees -/
theorem rred_few (g : Gm) (pv lv sv : Value) (tb : Tb) (av ov cv : Value) (xs xt ev : Value) (B : Nat) (σ : Pl) (us : List Value) (p : Int) (w : World) (hG : GrM w g pv lv sv) (hX : StM B w xs xt σ us) (hp : 0 ≤ p ∧ p < g.prods.length) (hev : w.cell? ⟨2, 0, none⟩ = some ev) (hlt : σ.length < (prodOf g p).right.length) :
    Calls Tryd.prog 43 #[gv g pv lv sv, tvv av ov cv, .agg #[xs, xt], .int .i64 p] w fun e w' => e = .returned (.tuple #[.agg #[xs, xt], ev]) ∧ Below w.heap.size w w' := by
  obtain ⟨hB0, hsz, hBX, hBT, hBS, hBR⟩ := boxS_all w g pv lv sv av ov cv xs xt
  have HWB : Hid ((((w.alloc (.cells (gvs g pv lv sv) 25)).alloc (.cells (tvs av ov cv) 30)).alloc (.cells #[xs, xt] 75)).alloc (.cells #[.slice none 0 0, .slice none 0 0] 75) = boxS w g pv lv sv av ov cv xs xt) := rfl
  have hG1 := hG.below hB0
  have hev1 := (hB0.cell (p := ⟨2, 0, none⟩) (lt_of_cellY hev)).trans hev
  obtain ⟨pa, pc, rfl⟩ := hG1.prods.slice
  obtain ⟨pb, poff, rv, rfl, hpb, hpm⟩ := hG1.prods.at (k := p.toNat) (by omega)
  obtain ⟨ta, tc, rfl, hul, hxt⟩ := hX.trees
  obtain ⟨gs, cs, rfl, hgs, hcs1, hcs2, hxs⟩ := hX.states
  obtain ⟨hp0, hp1⟩ := hp
  obtain ⟨ra, rc, rfl⟩ := hpm.right.slice
  obtain ⟨m0, m1, m2, hrr⟩ := hpm
  unfold prodOf at hlt
  generalize boxS w g (.slice (some ⟨pb, poff, none⟩) g.prods.length pc) lv sv av ov cv (.slice (some ⟨gs, 0, none⟩) (σ.length + 1) cs) (.slice ta σ.length tc) = W at *
  have HB0 : Hid (Below w.heap.size w W) := hB0
  have hs0 := hBS.c0
  have hs1 := hBS.c1
  have hsl := hBS.lt
  have hr0 := hBR.c0
  have hr1 := hBR.c1
  have hf0 := hBR.f0 0
  have hf1 := hBR.f0 1
  have hrl := hBR.lt
  obtain ⟨q0, q1, q2, q3, q4, q5, q6⟩ := hBX
  generalize (g.prods.getD p.toNat noPd).right.length = rl at *
  generalize σ.length = n at *
  clear hG hG1 hX hev hB0 hul hxt hxs hrr hsz
  unfold gv gvs tvv tvs at *
  go_enter Tryd.func43, Tryd.ntmps43
  go_upto_region 1 with fail
  rw [HWB.out]
  have HFB : Hid (Below w.heap.size w ((W.setCell ⟨w.heap.size + 1 + 1 + 1, 0, none⟩ (.slice (some ⟨gs, 0, none⟩) (n + 1) cs)).setCell ⟨w.heap.size + 1 + 1 + 1, 1, none⟩ (.slice ta n tc)).drew) := below_drewY (HB0.out.trans ((below_stored _ _).mono (by omega)))
  have HFR : Hid (BoxX ((W.setCell ⟨w.heap.size + 1 + 1 + 1, 0, none⟩ (.slice (some ⟨gs, 0, none⟩) (n + 1) cs)).setCell ⟨w.heap.size + 1 + 1 + 1, 1, none⟩ (.slice ta n tc)).drew (w.heap.size + 1 + 1 + 1) (.slice (some ⟨gs, 0, none⟩) (n + 1) cs) (.slice ta n tc)) := (hBR.stored _ _).drewY
  go_wp2
  go_region
  all_goals
    clear hr0 hr1 hf0 hf1 hs0 hs1 q0 q1 q2 q3 q4 q5 q6 m0 m1 m2 hBR hBS hBT HWB HB0
    generalize ((W.setCell ⟨w.heap.size + 1 + 1 + 1, 0, none⟩ (.slice (some ⟨gs, 0, none⟩) (n + 1) cs)).setCell ⟨w.heap.size + 1 + 1 + 1, 1, none⟩ (.slice ta n tc)).drew = W2 at *
    have k0 := HFR.out.c0
    have k1 := HFR.out.c1
    go_wp2
    refine bodyPost_ret (v := .tuple #[.agg #[.slice (some ⟨gs, 0, none⟩) (n + 1) cs, .slice ta n tc], ev]) (by simp [results, go_sem, k0, k1]) rfl ?_
    exact ⟨rfl, HFB.out⟩

end Go.Proofs.YtdihdnhofgjhnaaDoor
