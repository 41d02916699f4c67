/- Texts of the proof, put together: YFitB. -/
import Derived.Test.YtdihdnhofgjhnaaDoorPy09
import Derived.Test.YtdihdnhofgjhnaaDoorPy13
import Derived.BigGuard
import Derived.BigCall
namespace Go.Proofs.YtdihdnhofgjhnaaDoor
open Go.RowKit
set_option linter.unusedVariables false
set_option linter.unusedSimpArgs false
set_option maxRecDepth 100000

/-- a grammar and a table, boxed -/
def boxT (w : World) (g : Gm) (pv lv sv av ov cv : Value) : World := (boxG w g pv lv sv).alloc (.cells (tvs av ov cv) 30)
structure BoxT (w : World) (Q : Nat) (av ov cv : Value) : Prop where
  lt : Q < w.heap.size
  c0 : w.cell? ⟨Q, 0, none⟩ = some av
  c1 : w.cell? ⟨Q, 1, none⟩ = some ov
  c2 : w.cell? ⟨Q, 2, none⟩ = some cv
theorem BoxT.below {w w' : World} {Q : Nat} {av ov cv : Value} (h : BoxT w Q av ov cv) {K : Nat} (hQ : Q < K) (hb : Below K w w') : BoxT w' Q av ov cv :=
  ⟨Nat.lt_of_lt_of_le h.lt hb.size, (hb.cell (p := ⟨Q, 0, none⟩) hQ).trans h.c0, (hb.cell (p := ⟨Q, 1, none⟩) hQ).trans h.c1, (hb.cell (p := ⟨Q, 2, none⟩) hQ).trans h.c2⟩
theorem boxT_all (w : World) (g : Gm) (pv lv sv av ov cv : Value) : Below w.heap.size w (boxT w g pv lv sv av ov cv) ∧ BoxG (boxT w g pv lv sv av ov cv) w.heap.size g pv lv sv ∧ BoxT (boxT w g pv lv sv av ov cv) (w.heap.size + 1) av ov cv := by
  have h1 := boxG_size w g pv lv sv
  have h2 := alloc_below (boxG w g pv lv sv) (.cells (tvs av ov cv) 30)
  obtain ⟨c0, c1, c2⟩ := box3_cells (boxG w g pv lv sv) av ov cv 30
  rw [h1] at c0 c1 c2
  refine ⟨(boxG_below w g pv lv sv).trans (h2.mono (by omega)), (boxG_box w g pv lv sv).below (K := w.heap.size + 1) (Nat.lt_succ_self _) (h2.mono (by omega)), ⟨?_, c0, c1, c2⟩⟩
  show _ < ((boxG w g pv lv sv).alloc _).heap.size
  rw [alloc_size]
  omega

set_option maxHeartbeats 8000000 in
theorem rowsFit_any (g : Gm) (pv lv sv : Value) (tb : Tb) (av ov cv : Value) (w : World) (hp : ∃ pa pc, pv = .slice pa g.prods.length pc) (ht : 0 ≤ g.terms ∧ g.terms ≤ 300) (hn : 0 ≤ g.names ∧ g.names ≤ 300) (hT : TbM w tb av ov cv) :
    Calls Tryd.prog 19 #[gv g pv lv sv, tvv av ov cv] w fun e w' => e = .returned (.bool (tabB g tb)) ∧ Below w.heap.size w w' := by
  obtain ⟨hB0, hBX, hBT⟩ := boxT_all w g pv lv sv av ov cv
  have HT : Hid (TbM w tb av ov cv) := hT
  have HCA : Hid (∀ w' v l, AcsM w' v l → Calls Tryd.prog 31 #[gv g pv lv sv, .int .i64 (tb.acts.length : Nat), v] w' fun e w'' => e = .returned (.bool (actsB g.terms tb.acts.length g.prods.length l)) ∧ Below w'.heap.size w' w'') := fun w' v l h => actsFit_any g pv lv sv tb.acts.length l v w' hp ht h
  have HCG : Hid (∀ w' v l, IntsR w' v l → Calls Tryd.prog 32 #[gv g pv lv sv, .int .i64 (tb.acts.length : Nat), v] w' fun e w'' => e = .returned (.bool (gotosB g.names tb.acts.length l)) ∧ Below w'.heap.size w' w'') := fun w' v l h => gotosFit_any g pv lv sv tb.acts.length l v w' hn h
  obtain ⟨aa, ac, rfl⟩ := hT.acts.slice
  obtain ⟨oa, oc, rfl⟩ := hT.gotos.slice
  clear hT hp ht hn
  generalize hR : tabB g tb = R at *
  have HR : Hid (tabB g tb = R) := hR
  clear hR
  unfold tabB at HR
  have HBX : Hid (BoxG (boxT w g pv lv sv (.slice aa tb.acts.length ac) (.slice oa tb.gotos.length oc) cv) w.heap.size g pv lv sv) := hBX
  have HBT : Hid (BoxT (boxT w g pv lv sv (.slice aa tb.acts.length ac) (.slice oa tb.gotos.length oc) cv) (w.heap.size + 1) (.slice aa tb.acts.length ac) (.slice oa tb.gotos.length oc) cv) := hBT
  obtain ⟨_, t0, t1, t2⟩ := hBT
  unfold gv gvs tvv tvs at *
  have HWB : Hid ((w.alloc (.cells #[.int .i64 g.terms, .int .i64 g.names, .int .i64 g.start, pv, lv, sv] 25)).alloc (.cells #[.slice aa tb.acts.length ac, .slice oa tb.gotos.length oc, cv] 30) = boxT w g pv lv sv (.slice aa tb.acts.length ac) (.slice oa tb.gotos.length oc) cv) := rfl
  have HB0 : Hid (Below w.heap.size w (boxT w g pv lv sv (.slice aa tb.acts.length ac) (.slice oa tb.gotos.length oc) cv)) := hB0
  clear hB0 hBX
  generalize boxT w g pv lv sv (.slice aa tb.acts.length ac) (.slice oa tb.gotos.length oc) cv = W1 at *
  generalize hN : tb.acts.length = n at *
  have HN : Hid (tb.acts.length = n) := hN
  clear hN
  generalize hM : tb.gotos.length = m at *
  have HMm : Hid (tb.gotos.length = m) := hM
  clear hM
  by_cases h0 : n = 0
  · subst h0
    have HZ : Hid (R = false) := by show _ = _; rw [← HR.out]; simp
    clear HR
    go_enter Tryd.func19, Tryd.ntmps19
    go_wp2_with fail
    rw [HWB.out]
    go_wp2
    go_ret
    exact ⟨by rw [HZ.out]; rfl, HB0.out⟩
  have e0 : ((n : Int) == 0) = false := by rw [beq_eq_false_iff_ne]; omega
  by_cases h1 : (n : Int) > 2000
  · have d1 : decide ((n : Int) > 2000) = true := decide_eq_true h1
    have HZ : Hid (R = false) := by show _ = _; rw [← HR.out]; simp; omega
    clear HR
    go_enter Tryd.func19, Tryd.ntmps19
    go_wp2_with fail
    rw [HWB.out]
    go_wp2
    go_ret
    exact ⟨by rw [HZ.out]; rfl, HB0.out⟩
  have d1 : decide ((n : Int) > 2000) = false := decide_eq_false h1
  by_cases h2 : m = n
  case neg =>
    have d2 : ((m : Int) != (n : Int)) = true := by rw [bne_iff_ne]; omega
    have HZ : Hid (R = false) := by show _ = _; rw [← HR.out]; simp [h2]
    clear HR h2
    go_enter Tryd.func19, Tryd.ntmps19
    go_wp2_with fail
    rw [HWB.out]
    go_wp2
    go_ret
    exact ⟨by rw [HZ.out]; rfl, HB0.out⟩
  subst h2
  have HR2 : Hid (R = ((List.range m).drop 0).all fun s => actsB g.terms m g.prods.length (tb.acts.getD s []) && gotosB g.names m (tb.gotos.getD s [])) := by
    show _ = _
    rw [← HR.out, List.drop_zero, decide_eq_true (by omega), Bool.true_and]
  have hml : m ≤ 2000 := by omega
  clear HR h0 h1
  go_enter Tryd.func19, Tryd.ntmps19
  go_wp2_with fail
  rw [HWB.out]
  go_wp2
  clear t0 t1 t2
  go_loopw [24] (fun iv wr => ∃ k : Nat, k ≤ m ∧ iv = .int .i64 k ∧ Hid (R = ((List.range m).drop k).all fun s => actsB g.terms m g.prods.length (tb.acts.getD s []) && gotosB g.names m (tb.gotos.getD s [])) ∧ Hid (Below (w.heap.size + 2) W1 wr)) (fun iv _ => m - (intOf iv).toNat)
  case atStart => exact ⟨0, Nat.zero_le _, rfl, HR2, Below.refl _ _⟩
  case round =>
    obtain ⟨k, hk, rfl, HM, HBW⟩ := hrel
    have hbw := HB0.out.trans (HBW.out.mono (by omega))
    by_cases hlt : k < m
    · obtain ⟨ab, aoff, arv, rfl, hab, hac, har⟩ := (HT.out.below hbw).acts.at (k := k) (by rw [HN.out]; exact hlt)
      obtain ⟨ob, ooff, orv, rfl, hob, hoc, hor⟩ := (HT.out.below hbw).gotos.at (k := k) (by rw [HMm.out]; exact hlt)
      obtain ⟨ra, rc, rfl⟩ := har.slice
      obtain ⟨sa, sc, rfl⟩ := hor.slice
      have HA : Hid (((List.range m).drop k).all (fun s => actsB g.terms m g.prods.length (tb.acts.getD s []) && gotosB g.names m (tb.gotos.getD s [])) = ((actsB g.terms m g.prods.length (tb.acts.getD k []) && gotosB g.names m (tb.gotos.getD k [])) && ((List.range m).drop (k + 1)).all fun s => actsB g.terms m g.prods.length (tb.acts.getD s []) && gotosB g.names m (tb.gotos.getD s []))) := all_rangeG _ _ _ hlt
      have hsz : w.heap.size + 2 ≤ wr.heap.size := by have := HBT.out.lt; have := HBW.out.size; omega
      have hab2 : ab < W1.heap.size ∨ True := .inr trivial
      have hAA := (HT.out.acts).at (k := k) (by rw [HN.out]; exact hlt)
      clear hab2
      generalize hrl : (tb.acts.getD k []).length = rl at *
      generalize hsl : (tb.gotos.getD k []).length = sl at *
      have HX : Hid (∀ w', Below wr.heap.size wr w' → w'.cell? ⟨w.heap.size, 0, none⟩ = some (.int .i64 g.terms) ∧ w'.cell? ⟨w.heap.size, 1, none⟩ = some (.int .i64 g.names) ∧ w'.cell? ⟨w.heap.size, 2, none⟩ = some (.int .i64 g.start) ∧ w'.cell? ⟨w.heap.size, 3, none⟩ = some pv ∧ w'.cell? ⟨w.heap.size, 4, none⟩ = some lv ∧ w'.cell? ⟨w.heap.size, 5, none⟩ = some sv ∧ w'.cell? ⟨w.heap.size + 1, 0, none⟩ = some (.slice (some ⟨ab, aoff, none⟩) m ac) ∧ w'.cell? ⟨w.heap.size + 1, 1, none⟩ = some (.slice (some ⟨ob, ooff, none⟩) m oc) ∧ w'.cell? ⟨ab, aoff + k, none⟩ = some (.slice ra rl rc) ∧ w'.cell? ⟨ob, ooff + k, none⟩ = some (.slice sa sl sc)) := fun w' h => by
        have h2 : Below (w.heap.size + 2) W1 w' := HBW.out.trans (h.mono hsz)
        obtain ⟨_, r1, r2, r3, r4, r5, r6⟩ := HBX.out.below (K := w.heap.size + 2) (by omega) h2
        obtain ⟨_, u0, u1, u2⟩ := HBT.out.below (K := w.heap.size + 2) (by omega) h2
        exact ⟨r1, r2, r3, r4, r5, r6, u0, u1, (h.cell (p := ⟨ab, aoff + k, none⟩) hab).trans hac, (h.cell (p := ⟨ob, ooff + k, none⟩) hob).trans hoc⟩
      have HAR : Hid (∀ w', Below wr.heap.size wr w' → AcsM w' (.slice ra rl rc) (tb.acts.getD k []) ∧ IntsR w' (.slice sa sl sc) (tb.gotos.getD k [])) := fun w' h => ⟨har.below h, hor.below h⟩
      have hw0 : w.heap.size < wr.heap.size := by omega
      have hw1 : w.heap.size + 1 < wr.heap.size := by omega
      obtain ⟨r1, r2, r3, r4, r5, r6, u0, u1, x1, x2⟩ := HX.out wr (Below.refl _ _)
      have hdr : Below wr.heap.size wr wr.drew := ⟨rfl, rfl, rfl, Nat.le_refl _, fun _ _ => rfl⟩
      have HD : Hid (Below wr.heap.size wr wr.drew) := hdr
      have HCA1 : Hid (Calls Tryd.prog 31 #[.agg #[.int .i64 g.terms, .int .i64 g.names, .int .i64 g.start, pv, lv, sv], .int .i64 m, .slice ra rl rc] wr.drew fun e w'' => e = .returned (.bool (actsB g.terms m g.prods.length (tb.acts.getD k []))) ∧ Below wr.drew.heap.size wr.drew w'') := HCA.out wr.drew _ _ (HAR.out _ hdr).1
      have HCG1 : Hid (∀ w4, Below wr.heap.size wr w4 → Calls Tryd.prog 32 #[.agg #[.int .i64 g.terms, .int .i64 g.names, .int .i64 g.start, pv, lv, sv], .int .i64 m, .slice sa sl sc] w4 fun e w'' => e = .returned (.bool (gotosB g.names m (tb.gotos.getD k []))) ∧ Below w4.heap.size w4 w'') := fun w4 h => HCG.out w4 _ _ (HAR.out _ h).2
      have HFB : Hid (∀ w4, Below wr.heap.size wr w4 → Below (w.heap.size + 2) W1 w4) := fun w4 h => HBW.out.trans (h.mono hsz)
      have HD4 : Hid (∀ w4, Below wr.drew.heap.size wr.drew w4 → Below wr.heap.size wr w4) := fun w4 h => HD.out.trans h
      have HD5 : Hid (∀ w4 w5, Below wr.heap.size wr w4 → Below w4.heap.size w4 w5 → Below wr.heap.size wr w5) := fun w4 w5 h1 h2 => h1.trans (h2.mono h1.size)
      clear hdr har hor hac hoc hAA HAR HCA HCG hrl hsl HBX HBT HT
      generalize actsB g.terms m g.prods.length (tb.acts.getD k []) = aB at *
      generalize gotosB g.names m (tb.gotos.getD k []) = gB at *
      cases aB with
      | false =>
        have HZ : Hid (R = false) := by show _ = _; rw [HM.out, HA.out]; rfl
        clear HM HA
        go_wp2_with fail
        refine wp_region_held_drew (S := fun w' => w'.cell? ⟨w.heap.size, 0, none⟩ = some (.int .i64 g.terms) ∧ w'.cell? ⟨w.heap.size, 1, none⟩ = some (.int .i64 g.names) ∧ w'.cell? ⟨w.heap.size, 2, none⟩ = some (.int .i64 g.start) ∧ w'.cell? ⟨w.heap.size, 3, none⟩ = some pv ∧ w'.cell? ⟨w.heap.size, 4, none⟩ = some lv ∧ w'.cell? ⟨w.heap.size, 5, none⟩ = some sv ∧ w'.cell? ⟨w.heap.size + 1, 0, none⟩ = some (.slice (some ⟨ab, aoff, none⟩) m ac) ∧ w'.cell? ⟨w.heap.size + 1, 1, none⟩ = some (.slice (some ⟨ob, ooff, none⟩) m oc) ∧ w'.cell? ⟨ab, aoff + k, none⟩ = some (.slice ra rl rc) ∧ w'.cell? ⟨ob, ooff + k, none⟩ = some (.slice sa sl sc)) (by kernel_rfl) ⟨r1, r2, r3, r4, r5, r6, u0, u1, x1, x2⟩ (fun hHeld0 => ?_)
        refine wpAnyH_take (i := 0) (v := ?_) rfl (by kernel_rfl) (by kernel_rfl) (by kernel_rfl) (fun _ _ _ h => h) (Or.inl ⟨by rfl, ?_⟩) (by assumption) ?_
        rotate_left
        · (intro w hSw; (try dsimp only at hSw); go_simp; first | done | with_reducible rfl)
        simp only [Act.put, List.getElem_toArray, List.getElem_cons_succ, List.getElem_cons_zero, List.setIfInBounds_toArray, List.set_cons_zero, List.set_cons_succ]
        refine wpAnyH_take (i := 1) (v := ?_) rfl (by kernel_rfl) (by kernel_rfl) (by kernel_rfl) (fun _ _ _ h => h) (Or.inl ⟨by rfl, ?_⟩) (by assumption) ?_
        rotate_left
        · (intro w hSw; (try dsimp only at hSw); go_simp; first | done | with_reducible rfl)
        simp only [Act.put, List.getElem_toArray, List.getElem_cons_succ, List.getElem_cons_zero, List.setIfInBounds_toArray, List.set_cons_zero, List.set_cons_succ]
        refine wpAnyH_take (i := 2) (v := ?_) rfl (by kernel_rfl) (by kernel_rfl) (by kernel_rfl) (fun _ _ _ h => h) (Or.inl ⟨by rfl, ?_⟩) (by assumption) ?_
        rotate_left
        · (intro w hSw; (try dsimp only at hSw); go_simp; first | done | with_reducible rfl)
        simp only [Act.put, List.getElem_toArray, List.getElem_cons_succ, List.getElem_cons_zero, List.setIfInBounds_toArray, List.set_cons_zero, List.set_cons_succ]
        refine wpAnyH_take (i := 3) (v := ?_) rfl (by kernel_rfl) (by kernel_rfl) (by kernel_rfl) (fun _ _ _ h => h) (Or.inl ⟨by rfl, ?_⟩) (by assumption) ?_
        rotate_left
        · (intro w hSw; (try dsimp only at hSw); go_simp; first | done | with_reducible rfl)
        simp only [Act.put, List.getElem_toArray, List.getElem_cons_succ, List.getElem_cons_zero, List.setIfInBounds_toArray, List.set_cons_zero, List.set_cons_succ]
        refine wpAnyH_take (i := 4) (v := ?_) rfl (by kernel_rfl) (by kernel_rfl) (by kernel_rfl) (fun _ _ _ h => h) (Or.inl ⟨by rfl, ?_⟩) (by assumption) ?_
        rotate_left
        · (intro w hSw; (try dsimp only at hSw); go_simp; first | done | with_reducible rfl)
        simp only [Act.put, List.getElem_toArray, List.getElem_cons_succ, List.getElem_cons_zero, List.setIfInBounds_toArray, List.set_cons_zero, List.set_cons_succ]
        refine wpAnyH_take (i := 5) (v := ?_) rfl (by kernel_rfl) (by kernel_rfl) (by kernel_rfl) (fun _ _ _ h => h) (Or.inl ⟨by rfl, ?_⟩) (by assumption) ?_
        rotate_left
        · (intro w hSw; (try dsimp only at hSw); go_simp; first | done | with_reducible rfl)
        simp only [Act.put, List.getElem_toArray, List.getElem_cons_succ, List.getElem_cons_zero, List.setIfInBounds_toArray, List.set_cons_zero, List.set_cons_succ]
        refine wpAnyH_take (i := 6) (v := ?_) rfl (by kernel_rfl) (by kernel_rfl) (by kernel_rfl) (fun _ _ _ h => h) (Or.inl ⟨by rfl, ?_⟩) (by assumption) ?_
        rotate_left
        · (intro w hSw; (try dsimp only at hSw); go_simp; first | done | with_reducible rfl)
        simp only [Act.put, List.getElem_toArray, List.getElem_cons_succ, List.getElem_cons_zero, List.setIfInBounds_toArray, List.set_cons_zero, List.set_cons_succ]
        refine wpAnyH_ready (rs := [7]) (by kernel_rfl) (by simp) ?_
        refine AllReadyH.cons rfl (fun K hK => ?_) AllReadyH.nil
        go_simp
        go_wp2_with (go_at_call 31; refine HCA1.out.mono ?_; rintro e w4 ⟨rfl, hb4⟩)
        refine hK.out _ _ (HX.out w4 (HD4.out w4 hb4)) (fun hHeld1 => ?_)
        clear hK K hHeld0
        refine wpAnyH_take (i := 8) (v := ?_) rfl (by kernel_rfl) (by kernel_rfl) (by kernel_rfl) (fun _ _ _ h => h) (Or.inl ⟨by rfl, ?_⟩) (by assumption) ?_
        rotate_left
        · (intro w hSw; (try dsimp only at hSw); go_simp; first | done | with_reducible rfl)
        simp only [Act.put, List.getElem_toArray, List.getElem_cons_succ, List.getElem_cons_zero, List.setIfInBounds_toArray, List.set_cons_zero, List.set_cons_succ]
        refine wpAnyH_take (i := 9) (v := ?_) rfl (by kernel_rfl) (by kernel_rfl) (by kernel_rfl) (fun _ _ _ h => h) (Or.inl ⟨by rfl, ?_⟩) (by assumption) ?_
        rotate_left
        · (intro w hSw; (try dsimp only at hSw); go_simp; first | done | with_reducible rfl)
        simp only [Act.put, List.getElem_toArray, List.getElem_cons_succ, List.getElem_cons_zero, List.setIfInBounds_toArray, List.set_cons_zero, List.set_cons_succ]
        refine wpAnyH_take (i := 10) (v := undef) rfl (by kernel_rfl) (by kernel_rfl) (by kernel_rfl) (fun _ _ _ h => h) (Or.inr ⟨by kernel_rfl, rfl⟩) (by assumption) ?_
        simp only [Act.put, List.getElem_toArray, List.getElem_cons_succ, List.getElem_cons_zero, List.setIfInBounds_toArray, List.set_cons_zero, List.set_cons_succ]
        refine wpAnyH_take (i := 11) (v := undef) rfl (by kernel_rfl) (by kernel_rfl) (by kernel_rfl) (fun _ _ _ h => h) (Or.inr ⟨by kernel_rfl, rfl⟩) (by assumption) ?_
        simp only [Act.put, List.getElem_toArray, List.getElem_cons_succ, List.getElem_cons_zero, List.setIfInBounds_toArray, List.set_cons_zero, List.set_cons_succ]
        refine wpAnyH_take (i := 12) (v := undef) rfl (by kernel_rfl) (by kernel_rfl) (by kernel_rfl) (fun _ _ _ h => h) (Or.inr ⟨by kernel_rfl, rfl⟩) (by assumption) ?_
        simp only [Act.put, List.getElem_toArray, List.getElem_cons_succ, List.getElem_cons_zero, List.setIfInBounds_toArray, List.set_cons_zero, List.set_cons_succ]
        refine wpAnyH_take (i := 13) (v := undef) rfl (by kernel_rfl) (by kernel_rfl) (by kernel_rfl) (fun _ _ _ h => h) (Or.inr ⟨by kernel_rfl, rfl⟩) (by assumption) ?_
        simp only [Act.put, List.getElem_toArray, List.getElem_cons_succ, List.getElem_cons_zero, List.setIfInBounds_toArray, List.set_cons_zero, List.set_cons_succ]
        refine wpAnyH_take (i := 14) (v := undef) rfl (by kernel_rfl) (by kernel_rfl) (by kernel_rfl) (fun _ _ _ h => h) (Or.inr ⟨by kernel_rfl, rfl⟩) (by assumption) ?_
        simp only [Act.put, List.getElem_toArray, List.getElem_cons_succ, List.getElem_cons_zero, List.setIfInBounds_toArray, List.set_cons_zero, List.set_cons_succ]
        refine wpAnyH_take (i := 15) (v := undef) rfl (by kernel_rfl) (by kernel_rfl) (by kernel_rfl) (fun _ _ _ h => h) (Or.inr ⟨by kernel_rfl, rfl⟩) (by assumption) ?_
        simp only [Act.put, List.getElem_toArray, List.getElem_cons_succ, List.getElem_cons_zero, List.setIfInBounds_toArray, List.set_cons_zero, List.set_cons_succ]
        refine wpAnyH_take (i := 16) (v := undef) rfl (by kernel_rfl) (by kernel_rfl) (by kernel_rfl) (fun _ _ _ h => h) (Or.inr ⟨by kernel_rfl, rfl⟩) (by assumption) ?_
        simp only [Act.put, List.getElem_toArray, List.getElem_cons_succ, List.getElem_cons_zero, List.setIfInBounds_toArray, List.set_cons_zero, List.set_cons_succ]
        refine wpAnyH_take (i := 17) (v := undef) rfl (by kernel_rfl) (by kernel_rfl) (by kernel_rfl) (fun _ _ _ h => h) (Or.inr ⟨by kernel_rfl, rfl⟩) (by assumption) ?_
        simp only [Act.put, List.getElem_toArray, List.getElem_cons_succ, List.getElem_cons_zero, List.setIfInBounds_toArray, List.set_cons_zero, List.set_cons_succ]
        refine wpAnyH_take (i := 18) (v := undef) rfl (by kernel_rfl) (by kernel_rfl) (by kernel_rfl) (fun _ _ _ h => h) (Or.inr ⟨by kernel_rfl, rfl⟩) (by assumption) ?_
        simp only [Act.put, List.getElem_toArray, List.getElem_cons_succ, List.getElem_cons_zero, List.setIfInBounds_toArray, List.set_cons_zero, List.set_cons_succ]
        refine wpAnyH_take (i := 19) (v := ?_) rfl (by kernel_rfl) (by kernel_rfl) (by kernel_rfl) (fun _ _ _ h => h) (Or.inl ⟨by kernel_rfl, ?_⟩) (by assumption) ?_
        rotate_left
        · (intro w hSw; (try dsimp only at hSw); go_simp; first | done | with_reducible rfl)
        simp only [Act.put, List.getElem_toArray, List.getElem_cons_succ, List.getElem_cons_zero, List.setIfInBounds_toArray, List.set_cons_zero, List.set_cons_succ]
        refine wpAnyH_done (by kernel_rfl) ?_ _
        have hfin := HB0.out.trans ((HFB.out w4 (HD4.out w4 hb4)).mono (by omega))
        clear r1 r2 r3 r4 r5 r6 u0 u1 x1 x2 hb4 hHeld1 hab hob hlt hsz hw0 hw1 hk HX HD HD4 HD5 HCA1 HCG1 HFB HBW
        go_wp2
        go_ret
        exact ⟨by rw [HZ.out]; rfl, hfin⟩
      | true =>
        cases gB with
        | false =>
          have HZ : Hid (R = false) := by show _ = _; rw [HM.out, HA.out]; rfl
          clear HM HA
          go_wp2_with fail
          go_region_held3 (fun w' => w'.cell? ⟨w.heap.size, 0, none⟩ = some (.int .i64 g.terms) ∧ w'.cell? ⟨w.heap.size, 1, none⟩ = some (.int .i64 g.names) ∧ w'.cell? ⟨w.heap.size, 2, none⟩ = some (.int .i64 g.start) ∧ w'.cell? ⟨w.heap.size, 3, none⟩ = some pv ∧ w'.cell? ⟨w.heap.size, 4, none⟩ = some lv ∧ w'.cell? ⟨w.heap.size, 5, none⟩ = some sv ∧ w'.cell? ⟨w.heap.size + 1, 0, none⟩ = some (.slice (some ⟨ab, aoff, none⟩) m ac) ∧ w'.cell? ⟨w.heap.size + 1, 1, none⟩ = some (.slice (some ⟨ob, ooff, none⟩) m oc) ∧ w'.cell? ⟨ab, aoff + k, none⟩ = some (.slice ra rl rc) ∧ w'.cell? ⟨ob, ooff + k, none⟩ = some (.slice sa sl sc)) (go_keep) ((first | (go_at_call 31; refine HCA1.out.mono ?_; rintro e w4 ⟨rfl, hb4⟩; have f := HX.out w4 (HD4.out w4 hb4); obtain ⟨f0, f1, f2, f3, f4, f5, f6, f7, f8, f9⟩ := f) | (go_at_call 32; refine (HCG1.out w4 (HD4.out w4 hb4)).mono ?_; rintro e w5 ⟨rfl, hb5⟩; have g := HX.out w5 (HD5.out w4 w5 (HD4.out w4 hb4) hb5); obtain ⟨g0, g1, g2, g3, g4, g5, g6, g7, g8, g9⟩ := g)))
          all_goals
            have hfin := HB0.out.trans ((HFB.out w5 (HD5.out w4 w5 (HD4.out w4 hb4) hb5)).mono (by omega))
            clear r1 r2 r3 r4 r5 r6 u0 u1 x1 x2 f0 f1 f2 f3 f4 f5 f6 f7 f8 f9 g0 g1 g2 g3 g4 g5 g6 g7 g8 g9 hb4 hb5
            go_wp2
            go_ret
            exact ⟨by rw [HZ.out]; rfl, hfin⟩
        | true =>
          have HM2 : Hid (R = ((List.range m).drop (k + 1)).all fun s => actsB g.terms m g.prods.length (tb.acts.getD s []) && gotosB g.names m (tb.gotos.getD s [])) := by show _ = _; rw [HM.out, HA.out]; rfl
          clear HM HA
          go_wp2_with fail
          go_region_held3 (fun w' => w'.cell? ⟨w.heap.size, 0, none⟩ = some (.int .i64 g.terms) ∧ w'.cell? ⟨w.heap.size, 1, none⟩ = some (.int .i64 g.names) ∧ w'.cell? ⟨w.heap.size, 2, none⟩ = some (.int .i64 g.start) ∧ w'.cell? ⟨w.heap.size, 3, none⟩ = some pv ∧ w'.cell? ⟨w.heap.size, 4, none⟩ = some lv ∧ w'.cell? ⟨w.heap.size, 5, none⟩ = some sv ∧ w'.cell? ⟨w.heap.size + 1, 0, none⟩ = some (.slice (some ⟨ab, aoff, none⟩) m ac) ∧ w'.cell? ⟨w.heap.size + 1, 1, none⟩ = some (.slice (some ⟨ob, ooff, none⟩) m oc) ∧ w'.cell? ⟨ab, aoff + k, none⟩ = some (.slice ra rl rc) ∧ w'.cell? ⟨ob, ooff + k, none⟩ = some (.slice sa sl sc)) (go_keep) ((first | (go_at_call 31; refine HCA1.out.mono ?_; rintro e w4 ⟨rfl, hb4⟩; have f := HX.out w4 (HD4.out w4 hb4); obtain ⟨f0, f1, f2, f3, f4, f5, f6, f7, f8, f9⟩ := f) | (go_at_call 32; refine (HCG1.out w4 (HD4.out w4 hb4)).mono ?_; rintro e w5 ⟨rfl, hb5⟩; have g := HX.out w5 (HD5.out w4 w5 (HD4.out w4 hb4) hb5); obtain ⟨g0, g1, g2, g3, g4, g5, g6, g7, g8, g9⟩ := g)))
          all_goals
            have HF : Hid (Below (w.heap.size + 2) W1 w5) := HFB.out w5 (HD5.out w4 w5 (HD4.out w4 hb4) hb5)
            clear r1 r2 r3 r4 r5 r6 u0 u1 x1 x2 f0 f1 f2 f3 f4 f5 f6 f7 f8 f9 g0 g1 g2 g3 g4 g5 g6 g7 g8 g9 hb4 hb5
            go_wp2
            go_roundw
            case rel => exact ⟨k + 1, by omega, by go_num, HM2, HF⟩
            case measure => simp [intOf]; omega
    · have HZ : Hid (R = true) := by show _ = _; rw [HM.out, List.drop_eq_nil_of_le (by simp; omega)]; rfl
      clear HM
      go_wp2
      go_ret
      exact ⟨by rw [HZ.out]; rfl, hbw⟩

set_option maxHeartbeats 4000000 in
theorem pfits_any (g : Gm) (pv lv sv : Value) (tb : Tb) (av ov cv : Value) (w : World) (h : GrM w g pv lv sv) (hwf : WfG g) (hT : TbM w tb av ov cv) :
    Calls Tryd.prog 7 #[gv g pv lv sv, tvv av ov cv] w fun e w' => e = .returned (.bool (fitsB g tb)) ∧ Below w.heap.size w w' := by
  obtain ⟨hB0, hBX, hBT⟩ := boxT_all w g pv lv sv av ov cv
  have HOk : Hid (∀ w', Below w.heap.size w w' → Calls Tryd.prog 18 #[gv g pv lv sv] w' fun e w'' => e = .returned (.bool (gOkB g)) ∧ Below w'.heap.size w' w'') := fun w' hb => pok_any g pv lv sv w' (h.below hb) hwf
  have HRf : Hid (∀ w', gOkB g = true → Below w.heap.size w w' → Calls Tryd.prog 19 #[gv g pv lv sv, tvv av ov cv] w' fun e w'' => e = .returned (.bool (tabB g tb)) ∧ Below w'.heap.size w' w'') := fun w' hok hb => by
    unfold gOkB at hok
    simp only [Bool.and_eq_true, decide_eq_true_eq] at hok
    have hh := hok.1
    unfold HeadG at hh
    exact rowsFit_any g pv lv sv tb av ov cv w' h.prods.slice ⟨hh.1, hh.2.1⟩ ⟨by omega, hh.2.2.2.1⟩ (hT.below hb)
  obtain ⟨a1, c1, e1⟩ := h.prods.slice
  obtain ⟨a2, c2, e2⟩ := hT.acts.slice
  obtain ⟨a3, c3, e3⟩ := hT.gotos.slice
  clear h hwf hT
  unfold fitsB
  generalize gOkB g = b1 at *
  generalize tabB g tb = b2 at *
  have HBX : Hid (BoxG (boxT w g pv lv sv av ov cv) w.heap.size g pv lv sv) := hBX
  have HBT : Hid (BoxT (boxT w g pv lv sv av ov cv) (w.heap.size + 1) av ov cv) := hBT
  clear hBX hBT e1 e2 e3
  obtain ⟨q0, q1, q2, q3, q4, q5, q6⟩ := HBX.out
  unfold gv gvs tvv tvs at *
  have HWB : Hid ((w.alloc (.cells #[.int .i64 g.terms, .int .i64 g.names, .int .i64 g.start, pv, lv, sv] 25)).alloc (.cells #[av, ov, cv] 30) = boxT w g pv lv sv av ov cv) := rfl
  have HB0 : Hid (Below w.heap.size w (boxT w g pv lv sv av ov cv)) := hB0
  clear hB0
  generalize boxT w g pv lv sv av ov cv = W1 at *
  go_enter Tryd.func7, Tryd.ntmps7
  go_wp2_with fail
  rw [HWB.out]
  go_wp2_with fail
  go_at_call 18
  refine (HOk.out _ HB0.out).mono ?_
  rintro e w2 ⟨rfl, hb2⟩
  have HB2 : Hid (Below w.heap.size w w2) := HB0.out.trans (hb2.mono HB0.out.size)
  have HX2 : Hid (BoxG w2 w.heap.size g pv lv sv) := HBX.out.below HBX.out.lt hb2
  have HT2 : Hid (BoxT w2 (w.heap.size + 1) av ov cv) := HBT.out.below HBT.out.lt hb2
  clear q0 q1 q2 q3 q4 q5 q6 hb2 HBX HBT HB0 HWB HOk
  obtain ⟨q0, q1, q2, q3, q4, q5, q6⟩ := HX2.out
  obtain ⟨t0, t1, t2, t3⟩ := HT2.out
  cases b1 with
  | false =>
    go_wp2
    go_ret
    exact ⟨rfl, HB2.out⟩
  | true =>
    have hr := HRf.out w2 rfl HB2.out
    have HRR : Hid (Calls Tryd.prog 19 #[.agg #[.int .i64 g.terms, .int .i64 g.names, .int .i64 g.start, pv, lv, sv], .agg #[av, ov, cv]] w2 fun e w'' => e = .returned (.bool b2) ∧ Below w2.heap.size w2 w'') := hr
    clear hr HRf
    go_wp2_with fail
    go_at_call 19
    refine HRR.out.mono ?_
    rintro e w3 ⟨rfl, hb3⟩
    have hb4 := HB2.out.trans (hb3.mono HB2.out.size)
    clear q0 q1 q2 q3 q4 q5 q6 t0 t1 t2 t3 hb3
    go_wp2
    go_ret
    exact ⟨rfl, hb4⟩

end Go.Proofs.YtdihdnhofgjhnaaDoor
