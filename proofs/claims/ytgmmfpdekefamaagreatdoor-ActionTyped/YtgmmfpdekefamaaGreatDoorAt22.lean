/- Texts of the proof, put together: QPik. -/
import Derived.Test.YtgmmfpdekefamaaGreatDoorAt21
import Derived.BigRegion
namespace Go.Proofs.YtgmmfpdekefamaaGreatDoor
open Go.RowKit
set_option linter.unusedVariables false
set_option linter.unusedSimpArgs false
set_option maxRecDepth 100000

/-- all that was there, and the block of the answer -/
structure S1 (w w' : World) : Prop where
 bel : Below w.heap.size w w'
 r : ShAt w' w.heap.size 0 0
theorem S1.after {w W W' : World} (h : S1 w W) (hb : Below W.heap.size W W') : S1 w W' := ⟨h.bel.trans (hb.mono h.bel.size), h.r.below hb h.r.lt⟩
theorem S1.new (w : World) : S1 w (w.alloc (.cells #[.int .i64 0, .int .i64 0] 89)) := ⟨alloc_below w _, ShAt.new w 0 0⟩
/-- the first three shapes of a row -/
theorem ShsR.three {w : World} {a : Option Addr} {n c : Nat} {l : List Sh} (h : ShsR w (.slice a n c) l) (h1 : 2 < l.length) : ∃ g off, a = some ⟨g, off, none⟩ ∧ g < w.heap.size ∧ w.cell? ⟨g, off, none⟩ = some (.int .i64 (l.getD 0 noS).1) ∧ w.cell? ⟨g, off + 1, none⟩ = some (.int .i64 (l.getD 0 noS).2) ∧ w.cell? ⟨g, off + 2, none⟩ = some (.int .i64 (l.getD 1 noS).1) ∧ w.cell? ⟨g, off + 3, none⟩ = some (.int .i64 (l.getD 1 noS).2) ∧ w.cell? ⟨g, off + 4, none⟩ = some (.int .i64 (l.getD 2 noS).1) ∧ w.cell? ⟨g, off + 5, none⟩ = some (.int .i64 (l.getD 2 noS).2) := by
 obtain ⟨g, off, rfl, hg, c0, c1, c2, c3⟩ := h.two (by omega)
 obtain ⟨g', off', e, _, d0, d1⟩ := h.at h1
 simp only [Option.some.injEq, Addr.mk.injEq, and_true] at e
 obtain ⟨rfl, rfl⟩ := e
 exact ⟨g, off, rfl, hg, c0, c1, c2, c3, d0, d1⟩

set_option maxHeartbeats 8000000 in
theorem apicked_any {w : World} {lv : Value} {l : List Sh} {O : Option Sh} (h : ShsR w lv l) (hl : l.length = 3) (hN : (l.getD 0 noS).1 ≤ 100000) (HV : Hid (O = atP (l.getD 0 noS) (l.getD 1 noS) (l.getD 2 noS))) : Calls Tryz.prog 166 #[lv] w (GotS w O) := by
 obtain ⟨a, c, rfl⟩ := h.slice
 rw [hl] at h ⊢
 obtain ⟨g, off, rfl, hg, c0, c1, c2, c3, c4, c5⟩ := h.three (by omega)
 have HS0 : Hid (S1 w (w.alloc (.cells #[.int .i64 0, .int .i64 0] 89))) := S1.new w
 have HR0 : Hid (ShAt (w.alloc (.cells #[.int .i64 0, .int .i64 0] 89)) w.heap.size 0 0) := HS0.out.r
 have HIs : Hid (∀ W, Calls Tryz.prog 146 #[shV (l.getD 0 noS)] W fun e w' => e = .returned (.bool (decide (1 ≤ (l.getD 0 noS).1))) ∧ Below W.heap.size W w') := fun W => aislist_any _ W
 have HSi : Hid (∀ W, Calls Tryz.prog 123 #[.int .i64 1] W fun e w' => e = .returned (.agg #[.int .i64 0, .int .i64 1]) ∧ Below W.heap.size W w') := fun W => asimple_any 1 W
 have HEl : Hid (1 ≤ (l.getD 0 noS).1 → ∀ W, Calls Tryz.prog 147 #[shV (l.getD 0 noS)] W fun e w' => Below W.heap.size W w' ∧ ((elP (l.getD 0 noS) = none ∧ e = .returned (.tuple #[shV (0, 0), .bool false])) ∨ ∃ u, elP (l.getD 0 noS) = some u ∧ e = .returned (.tuple #[shV u, .bool true]))) := fun h1 W => aelement_any _ h1 hN W
 clear h hl hN
 generalize l.getD 0 noS = z0 at *
 generalize l.getD 1 noS = z1 at *
 generalize l.getD 2 noS = z2 at *
 obtain ⟨la, ba⟩ := z0
 obtain ⟨lb, bb⟩ := z1
 obtain ⟨lc, bc⟩ := z2
 unfold shV at HIs HEl
 simp only at HIs HEl c0 c1 c2 c3 c4 c5
 have HX : Hid (∀ w', S1 w w' → w'.cell? ⟨g, off, none⟩ = some (.int .i64 la) ∧ w'.cell? ⟨g, off + 1, none⟩ = some (.int .i64 ba) ∧ w'.cell? ⟨g, off + 2, none⟩ = some (.int .i64 lb) ∧ w'.cell? ⟨g, off + 3, none⟩ = some (.int .i64 bb) ∧ w'.cell? ⟨g, off + 4, none⟩ = some (.int .i64 lc) ∧ w'.cell? ⟨g, off + 5, none⟩ = some (.int .i64 bc)) := fun w' h =>
  ⟨(h.bel.cell (p := ⟨g, off, none⟩) hg).trans c0, (h.bel.cell (p := ⟨g, off + 1, none⟩) hg).trans c1, (h.bel.cell (p := ⟨g, off + 2, none⟩) hg).trans c2, (h.bel.cell (p := ⟨g, off + 3, none⟩) hg).trans c3, (h.bel.cell (p := ⟨g, off + 4, none⟩) hg).trans c4, (h.bel.cell (p := ⟨g, off + 5, none⟩) hg).trans c5⟩

 by_cases h1 : 1 ≤ la
 ·have hd : decide (1 ≤ la) = true := decide_eq_true h1
  rw [hd] at HIs
  by_cases h2 : lb = 0
  ·subst h2
   by_cases h3 : bb = 1
   ·subst h3
    go_enter Tryz.func166, Tryz.ntmps166
    go_wp2_with fail
    generalize w.alloc (.cells #[.int .i64 0, .int .i64 0] 89) = w3 at *
    have hdr0 : Below w3.heap.size w3 w3.drew := below_drewG (Below.refl _ _) 1
    have hSd : (S1 w) w3.drew := HS0.out.after hdr0
    have hRd0 : ShAt w3.drew w.heap.size 0 0 := HR0.out.below hdr0 HR0.out.lt
    clear hdr0
    refine wp_region_held_drew (S := (S1 w)) (by kernel_rfl) hSd (fun hHeld => ?_)
    clear hHeld
    generalize w3.drew = wd0 at hSd hRd0 ⊢
    refine wpAnyH_take (i := 0) (v := ?_) rfl (by kernel_rfl) (by kernel_rfl) (by kernel_rfl) (fun _ _ _ h => h) (Or.inl ⟨by rfl, ?_⟩) hSd ?_
    rotate_left
    ·(intro w9 hSw; obtain ⟨x0, x1, x2, x3, x4, x5⟩ := HX.out w9 hSw; go_simp; first | done | with_reducible rfl)
    refine wpAnyH_take (i := 1) (v := ?_) rfl (by kernel_rfl) (by kernel_rfl) (by kernel_rfl) (fun _ _ _ h => h) (Or.inl ⟨by rfl, ?_⟩) hSd ?_
    rotate_left
    ·(intro w9 hSw; obtain ⟨x0, x1, x2, x3, x4, x5⟩ := HX.out w9 hSw; go_simp; first | done | with_reducible rfl)
    refine wpAnyH_take (i := 2) (v := ?_) rfl (by kernel_rfl) (by kernel_rfl) (by kernel_rfl) (fun _ _ _ h => h) (Or.inl ⟨by rfl, ?_⟩) hSd ?_
    rotate_left
    ·(intro w9 hSw; obtain ⟨x0, x1, x2, x3, x4, x5⟩ := HX.out w9 hSw; go_simp; first | done | with_reducible rfl)
    simp only [Act.put, List.getElem_toArray, List.getElem_cons_succ, List.getElem_cons_zero, List.setIfInBounds_toArray, List.set_cons_zero, List.set_cons_succ]
    refine wpAnyH_ready (rs := [3]) (by kernel_rfl) (by simp) ?_
    refine AllReadyH.cons rfl (fun K hK => ?_) AllReadyH.nil
    go_simp
    go_wp2_with (go_at_call 146; refine (HIs.out wd0).mono ?_; rintro e wd1 ⟨rfl, hbd1⟩)
    have hSd1 : (S1 w) wd1 := hSd.after hbd1
    have hRd1 : ShAt wd1 w.heap.size 0 0 := hRd0.below hbd1 hRd0.lt
    refine hK.out _ _ hSd1 (fun hHeld => ?_)
    clear hK K hHeld
    refine wpAnyH_take (i := 4) (v := ?_) rfl (by kernel_rfl) (by kernel_rfl) (by kernel_rfl) (fun _ _ _ h => h) (Or.inl ⟨by rfl, ?_⟩) hSd1 ?_
    rotate_left
    ·(intro w9 hSw; obtain ⟨x0, x1, x2, x3, x4, x5⟩ := HX.out w9 hSw; go_simp; first | done | with_reducible rfl)
    refine wpAnyH_take (i := 5) (v := ?_) rfl (by kernel_rfl) (by kernel_rfl) (by kernel_rfl) (fun _ _ _ h => h) (Or.inl ⟨by rfl, ?_⟩) hSd1 ?_
    rotate_left
    ·(intro w9 hSw; obtain ⟨x0, x1, x2, x3, x4, x5⟩ := HX.out w9 hSw; go_simp; first | done | with_reducible rfl)
    refine wpAnyH_take (i := 6) (v := ?_) rfl (by kernel_rfl) (by kernel_rfl) (by kernel_rfl) (fun _ _ _ h => h) (Or.inl ⟨by rfl, ?_⟩) hSd1 ?_
    rotate_left
    ·(intro w9 hSw; obtain ⟨x0, x1, x2, x3, x4, x5⟩ := HX.out w9 hSw; go_simp; first | done | with_reducible rfl)
    refine wpAnyH_take (i := 7) (v := ?_) rfl (by kernel_rfl) (by kernel_rfl) (by kernel_rfl) (fun _ _ _ h => h) (Or.inl ⟨by rfl, ?_⟩) hSd1 ?_
    rotate_left
    ·(intro w9 hSw; obtain ⟨x0, x1, x2, x3, x4, x5⟩ := HX.out w9 hSw; go_simp; first | done | with_reducible rfl)
    refine wpAnyH_take (i := 8) (v := ?_) rfl (by kernel_rfl) (by kernel_rfl) (by kernel_rfl) (fun _ _ _ h => h) (Or.inl ⟨by rfl, ?_⟩) hSd1 ?_
    rotate_left
    ·(intro w9 hSw; obtain ⟨x0, x1, x2, x3, x4, x5⟩ := HX.out w9 hSw; go_simp; first | done | with_reducible rfl)
    simp only [Act.put, List.getElem_toArray, List.getElem_cons_succ, List.getElem_cons_zero, List.setIfInBounds_toArray, List.set_cons_zero, List.set_cons_succ]
    refine wpAnyH_ready (rs := [9]) (by kernel_rfl) (by simp) ?_
    refine AllReadyH.cons rfl (fun K hK => ?_) AllReadyH.nil
    go_simp
    go_wp2_with (go_at_call 123; refine (HSi.out wd1).mono ?_; rintro e wd2 ⟨rfl, hbd2⟩)
    have hSd2 : (S1 w) wd2 := hSd1.after hbd2
    have hRd2 : ShAt wd2 w.heap.size 0 0 := hRd1.below hbd2 hRd1.lt
    refine hK.out _ _ hSd2 (fun hHeld => ?_)
    clear hK K hHeld
    refine wpAnyH_take (i := 10) (v := ?_) rfl (by kernel_rfl) (by kernel_rfl) (by kernel_rfl) (fun _ _ _ h => h) (Or.inl ⟨by rfl, ?_⟩) hSd2 ?_
    rotate_left
    ·(intro w9 hSw; obtain ⟨x0, x1, x2, x3, x4, x5⟩ := HX.out w9 hSw; go_simp; first | done | with_reducible rfl)
    refine wpAnyH_take (i := 11) (v := ?_) rfl (by kernel_rfl) (by kernel_rfl) (by kernel_rfl) (fun _ _ _ h => h) (Or.inl ⟨by rfl, ?_⟩) hSd2 ?_
    rotate_left
    ·(intro w9 hSw; obtain ⟨x0, x1, x2, x3, x4, x5⟩ := HX.out w9 hSw; go_simp; first | done | with_reducible rfl)
    simp only [Act.put, List.getElem_toArray, List.getElem_cons_succ, List.getElem_cons_zero, List.setIfInBounds_toArray, List.set_cons_zero, List.set_cons_succ]
    refine wpAnyH_done (by kernel_rfl) ?_ _
    obtain ⟨x0, x1, x2, x3, x4, x5⟩ := HX.out _ hSd2
    have hgq : g < wd2.heap.size := Nat.lt_of_lt_of_le hg hSd2.bel.size
    go_wp2_with fail
    clear x0 x1 x2 x3 x4 x5 hgq
    have HC := HEl.out h1 wd2
    clear HEl HIs HSi
    go_at_call 147
    refine HC.mono ?_
    rintro e w5 ⟨hb5, hres⟩
    have HS5 : Hid (S1 w w5) := hSd2.after hb5
    rcases hres with ⟨he, rfl⟩ | ⟨u, he, rfl⟩
    ·have hz : (la, ba) = ((1, 0) : Sh) := by
      unfold elP at he
      split at he
      ·assumption
      ·cases he
     have HV2 : Hid (O = some (lc, bc)) := by
      show _ = _
      rw [HV.out]
      unfold atP
      rw [hz]
      rfl
     have ha5 := alloc_below w5 (.cells #[.int .i64 0, .int .i64 0] 89)
     have HS6 : Hid (S1 w (w5.alloc (.cells #[.int .i64 0, .int .i64 0] 89))) := HS5.out.after ha5
     obtain ⟨x0, x1, x2, x3, x4, x5⟩ := HX.out _ HS5.out
     have hg5 : g < w5.heap.size := Nat.lt_of_lt_of_le hg HS5.out.bel.size
     obtain ⟨W, hW, hbW, _, hTW⟩ := HS5.out.r.ret HS5.out.bel (Nat.le_refl _) lc bc
     have ha7 := alloc_below W (.cells #[.int .i64 0, .int .i64 0] 89)
     have hTW2 := hTW.below ha7 hTW.lt
     have HW : Hid (putS w5 w.heap.size lc bc = W) := hW
     have s0 := hTW2.c0
     have s1 := hTW2.c1
     have HG : Hid (GotS w O (.returned (.tuple #[shV (lc, bc), .bool true])) (W.alloc (.cells #[.int .i64 0, .int .i64 0] 89))) := GotS.yes HV2.out (hbW.trans (ha7.mono hbW.size))
     have r0 := HS5.out.r.c0
     have r1 := HS5.out.r.c1
     have f0 := HS5.out.r.fz 0
     have f1 := HS5.out.r.fz 1
     have rr := HS5.out.r.lt
     clear hW hbW hTW hTW2 ha5 ha7 HX HS5 HS6 hb5 HV HC
     go_wp2
     have hW := HW.out
     unfold putS at hW
     rw [hW]
     generalize W.alloc (.cells #[.int .i64 0, .int .i64 0] 89) = W2 at *
     refine bodyPost_ret (v := .tuple #[.agg #[.int .i64 lc, .int .i64 bc], .bool true]) ?_ rfl ?_
     ·simp [results, go_sem, s0, s1]
     ·exact HG.out
    ·have hz : ¬ ((la, ba) = ((1, 0) : Sh)) ∧ u = (la - 1, ba) := by
      unfold elP at he
      split at he
      ·cases he
      ·rename_i hn; exact ⟨hn, (Option.some.inj he).symm⟩
     obtain ⟨hz1, rfl⟩ := hz
     have HV2 : Hid (O = joinP (la - 1, ba) (lc, bc)) := by
      show _ = _
      rw [HV.out]
      unfold atP
      rw [if_pos (by simp [h1]), if_neg hz1]
     have ha5 := alloc_below w5 (.cells #[.int .i64 ((la - 1 : Nat) : Int), .int .i64 ba] 89)
     have HS6 : Hid (S1 w (w5.alloc (.cells #[.int .i64 ((la - 1 : Nat) : Int), .int .i64 ba] 89))) := HS5.out.after ha5
     have HSv : Hid (SR w w5.heap.size ((la - 1 : Nat) : Int) ba (w5.alloc (.cells #[.int .i64 ((la - 1 : Nat) : Int), .int .i64 ba] 89))) := ⟨HS6.out.bel, ShAt.new w5 _ _, HS5.out.r.lt⟩
     have HR6 : Hid (ShAt (w5.alloc (.cells #[.int .i64 ((la - 1 : Nat) : Int), .int .i64 ba] 89)) w.heap.size 0 0) := HS6.out.r
     have HJo : Hid (∀ W, Calls Tryz.prog 125 #[.agg #[.int .i64 ((la - 1 : Nat) : Int), .int .i64 ba], .agg #[.int .i64 lc, .int .i64 bc]] W (GotS W O)) := fun W => by
      rw [HV2.out]
      exact ajoin_any (la - 1, ba) (lc, bc) W
     have HX2 : Hid (∀ Y w', SR w Y ((la - 1 : Nat) : Int) ba w' → w'.cell? ⟨g, off + 4, none⟩ = some (.int .i64 lc) ∧ w'.cell? ⟨g, off + 5, none⟩ = some (.int .i64 bc) ∧ w'.cell? ⟨Y, 0, none⟩ = some (.int .i64 ((la - 1 : Nat) : Int)) ∧ w'.cell? ⟨Y, 1, none⟩ = some (.int .i64 ba)) := fun Y w' h =>
      ⟨(h.bel.cell (p := ⟨g, off + 4, none⟩) hg).trans c4, (h.bel.cell (p := ⟨g, off + 5, none⟩) hg).trans c5, h.sh.c0, h.sh.c1⟩
     simp only
     clear ha5 HX HS5 HS6 hb5 HV HC hz1 he
     go_wp2_with fail
     generalize w5.heap.size = Y at *
     generalize w5.alloc (.cells #[.int .i64 ((la - 1 : Nat) : Int), .int .i64 ba] 89) = w6 at *
     have HX := HX2.out Y
     have HX : Hid (∀ w', SR w Y ((la - 1 : Nat) : Int) ba w' → w'.cell? ⟨g, off + 4, none⟩ = some (.int .i64 lc) ∧ w'.cell? ⟨g, off + 5, none⟩ = some (.int .i64 bc) ∧ w'.cell? ⟨Y, 0, none⟩ = some (.int .i64 ((la - 1 : Nat) : Int)) ∧ w'.cell? ⟨Y, 1, none⟩ = some (.int .i64 ba)) := HX
     have HS0q := HSv
     have HR0q := HR6
     clear HSv HR6 HX2
     have hdr0 : Below w6.heap.size w6 w6.drew := below_drewG (Below.refl _ _) 1
     have hSd : (SR w Y ((la - 1 : Nat) : Int) ba) w6.drew := HS0q.out.after hdr0
     have hRd0 : ShAt w6.drew w.heap.size 0 0 := HR0q.out.below hdr0 HR0q.out.lt
     clear hdr0
     refine wp_region_held_drew (S := (SR w Y ((la - 1 : Nat) : Int) ba)) (by kernel_rfl) hSd (fun hHeld => ?_)
     clear hHeld
     generalize w6.drew = wd0 at hSd hRd0 ⊢
     refine wpAnyH_take (i := 0) (v := ?_) rfl (by kernel_rfl) (by kernel_rfl) (by kernel_rfl) (fun _ _ _ h => h) (Or.inl ⟨by rfl, ?_⟩) hSd ?_
     rotate_left
     ·(intro w9 hSw; obtain ⟨x0, x1, x2, x3⟩ := HX.out w9 hSw; go_simp; first | done | with_reducible rfl)
     refine wpAnyH_take (i := 1) (v := ?_) rfl (by kernel_rfl) (by kernel_rfl) (by kernel_rfl) (fun _ _ _ h => h) (Or.inl ⟨by rfl, ?_⟩) hSd ?_
     rotate_left
     ·(intro w9 hSw; obtain ⟨x0, x1, x2, x3⟩ := HX.out w9 hSw; go_simp; first | done | with_reducible rfl)
     refine wpAnyH_take (i := 2) (v := ?_) rfl (by kernel_rfl) (by kernel_rfl) (by kernel_rfl) (fun _ _ _ h => h) (Or.inl ⟨by rfl, ?_⟩) hSd ?_
     rotate_left
     ·(intro w9 hSw; obtain ⟨x0, x1, x2, x3⟩ := HX.out w9 hSw; go_simp; first | done | with_reducible rfl)
     refine wpAnyH_take (i := 3) (v := ?_) rfl (by kernel_rfl) (by kernel_rfl) (by kernel_rfl) (fun _ _ _ h => h) (Or.inl ⟨by rfl, ?_⟩) hSd ?_
     rotate_left
     ·(intro w9 hSw; obtain ⟨x0, x1, x2, x3⟩ := HX.out w9 hSw; go_simp; first | done | with_reducible rfl)
     simp only [Act.put, List.getElem_toArray, List.getElem_cons_succ, List.getElem_cons_zero, List.setIfInBounds_toArray, List.set_cons_zero, List.set_cons_succ]
     refine wpAnyH_ready (rs := [4]) (by kernel_rfl) (by simp) ?_
     refine AllReadyH.cons rfl (fun K hK => ?_) AllReadyH.nil
     go_simp
     go_wp2_with (go_at_call 125; refine (HJo.out _).mono ?_; rintro e wd1 ⟨hbd1, u, yes, rfl, hy, hs⟩)
     have HY : Hid (yes = O.isSome) := hy
     clear hy
     have hSd1 : (SR w Y ((la - 1 : Nat) : Int) ba) wd1 := hSd.after hbd1
     have hRd1 : ShAt wd1 w.heap.size 0 0 := hRd0.below hbd1 hRd0.lt
     unfold shV
     refine hK.out _ _ hSd1 (fun hHeld => ?_)
     clear hK K hHeld
     refine wpAnyH_take (i := 5) (v := ?_) rfl (by kernel_rfl) (by kernel_rfl) (by kernel_rfl) (fun _ _ _ h => h) (Or.inl ⟨by rfl, ?_⟩) hSd1 ?_
     rotate_left
     ·(intro w9 hSw; obtain ⟨x0, x1, x2, x3⟩ := HX.out w9 hSw; go_simp; first | done | with_reducible rfl)
     refine wpAnyH_take (i := 6) (v := ?_) rfl (by kernel_rfl) (by kernel_rfl) (by kernel_rfl) (fun _ _ _ h => h) (Or.inl ⟨by rfl, ?_⟩) hSd1 ?_
     rotate_left
     ·(intro w9 hSw; obtain ⟨x0, x1, x2, x3⟩ := HX.out w9 hSw; go_simp; first | done | with_reducible rfl)
     simp only [Act.put, List.getElem_toArray, List.getElem_cons_succ, List.getElem_cons_zero, List.setIfInBounds_toArray, List.set_cons_zero, List.set_cons_succ]
     have r0 := hRd1.c0
     have r1 := hRd1.c1
     have f0 := hRd1.fz 0
     have f1 := hRd1.fz 1
     have rr := hRd1.lt
     refine wpAnyH_ready (rs := [7]) (by kernel_rfl) (by simp) ?_
     refine AllReadyH.cons rfl (fun K hK => ?_) AllReadyH.nil
     go_simp
     have hSd2 : (SR w Y ((la - 1 : Nat) : Int) ba) (putS wd1 w.heap.size u.1 u.2) := hSd1.put u.1 u.2
     have hRd2 : ShAt (putS wd1 w.heap.size u.1 u.2) w.heap.size u.1 u.2 := hRd1.put u.1 u.2
     change K _ (putS wd1 w.heap.size u.1 u.2)
     refine hK.out _ _ hSd2 (fun hHeld => ?_)
     clear hK K hHeld r0 r1 f0 f1 rr
     generalize putS wd1 w.heap.size u.1 u.2 = wd2 at hSd2 hRd2 ⊢
     refine wpAnyH_take (i := 8) (v := ?_) rfl (by kernel_rfl) (by kernel_rfl) (by kernel_rfl) (fun _ _ _ h => h) (Or.inl ⟨by rfl, ?_⟩) hSd2 ?_
     rotate_left
     ·(intro w9 hSw; obtain ⟨x0, x1, x2, x3⟩ := HX.out w9 hSw; go_simp; first | done | with_reducible rfl)
     simp only [Act.put, List.getElem_toArray, List.getElem_cons_succ, List.getElem_cons_zero, List.setIfInBounds_toArray, List.set_cons_zero, List.set_cons_succ]
     refine wpAnyH_done (by kernel_rfl) ?_ _
     have s0 := hRd2.c0
     have s1 := hRd2.c1
     have HBW : Hid (Below w.heap.size w wd2) := hSd2.bel
     clear HX
     go_wp2
     refine bodyPost_ret (v := .tuple #[.agg #[.int .i64 u.1, .int .i64 u.2], .bool O.isSome]) ?_ rfl ?_
     ·simp [results, go_sem, s0, s1]
     ·exact ⟨HBW.out, u, O.isSome, rfl, rfl, hs⟩
   ·have HV2 : Hid (O = none) := by
     show _ = _
     rw [HV.out]
     unfold atP
     rw [if_neg (by simp [h3])]
    have h3b : ¬ (bb = 1) := h3
    go_enter Tryz.func166, Tryz.ntmps166
    go_wp2_with fail
    generalize w.alloc (.cells #[.int .i64 0, .int .i64 0] 89) = w3 at *
    have hdr0 : Below w3.heap.size w3 w3.drew := below_drewG (Below.refl _ _) 1
    have hSd : (S1 w) w3.drew := HS0.out.after hdr0
    have hRd0 : ShAt w3.drew w.heap.size 0 0 := HR0.out.below hdr0 HR0.out.lt
    clear hdr0
    refine wp_region_held_drew (S := (S1 w)) (by kernel_rfl) hSd (fun hHeld => ?_)
    clear hHeld
    generalize w3.drew = wd0 at hSd hRd0 ⊢
    refine wpAnyH_take (i := 0) (v := ?_) rfl (by kernel_rfl) (by kernel_rfl) (by kernel_rfl) (fun _ _ _ h => h) (Or.inl ⟨by rfl, ?_⟩) hSd ?_
    rotate_left
    ·(intro w9 hSw; obtain ⟨x0, x1, x2, x3, x4, x5⟩ := HX.out w9 hSw; go_simp; first | done | with_reducible rfl)
    refine wpAnyH_take (i := 1) (v := ?_) rfl (by kernel_rfl) (by kernel_rfl) (by kernel_rfl) (fun _ _ _ h => h) (Or.inl ⟨by rfl, ?_⟩) hSd ?_
    rotate_left
    ·(intro w9 hSw; obtain ⟨x0, x1, x2, x3, x4, x5⟩ := HX.out w9 hSw; go_simp; first | done | with_reducible rfl)
    refine wpAnyH_take (i := 2) (v := ?_) rfl (by kernel_rfl) (by kernel_rfl) (by kernel_rfl) (fun _ _ _ h => h) (Or.inl ⟨by rfl, ?_⟩) hSd ?_
    rotate_left
    ·(intro w9 hSw; obtain ⟨x0, x1, x2, x3, x4, x5⟩ := HX.out w9 hSw; go_simp; first | done | with_reducible rfl)
    simp only [Act.put, List.getElem_toArray, List.getElem_cons_succ, List.getElem_cons_zero, List.setIfInBounds_toArray, List.set_cons_zero, List.set_cons_succ]
    refine wpAnyH_ready (rs := [3]) (by kernel_rfl) (by simp) ?_
    refine AllReadyH.cons rfl (fun K hK => ?_) AllReadyH.nil
    go_simp
    go_wp2_with (go_at_call 146; refine (HIs.out wd0).mono ?_; rintro e wd1 ⟨rfl, hbd1⟩)
    have hSd1 : (S1 w) wd1 := hSd.after hbd1
    have hRd1 : ShAt wd1 w.heap.size 0 0 := hRd0.below hbd1 hRd0.lt
    refine hK.out _ _ hSd1 (fun hHeld => ?_)
    clear hK K hHeld
    refine wpAnyH_take (i := 4) (v := ?_) rfl (by kernel_rfl) (by kernel_rfl) (by kernel_rfl) (fun _ _ _ h => h) (Or.inl ⟨by rfl, ?_⟩) hSd1 ?_
    rotate_left
    ·(intro w9 hSw; obtain ⟨x0, x1, x2, x3, x4, x5⟩ := HX.out w9 hSw; go_simp; first | done | with_reducible rfl)
    refine wpAnyH_take (i := 5) (v := ?_) rfl (by kernel_rfl) (by kernel_rfl) (by kernel_rfl) (fun _ _ _ h => h) (Or.inl ⟨by rfl, ?_⟩) hSd1 ?_
    rotate_left
    ·(intro w9 hSw; obtain ⟨x0, x1, x2, x3, x4, x5⟩ := HX.out w9 hSw; go_simp; first | done | with_reducible rfl)
    refine wpAnyH_take (i := 6) (v := ?_) rfl (by kernel_rfl) (by kernel_rfl) (by kernel_rfl) (fun _ _ _ h => h) (Or.inl ⟨by rfl, ?_⟩) hSd1 ?_
    rotate_left
    ·(intro w9 hSw; obtain ⟨x0, x1, x2, x3, x4, x5⟩ := HX.out w9 hSw; go_simp; first | done | with_reducible rfl)
    refine wpAnyH_take (i := 7) (v := ?_) rfl (by kernel_rfl) (by kernel_rfl) (by kernel_rfl) (fun _ _ _ h => h) (Or.inl ⟨by rfl, ?_⟩) hSd1 ?_
    rotate_left
    ·(intro w9 hSw; obtain ⟨x0, x1, x2, x3, x4, x5⟩ := HX.out w9 hSw; go_simp; first | done | with_reducible rfl)
    refine wpAnyH_take (i := 8) (v := ?_) rfl (by kernel_rfl) (by kernel_rfl) (by kernel_rfl) (fun _ _ _ h => h) (Or.inl ⟨by rfl, ?_⟩) hSd1 ?_
    rotate_left
    ·(intro w9 hSw; obtain ⟨x0, x1, x2, x3, x4, x5⟩ := HX.out w9 hSw; go_simp; first | done | with_reducible rfl)
    simp only [Act.put, List.getElem_toArray, List.getElem_cons_succ, List.getElem_cons_zero, List.setIfInBounds_toArray, List.set_cons_zero, List.set_cons_succ]
    refine wpAnyH_ready (rs := [9]) (by kernel_rfl) (by simp) ?_
    refine AllReadyH.cons rfl (fun K hK => ?_) AllReadyH.nil
    go_simp
    go_wp2_with (go_at_call 123; refine (HSi.out wd1).mono ?_; rintro e wd2 ⟨rfl, hbd2⟩)
    have hSd2 : (S1 w) wd2 := hSd1.after hbd2
    have hRd2 : ShAt wd2 w.heap.size 0 0 := hRd1.below hbd2 hRd1.lt
    refine hK.out _ _ hSd2 (fun hHeld => ?_)
    clear hK K hHeld
    refine wpAnyH_take (i := 10) (v := ?_) rfl (by kernel_rfl) (by kernel_rfl) (by kernel_rfl) (fun _ _ _ h => h) (Or.inl ⟨by rfl, ?_⟩) hSd2 ?_
    rotate_left
    ·(intro w9 hSw; obtain ⟨x0, x1, x2, x3, x4, x5⟩ := HX.out w9 hSw; go_simp; first | done | with_reducible rfl)
    refine wpAnyH_take (i := 11) (v := ?_) rfl (by kernel_rfl) (by kernel_rfl) (by kernel_rfl) (fun _ _ _ h => h) (Or.inl ⟨by rfl, ?_⟩) hSd2 ?_
    rotate_left
    ·(intro w9 hSw; obtain ⟨x0, x1, x2, x3, x4, x5⟩ := HX.out w9 hSw; go_simp; first | done | with_reducible rfl)
    simp only [Act.put, List.getElem_toArray, List.getElem_cons_succ, List.getElem_cons_zero, List.setIfInBounds_toArray, List.set_cons_zero, List.set_cons_succ]
    refine wpAnyH_done (by kernel_rfl) ?_ _
    have HBW : Hid (Below w.heap.size w wd2) := hSd2.bel
    have r0 := hRd2.c0
    have r1 := hRd2.c1
    have f0 := hRd2.fz 0
    have f1 := hRd2.fz 1
    have rr := hRd2.lt
    obtain ⟨W, hW, hbW, _, hTW⟩ := hRd2.ret hSd2.bel (Nat.le_refl _) 0 0
    have HW : Hid (putS wd2 w.heap.size 0 0 = W) := hW
    have s0 := hTW.c0
    have s1 := hTW.c1
    have HBW2 : Hid (Below w.heap.size w W) := hbW
    clear hW hbW hTW HX HEl HIs HSi
    go_wp2
    have hW := HW.out
    unfold putS at hW
    rw [hW]
    refine bodyPost_ret (v := .tuple #[.agg #[.int .i64 0, .int .i64 0], .bool false]) ?_ rfl ?_
    ·simp [results, go_sem, s0, s1]
    ·exact GotS.no (0, 0) HV2.out HBW2.out
  ·have h2i : ¬ ((lb : Int) = 0) := by omega
   have HV2 : Hid (O = none) := by
    show _ = _
    rw [HV.out]
    unfold atP
    rw [if_neg (by simp [h2])]
   go_enter Tryz.func166, Tryz.ntmps166
   go_wp2_with fail
   generalize w.alloc (.cells #[.int .i64 0, .int .i64 0] 89) = w3 at *
   have hdr0 : Below w3.heap.size w3 w3.drew := below_drewG (Below.refl _ _) 1
   have hSd : (S1 w) w3.drew := HS0.out.after hdr0
   have hRd0 : ShAt w3.drew w.heap.size 0 0 := HR0.out.below hdr0 HR0.out.lt
   clear hdr0
   refine wp_region_held_drew (S := (S1 w)) (by kernel_rfl) hSd (fun hHeld => ?_)
   clear hHeld
   generalize w3.drew = wd0 at hSd hRd0 ⊢
   refine wpAnyH_take (i := 0) (v := ?_) rfl (by kernel_rfl) (by kernel_rfl) (by kernel_rfl) (fun _ _ _ h => h) (Or.inl ⟨by rfl, ?_⟩) hSd ?_
   rotate_left
   ·(intro w9 hSw; obtain ⟨x0, x1, x2, x3, x4, x5⟩ := HX.out w9 hSw; go_simp; first | done | with_reducible rfl)
   refine wpAnyH_take (i := 1) (v := ?_) rfl (by kernel_rfl) (by kernel_rfl) (by kernel_rfl) (fun _ _ _ h => h) (Or.inl ⟨by rfl, ?_⟩) hSd ?_
   rotate_left
   ·(intro w9 hSw; obtain ⟨x0, x1, x2, x3, x4, x5⟩ := HX.out w9 hSw; go_simp; first | done | with_reducible rfl)
   refine wpAnyH_take (i := 2) (v := ?_) rfl (by kernel_rfl) (by kernel_rfl) (by kernel_rfl) (fun _ _ _ h => h) (Or.inl ⟨by rfl, ?_⟩) hSd ?_
   rotate_left
   ·(intro w9 hSw; obtain ⟨x0, x1, x2, x3, x4, x5⟩ := HX.out w9 hSw; go_simp; first | done | with_reducible rfl)
   simp only [Act.put, List.getElem_toArray, List.getElem_cons_succ, List.getElem_cons_zero, List.setIfInBounds_toArray, List.set_cons_zero, List.set_cons_succ]
   refine wpAnyH_ready (rs := [3]) (by kernel_rfl) (by simp) ?_
   refine AllReadyH.cons rfl (fun K hK => ?_) AllReadyH.nil
   go_simp
   go_wp2_with (go_at_call 146; refine (HIs.out wd0).mono ?_; rintro e wd1 ⟨rfl, hbd1⟩)
   have hSd1 : (S1 w) wd1 := hSd.after hbd1
   have hRd1 : ShAt wd1 w.heap.size 0 0 := hRd0.below hbd1 hRd0.lt
   refine hK.out _ _ hSd1 (fun hHeld => ?_)
   clear hK K hHeld
   refine wpAnyH_take (i := 4) (v := ?_) rfl (by kernel_rfl) (by kernel_rfl) (by kernel_rfl) (fun _ _ _ h => h) (Or.inl ⟨by rfl, ?_⟩) hSd1 ?_
   rotate_left
   ·(intro w9 hSw; obtain ⟨x0, x1, x2, x3, x4, x5⟩ := HX.out w9 hSw; go_simp; first | done | with_reducible rfl)
   refine wpAnyH_take (i := 5) (v := ?_) rfl (by kernel_rfl) (by kernel_rfl) (by kernel_rfl) (fun _ _ _ h => h) (Or.inl ⟨by rfl, ?_⟩) hSd1 ?_
   rotate_left
   ·(intro w9 hSw; obtain ⟨x0, x1, x2, x3, x4, x5⟩ := HX.out w9 hSw; go_simp; first | done | with_reducible rfl)
   refine wpAnyH_take (i := 6) (v := ?_) rfl (by kernel_rfl) (by kernel_rfl) (by kernel_rfl) (fun _ _ _ h => h) (Or.inl ⟨by rfl, ?_⟩) hSd1 ?_
   rotate_left
   ·(intro w9 hSw; obtain ⟨x0, x1, x2, x3, x4, x5⟩ := HX.out w9 hSw; go_simp; first | done | with_reducible rfl)
   refine wpAnyH_take (i := 7) (v := ?_) rfl (by kernel_rfl) (by kernel_rfl) (by kernel_rfl) (fun _ _ _ h => h) (Or.inl ⟨by rfl, ?_⟩) hSd1 ?_
   rotate_left
   ·(intro w9 hSw; obtain ⟨x0, x1, x2, x3, x4, x5⟩ := HX.out w9 hSw; go_simp; first | done | with_reducible rfl)
   refine wpAnyH_take (i := 8) (v := ?_) rfl (by kernel_rfl) (by kernel_rfl) (by kernel_rfl) (fun _ _ _ h => h) (Or.inl ⟨by rfl, ?_⟩) hSd1 ?_
   rotate_left
   ·(intro w9 hSw; obtain ⟨x0, x1, x2, x3, x4, x5⟩ := HX.out w9 hSw; go_simp; first | done | with_reducible rfl)
   simp only [Act.put, List.getElem_toArray, List.getElem_cons_succ, List.getElem_cons_zero, List.setIfInBounds_toArray, List.set_cons_zero, List.set_cons_succ]
   refine wpAnyH_ready (rs := [9]) (by kernel_rfl) (by simp) ?_
   refine AllReadyH.cons rfl (fun K hK => ?_) AllReadyH.nil
   go_simp
   go_wp2_with (go_at_call 123; refine (HSi.out wd1).mono ?_; rintro e wd2 ⟨rfl, hbd2⟩)
   have hSd2 : (S1 w) wd2 := hSd1.after hbd2
   have hRd2 : ShAt wd2 w.heap.size 0 0 := hRd1.below hbd2 hRd1.lt
   refine hK.out _ _ hSd2 (fun hHeld => ?_)
   clear hK K hHeld
   refine wpAnyH_take (i := 10) (v := ?_) rfl (by kernel_rfl) (by kernel_rfl) (by kernel_rfl) (fun _ _ _ h => h) (Or.inl ⟨by rfl, ?_⟩) hSd2 ?_
   rotate_left
   ·(intro w9 hSw; obtain ⟨x0, x1, x2, x3, x4, x5⟩ := HX.out w9 hSw; go_simp; first | done | with_reducible rfl)
   refine wpAnyH_take (i := 11) (v := ?_) rfl (by kernel_rfl) (by kernel_rfl) (by kernel_rfl) (fun _ _ _ h => h) (Or.inl ⟨by rfl, ?_⟩) hSd2 ?_
   rotate_left
   ·(intro w9 hSw; obtain ⟨x0, x1, x2, x3, x4, x5⟩ := HX.out w9 hSw; go_simp; first | done | with_reducible rfl)
   simp only [Act.put, List.getElem_toArray, List.getElem_cons_succ, List.getElem_cons_zero, List.setIfInBounds_toArray, List.set_cons_zero, List.set_cons_succ]
   refine wpAnyH_done (by kernel_rfl) ?_ _
   have HBW : Hid (Below w.heap.size w wd2) := hSd2.bel
   have r0 := hRd2.c0
   have r1 := hRd2.c1
   have f0 := hRd2.fz 0
   have f1 := hRd2.fz 1
   have rr := hRd2.lt
   obtain ⟨W, hW, hbW, _, hTW⟩ := hRd2.ret hSd2.bel (Nat.le_refl _) 0 0
   have HW : Hid (putS wd2 w.heap.size 0 0 = W) := hW
   have s0 := hTW.c0
   have s1 := hTW.c1
   have HBW2 : Hid (Below w.heap.size w W) := hbW
   clear hW hbW hTW HX HEl HIs HSi
   go_wp2
   have hW := HW.out
   unfold putS at hW
   rw [hW]
   refine bodyPost_ret (v := .tuple #[.agg #[.int .i64 0, .int .i64 0], .bool false]) ?_ rfl ?_
   ·simp [results, go_sem, s0, s1]
   ·exact GotS.no (0, 0) HV2.out HBW2.out
 ·have hd : decide (1 ≤ la) = false := decide_eq_false h1
  rw [hd] at HIs
  have HV2 : Hid (O = none) := by
   show _ = _
   rw [HV.out]
   unfold atP
   rw [if_neg (by simp; omega)]
  go_enter Tryz.func166, Tryz.ntmps166
  go_wp2_with fail
  generalize w.alloc (.cells #[.int .i64 0, .int .i64 0] 89) = w3 at *
  have hdr0 : Below w3.heap.size w3 w3.drew := below_drewG (Below.refl _ _) 1
  have hSd : (S1 w) w3.drew := HS0.out.after hdr0
  have hRd0 : ShAt w3.drew w.heap.size 0 0 := HR0.out.below hdr0 HR0.out.lt
  clear hdr0
  refine wp_region_held_drew (S := (S1 w)) (by kernel_rfl) hSd (fun hHeld => ?_)
  clear hHeld
  generalize w3.drew = wd0 at hSd hRd0 ⊢
  refine wpAnyH_take (i := 0) (v := ?_) rfl (by kernel_rfl) (by kernel_rfl) (by kernel_rfl) (fun _ _ _ h => h) (Or.inl ⟨by rfl, ?_⟩) hSd ?_
  rotate_left
  ·(intro w9 hSw; obtain ⟨x0, x1, x2, x3, x4, x5⟩ := HX.out w9 hSw; go_simp; first | done | with_reducible rfl)
  refine wpAnyH_take (i := 1) (v := ?_) rfl (by kernel_rfl) (by kernel_rfl) (by kernel_rfl) (fun _ _ _ h => h) (Or.inl ⟨by rfl, ?_⟩) hSd ?_
  rotate_left
  ·(intro w9 hSw; obtain ⟨x0, x1, x2, x3, x4, x5⟩ := HX.out w9 hSw; go_simp; first | done | with_reducible rfl)
  refine wpAnyH_take (i := 2) (v := ?_) rfl (by kernel_rfl) (by kernel_rfl) (by kernel_rfl) (fun _ _ _ h => h) (Or.inl ⟨by rfl, ?_⟩) hSd ?_
  rotate_left
  ·(intro w9 hSw; obtain ⟨x0, x1, x2, x3, x4, x5⟩ := HX.out w9 hSw; go_simp; first | done | with_reducible rfl)
  simp only [Act.put, List.getElem_toArray, List.getElem_cons_succ, List.getElem_cons_zero, List.setIfInBounds_toArray, List.set_cons_zero, List.set_cons_succ]
  refine wpAnyH_ready (rs := [3]) (by kernel_rfl) (by simp) ?_
  refine AllReadyH.cons rfl (fun K hK => ?_) AllReadyH.nil
  go_simp
  go_wp2_with (go_at_call 146; refine (HIs.out wd0).mono ?_; rintro e wd1 ⟨rfl, hbd1⟩)
  have hSd1 : (S1 w) wd1 := hSd.after hbd1
  have hRd1 : ShAt wd1 w.heap.size 0 0 := hRd0.below hbd1 hRd0.lt
  refine hK.out _ _ hSd1 (fun hHeld => ?_)
  clear hK K hHeld
  refine wpAnyH_take (i := 4) (v := ?_) rfl (by kernel_rfl) (by kernel_rfl) (by kernel_rfl) (fun _ _ _ h => h) (Or.inl ⟨by rfl, ?_⟩) hSd1 ?_
  rotate_left
  ·(intro w9 hSw; obtain ⟨x0, x1, x2, x3, x4, x5⟩ := HX.out w9 hSw; go_simp; first | done | with_reducible rfl)
  refine wpAnyH_take (i := 5) (v := ?_) rfl (by kernel_rfl) (by kernel_rfl) (by kernel_rfl) (fun _ _ _ h => h) (Or.inl ⟨by rfl, ?_⟩) hSd1 ?_
  rotate_left
  ·(intro w9 hSw; obtain ⟨x0, x1, x2, x3, x4, x5⟩ := HX.out w9 hSw; go_simp; first | done | with_reducible rfl)
  refine wpAnyH_take (i := 6) (v := undef) rfl (by kernel_rfl) (by kernel_rfl) (by kernel_rfl) (fun _ _ _ h => h) (Or.inr ⟨by kernel_rfl, rfl⟩) hSd1 ?_
  refine wpAnyH_take (i := 7) (v := undef) rfl (by kernel_rfl) (by kernel_rfl) (by kernel_rfl) (fun _ _ _ h => h) (Or.inr ⟨by kernel_rfl, rfl⟩) hSd1 ?_
  refine wpAnyH_take (i := 8) (v := undef) rfl (by kernel_rfl) (by kernel_rfl) (by kernel_rfl) (fun _ _ _ h => h) (Or.inr ⟨by kernel_rfl, rfl⟩) hSd1 ?_
  refine wpAnyH_take (i := 9) (v := undef) rfl (by kernel_rfl) (by kernel_rfl) (by kernel_rfl) (fun _ _ _ h => h) (Or.inr ⟨by kernel_rfl, rfl⟩) hSd1 ?_
  refine wpAnyH_take (i := 10) (v := undef) rfl (by kernel_rfl) (by kernel_rfl) (by kernel_rfl) (fun _ _ _ h => h) (Or.inr ⟨by kernel_rfl, rfl⟩) hSd1 ?_
  refine wpAnyH_take (i := 11) (v := ?_) rfl (by kernel_rfl) (by kernel_rfl) (by kernel_rfl) (fun _ _ _ h => h) (Or.inl ⟨by rfl, ?_⟩) hSd1 ?_
  rotate_left
  ·(intro w9 hSw; obtain ⟨x0, x1, x2, x3, x4, x5⟩ := HX.out w9 hSw; go_simp; first | done | with_reducible rfl)
  simp only [Act.put, List.getElem_toArray, List.getElem_cons_succ, List.getElem_cons_zero, List.setIfInBounds_toArray, List.set_cons_zero, List.set_cons_succ]
  refine wpAnyH_done (by kernel_rfl) ?_ _
  have HBW : Hid (Below w.heap.size w wd1) := hSd1.bel
  have r0 := hRd1.c0
  have r1 := hRd1.c1
  have f0 := hRd1.fz 0
  have f1 := hRd1.fz 1
  have rr := hRd1.lt
  obtain ⟨W, hW, hbW, _, hTW⟩ := hRd1.ret hSd1.bel (Nat.le_refl _) 0 0
  have HW : Hid (putS wd1 w.heap.size 0 0 = W) := hW
  have s0 := hTW.c0
  have s1 := hTW.c1
  have HBW2 : Hid (Below w.heap.size w W) := hbW
  clear hW hbW hTW HX HEl HIs HSi
  go_wp2
  have hW := HW.out
  unfold putS at hW
  rw [hW]
  refine bodyPost_ret (v := .tuple #[.agg #[.int .i64 0, .int .i64 0], .bool false]) ?_ rfl ?_
  ·simp [results, go_sem, s0, s1]
  ·exact GotS.no (0, 0) HV2.out HBW2.out

end Go.Proofs.YtgmmfpdekefamaaGreatDoor
