/- Texts of the proof, put together: QMaf, QNam. -/
import Derived.Test.YtgmmfpdekefamaaGreatDoorAt25
import Derived.BigRegion
import Derived.Test.YtgmmfpdekefamaaGreatDoorAt16
namespace Go.Proofs.YtgmmfpdekefamaaGreatDoor
open Go.RowKit
set_option linter.unusedVariables false
set_option linter.unusedSimpArgs false
set_option maxRecDepth 100000


set_option maxHeartbeats 8000000 in
/-- if -/
theorem made_if {w : World} {b : Nat} {lv : Value} {l : List Sh} {O : Option Sh} (hl : l.length = 3) (hb : b < w.heap.size) (e0 : w.cell? ⟨b, 0, none⟩ = some (.int .i64 6)) (h : ShsR w lv l) (HV : Hid (O = ifP (l.getD 0 noS) (l.getD 1 noS) (l.getD 2 noS))) : Calls Tryz.prog 70 #[.pointer (some ⟨b, 0, none⟩), lv] w (GotS w O) := by
  have HS0 : Hid (S1 w (w.alloc (.cells #[.int .i64 0, .int .i64 0] 89))) := S1.new w
  have HS1 : Hid (∀ W, Calls Tryz.prog 123 #[.int .i64 1] W fun e w' => e = .returned (.agg #[.int .i64 0, .int .i64 1]) ∧ Below W.heap.size W w') := fun W => asimple_any 1 W
  obtain ⟨a, c, rfl⟩ := h.slice
  rw [hl] at h ⊢
  obtain ⟨g, off, rfl, hg, c6, c7, c0, c1, c2, c3⟩ := h.three (by omega)
  have HJo : Hid (∀ W, Calls Tryz.prog 125 #[shV (l.getD 1 noS), shV (l.getD 2 noS)] W (GotS W (joinP (l.getD 1 noS) (l.getD 2 noS)))) := fun W => ajoin_any _ _ W
  unfold ifP at HV
  generalize hJ0 : joinP (l.getD 1 noS) (l.getD 2 noS) = J at *
  clear h hl hJ0
  generalize l.getD 0 noS = z0 at *
  generalize l.getD 1 noS = z1 at *
  generalize l.getD 2 noS = z2 at *
  obtain ⟨lz, bz⟩ := z0
  obtain ⟨la, ba⟩ := z1
  obtain ⟨lb, bb⟩ := z2
  unfold shV at HJo
  simp only at HJo c0 c1 c2 c3 c6 c7
  have HR0 : Hid (ShAt (w.alloc (.cells #[.int .i64 0, .int .i64 0] 89)) w.heap.size 0 0) := HS0.out.r
  go_enter Tryz.func70, Tryz.ntmps70
  go_wp2_with fail
  generalize w.alloc (.cells #[.int .i64 0, .int .i64 0] 89) = w3 at *
  have hbw := HS0.out.bel
  have hg3 : g < w3.heap.size := Nat.lt_of_lt_of_le hg hbw.size
  have d0 : w3.cell? ⟨g, off + 2, none⟩ = some (.int .i64 la) := (hbw.cell (p := ⟨g, off + 2, none⟩) hg).trans c0
  have d1 : w3.cell? ⟨g, off + 3, none⟩ = some (.int .i64 ba) := (hbw.cell (p := ⟨g, off + 3, none⟩) hg).trans c1
  have d2 : w3.cell? ⟨g, off + 4, none⟩ = some (.int .i64 lb) := (hbw.cell (p := ⟨g, off + 4, none⟩) hg).trans c2
  have d3 : w3.cell? ⟨g, off + 5, none⟩ = some (.int .i64 bb) := (hbw.cell (p := ⟨g, off + 5, none⟩) hg).trans c3
  have HSA : Hid (Calls Tryz.prog 125 #[.agg #[.int .i64 la, .int .i64 ba], .agg #[.int .i64 lb, .int .i64 bb]] (w3.alloc (.cells #[.int .i64 0, .int .i64 0] 89)).drew fun e w'' => ∃ (u : Sh) (yes : Bool), e = .returned (.tuple #[.agg #[.int .i64 u.1, .int .i64 u.2], .bool yes]) ∧ Hid (Below w3.heap.size w3 w'') ∧ Hid (ShAt w'' w3.heap.size 0 0) ∧ Hid (yes = J.isSome ∧ ∀ s, J = some s → u = s)) := by
    have hba : Below w3.heap.size w3 (w3.alloc (.cells #[.int .i64 0, .int .i64 0] 89)).drew := below_drewG (alloc_below _ _) 1
    have hbx : ShAt (w3.alloc (.cells #[.int .i64 0, .int .i64 0] 89)).drew w3.heap.size 0 0 := ShAt.new w3 0 0
    refine (HJo.out _).mono ?_
    rintro e w' ⟨h1, u, yes, rfl, h2, h3⟩
    exact ⟨u, yes, rfl, hba.trans (h1.mono hba.size), hbx.below h1 hbx.lt, h2, h3⟩
  have HSB : Hid (Calls Tryz.prog 125 #[.agg #[.int .i64 la, .int .i64 ba], .agg #[.int .i64 lb, .int .i64 bb]] w3.drew fun e w'' => ∃ (u : Sh) (yes : Bool), e = .returned (.tuple #[.agg #[.int .i64 u.1, .int .i64 u.2], .bool yes]) ∧ Hid (Below w3.heap.size w3 w'') ∧ Hid (yes = J.isSome ∧ ∀ s, J = some s → u = s)) := by
    have hba : Below w3.heap.size w3 w3.drew := below_drewG (Below.refl _ _) 1
    refine (HJo.out _).mono ?_
    rintro e w' ⟨h1, u, yes, rfl, h2, h3⟩
    exact ⟨u, yes, rfl, hba.trans (h1.mono hba.size), h2, h3⟩
  have HX : Hid (∀ w', Below w3.heap.size w3 w' → w'.cell? ⟨g, off + 2, none⟩ = some (.int .i64 la) ∧ w'.cell? ⟨g, off + 3, none⟩ = some (.int .i64 ba) ∧ w'.cell? ⟨g, off + 4, none⟩ = some (.int .i64 lb) ∧ w'.cell? ⟨g, off + 5, none⟩ = some (.int .i64 bb)) := fun w' hb =>
    ⟨(hb.cell (p := ⟨g, off + 2, none⟩) hg3).trans d0, (hb.cell (p := ⟨g, off + 3, none⟩) hg3).trans d1, (hb.cell (p := ⟨g, off + 4, none⟩) hg3).trans d2, (hb.cell (p := ⟨g, off + 5, none⟩) hg3).trans d3⟩
  have ne1 : w3.heap.size ≠ g := by omega
  clear HJo hbw
  go_region_held3 (fun w' => w'.cell? ⟨g, off + 2, none⟩ = some (.int .i64 la) ∧ w'.cell? ⟨g, off + 3, none⟩ = some (.int .i64 ba) ∧ w'.cell? ⟨g, off + 4, none⟩ = some (.int .i64 lb) ∧ w'.cell? ⟨g, off + 5, none⟩ = some (.int .i64 bb)) (go_keep) ((first | (go_at_call 125; refine HSA.out.mono ?_; rintro e w8 ⟨u, yes, rfl, HB3, HT3, HY⟩; have u0 := HT3.out.c0; have u1 := HT3.out.c1; have u2 := HT3.out.fz 0; have u3 := HT3.out.fz 1; have u4 := HT3.out.lt; obtain ⟨y0, y1, y2, y3⟩ := HX.out w8 HB3.out) | (go_at_call 125; refine HSB.out.mono ?_; rintro e w8 ⟨u, yes, rfl, HB3, HY⟩; obtain ⟨y0, y1, y2, y3⟩ := HX.out w8 HB3.out)))
  all_goals clear d0 d1 d2 d3 HSA HSB HX y0 y1 y2 y3 ne1 hg3
  all_goals first
    | (have HBV : Hid (Below w3.heap.size w3 ((w8.setCell ⟨w3.heap.size, 0, none⟩ (.int .i64 u.1)).setCell ⟨w3.heap.size, 1, none⟩ (.int .i64 u.2))) := below_putS HB3.out (Nat.le_refl _) u.1 u.2
       have HTV : Hid (ShAt ((w8.setCell ⟨w3.heap.size, 0, none⟩ (.int .i64 u.1)).setCell ⟨w3.heap.size, 1, none⟩ (.int .i64 u.2)) w3.heap.size u.1 u.2) := HT3.out.put u.1 u.2
       clear HT3 HB3 u0 u1 u2 u3 u4
       generalize (w8.setCell ⟨w3.heap.size, 0, none⟩ (.int .i64 u.1)).setCell ⟨w3.heap.size, 1, none⟩ (.int .i64 u.2) = V at HBV HTV ⊢
       generalize hY1 : w3.heap.size = Y at HTV ⊢
       have HYl : Hid (w3.heap.size ≤ Y) := Nat.le_of_eq hY1
       clear hY1)
    | (have HBV : Hid (Below w3.heap.size w3 (w8.alloc (.cells #[.int .i64 u.1, .int .i64 u.2] 89))) := HB3.out.trans ((alloc_below _ _).mono HB3.out.size)
       have HTV : Hid (ShAt (w8.alloc (.cells #[.int .i64 u.1, .int .i64 u.2] 89)) w8.heap.size u.1 u.2) := ShAt.new w8 u.1 u.2
       have HYl : Hid (w3.heap.size ≤ w8.heap.size) := HB3.out.size
       clear HB3
       generalize w8.alloc (.cells #[.int .i64 u.1, .int .i64 u.2] 89) = V at HBV HTV ⊢
       generalize w8.heap.size = Y at HTV HYl ⊢)
  all_goals
    have HSV := HS0.out.after HBV.out
    have HS0q : Hid (SR w Y u.1 u.2 V) := ⟨HSV.bel, HTV.out, by have h1 := HYl.out; have h2 := HS0.out.r.lt; omega⟩
    have HR0q : Hid (ShAt V w.heap.size 0 0) := HSV.r
    clear HSV HBV HTV HYl HS0 HR0
    have HX : Hid (∀ w', SR w Y u.1 u.2 w' → w'.cell? ⟨Y, 0, none⟩ = some (.int .i64 u.1) ∧ w'.cell? ⟨Y, 1, none⟩ = some (.int .i64 u.2) ∧ w'.cell? ⟨g, off, none⟩ = some (.int .i64 lz) ∧ w'.cell? ⟨g, off + 1, none⟩ = some (.int .i64 bz)) := fun w' h => ⟨h.sh.c0, h.sh.c1, (h.bel.cell (p := ⟨g, off, none⟩) hg).trans c6, (h.bel.cell (p := ⟨g, off + 1, none⟩) hg).trans c7⟩
    obtain ⟨lu, bu⟩ := u
    simp only at *
    cases J with
    | none =>
      have hy : yes = false := HY.out.1
      subst hy
      have HV2 : Hid (O = none) := by show _ = _; rw [HV.out]; rfl
      clear HY HV
      go_wp2_with fail
      have hdr0 : Below V.heap.size V V.drew := below_drewG (Below.refl _ _) 1
      have hSd : (SR w Y lu bu) V.drew := HS0q.out.after hdr0
      have hRd0 : ShAt V.drew w.heap.size 0 0 := HR0q.out.below hdr0 HR0q.out.lt
      clear hdr0
      refine wp_region_held_drew (S := (SR w Y lu bu)) (by kernel_rfl) hSd (fun hHeld => ?_)
      clear hHeld
      generalize V.drew = wd0 at hSd hRd0 ⊢
      refine wpAnyH_take (i := 0) (v := ?_) rfl (by kernel_rfl) (by kernel_rfl) (by kernel_rfl) (fun _ _ _ h => h) (Or.inl ⟨by rfl, ?_⟩) hSd ?_
      rotate_left
      · (intro w9 hSw; obtain ⟨x0, x1, x2, x3⟩ := HX.out w9 hSw; go_simp; first | done | with_reducible rfl)
      refine wpAnyH_take (i := 1) (v := ?_) rfl (by kernel_rfl) (by kernel_rfl) (by kernel_rfl) (fun _ _ _ h => h) (Or.inl ⟨by rfl, ?_⟩) hSd ?_
      rotate_left
      · (intro w9 hSw; obtain ⟨x0, x1, x2, x3⟩ := HX.out w9 hSw; go_simp; first | done | with_reducible rfl)
      refine wpAnyH_take (i := 2) (v := ?_) rfl (by kernel_rfl) (by kernel_rfl) (by kernel_rfl) (fun _ _ _ h => h) (Or.inl ⟨by rfl, ?_⟩) hSd ?_
      rotate_left
      · (intro w9 hSw; obtain ⟨x0, x1, x2, x3⟩ := HX.out w9 hSw; go_simp; first | done | with_reducible rfl)
      refine wpAnyH_take (i := 3) (v := undef) rfl (by kernel_rfl) (by kernel_rfl) (by kernel_rfl) (fun _ _ _ h => h) (Or.inr ⟨by kernel_rfl, rfl⟩) hSd ?_
      refine wpAnyH_take (i := 4) (v := undef) rfl (by kernel_rfl) (by kernel_rfl) (by kernel_rfl) (fun _ _ _ h => h) (Or.inr ⟨by kernel_rfl, rfl⟩) hSd ?_
      refine wpAnyH_take (i := 5) (v := undef) rfl (by kernel_rfl) (by kernel_rfl) (by kernel_rfl) (fun _ _ _ h => h) (Or.inr ⟨by kernel_rfl, rfl⟩) hSd ?_
      refine wpAnyH_take (i := 6) (v := undef) rfl (by kernel_rfl) (by kernel_rfl) (by kernel_rfl) (fun _ _ _ h => h) (Or.inr ⟨by kernel_rfl, rfl⟩) hSd ?_
      refine wpAnyH_take (i := 7) (v := undef) rfl (by kernel_rfl) (by kernel_rfl) (by kernel_rfl) (fun _ _ _ h => h) (Or.inr ⟨by kernel_rfl, rfl⟩) hSd ?_
      refine wpAnyH_take (i := 8) (v := ?_) rfl (by kernel_rfl) (by kernel_rfl) (by kernel_rfl) (fun _ _ _ h => h) (Or.inl ⟨by rfl, ?_⟩) hSd ?_
      rotate_left
      · (intro w9 hSw; obtain ⟨x0, x1, x2, x3⟩ := HX.out w9 hSw; go_simp; first | done | with_reducible rfl)
      simp only [Act.put, List.getElem_toArray, List.getElem_cons_succ, List.getElem_cons_zero, List.setIfInBounds_toArray, List.set_cons_zero, List.set_cons_succ]
      have r0 := hRd0.c0
      have r1 := hRd0.c1
      have f0 := hRd0.fz 0
      have f1 := hRd0.fz 1
      have rr := hRd0.lt
      refine wpAnyH_ready (rs := [9]) (by kernel_rfl) (by simp) ?_
      refine AllReadyH.cons rfl (fun K hK => ?_) AllReadyH.nil
      go_simp
      have hSd1 : (SR w Y lu bu) (putS wd0 w.heap.size lu bu) := hSd.put lu bu
      have hRd1 : ShAt (putS wd0 w.heap.size lu bu) w.heap.size lu bu := hRd0.put lu bu
      change K _ (putS wd0 w.heap.size lu bu)
      refine hK.out _ _ hSd1 (fun hHeld => ?_)
      clear hK K hHeld r0 r1 f0 f1 rr
      generalize putS wd0 w.heap.size lu bu = wd1 at hSd1 hRd1 ⊢
      refine wpAnyH_take (i := 10) (v := ?_) rfl (by kernel_rfl) (by kernel_rfl) (by kernel_rfl) (fun _ _ _ h => h) (Or.inl ⟨by rfl, ?_⟩) hSd1 ?_
      rotate_left
      · (intro w9 hSw; obtain ⟨x0, x1, x2, x3⟩ := HX.out w9 hSw; go_simp; first | done | with_reducible rfl)
      simp only [Act.put, List.getElem_toArray, List.getElem_cons_succ, List.getElem_cons_zero, List.setIfInBounds_toArray, List.set_cons_zero, List.set_cons_succ]
      refine wpAnyH_done (by kernel_rfl) ?_ _
      have s0 := hRd1.c0
      have s1 := hRd1.c1
      have HBW : Hid (Below w.heap.size w wd1) := hSd1.bel
      clear HX
      go_wp2
      refine bodyPost_ret (v := .tuple #[.agg #[.int .i64 lu, .int .i64 bu], .bool false]) ?_ rfl ?_
      · simp [results, go_sem, s0, s1]
      · exact GotS.no (lu, bu) HV2.out HBW.out
    | some t =>
      have hy : yes = true := HY.out.1
      subst hy
      have hu := HY.out.2 t rfl
      subst hu
      by_cases hl1 : lz = 0
      · subst hl1
        by_cases hb2 : bz = 1
        · subst hb2
          have HV2 : Hid (O = some (lu, bu)) := by show _ = _; rw [HV.out]; rfl
          clear HY HV
          go_wp2_with fail
          have hdr0 : Below V.heap.size V V.drew := below_drewG (Below.refl _ _) 1
          have hSd : (SR w Y lu bu) V.drew := HS0q.out.after hdr0
          have hRd0 : ShAt V.drew w.heap.size 0 0 := HR0q.out.below hdr0 HR0q.out.lt
          clear hdr0
          refine wp_region_held_drew (S := (SR w Y lu bu)) (by kernel_rfl) hSd (fun hHeld => ?_)
          clear hHeld
          generalize V.drew = wd0 at hSd hRd0 ⊢
          refine wpAnyH_take (i := 0) (v := ?_) rfl (by kernel_rfl) (by kernel_rfl) (by kernel_rfl) (fun _ _ _ h => h) (Or.inl ⟨by rfl, ?_⟩) hSd ?_
          rotate_left
          · (intro w9 hSw; obtain ⟨x0, x1, x2, x3⟩ := HX.out w9 hSw; go_simp; first | done | with_reducible rfl)
          refine wpAnyH_take (i := 1) (v := ?_) rfl (by kernel_rfl) (by kernel_rfl) (by kernel_rfl) (fun _ _ _ h => h) (Or.inl ⟨by rfl, ?_⟩) hSd ?_
          rotate_left
          · (intro w9 hSw; obtain ⟨x0, x1, x2, x3⟩ := HX.out w9 hSw; go_simp; first | done | with_reducible rfl)
          refine wpAnyH_take (i := 2) (v := ?_) rfl (by kernel_rfl) (by kernel_rfl) (by kernel_rfl) (fun _ _ _ h => h) (Or.inl ⟨by rfl, ?_⟩) hSd ?_
          rotate_left
          · (intro w9 hSw; obtain ⟨x0, x1, x2, x3⟩ := HX.out w9 hSw; go_simp; first | done | with_reducible rfl)
          refine wpAnyH_take (i := 3) (v := ?_) rfl (by kernel_rfl) (by kernel_rfl) (by kernel_rfl) (fun _ _ _ h => h) (Or.inl ⟨by rfl, ?_⟩) hSd ?_
          rotate_left
          · (intro w9 hSw; obtain ⟨x0, x1, x2, x3⟩ := HX.out w9 hSw; go_simp; first | done | with_reducible rfl)
          refine wpAnyH_take (i := 4) (v := ?_) rfl (by kernel_rfl) (by kernel_rfl) (by kernel_rfl) (fun _ _ _ h => h) (Or.inl ⟨by rfl, ?_⟩) hSd ?_
          rotate_left
          · (intro w9 hSw; obtain ⟨x0, x1, x2, x3⟩ := HX.out w9 hSw; go_simp; first | done | with_reducible rfl)
          refine wpAnyH_take (i := 5) (v := ?_) rfl (by kernel_rfl) (by kernel_rfl) (by kernel_rfl) (fun _ _ _ h => h) (Or.inl ⟨by rfl, ?_⟩) hSd ?_
          rotate_left
          · (intro w9 hSw; obtain ⟨x0, x1, x2, x3⟩ := HX.out w9 hSw; go_simp; first | done | with_reducible rfl)
          simp only [Act.put, List.getElem_toArray, List.getElem_cons_succ, List.getElem_cons_zero, List.setIfInBounds_toArray, List.set_cons_zero, List.set_cons_succ]
          refine wpAnyH_ready (rs := [6]) (by kernel_rfl) (by simp) ?_
          refine AllReadyH.cons rfl (fun K hK => ?_) AllReadyH.nil
          go_simp
          go_wp2_with (go_at_call 123; refine (HS1.out wd0).mono ?_; rintro e wd1 ⟨rfl, hbd1⟩)
          have hSd1 : (SR w Y lu bu) wd1 := hSd.after hbd1
          have hRd1 : ShAt wd1 w.heap.size 0 0 := hRd0.below hbd1 hRd0.lt
          refine hK.out _ _ hSd1 (fun hHeld => ?_)
          clear hK K hHeld
          refine wpAnyH_take (i := 7) (v := ?_) rfl (by kernel_rfl) (by kernel_rfl) (by kernel_rfl) (fun _ _ _ h => h) (Or.inl ⟨by rfl, ?_⟩) hSd1 ?_
          rotate_left
          · (intro w9 hSw; obtain ⟨x0, x1, x2, x3⟩ := HX.out w9 hSw; go_simp; first | done | with_reducible rfl)
          refine wpAnyH_take (i := 8) (v := ?_) rfl (by kernel_rfl) (by kernel_rfl) (by kernel_rfl) (fun _ _ _ h => h) (Or.inl ⟨by rfl, ?_⟩) hSd1 ?_
          rotate_left
          · (intro w9 hSw; obtain ⟨x0, x1, x2, x3⟩ := HX.out w9 hSw; go_simp; first | done | with_reducible rfl)
          simp only [Act.put, List.getElem_toArray, List.getElem_cons_succ, List.getElem_cons_zero, List.setIfInBounds_toArray, List.set_cons_zero, List.set_cons_succ]
          have r0 := hRd1.c0
          have r1 := hRd1.c1
          have f0 := hRd1.fz 0
          have f1 := hRd1.fz 1
          have rr := hRd1.lt
          refine wpAnyH_ready (rs := [9]) (by kernel_rfl) (by simp) ?_
          refine AllReadyH.cons rfl (fun K hK => ?_) AllReadyH.nil
          go_simp
          have hSd2 : (SR w Y lu bu) (putS wd1 w.heap.size lu bu) := hSd1.put lu bu
          have hRd2 : ShAt (putS wd1 w.heap.size lu bu) w.heap.size lu bu := hRd1.put lu bu
          change K _ (putS wd1 w.heap.size lu bu)
          refine hK.out _ _ hSd2 (fun hHeld => ?_)
          clear hK K hHeld r0 r1 f0 f1 rr
          generalize putS wd1 w.heap.size lu bu = wd2 at hSd2 hRd2 ⊢
          refine wpAnyH_take (i := 10) (v := ?_) rfl (by kernel_rfl) (by kernel_rfl) (by kernel_rfl) (fun _ _ _ h => h) (Or.inl ⟨by rfl, ?_⟩) hSd2 ?_
          rotate_left
          · (intro w9 hSw; obtain ⟨x0, x1, x2, x3⟩ := HX.out w9 hSw; go_simp; first | done | with_reducible rfl)
          simp only [Act.put, List.getElem_toArray, List.getElem_cons_succ, List.getElem_cons_zero, List.setIfInBounds_toArray, List.set_cons_zero, List.set_cons_succ]
          refine wpAnyH_done (by kernel_rfl) ?_ _
          have s0 := hRd2.c0
          have s1 := hRd2.c1
          have HBW : Hid (Below w.heap.size w wd2) := hSd2.bel
          clear HX
          go_wp2
          refine bodyPost_ret (v := .tuple #[.agg #[.int .i64 lu, .int .i64 bu], .bool true]) ?_ rfl ?_
          · simp [results, go_sem, s0, s1]
          · exact GotS.yes (s := (lu, bu)) HV2.out HBW.out
        · have HV2 : Hid (O = none) := by show _ = _; rw [HV.out]; simp [hb2]
          clear HY HV
          go_wp2_with fail
          have hdr0 : Below V.heap.size V V.drew := below_drewG (Below.refl _ _) 1
          have hSd : (SR w Y lu bu) V.drew := HS0q.out.after hdr0
          have hRd0 : ShAt V.drew w.heap.size 0 0 := HR0q.out.below hdr0 HR0q.out.lt
          clear hdr0
          refine wp_region_held_drew (S := (SR w Y lu bu)) (by kernel_rfl) hSd (fun hHeld => ?_)
          clear hHeld
          generalize V.drew = wd0 at hSd hRd0 ⊢
          refine wpAnyH_take (i := 0) (v := ?_) rfl (by kernel_rfl) (by kernel_rfl) (by kernel_rfl) (fun _ _ _ h => h) (Or.inl ⟨by rfl, ?_⟩) hSd ?_
          rotate_left
          · (intro w9 hSw; obtain ⟨x0, x1, x2, x3⟩ := HX.out w9 hSw; go_simp; first | done | with_reducible rfl)
          refine wpAnyH_take (i := 1) (v := ?_) rfl (by kernel_rfl) (by kernel_rfl) (by kernel_rfl) (fun _ _ _ h => h) (Or.inl ⟨by rfl, ?_⟩) hSd ?_
          rotate_left
          · (intro w9 hSw; obtain ⟨x0, x1, x2, x3⟩ := HX.out w9 hSw; go_simp; first | done | with_reducible rfl)
          refine wpAnyH_take (i := 2) (v := ?_) rfl (by kernel_rfl) (by kernel_rfl) (by kernel_rfl) (fun _ _ _ h => h) (Or.inl ⟨by rfl, ?_⟩) hSd ?_
          rotate_left
          · (intro w9 hSw; obtain ⟨x0, x1, x2, x3⟩ := HX.out w9 hSw; go_simp; first | done | with_reducible rfl)
          refine wpAnyH_take (i := 3) (v := ?_) rfl (by kernel_rfl) (by kernel_rfl) (by kernel_rfl) (fun _ _ _ h => h) (Or.inl ⟨by rfl, ?_⟩) hSd ?_
          rotate_left
          · (intro w9 hSw; obtain ⟨x0, x1, x2, x3⟩ := HX.out w9 hSw; go_simp; first | done | with_reducible rfl)
          refine wpAnyH_take (i := 4) (v := ?_) rfl (by kernel_rfl) (by kernel_rfl) (by kernel_rfl) (fun _ _ _ h => h) (Or.inl ⟨by rfl, ?_⟩) hSd ?_
          rotate_left
          · (intro w9 hSw; obtain ⟨x0, x1, x2, x3⟩ := HX.out w9 hSw; go_simp; first | done | with_reducible rfl)
          refine wpAnyH_take (i := 5) (v := ?_) rfl (by kernel_rfl) (by kernel_rfl) (by kernel_rfl) (fun _ _ _ h => h) (Or.inl ⟨by rfl, ?_⟩) hSd ?_
          rotate_left
          · (intro w9 hSw; obtain ⟨x0, x1, x2, x3⟩ := HX.out w9 hSw; go_simp; first | done | with_reducible rfl)
          simp only [Act.put, List.getElem_toArray, List.getElem_cons_succ, List.getElem_cons_zero, List.setIfInBounds_toArray, List.set_cons_zero, List.set_cons_succ]
          refine wpAnyH_ready (rs := [6]) (by kernel_rfl) (by simp) ?_
          refine AllReadyH.cons rfl (fun K hK => ?_) AllReadyH.nil
          go_simp
          go_wp2_with (go_at_call 123; refine (HS1.out wd0).mono ?_; rintro e wd1 ⟨rfl, hbd1⟩)
          have hSd1 : (SR w Y lu bu) wd1 := hSd.after hbd1
          have hRd1 : ShAt wd1 w.heap.size 0 0 := hRd0.below hbd1 hRd0.lt
          refine hK.out _ _ hSd1 (fun hHeld => ?_)
          clear hK K hHeld
          refine wpAnyH_take (i := 7) (v := ?_) rfl (by kernel_rfl) (by kernel_rfl) (by kernel_rfl) (fun _ _ _ h => h) (Or.inl ⟨by rfl, ?_⟩) hSd1 ?_
          rotate_left
          · (intro w9 hSw; obtain ⟨x0, x1, x2, x3⟩ := HX.out w9 hSw; go_simp; first | done | with_reducible rfl)
          refine wpAnyH_take (i := 8) (v := ?_) rfl (by kernel_rfl) (by kernel_rfl) (by kernel_rfl) (fun _ _ _ h => h) (Or.inl ⟨by rfl, ?_⟩) hSd1 ?_
          rotate_left
          · (intro w9 hSw; obtain ⟨x0, x1, x2, x3⟩ := HX.out w9 hSw; go_simp; first | done | with_reducible rfl)
          simp only [Act.put, List.getElem_toArray, List.getElem_cons_succ, List.getElem_cons_zero, List.setIfInBounds_toArray, List.set_cons_zero, List.set_cons_succ]
          have r0 := hRd1.c0
          have r1 := hRd1.c1
          have f0 := hRd1.fz 0
          have f1 := hRd1.fz 1
          have rr := hRd1.lt
          refine wpAnyH_ready (rs := [9]) (by kernel_rfl) (by simp) ?_
          refine AllReadyH.cons rfl (fun K hK => ?_) AllReadyH.nil
          go_simp
          have hSd2 : (SR w Y lu bu) (putS wd1 w.heap.size lu bu) := hSd1.put lu bu
          have hRd2 : ShAt (putS wd1 w.heap.size lu bu) w.heap.size lu bu := hRd1.put lu bu
          change K _ (putS wd1 w.heap.size lu bu)
          refine hK.out _ _ hSd2 (fun hHeld => ?_)
          clear hK K hHeld r0 r1 f0 f1 rr
          generalize putS wd1 w.heap.size lu bu = wd2 at hSd2 hRd2 ⊢
          refine wpAnyH_take (i := 10) (v := ?_) rfl (by kernel_rfl) (by kernel_rfl) (by kernel_rfl) (fun _ _ _ h => h) (Or.inl ⟨by rfl, ?_⟩) hSd2 ?_
          rotate_left
          · (intro w9 hSw; obtain ⟨x0, x1, x2, x3⟩ := HX.out w9 hSw; go_simp; first | done | with_reducible rfl)
          simp only [Act.put, List.getElem_toArray, List.getElem_cons_succ, List.getElem_cons_zero, List.setIfInBounds_toArray, List.set_cons_zero, List.set_cons_succ]
          refine wpAnyH_done (by kernel_rfl) ?_ _
          have s0 := hRd2.c0
          have s1 := hRd2.c1
          have HBW : Hid (Below w.heap.size w wd2) := hSd2.bel
          clear HX
          go_wp2
          refine bodyPost_ret (v := .tuple #[.agg #[.int .i64 lu, .int .i64 bu], .bool false]) ?_ rfl ?_
          · simp [results, go_sem, s0, s1]
          · exact GotS.no (lu, bu) HV2.out HBW.out
      · have hl1i : ¬ ((lz : Int) = 0) := by omega
        have HV2 : Hid (O = none) := by show _ = _; rw [HV.out]; simp [hl1]
        clear HY HV
        go_wp2_with fail
        have hdr0 : Below V.heap.size V V.drew := below_drewG (Below.refl _ _) 1
        have hSd : (SR w Y lu bu) V.drew := HS0q.out.after hdr0
        have hRd0 : ShAt V.drew w.heap.size 0 0 := HR0q.out.below hdr0 HR0q.out.lt
        clear hdr0
        refine wp_region_held_drew (S := (SR w Y lu bu)) (by kernel_rfl) hSd (fun hHeld => ?_)
        clear hHeld
        generalize V.drew = wd0 at hSd hRd0 ⊢
        refine wpAnyH_take (i := 0) (v := ?_) rfl (by kernel_rfl) (by kernel_rfl) (by kernel_rfl) (fun _ _ _ h => h) (Or.inl ⟨by rfl, ?_⟩) hSd ?_
        rotate_left
        · (intro w9 hSw; obtain ⟨x0, x1, x2, x3⟩ := HX.out w9 hSw; go_simp; first | done | with_reducible rfl)
        refine wpAnyH_take (i := 1) (v := ?_) rfl (by kernel_rfl) (by kernel_rfl) (by kernel_rfl) (fun _ _ _ h => h) (Or.inl ⟨by rfl, ?_⟩) hSd ?_
        rotate_left
        · (intro w9 hSw; obtain ⟨x0, x1, x2, x3⟩ := HX.out w9 hSw; go_simp; first | done | with_reducible rfl)
        refine wpAnyH_take (i := 2) (v := ?_) rfl (by kernel_rfl) (by kernel_rfl) (by kernel_rfl) (fun _ _ _ h => h) (Or.inl ⟨by rfl, ?_⟩) hSd ?_
        rotate_left
        · (intro w9 hSw; obtain ⟨x0, x1, x2, x3⟩ := HX.out w9 hSw; go_simp; first | done | with_reducible rfl)
        refine wpAnyH_take (i := 3) (v := ?_) rfl (by kernel_rfl) (by kernel_rfl) (by kernel_rfl) (fun _ _ _ h => h) (Or.inl ⟨by rfl, ?_⟩) hSd ?_
        rotate_left
        · (intro w9 hSw; obtain ⟨x0, x1, x2, x3⟩ := HX.out w9 hSw; go_simp; first | done | with_reducible rfl)
        refine wpAnyH_take (i := 4) (v := ?_) rfl (by kernel_rfl) (by kernel_rfl) (by kernel_rfl) (fun _ _ _ h => h) (Or.inl ⟨by rfl, ?_⟩) hSd ?_
        rotate_left
        · (intro w9 hSw; obtain ⟨x0, x1, x2, x3⟩ := HX.out w9 hSw; go_simp; first | done | with_reducible rfl)
        refine wpAnyH_take (i := 5) (v := ?_) rfl (by kernel_rfl) (by kernel_rfl) (by kernel_rfl) (fun _ _ _ h => h) (Or.inl ⟨by rfl, ?_⟩) hSd ?_
        rotate_left
        · (intro w9 hSw; obtain ⟨x0, x1, x2, x3⟩ := HX.out w9 hSw; go_simp; first | done | with_reducible rfl)
        simp only [Act.put, List.getElem_toArray, List.getElem_cons_succ, List.getElem_cons_zero, List.setIfInBounds_toArray, List.set_cons_zero, List.set_cons_succ]
        refine wpAnyH_ready (rs := [6]) (by kernel_rfl) (by simp) ?_
        refine AllReadyH.cons rfl (fun K hK => ?_) AllReadyH.nil
        go_simp
        go_wp2_with (go_at_call 123; refine (HS1.out wd0).mono ?_; rintro e wd1 ⟨rfl, hbd1⟩)
        have hSd1 : (SR w Y lu bu) wd1 := hSd.after hbd1
        have hRd1 : ShAt wd1 w.heap.size 0 0 := hRd0.below hbd1 hRd0.lt
        refine hK.out _ _ hSd1 (fun hHeld => ?_)
        clear hK K hHeld
        refine wpAnyH_take (i := 7) (v := ?_) rfl (by kernel_rfl) (by kernel_rfl) (by kernel_rfl) (fun _ _ _ h => h) (Or.inl ⟨by rfl, ?_⟩) hSd1 ?_
        rotate_left
        · (intro w9 hSw; obtain ⟨x0, x1, x2, x3⟩ := HX.out w9 hSw; go_simp; first | done | with_reducible rfl)
        refine wpAnyH_take (i := 8) (v := ?_) rfl (by kernel_rfl) (by kernel_rfl) (by kernel_rfl) (fun _ _ _ h => h) (Or.inl ⟨by rfl, ?_⟩) hSd1 ?_
        rotate_left
        · (intro w9 hSw; obtain ⟨x0, x1, x2, x3⟩ := HX.out w9 hSw; go_simp; first | done | with_reducible rfl)
        simp only [Act.put, List.getElem_toArray, List.getElem_cons_succ, List.getElem_cons_zero, List.setIfInBounds_toArray, List.set_cons_zero, List.set_cons_succ]
        have r0 := hRd1.c0
        have r1 := hRd1.c1
        have f0 := hRd1.fz 0
        have f1 := hRd1.fz 1
        have rr := hRd1.lt
        refine wpAnyH_ready (rs := [9]) (by kernel_rfl) (by simp) ?_
        refine AllReadyH.cons rfl (fun K hK => ?_) AllReadyH.nil
        go_simp
        have hSd2 : (SR w Y lu bu) (putS wd1 w.heap.size lu bu) := hSd1.put lu bu
        have hRd2 : ShAt (putS wd1 w.heap.size lu bu) w.heap.size lu bu := hRd1.put lu bu
        change K _ (putS wd1 w.heap.size lu bu)
        refine hK.out _ _ hSd2 (fun hHeld => ?_)
        clear hK K hHeld r0 r1 f0 f1 rr
        generalize putS wd1 w.heap.size lu bu = wd2 at hSd2 hRd2 ⊢
        refine wpAnyH_take (i := 10) (v := ?_) rfl (by kernel_rfl) (by kernel_rfl) (by kernel_rfl) (fun _ _ _ h => h) (Or.inl ⟨by rfl, ?_⟩) hSd2 ?_
        rotate_left
        · (intro w9 hSw; obtain ⟨x0, x1, x2, x3⟩ := HX.out w9 hSw; go_simp; first | done | with_reducible rfl)
        simp only [Act.put, List.getElem_toArray, List.getElem_cons_succ, List.getElem_cons_zero, List.setIfInBounds_toArray, List.set_cons_zero, List.set_cons_succ]
        refine wpAnyH_done (by kernel_rfl) ?_ _
        have s0 := hRd2.c0
        have s1 := hRd2.c1
        have HBW : Hid (Below w.heap.size w wd2) := hSd2.bel
        clear HX
        go_wp2
        refine bodyPost_ret (v := .tuple #[.agg #[.int .i64 lu, .int .i64 bu], .bool false]) ?_ rfl ?_
        · simp [results, go_sem, s0, s1]
        · exact GotS.no (lu, bu) HV2.out HBW.out


end Go.Proofs.YtgmmfpdekefamaaGreatDoor

namespace Go.Proofs.YtgmmfpdekefamaaGreatDoor
open Go.RowKit
set_option linter.unusedVariables false
set_option maxRecDepth 100000

theorem Tryz.infoNamed : (Tryz.prog.info? 132).map (fun i => (i.zero, i.size, i.bytes)) = some (some (.agg #[.string ⟨#[]⟩, .int .i64 0, .int .i64 0]), 3, 32) := by kernel_rfl
def clN (l : List Nm) : List Value := l.flatMap fun p => [.string p.1, .int .i64 p.2.1, .int .i64 p.2.2]
theorem clN_append (a b : List Nm) : clN (a ++ b) = clN a ++ clN b := by simp [clN]
theorem clN_at : ∀ (l : List Nm) (j : Nat), j < l.length → (clN l)[j * 3]? = some (.string (l.getD j noN).1) ∧ (clN l)[j * 3 + 1]? = some (.int .i64 (l.getD j noN).2.1) ∧ (clN l)[j * 3 + 2]? = some (.int .i64 (l.getD j noN).2.2)
 | [], j, h => by simp at h
 | p :: l, 0, h => ⟨rfl, rfl, rfl⟩
 | p :: l, j + 1, h => by
  have e := clN_at l j (by simpa using h)
  have c : clN (p :: l) = [.string p.1, .int .i64 p.2.1, .int .i64 p.2.2] ++ clN l := rfl
  rw [c]
  refine ⟨?_, ?_, ?_⟩
  ·rw [show (j + 1) * 3 = 3 + j * 3 by omega, List.getElem?_append_right (by simp)]; simpa using e.1
  ·rw [show (j + 1) * 3 + 1 = 3 + (j * 3 + 1) by omega, List.getElem?_append_right (by simp)]; simpa using e.2.1
  ·rw [show (j + 1) * 3 + 2 = 3 + (j * 3 + 2) by omega, List.getElem?_append_right (by simp)]; simpa using e.2.2
/-- names of the program: the innermost lies last -/
def NmP (B : Nat) (w : World) (v : Value) (ns : List Nm) : Prop := w.ownsRow B 132 3 v ns.length (clN ns.reverse)
theorem NmP.slice {B : Nat} {w : World} {v : Value} {ns : List Nm} (h : NmP B w v ns) : ∃ a c, v = .slice a ns.length c := by
 rcases h.2 with ⟨rfl, h0⟩ | ⟨g, cap, cur, rfl, _⟩
 ·exact ⟨none, 0, by rw [h0]⟩
 ·exact ⟨_, _, rfl⟩
theorem NmP.nil (B : Nat) (w : World) : NmP B w (.slice none 0 0) [] := ⟨rfl, .inl ⟨rfl, rfl⟩⟩
theorem NmP.at {B : Nat} {w : World} {a : Option Addr} {n c : Nat} {ns : List Nm} (h : NmP B w (.slice a n c) ns) {j : Nat} (hj : j < ns.length) : ∃ g, a = some ⟨g, 0, none⟩ ∧ g < w.heap.size ∧ w.cell? ⟨g, j * 3, none⟩ = some (.string (ns.getD (ns.length - 1 - j) noN).1) ∧ w.cell? ⟨g, j * 3 + 1, none⟩ = some (.int .i64 (ns.getD (ns.length - 1 - j) noN).2.1) ∧ w.cell? ⟨g, j * 3 + 2, none⟩ = some (.int .i64 (ns.getD (ns.length - 1 - j) noN).2.2) := by
 rcases h.2 with ⟨e, h0⟩ | ⟨g, cap, cur, e, hB, hg, _, _, hsz, htk⟩
 ·omega
 ·simp only [Value.slice.injEq] at e
  obtain ⟨rfl, rfl, rfl⟩ := e
  have key : ∀ i u, (clN ns.reverse)[i]? = some u → w.cell? ⟨g, i, none⟩ = some u := fun i u hu => by
   rw [← htk] at hu
   have hi : i < ns.length * 3 := by
    have := (List.getElem?_eq_some_iff.1 hu).1
    rw [List.length_take] at this
    omega
   rw [List.getElem?_take_of_lt hi] at hu
   simp only [World.cell?, hg]
   simpa using hu
  have e := clN_at ns.reverse j (by simpa using hj)
  have er : ns.reverse.getD j noN = ns.getD (ns.length - 1 - j) noN := by
   rw [List.getD_eq_getElem?_getD, List.getD_eq_getElem?_getD, List.getElem?_reverse hj]
  rw [er] at e
  exact ⟨g, rfl, (Array.getElem?_eq_some_iff.1 hg).1, key _ _ e.1, key _ _ e.2.1, key _ _ e.2.2⟩
/-- what a name stands for, from the front -/
def lkR : List Nm → List UInt8 → Option Sh
 | [], _ => none
 | p :: l, x => if (p.1.toList == x) = true then some p.2 else lkR l x
theorem lk_eq : ∀ (l : List Nm) (x : List UInt8) (i : Nat), (if fndN (l.map Prod.fst) x i < 0 then none else some (l.getD ((fndN (l.map Prod.fst) x i).toNat - i) noN).2) = lkR l x
 | [], x, i => rfl
 | p :: l, x, i => by
  unfold lkR
  show (if (if (p.1.toList == x) = true then (i : Int) else fndN (l.map Prod.fst) x (i + 1)) < 0 then none else some ((p :: l).getD ((if (p.1.toList == x) = true then (i : Int) else fndN (l.map Prod.fst) x (i + 1)).toNat - i) noN).2) = _
  by_cases h : (p.1.toList == x) = true
  ·rw [if_pos h, if_pos h, if_neg (by omega)]
   simp
  ·rw [if_neg h, if_neg h]
   rw [← lk_eq l x (i + 1)]
   rcases fnd_lt (l.map Prod.fst) x (i + 1) with ⟨h1, _⟩ | ⟨j, h1, h2⟩
   ·rw [if_pos h1, if_pos h1]
   ·rw [h1, if_neg (by omega), if_neg (by omega)]
    have e1 : ((i + 1 + j : Nat) : Int).toNat - i = j + 1 := by omega
    have e2 : ((i + 1 + j : Nat) : Int).toNat - (i + 1) = j := by omega
    rw [e1, e2]
    rfl
theorem lk_same (l : List Nm) (x : List UInt8) : lkP l x = lkR l x := lk_eq l x 0
theorem lk_drop {l : List Nm} {k : Nat} (h : k < l.length) (x : List UInt8) : lkR (l.drop k) x = if ((l.getD k noN).1.toList == x) = true then some (l.getD k noN).2 else lkR (l.drop (k + 1)) x := by
 rw [List.drop_eq_getElem_cons h]
 show (if (l[k].1.toList == x) = true then some l[k].2 else _) = _
 rw [show l.getD k noN = l[k] by simp [List.getD, h]]

set_option maxHeartbeats 8000000 in
theorem alookup_any {B : Nat} {w : World} {v : Value} {ns : List Nm} (h : NmP B w v ns) (hn : ns.length ≤ 1000) (x : ByteArray) : Calls Tryz.prog 69 #[v, .string x] w (GotS w (lkP ns x.toList)) := by
 obtain ⟨a, c, rfl⟩ := h.slice
 have HR : Hid (lkR (ns.drop 0) x.toList = lkP ns x.toList) := (lk_same ns x.toList).symm
 generalize lkP ns x.toList = O at *
 have HN : Hid (NmP B w (.slice a ns.length c) ns) := h
 have HS0 : Hid (S1 w (w.alloc (.cells #[.int .i64 0, .int .i64 0] 89))) := S1.new w
 have hw0 : IntKind.i64.wrap ((ns.length : Int) - 1) = (ns.length : Int) - 1 := by rw [IntKind.wrap_i64]; omega
 clear h
 go_enter Tryz.func69, Tryz.ntmps69
 go_wp2
 generalize w.alloc (.cells #[.int .i64 0, .int .i64 0] 89) = w1 at *
 go_loopw [6] (fun iv wr => ∃ k : Nat, iv = .int .i64 ((ns.length : Int) - 1 - k) ∧ k ≤ ns.length ∧ Hid (lkR (ns.drop k) x.toList = O) ∧ Hid (wr.heap = w1.heap ∧ S1 w wr)) (fun iv _ => ((intOf iv) + 1).toNat)
 case atStart => exact ⟨0, by simp, Nat.zero_le _, HR, ⟨rfl, HS0.out⟩⟩
 case round =>
  clear HR
  obtain ⟨k, rfl, hk, HRk, HSk⟩ := hrel
  have hbr := HSk.out.2.bel
  by_cases hlt : k < ns.length
  ·have hge : (0 : Int) ≤ (ns.length : Int) - 1 - k := by omega
   obtain ⟨j, hj⟩ : ∃ j : Nat, (ns.length : Int) - 1 - k = (j : Int) := ⟨ns.length - 1 - k, by omega⟩
   have hjl : j < ns.length := by omega
   obtain ⟨g, rfl, hg, c0, c1, c2⟩ := HN.out.at hjl
   have ej : ns.length - 1 - j = k := by omega
   rw [ej] at c0 c1 c2
   have d0 := (hbr.cell (p := ⟨g, j * 3, none⟩) hg).trans c0
   have d1 := (hbr.cell (p := ⟨g, j * 3 + 1, none⟩) hg).trans c1
   have d2 := (hbr.cell (p := ⟨g, j * 3 + 2, none⟩) hg).trans c2
   have hgl : g < wr.heap.size := Nat.lt_of_lt_of_le hg hbr.size
   have HD := lk_drop hlt x.toList
   rw [HRk.out] at HD
   have hjI : (j : Int) < (ns.length : Int) := by omega
   have hjn : (ns.length : Int) - 1 - (k + 1 : Nat) = (j : Int) - 1 := by omega
   have hw1 : IntKind.i64.wrap ((j : Int) - 1) = (j : Int) - 1 := by rw [IntKind.wrap_i64]; omega
   generalize ns.getD k noN = p at *
   obtain ⟨nm, lu, bu⟩ := p
   simp only at d0 d1 d2 HD
   rw [hj]
   have HJN : Hid ((ns.length : Int) - 1 - (k + 1 : Nat) = (j : Int) - 1) := hjn
   clear c0 c1 c2 HRk hj hge ej hjn hbr
   cases hy : (nm.toList == x.toList)
   ·rw [hy] at HD
    have HR2 : Hid (lkR (ns.drop (k + 1)) x.toList = O) := by show _ = _; rw [HD]; simp
    clear HD
    go_wp2
    go_roundw
    case rel => exact ⟨k + 1, by rw [HJN.out], by omega, HR2, HSk⟩
    case measure => simp [intOf]
   ·rw [hy] at HD
    have HR2 : Hid (O = some (lu, bu)) := by show _ = _; rw [HD]; simp
    obtain ⟨W, hW, hbW, _, hTW⟩ := HSk.out.2.r.ret HSk.out.2.bel (Nat.le_refl _) lu bu
    have HW : Hid (putS wr w.heap.size lu bu = W) := hW
    have s0 := hTW.c0
    have s1 := hTW.c1
    have HBW : Hid (Below w.heap.size w W) := hbW
    have r0 := HSk.out.2.r.c0
    have r1 := HSk.out.2.r.c1
    have r2 := HSk.out.2.r.lt
    have r3 := HSk.out.2.r.fz 0
    have r4 := HSk.out.2.r.fz 1
    clear HD hW hbW hTW HSk
    go_wp2
    have hW := HW.out
    unfold putS at hW
    rw [hW]
    refine bodyPost_ret (v := .tuple #[.agg #[.int .i64 lu, .int .i64 bu], .bool true]) ?_ rfl ?_
    ·simp [results, go_sem, s0, s1]
    ·exact GotS.yes (s := (lu, bu)) HR2.out HBW.out
  ·obtain rfl : k = ns.length := by omega
   have HR2 : Hid (O = none) := by
    show _ = _
    rw [← HRk.out, List.drop_length]; rfl
   have hm1 : (ns.length : Int) - 1 - (ns.length : Int) = -1 := by omega
   rw [hm1]
   have ha := alloc_below wr (.cells #[.int .i64 0, .int .i64 0] 89)
   obtain ⟨W, hW, hbW, _, hTW⟩ := HSk.out.2.r.ret HSk.out.2.bel (Nat.le_refl _) 0 0
   have ha7 := alloc_below W (.cells #[.int .i64 0, .int .i64 0] 89)
   have hTW2 := hTW.below ha7 hTW.lt
   have HW : Hid (putS wr w.heap.size 0 0 = W) := hW
   have s0 := hTW2.c0
   have s1 := hTW2.c1
   have HBW : Hid (Below w.heap.size w (W.alloc (.cells #[.int .i64 0, .int .i64 0] 89))) := hbW.trans (ha7.mono hbW.size)
   have r0 := HSk.out.2.r.c0
   have r1 := HSk.out.2.r.c1
   have r2 := HSk.out.2.r.lt
   have r3 := HSk.out.2.r.fz 0
   have r4 := HSk.out.2.r.fz 1
   clear hW hbW hTW hTW2 HSk ha ha7 HRk hm1
   go_wp2
   have hW := HW.out
   unfold putS at hW
   rw [hW]
   generalize W.alloc (.cells #[.int .i64 0, .int .i64 0] 89) = W2 at *
   refine bodyPost_ret (v := .tuple #[.agg #[.int .i64 0, .int .i64 0], .bool false]) ?_ rfl ?_
   ·simp [results, go_sem, s0, s1]
   ·exact GotS.no (0, 0) HR2.out HBW.out

end Go.Proofs.YtgmmfpdekefamaaGreatDoor
