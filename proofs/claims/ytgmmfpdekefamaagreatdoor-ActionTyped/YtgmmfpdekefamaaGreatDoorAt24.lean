/- Texts of the proof, put together: QScb. -/
import Derived.Test.YtgmmfpdekefamaaGreatDoorAt23
import Derived.BigRegion
namespace Go.Proofs.YtgmmfpdekefamaaGreatDoor
open Go.RowKit
set_option linter.unusedVariables false
set_option linter.unusedSimpArgs false
set_option maxRecDepth 100000


set_option maxHeartbeats 8000000 in
/-- len -/
theorem acall_len {w : World} {lv : Value} {l : List Sh} {f : ByteArray} {O : Option Sh} (h_len : (f.toList == [108, 101, 110]) = true) (h : ShsR w lv l) (hl : 0 < l.length) (HV : Hid (O = if lenB (l.getD 0 noS) = true then some (0, 1) else none)) : Calls Tryz.prog 128 #[.string f, lv] w (GotS w O) := by
 have HS0 : Hid (SR w (w.heap.size + 1) 1 4 ((w.alloc (.cells #[.int .i64 0, .int .i64 0] 89)).alloc (.cells #[.int .i64 1, .int .i64 4] 89))) := (SR.two w 1 4).1
 have HR0 : Hid (ShAt ((w.alloc (.cells #[.int .i64 0, .int .i64 0] 89)).alloc (.cells #[.int .i64 1, .int .i64 4] 89)) w.heap.size 0 0) := (SR.two w 1 4).2
 have HS1 : Hid (∀ W, Calls Tryz.prog 123 #[.int .i64 1] W fun e w' => e = .returned (.agg #[.int .i64 0, .int .i64 1]) ∧ Below W.heap.size W w') := fun W => asimple_any 1 W
 have HS2 : Hid (∀ W, Calls Tryz.prog 123 #[.int .i64 2] W fun e w' => e = .returned (.agg #[.int .i64 0, .int .i64 2]) ∧ Below W.heap.size W w') := fun W => asimple_any 2 W
 obtain ⟨a, c, rfl⟩ := h.slice
 generalize hn : l.length = n at *
 obtain ⟨g, off, rfl, hg, c0, c1⟩ := h.at (k := 0) (by omega)
 simp only [Nat.zero_mul, Nat.add_zero] at c0 c1
 have HIs : Hid (∀ W, Calls Tryz.prog 146 #[shV (l.getD 0 noS)] W fun e w' => e = .returned (.bool (decide (1 ≤ (l.getD 0 noS).1))) ∧ Below W.heap.size W w') := fun W => aislist_any _ W
 have hnI : (0 : Int) < (n : Int) := by omega
 clear h
 generalize l.getD 0 noS = z0 at *
 obtain ⟨la, ba⟩ := z0
 unfold shV at HIs
 simp only at HIs c0 c1
 have HX : Hid (∀ w', SR w (w.heap.size + 1) 1 4 w' → w'.cell? ⟨g, off, none⟩ = some (.int .i64 la) ∧ w'.cell? ⟨g, off + 1, none⟩ = some (.int .i64 ba)) := fun w' h =>
  ⟨(h.bel.cell (p := ⟨g, off, none⟩) hg).trans c0, (h.bel.cell (p := ⟨g, off + 1, none⟩) hg).trans c1⟩
 by_cases h1 : 1 ≤ la
 ·have hd : decide (1 ≤ la) = true := decide_eq_true h1
  rw [hd] at HIs
  have HV2 : Hid (O = some (0, 1)) := by show _ = _; rw [HV.out]; unfold lenB; simp [h1]
  go_enter Tryz.func128, Tryz.ntmps128
  go_wp2_with fail
  generalize (w.alloc (.cells #[.int .i64 0, .int .i64 0] 89)).alloc (.cells #[.int .i64 1, .int .i64 4] 89) = w3 at *
  have hdr0 : Below w3.heap.size w3 w3.drew := below_drewG (Below.refl _ _) 1
  have hSd : (SR w (w.heap.size + 1) 1 4) w3.drew := HS0.out.after hdr0
  have hRd0 : ShAt w3.drew w.heap.size 0 0 := HR0.out.below hdr0 HR0.out.lt
  clear hdr0
  refine wp_region_held_drew (S := (SR w (w.heap.size + 1) 1 4)) (by kernel_rfl) hSd (fun hHeld => ?_)
  clear hHeld
  generalize w3.drew = wd0 at hSd hRd0 ⊢
  refine wpAnyH_take (i := 1) (v := ?_) rfl (by kernel_rfl) (by kernel_rfl) (by kernel_rfl) (fun _ _ _ h => h) (Or.inl ⟨by rfl, ?_⟩) hSd ?_
  rotate_left
  ·(intro w9 hSw; obtain ⟨x0, x1⟩ := HX.out w9 hSw; go_simp; first | done | with_reducible rfl)
  refine wpAnyH_take (i := 2) (v := ?_) rfl (by kernel_rfl) (by kernel_rfl) (by kernel_rfl) (fun _ _ _ h => h) (Or.inl ⟨by rfl, ?_⟩) hSd ?_
  rotate_left
  ·(intro w9 hSw; obtain ⟨x0, x1⟩ := HX.out w9 hSw; go_simp; first | done | with_reducible rfl)
  refine wpAnyH_take (i := 3) (v := ?_) rfl (by kernel_rfl) (by kernel_rfl) (by kernel_rfl) (fun _ _ _ h => h) (Or.inl ⟨by rfl, ?_⟩) hSd ?_
  rotate_left
  ·(intro w9 hSw; obtain ⟨x0, x1⟩ := HX.out w9 hSw; go_simp; first | done | with_reducible rfl)
  simp only [Act.put, List.getElem_toArray, List.getElem_cons_succ, List.getElem_cons_zero, List.setIfInBounds_toArray, List.set_cons_zero, List.set_cons_succ]
  refine wpAnyH_ready (rs := [0]) (by kernel_rfl) (by simp) ?_
  refine AllReadyH.cons rfl (fun K hK => ?_) AllReadyH.nil
  go_simp
  go_wp2_with (go_at_call 123; refine (HS1.out wd0).mono ?_; rintro e wd1 ⟨rfl, hbd1⟩)
  have hSd1 : (SR w (w.heap.size + 1) 1 4) wd1 := hSd.after hbd1
  have hRd1 : ShAt wd1 w.heap.size 0 0 := hRd0.below hbd1 hRd0.lt
  refine hK.out _ _ hSd1 (fun hHeld => ?_)
  clear hK K hHeld
  refine wpAnyH_ready (rs := [4]) (by kernel_rfl) (by simp) ?_
  refine AllReadyH.cons rfl (fun K hK => ?_) AllReadyH.nil
  go_simp
  go_wp2_with (go_at_call 146; refine (HIs.out wd1).mono ?_; rintro e wd2 ⟨rfl, hbd2⟩)
  have hSd2 : (SR w (w.heap.size + 1) 1 4) wd2 := hSd1.after hbd2
  have hRd2 : ShAt wd2 w.heap.size 0 0 := hRd1.below hbd2 hRd1.lt
  refine hK.out _ _ hSd2 (fun hHeld => ?_)
  clear hK K hHeld
  refine wpAnyH_take (i := 5) (v := ?_) rfl (by kernel_rfl) (by kernel_rfl) (by kernel_rfl) (fun _ _ _ h => h) (Or.inl ⟨by rfl, ?_⟩) hSd2 ?_
  rotate_left
  ·(intro w9 hSw; obtain ⟨x0, x1⟩ := HX.out w9 hSw; go_simp; first | done | with_reducible rfl)
  refine wpAnyH_take (i := 6) (v := undef) rfl (by kernel_rfl) (by kernel_rfl) (by kernel_rfl) (fun _ _ _ h => h) (Or.inr ⟨by kernel_rfl, rfl⟩) hSd2 ?_
  refine wpAnyH_take (i := 7) (v := undef) rfl (by kernel_rfl) (by kernel_rfl) (by kernel_rfl) (fun _ _ _ h => h) (Or.inr ⟨by kernel_rfl, rfl⟩) hSd2 ?_
  refine wpAnyH_take (i := 8) (v := undef) rfl (by kernel_rfl) (by kernel_rfl) (by kernel_rfl) (fun _ _ _ h => h) (Or.inr ⟨by kernel_rfl, rfl⟩) hSd2 ?_
  refine wpAnyH_take (i := 9) (v := undef) rfl (by kernel_rfl) (by kernel_rfl) (by kernel_rfl) (fun _ _ _ h => h) (Or.inr ⟨by kernel_rfl, rfl⟩) hSd2 ?_
  refine wpAnyH_take (i := 10) (v := undef) rfl (by kernel_rfl) (by kernel_rfl) (by kernel_rfl) (fun _ _ _ h => h) (Or.inr ⟨by kernel_rfl, rfl⟩) hSd2 ?_
  refine wpAnyH_take (i := 11) (v := ?_) rfl (by kernel_rfl) (by kernel_rfl) (by kernel_rfl) (fun _ _ _ h => h) (Or.inl ⟨by rfl, ?_⟩) hSd2 ?_
  rotate_left
  ·(intro w9 hSw; obtain ⟨x0, x1⟩ := HX.out w9 hSw; go_simp; first | done | with_reducible rfl)
  simp only [Act.put, List.getElem_toArray, List.getElem_cons_succ, List.getElem_cons_zero, List.setIfInBounds_toArray, List.set_cons_zero, List.set_cons_succ]
  have r0 := hRd2.c0
  have r1 := hRd2.c1
  have f0 := hRd2.fz 0
  have f1 := hRd2.fz 1
  have rr := hRd2.lt
  refine wpAnyH_ready (rs := [12]) (by kernel_rfl) (by simp) ?_
  refine AllReadyH.cons rfl (fun K hK => ?_) AllReadyH.nil
  go_simp
  have hSd3 : (SR w (w.heap.size + 1) 1 4) (putS wd2 w.heap.size 0 1) := hSd2.put 0 1
  have hRd3 : ShAt (putS wd2 w.heap.size 0 1) w.heap.size 0 1 := hRd2.put 0 1
  change K _ (putS wd2 w.heap.size 0 1)
  refine hK.out _ _ hSd3 (fun hHeld => ?_)
  clear hK K hHeld r0 r1 f0 f1 rr
  generalize putS wd2 w.heap.size 0 1 = wd3 at hSd3 hRd3 ⊢
  refine wpAnyH_take (i := 13) (v := ?_) rfl (by kernel_rfl) (by kernel_rfl) (by kernel_rfl) (fun _ _ _ h => h) (Or.inl ⟨by rfl, ?_⟩) hSd3 ?_
  rotate_left
  ·(intro w9 hSw; obtain ⟨x0, x1⟩ := HX.out w9 hSw; go_simp; first | done | with_reducible rfl)
  simp only [Act.put, List.getElem_toArray, List.getElem_cons_succ, List.getElem_cons_zero, List.setIfInBounds_toArray, List.set_cons_zero, List.set_cons_succ]
  refine wpAnyH_done (by kernel_rfl) ?_ _
  have s0 := hRd3.c0
  have s1 := hRd3.c1
  have HBW : Hid (Below w.heap.size w wd3) := hSd3.bel
  clear HX
  go_wp2
  refine bodyPost_ret (v := .tuple #[.agg #[.int .i64 0, .int .i64 1], .bool true]) ?_ rfl ?_
  ·simp [results, go_sem, s0, s1]
  ·exact GotS.yes (s := (0, 1)) HV2.out HBW.out
 ·have hd : decide (1 ≤ la) = false := decide_eq_false h1
  rw [hd] at HIs
  obtain rfl : la = 0 := by omega
  by_cases h2 : ba = 2
  ·subst h2
   have HV2 : Hid (O = some (0, 1)) := by show _ = _; rw [HV.out]; rfl
   go_enter Tryz.func128, Tryz.ntmps128
   go_wp2_with fail
   generalize (w.alloc (.cells #[.int .i64 0, .int .i64 0] 89)).alloc (.cells #[.int .i64 1, .int .i64 4] 89) = w3 at *
   have hdr0 : Below w3.heap.size w3 w3.drew := below_drewG (Below.refl _ _) 1
   have hSd : (SR w (w.heap.size + 1) 1 4) w3.drew := HS0.out.after hdr0
   have hRd0 : ShAt w3.drew w.heap.size 0 0 := HR0.out.below hdr0 HR0.out.lt
   clear hdr0
   refine wp_region_held_drew (S := (SR w (w.heap.size + 1) 1 4)) (by kernel_rfl) hSd (fun hHeld => ?_)
   clear hHeld
   generalize w3.drew = wd0 at hSd hRd0 ⊢
   refine wpAnyH_take (i := 1) (v := ?_) rfl (by kernel_rfl) (by kernel_rfl) (by kernel_rfl) (fun _ _ _ h => h) (Or.inl ⟨by rfl, ?_⟩) hSd ?_
   rotate_left
   ·(intro w9 hSw; obtain ⟨x0, x1⟩ := HX.out w9 hSw; go_simp; first | done | with_reducible rfl)
   refine wpAnyH_take (i := 2) (v := ?_) rfl (by kernel_rfl) (by kernel_rfl) (by kernel_rfl) (fun _ _ _ h => h) (Or.inl ⟨by rfl, ?_⟩) hSd ?_
   rotate_left
   ·(intro w9 hSw; obtain ⟨x0, x1⟩ := HX.out w9 hSw; go_simp; first | done | with_reducible rfl)
   refine wpAnyH_take (i := 3) (v := ?_) rfl (by kernel_rfl) (by kernel_rfl) (by kernel_rfl) (fun _ _ _ h => h) (Or.inl ⟨by rfl, ?_⟩) hSd ?_
   rotate_left
   ·(intro w9 hSw; obtain ⟨x0, x1⟩ := HX.out w9 hSw; go_simp; first | done | with_reducible rfl)
   simp only [Act.put, List.getElem_toArray, List.getElem_cons_succ, List.getElem_cons_zero, List.setIfInBounds_toArray, List.set_cons_zero, List.set_cons_succ]
   refine wpAnyH_ready (rs := [0]) (by kernel_rfl) (by simp) ?_
   refine AllReadyH.cons rfl (fun K hK => ?_) AllReadyH.nil
   go_simp
   go_wp2_with (go_at_call 123; refine (HS1.out wd0).mono ?_; rintro e wd1 ⟨rfl, hbd1⟩)
   have hSd1 : (SR w (w.heap.size + 1) 1 4) wd1 := hSd.after hbd1
   have hRd1 : ShAt wd1 w.heap.size 0 0 := hRd0.below hbd1 hRd0.lt
   refine hK.out _ _ hSd1 (fun hHeld => ?_)
   clear hK K hHeld
   refine wpAnyH_ready (rs := [4]) (by kernel_rfl) (by simp) ?_
   refine AllReadyH.cons rfl (fun K hK => ?_) AllReadyH.nil
   go_simp
   go_wp2_with (go_at_call 146; refine (HIs.out wd1).mono ?_; rintro e wd2 ⟨rfl, hbd2⟩)
   have hSd2 : (SR w (w.heap.size + 1) 1 4) wd2 := hSd1.after hbd2
   have hRd2 : ShAt wd2 w.heap.size 0 0 := hRd1.below hbd2 hRd1.lt
   refine hK.out _ _ hSd2 (fun hHeld => ?_)
   clear hK K hHeld
   refine wpAnyH_take (i := 5) (v := ?_) rfl (by kernel_rfl) (by kernel_rfl) (by kernel_rfl) (fun _ _ _ h => h) (Or.inl ⟨by rfl, ?_⟩) hSd2 ?_
   rotate_left
   ·(intro w9 hSw; obtain ⟨x0, x1⟩ := HX.out w9 hSw; go_simp; first | done | with_reducible rfl)
   refine wpAnyH_take (i := 6) (v := ?_) rfl (by kernel_rfl) (by kernel_rfl) (by kernel_rfl) (fun _ _ _ h => h) (Or.inl ⟨by rfl, ?_⟩) hSd2 ?_
   rotate_left
   ·(intro w9 hSw; obtain ⟨x0, x1⟩ := HX.out w9 hSw; go_simp; first | done | with_reducible rfl)
   refine wpAnyH_take (i := 7) (v := ?_) rfl (by kernel_rfl) (by kernel_rfl) (by kernel_rfl) (fun _ _ _ h => h) (Or.inl ⟨by rfl, ?_⟩) hSd2 ?_
   rotate_left
   ·(intro w9 hSw; obtain ⟨x0, x1⟩ := HX.out w9 hSw; go_simp; first | done | with_reducible rfl)
   refine wpAnyH_take (i := 8) (v := ?_) rfl (by kernel_rfl) (by kernel_rfl) (by kernel_rfl) (fun _ _ _ h => h) (Or.inl ⟨by rfl, ?_⟩) hSd2 ?_
   rotate_left
   ·(intro w9 hSw; obtain ⟨x0, x1⟩ := HX.out w9 hSw; go_simp; first | done | with_reducible rfl)
   simp only [Act.put, List.getElem_toArray, List.getElem_cons_succ, List.getElem_cons_zero, List.setIfInBounds_toArray, List.set_cons_zero, List.set_cons_succ]
   refine wpAnyH_ready (rs := [9]) (by kernel_rfl) (by simp) ?_
   refine AllReadyH.cons rfl (fun K hK => ?_) AllReadyH.nil
   go_simp
   go_wp2_with (go_at_call 123; refine (HS2.out wd2).mono ?_; rintro e wd3 ⟨rfl, hbd3⟩)
   have hSd3 : (SR w (w.heap.size + 1) 1 4) wd3 := hSd2.after hbd3
   have hRd3 : ShAt wd3 w.heap.size 0 0 := hRd2.below hbd3 hRd2.lt
   refine hK.out _ _ hSd3 (fun hHeld => ?_)
   clear hK K hHeld
   refine wpAnyH_take (i := 10) (v := ?_) rfl (by kernel_rfl) (by kernel_rfl) (by kernel_rfl) (fun _ _ _ h => h) (Or.inl ⟨by rfl, ?_⟩) hSd3 ?_
   rotate_left
   ·(intro w9 hSw; obtain ⟨x0, x1⟩ := HX.out w9 hSw; go_simp; first | done | with_reducible rfl)
   refine wpAnyH_take (i := 11) (v := ?_) rfl (by kernel_rfl) (by kernel_rfl) (by kernel_rfl) (fun _ _ _ h => h) (Or.inl ⟨by rfl, ?_⟩) hSd3 ?_
   rotate_left
   ·(intro w9 hSw; obtain ⟨x0, x1⟩ := HX.out w9 hSw; go_simp; first | done | with_reducible rfl)
   simp only [Act.put, List.getElem_toArray, List.getElem_cons_succ, List.getElem_cons_zero, List.setIfInBounds_toArray, List.set_cons_zero, List.set_cons_succ]
   have r0 := hRd3.c0
   have r1 := hRd3.c1
   have f0 := hRd3.fz 0
   have f1 := hRd3.fz 1
   have rr := hRd3.lt
   refine wpAnyH_ready (rs := [12]) (by kernel_rfl) (by simp) ?_
   refine AllReadyH.cons rfl (fun K hK => ?_) AllReadyH.nil
   go_simp
   have hSd4 : (SR w (w.heap.size + 1) 1 4) (putS wd3 w.heap.size 0 1) := hSd3.put 0 1
   have hRd4 : ShAt (putS wd3 w.heap.size 0 1) w.heap.size 0 1 := hRd3.put 0 1
   change K _ (putS wd3 w.heap.size 0 1)
   refine hK.out _ _ hSd4 (fun hHeld => ?_)
   clear hK K hHeld r0 r1 f0 f1 rr
   generalize putS wd3 w.heap.size 0 1 = wd4 at hSd4 hRd4 ⊢
   refine wpAnyH_take (i := 13) (v := ?_) rfl (by kernel_rfl) (by kernel_rfl) (by kernel_rfl) (fun _ _ _ h => h) (Or.inl ⟨by rfl, ?_⟩) hSd4 ?_
   rotate_left
   ·(intro w9 hSw; obtain ⟨x0, x1⟩ := HX.out w9 hSw; go_simp; first | done | with_reducible rfl)
   simp only [Act.put, List.getElem_toArray, List.getElem_cons_succ, List.getElem_cons_zero, List.setIfInBounds_toArray, List.set_cons_zero, List.set_cons_succ]
   refine wpAnyH_done (by kernel_rfl) ?_ _
   have s0 := hRd4.c0
   have s1 := hRd4.c1
   have HBW : Hid (Below w.heap.size w wd4) := hSd4.bel
   clear HX
   go_wp2
   refine bodyPost_ret (v := .tuple #[.agg #[.int .i64 0, .int .i64 1], .bool true]) ?_ rfl ?_
   ·simp [results, go_sem, s0, s1]
   ·exact GotS.yes (s := (0, 1)) HV2.out HBW.out
  ·have HV2 : Hid (O = none) := by show _ = _; rw [HV.out]; unfold lenB; simp [h2]
   go_enter Tryz.func128, Tryz.ntmps128
   go_wp2_with fail
   generalize (w.alloc (.cells #[.int .i64 0, .int .i64 0] 89)).alloc (.cells #[.int .i64 1, .int .i64 4] 89) = w3 at *
   have hdr0 : Below w3.heap.size w3 w3.drew := below_drewG (Below.refl _ _) 1
   have hSd : (SR w (w.heap.size + 1) 1 4) w3.drew := HS0.out.after hdr0
   have hRd0 : ShAt w3.drew w.heap.size 0 0 := HR0.out.below hdr0 HR0.out.lt
   clear hdr0
   refine wp_region_held_drew (S := (SR w (w.heap.size + 1) 1 4)) (by kernel_rfl) hSd (fun hHeld => ?_)
   clear hHeld
   generalize w3.drew = wd0 at hSd hRd0 ⊢
   refine wpAnyH_take (i := 1) (v := ?_) rfl (by kernel_rfl) (by kernel_rfl) (by kernel_rfl) (fun _ _ _ h => h) (Or.inl ⟨by rfl, ?_⟩) hSd ?_
   rotate_left
   ·(intro w9 hSw; obtain ⟨x0, x1⟩ := HX.out w9 hSw; go_simp; first | done | with_reducible rfl)
   refine wpAnyH_take (i := 2) (v := ?_) rfl (by kernel_rfl) (by kernel_rfl) (by kernel_rfl) (fun _ _ _ h => h) (Or.inl ⟨by rfl, ?_⟩) hSd ?_
   rotate_left
   ·(intro w9 hSw; obtain ⟨x0, x1⟩ := HX.out w9 hSw; go_simp; first | done | with_reducible rfl)
   refine wpAnyH_take (i := 3) (v := ?_) rfl (by kernel_rfl) (by kernel_rfl) (by kernel_rfl) (fun _ _ _ h => h) (Or.inl ⟨by rfl, ?_⟩) hSd ?_
   rotate_left
   ·(intro w9 hSw; obtain ⟨x0, x1⟩ := HX.out w9 hSw; go_simp; first | done | with_reducible rfl)
   simp only [Act.put, List.getElem_toArray, List.getElem_cons_succ, List.getElem_cons_zero, List.setIfInBounds_toArray, List.set_cons_zero, List.set_cons_succ]
   refine wpAnyH_ready (rs := [0]) (by kernel_rfl) (by simp) ?_
   refine AllReadyH.cons rfl (fun K hK => ?_) AllReadyH.nil
   go_simp
   go_wp2_with (go_at_call 123; refine (HS1.out wd0).mono ?_; rintro e wd1 ⟨rfl, hbd1⟩)
   have hSd1 : (SR w (w.heap.size + 1) 1 4) wd1 := hSd.after hbd1
   have hRd1 : ShAt wd1 w.heap.size 0 0 := hRd0.below hbd1 hRd0.lt
   refine hK.out _ _ hSd1 (fun hHeld => ?_)
   clear hK K hHeld
   refine wpAnyH_ready (rs := [4]) (by kernel_rfl) (by simp) ?_
   refine AllReadyH.cons rfl (fun K hK => ?_) AllReadyH.nil
   go_simp
   go_wp2_with (go_at_call 146; refine (HIs.out wd1).mono ?_; rintro e wd2 ⟨rfl, hbd2⟩)
   have hSd2 : (SR w (w.heap.size + 1) 1 4) wd2 := hSd1.after hbd2
   have hRd2 : ShAt wd2 w.heap.size 0 0 := hRd1.below hbd2 hRd1.lt
   refine hK.out _ _ hSd2 (fun hHeld => ?_)
   clear hK K hHeld
   refine wpAnyH_take (i := 5) (v := ?_) rfl (by kernel_rfl) (by kernel_rfl) (by kernel_rfl) (fun _ _ _ h => h) (Or.inl ⟨by rfl, ?_⟩) hSd2 ?_
   rotate_left
   ·(intro w9 hSw; obtain ⟨x0, x1⟩ := HX.out w9 hSw; go_simp; first | done | with_reducible rfl)
   refine wpAnyH_take (i := 6) (v := ?_) rfl (by kernel_rfl) (by kernel_rfl) (by kernel_rfl) (fun _ _ _ h => h) (Or.inl ⟨by rfl, ?_⟩) hSd2 ?_
   rotate_left
   ·(intro w9 hSw; obtain ⟨x0, x1⟩ := HX.out w9 hSw; go_simp; first | done | with_reducible rfl)
   refine wpAnyH_take (i := 7) (v := ?_) rfl (by kernel_rfl) (by kernel_rfl) (by kernel_rfl) (fun _ _ _ h => h) (Or.inl ⟨by rfl, ?_⟩) hSd2 ?_
   rotate_left
   ·(intro w9 hSw; obtain ⟨x0, x1⟩ := HX.out w9 hSw; go_simp; first | done | with_reducible rfl)
   refine wpAnyH_take (i := 8) (v := ?_) rfl (by kernel_rfl) (by kernel_rfl) (by kernel_rfl) (fun _ _ _ h => h) (Or.inl ⟨by rfl, ?_⟩) hSd2 ?_
   rotate_left
   ·(intro w9 hSw; obtain ⟨x0, x1⟩ := HX.out w9 hSw; go_simp; first | done | with_reducible rfl)
   simp only [Act.put, List.getElem_toArray, List.getElem_cons_succ, List.getElem_cons_zero, List.setIfInBounds_toArray, List.set_cons_zero, List.set_cons_succ]
   refine wpAnyH_ready (rs := [9]) (by kernel_rfl) (by simp) ?_
   refine AllReadyH.cons rfl (fun K hK => ?_) AllReadyH.nil
   go_simp
   go_wp2_with (go_at_call 123; refine (HS2.out wd2).mono ?_; rintro e wd3 ⟨rfl, hbd3⟩)
   have hSd3 : (SR w (w.heap.size + 1) 1 4) wd3 := hSd2.after hbd3
   have hRd3 : ShAt wd3 w.heap.size 0 0 := hRd2.below hbd3 hRd2.lt
   refine hK.out _ _ hSd3 (fun hHeld => ?_)
   clear hK K hHeld
   refine wpAnyH_take (i := 10) (v := ?_) rfl (by kernel_rfl) (by kernel_rfl) (by kernel_rfl) (fun _ _ _ h => h) (Or.inl ⟨by rfl, ?_⟩) hSd3 ?_
   rotate_left
   ·(intro w9 hSw; obtain ⟨x0, x1⟩ := HX.out w9 hSw; go_simp; first | done | with_reducible rfl)
   refine wpAnyH_take (i := 11) (v := ?_) rfl (by kernel_rfl) (by kernel_rfl) (by kernel_rfl) (fun _ _ _ h => h) (Or.inl ⟨by rfl, ?_⟩) hSd3 ?_
   rotate_left
   ·(intro w9 hSw; obtain ⟨x0, x1⟩ := HX.out w9 hSw; go_simp; first | done | with_reducible rfl)
   simp only [Act.put, List.getElem_toArray, List.getElem_cons_succ, List.getElem_cons_zero, List.setIfInBounds_toArray, List.set_cons_zero, List.set_cons_succ]
   have r0 := hRd3.c0
   have r1 := hRd3.c1
   have f0 := hRd3.fz 0
   have f1 := hRd3.fz 1
   have rr := hRd3.lt
   refine wpAnyH_ready (rs := [12]) (by kernel_rfl) (by simp) ?_
   refine AllReadyH.cons rfl (fun K hK => ?_) AllReadyH.nil
   go_simp
   have hSd4 : (SR w (w.heap.size + 1) 1 4) (putS wd3 w.heap.size 0 1) := hSd3.put 0 1
   have hRd4 : ShAt (putS wd3 w.heap.size 0 1) w.heap.size 0 1 := hRd3.put 0 1
   change K _ (putS wd3 w.heap.size 0 1)
   refine hK.out _ _ hSd4 (fun hHeld => ?_)
   clear hK K hHeld r0 r1 f0 f1 rr
   generalize putS wd3 w.heap.size 0 1 = wd4 at hSd4 hRd4 ⊢
   refine wpAnyH_take (i := 13) (v := ?_) rfl (by kernel_rfl) (by kernel_rfl) (by kernel_rfl) (fun _ _ _ h => h) (Or.inl ⟨by rfl, ?_⟩) hSd4 ?_
   rotate_left
   ·(intro w9 hSw; obtain ⟨x0, x1⟩ := HX.out w9 hSw; go_simp; first | done | with_reducible rfl)
   simp only [Act.put, List.getElem_toArray, List.getElem_cons_succ, List.getElem_cons_zero, List.setIfInBounds_toArray, List.set_cons_zero, List.set_cons_succ]
   refine wpAnyH_done (by kernel_rfl) ?_ _
   have s0 := hRd4.c0
   have s1 := hRd4.c1
   have HBW : Hid (Below w.heap.size w wd4) := hSd4.bel
   clear HX
   go_wp2
   refine bodyPost_ret (v := .tuple #[.agg #[.int .i64 0, .int .i64 1], .bool false]) ?_ rfl ?_
   ·simp [results, go_sem, s0, s1]
   ·exact GotS.no (0, 1) HV2.out HBW.out

set_option maxHeartbeats 8000000 in
/-- node -/
theorem acall_node {w : World} {lv : Value} {l : List Sh} {f : ByteArray} {O : Option Sh} (h_len : (f.toList == [108, 101, 110]) = false) (h_text : (f.toList == [116, 101, 120, 116]) = false) (h_int : (f.toList == [105, 110, 116]) = false) (h_node : (f.toList == [110, 111, 100, 101]) = true) (h : ShsR w lv l) (hl : 1 < l.length) (HV : Hid (O = if nodeB (l.getD 0 noS) (l.getD 1 noS) = true then some (0, 4) else none)) : Calls Tryz.prog 128 #[.string f, lv] w (GotS w O) := by
 have HS0 : Hid (SR w (w.heap.size + 1) 1 4 ((w.alloc (.cells #[.int .i64 0, .int .i64 0] 89)).alloc (.cells #[.int .i64 1, .int .i64 4] 89))) := (SR.two w 1 4).1
 have HR0 : Hid (ShAt ((w.alloc (.cells #[.int .i64 0, .int .i64 0] 89)).alloc (.cells #[.int .i64 1, .int .i64 4] 89)) w.heap.size 0 0) := (SR.two w 1 4).2
 have HS4 : Hid (∀ W, Calls Tryz.prog 123 #[.int .i64 4] W fun e w' => e = .returned (.agg #[.int .i64 0, .int .i64 4]) ∧ Below W.heap.size W w') := fun W => asimple_any 4 W
 have HA : Hid (∀ W kv, Below w.heap.size w W → IntsR W kv [2] → Calls Tryz.prog 124 #[lv, kv] W fun e w' => e = .returned (.bool (arP l [2] 0)) ∧ Below W.heap.size W w') := fun W kv hW hk => aare_any (h.below hW) hk (by simp; omega) (by simp)
 have HF : Hid (∀ W, Calls Tryz.prog 165 #[shV (l.getD 1 noS), .agg #[.int .i64 1, .int .i64 4]] W fun e w' => e = .returned (.bool (fitP (l.getD 1 noS) (1, 4))) ∧ Below W.heap.size W w') := fun W => afits_any _ (1, 4) W
 obtain ⟨a, c, rfl⟩ := h.slice
 generalize hn : l.length = n at *
 obtain ⟨g, off, rfl, hg, _, _, c2, c3⟩ := h.two (by omega)
 have HV1 : Hid (O = if (arP l [2] 0 && fitP (l.getD 1 noS) (1, 4)) = true then some (0, 4) else none) := by show _ = _; rw [HV.out, ar_one]; rfl
 generalize arP l [2] 0 = R at *
 generalize hf0 : fitP (l.getD 1 noS) (1, 4) = F at *
 have hnI : (1 : Int) < (n : Int) := by omega
 clear h HV hf0
 generalize l.getD 1 noS = z1 at *
 obtain ⟨lb, bb⟩ := z1
 unfold shV at HF
 simp only at HF c2 c3
 have HX : Hid (∀ w', SR w (w.heap.size + 1) 1 4 w' → w'.cell? ⟨g, off + 2, none⟩ = some (.int .i64 lb) ∧ w'.cell? ⟨g, off + 3, none⟩ = some (.int .i64 bb) ∧ w'.cell? ⟨w.heap.size + 1, 0, none⟩ = some (.int .i64 1) ∧ w'.cell? ⟨w.heap.size + 1, 1, none⟩ = some (.int .i64 4)) := fun w' h =>
  ⟨(h.bel.cell (p := ⟨g, off + 2, none⟩) hg).trans c2, (h.bel.cell (p := ⟨g, off + 3, none⟩) hg).trans c3, h.sh.c0, h.sh.c1⟩
 cases hR : R
 ·rw [hR] at HA
  have HV2 : Hid (O = none) := by show _ = _; rw [HV1.out, hR]; rfl
  clear HV1
  go_enter Tryz.func128, Tryz.ntmps128
  go_wp2_with fail
  generalize (w.alloc (.cells #[.int .i64 0, .int .i64 0] 89)).alloc (.cells #[.int .i64 1, .int .i64 4] 89) = w3 at *
  have hdr0 : Below w3.heap.size w3 w3.drew := below_drewG (Below.refl _ _) 1
  have hSd : (SR w (w.heap.size + 1) 1 4) w3.drew := HS0.out.after hdr0
  have hRd0 : ShAt w3.drew w.heap.size 0 0 := HR0.out.below hdr0 HR0.out.lt
  clear hdr0
  refine wp_region_held_drew (S := (SR w (w.heap.size + 1) 1 4)) (by kernel_rfl) hSd (fun hHeld => ?_)
  clear hHeld
  generalize w3.drew = wd0 at hSd hRd0 ⊢
  refine wpAnyH_take (i := 1) (v := ?_) rfl (by kernel_rfl) (by kernel_rfl) (by kernel_rfl) (fun _ _ _ h => h) (Or.inl ⟨by rfl, ?_⟩) hSd ?_
  rotate_left
  ·(intro w9 hSw; obtain ⟨x0, x1, x2, x3⟩ := HX.out w9 hSw; go_simp; first | done | with_reducible rfl)
  simp only [Act.put, List.getElem_toArray, List.getElem_cons_succ, List.getElem_cons_zero, List.setIfInBounds_toArray, List.set_cons_zero, List.set_cons_succ]
  refine wpAnyH_ready (rs := [0, 2]) (by kernel_rfl) (by simp) ?_
  refine AllReadyH.cons rfl (fun K hK => ?_) (AllReadyH.cons rfl (fun K hK => ?_) AllReadyH.nil)
  ·go_simp
   go_wp2_with (go_at_call 123; refine (HS4.out wd0).mono ?_; rintro e wd1 ⟨rfl, hbd1⟩)
   have hSd1 : (SR w (w.heap.size + 1) 1 4) wd1 := hSd.after hbd1
   have hRd1 : ShAt wd1 w.heap.size 0 0 := hRd0.below hbd1 hRd0.lt
   refine hK.out _ _ hSd1 (fun hHeld => ?_)
   clear hK K hHeld
   refine wpAnyH_ready (rs := [2]) (by kernel_rfl) (by simp) ?_
   refine AllReadyH.cons rfl (fun K hK => ?_) AllReadyH.nil
   go_simp
   have hbd2 := alloc_below wd1 (.cells #[.int .i64 2] 3)
   have hId2 : IntsR (wd1.alloc (.cells #[.int .i64 2] 3)) (.slice (some ⟨wd1.heap.size, 0, none⟩) 1 1) [2] := ints_new wd1 [2]
   have hSd2 : (SR w (w.heap.size + 1) 1 4) (wd1.alloc (.cells #[.int .i64 2] 3)) := hSd1.after hbd2
   have hRd2 : ShAt (wd1.alloc (.cells #[.int .i64 2] 3)) w.heap.size 0 0 := hRd1.below hbd2 hRd1.lt
   refine hK.out _ _ hSd2 (fun hHeld => ?_)
   clear hK K hHeld
   generalize hbq2 : wd1.heap.size = bq2 at hId2 ⊢
   generalize wd1.alloc (.cells #[.int .i64 2] 3) = wd2 at hId2 hSd2 hRd2 ⊢
   clear hbd2 hbq2
   refine wpAnyH_ready (rs := [3]) (by kernel_rfl) (by simp) ?_
   refine AllReadyH.cons rfl (fun K hK => ?_) AllReadyH.nil
   go_simp
   go_wp2_with (go_at_call 124; refine (HA.out wd2 _ hSd2.bel hId2).mono ?_; rintro e wd3 ⟨rfl, hbd3⟩)
   have hSd3 : (SR w (w.heap.size + 1) 1 4) wd3 := hSd2.after hbd3
   have hRd3 : ShAt wd3 w.heap.size 0 0 := hRd2.below hbd3 hRd2.lt
   refine hK.out _ _ hSd3 (fun hHeld => ?_)
   clear hK K hHeld
   refine wpAnyH_take (i := 4) (v := ?_) rfl (by kernel_rfl) (by kernel_rfl) (by kernel_rfl) (fun _ _ _ h => h) (Or.inl ⟨by rfl, ?_⟩) hSd3 ?_
   rotate_left
   ·(intro w9 hSw; obtain ⟨x0, x1, x2, x3⟩ := HX.out w9 hSw; go_simp; first | done | with_reducible rfl)
   refine wpAnyH_take (i := 5) (v := undef) rfl (by kernel_rfl) (by kernel_rfl) (by kernel_rfl) (fun _ _ _ h => h) (Or.inr ⟨by kernel_rfl, rfl⟩) hSd3 ?_
   refine wpAnyH_take (i := 6) (v := undef) rfl (by kernel_rfl) (by kernel_rfl) (by kernel_rfl) (fun _ _ _ h => h) (Or.inr ⟨by kernel_rfl, rfl⟩) hSd3 ?_
   refine wpAnyH_take (i := 7) (v := undef) rfl (by kernel_rfl) (by kernel_rfl) (by kernel_rfl) (fun _ _ _ h => h) (Or.inr ⟨by kernel_rfl, rfl⟩) hSd3 ?_
   refine wpAnyH_take (i := 8) (v := undef) rfl (by kernel_rfl) (by kernel_rfl) (by kernel_rfl) (fun _ _ _ h => h) (Or.inr ⟨by kernel_rfl, rfl⟩) hSd3 ?_
   refine wpAnyH_take (i := 9) (v := undef) rfl (by kernel_rfl) (by kernel_rfl) (by kernel_rfl) (fun _ _ _ h => h) (Or.inr ⟨by kernel_rfl, rfl⟩) hSd3 ?_
   refine wpAnyH_take (i := 10) (v := ?_) rfl (by kernel_rfl) (by kernel_rfl) (by kernel_rfl) (fun _ _ _ h => h) (Or.inl ⟨by rfl, ?_⟩) hSd3 ?_
   rotate_left
   ·(intro w9 hSw; obtain ⟨x0, x1, x2, x3⟩ := HX.out w9 hSw; go_simp; first | done | with_reducible rfl)
   simp only [Act.put, List.getElem_toArray, List.getElem_cons_succ, List.getElem_cons_zero, List.setIfInBounds_toArray, List.set_cons_zero, List.set_cons_succ]
   have r0 := hRd3.c0
   have r1 := hRd3.c1
   have f0 := hRd3.fz 0
   have f1 := hRd3.fz 1
   have rr := hRd3.lt
   refine wpAnyH_ready (rs := [11]) (by kernel_rfl) (by simp) ?_
   refine AllReadyH.cons rfl (fun K hK => ?_) AllReadyH.nil
   go_simp
   have hSd4 : (SR w (w.heap.size + 1) 1 4) (putS wd3 w.heap.size 0 4) := hSd3.put 0 4
   have hRd4 : ShAt (putS wd3 w.heap.size 0 4) w.heap.size 0 4 := hRd3.put 0 4
   change K _ (putS wd3 w.heap.size 0 4)
   refine hK.out _ _ hSd4 (fun hHeld => ?_)
   clear hK K hHeld r0 r1 f0 f1 rr
   generalize putS wd3 w.heap.size 0 4 = wd4 at hSd4 hRd4 ⊢
   refine wpAnyH_take (i := 12) (v := ?_) rfl (by kernel_rfl) (by kernel_rfl) (by kernel_rfl) (fun _ _ _ h => h) (Or.inl ⟨by rfl, ?_⟩) hSd4 ?_
   rotate_left
   ·(intro w9 hSw; obtain ⟨x0, x1, x2, x3⟩ := HX.out w9 hSw; go_simp; first | done | with_reducible rfl)
   simp only [Act.put, List.getElem_toArray, List.getElem_cons_succ, List.getElem_cons_zero, List.setIfInBounds_toArray, List.set_cons_zero, List.set_cons_succ]
   refine wpAnyH_done (by kernel_rfl) ?_ _
   have s0 := hRd4.c0
   have s1 := hRd4.c1
   have HBW : Hid (Below w.heap.size w wd4) := hSd4.bel
   clear HX
   go_wp2
   refine bodyPost_ret (v := .tuple #[.agg #[.int .i64 0, .int .i64 4], .bool false]) ?_ rfl ?_
   ·simp [results, go_sem, s0, s1]
   ·exact GotS.no (0, 4) HV2.out HBW.out
  ·go_simp
   have hbd1 := alloc_below wd0 (.cells #[.int .i64 2] 3)
   have hId1 : IntsR (wd0.alloc (.cells #[.int .i64 2] 3)) (.slice (some ⟨wd0.heap.size, 0, none⟩) 1 1) [2] := ints_new wd0 [2]
   have hSd1 : (SR w (w.heap.size + 1) 1 4) (wd0.alloc (.cells #[.int .i64 2] 3)) := hSd.after hbd1
   have hRd1 : ShAt (wd0.alloc (.cells #[.int .i64 2] 3)) w.heap.size 0 0 := hRd0.below hbd1 hRd0.lt
   refine hK.out _ _ hSd1 (fun hHeld => ?_)
   clear hK K hHeld
   generalize hbq1 : wd0.heap.size = bq1 at hId1 ⊢
   generalize wd0.alloc (.cells #[.int .i64 2] 3) = wd1 at hId1 hSd1 hRd1 ⊢
   clear hbd1 hbq1
   refine wpAnyH_ready (rs := [0]) (by kernel_rfl) (by simp) ?_
   refine AllReadyH.cons rfl (fun K hK => ?_) AllReadyH.nil
   go_simp
   go_wp2_with (go_at_call 123; refine (HS4.out wd1).mono ?_; rintro e wd2 ⟨rfl, hbd2⟩)
   have hSd2 : (SR w (w.heap.size + 1) 1 4) wd2 := hSd1.after hbd2
   have hRd2 : ShAt wd2 w.heap.size 0 0 := hRd1.below hbd2 hRd1.lt
   refine hK.out _ _ hSd2 (fun hHeld => ?_)
   clear hK K hHeld
   have hId2 := hId1.below hbd2
   refine wpAnyH_ready (rs := [3]) (by kernel_rfl) (by simp) ?_
   refine AllReadyH.cons rfl (fun K hK => ?_) AllReadyH.nil
   go_simp
   go_wp2_with (go_at_call 124; refine (HA.out wd2 _ hSd2.bel hId2).mono ?_; rintro e wd3 ⟨rfl, hbd3⟩)
   have hSd3 : (SR w (w.heap.size + 1) 1 4) wd3 := hSd2.after hbd3
   have hRd3 : ShAt wd3 w.heap.size 0 0 := hRd2.below hbd3 hRd2.lt
   refine hK.out _ _ hSd3 (fun hHeld => ?_)
   clear hK K hHeld
   refine wpAnyH_take (i := 4) (v := ?_) rfl (by kernel_rfl) (by kernel_rfl) (by kernel_rfl) (fun _ _ _ h => h) (Or.inl ⟨by rfl, ?_⟩) hSd3 ?_
   rotate_left
   ·(intro w9 hSw; obtain ⟨x0, x1, x2, x3⟩ := HX.out w9 hSw; go_simp; first | done | with_reducible rfl)
   refine wpAnyH_take (i := 5) (v := undef) rfl (by kernel_rfl) (by kernel_rfl) (by kernel_rfl) (fun _ _ _ h => h) (Or.inr ⟨by kernel_rfl, rfl⟩) hSd3 ?_
   refine wpAnyH_take (i := 6) (v := undef) rfl (by kernel_rfl) (by kernel_rfl) (by kernel_rfl) (fun _ _ _ h => h) (Or.inr ⟨by kernel_rfl, rfl⟩) hSd3 ?_
   refine wpAnyH_take (i := 7) (v := undef) rfl (by kernel_rfl) (by kernel_rfl) (by kernel_rfl) (fun _ _ _ h => h) (Or.inr ⟨by kernel_rfl, rfl⟩) hSd3 ?_
   refine wpAnyH_take (i := 8) (v := undef) rfl (by kernel_rfl) (by kernel_rfl) (by kernel_rfl) (fun _ _ _ h => h) (Or.inr ⟨by kernel_rfl, rfl⟩) hSd3 ?_
   refine wpAnyH_take (i := 9) (v := undef) rfl (by kernel_rfl) (by kernel_rfl) (by kernel_rfl) (fun _ _ _ h => h) (Or.inr ⟨by kernel_rfl, rfl⟩) hSd3 ?_
   refine wpAnyH_take (i := 10) (v := ?_) rfl (by kernel_rfl) (by kernel_rfl) (by kernel_rfl) (fun _ _ _ h => h) (Or.inl ⟨by rfl, ?_⟩) hSd3 ?_
   rotate_left
   ·(intro w9 hSw; obtain ⟨x0, x1, x2, x3⟩ := HX.out w9 hSw; go_simp; first | done | with_reducible rfl)
   simp only [Act.put, List.getElem_toArray, List.getElem_cons_succ, List.getElem_cons_zero, List.setIfInBounds_toArray, List.set_cons_zero, List.set_cons_succ]
   have r0 := hRd3.c0
   have r1 := hRd3.c1
   have f0 := hRd3.fz 0
   have f1 := hRd3.fz 1
   have rr := hRd3.lt
   refine wpAnyH_ready (rs := [11]) (by kernel_rfl) (by simp) ?_
   refine AllReadyH.cons rfl (fun K hK => ?_) AllReadyH.nil
   go_simp
   have hSd4 : (SR w (w.heap.size + 1) 1 4) (putS wd3 w.heap.size 0 4) := hSd3.put 0 4
   have hRd4 : ShAt (putS wd3 w.heap.size 0 4) w.heap.size 0 4 := hRd3.put 0 4
   change K _ (putS wd3 w.heap.size 0 4)
   refine hK.out _ _ hSd4 (fun hHeld => ?_)
   clear hK K hHeld r0 r1 f0 f1 rr
   generalize putS wd3 w.heap.size 0 4 = wd4 at hSd4 hRd4 ⊢
   refine wpAnyH_take (i := 12) (v := ?_) rfl (by kernel_rfl) (by kernel_rfl) (by kernel_rfl) (fun _ _ _ h => h) (Or.inl ⟨by rfl, ?_⟩) hSd4 ?_
   rotate_left
   ·(intro w9 hSw; obtain ⟨x0, x1, x2, x3⟩ := HX.out w9 hSw; go_simp; first | done | with_reducible rfl)
   simp only [Act.put, List.getElem_toArray, List.getElem_cons_succ, List.getElem_cons_zero, List.setIfInBounds_toArray, List.set_cons_zero, List.set_cons_succ]
   refine wpAnyH_done (by kernel_rfl) ?_ _
   have s0 := hRd4.c0
   have s1 := hRd4.c1
   have HBW : Hid (Below w.heap.size w wd4) := hSd4.bel
   clear HX
   go_wp2
   refine bodyPost_ret (v := .tuple #[.agg #[.int .i64 0, .int .i64 4], .bool false]) ?_ rfl ?_
   ·simp [results, go_sem, s0, s1]
   ·exact GotS.no (0, 4) HV2.out HBW.out
 ·rw [hR] at HA
  have HV2 : Hid (O = if F = true then some (0, 4) else none) := by show _ = _; rw [HV1.out, hR]; simp
  clear HV1
  go_enter Tryz.func128, Tryz.ntmps128
  go_wp2_with fail
  generalize (w.alloc (.cells #[.int .i64 0, .int .i64 0] 89)).alloc (.cells #[.int .i64 1, .int .i64 4] 89) = w3 at *
  have hdr0 : Below w3.heap.size w3 w3.drew := below_drewG (Below.refl _ _) 1
  have hSd : (SR w (w.heap.size + 1) 1 4) w3.drew := HS0.out.after hdr0
  have hRd0 : ShAt w3.drew w.heap.size 0 0 := HR0.out.below hdr0 HR0.out.lt
  clear hdr0
  refine wp_region_held_drew (S := (SR w (w.heap.size + 1) 1 4)) (by kernel_rfl) hSd (fun hHeld => ?_)
  clear hHeld
  generalize w3.drew = wd0 at hSd hRd0 ⊢
  refine wpAnyH_take (i := 1) (v := ?_) rfl (by kernel_rfl) (by kernel_rfl) (by kernel_rfl) (fun _ _ _ h => h) (Or.inl ⟨by rfl, ?_⟩) hSd ?_
  rotate_left
  ·(intro w9 hSw; obtain ⟨x0, x1, x2, x3⟩ := HX.out w9 hSw; go_simp; first | done | with_reducible rfl)
  simp only [Act.put, List.getElem_toArray, List.getElem_cons_succ, List.getElem_cons_zero, List.setIfInBounds_toArray, List.set_cons_zero, List.set_cons_succ]
  refine wpAnyH_ready (rs := [0, 2]) (by kernel_rfl) (by simp) ?_
  refine AllReadyH.cons rfl (fun K hK => ?_) (AllReadyH.cons rfl (fun K hK => ?_) AllReadyH.nil)
  ·go_simp
   go_wp2_with (go_at_call 123; refine (HS4.out wd0).mono ?_; rintro e wd1 ⟨rfl, hbd1⟩)
   have hSd1 : (SR w (w.heap.size + 1) 1 4) wd1 := hSd.after hbd1
   have hRd1 : ShAt wd1 w.heap.size 0 0 := hRd0.below hbd1 hRd0.lt
   refine hK.out _ _ hSd1 (fun hHeld => ?_)
   clear hK K hHeld
   refine wpAnyH_ready (rs := [2]) (by kernel_rfl) (by simp) ?_
   refine AllReadyH.cons rfl (fun K hK => ?_) AllReadyH.nil
   go_simp
   have hbd2 := alloc_below wd1 (.cells #[.int .i64 2] 3)
   have hId2 : IntsR (wd1.alloc (.cells #[.int .i64 2] 3)) (.slice (some ⟨wd1.heap.size, 0, none⟩) 1 1) [2] := ints_new wd1 [2]
   have hSd2 : (SR w (w.heap.size + 1) 1 4) (wd1.alloc (.cells #[.int .i64 2] 3)) := hSd1.after hbd2
   have hRd2 : ShAt (wd1.alloc (.cells #[.int .i64 2] 3)) w.heap.size 0 0 := hRd1.below hbd2 hRd1.lt
   refine hK.out _ _ hSd2 (fun hHeld => ?_)
   clear hK K hHeld
   generalize hbq2 : wd1.heap.size = bq2 at hId2 ⊢
   generalize wd1.alloc (.cells #[.int .i64 2] 3) = wd2 at hId2 hSd2 hRd2 ⊢
   clear hbd2 hbq2
   refine wpAnyH_ready (rs := [3]) (by kernel_rfl) (by simp) ?_
   refine AllReadyH.cons rfl (fun K hK => ?_) AllReadyH.nil
   go_simp
   go_wp2_with (go_at_call 124; refine (HA.out wd2 _ hSd2.bel hId2).mono ?_; rintro e wd3 ⟨rfl, hbd3⟩)
   have hSd3 : (SR w (w.heap.size + 1) 1 4) wd3 := hSd2.after hbd3
   have hRd3 : ShAt wd3 w.heap.size 0 0 := hRd2.below hbd3 hRd2.lt
   refine hK.out _ _ hSd3 (fun hHeld => ?_)
   clear hK K hHeld
   refine wpAnyH_take (i := 4) (v := ?_) rfl (by kernel_rfl) (by kernel_rfl) (by kernel_rfl) (fun _ _ _ h => h) (Or.inl ⟨by rfl, ?_⟩) hSd3 ?_
   rotate_left
   ·(intro w9 hSw; obtain ⟨x0, x1, x2, x3⟩ := HX.out w9 hSw; go_simp; first | done | with_reducible rfl)
   refine wpAnyH_take (i := 5) (v := ?_) rfl (by kernel_rfl) (by kernel_rfl) (by kernel_rfl) (fun _ _ _ h => h) (Or.inl ⟨by rfl, ?_⟩) hSd3 ?_
   rotate_left
   ·(intro w9 hSw; obtain ⟨x0, x1, x2, x3⟩ := HX.out w9 hSw; go_simp; first | done | with_reducible rfl)
   refine wpAnyH_take (i := 6) (v := ?_) rfl (by kernel_rfl) (by kernel_rfl) (by kernel_rfl) (fun _ _ _ h => h) (Or.inl ⟨by rfl, ?_⟩) hSd3 ?_
   rotate_left
   ·(intro w9 hSw; obtain ⟨x0, x1, x2, x3⟩ := HX.out w9 hSw; go_simp; first | done | with_reducible rfl)
   refine wpAnyH_take (i := 7) (v := ?_) rfl (by kernel_rfl) (by kernel_rfl) (by kernel_rfl) (fun _ _ _ h => h) (Or.inl ⟨by rfl, ?_⟩) hSd3 ?_
   rotate_left
   ·(intro w9 hSw; obtain ⟨x0, x1, x2, x3⟩ := HX.out w9 hSw; go_simp; first | done | with_reducible rfl)
   refine wpAnyH_take (i := 8) (v := ?_) rfl (by kernel_rfl) (by kernel_rfl) (by kernel_rfl) (fun _ _ _ h => h) (Or.inl ⟨by rfl, ?_⟩) hSd3 ?_
   rotate_left
   ·(intro w9 hSw; obtain ⟨x0, x1, x2, x3⟩ := HX.out w9 hSw; go_simp; first | done | with_reducible rfl)
   simp only [Act.put, List.getElem_toArray, List.getElem_cons_succ, List.getElem_cons_zero, List.setIfInBounds_toArray, List.set_cons_zero, List.set_cons_succ]
   refine wpAnyH_ready (rs := [9]) (by kernel_rfl) (by simp) ?_
   refine AllReadyH.cons rfl (fun K hK => ?_) AllReadyH.nil
   go_simp
   go_wp2_with (go_at_call 165; refine (HF.out wd3).mono ?_; rintro e wd4 ⟨rfl, hbd4⟩)
   have hSd4 : (SR w (w.heap.size + 1) 1 4) wd4 := hSd3.after hbd4
   have hRd4 : ShAt wd4 w.heap.size 0 0 := hRd3.below hbd4 hRd3.lt
   refine hK.out _ _ hSd4 (fun hHeld => ?_)
   clear hK K hHeld
   refine wpAnyH_take (i := 10) (v := ?_) rfl (by kernel_rfl) (by kernel_rfl) (by kernel_rfl) (fun _ _ _ h => h) (Or.inl ⟨by rfl, ?_⟩) hSd4 ?_
   rotate_left
   ·(intro w9 hSw; obtain ⟨x0, x1, x2, x3⟩ := HX.out w9 hSw; go_simp; first | done | with_reducible rfl)
   simp only [Act.put, List.getElem_toArray, List.getElem_cons_succ, List.getElem_cons_zero, List.setIfInBounds_toArray, List.set_cons_zero, List.set_cons_succ]
   have r0 := hRd4.c0
   have r1 := hRd4.c1
   have f0 := hRd4.fz 0
   have f1 := hRd4.fz 1
   have rr := hRd4.lt
   refine wpAnyH_ready (rs := [11]) (by kernel_rfl) (by simp) ?_
   refine AllReadyH.cons rfl (fun K hK => ?_) AllReadyH.nil
   go_simp
   have hSd5 : (SR w (w.heap.size + 1) 1 4) (putS wd4 w.heap.size 0 4) := hSd4.put 0 4
   have hRd5 : ShAt (putS wd4 w.heap.size 0 4) w.heap.size 0 4 := hRd4.put 0 4
   change K _ (putS wd4 w.heap.size 0 4)
   refine hK.out _ _ hSd5 (fun hHeld => ?_)
   clear hK K hHeld r0 r1 f0 f1 rr
   generalize putS wd4 w.heap.size 0 4 = wd5 at hSd5 hRd5 ⊢
   refine wpAnyH_take (i := 12) (v := ?_) rfl (by kernel_rfl) (by kernel_rfl) (by kernel_rfl) (fun _ _ _ h => h) (Or.inl ⟨by rfl, ?_⟩) hSd5 ?_
   rotate_left
   ·(intro w9 hSw; obtain ⟨x0, x1, x2, x3⟩ := HX.out w9 hSw; go_simp; first | done | with_reducible rfl)
   simp only [Act.put, List.getElem_toArray, List.getElem_cons_succ, List.getElem_cons_zero, List.setIfInBounds_toArray, List.set_cons_zero, List.set_cons_succ]
   refine wpAnyH_done (by kernel_rfl) ?_ _
   have s0 := hRd5.c0
   have s1 := hRd5.c1
   have HBW : Hid (Below w.heap.size w wd5) := hSd5.bel
   clear HX
   go_wp2
   refine bodyPost_ret (v := .tuple #[.agg #[.int .i64 0, .int .i64 4], .bool F]) ?_ rfl ?_
   ·simp [results, go_sem, s0, s1]
   ·exact GotS.bool (s := (0, 4)) HV2.out HBW.out
  ·go_simp
   have hbd1 := alloc_below wd0 (.cells #[.int .i64 2] 3)
   have hId1 : IntsR (wd0.alloc (.cells #[.int .i64 2] 3)) (.slice (some ⟨wd0.heap.size, 0, none⟩) 1 1) [2] := ints_new wd0 [2]
   have hSd1 : (SR w (w.heap.size + 1) 1 4) (wd0.alloc (.cells #[.int .i64 2] 3)) := hSd.after hbd1
   have hRd1 : ShAt (wd0.alloc (.cells #[.int .i64 2] 3)) w.heap.size 0 0 := hRd0.below hbd1 hRd0.lt
   refine hK.out _ _ hSd1 (fun hHeld => ?_)
   clear hK K hHeld
   generalize hbq1 : wd0.heap.size = bq1 at hId1 ⊢
   generalize wd0.alloc (.cells #[.int .i64 2] 3) = wd1 at hId1 hSd1 hRd1 ⊢
   clear hbd1 hbq1
   refine wpAnyH_ready (rs := [0]) (by kernel_rfl) (by simp) ?_
   refine AllReadyH.cons rfl (fun K hK => ?_) AllReadyH.nil
   go_simp
   go_wp2_with (go_at_call 123; refine (HS4.out wd1).mono ?_; rintro e wd2 ⟨rfl, hbd2⟩)
   have hSd2 : (SR w (w.heap.size + 1) 1 4) wd2 := hSd1.after hbd2
   have hRd2 : ShAt wd2 w.heap.size 0 0 := hRd1.below hbd2 hRd1.lt
   refine hK.out _ _ hSd2 (fun hHeld => ?_)
   clear hK K hHeld
   have hId2 := hId1.below hbd2
   refine wpAnyH_ready (rs := [3]) (by kernel_rfl) (by simp) ?_
   refine AllReadyH.cons rfl (fun K hK => ?_) AllReadyH.nil
   go_simp
   go_wp2_with (go_at_call 124; refine (HA.out wd2 _ hSd2.bel hId2).mono ?_; rintro e wd3 ⟨rfl, hbd3⟩)
   have hSd3 : (SR w (w.heap.size + 1) 1 4) wd3 := hSd2.after hbd3
   have hRd3 : ShAt wd3 w.heap.size 0 0 := hRd2.below hbd3 hRd2.lt
   refine hK.out _ _ hSd3 (fun hHeld => ?_)
   clear hK K hHeld
   refine wpAnyH_take (i := 4) (v := ?_) rfl (by kernel_rfl) (by kernel_rfl) (by kernel_rfl) (fun _ _ _ h => h) (Or.inl ⟨by rfl, ?_⟩) hSd3 ?_
   rotate_left
   ·(intro w9 hSw; obtain ⟨x0, x1, x2, x3⟩ := HX.out w9 hSw; go_simp; first | done | with_reducible rfl)
   refine wpAnyH_take (i := 5) (v := ?_) rfl (by kernel_rfl) (by kernel_rfl) (by kernel_rfl) (fun _ _ _ h => h) (Or.inl ⟨by rfl, ?_⟩) hSd3 ?_
   rotate_left
   ·(intro w9 hSw; obtain ⟨x0, x1, x2, x3⟩ := HX.out w9 hSw; go_simp; first | done | with_reducible rfl)
   refine wpAnyH_take (i := 6) (v := ?_) rfl (by kernel_rfl) (by kernel_rfl) (by kernel_rfl) (fun _ _ _ h => h) (Or.inl ⟨by rfl, ?_⟩) hSd3 ?_
   rotate_left
   ·(intro w9 hSw; obtain ⟨x0, x1, x2, x3⟩ := HX.out w9 hSw; go_simp; first | done | with_reducible rfl)
   refine wpAnyH_take (i := 7) (v := ?_) rfl (by kernel_rfl) (by kernel_rfl) (by kernel_rfl) (fun _ _ _ h => h) (Or.inl ⟨by rfl, ?_⟩) hSd3 ?_
   rotate_left
   ·(intro w9 hSw; obtain ⟨x0, x1, x2, x3⟩ := HX.out w9 hSw; go_simp; first | done | with_reducible rfl)
   refine wpAnyH_take (i := 8) (v := ?_) rfl (by kernel_rfl) (by kernel_rfl) (by kernel_rfl) (fun _ _ _ h => h) (Or.inl ⟨by rfl, ?_⟩) hSd3 ?_
   rotate_left
   ·(intro w9 hSw; obtain ⟨x0, x1, x2, x3⟩ := HX.out w9 hSw; go_simp; first | done | with_reducible rfl)
   simp only [Act.put, List.getElem_toArray, List.getElem_cons_succ, List.getElem_cons_zero, List.setIfInBounds_toArray, List.set_cons_zero, List.set_cons_succ]
   refine wpAnyH_ready (rs := [9]) (by kernel_rfl) (by simp) ?_
   refine AllReadyH.cons rfl (fun K hK => ?_) AllReadyH.nil
   go_simp
   go_wp2_with (go_at_call 165; refine (HF.out wd3).mono ?_; rintro e wd4 ⟨rfl, hbd4⟩)
   have hSd4 : (SR w (w.heap.size + 1) 1 4) wd4 := hSd3.after hbd4
   have hRd4 : ShAt wd4 w.heap.size 0 0 := hRd3.below hbd4 hRd3.lt
   refine hK.out _ _ hSd4 (fun hHeld => ?_)
   clear hK K hHeld
   refine wpAnyH_take (i := 10) (v := ?_) rfl (by kernel_rfl) (by kernel_rfl) (by kernel_rfl) (fun _ _ _ h => h) (Or.inl ⟨by rfl, ?_⟩) hSd4 ?_
   rotate_left
   ·(intro w9 hSw; obtain ⟨x0, x1, x2, x3⟩ := HX.out w9 hSw; go_simp; first | done | with_reducible rfl)
   simp only [Act.put, List.getElem_toArray, List.getElem_cons_succ, List.getElem_cons_zero, List.setIfInBounds_toArray, List.set_cons_zero, List.set_cons_succ]
   have r0 := hRd4.c0
   have r1 := hRd4.c1
   have f0 := hRd4.fz 0
   have f1 := hRd4.fz 1
   have rr := hRd4.lt
   refine wpAnyH_ready (rs := [11]) (by kernel_rfl) (by simp) ?_
   refine AllReadyH.cons rfl (fun K hK => ?_) AllReadyH.nil
   go_simp
   have hSd5 : (SR w (w.heap.size + 1) 1 4) (putS wd4 w.heap.size 0 4) := hSd4.put 0 4
   have hRd5 : ShAt (putS wd4 w.heap.size 0 4) w.heap.size 0 4 := hRd4.put 0 4
   change K _ (putS wd4 w.heap.size 0 4)
   refine hK.out _ _ hSd5 (fun hHeld => ?_)
   clear hK K hHeld r0 r1 f0 f1 rr
   generalize putS wd4 w.heap.size 0 4 = wd5 at hSd5 hRd5 ⊢
   refine wpAnyH_take (i := 12) (v := ?_) rfl (by kernel_rfl) (by kernel_rfl) (by kernel_rfl) (fun _ _ _ h => h) (Or.inl ⟨by rfl, ?_⟩) hSd5 ?_
   rotate_left
   ·(intro w9 hSw; obtain ⟨x0, x1, x2, x3⟩ := HX.out w9 hSw; go_simp; first | done | with_reducible rfl)
   simp only [Act.put, List.getElem_toArray, List.getElem_cons_succ, List.getElem_cons_zero, List.setIfInBounds_toArray, List.set_cons_zero, List.set_cons_succ]
   refine wpAnyH_done (by kernel_rfl) ?_ _
   have s0 := hRd5.c0
   have s1 := hRd5.c1
   have HBW : Hid (Below w.heap.size w wd5) := hSd5.bel
   clear HX
   go_wp2
   refine bodyPost_ret (v := .tuple #[.agg #[.int .i64 0, .int .i64 4], .bool F]) ?_ rfl ?_
   ·simp [results, go_sem, s0, s1]
   ·exact GotS.bool (s := (0, 4)) HV2.out HBW.out

end Go.Proofs.YtgmmfpdekefamaaGreatDoor
