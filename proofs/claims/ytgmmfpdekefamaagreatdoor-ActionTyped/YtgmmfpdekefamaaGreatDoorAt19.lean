/- Texts of the proof, put together: QSop. -/
import Derived.Test.YtgmmfpdekefamaaGreatDoorAt18
import Derived.BigRegion
namespace Go.Proofs.YtgmmfpdekefamaaGreatDoor
open Go.RowKit
set_option linter.unusedVariables false
set_option linter.unusedSimpArgs false
set_option maxRecDepth 100000

/-- what stays as it is while an answer is made: all that was there, and one shape -/
structure SR (w : World) (X : Nat) (l b : Int) (w' : World) : Prop where
 bel : Below w.heap.size w w'
 sh : ShAt w' X l b
 lo : w.heap.size < X
theorem SR.after {w W W' : World} {X : Nat} {l b : Int} (h : SR w X l b W) (hb : Below W.heap.size W W') : SR w X l b W' := ⟨h.bel.trans (hb.mono h.bel.size), h.sh.below hb h.sh.lt, h.lo⟩
theorem SR.put {w W : World} {X : Nat} {l b : Int} (h : SR w X l b W) (l' b' : Int) : SR w X l b (putS W w.heap.size l' b') := ⟨below_putS h.bel (Nat.le_refl _) l' b', h.sh.other (by have := h.lo; omega) l' b', h.lo⟩
theorem ints_new (w : World) (ks : List Int) : IntsR (w.alloc (.cells (ks.map (Value.int .i64)).toArray 3)) (.slice (some ⟨w.heap.size, 0, none⟩) ks.length ks.length) ks := by
 refine ⟨_, _, rfl, Nat.le_refl _, .inr ⟨w.heap.size, 0, rfl, by rw [alloc_size]; omega, fun j hj => ?_⟩⟩
 rw [World.cell?_alloc_at _ _ _ _ rfl]
 simp [List.getD, hj]
/-- the first two shapes of a row -/
theorem ShsR.two {w : World} {a : Option Addr} {n c : Nat} {l : List Sh} (h : ShsR w (.slice a n c) l) (h1 : 1 < l.length) : ∃ g off, a = some ⟨g, off, none⟩ ∧ g < w.heap.size ∧ w.cell? ⟨g, off, none⟩ = some (.int .i64 (l.getD 0 noS).1) ∧ w.cell? ⟨g, off + 1, none⟩ = some (.int .i64 (l.getD 0 noS).2) ∧ w.cell? ⟨g, off + 2, none⟩ = some (.int .i64 (l.getD 1 noS).1) ∧ w.cell? ⟨g, off + 3, none⟩ = some (.int .i64 (l.getD 1 noS).2) := by
 obtain ⟨g, off, rfl, hg, c0, c1⟩ := h.at (k := 0) (by omega)
 obtain ⟨g', off', e, _, d0, d1⟩ := h.at h1
 simp only [Option.some.injEq, Addr.mk.injEq, and_true] at e
 obtain ⟨rfl, rfl⟩ := e
 exact ⟨g, off, rfl, hg, by simpa using c0, by simpa using c1, d0, d1⟩


set_option maxHeartbeats 8000000 in
/-- sums and the like -/
theorem aop_num {w : World} {lv : Value} {l : List Sh} {op : ByteArray} {O : Option Sh} (h : ShsR w lv l) (hl : l.length = 2) (ho1 : (op.toList == [61, 61]) = false) (ho2 : (op.toList == [60]) = false) (ho3 : (op.toList == [43, 43]) = false) (HV : Hid (O = if arP l [1, 1] 0 = true then some (0, 1) else none)) : Calls Tryz.prog 126 #[.string op, lv] w (GotS w O) := by
 have HA : Hid (∀ W kv, Below w.heap.size w W → IntsR W kv [1, 1] → Calls Tryz.prog 124 #[lv, kv] W fun e w' => e = .returned (.bool (arP l [1, 1] 0)) ∧ Below W.heap.size W w') := fun W kv hW hk => aare_any (h.below hW) hk (by simp; omega) (by simp)
 have HS : Hid (∀ W, Calls Tryz.prog 123 #[.int .i64 1] W fun e w' => e = .returned (.agg #[.int .i64 0, .int .i64 1]) ∧ Below W.heap.size W w') := fun W => asimple_any 1 W
 have HJ : Hid (Below w.heap.size w (w.alloc (.cells #[.int .i64 0, .int .i64 0] 89)) ∧ ShAt (w.alloc (.cells #[.int .i64 0, .int .i64 0] 89)) w.heap.size 0 0) := ⟨alloc_below w _, ShAt.new w 0 0⟩
 generalize arP l [1, 1] 0 = R at *
 clear h
 go_enter Tryz.func126, Tryz.ntmps126
 go_wp2_with fail
 generalize w.alloc (.cells #[.int .i64 0, .int .i64 0] 89) = w1 at *
 go_at_call 123
 refine (HS.out _).mono ?_
 rintro e w2 ⟨rfl, hb2⟩
 have hb3 := alloc_below w2 (.cells #[.int .i64 0, .int .i64 1] 89)
 have hlo : w.heap.size < w2.heap.size := Nat.lt_of_lt_of_le HJ.out.2.lt hb2.size
 have HS0 : Hid (SR w w2.heap.size 0 1 (w2.alloc (.cells #[.int .i64 0, .int .i64 1] 89))) := ⟨(HJ.out.1.trans (hb2.mono HJ.out.1.size)).trans (hb3.mono (by omega)), ShAt.new w2 0 1, hlo⟩
 have HR0 : Hid (ShAt (w2.alloc (.cells #[.int .i64 0, .int .i64 1] 89)) w.heap.size 0 0) := (HJ.out.2.below hb2 HJ.out.2.lt).below hb3 hlo
 clear hb2 hb3 hlo HS HJ
 go_wp2_with fail
 generalize w2.heap.size = X at *
 generalize w2.alloc (.cells #[.int .i64 0, .int .i64 1] 89) = w3 at *
 have HX : Hid (∀ w', SR w X 0 1 w' → w'.cell? ⟨X, 0, none⟩ = some (.int .i64 0) ∧ w'.cell? ⟨X, 1, none⟩ = some (.int .i64 1)) := fun w' h => ⟨h.sh.c0, h.sh.c1⟩

 have hdr0 : Below w3.heap.size w3 w3.drew := below_drewG (Below.refl _ _) 1
 have hSd : (SR w X 0 1) w3.drew := HS0.out.after hdr0
 have hRd0 : ShAt w3.drew w.heap.size 0 0 := HR0.out.below hdr0 HR0.out.lt
 clear hdr0
 refine wp_region_held_drew (S := (SR w X 0 1)) (by kernel_rfl) hSd (fun hHeld => ?_)
 clear hHeld
 generalize w3.drew = wd0 at hSd hRd0 ⊢
 refine wpAnyH_take (i := 0) (v := ?_) rfl (by kernel_rfl) (by kernel_rfl) (by kernel_rfl) (fun _ _ _ h => h) (Or.inl ⟨by rfl, ?_⟩) hSd ?_
 rotate_left
 ·(intro w9 hSw; obtain ⟨x0, x1⟩ := HX.out w9 hSw; go_simp; first | done | with_reducible rfl)
 refine wpAnyH_take (i := 1) (v := ?_) rfl (by kernel_rfl) (by kernel_rfl) (by kernel_rfl) (fun _ _ _ h => h) (Or.inl ⟨by rfl, ?_⟩) hSd ?_
 rotate_left
 ·(intro w9 hSw; obtain ⟨x0, x1⟩ := HX.out w9 hSw; go_simp; first | done | with_reducible rfl)
 simp only [Act.put, List.getElem_toArray, List.getElem_cons_succ, List.getElem_cons_zero, List.setIfInBounds_toArray, List.set_cons_zero, List.set_cons_succ]
 refine wpAnyH_ready (rs := [2]) (by kernel_rfl) (by simp) ?_
 refine AllReadyH.cons rfl (fun K hK => ?_) AllReadyH.nil
 go_simp
 have hbd1 := alloc_below wd0 (.cells #[.int .i64 1, .int .i64 1] 3)
 have hId1 : IntsR (wd0.alloc (.cells #[.int .i64 1, .int .i64 1] 3)) (.slice (some ⟨wd0.heap.size, 0, none⟩) 2 2) [1, 1] := ints_new wd0 [1, 1]
 have hSd1 : (SR w X 0 1) (wd0.alloc (.cells #[.int .i64 1, .int .i64 1] 3)) := hSd.after hbd1
 have hRd1 : ShAt (wd0.alloc (.cells #[.int .i64 1, .int .i64 1] 3)) w.heap.size 0 0 := hRd0.below hbd1 hRd0.lt
 refine hK.out _ _ hSd1 (fun hHeld => ?_)
 clear hK K hHeld
 generalize hbq1 : wd0.heap.size = bq1 at hId1 ⊢
 generalize wd0.alloc (.cells #[.int .i64 1, .int .i64 1] 3) = wd1 at hId1 hSd1 hRd1 ⊢
 clear hbd1 hbq1
 refine wpAnyH_ready (rs := [3]) (by kernel_rfl) (by simp) ?_
 refine AllReadyH.cons rfl (fun K hK => ?_) AllReadyH.nil
 go_simp
 go_wp2_with (go_at_call 124; refine (HA.out wd1 _ hSd1.bel hId1).mono ?_; rintro e wd2 ⟨rfl, hbd2⟩)
 have hSd2 : (SR w X 0 1) wd2 := hSd1.after hbd2
 have hRd2 : ShAt wd2 w.heap.size 0 0 := hRd1.below hbd2 hRd1.lt
 refine hK.out _ _ hSd2 (fun hHeld => ?_)
 clear hK K hHeld
 have r0 := hRd2.c0
 have r1 := hRd2.c1
 have f0 := hRd2.fz 0
 have f1 := hRd2.fz 1
 have rr := hRd2.lt
 refine wpAnyH_ready (rs := [4]) (by kernel_rfl) (by simp) ?_
 refine AllReadyH.cons rfl (fun K hK => ?_) AllReadyH.nil
 go_simp
 have hSd3 : (SR w X 0 1) (putS wd2 w.heap.size 0 1) := hSd2.put 0 1
 have hRd3 : ShAt (putS wd2 w.heap.size 0 1) w.heap.size 0 1 := hRd2.put 0 1
 change K _ (putS wd2 w.heap.size 0 1)
 refine hK.out _ _ hSd3 (fun hHeld => ?_)
 clear hK K hHeld r0 r1 f0 f1 rr
 generalize putS wd2 w.heap.size 0 1 = wd3 at hSd3 hRd3 ⊢
 refine wpAnyH_take (i := 5) (v := ?_) rfl (by kernel_rfl) (by kernel_rfl) (by kernel_rfl) (fun _ _ _ h => h) (Or.inl ⟨by rfl, ?_⟩) hSd3 ?_
 rotate_left
 ·(intro w9 hSw; obtain ⟨x0, x1⟩ := HX.out w9 hSw; go_simp; first | done | with_reducible rfl)
 simp only [Act.put, List.getElem_toArray, List.getElem_cons_succ, List.getElem_cons_zero, List.setIfInBounds_toArray, List.set_cons_zero, List.set_cons_succ]
 refine wpAnyH_done (by kernel_rfl) ?_ _
 have s0 := hRd3.c0
 have s1 := hRd3.c1
 have HBW : Hid (Below w.heap.size w wd3) := hSd3.bel
 clear HX
 go_wp2
 refine bodyPost_ret (v := .tuple #[.agg #[.int .i64 0, .int .i64 1], .bool R]) ?_ rfl ?_
 ·simp [results, go_sem, s0, s1]
 ·exact GotS.bool (s := (0, 1)) HV.out HBW.out

set_option maxHeartbeats 8000000 in
/-- less -/
theorem aop_less {w : World} {lv : Value} {l : List Sh} {op : ByteArray} {O : Option Sh} (h : ShsR w lv l) (hl : l.length = 2) (ho1 : (op.toList == [61, 61]) = false) (ho2 : (op.toList == [60]) = true) (HV : Hid (O = if (arP l [1, 1] 0 || arP l [2, 2] 0) = true then some (0, 1) else none)) : Calls Tryz.prog 126 #[.string op, lv] w (GotS w O) := by
 have HA : Hid (∀ W kv, Below w.heap.size w W → IntsR W kv [1, 1] → Calls Tryz.prog 124 #[lv, kv] W fun e w' => e = .returned (.bool (arP l [1, 1] 0)) ∧ Below W.heap.size W w') := fun W kv hW hk => aare_any (h.below hW) hk (by simp; omega) (by simp)
 have HA2 : Hid (∀ W kv, Below w.heap.size w W → IntsR W kv [2, 2] → Calls Tryz.prog 124 #[lv, kv] W fun e w' => e = .returned (.bool (arP l [2, 2] 0)) ∧ Below W.heap.size W w') := fun W kv hW hk => aare_any (h.below hW) hk (by simp; omega) (by simp)
 have HS : Hid (∀ W, Calls Tryz.prog 123 #[.int .i64 1] W fun e w' => e = .returned (.agg #[.int .i64 0, .int .i64 1]) ∧ Below W.heap.size W w') := fun W => asimple_any 1 W
 have HJ : Hid (Below w.heap.size w (w.alloc (.cells #[.int .i64 0, .int .i64 0] 89)) ∧ ShAt (w.alloc (.cells #[.int .i64 0, .int .i64 0] 89)) w.heap.size 0 0) := ⟨alloc_below w _, ShAt.new w 0 0⟩
 generalize arP l [1, 1] 0 = R at *
 generalize arP l [2, 2] 0 = R2 at *
 clear h
 go_enter Tryz.func126, Tryz.ntmps126
 go_wp2_with fail
 generalize w.alloc (.cells #[.int .i64 0, .int .i64 0] 89) = w1 at *
 go_at_call 123
 refine (HS.out _).mono ?_
 rintro e w2 ⟨rfl, hb2⟩
 have hb3 := alloc_below w2 (.cells #[.int .i64 0, .int .i64 1] 89)
 have hlo : w.heap.size < w2.heap.size := Nat.lt_of_lt_of_le HJ.out.2.lt hb2.size
 have HS0 : Hid (SR w w2.heap.size 0 1 (w2.alloc (.cells #[.int .i64 0, .int .i64 1] 89))) := ⟨(HJ.out.1.trans (hb2.mono HJ.out.1.size)).trans (hb3.mono (by omega)), ShAt.new w2 0 1, hlo⟩
 have HR0 : Hid (ShAt (w2.alloc (.cells #[.int .i64 0, .int .i64 1] 89)) w.heap.size 0 0) := (HJ.out.2.below hb2 HJ.out.2.lt).below hb3 hlo
 clear hb2 hb3 hlo HS HJ
 cases hR : R
 ·rw [hR] at HA
  have HV2 : Hid (O = if R2 = true then some (0, 1) else none) := by show _ = _; rw [HV.out, hR]; simp
  clear HV
  go_wp2_with fail
  generalize w2.heap.size = X at *
  generalize w2.alloc (.cells #[.int .i64 0, .int .i64 1] 89) = w3 at *
  have HX : Hid (∀ w', SR w X 0 1 w' → w'.cell? ⟨X, 0, none⟩ = some (.int .i64 0) ∧ w'.cell? ⟨X, 1, none⟩ = some (.int .i64 1)) := fun w' h => ⟨h.sh.c0, h.sh.c1⟩
  have hdr0 : Below w3.heap.size w3 w3.drew := below_drewG (Below.refl _ _) 1
  have hSd : (SR w X 0 1) w3.drew := HS0.out.after hdr0
  have hRd0 : ShAt w3.drew w.heap.size 0 0 := HR0.out.below hdr0 HR0.out.lt
  clear hdr0
  refine wp_region_held_drew (S := (SR w X 0 1)) (by kernel_rfl) hSd (fun hHeld => ?_)
  clear hHeld
  generalize w3.drew = wd0 at hSd hRd0 ⊢
  refine wpAnyH_take (i := 0) (v := ?_) rfl (by kernel_rfl) (by kernel_rfl) (by kernel_rfl) (fun _ _ _ h => h) (Or.inl ⟨by rfl, ?_⟩) hSd ?_
  rotate_left
  ·(intro w9 hSw; obtain ⟨x0, x1⟩ := HX.out w9 hSw; go_simp; first | done | with_reducible rfl)
  refine wpAnyH_take (i := 1) (v := ?_) rfl (by kernel_rfl) (by kernel_rfl) (by kernel_rfl) (fun _ _ _ h => h) (Or.inl ⟨by rfl, ?_⟩) hSd ?_
  rotate_left
  ·(intro w9 hSw; obtain ⟨x0, x1⟩ := HX.out w9 hSw; go_simp; first | done | with_reducible rfl)
  simp only [Act.put, List.getElem_toArray, List.getElem_cons_succ, List.getElem_cons_zero, List.setIfInBounds_toArray, List.set_cons_zero, List.set_cons_succ]
  refine wpAnyH_ready (rs := [2]) (by kernel_rfl) (by simp) ?_
  refine AllReadyH.cons rfl (fun K hK => ?_) AllReadyH.nil
  go_simp
  have hbd1 := alloc_below wd0 (.cells #[.int .i64 1, .int .i64 1] 3)
  have hId1 : IntsR (wd0.alloc (.cells #[.int .i64 1, .int .i64 1] 3)) (.slice (some ⟨wd0.heap.size, 0, none⟩) 2 2) [1, 1] := ints_new wd0 [1, 1]
  have hSd1 : (SR w X 0 1) (wd0.alloc (.cells #[.int .i64 1, .int .i64 1] 3)) := hSd.after hbd1
  have hRd1 : ShAt (wd0.alloc (.cells #[.int .i64 1, .int .i64 1] 3)) w.heap.size 0 0 := hRd0.below hbd1 hRd0.lt
  refine hK.out _ _ hSd1 (fun hHeld => ?_)
  clear hK K hHeld
  generalize hbq1 : wd0.heap.size = bq1 at hId1 ⊢
  generalize wd0.alloc (.cells #[.int .i64 1, .int .i64 1] 3) = wd1 at hId1 hSd1 hRd1 ⊢
  clear hbd1 hbq1
  refine wpAnyH_ready (rs := [3]) (by kernel_rfl) (by simp) ?_
  refine AllReadyH.cons rfl (fun K hK => ?_) AllReadyH.nil
  go_simp
  go_wp2_with (go_at_call 124; refine (HA.out wd1 _ hSd1.bel hId1).mono ?_; rintro e wd2 ⟨rfl, hbd2⟩)
  have hSd2 : (SR w X 0 1) wd2 := hSd1.after hbd2
  have hRd2 : ShAt wd2 w.heap.size 0 0 := hRd1.below hbd2 hRd1.lt
  refine hK.out _ _ hSd2 (fun hHeld => ?_)
  clear hK K hHeld
  refine wpAnyH_take (i := 4) (v := ?_) rfl (by kernel_rfl) (by kernel_rfl) (by kernel_rfl) (fun _ _ _ h => h) (Or.inl ⟨by rfl, ?_⟩) hSd2 ?_
  rotate_left
  ·(intro w9 hSw; obtain ⟨x0, x1⟩ := HX.out w9 hSw; go_simp; first | done | with_reducible rfl)
  refine wpAnyH_take (i := 5) (v := ?_) rfl (by kernel_rfl) (by kernel_rfl) (by kernel_rfl) (fun _ _ _ h => h) (Or.inl ⟨by rfl, ?_⟩) hSd2 ?_
  rotate_left
  ·(intro w9 hSw; obtain ⟨x0, x1⟩ := HX.out w9 hSw; go_simp; first | done | with_reducible rfl)
  simp only [Act.put, List.getElem_toArray, List.getElem_cons_succ, List.getElem_cons_zero, List.setIfInBounds_toArray, List.set_cons_zero, List.set_cons_succ]
  refine wpAnyH_ready (rs := [6]) (by kernel_rfl) (by simp) ?_
  refine AllReadyH.cons rfl (fun K hK => ?_) AllReadyH.nil
  go_simp
  have hbd3 := alloc_below wd2 (.cells #[.int .i64 2, .int .i64 2] 3)
  have hId3 : IntsR (wd2.alloc (.cells #[.int .i64 2, .int .i64 2] 3)) (.slice (some ⟨wd2.heap.size, 0, none⟩) 2 2) [2, 2] := ints_new wd2 [2, 2]
  have hSd3 : (SR w X 0 1) (wd2.alloc (.cells #[.int .i64 2, .int .i64 2] 3)) := hSd2.after hbd3
  have hRd3 : ShAt (wd2.alloc (.cells #[.int .i64 2, .int .i64 2] 3)) w.heap.size 0 0 := hRd2.below hbd3 hRd2.lt
  refine hK.out _ _ hSd3 (fun hHeld => ?_)
  clear hK K hHeld
  generalize hbq3 : wd2.heap.size = bq3 at hId3 ⊢
  generalize wd2.alloc (.cells #[.int .i64 2, .int .i64 2] 3) = wd3 at hId3 hSd3 hRd3 ⊢
  clear hbd3 hbq3
  refine wpAnyH_ready (rs := [7]) (by kernel_rfl) (by simp) ?_
  refine AllReadyH.cons rfl (fun K hK => ?_) AllReadyH.nil
  go_simp
  go_wp2_with (go_at_call 124; refine (HA2.out wd3 _ hSd3.bel hId3).mono ?_; rintro e wd4 ⟨rfl, hbd4⟩)
  have hSd4 : (SR w X 0 1) wd4 := hSd3.after hbd4
  have hRd4 : ShAt wd4 w.heap.size 0 0 := hRd3.below hbd4 hRd3.lt
  refine hK.out _ _ hSd4 (fun hHeld => ?_)
  clear hK K hHeld
  refine wpAnyH_take (i := 8) (v := ?_) rfl (by kernel_rfl) (by kernel_rfl) (by kernel_rfl) (fun _ _ _ h => h) (Or.inl ⟨by rfl, ?_⟩) hSd4 ?_
  rotate_left
  ·(intro w9 hSw; obtain ⟨x0, x1⟩ := HX.out w9 hSw; go_simp; first | done | with_reducible rfl)
  simp only [Act.put, List.getElem_toArray, List.getElem_cons_succ, List.getElem_cons_zero, List.setIfInBounds_toArray, List.set_cons_zero, List.set_cons_succ]
  have r0 := hRd4.c0
  have r1 := hRd4.c1
  have f0 := hRd4.fz 0
  have f1 := hRd4.fz 1
  have rr := hRd4.lt
  refine wpAnyH_ready (rs := [9]) (by kernel_rfl) (by simp) ?_
  refine AllReadyH.cons rfl (fun K hK => ?_) AllReadyH.nil
  go_simp
  have hSd5 : (SR w X 0 1) (putS wd4 w.heap.size 0 1) := hSd4.put 0 1
  have hRd5 : ShAt (putS wd4 w.heap.size 0 1) w.heap.size 0 1 := hRd4.put 0 1
  change K _ (putS wd4 w.heap.size 0 1)
  refine hK.out _ _ hSd5 (fun hHeld => ?_)
  clear hK K hHeld r0 r1 f0 f1 rr
  generalize putS wd4 w.heap.size 0 1 = wd5 at hSd5 hRd5 ⊢
  refine wpAnyH_take (i := 10) (v := ?_) rfl (by kernel_rfl) (by kernel_rfl) (by kernel_rfl) (fun _ _ _ h => h) (Or.inl ⟨by rfl, ?_⟩) hSd5 ?_
  rotate_left
  ·(intro w9 hSw; obtain ⟨x0, x1⟩ := HX.out w9 hSw; go_simp; first | done | with_reducible rfl)
  simp only [Act.put, List.getElem_toArray, List.getElem_cons_succ, List.getElem_cons_zero, List.setIfInBounds_toArray, List.set_cons_zero, List.set_cons_succ]
  refine wpAnyH_done (by kernel_rfl) ?_ _
  have s0 := hRd5.c0
  have s1 := hRd5.c1
  have HBW : Hid (Below w.heap.size w wd5) := hSd5.bel
  clear HX
  go_wp2
  refine bodyPost_ret (v := .tuple #[.agg #[.int .i64 0, .int .i64 1], .bool R2]) ?_ rfl ?_
  ·simp [results, go_sem, s0, s1]
  ·exact GotS.bool (s := (0, 1)) HV2.out HBW.out
 ·rw [hR] at HA
  have HV2 : Hid (O = some (0, 1)) := by show _ = _; rw [HV.out, hR]; simp
  clear HV
  go_wp2_with fail
  generalize w2.heap.size = X at *
  generalize w2.alloc (.cells #[.int .i64 0, .int .i64 1] 89) = w3 at *
  have HX : Hid (∀ w', SR w X 0 1 w' → w'.cell? ⟨X, 0, none⟩ = some (.int .i64 0) ∧ w'.cell? ⟨X, 1, none⟩ = some (.int .i64 1)) := fun w' h => ⟨h.sh.c0, h.sh.c1⟩
  have hdr0 : Below w3.heap.size w3 w3.drew := below_drewG (Below.refl _ _) 1
  have hSd : (SR w X 0 1) w3.drew := HS0.out.after hdr0
  have hRd0 : ShAt w3.drew w.heap.size 0 0 := HR0.out.below hdr0 HR0.out.lt
  clear hdr0
  refine wp_region_held_drew (S := (SR w X 0 1)) (by kernel_rfl) hSd (fun hHeld => ?_)
  clear hHeld
  generalize w3.drew = wd0 at hSd hRd0 ⊢
  refine wpAnyH_take (i := 0) (v := ?_) rfl (by kernel_rfl) (by kernel_rfl) (by kernel_rfl) (fun _ _ _ h => h) (Or.inl ⟨by rfl, ?_⟩) hSd ?_
  rotate_left
  ·(intro w9 hSw; obtain ⟨x0, x1⟩ := HX.out w9 hSw; go_simp; first | done | with_reducible rfl)
  refine wpAnyH_take (i := 1) (v := ?_) rfl (by kernel_rfl) (by kernel_rfl) (by kernel_rfl) (fun _ _ _ h => h) (Or.inl ⟨by rfl, ?_⟩) hSd ?_
  rotate_left
  ·(intro w9 hSw; obtain ⟨x0, x1⟩ := HX.out w9 hSw; go_simp; first | done | with_reducible rfl)
  simp only [Act.put, List.getElem_toArray, List.getElem_cons_succ, List.getElem_cons_zero, List.setIfInBounds_toArray, List.set_cons_zero, List.set_cons_succ]
  refine wpAnyH_ready (rs := [2]) (by kernel_rfl) (by simp) ?_
  refine AllReadyH.cons rfl (fun K hK => ?_) AllReadyH.nil
  go_simp
  have hbd1 := alloc_below wd0 (.cells #[.int .i64 1, .int .i64 1] 3)
  have hId1 : IntsR (wd0.alloc (.cells #[.int .i64 1, .int .i64 1] 3)) (.slice (some ⟨wd0.heap.size, 0, none⟩) 2 2) [1, 1] := ints_new wd0 [1, 1]
  have hSd1 : (SR w X 0 1) (wd0.alloc (.cells #[.int .i64 1, .int .i64 1] 3)) := hSd.after hbd1
  have hRd1 : ShAt (wd0.alloc (.cells #[.int .i64 1, .int .i64 1] 3)) w.heap.size 0 0 := hRd0.below hbd1 hRd0.lt
  refine hK.out _ _ hSd1 (fun hHeld => ?_)
  clear hK K hHeld
  generalize hbq1 : wd0.heap.size = bq1 at hId1 ⊢
  generalize wd0.alloc (.cells #[.int .i64 1, .int .i64 1] 3) = wd1 at hId1 hSd1 hRd1 ⊢
  clear hbd1 hbq1
  refine wpAnyH_ready (rs := [3]) (by kernel_rfl) (by simp) ?_
  refine AllReadyH.cons rfl (fun K hK => ?_) AllReadyH.nil
  go_simp
  go_wp2_with (go_at_call 124; refine (HA.out wd1 _ hSd1.bel hId1).mono ?_; rintro e wd2 ⟨rfl, hbd2⟩)
  have hSd2 : (SR w X 0 1) wd2 := hSd1.after hbd2
  have hRd2 : ShAt wd2 w.heap.size 0 0 := hRd1.below hbd2 hRd1.lt
  refine hK.out _ _ hSd2 (fun hHeld => ?_)
  clear hK K hHeld
  refine wpAnyH_take (i := 4) (v := ?_) rfl (by kernel_rfl) (by kernel_rfl) (by kernel_rfl) (fun _ _ _ h => h) (Or.inl ⟨by rfl, ?_⟩) hSd2 ?_
  rotate_left
  ·(intro w9 hSw; obtain ⟨x0, x1⟩ := HX.out w9 hSw; go_simp; first | done | with_reducible rfl)
  refine wpAnyH_take (i := 5) (v := undef) rfl (by kernel_rfl) (by kernel_rfl) (by kernel_rfl) (fun _ _ _ h => h) (Or.inr ⟨by kernel_rfl, rfl⟩) hSd2 ?_
  refine wpAnyH_take (i := 6) (v := undef) rfl (by kernel_rfl) (by kernel_rfl) (by kernel_rfl) (fun _ _ _ h => h) (Or.inr ⟨by kernel_rfl, rfl⟩) hSd2 ?_
  refine wpAnyH_take (i := 7) (v := undef) rfl (by kernel_rfl) (by kernel_rfl) (by kernel_rfl) (fun _ _ _ h => h) (Or.inr ⟨by kernel_rfl, rfl⟩) hSd2 ?_
  refine wpAnyH_take (i := 8) (v := ?_) rfl (by kernel_rfl) (by kernel_rfl) (by kernel_rfl) (fun _ _ _ h => h) (Or.inl ⟨by rfl, ?_⟩) hSd2 ?_
  rotate_left
  ·(intro w9 hSw; obtain ⟨x0, x1⟩ := HX.out w9 hSw; go_simp; first | done | with_reducible rfl)
  simp only [Act.put, List.getElem_toArray, List.getElem_cons_succ, List.getElem_cons_zero, List.setIfInBounds_toArray, List.set_cons_zero, List.set_cons_succ]
  have r0 := hRd2.c0
  have r1 := hRd2.c1
  have f0 := hRd2.fz 0
  have f1 := hRd2.fz 1
  have rr := hRd2.lt
  refine wpAnyH_ready (rs := [9]) (by kernel_rfl) (by simp) ?_
  refine AllReadyH.cons rfl (fun K hK => ?_) AllReadyH.nil
  go_simp
  have hSd3 : (SR w X 0 1) (putS wd2 w.heap.size 0 1) := hSd2.put 0 1
  have hRd3 : ShAt (putS wd2 w.heap.size 0 1) w.heap.size 0 1 := hRd2.put 0 1
  change K _ (putS wd2 w.heap.size 0 1)
  refine hK.out _ _ hSd3 (fun hHeld => ?_)
  clear hK K hHeld r0 r1 f0 f1 rr
  generalize putS wd2 w.heap.size 0 1 = wd3 at hSd3 hRd3 ⊢
  refine wpAnyH_take (i := 10) (v := ?_) rfl (by kernel_rfl) (by kernel_rfl) (by kernel_rfl) (fun _ _ _ h => h) (Or.inl ⟨by rfl, ?_⟩) hSd3 ?_
  rotate_left
  ·(intro w9 hSw; obtain ⟨x0, x1⟩ := HX.out w9 hSw; go_simp; first | done | with_reducible rfl)
  simp only [Act.put, List.getElem_toArray, List.getElem_cons_succ, List.getElem_cons_zero, List.setIfInBounds_toArray, List.set_cons_zero, List.set_cons_succ]
  refine wpAnyH_done (by kernel_rfl) ?_ _
  have s0 := hRd3.c0
  have s1 := hRd3.c1
  have HBW : Hid (Below w.heap.size w wd3) := hSd3.bel
  clear HX
  go_wp2
  refine bodyPost_ret (v := .tuple #[.agg #[.int .i64 0, .int .i64 1], .bool true]) ?_ rfl ?_
  ·simp [results, go_sem, s0, s1]
  ·exact GotS.yes (s := (0, 1)) HV2.out HBW.out

end Go.Proofs.YtgmmfpdekefamaaGreatDoor
