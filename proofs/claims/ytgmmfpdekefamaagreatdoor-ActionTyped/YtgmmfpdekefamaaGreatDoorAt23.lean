/- Texts of the proof, put together: QSca. -/
import Derived.Test.YtgmmfpdekefamaaGreatDoorAt22
import Derived.BigRegion
namespace Go.Proofs.YtgmmfpdekefamaaGreatDoor
open Go.RowKit
set_option linter.unusedVariables false
set_option linter.unusedSimpArgs false
set_option maxRecDepth 100000

theorem SR.two (w : World) (l b : Int) : SR w (w.heap.size + 1) l b ((w.alloc (.cells #[.int .i64 0, .int .i64 0] 89)).alloc (.cells #[.int .i64 l, .int .i64 b] 89)) ∧ ShAt ((w.alloc (.cells #[.int .i64 0, .int .i64 0] 89)).alloc (.cells #[.int .i64 l, .int .i64 b] 89)) w.heap.size 0 0 := by
 have h2 := ShAt.new (w.alloc (.cells #[.int .i64 0, .int .i64 0] 89)) l b
 have b2 := alloc_below (w.alloc (.cells #[.int .i64 0, .int .i64 0] 89)) (.cells #[.int .i64 l, .int .i64 b] 89)
 rw [alloc_size] at h2 b2
 exact ⟨⟨two_below w _ _, h2, by omega⟩, (ShAt.new w 0 0).below b2 (by omega)⟩


set_option maxHeartbeats 8000000 in
/-- text -/
theorem acall_text {w : World} {lv : Value} {l : List Sh} {f : ByteArray} {O : Option Sh} (h_len : (f.toList == [108, 101, 110]) = false) (h_text : (f.toList == [116, 101, 120, 116]) = true) (h : ShsR w lv l) (hl : 0 < l.length) (HV : Hid (O = if arP l [1] 0 = true then some (0, 2) else none)) : Calls Tryz.prog 128 #[.string f, lv] w (GotS w O) := by
 have HS0 : Hid (SR w (w.heap.size + 1) 1 4 ((w.alloc (.cells #[.int .i64 0, .int .i64 0] 89)).alloc (.cells #[.int .i64 1, .int .i64 4] 89))) := (SR.two w 1 4).1
 have HR0 : Hid (ShAt ((w.alloc (.cells #[.int .i64 0, .int .i64 0] 89)).alloc (.cells #[.int .i64 1, .int .i64 4] 89)) w.heap.size 0 0) := (SR.two w 1 4).2
 have HS2 : Hid (∀ W, Calls Tryz.prog 123 #[.int .i64 2] W fun e w' => e = .returned (.agg #[.int .i64 0, .int .i64 2]) ∧ Below W.heap.size W w') := fun W => asimple_any 2 W
 have HA : Hid (∀ W kv, Below w.heap.size w W → IntsR W kv [1] → Calls Tryz.prog 124 #[lv, kv] W fun e w' => e = .returned (.bool (arP l [1] 0)) ∧ Below W.heap.size W w') := fun W kv hW hk => aare_any (h.below hW) hk (by simp; omega) (by simp)
 generalize arP l [1] 0 = R at *
 clear h
 go_enter Tryz.func128, Tryz.ntmps128
 go_wp2_with fail
 generalize (w.alloc (.cells #[.int .i64 0, .int .i64 0] 89)).alloc (.cells #[.int .i64 1, .int .i64 4] 89) = w3 at *
 go_at_call 123
 refine (HS2.out _).mono ?_
 rintro e w4 ⟨rfl, hb4⟩
 have hb5 := alloc_below w4 (.cells #[.int .i64 1] 3)
 have HI : Hid (IntsR (w4.alloc (.cells #[.int .i64 1] 3)) (.slice (some ⟨w4.heap.size, 0, none⟩) 1 1) [1]) := ints_new w4 [1]
 have HS5 : Hid (SR w (w.heap.size + 1) 1 4 (w4.alloc (.cells #[.int .i64 1] 3))) := (HS0.out.after hb4).after hb5
 have HR5 : Hid (ShAt (w4.alloc (.cells #[.int .i64 1] 3)) w.heap.size 0 0) := (HR0.out.below hb4 HR0.out.lt).below hb5 (HR0.out.below hb4 HR0.out.lt).lt
 clear hb4 hb5 HS0 HR0 HS2
 go_wp2_with fail
 generalize w4.heap.size = bq at *
 generalize w4.alloc (.cells #[.int .i64 1] 3) = w5 at *
 go_at_call 124
 refine (HA.out _ _ HS5.out.bel HI.out).mono ?_
 rintro e w6 ⟨rfl, hb6⟩
 have HS6 := HS5.out.after hb6
 have HR6 := HR5.out.below hb6 HR5.out.lt
 have r0 := HR6.c0
 have r1 := HR6.c1
 have f0 := HR6.fz 0
 have f1 := HR6.fz 1
 have rr := HR6.lt
 obtain ⟨W, hW, hbW, _, hTW⟩ := HR6.ret HS6.bel (Nat.le_refl _) 0 2
 have HW : Hid (putS w6 w.heap.size 0 2 = W) := hW
 have s0 := hTW.c0
 have s1 := hTW.c1
 have HG : Hid (GotS w O (.returned (.tuple #[shV (0, 2), .bool R])) W) := GotS.bool (s := (0, 2)) HV.out hbW
 clear hb6 HS6 HR6 HS5 HR5 HI HA hW hbW hTW HV
 go_wp2
 have hW := HW.out
 unfold putS at hW
 rw [hW]
 refine bodyPost_ret (v := .tuple #[.agg #[.int .i64 0, .int .i64 2], .bool R]) ?_ rfl ?_
 ·simp [results, go_sem, s0, s1]
 ·exact HG.out


set_option maxHeartbeats 8000000 in
/-- int -/
theorem acall_int {w : World} {lv : Value} {l : List Sh} {f : ByteArray} {O : Option Sh} (h_len : (f.toList == [108, 101, 110]) = false) (h_text : (f.toList == [116, 101, 120, 116]) = false) (h_int : (f.toList == [105, 110, 116]) = true) (h : ShsR w lv l) (hl : 1 < l.length) (HV : Hid (O = if arP l [2, 1] 0 = true then some (0, 1) else none)) : Calls Tryz.prog 128 #[.string f, lv] w (GotS w O) := by
 have HS0 : Hid (SR w (w.heap.size + 1) 1 4 ((w.alloc (.cells #[.int .i64 0, .int .i64 0] 89)).alloc (.cells #[.int .i64 1, .int .i64 4] 89))) := (SR.two w 1 4).1
 have HR0 : Hid (ShAt ((w.alloc (.cells #[.int .i64 0, .int .i64 0] 89)).alloc (.cells #[.int .i64 1, .int .i64 4] 89)) w.heap.size 0 0) := (SR.two w 1 4).2
 have HS1 : Hid (∀ W, Calls Tryz.prog 123 #[.int .i64 1] W fun e w' => e = .returned (.agg #[.int .i64 0, .int .i64 1]) ∧ Below W.heap.size W w') := fun W => asimple_any 1 W
 have HA : Hid (∀ W kv, Below w.heap.size w W → IntsR W kv [2, 1] → Calls Tryz.prog 124 #[lv, kv] W fun e w' => e = .returned (.bool (arP l [2, 1] 0)) ∧ Below W.heap.size W w') := fun W kv hW hk => aare_any (h.below hW) hk (by simp; omega) (by simp)
 generalize arP l [2, 1] 0 = R at *
 clear h
 go_enter Tryz.func128, Tryz.ntmps128
 go_wp2_with fail
 generalize (w.alloc (.cells #[.int .i64 0, .int .i64 0] 89)).alloc (.cells #[.int .i64 1, .int .i64 4] 89) = w3 at *
 go_at_call 123
 refine (HS1.out _).mono ?_
 rintro e w4 ⟨rfl, hb4⟩
 have hb5 := alloc_below w4 (.cells #[.int .i64 2, .int .i64 1] 3)
 have HI : Hid (IntsR (w4.alloc (.cells #[.int .i64 2, .int .i64 1] 3)) (.slice (some ⟨w4.heap.size, 0, none⟩) 2 2) [2, 1]) := ints_new w4 [2, 1]
 have HS5 : Hid (SR w (w.heap.size + 1) 1 4 (w4.alloc (.cells #[.int .i64 2, .int .i64 1] 3))) := (HS0.out.after hb4).after hb5
 have HR5 : Hid (ShAt (w4.alloc (.cells #[.int .i64 2, .int .i64 1] 3)) w.heap.size 0 0) := (HR0.out.below hb4 HR0.out.lt).below hb5 (HR0.out.below hb4 HR0.out.lt).lt
 clear hb4 hb5 HS0 HR0 HS1
 go_wp2_with fail
 generalize w4.heap.size = bq at *
 generalize w4.alloc (.cells #[.int .i64 2, .int .i64 1] 3) = w5 at *
 go_at_call 124
 refine (HA.out _ _ HS5.out.bel HI.out).mono ?_
 rintro e w6 ⟨rfl, hb6⟩
 have HS6 := HS5.out.after hb6
 have HR6 := HR5.out.below hb6 HR5.out.lt
 have r0 := HR6.c0
 have r1 := HR6.c1
 have f0 := HR6.fz 0
 have f1 := HR6.fz 1
 have rr := HR6.lt
 obtain ⟨W, hW, hbW, _, hTW⟩ := HR6.ret HS6.bel (Nat.le_refl _) 0 1
 have HW : Hid (putS w6 w.heap.size 0 1 = W) := hW
 have s0 := hTW.c0
 have s1 := hTW.c1
 have HG : Hid (GotS w O (.returned (.tuple #[shV (0, 1), .bool R])) W) := GotS.bool (s := (0, 1)) HV.out hbW
 clear hb6 HS6 HR6 HS5 HR5 HI HA hW hbW hTW HV
 go_wp2
 have hW := HW.out
 unfold putS at hW
 rw [hW]
 refine bodyPost_ret (v := .tuple #[.agg #[.int .i64 0, .int .i64 1], .bool R]) ?_ rfl ?_
 ·simp [results, go_sem, s0, s1]
 ·exact HG.out


set_option maxHeartbeats 8000000 in
/-- tag -/
theorem acall_tag {w : World} {lv : Value} {l : List Sh} {f : ByteArray} {O : Option Sh} (h_len : (f.toList == [108, 101, 110]) = false) (h_text : (f.toList == [116, 101, 120, 116]) = false) (h_int : (f.toList == [105, 110, 116]) = false) (h_node : (f.toList == [110, 111, 100, 101]) = false) (h_tag : (f.toList == [116, 97, 103]) = true) (h : ShsR w lv l) (hl : 0 < l.length) (HV : Hid (O = if arP l [4] 0 = true then some (0, 2) else none)) : Calls Tryz.prog 128 #[.string f, lv] w (GotS w O) := by
 have HS0 : Hid (SR w (w.heap.size + 1) 1 4 ((w.alloc (.cells #[.int .i64 0, .int .i64 0] 89)).alloc (.cells #[.int .i64 1, .int .i64 4] 89))) := (SR.two w 1 4).1
 have HR0 : Hid (ShAt ((w.alloc (.cells #[.int .i64 0, .int .i64 0] 89)).alloc (.cells #[.int .i64 1, .int .i64 4] 89)) w.heap.size 0 0) := (SR.two w 1 4).2
 have HS2 : Hid (∀ W, Calls Tryz.prog 123 #[.int .i64 2] W fun e w' => e = .returned (.agg #[.int .i64 0, .int .i64 2]) ∧ Below W.heap.size W w') := fun W => asimple_any 2 W
 have HA : Hid (∀ W kv, Below w.heap.size w W → IntsR W kv [4] → Calls Tryz.prog 124 #[lv, kv] W fun e w' => e = .returned (.bool (arP l [4] 0)) ∧ Below W.heap.size W w') := fun W kv hW hk => aare_any (h.below hW) hk (by simp; omega) (by simp)
 generalize arP l [4] 0 = R at *
 clear h
 go_enter Tryz.func128, Tryz.ntmps128
 go_wp2_with fail
 generalize (w.alloc (.cells #[.int .i64 0, .int .i64 0] 89)).alloc (.cells #[.int .i64 1, .int .i64 4] 89) = w3 at *
 go_at_call 123
 refine (HS2.out _).mono ?_
 rintro e w4 ⟨rfl, hb4⟩
 have hb5 := alloc_below w4 (.cells #[.int .i64 4] 3)
 have HI : Hid (IntsR (w4.alloc (.cells #[.int .i64 4] 3)) (.slice (some ⟨w4.heap.size, 0, none⟩) 1 1) [4]) := ints_new w4 [4]
 have HS5 : Hid (SR w (w.heap.size + 1) 1 4 (w4.alloc (.cells #[.int .i64 4] 3))) := (HS0.out.after hb4).after hb5
 have HR5 : Hid (ShAt (w4.alloc (.cells #[.int .i64 4] 3)) w.heap.size 0 0) := (HR0.out.below hb4 HR0.out.lt).below hb5 (HR0.out.below hb4 HR0.out.lt).lt
 clear hb4 hb5 HS0 HR0 HS2
 go_wp2_with fail
 generalize w4.heap.size = bq at *
 generalize w4.alloc (.cells #[.int .i64 4] 3) = w5 at *
 go_at_call 124
 refine (HA.out _ _ HS5.out.bel HI.out).mono ?_
 rintro e w6 ⟨rfl, hb6⟩
 have HS6 := HS5.out.after hb6
 have HR6 := HR5.out.below hb6 HR5.out.lt
 have r0 := HR6.c0
 have r1 := HR6.c1
 have f0 := HR6.fz 0
 have f1 := HR6.fz 1
 have rr := HR6.lt
 obtain ⟨W, hW, hbW, _, hTW⟩ := HR6.ret HS6.bel (Nat.le_refl _) 0 2
 have HW : Hid (putS w6 w.heap.size 0 2 = W) := hW
 have s0 := hTW.c0
 have s1 := hTW.c1
 have HG : Hid (GotS w O (.returned (.tuple #[shV (0, 2), .bool R])) W) := GotS.bool (s := (0, 2)) HV.out hbW
 clear hb6 HS6 HR6 HS5 HR5 HI HA hW hbW hTW HV
 go_wp2
 have hW := HW.out
 unfold putS at hW
 rw [hW]
 refine bodyPost_ret (v := .tuple #[.agg #[.int .i64 0, .int .i64 2], .bool R]) ?_ rfl ?_
 ·simp [results, go_sem, s0, s1]
 ·exact HG.out


set_option maxHeartbeats 8000000 in
/-- kids -/
theorem acall_kids {w : World} {lv : Value} {l : List Sh} {f : ByteArray} {O : Option Sh} (h_len : (f.toList == [108, 101, 110]) = false) (h_text : (f.toList == [116, 101, 120, 116]) = false) (h_int : (f.toList == [105, 110, 116]) = false) (h_node : (f.toList == [110, 111, 100, 101]) = false) (h_tag : (f.toList == [116, 97, 103]) = false) (h_kids : (f.toList == [107, 105, 100, 115]) = true) (h : ShsR w lv l) (hl : 0 < l.length) (HV : Hid (O = if arP l [4] 0 = true then some (1, 4) else none)) : Calls Tryz.prog 128 #[.string f, lv] w (GotS w O) := by
 have HS0 : Hid (SR w (w.heap.size + 1) 1 4 ((w.alloc (.cells #[.int .i64 0, .int .i64 0] 89)).alloc (.cells #[.int .i64 1, .int .i64 4] 89))) := (SR.two w 1 4).1
 have HR0 : Hid (ShAt ((w.alloc (.cells #[.int .i64 0, .int .i64 0] 89)).alloc (.cells #[.int .i64 1, .int .i64 4] 89)) w.heap.size 0 0) := (SR.two w 1 4).2
 have HA : Hid (∀ W kv, Below w.heap.size w W → IntsR W kv [4] → Calls Tryz.prog 124 #[lv, kv] W fun e w' => e = .returned (.bool (arP l [4] 0)) ∧ Below W.heap.size W w') := fun W kv hW hk => aare_any (h.below hW) hk (by simp; omega) (by simp)
 generalize arP l [4] 0 = R at *
 clear h
 have HX : Hid (∀ w', SR w (w.heap.size + 1) 1 4 w' → w'.cell? ⟨w.heap.size + 1, 0, none⟩ = some (.int .i64 1) ∧ w'.cell? ⟨w.heap.size + 1, 1, none⟩ = some (.int .i64 4)) := fun w' h => ⟨h.sh.c0, h.sh.c1⟩
 go_enter Tryz.func128, Tryz.ntmps128
 go_wp2_with fail
 generalize (w.alloc (.cells #[.int .i64 0, .int .i64 0] 89)).alloc (.cells #[.int .i64 1, .int .i64 4] 89) = w3 at *
 have hdr0 : Below w3.heap.size w3 w3.drew := below_drewG (Below.refl _ _) 1
 have hSd : (SR w (w.heap.size + 1) 1 4) w3.drew := HS0.out.after hdr0
 have hRd0 : ShAt w3.drew w.heap.size 0 0 := HR0.out.below hdr0 HR0.out.lt
 clear hdr0
 refine wp_region_held_drew (S := (SR w (w.heap.size + 1) 1 4)) (by kernel_rfl) hSd (fun hHeld => ?_)
 clear hHeld
 generalize w3.drew = wd0 at hSd hRd0 ⊢
 refine wpAnyH_take (i := 0) (v := ?_) rfl (by kernel_rfl) (by kernel_rfl) (by kernel_rfl) (fun _ _ _ h => h) (Or.inl ⟨by rfl, ?_⟩) hSd ?_
 rotate_left
 ·(intro w9 hSw; obtain ⟨x0, x1⟩ := HX.out w9 hSw; go_simp; first | done | with_reducible rfl)
 refine wpAnyH_take (i := 1) (v := ?_) rfl (by kernel_rfl) (by kernel_rfl) (by kernel_rfl) (fun _ _ _ h => h) (Or.inl ⟨by rfl, ?_⟩) hSd ?_
 rotate_left
 ·(intro w9 hSw; obtain ⟨x0, x1⟩ := HX.out w9 hSw; go_simp; first | done | with_reducible rfl)
 simp only [Act.put, List.getElem_toArray, List.getElem_cons_succ, List.getElem_cons_zero, List.setIfInBounds_toArray, List.set_cons_zero, List.set_cons_succ]
 refine wpAnyH_ready (rs := [2]) (by kernel_rfl) (by simp) ?_
 refine AllReadyH.cons rfl (fun K hK => ?_) AllReadyH.nil
 go_simp
 have hbd1 := alloc_below wd0 (.cells #[.int .i64 4] 3)
 have hId1 : IntsR (wd0.alloc (.cells #[.int .i64 4] 3)) (.slice (some ⟨wd0.heap.size, 0, none⟩) 1 1) [4] := ints_new wd0 [4]
 have hSd1 : (SR w (w.heap.size + 1) 1 4) (wd0.alloc (.cells #[.int .i64 4] 3)) := hSd.after hbd1
 have hRd1 : ShAt (wd0.alloc (.cells #[.int .i64 4] 3)) w.heap.size 0 0 := hRd0.below hbd1 hRd0.lt
 refine hK.out _ _ hSd1 (fun hHeld => ?_)
 clear hK K hHeld
 generalize hbq1 : wd0.heap.size = bq1 at hId1 ⊢
 generalize wd0.alloc (.cells #[.int .i64 4] 3) = wd1 at hId1 hSd1 hRd1 ⊢
 clear hbd1 hbq1
 refine wpAnyH_ready (rs := [3]) (by kernel_rfl) (by simp) ?_
 refine AllReadyH.cons rfl (fun K hK => ?_) AllReadyH.nil
 go_simp
 go_wp2_with (go_at_call 124; refine (HA.out wd1 _ hSd1.bel hId1).mono ?_; rintro e wd2 ⟨rfl, hbd2⟩)
 have hSd2 : (SR w (w.heap.size + 1) 1 4) wd2 := hSd1.after hbd2
 have hRd2 : ShAt wd2 w.heap.size 0 0 := hRd1.below hbd2 hRd1.lt
 refine hK.out _ _ hSd2 (fun hHeld => ?_)
 clear hK K hHeld
 have r0 := hRd2.c0
 have r1 := hRd2.c1
 have f0 := hRd2.fz 0
 have f1 := hRd2.fz 1
 have rr := hRd2.lt
 refine wpAnyH_ready (rs := [4]) (by kernel_rfl) (by simp) ?_
 refine AllReadyH.cons rfl (fun K hK => ?_) AllReadyH.nil
 go_simp
 have hSd3 : (SR w (w.heap.size + 1) 1 4) (putS wd2 w.heap.size 1 4) := hSd2.put 1 4
 have hRd3 : ShAt (putS wd2 w.heap.size 1 4) w.heap.size 1 4 := hRd2.put 1 4
 change K _ (putS wd2 w.heap.size 1 4)
 refine hK.out _ _ hSd3 (fun hHeld => ?_)
 clear hK K hHeld r0 r1 f0 f1 rr
 generalize putS wd2 w.heap.size 1 4 = wd3 at hSd3 hRd3 ⊢
 refine wpAnyH_take (i := 5) (v := ?_) rfl (by kernel_rfl) (by kernel_rfl) (by kernel_rfl) (fun _ _ _ h => h) (Or.inl ⟨by rfl, ?_⟩) hSd3 ?_
 rotate_left
 ·(intro w9 hSw; obtain ⟨x0, x1⟩ := HX.out w9 hSw; go_simp; first | done | with_reducible rfl)
 simp only [Act.put, List.getElem_toArray, List.getElem_cons_succ, List.getElem_cons_zero, List.setIfInBounds_toArray, List.set_cons_zero, List.set_cons_succ]
 refine wpAnyH_done (by kernel_rfl) ?_ _
 have s0 := hRd3.c0
 have s1 := hRd3.c1
 have HBW : Hid (Below w.heap.size w wd3) := hSd3.bel
 clear HX
 go_wp2
 refine bodyPost_ret (v := .tuple #[.agg #[.int .i64 1, .int .i64 4], .bool R]) ?_ rfl ?_
 ·simp [results, go_sem, s0, s1]
 ·exact GotS.bool (s := (1, 4)) HV.out HBW.out

set_option maxHeartbeats 8000000 in
/-- at -/
theorem acall_at {w : World} {lv : Value} {l : List Sh} {f : ByteArray} {O : Option Sh} (h_len : (f.toList == [108, 101, 110]) = false) (h_text : (f.toList == [116, 101, 120, 116]) = false) (h_int : (f.toList == [105, 110, 116]) = false) (h_node : (f.toList == [110, 111, 100, 101]) = false) (h_tag : (f.toList == [116, 97, 103]) = false) (h_kids : (f.toList == [107, 105, 100, 115]) = false) (h : ShsR w lv l) (hl : l.length = 3) (hN : (l.getD 0 noS).1 ≤ 100000) (HV : Hid (O = atP (l.getD 0 noS) (l.getD 1 noS) (l.getD 2 noS))) : Calls Tryz.prog 128 #[.string f, lv] w (GotS w O) := by
 have HS0 : Hid (SR w (w.heap.size + 1) 1 4 ((w.alloc (.cells #[.int .i64 0, .int .i64 0] 89)).alloc (.cells #[.int .i64 1, .int .i64 4] 89))) := (SR.two w 1 4).1
 have HR0 : Hid (ShAt ((w.alloc (.cells #[.int .i64 0, .int .i64 0] 89)).alloc (.cells #[.int .i64 1, .int .i64 4] 89)) w.heap.size 0 0) := (SR.two w 1 4).2
 have HP : Hid (∀ W, Below w.heap.size w W → Calls Tryz.prog 166 #[lv] W (GotS W O)) := fun W hW => apicked_any (h.below hW) hl hN HV
 clear h HV hN hl
 go_enter Tryz.func128, Tryz.ntmps128
 go_wp2_with fail
 generalize (w.alloc (.cells #[.int .i64 0, .int .i64 0] 89)).alloc (.cells #[.int .i64 1, .int .i64 4] 89) = w3 at *
 go_at_call 166
 refine (HP.out _ HS0.out.bel).mono ?_
 rintro e w6 ⟨hb6, u, yes, rfl, hy, hs⟩
 have HS6 := HS0.out.after hb6
 have HR6 := HR0.out.below hb6 HR0.out.lt
 have HY : Hid (yes = O.isSome ∧ ∀ s, O = some s → u = s) := ⟨hy, hs⟩
 have r0 := HR6.c0
 have r1 := HR6.c1
 have f0 := HR6.fz 0
 have f1 := HR6.fz 1
 have rr := HR6.lt
 obtain ⟨W, hW, hbW, _, hTW⟩ := HR6.ret HS6.bel (Nat.le_refl _) u.1 u.2
 have HW : Hid (putS w6 w.heap.size u.1 u.2 = W) := hW
 have s0 := hTW.c0
 have s1 := hTW.c1
 have HBW : Hid (Below w.heap.size w W) := hbW
 unfold shV
 clear hb6 HS6 HR6 HS0 HR0 HP hW hbW hTW hy hs
 go_wp2
 have hW := HW.out
 unfold putS at hW
 rw [hW]
 refine bodyPost_ret (v := .tuple #[.agg #[.int .i64 u.1, .int .i64 u.2], .bool yes]) ?_ rfl ?_
 ·simp [results, go_sem, s0, s1]
 ·exact ⟨HBW.out, u, yes, rfl, HY.out⟩


end Go.Proofs.YtgmmfpdekefamaaGreatDoor
