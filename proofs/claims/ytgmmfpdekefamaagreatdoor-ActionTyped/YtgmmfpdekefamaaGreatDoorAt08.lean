/- Texts of the proof, put together: QTyp2, QTyc. -/
import Derived.Test.YtgmmfpdekefamaaGreatDoorAt07
namespace Go.Proofs.YtgmmfpdekefamaaGreatDoor
open Go.RowKit
set_option linter.unusedVariables false
set_option maxRecDepth 100000

set_option maxHeartbeats 8000000 in
/-- sums and the like -/
theorem op_num {ok : Nat → Prop} {w : World} {o : Option Sh} {ka kb : Int} {qa qb : Option Addr} {op : ByteArray} (ho1 : (op.toList == [61, 61]) = false) (ho2 : (op.toList == [60]) = false) (ho3 : (op.toList == [43, 43]) = false) (HV : Hid (o = if ((ka == kb) && (ka == 1)) = true then some (0, 1) else none)) : Calls Tryz.prog 131 #[.string op, .agg #[.int .i64 ka, .pointer qa], .agg #[.int .i64 kb, .pointer qb]] w (GotJ ok w o) := by
 have HO : Hid (∀ W, Calls Tryz.prog 47 #[.int .i64 1] W fun e w' => e = .returned (.agg #[.int .i64 1, .pointer none]) ∧ Below W.heap.size W w') := fun W => ronly_any 1 W
 have HJ : Hid (J3 w (((w.alloc (.cells #[.int .i64 ka, .pointer qa] 44)).alloc (.cells #[.int .i64 kb, .pointer qb] 44)).alloc (.cells #[.int .i64 0, .pointer none] 44)) ka qa kb qb) := J3.new w _ _ _ _
 cases hk : (ka == kb)
 ·have HV2 : Hid (o = none) := by have := HV.out; rw [hk] at this; show _ = _; simpa using this
  clear HV
  go_enter Tryz.func131, Tryz.ntmps131
  go_wp2_with fail
  generalize ((w.alloc (.cells #[.int .i64 ka, .pointer qa] 44)).alloc (.cells #[.int .i64 kb, .pointer qb] 44)).alloc (.cells #[.int .i64 0, .pointer none] 44) = w3 at *
  have a0 := HJ.out.a.c0
  have ra := HJ.out.a.lt
  refine wp_region_held_drew (S := fun w' => w'.cell? ⟨w.heap.size, 0, none⟩ = some (.int .i64 ka)) (by kernel_rfl) a0 (fun hHeld => ?_)
  refine wpAnyH_take (i := 1) (v := ?_) rfl (by kernel_rfl) (by kernel_rfl) (by kernel_rfl) (fun _ _ _ h => h) (Or.inl ⟨by rfl, ?_⟩) (by assumption) ?_
  rotate_left
  ·(intro w hSw; (try dsimp only at hSw); go_simp; first | done | with_reducible rfl)
  simp only [Act.put, List.getElem_toArray, List.getElem_cons_succ, List.getElem_cons_zero, List.setIfInBounds_toArray, List.set_cons_zero, List.set_cons_succ]
  refine wpAnyH_ready (rs := [0]) (by kernel_rfl) (by simp) ?_
  refine AllReadyH.cons rfl (fun K hK => ?_) AllReadyH.nil
  go_simp
  go_wp2_with (go_at_call 47; refine (HO.out _).mono ?_; rintro e w4 ⟨rfl, hb4⟩)
  refine hK.out _ _ ((hb4.cell (p := ⟨w.heap.size, 0, none⟩) ra).trans a0) (fun hHeld => ?_)
  clear hK K
  have hb4' : Below w3.heap.size w3 w4 := (below_drewG (Below.refl _ _) 1).trans hb4
  have HJ4 : Hid (J3 w w4 ka qa kb qb) := HJ.out.after hb4'
  refine wpAnyH_take (i := 2) (v := ?_) rfl (by kernel_rfl) (by kernel_rfl) (by kernel_rfl) (fun _ _ _ h => h) (Or.inl ⟨by rfl, ?_⟩) (by assumption) ?_
  rotate_left
  ·(intro w hSw; (try dsimp only at hSw); go_simp; first | done | with_reducible rfl)
  simp only [Act.put, List.getElem_toArray, List.getElem_cons_succ, List.getElem_cons_zero, List.setIfInBounds_toArray, List.set_cons_zero, List.set_cons_succ]
  refine wpAnyH_take (i := 3) (v := undef) rfl (by kernel_rfl) (by kernel_rfl) (by kernel_rfl) (fun _ _ _ h => h) (Or.inr ⟨by kernel_rfl, rfl⟩) (by assumption) ?_
  simp only [Act.put, List.getElem_toArray, List.getElem_cons_succ, List.getElem_cons_zero, List.setIfInBounds_toArray, List.set_cons_zero, List.set_cons_succ]
  refine wpAnyH_take (i := 4) (v := undef) rfl (by kernel_rfl) (by kernel_rfl) (by kernel_rfl) (fun _ _ _ h => h) (Or.inr ⟨by kernel_rfl, rfl⟩) (by assumption) ?_
  simp only [Act.put, List.getElem_toArray, List.getElem_cons_succ, List.getElem_cons_zero, List.setIfInBounds_toArray, List.set_cons_zero, List.set_cons_succ]
  refine wpAnyH_take (i := 5) (v := undef) rfl (by kernel_rfl) (by kernel_rfl) (by kernel_rfl) (fun _ _ _ h => h) (Or.inr ⟨by kernel_rfl, rfl⟩) (by assumption) ?_
  simp only [Act.put, List.getElem_toArray, List.getElem_cons_succ, List.getElem_cons_zero, List.setIfInBounds_toArray, List.set_cons_zero, List.set_cons_succ]
  refine wpAnyH_take (i := 6) (v := ?_) rfl (by kernel_rfl) (by kernel_rfl) (by kernel_rfl) (fun _ _ _ h => h) (Or.inl ⟨by rfl, ?_⟩) (by assumption) ?_
  rotate_left
  ·(intro w hSw; (try dsimp only at hSw); go_simp; first | done | with_reducible rfl)
  simp only [Act.put, List.getElem_toArray, List.getElem_cons_succ, List.getElem_cons_zero, List.setIfInBounds_toArray, List.set_cons_zero, List.set_cons_succ]
  have r0 := HJ4.out.r.c0
  have r1 := HJ4.out.r.c1
  have f0 := HJ4.out.r.fz 0
  have f1 := HJ4.out.r.fz 1
  have rr := HJ4.out.r.lt
  have a4 := HJ4.out.a.c0
  obtain ⟨W, hW, hbW, _, hTW⟩ := HJ4.out.r.ret HJ4.out.bel (by omega) 1 none
  have HW : Hid (putY w4 (w.heap.size + 2) 1 none = W) := hW
  have s0 := hTW.c0
  have s1 := hTW.c1
  have HA5 : Hid (W.cell? ⟨w.heap.size, 0, none⟩ = some (.int .i64 ka)) := by rw [← hW]; exact (HJ4.out.a.other (by omega) 1 none).c0
  have HBW : Hid (Below w.heap.size w W) := hbW
  clear hW hbW hTW hb4 hb4' HJ4 HJ HO
  refine wpAnyH_ready (rs := [7]) (by kernel_rfl) (by simp) ?_
  refine AllReadyH.cons rfl (fun K hK => ?_) AllReadyH.nil
  go_simp
  have hW := HW.out
  unfold putY at hW
  rw [hW]
  clear hW HW r0 r1 f0 f1 rr a4
  refine hK.out _ _ HA5.out (fun hHeld => ?_)
  clear hK K
  refine wpAnyH_take (i := 8) (v := ?_) rfl (by kernel_rfl) (by kernel_rfl) (by kernel_rfl) (fun _ _ _ h => h) (Or.inl ⟨by rfl, ?_⟩) (by assumption) ?_
  rotate_left
  ·(intro w hSw; (try dsimp only at hSw); go_simp; first | done | with_reducible rfl)
  simp only [Act.put, List.getElem_toArray, List.getElem_cons_succ, List.getElem_cons_zero, List.setIfInBounds_toArray, List.set_cons_zero, List.set_cons_succ]
  refine wpAnyH_done (by kernel_rfl) ?_ _
  go_wp2
  refine bodyPost_ret (v := .tuple #[.agg #[.int .i64 1, .pointer none], .bool false]) ?_ rfl ?_
  ·simp [results, go_sem, s0, s1]
  ·exact GotJ.no HV2.out HBW.out
 ·cases h1 : (ka == 1)
  ·have HV2 : Hid (o = none) := by have := HV.out; rw [hk, h1] at this; show _ = _; simpa using this
   clear HV
   go_enter Tryz.func131, Tryz.ntmps131
   go_wp2_with fail
   generalize ((w.alloc (.cells #[.int .i64 ka, .pointer qa] 44)).alloc (.cells #[.int .i64 kb, .pointer qb] 44)).alloc (.cells #[.int .i64 0, .pointer none] 44) = w3 at *
   have a0 := HJ.out.a.c0
   have ra := HJ.out.a.lt
   refine wp_region_held_drew (S := fun w' => w'.cell? ⟨w.heap.size, 0, none⟩ = some (.int .i64 ka)) (by kernel_rfl) a0 (fun hHeld => ?_)
   refine wpAnyH_take (i := 1) (v := ?_) rfl (by kernel_rfl) (by kernel_rfl) (by kernel_rfl) (fun _ _ _ h => h) (Or.inl ⟨by rfl, ?_⟩) (by assumption) ?_
   rotate_left
   ·(intro w hSw; (try dsimp only at hSw); go_simp; first | done | with_reducible rfl)
   simp only [Act.put, List.getElem_toArray, List.getElem_cons_succ, List.getElem_cons_zero, List.setIfInBounds_toArray, List.set_cons_zero, List.set_cons_succ]
   refine wpAnyH_ready (rs := [0]) (by kernel_rfl) (by simp) ?_
   refine AllReadyH.cons rfl (fun K hK => ?_) AllReadyH.nil
   go_simp
   go_wp2_with (go_at_call 47; refine (HO.out _).mono ?_; rintro e w4 ⟨rfl, hb4⟩)
   refine hK.out _ _ ((hb4.cell (p := ⟨w.heap.size, 0, none⟩) ra).trans a0) (fun hHeld => ?_)
   clear hK K
   have hb4' : Below w3.heap.size w3 w4 := (below_drewG (Below.refl _ _) 1).trans hb4
   have HJ4 : Hid (J3 w w4 ka qa kb qb) := HJ.out.after hb4'
   refine wpAnyH_take (i := 2) (v := ?_) rfl (by kernel_rfl) (by kernel_rfl) (by kernel_rfl) (fun _ _ _ h => h) (Or.inl ⟨by rfl, ?_⟩) (by assumption) ?_
   rotate_left
   ·(intro w hSw; (try dsimp only at hSw); go_simp; first | done | with_reducible rfl)
   simp only [Act.put, List.getElem_toArray, List.getElem_cons_succ, List.getElem_cons_zero, List.setIfInBounds_toArray, List.set_cons_zero, List.set_cons_succ]
   refine wpAnyH_take (i := 3) (v := ?_) rfl (by kernel_rfl) (by kernel_rfl) (by kernel_rfl) (fun _ _ _ h => h) (Or.inl ⟨by rfl, ?_⟩) (by assumption) ?_
   rotate_left
   ·(intro w hSw; (try dsimp only at hSw); go_simp; first | done | with_reducible rfl)
   simp only [Act.put, List.getElem_toArray, List.getElem_cons_succ, List.getElem_cons_zero, List.setIfInBounds_toArray, List.set_cons_zero, List.set_cons_succ]
   refine wpAnyH_take (i := 4) (v := ?_) rfl (by kernel_rfl) (by kernel_rfl) (by kernel_rfl) (fun _ _ _ h => h) (Or.inl ⟨by rfl, ?_⟩) (by assumption) ?_
   rotate_left
   ·(intro w hSw; (try dsimp only at hSw); go_simp; first | done | with_reducible rfl)
   simp only [Act.put, List.getElem_toArray, List.getElem_cons_succ, List.getElem_cons_zero, List.setIfInBounds_toArray, List.set_cons_zero, List.set_cons_succ]
   refine wpAnyH_take (i := 5) (v := ?_) rfl (by kernel_rfl) (by kernel_rfl) (by kernel_rfl) (fun _ _ _ h => h) (Or.inl ⟨by rfl, ?_⟩) (by assumption) ?_
   rotate_left
   ·(intro w hSw; (try dsimp only at hSw); go_simp; first | done | with_reducible rfl)
   simp only [Act.put, List.getElem_toArray, List.getElem_cons_succ, List.getElem_cons_zero, List.setIfInBounds_toArray, List.set_cons_zero, List.set_cons_succ]
   refine wpAnyH_take (i := 6) (v := ?_) rfl (by kernel_rfl) (by kernel_rfl) (by kernel_rfl) (fun _ _ _ h => h) (Or.inl ⟨by rfl, ?_⟩) (by assumption) ?_
   rotate_left
   ·(intro w hSw; (try dsimp only at hSw); go_simp; first | done | with_reducible rfl)
   simp only [Act.put, List.getElem_toArray, List.getElem_cons_succ, List.getElem_cons_zero, List.setIfInBounds_toArray, List.set_cons_zero, List.set_cons_succ]
   have r0 := HJ4.out.r.c0
   have r1 := HJ4.out.r.c1
   have f0 := HJ4.out.r.fz 0
   have f1 := HJ4.out.r.fz 1
   have rr := HJ4.out.r.lt
   have a4 := HJ4.out.a.c0
   obtain ⟨W, hW, hbW, _, hTW⟩ := HJ4.out.r.ret HJ4.out.bel (by omega) 1 none
   have HW : Hid (putY w4 (w.heap.size + 2) 1 none = W) := hW
   have s0 := hTW.c0
   have s1 := hTW.c1
   have HA5 : Hid (W.cell? ⟨w.heap.size, 0, none⟩ = some (.int .i64 ka)) := by rw [← hW]; exact (HJ4.out.a.other (by omega) 1 none).c0
   have HBW : Hid (Below w.heap.size w W) := hbW
   clear hW hbW hTW hb4 hb4' HJ4 HJ HO
   refine wpAnyH_ready (rs := [7]) (by kernel_rfl) (by simp) ?_
   refine AllReadyH.cons rfl (fun K hK => ?_) AllReadyH.nil
   go_simp
   have hW := HW.out
   unfold putY at hW
   rw [hW]
   clear hW HW r0 r1 f0 f1 rr a4
   refine hK.out _ _ HA5.out (fun hHeld => ?_)
   clear hK K
   refine wpAnyH_take (i := 8) (v := ?_) rfl (by kernel_rfl) (by kernel_rfl) (by kernel_rfl) (fun _ _ _ h => h) (Or.inl ⟨by rfl, ?_⟩) (by assumption) ?_
   rotate_left
   ·(intro w hSw; (try dsimp only at hSw); go_simp; first | done | with_reducible rfl)
   simp only [Act.put, List.getElem_toArray, List.getElem_cons_succ, List.getElem_cons_zero, List.setIfInBounds_toArray, List.set_cons_zero, List.set_cons_succ]
   refine wpAnyH_done (by kernel_rfl) ?_ _
   go_wp2
   refine bodyPost_ret (v := .tuple #[.agg #[.int .i64 1, .pointer none], .bool false]) ?_ rfl ?_
   ·simp [results, go_sem, s0, s1]
   ·exact GotJ.no HV2.out HBW.out
  ·have HV2 : Hid (o = some (0, 1)) := by have := HV.out; rw [hk, h1] at this; show _ = _; simpa using this
   clear HV
   go_enter Tryz.func131, Tryz.ntmps131
   go_wp2_with fail
   generalize ((w.alloc (.cells #[.int .i64 ka, .pointer qa] 44)).alloc (.cells #[.int .i64 kb, .pointer qb] 44)).alloc (.cells #[.int .i64 0, .pointer none] 44) = w3 at *
   have a0 := HJ.out.a.c0
   have ra := HJ.out.a.lt
   refine wp_region_held_drew (S := fun w' => w'.cell? ⟨w.heap.size, 0, none⟩ = some (.int .i64 ka)) (by kernel_rfl) a0 (fun hHeld => ?_)
   refine wpAnyH_take (i := 1) (v := ?_) rfl (by kernel_rfl) (by kernel_rfl) (by kernel_rfl) (fun _ _ _ h => h) (Or.inl ⟨by rfl, ?_⟩) (by assumption) ?_
   rotate_left
   ·(intro w hSw; (try dsimp only at hSw); go_simp; first | done | with_reducible rfl)
   simp only [Act.put, List.getElem_toArray, List.getElem_cons_succ, List.getElem_cons_zero, List.setIfInBounds_toArray, List.set_cons_zero, List.set_cons_succ]
   refine wpAnyH_ready (rs := [0]) (by kernel_rfl) (by simp) ?_
   refine AllReadyH.cons rfl (fun K hK => ?_) AllReadyH.nil
   go_simp
   go_wp2_with (go_at_call 47; refine (HO.out _).mono ?_; rintro e w4 ⟨rfl, hb4⟩)
   refine hK.out _ _ ((hb4.cell (p := ⟨w.heap.size, 0, none⟩) ra).trans a0) (fun hHeld => ?_)
   clear hK K
   have hb4' : Below w3.heap.size w3 w4 := (below_drewG (Below.refl _ _) 1).trans hb4
   have HJ4 : Hid (J3 w w4 ka qa kb qb) := HJ.out.after hb4'
   refine wpAnyH_take (i := 2) (v := ?_) rfl (by kernel_rfl) (by kernel_rfl) (by kernel_rfl) (fun _ _ _ h => h) (Or.inl ⟨by rfl, ?_⟩) (by assumption) ?_
   rotate_left
   ·(intro w hSw; (try dsimp only at hSw); go_simp; first | done | with_reducible rfl)
   simp only [Act.put, List.getElem_toArray, List.getElem_cons_succ, List.getElem_cons_zero, List.setIfInBounds_toArray, List.set_cons_zero, List.set_cons_succ]
   refine wpAnyH_take (i := 3) (v := ?_) rfl (by kernel_rfl) (by kernel_rfl) (by kernel_rfl) (fun _ _ _ h => h) (Or.inl ⟨by rfl, ?_⟩) (by assumption) ?_
   rotate_left
   ·(intro w hSw; (try dsimp only at hSw); go_simp; first | done | with_reducible rfl)
   simp only [Act.put, List.getElem_toArray, List.getElem_cons_succ, List.getElem_cons_zero, List.setIfInBounds_toArray, List.set_cons_zero, List.set_cons_succ]
   refine wpAnyH_take (i := 4) (v := ?_) rfl (by kernel_rfl) (by kernel_rfl) (by kernel_rfl) (fun _ _ _ h => h) (Or.inl ⟨by rfl, ?_⟩) (by assumption) ?_
   rotate_left
   ·(intro w hSw; (try dsimp only at hSw); go_simp; first | done | with_reducible rfl)
   simp only [Act.put, List.getElem_toArray, List.getElem_cons_succ, List.getElem_cons_zero, List.setIfInBounds_toArray, List.set_cons_zero, List.set_cons_succ]
   refine wpAnyH_take (i := 5) (v := ?_) rfl (by kernel_rfl) (by kernel_rfl) (by kernel_rfl) (fun _ _ _ h => h) (Or.inl ⟨by rfl, ?_⟩) (by assumption) ?_
   rotate_left
   ·(intro w hSw; (try dsimp only at hSw); go_simp; first | done | with_reducible rfl)
   simp only [Act.put, List.getElem_toArray, List.getElem_cons_succ, List.getElem_cons_zero, List.setIfInBounds_toArray, List.set_cons_zero, List.set_cons_succ]
   refine wpAnyH_take (i := 6) (v := ?_) rfl (by kernel_rfl) (by kernel_rfl) (by kernel_rfl) (fun _ _ _ h => h) (Or.inl ⟨by rfl, ?_⟩) (by assumption) ?_
   rotate_left
   ·(intro w hSw; (try dsimp only at hSw); go_simp; first | done | with_reducible rfl)
   simp only [Act.put, List.getElem_toArray, List.getElem_cons_succ, List.getElem_cons_zero, List.setIfInBounds_toArray, List.set_cons_zero, List.set_cons_succ]
   have r0 := HJ4.out.r.c0
   have r1 := HJ4.out.r.c1
   have f0 := HJ4.out.r.fz 0
   have f1 := HJ4.out.r.fz 1
   have rr := HJ4.out.r.lt
   have a4 := HJ4.out.a.c0
   obtain ⟨W, hW, hbW, _, hTW⟩ := HJ4.out.r.ret HJ4.out.bel (by omega) 1 none
   have HW : Hid (putY w4 (w.heap.size + 2) 1 none = W) := hW
   have s0 := hTW.c0
   have s1 := hTW.c1
   have HA5 : Hid (W.cell? ⟨w.heap.size, 0, none⟩ = some (.int .i64 ka)) := by rw [← hW]; exact (HJ4.out.a.other (by omega) 1 none).c0
   have HBW : Hid (Below w.heap.size w W) := hbW
   clear hW hbW hTW hb4 hb4' HJ4 HJ HO
   refine wpAnyH_ready (rs := [7]) (by kernel_rfl) (by simp) ?_
   refine AllReadyH.cons rfl (fun K hK => ?_) AllReadyH.nil
   go_simp
   have hW := HW.out
   unfold putY at hW
   rw [hW]
   clear hW HW r0 r1 f0 f1 rr a4
   refine hK.out _ _ HA5.out (fun hHeld => ?_)
   clear hK K
   refine wpAnyH_take (i := 8) (v := ?_) rfl (by kernel_rfl) (by kernel_rfl) (by kernel_rfl) (fun _ _ _ h => h) (Or.inl ⟨by rfl, ?_⟩) (by assumption) ?_
   rotate_left
   ·(intro w hSw; (try dsimp only at hSw); go_simp; first | done | with_reducible rfl)
   simp only [Act.put, List.getElem_toArray, List.getElem_cons_succ, List.getElem_cons_zero, List.setIfInBounds_toArray, List.set_cons_zero, List.set_cons_succ]
   refine wpAnyH_done (by kernel_rfl) ?_ _
   go_wp2
   refine bodyPost_ret (v := .tuple #[.agg #[.int .i64 1, .pointer none], .bool true]) ?_ rfl ?_
   ·simp [results, go_sem, s0, s1]
   ·exact GotJ.yes HV2.out HBW.out (int_ty _ _)


set_option maxHeartbeats 8000000 in
/-- equality -/
theorem op_eql {ok : Nat → Prop} {w : World} {a b : Sh} {ka kb : Int} {qa qb : Option Addr} {op : ByteArray} (ho1 : (op.toList == [61, 61]) = true) (ha : TyA ok w a (.agg #[.int .i64 ka, .pointer qa])) (hb : TyA ok w b (.agg #[.int .i64 kb, .pointer qb])) : Calls Tryz.prog 131 #[.string op, .agg #[.int .i64 ka, .pointer qa], .agg #[.int .i64 kb, .pointer qb]] w (GotJ ok w ((joinP a b).map fun _ => (0, 1))) := by
 have HO : Hid (∀ W, Calls Tryz.prog 47 #[.int .i64 1] W fun e w' => e = .returned (.agg #[.int .i64 1, .pointer none]) ∧ Below W.heap.size W w') := fun W => ronly_any 1 W
 have HJ : Hid (J3 w (((w.alloc (.cells #[.int .i64 ka, .pointer qa] 44)).alloc (.cells #[.int .i64 kb, .pointer qb] 44)).alloc (.cells #[.int .i64 0, .pointer none] 44)) ka qa kb qb) := J3.new w _ _ _ _
 have HJo : Hid (∀ W, Below w.heap.size w W → Calls Tryz.prog 129 #[.agg #[.int .i64 ka, .pointer qa], .agg #[.int .i64 kb, .pointer qb]] W (GotJ ok W (joinP a b))) := fun W hW => rjoin_any _ (ha.below hW) (hb.below hW)
 generalize hO : joinP a b = O at *
 clear ha hb hO
 have hj0 := HJ.out.a.c0
 have hj1 := HJ.out.a.c1
 have hj2 := HJ.out.b.c0
 have hj3 := HJ.out.b.c1
 cases hk : (ka == kb)
 all_goals
  go_enter Tryz.func131, Tryz.ntmps131
  go_wp2_with fail
  generalize ((w.alloc (.cells #[.int .i64 ka, .pointer qa] 44)).alloc (.cells #[.int .i64 kb, .pointer qb] 44)).alloc (.cells #[.int .i64 0, .pointer none] 44) = w3 at *
  go_at_call 129
  refine (HJo.out _ HJ.out.bel).mono ?_
  rintro e w4 ⟨hb4, k4, q4, yes, rfl, hy, hts⟩
  have ha4 := alloc_below w4 (.cells #[.int .i64 k4, .pointer q4] 44)
  have HJ5 : Hid (J3 w (w4.alloc (.cells #[.int .i64 k4, .pointer q4] 44)) ka qa kb qb) := (HJ.out.after hb4).after ha4
  have HY : Hid (yes = O.isSome) := hy
  clear hts hb4 ha4 HJo HJ hj0 hj1 hj2 hj3 hy
  go_wp2_with fail
  generalize hu : w4.heap.size = u at *
  generalize w4.alloc (.cells #[.int .i64 k4, .pointer q4] 44) = w5 at *
  clear hu
  go_at_call 47
  refine (HO.out _).mono ?_
  rintro e w6 ⟨rfl, hb6⟩
  have HJ6 : Hid (J3 w w6 ka qa kb qb) := HJ5.out.after hb6
  have r0 := HJ6.out.r.c0
  have r1 := HJ6.out.r.c1
  have f0 := HJ6.out.r.fz 0
  have f1 := HJ6.out.r.fz 1
  have rr := HJ6.out.r.lt
  obtain ⟨W, hW, hbW, _, hTW⟩ := HJ6.out.r.ret HJ6.out.bel (by omega) 1 none
  have HW : Hid (putY w6 (w.heap.size + 2) 1 none = W) := hW
  have s0 := hTW.c0
  have s1 := hTW.c1
  have HBW : Hid (Below w.heap.size w W) := hbW
  clear hW hbW hTW hb6 HJ6 HJ5 HO
  go_wp2
  have hW := HW.out
  unfold putY at hW
  rw [hW]
  refine bodyPost_ret (v := .tuple #[.agg #[.int .i64 1, .pointer none], .bool yes]) ?_ rfl ?_
  ·simp [results, go_sem, s0, s1]
  ·have hy := HY.out
   subst hy
   refine GotJ.bool (s := (0, 1)) ?_ HBW.out (int_ty _ _)
   cases O <;> simp
set_option maxHeartbeats 8000000 in
/-- one behind the other -/
theorem op_cat {ok : Nat → Prop} {w : World} {a b : Sh} {o : Option Sh} {ka kb : Int} {qa qb : Option Addr} {op : ByteArray} (ho1 : (op.toList == [61, 61]) = false) (ho2 : (op.toList == [60]) = false) (ho3 : (op.toList == [43, 43]) = true) (ha : TyA ok w a (.agg #[.int .i64 ka, .pointer qa])) (hb : TyA ok w b (.agg #[.int .i64 kb, .pointer qb])) (HV : Hid (o = (joinP a b).bind fun t => if ((ka == 2) || (ka == 3)) = true then some t else none)) : Calls Tryz.prog 131 #[.string op, .agg #[.int .i64 ka, .pointer qa], .agg #[.int .i64 kb, .pointer qb]] w (GotJ ok w o) := by
 have HJ : Hid (J3 w (((w.alloc (.cells #[.int .i64 ka, .pointer qa] 44)).alloc (.cells #[.int .i64 kb, .pointer qb] 44)).alloc (.cells #[.int .i64 0, .pointer none] 44)) ka qa kb qb) := J3.new w _ _ _ _
 have HJo : Hid (∀ W, Below w.heap.size w W → Calls Tryz.prog 129 #[.agg #[.int .i64 ka, .pointer qa], .agg #[.int .i64 kb, .pointer qb]] W (GotJ (fun g => ok g ∧ g ≠ w.heap.size + 2) W (joinP a b))) := fun W hW => by
  have h1 := (ha.all.imp (ok' := fun g => ok g ∧ g ≠ w.heap.size + 2) fun g _ hk => ⟨hk.1, by omega⟩).below hW
  have h2 := (hb.all.imp (ok' := fun g => ok g ∧ g ≠ w.heap.size + 2) fun g _ hk => ⟨hk.1, by omega⟩).below hW
  exact rjoin_any _ h1 h2
 generalize hO : joinP a b = O at *
 clear ha hb hO
 have hj0 := HJ.out.a.c0
 have hj1 := HJ.out.a.c1
 have hj2 := HJ.out.b.c0
 have hj3 := HJ.out.b.c1
 cases hk : (ka == kb)
 all_goals
  go_enter Tryz.func131, Tryz.ntmps131
  go_wp2_with fail
  generalize ((w.alloc (.cells #[.int .i64 ka, .pointer qa] 44)).alloc (.cells #[.int .i64 kb, .pointer qb] 44)).alloc (.cells #[.int .i64 0, .pointer none] 44) = w3 at *
  go_at_call 129
  refine (HJo.out _ HJ.out.bel).mono ?_
  rintro e w4 ⟨hb4, k4, q4, yes, rfl, hy, hts⟩
  have ha4 := alloc_below w4 (.cells #[.int .i64 k4, .pointer q4] 44)
  have HJ5 : Hid (J3 w (w4.alloc (.cells #[.int .i64 k4, .pointer q4] 44)) ka qa kb qb) := (HJ.out.after hb4).after ha4
  have HTs : Hid (∀ s, O = some s → TyA (fun g => ok g ∧ g ≠ w.heap.size + 2) (w4.alloc (.cells #[.int .i64 k4, .pointer q4] 44)) s (.agg #[.int .i64 k4, .pointer q4])) := fun s hs => (hts s hs).below ha4
  have HTu : Hid (TyAt (w4.alloc (.cells #[.int .i64 k4, .pointer q4] 44)) w4.heap.size k4 q4) := TyAt.new w4 k4 q4
  have HY : Hid (yes = O.isSome) := hy
  clear hts hb4 ha4 HJo HJ hj0 hj1 hj2 hj3 hy
  go_wp2_with fail
  generalize hu : w4.heap.size = u at *
  generalize w4.alloc (.cells #[.int .i64 k4, .pointer q4] 44) = w5 at *
  clear hu
  have r0 := HJ5.out.r.c0
  have r1 := HJ5.out.r.c1
  have f0 := HJ5.out.r.fz 0
  have f1 := HJ5.out.r.fz 1
  have rr := HJ5.out.r.lt
  have a0 := HJ5.out.a.c0
  have ra := HJ5.out.a.lt
  have u0 := HTu.out.c0
  have u1 := HTu.out.c1
  have u2 := HTu.out.lt
  obtain ⟨W, hW, hbW, _, hTW⟩ := HJ5.out.r.ret HJ5.out.bel (by omega) k4 q4
  have hdr : Below W.heap.size W W.drew := below_drewG (Below.refl _ _) 1
  have HW : Hid (putY w5 (w.heap.size + 2) k4 q4 = W) := hW
  have s0 := (hTW.below hdr hTW.lt).c0
  have s1 := (hTW.below hdr hTW.lt).c1
  have HBW : Hid (Below w.heap.size w W.drew) := hbW.trans (hdr.mono hbW.size)
  have HTW : Hid (∀ s, O = some s → TyA ok W.drew s (.agg #[.int .i64 k4, .pointer q4])) := fun s hs => by
   refine TyA.below ?_ hdr
   rw [← hW]
   exact ((HTs.out s hs).over (fun g hg => hg.2) k4 q4).imp fun g _ hg => hg.1
  clear hW hbW hTW HTs HTu HJ5 hdr
  cases O with
  | none =>
   have hy : yes = false := HY.out
   subst hy
   have HV2 : Hid (o = none) := by have := HV.out; show _ = _; simpa using this
   clear HY HV HTW
   go_big_region
   go_wp2
   have hW := HW.out
   unfold putY at hW
   rw [hW]
   generalize W.drew = V at *
   refine bodyPost_ret (v := .tuple #[.agg #[.int .i64 k4, .pointer q4], .bool false]) ?_ rfl ?_
   ·simp [results, go_sem, s0, s1]
   ·exact GotJ.no HV2.out HBW.out
  | some t =>
   have hy : yes = true := HY.out
   subst hy
   have HT2 : Hid (TyA ok W.drew t (.agg #[.int .i64 k4, .pointer q4])) := HTW.out t rfl
   cases h1 : (ka == 2)
   ·cases h2 : (ka == 3)
    ·have HV2 : Hid (o = none) := by have := HV.out; rw [h1, h2] at this; show _ = _; simpa using this
     clear HY HV HTW
     go_big_region
     go_wp2
     have hW := HW.out
     unfold putY at hW
     rw [hW]
     generalize W.drew = V at *
     refine bodyPost_ret (v := .tuple #[.agg #[.int .i64 k4, .pointer q4], .bool false]) ?_ rfl ?_
     ·simp [results, go_sem, s0, s1]
     ·exact GotJ.no HV2.out HBW.out
    ·have HV2 : Hid (o = some t) := by have := HV.out; rw [h1, h2] at this; show _ = _; simpa using this
     clear HY HV HTW
     go_big_region
     go_wp2
     have hW := HW.out
     unfold putY at hW
     rw [hW]
     generalize W.drew = V at *
     refine bodyPost_ret (v := .tuple #[.agg #[.int .i64 k4, .pointer q4], .bool true]) ?_ rfl ?_
     ·simp [results, go_sem, s0, s1]
     ·exact GotJ.yes HV2.out HBW.out HT2.out
   ·have HV2 : Hid (o = some t) := by have := HV.out; rw [h1] at this; show _ = _; simpa using this
    clear HY HV HTW
    go_big_region
    go_wp2
    have hW := HW.out
    unfold putY at hW
    rw [hW]
    generalize W.drew = V at *
    refine bodyPost_ret (v := .tuple #[.agg #[.int .i64 k4, .pointer q4], .bool true]) ?_ rfl ?_
    ·simp [results, go_sem, s0, s1]
    ·exact GotJ.yes HV2.out HBW.out HT2.out

theorem rtypeofop_any {ok : Nat → Prop} {w : World} {a b : Sh} {va vb : Value} (op : ByteArray) (ha : TyA ok w a va) (hb : TyA ok w b vb) : Calls Tryz.prog 131 #[.string op, va, vb] w (GotJ ok w (opP op.toList a b)) := by
 obtain ⟨qa, rfl⟩ := ha.shape
 obtain ⟨qb, rfl⟩ := hb.shape
 unfold opP
 cases h1 : (op.toList == [61, 61])
 ·cases h2 : (op.toList == [60])
  ·cases h3 : (op.toList == [43, 43])
   ·refine op_num h1 h2 h3 ?_
    show _ = _
    rw [← num_kinds ha.ok hb.ok]
    simp
   ·refine op_cat h1 h2 h3 ha hb ?_
    show _ = _
    rw [← cat_kinds ha.ok]
    simp
  ·refine op_less h1 h2 ?_
   show _ = _
   rw [← lt_kinds ha.ok hb.ok]
   simp
 ·exact op_eql h1 ha hb

end Go.Proofs.YtgmmfpdekefamaaGreatDoor

namespace Go.Proofs.YtgmmfpdekefamaaGreatDoor
open Go.RowKit
set_option linter.unusedVariables false
set_option maxRecDepth 100000

/-- what a function gives -/
def lenB (s : Sh) : Bool := decide (s = (0, 2)) || decide (1 ≤ s.1)
def intB (a b : Sh) : Bool := decide (a = (0, 2)) && decide (b = (0, 1))
def nodeB (a b : Sh) : Bool := decide (a = (0, 2)) && fitP b (1, 4)
def atP (a b c : Sh) : Option Sh := if (decide (1 ≤ a.1) && decide (b = (0, 1))) = true then (if a = (1, 0) then some c else joinP (a.1 - 1, a.2) c) else none
def callP (f : List UInt8) (l : List Sh) : Option Sh :=
 if f == [108, 101, 110] then (if lenB (l.getD 0 noS) = true then some (0, 1) else none)
 else if f == [97, 116] then atP (l.getD 0 noS) (l.getD 1 noS) (l.getD 2 noS)
 else if f == [116, 101, 120, 116] then (if decide (l.getD 0 noS = (0, 1)) = true then some (0, 2) else none)
 else if f == [105, 110, 116] then (if intB (l.getD 0 noS) (l.getD 1 noS) = true then some (0, 1) else none)
 else if f == [110, 111, 100, 101] then (if nodeB (l.getD 0 noS) (l.getD 1 noS) = true then some (0, 4) else none)
 else if f == [116, 97, 103] then (if decide (l.getD 0 noS = (0, 4)) = true then some (0, 2) else none)
 else if decide (l.getD 0 noS = (0, 4)) = true then some (1, 4) else none

/-- the block of what is answered -/
structure J1 (w W : World) : Prop where
 bel : Below w.heap.size w W
 r : TyAt W w.heap.size 0 none
theorem J1.new (w : World) : J1 w (w.alloc (.cells #[.int .i64 0, .pointer none] 44)) := ⟨alloc_below w _, TyAt.new w 0 none⟩
theorem J1.after {w W W' : World} (h : J1 w W) (hb : Below W.heap.size W W') : J1 w W' := ⟨h.bel.trans (hb.mono h.bel.size), h.r.below hb h.r.lt⟩
/-- the first three types of a row -/
theorem TysR.three {ok : Nat → Prop} {w : World} {a : Option Addr} {n c : Nat} {l : List Sh} (h : TysR ok w (.slice a n c) l) (h0 : 0 < l.length) : ∃ g off q0 q1 q2, a = some ⟨g, off, none⟩ ∧ g < w.heap.size ∧ w.cell? ⟨g, off, none⟩ = some (.int .i64 (kd (l.getD 0 noS))) ∧ w.cell? ⟨g, off + 1, none⟩ = some (.pointer q0) ∧ TyA ok w (l.getD 0 noS) (.agg #[.int .i64 (kd (l.getD 0 noS)), .pointer q0]) ∧
  (1 < l.length → w.cell? ⟨g, off + 2, none⟩ = some (.int .i64 (kd (l.getD 1 noS))) ∧ w.cell? ⟨g, off + 3, none⟩ = some (.pointer q1) ∧ TyA ok w (l.getD 1 noS) (.agg #[.int .i64 (kd (l.getD 1 noS)), .pointer q1])) ∧
  (2 < l.length → w.cell? ⟨g, off + 4, none⟩ = some (.int .i64 (kd (l.getD 2 noS))) ∧ w.cell? ⟨g, off + 5, none⟩ = some (.pointer q2) ∧ TyA ok w (l.getD 2 noS) (.agg #[.int .i64 (kd (l.getD 2 noS)), .pointer q2])) := by
 obtain ⟨g, off, q0, rfl, hg, c0, c1, t0⟩ := h.at h0
 have k1 : ∃ q1, (1 < l.length → w.cell? ⟨g, off + 2, none⟩ = some (.int .i64 (kd (l.getD 1 noS))) ∧ w.cell? ⟨g, off + 3, none⟩ = some (.pointer q1) ∧ TyA ok w (l.getD 1 noS) (.agg #[.int .i64 (kd (l.getD 1 noS)), .pointer q1])) := by
  by_cases h1 : 1 < l.length
  ·obtain ⟨g', off', q1, e, _, d0, d1, t1⟩ := h.at h1
   simp only [Option.some.injEq, Addr.mk.injEq, and_true] at e
   obtain ⟨rfl, rfl⟩ := e
   exact ⟨q1, fun _ => ⟨d0, d1, t1⟩⟩
  ·exact ⟨none, fun h => absurd h h1⟩
 have k2 : ∃ q2, (2 < l.length → w.cell? ⟨g, off + 4, none⟩ = some (.int .i64 (kd (l.getD 2 noS))) ∧ w.cell? ⟨g, off + 5, none⟩ = some (.pointer q2) ∧ TyA ok w (l.getD 2 noS) (.agg #[.int .i64 (kd (l.getD 2 noS)), .pointer q2])) := by
  by_cases h1 : 2 < l.length
  ·obtain ⟨g', off', q1, e, _, d0, d1, t1⟩ := h.at h1
   simp only [Option.some.injEq, Addr.mk.injEq, and_true] at e
   obtain ⟨rfl, rfl⟩ := e
   exact ⟨q1, fun _ => ⟨d0, d1, t1⟩⟩
  ·exact ⟨none, fun h => absurd h h1⟩
 obtain ⟨q1, k1⟩ := k1
 obtain ⟨q2, k2⟩ := k2
 exact ⟨g, off, q0, q1, q2, rfl, hg, by simpa using c0, by simpa using c1, t0, k1, k2⟩

set_option maxHeartbeats 8000000 in
theorem call_len {ok : Nat → Prop} {w : World} {o : Option Sh} {f : ByteArray} {k : Int} {g off m c : Nat} (h_len : (f.toList == [108, 101, 110]) = true) (hm : 0 < m) (hg : g < w.heap.size) (c0 : w.cell? ⟨g, off, none⟩ = some (.int .i64 k)) (HV : Hid (o = if ((k == 2) || (k == 3)) = true then some (0, 1) else none)) :
  Calls Tryz.prog 132 #[.string f, .slice (some ⟨g, off, none⟩) m c] w (GotJ ok w o) := by
 have HO : Hid (∀ W, Calls Tryz.prog 47 #[.int .i64 1] W fun e w' => e = .returned (.agg #[.int .i64 1, .pointer none]) ∧ Below W.heap.size W w') := fun W => ronly_any 1 W
 have HJ : Hid (J1 w (w.alloc (.cells #[.int .i64 0, .pointer none] 44))) := J1.new w
 cases h1 : (k == 2)
 ·cases h2 : (k == 3)
  ·have HV2 : Hid (o = none) := by have := HV.out; rw [h1, h2] at this; show _ = _; simpa using this
   clear HV
   go_enter Tryz.func132, Tryz.ntmps132
   go_wp2_with fail
   generalize w.alloc (.cells #[.int .i64 0, .pointer none] 44) = w1 at *
   go_at_call 47
   refine (HO.out _).mono ?_
   rintro e w4 ⟨rfl, hb4⟩
   have HJ4 : Hid (J1 w w4) := HJ.out.after hb4
   clear hb4 HO HJ
   have r0 := HJ4.out.r.c0
   have r1 := HJ4.out.r.c1
   have f0 := HJ4.out.r.fz 0
   have f1 := HJ4.out.r.fz 1
   have rr := HJ4.out.r.lt
   obtain ⟨W, hW, hbW, _, hTW⟩ := HJ4.out.r.ret HJ4.out.bel (Nat.le_refl _) 1 none
   have HW : Hid (putY w4 w.heap.size 1 none = W) := hW
   have s0 := hTW.c0
   have s1 := hTW.c1
   have HBW : Hid (Below w.heap.size w W) := hbW
   clear hW hbW hTW HJ4
   go_wp2
   have hW := HW.out
   unfold putY at hW
   rw [hW]
   refine bodyPost_ret (v := .tuple #[.agg #[.int .i64 1, .pointer none], .bool false]) ?_ rfl ?_
   ·simp [results, go_sem, s0, s1]
   ·exact GotJ.no HV2.out HBW.out
  ·have HV2 : Hid (o = some (0, 1)) := by have := HV.out; rw [h1, h2] at this; show _ = _; simpa using this
   clear HV
   go_enter Tryz.func132, Tryz.ntmps132
   go_wp2_with fail
   generalize w.alloc (.cells #[.int .i64 0, .pointer none] 44) = w1 at *
   go_at_call 47
   refine (HO.out _).mono ?_
   rintro e w4 ⟨rfl, hb4⟩
   have HJ4 : Hid (J1 w w4) := HJ.out.after hb4
   clear hb4 HO HJ
   have r0 := HJ4.out.r.c0
   have r1 := HJ4.out.r.c1
   have f0 := HJ4.out.r.fz 0
   have f1 := HJ4.out.r.fz 1
   have rr := HJ4.out.r.lt
   obtain ⟨W, hW, hbW, _, hTW⟩ := HJ4.out.r.ret HJ4.out.bel (Nat.le_refl _) 1 none
   have HW : Hid (putY w4 w.heap.size 1 none = W) := hW
   have s0 := hTW.c0
   have s1 := hTW.c1
   have HBW : Hid (Below w.heap.size w W) := hbW
   clear hW hbW hTW HJ4
   go_wp2
   have hW := HW.out
   unfold putY at hW
   rw [hW]
   refine bodyPost_ret (v := .tuple #[.agg #[.int .i64 1, .pointer none], .bool true]) ?_ rfl ?_
   ·simp [results, go_sem, s0, s1]
   ·exact GotJ.yes HV2.out HBW.out (int_ty _ _)
 ·have HV2 : Hid (o = some (0, 1)) := by have := HV.out; rw [h1] at this; show _ = _; simpa using this
  clear HV
  go_enter Tryz.func132, Tryz.ntmps132
  go_wp2_with fail
  generalize w.alloc (.cells #[.int .i64 0, .pointer none] 44) = w1 at *
  go_at_call 47
  refine (HO.out _).mono ?_
  rintro e w4 ⟨rfl, hb4⟩
  have HJ4 : Hid (J1 w w4) := HJ.out.after hb4
  clear hb4 HO HJ
  have r0 := HJ4.out.r.c0
  have r1 := HJ4.out.r.c1
  have f0 := HJ4.out.r.fz 0
  have f1 := HJ4.out.r.fz 1
  have rr := HJ4.out.r.lt
  obtain ⟨W, hW, hbW, _, hTW⟩ := HJ4.out.r.ret HJ4.out.bel (Nat.le_refl _) 1 none
  have HW : Hid (putY w4 w.heap.size 1 none = W) := hW
  have s0 := hTW.c0
  have s1 := hTW.c1
  have HBW : Hid (Below w.heap.size w W) := hbW
  clear hW hbW hTW HJ4
  go_wp2
  have hW := HW.out
  unfold putY at hW
  rw [hW]
  refine bodyPost_ret (v := .tuple #[.agg #[.int .i64 1, .pointer none], .bool true]) ?_ rfl ?_
  ·simp [results, go_sem, s0, s1]
  ·exact GotJ.yes HV2.out HBW.out (int_ty _ _)

set_option maxHeartbeats 8000000 in
theorem call_text {ok : Nat → Prop} {w : World} {o : Option Sh} {f : ByteArray} {k : Int} {g off m c : Nat} (h_len : (f.toList == [108, 101, 110]) = false) (h_at : (f.toList == [97, 116]) = false) (h_text : (f.toList == [116, 101, 120, 116]) = true) (hm : 0 < m) (hg : g < w.heap.size) (c0 : w.cell? ⟨g, off, none⟩ = some (.int .i64 k)) (HV : Hid (o = if ((k == 1)) = true then some (0, 2) else none)) :
  Calls Tryz.prog 132 #[.string f, .slice (some ⟨g, off, none⟩) m c] w (GotJ ok w o) := by
 have HO : Hid (∀ W, Calls Tryz.prog 47 #[.int .i64 2] W fun e w' => e = .returned (.agg #[.int .i64 2, .pointer none]) ∧ Below W.heap.size W w') := fun W => ronly_any 2 W
 have HJ : Hid (J1 w (w.alloc (.cells #[.int .i64 0, .pointer none] 44))) := J1.new w
 cases h1 : (k == 1)
 ·have HV2 : Hid (o = none) := by have := HV.out; rw [h1] at this; show _ = _; simpa using this
  clear HV
  go_enter Tryz.func132, Tryz.ntmps132
  go_wp2_with fail
  generalize w.alloc (.cells #[.int .i64 0, .pointer none] 44) = w1 at *
  go_at_call 47
  refine (HO.out _).mono ?_
  rintro e w4 ⟨rfl, hb4⟩
  have HJ4 : Hid (J1 w w4) := HJ.out.after hb4
  clear hb4 HO HJ
  have r0 := HJ4.out.r.c0
  have r1 := HJ4.out.r.c1
  have f0 := HJ4.out.r.fz 0
  have f1 := HJ4.out.r.fz 1
  have rr := HJ4.out.r.lt
  obtain ⟨W, hW, hbW, _, hTW⟩ := HJ4.out.r.ret HJ4.out.bel (Nat.le_refl _) 2 none
  have HW : Hid (putY w4 w.heap.size 2 none = W) := hW
  have s0 := hTW.c0
  have s1 := hTW.c1
  have HBW : Hid (Below w.heap.size w W) := hbW
  clear hW hbW hTW HJ4
  go_wp2
  have hW := HW.out
  unfold putY at hW
  rw [hW]
  refine bodyPost_ret (v := .tuple #[.agg #[.int .i64 2, .pointer none], .bool false]) ?_ rfl ?_
  ·simp [results, go_sem, s0, s1]
  ·exact GotJ.no HV2.out HBW.out
 ·have HV2 : Hid (o = some (0, 2)) := by have := HV.out; rw [h1] at this; show _ = _; simpa using this
  clear HV
  go_enter Tryz.func132, Tryz.ntmps132
  go_wp2_with fail
  generalize w.alloc (.cells #[.int .i64 0, .pointer none] 44) = w1 at *
  go_at_call 47
  refine (HO.out _).mono ?_
  rintro e w4 ⟨rfl, hb4⟩
  have HJ4 : Hid (J1 w w4) := HJ.out.after hb4
  clear hb4 HO HJ
  have r0 := HJ4.out.r.c0
  have r1 := HJ4.out.r.c1
  have f0 := HJ4.out.r.fz 0
  have f1 := HJ4.out.r.fz 1
  have rr := HJ4.out.r.lt
  obtain ⟨W, hW, hbW, _, hTW⟩ := HJ4.out.r.ret HJ4.out.bel (Nat.le_refl _) 2 none
  have HW : Hid (putY w4 w.heap.size 2 none = W) := hW
  have s0 := hTW.c0
  have s1 := hTW.c1
  have HBW : Hid (Below w.heap.size w W) := hbW
  clear hW hbW hTW HJ4
  go_wp2
  have hW := HW.out
  unfold putY at hW
  rw [hW]
  refine bodyPost_ret (v := .tuple #[.agg #[.int .i64 2, .pointer none], .bool true]) ?_ rfl ?_
  ·simp [results, go_sem, s0, s1]
  ·exact GotJ.yes HV2.out HBW.out (text_ty _ _)

set_option maxHeartbeats 8000000 in
theorem call_tag {ok : Nat → Prop} {w : World} {o : Option Sh} {f : ByteArray} {k : Int} {g off m c : Nat} (h_len : (f.toList == [108, 101, 110]) = false) (h_at : (f.toList == [97, 116]) = false) (h_text : (f.toList == [116, 101, 120, 116]) = false) (h_int : (f.toList == [105, 110, 116]) = false) (h_node : (f.toList == [110, 111, 100, 101]) = false) (h_tag : (f.toList == [116, 97, 103]) = true) (hm : 0 < m) (hg : g < w.heap.size) (c0 : w.cell? ⟨g, off, none⟩ = some (.int .i64 k)) (HV : Hid (o = if ((k == 4)) = true then some (0, 2) else none)) :
  Calls Tryz.prog 132 #[.string f, .slice (some ⟨g, off, none⟩) m c] w (GotJ ok w o) := by
 have HO : Hid (∀ W, Calls Tryz.prog 47 #[.int .i64 2] W fun e w' => e = .returned (.agg #[.int .i64 2, .pointer none]) ∧ Below W.heap.size W w') := fun W => ronly_any 2 W
 have HJ : Hid (J1 w (w.alloc (.cells #[.int .i64 0, .pointer none] 44))) := J1.new w
 cases h1 : (k == 4)
 ·have HV2 : Hid (o = none) := by have := HV.out; rw [h1] at this; show _ = _; simpa using this
  clear HV
  go_enter Tryz.func132, Tryz.ntmps132
  go_wp2_with fail
  generalize w.alloc (.cells #[.int .i64 0, .pointer none] 44) = w1 at *
  go_at_call 47
  refine (HO.out _).mono ?_
  rintro e w4 ⟨rfl, hb4⟩
  have HJ4 : Hid (J1 w w4) := HJ.out.after hb4
  clear hb4 HO HJ
  have r0 := HJ4.out.r.c0
  have r1 := HJ4.out.r.c1
  have f0 := HJ4.out.r.fz 0
  have f1 := HJ4.out.r.fz 1
  have rr := HJ4.out.r.lt
  obtain ⟨W, hW, hbW, _, hTW⟩ := HJ4.out.r.ret HJ4.out.bel (Nat.le_refl _) 2 none
  have HW : Hid (putY w4 w.heap.size 2 none = W) := hW
  have s0 := hTW.c0
  have s1 := hTW.c1
  have HBW : Hid (Below w.heap.size w W) := hbW
  clear hW hbW hTW HJ4
  go_wp2
  have hW := HW.out
  unfold putY at hW
  rw [hW]
  refine bodyPost_ret (v := .tuple #[.agg #[.int .i64 2, .pointer none], .bool false]) ?_ rfl ?_
  ·simp [results, go_sem, s0, s1]
  ·exact GotJ.no HV2.out HBW.out
 ·have HV2 : Hid (o = some (0, 2)) := by have := HV.out; rw [h1] at this; show _ = _; simpa using this
  clear HV
  go_enter Tryz.func132, Tryz.ntmps132
  go_wp2_with fail
  generalize w.alloc (.cells #[.int .i64 0, .pointer none] 44) = w1 at *
  go_at_call 47
  refine (HO.out _).mono ?_
  rintro e w4 ⟨rfl, hb4⟩
  have HJ4 : Hid (J1 w w4) := HJ.out.after hb4
  clear hb4 HO HJ
  have r0 := HJ4.out.r.c0
  have r1 := HJ4.out.r.c1
  have f0 := HJ4.out.r.fz 0
  have f1 := HJ4.out.r.fz 1
  have rr := HJ4.out.r.lt
  obtain ⟨W, hW, hbW, _, hTW⟩ := HJ4.out.r.ret HJ4.out.bel (Nat.le_refl _) 2 none
  have HW : Hid (putY w4 w.heap.size 2 none = W) := hW
  have s0 := hTW.c0
  have s1 := hTW.c1
  have HBW : Hid (Below w.heap.size w W) := hbW
  clear hW hbW hTW HJ4
  go_wp2
  have hW := HW.out
  unfold putY at hW
  rw [hW]
  refine bodyPost_ret (v := .tuple #[.agg #[.int .i64 2, .pointer none], .bool true]) ?_ rfl ?_
  ·simp [results, go_sem, s0, s1]
  ·exact GotJ.yes HV2.out HBW.out (text_ty _ _)

end Go.Proofs.YtgmmfpdekefamaaGreatDoor
