/- Texts of the proof, put together: QTyc2, QTyc3. -/
import Derived.Test.YtgmmfpdekefamaaGreatDoorAt08
namespace Go.Proofs.YtgmmfpdekefamaaGreatDoor
open Go.RowKit
set_option linter.unusedVariables false
set_option maxRecDepth 100000


set_option maxHeartbeats 8000000 in
theorem call_int {ok : Nat → Prop} {w : World} {o : Option Sh} {f : ByteArray} {k k1 : Int} {g off m c : Nat} (h_len : (f.toList == [108, 101, 110]) = false) (h_at : (f.toList == [97, 116]) = false) (h_text : (f.toList == [116, 101, 120, 116]) = false) (h_int : (f.toList == [105, 110, 116]) = true) (hm : 1 < m) (hg : g < w.heap.size) (c0 : w.cell? ⟨g, off, none⟩ = some (.int .i64 k)) (c2 : w.cell? ⟨g, off + 2, none⟩ = some (.int .i64 k1)) (HV : Hid (o = if ((k == 2) && (k1 == 1)) = true then some (0, 1) else none)) :
  Calls Tryz.prog 132 #[.string f, .slice (some ⟨g, off, none⟩) m c] w (GotJ ok w o) := by
 have HO : Hid (∀ W, Calls Tryz.prog 47 #[.int .i64 1] W fun e w' => e = .returned (.agg #[.int .i64 1, .pointer none]) ∧ Below W.heap.size W w') := fun W => ronly_any 1 W
 have HJ : Hid (J1 w (w.alloc (.cells #[.int .i64 0, .pointer none] 44))) := J1.new w
 have hm0 : 0 < m := by omega
 have hmI : (1 : Int) < (m : Int) := by omega
 cases h1 : (k == 2)
 ·have HV2 : Hid (o = none) := by have := HV.out; rw [h1] at this; show _ = _; simpa using this
  clear HV
  go_enter Tryz.func132, Tryz.ntmps132
  go_wp2_with fail
  generalize w.alloc (.cells #[.int .i64 0, .pointer none] 44) = w1 at *
  have hb1 := HJ.out.bel
  have d2 : w1.cell? ⟨g, off + 2, none⟩ = some (.int .i64 k1) := (hb1.cell (p := ⟨g, off + 2, none⟩) hg).trans c2
  have hg1 : g < w1.heap.size := Nat.lt_of_lt_of_le hg hb1.size
  refine wp_region_held_drew (S := fun w' => w'.cell? ⟨g, off + 2, none⟩ = some (.int .i64 k1)) (by kernel_rfl) d2 (fun hHeld => ?_)
  refine wpAnyH_take (i := 1) (v := ?_) rfl (by kernel_rfl) (by kernel_rfl) (by kernel_rfl) (fun _ _ _ h => h) (Or.inl ⟨by rfl, ?_⟩) (by assumption) ?_
  rotate_left
  ·(intro w hSw; (try dsimp only at hSw); go_simp; first | done | with_reducible rfl)
  refine wpAnyH_take (i := 2) (v := ?_) rfl (by kernel_rfl) (by kernel_rfl) (by kernel_rfl) (fun _ _ _ h => h) (Or.inl ⟨by rfl, ?_⟩) (by assumption) ?_
  rotate_left
  ·(intro w hSw; (try dsimp only at hSw); go_simp; first | done | with_reducible rfl)
  simp only [Act.put, List.getElem_toArray, List.getElem_cons_succ, List.getElem_cons_zero, List.setIfInBounds_toArray, List.set_cons_zero, List.set_cons_succ]
  refine wpAnyH_ready (rs := [0]) (by kernel_rfl) (by simp) ?_
  refine AllReadyH.cons rfl (fun K hK => ?_) AllReadyH.nil
  go_simp
  go_wp2_with (go_at_call 47; refine (HO.out _).mono ?_; rintro e w4 ⟨rfl, hb4⟩)
  refine hK.out _ _ ((hb4.cell (p := ⟨g, off + 2, none⟩) hg1).trans d2) (fun hHeld => ?_)
  clear hK K
  have hb4' : Below w1.heap.size w1 w4 := (below_drewG (Below.refl _ _) 1).trans hb4
  have HJ4 : Hid (J1 w w4) := HJ.out.after hb4'
  refine wpAnyH_take (i := 3) (v := ?_) rfl (by kernel_rfl) (by kernel_rfl) (by kernel_rfl) (fun _ _ _ h => h) (Or.inl ⟨by rfl, ?_⟩) (by assumption) ?_
  rotate_left
  ·(intro w hSw; (try dsimp only at hSw); go_simp; first | done | with_reducible rfl)
  refine wpAnyH_take (i := 4) (v := undef) rfl (by kernel_rfl) (by kernel_rfl) (by kernel_rfl) (fun _ _ _ h => h) (Or.inr ⟨by kernel_rfl, rfl⟩) (by assumption) ?_
  refine wpAnyH_take (i := 5) (v := undef) rfl (by kernel_rfl) (by kernel_rfl) (by kernel_rfl) (fun _ _ _ h => h) (Or.inr ⟨by kernel_rfl, rfl⟩) (by assumption) ?_
  refine wpAnyH_take (i := 6) (v := undef) rfl (by kernel_rfl) (by kernel_rfl) (by kernel_rfl) (fun _ _ _ h => h) (Or.inr ⟨by kernel_rfl, rfl⟩) (by assumption) ?_
  refine wpAnyH_take (i := 7) (v := undef) rfl (by kernel_rfl) (by kernel_rfl) (by kernel_rfl) (fun _ _ _ h => h) (Or.inr ⟨by kernel_rfl, rfl⟩) (by assumption) ?_
  refine wpAnyH_take (i := 8) (v := undef) rfl (by kernel_rfl) (by kernel_rfl) (by kernel_rfl) (fun _ _ _ h => h) (Or.inr ⟨by kernel_rfl, rfl⟩) (by assumption) ?_
  refine wpAnyH_take (i := 9) (v := ?_) rfl (by kernel_rfl) (by kernel_rfl) (by kernel_rfl) (fun _ _ _ h => h) (Or.inl ⟨by rfl, ?_⟩) (by assumption) ?_
  rotate_left
  ·(intro w hSw; (try dsimp only at hSw); go_simp; first | done | with_reducible rfl)
  simp only [Act.put, List.getElem_toArray, List.getElem_cons_succ, List.getElem_cons_zero, List.setIfInBounds_toArray, List.set_cons_zero, List.set_cons_succ]
  have r0 := HJ4.out.r.c0
  have r1 := HJ4.out.r.c1
  have f0 := HJ4.out.r.fz 0
  have f1 := HJ4.out.r.fz 1
  have rr := HJ4.out.r.lt
  obtain ⟨W, hW, hbW, _, hTW⟩ := HJ4.out.r.ret HJ4.out.bel (Nat.le_refl _) 1 none
  have HW : Hid (putY w4 w.heap.size 1 none = W) := hW
  have s0 := hTW.c0
  have s1 := hTW.c1
  have HA5 : Hid (W.cell? ⟨g, off + 2, none⟩ = some (.int .i64 k1)) := (hbW.cell (p := ⟨g, off + 2, none⟩) hg).trans c2
  have HBW : Hid (Below w.heap.size w W) := hbW
  clear hW hbW hTW hb4 hb4' HJ4 HJ HO hb1
  refine wpAnyH_ready (rs := [10]) (by kernel_rfl) (by simp) ?_
  refine AllReadyH.cons rfl (fun K hK => ?_) AllReadyH.nil
  go_simp
  have hW := HW.out
  unfold putY at hW
  rw [hW]
  clear hW HW r0 r1 f0 f1 rr
  refine hK.out _ _ HA5.out (fun hHeld => ?_)
  clear hK K
  refine wpAnyH_take (i := 11) (v := ?_) rfl (by kernel_rfl) (by kernel_rfl) (by kernel_rfl) (fun _ _ _ h => h) (Or.inl ⟨by rfl, ?_⟩) (by assumption) ?_
  rotate_left
  ·(intro w hSw; (try dsimp only at hSw); go_simp; first | done | with_reducible rfl)
  simp only [Act.put, List.getElem_toArray, List.getElem_cons_succ, List.getElem_cons_zero, List.setIfInBounds_toArray, List.set_cons_zero, List.set_cons_succ]
  refine wpAnyH_done (by kernel_rfl) ?_ _
  go_wp2
  refine bodyPost_ret (v := .tuple #[.agg #[.int .i64 1, .pointer none], .bool false]) ?_ rfl ?_
  ·simp [results, go_sem, s0, s1]
  ·exact GotJ.no HV2.out HBW.out
 ·cases h2 : (k1 == 1)
  ·have HV2 : Hid (o = none) := by have := HV.out; rw [h1, h2] at this; show _ = _; simpa using this
   clear HV
   go_enter Tryz.func132, Tryz.ntmps132
   go_wp2_with fail
   generalize w.alloc (.cells #[.int .i64 0, .pointer none] 44) = w1 at *
   have hb1 := HJ.out.bel
   have d2 : w1.cell? ⟨g, off + 2, none⟩ = some (.int .i64 k1) := (hb1.cell (p := ⟨g, off + 2, none⟩) hg).trans c2
   have hg1 : g < w1.heap.size := Nat.lt_of_lt_of_le hg hb1.size
   refine wp_region_held_drew (S := fun w' => w'.cell? ⟨g, off + 2, none⟩ = some (.int .i64 k1)) (by kernel_rfl) d2 (fun hHeld => ?_)
   refine wpAnyH_take (i := 1) (v := ?_) rfl (by kernel_rfl) (by kernel_rfl) (by kernel_rfl) (fun _ _ _ h => h) (Or.inl ⟨by rfl, ?_⟩) (by assumption) ?_
   rotate_left
   ·(intro w hSw; (try dsimp only at hSw); go_simp; first | done | with_reducible rfl)
   refine wpAnyH_take (i := 2) (v := ?_) rfl (by kernel_rfl) (by kernel_rfl) (by kernel_rfl) (fun _ _ _ h => h) (Or.inl ⟨by rfl, ?_⟩) (by assumption) ?_
   rotate_left
   ·(intro w hSw; (try dsimp only at hSw); go_simp; first | done | with_reducible rfl)
   simp only [Act.put, List.getElem_toArray, List.getElem_cons_succ, List.getElem_cons_zero, List.setIfInBounds_toArray, List.set_cons_zero, List.set_cons_succ]
   refine wpAnyH_ready (rs := [0]) (by kernel_rfl) (by simp) ?_
   refine AllReadyH.cons rfl (fun K hK => ?_) AllReadyH.nil
   go_simp
   go_wp2_with (go_at_call 47; refine (HO.out _).mono ?_; rintro e w4 ⟨rfl, hb4⟩)
   refine hK.out _ _ ((hb4.cell (p := ⟨g, off + 2, none⟩) hg1).trans d2) (fun hHeld => ?_)
   clear hK K
   have hb4' : Below w1.heap.size w1 w4 := (below_drewG (Below.refl _ _) 1).trans hb4
   have HJ4 : Hid (J1 w w4) := HJ.out.after hb4'
   refine wpAnyH_take (i := 3) (v := ?_) rfl (by kernel_rfl) (by kernel_rfl) (by kernel_rfl) (fun _ _ _ h => h) (Or.inl ⟨by rfl, ?_⟩) (by assumption) ?_
   rotate_left
   ·(intro w hSw; (try dsimp only at hSw); go_simp; first | done | with_reducible rfl)
   refine wpAnyH_take (i := 4) (v := ?_) rfl (by kernel_rfl) (by kernel_rfl) (by kernel_rfl) (fun _ _ _ h => h) (Or.inl ⟨by rfl, ?_⟩) (by assumption) ?_
   rotate_left
   ·(intro w hSw; (try dsimp only at hSw); go_simp; first | done | with_reducible rfl)
   refine wpAnyH_take (i := 5) (v := ?_) rfl (by kernel_rfl) (by kernel_rfl) (by kernel_rfl) (fun _ _ _ h => h) (Or.inl ⟨by rfl, ?_⟩) (by assumption) ?_
   rotate_left
   ·(intro w hSw; (try dsimp only at hSw); go_simp; first | done | with_reducible rfl)
   refine wpAnyH_take (i := 6) (v := ?_) rfl (by kernel_rfl) (by kernel_rfl) (by kernel_rfl) (fun _ _ _ h => h) (Or.inl ⟨by rfl, ?_⟩) (by assumption) ?_
   rotate_left
   ·(intro w hSw; (try dsimp only at hSw); go_simp; first | done | with_reducible rfl)
   refine wpAnyH_take (i := 7) (v := ?_) rfl (by kernel_rfl) (by kernel_rfl) (by kernel_rfl) (fun _ _ _ h => h) (Or.inl ⟨by rfl, ?_⟩) (by assumption) ?_
   rotate_left
   ·(intro w hSw; (try dsimp only at hSw); go_simp; first | done | with_reducible rfl)
   refine wpAnyH_take (i := 8) (v := ?_) rfl (by kernel_rfl) (by kernel_rfl) (by kernel_rfl) (fun _ _ _ h => h) (Or.inl ⟨by rfl, ?_⟩) (by assumption) ?_
   rotate_left
   ·(intro w hSw; (try dsimp only at hSw); go_simp; first | done | with_reducible rfl)
   refine wpAnyH_take (i := 9) (v := ?_) rfl (by kernel_rfl) (by kernel_rfl) (by kernel_rfl) (fun _ _ _ h => h) (Or.inl ⟨by rfl, ?_⟩) (by assumption) ?_
   rotate_left
   ·(intro w hSw; (try dsimp only at hSw); go_simp; first | done | with_reducible rfl)
   simp only [Act.put, List.getElem_toArray, List.getElem_cons_succ, List.getElem_cons_zero, List.setIfInBounds_toArray, List.set_cons_zero, List.set_cons_succ]
   have r0 := HJ4.out.r.c0
   have r1 := HJ4.out.r.c1
   have f0 := HJ4.out.r.fz 0
   have f1 := HJ4.out.r.fz 1
   have rr := HJ4.out.r.lt
   obtain ⟨W, hW, hbW, _, hTW⟩ := HJ4.out.r.ret HJ4.out.bel (Nat.le_refl _) 1 none
   have HW : Hid (putY w4 w.heap.size 1 none = W) := hW
   have s0 := hTW.c0
   have s1 := hTW.c1
   have HA5 : Hid (W.cell? ⟨g, off + 2, none⟩ = some (.int .i64 k1)) := (hbW.cell (p := ⟨g, off + 2, none⟩) hg).trans c2
   have HBW : Hid (Below w.heap.size w W) := hbW
   clear hW hbW hTW hb4 hb4' HJ4 HJ HO hb1
   refine wpAnyH_ready (rs := [10]) (by kernel_rfl) (by simp) ?_
   refine AllReadyH.cons rfl (fun K hK => ?_) AllReadyH.nil
   go_simp
   have hW := HW.out
   unfold putY at hW
   rw [hW]
   clear hW HW r0 r1 f0 f1 rr
   refine hK.out _ _ HA5.out (fun hHeld => ?_)
   clear hK K
   refine wpAnyH_take (i := 11) (v := ?_) rfl (by kernel_rfl) (by kernel_rfl) (by kernel_rfl) (fun _ _ _ h => h) (Or.inl ⟨by rfl, ?_⟩) (by assumption) ?_
   rotate_left
   ·(intro w hSw; (try dsimp only at hSw); go_simp; first | done | with_reducible rfl)
   simp only [Act.put, List.getElem_toArray, List.getElem_cons_succ, List.getElem_cons_zero, List.setIfInBounds_toArray, List.set_cons_zero, List.set_cons_succ]
   refine wpAnyH_done (by kernel_rfl) ?_ _
   go_wp2
   refine bodyPost_ret (v := .tuple #[.agg #[.int .i64 1, .pointer none], .bool false]) ?_ rfl ?_
   ·simp [results, go_sem, s0, s1]
   ·exact GotJ.no HV2.out HBW.out
  ·have HV2 : Hid (o = some (0, 1)) := by have := HV.out; rw [h1, h2] at this; show _ = _; simpa using this
   clear HV
   go_enter Tryz.func132, Tryz.ntmps132
   go_wp2_with fail
   generalize w.alloc (.cells #[.int .i64 0, .pointer none] 44) = w1 at *
   have hb1 := HJ.out.bel
   have d2 : w1.cell? ⟨g, off + 2, none⟩ = some (.int .i64 k1) := (hb1.cell (p := ⟨g, off + 2, none⟩) hg).trans c2
   have hg1 : g < w1.heap.size := Nat.lt_of_lt_of_le hg hb1.size
   refine wp_region_held_drew (S := fun w' => w'.cell? ⟨g, off + 2, none⟩ = some (.int .i64 k1)) (by kernel_rfl) d2 (fun hHeld => ?_)
   refine wpAnyH_take (i := 1) (v := ?_) rfl (by kernel_rfl) (by kernel_rfl) (by kernel_rfl) (fun _ _ _ h => h) (Or.inl ⟨by rfl, ?_⟩) (by assumption) ?_
   rotate_left
   ·(intro w hSw; (try dsimp only at hSw); go_simp; first | done | with_reducible rfl)
   refine wpAnyH_take (i := 2) (v := ?_) rfl (by kernel_rfl) (by kernel_rfl) (by kernel_rfl) (fun _ _ _ h => h) (Or.inl ⟨by rfl, ?_⟩) (by assumption) ?_
   rotate_left
   ·(intro w hSw; (try dsimp only at hSw); go_simp; first | done | with_reducible rfl)
   simp only [Act.put, List.getElem_toArray, List.getElem_cons_succ, List.getElem_cons_zero, List.setIfInBounds_toArray, List.set_cons_zero, List.set_cons_succ]
   refine wpAnyH_ready (rs := [0]) (by kernel_rfl) (by simp) ?_
   refine AllReadyH.cons rfl (fun K hK => ?_) AllReadyH.nil
   go_simp
   go_wp2_with (go_at_call 47; refine (HO.out _).mono ?_; rintro e w4 ⟨rfl, hb4⟩)
   refine hK.out _ _ ((hb4.cell (p := ⟨g, off + 2, none⟩) hg1).trans d2) (fun hHeld => ?_)
   clear hK K
   have hb4' : Below w1.heap.size w1 w4 := (below_drewG (Below.refl _ _) 1).trans hb4
   have HJ4 : Hid (J1 w w4) := HJ.out.after hb4'
   refine wpAnyH_take (i := 3) (v := ?_) rfl (by kernel_rfl) (by kernel_rfl) (by kernel_rfl) (fun _ _ _ h => h) (Or.inl ⟨by rfl, ?_⟩) (by assumption) ?_
   rotate_left
   ·(intro w hSw; (try dsimp only at hSw); go_simp; first | done | with_reducible rfl)
   refine wpAnyH_take (i := 4) (v := ?_) rfl (by kernel_rfl) (by kernel_rfl) (by kernel_rfl) (fun _ _ _ h => h) (Or.inl ⟨by rfl, ?_⟩) (by assumption) ?_
   rotate_left
   ·(intro w hSw; (try dsimp only at hSw); go_simp; first | done | with_reducible rfl)
   refine wpAnyH_take (i := 5) (v := ?_) rfl (by kernel_rfl) (by kernel_rfl) (by kernel_rfl) (fun _ _ _ h => h) (Or.inl ⟨by rfl, ?_⟩) (by assumption) ?_
   rotate_left
   ·(intro w hSw; (try dsimp only at hSw); go_simp; first | done | with_reducible rfl)
   refine wpAnyH_take (i := 6) (v := ?_) rfl (by kernel_rfl) (by kernel_rfl) (by kernel_rfl) (fun _ _ _ h => h) (Or.inl ⟨by rfl, ?_⟩) (by assumption) ?_
   rotate_left
   ·(intro w hSw; (try dsimp only at hSw); go_simp; first | done | with_reducible rfl)
   refine wpAnyH_take (i := 7) (v := ?_) rfl (by kernel_rfl) (by kernel_rfl) (by kernel_rfl) (fun _ _ _ h => h) (Or.inl ⟨by rfl, ?_⟩) (by assumption) ?_
   rotate_left
   ·(intro w hSw; (try dsimp only at hSw); go_simp; first | done | with_reducible rfl)
   refine wpAnyH_take (i := 8) (v := ?_) rfl (by kernel_rfl) (by kernel_rfl) (by kernel_rfl) (fun _ _ _ h => h) (Or.inl ⟨by rfl, ?_⟩) (by assumption) ?_
   rotate_left
   ·(intro w hSw; (try dsimp only at hSw); go_simp; first | done | with_reducible rfl)
   refine wpAnyH_take (i := 9) (v := ?_) rfl (by kernel_rfl) (by kernel_rfl) (by kernel_rfl) (fun _ _ _ h => h) (Or.inl ⟨by rfl, ?_⟩) (by assumption) ?_
   rotate_left
   ·(intro w hSw; (try dsimp only at hSw); go_simp; first | done | with_reducible rfl)
   simp only [Act.put, List.getElem_toArray, List.getElem_cons_succ, List.getElem_cons_zero, List.setIfInBounds_toArray, List.set_cons_zero, List.set_cons_succ]
   have r0 := HJ4.out.r.c0
   have r1 := HJ4.out.r.c1
   have f0 := HJ4.out.r.fz 0
   have f1 := HJ4.out.r.fz 1
   have rr := HJ4.out.r.lt
   obtain ⟨W, hW, hbW, _, hTW⟩ := HJ4.out.r.ret HJ4.out.bel (Nat.le_refl _) 1 none
   have HW : Hid (putY w4 w.heap.size 1 none = W) := hW
   have s0 := hTW.c0
   have s1 := hTW.c1
   have HA5 : Hid (W.cell? ⟨g, off + 2, none⟩ = some (.int .i64 k1)) := (hbW.cell (p := ⟨g, off + 2, none⟩) hg).trans c2
   have HBW : Hid (Below w.heap.size w W) := hbW
   clear hW hbW hTW hb4 hb4' HJ4 HJ HO hb1
   refine wpAnyH_ready (rs := [10]) (by kernel_rfl) (by simp) ?_
   refine AllReadyH.cons rfl (fun K hK => ?_) AllReadyH.nil
   go_simp
   have hW := HW.out
   unfold putY at hW
   rw [hW]
   clear hW HW r0 r1 f0 f1 rr
   refine hK.out _ _ HA5.out (fun hHeld => ?_)
   clear hK K
   refine wpAnyH_take (i := 11) (v := ?_) rfl (by kernel_rfl) (by kernel_rfl) (by kernel_rfl) (fun _ _ _ h => h) (Or.inl ⟨by rfl, ?_⟩) (by assumption) ?_
   rotate_left
   ·(intro w hSw; (try dsimp only at hSw); go_simp; first | done | with_reducible rfl)
   simp only [Act.put, List.getElem_toArray, List.getElem_cons_succ, List.getElem_cons_zero, List.setIfInBounds_toArray, List.set_cons_zero, List.set_cons_succ]
   refine wpAnyH_done (by kernel_rfl) ?_ _
   go_wp2
   refine bodyPost_ret (v := .tuple #[.agg #[.int .i64 1, .pointer none], .bool true]) ?_ rfl ?_
   ·simp [results, go_sem, s0, s1]
   ·exact GotJ.yes HV2.out HBW.out (int_ty _ _)

set_option maxHeartbeats 8000000 in
theorem call_kids {ok : Nat → Prop} {w : World} {o : Option Sh} {f : ByteArray} {k k1 : Int} {g off m c : Nat} (h_len : (f.toList == [108, 101, 110]) = false) (h_at : (f.toList == [97, 116]) = false) (h_text : (f.toList == [116, 101, 120, 116]) = false) (h_int : (f.toList == [105, 110, 116]) = false) (h_node : (f.toList == [110, 111, 100, 101]) = false) (h_tag : (f.toList == [116, 97, 103]) = false) (hok : ∀ g, w.heap.size ≤ g → ok g) (hm : 0 < m) (hg : g < w.heap.size) (c0 : w.cell? ⟨g, off, none⟩ = some (.int .i64 k)) (HV : Hid (o = if (k == 4) = true then some (1, 4) else none)) :
  Calls Tryz.prog 132 #[.string f, .slice (some ⟨g, off, none⟩) m c] w (GotJ ok w o) := by
 have HO : Hid (∀ W, Calls Tryz.prog 47 #[.int .i64 4] W fun e w' => e = .returned (.agg #[.int .i64 4, .pointer none]) ∧ Below W.heap.size W w') := fun W => ronly_any 4 W
 have HL : Hid (∀ W, w.heap.size < W.heap.size → Calls Tryz.prog 168 #[.agg #[.int .i64 4, .pointer none]] W fun e w' => ∃ q', e = .returned (.agg #[.int .i64 3, .pointer q']) ∧ Below W.heap.size W w' ∧ TyA (fun g => ok g ∧ g ≠ w.heap.size) w' (1, 4) (.agg #[.int .i64 3, .pointer q'])) := fun W hW => rlistof_any (s := (0, 4)) (node_ty _ W) fun g hg => ⟨hok g (by omega), by omega⟩
 have HJ : Hid (J1 w (w.alloc (.cells #[.int .i64 0, .pointer none] 44))) := J1.new w
 clear hok
 cases h1 : (k == 4)
 all_goals
  go_enter Tryz.func132, Tryz.ntmps132
  go_wp2_with fail
  generalize w.alloc (.cells #[.int .i64 0, .pointer none] 44) = w1 at *
  go_at_call 47
  refine (HO.out _).mono ?_
  rintro e w4 ⟨rfl, hb4⟩
  have HJ4 := HJ.out.after hb4
  have ha4 := alloc_below w4 (.cells #[.int .i64 4, .pointer none] 44)
  have HJ5 : Hid (J1 w (w4.alloc (.cells #[.int .i64 4, .pointer none] 44))) := HJ4.after ha4
  have HTu : Hid (TyAt (w4.alloc (.cells #[.int .i64 4, .pointer none] 44)) w4.heap.size 4 none) := TyAt.new w4 4 none
  clear hb4 HO HJ HJ4 ha4
  go_wp2_with fail
  generalize hu : w4.heap.size = u at *
  generalize w4.alloc (.cells #[.int .i64 4, .pointer none] 44) = w5 at *
  clear hu
  have HL5 := HL.out w5 HJ5.out.r.lt
  go_at_call 168
  refine HL5.mono ?_
  rintro e w6 ⟨q, rfl, hb6, ht6⟩
  have HJ6 : Hid (J1 w w6) := HJ5.out.after hb6
  have HT6 : Hid (TyA (fun g => ok g ∧ g ≠ w.heap.size) w6 (1, 4) (.agg #[.int .i64 3, .pointer q])) := ht6
  clear hb6 ht6 HL HL5 HTu HJ5
  have r0 := HJ6.out.r.c0
  have r1 := HJ6.out.r.c1
  have f0 := HJ6.out.r.fz 0
  have f1 := HJ6.out.r.fz 1
  have rr := HJ6.out.r.lt
  obtain ⟨W, hW, hbW, _, hTW⟩ := HJ6.out.r.ret HJ6.out.bel (Nat.le_refl _) 3 q
  have HW : Hid (putY w6 w.heap.size 3 q = W) := hW
  have s0 := hTW.c0
  have s1 := hTW.c1
  have HBW : Hid (Below w.heap.size w W) := hbW
  have HT : Hid (TyA ok W (1, 4) (.agg #[.int .i64 3, .pointer q])) := by
   show TyA ok W _ _
   rw [← hW]
   exact (HT6.out.over (fun g hg => hg.2) 3 q).imp fun g _ hg => hg.1
  clear hW hbW hTW HJ6 HT6
  go_wp2
  have hW := HW.out
  unfold putY at hW
  rw [hW]
 ·refine bodyPost_ret (v := .tuple #[.agg #[.int .i64 3, .pointer q], .bool false]) ?_ rfl ?_
  ·simp [results, go_sem, s0, s1]
  ·exact GotJ.no (by have := HV.out; rw [h1] at this; simpa using this) HBW.out
 ·refine bodyPost_ret (v := .tuple #[.agg #[.int .i64 3, .pointer q], .bool true]) ?_ rfl ?_
  ·simp [results, go_sem, s0, s1]
  ·exact GotJ.yes (by have := HV.out; rw [h1] at this; simpa using this) HBW.out HT.out

end Go.Proofs.YtgmmfpdekefamaaGreatDoor

namespace Go.Proofs.YtgmmfpdekefamaaGreatDoor
open Go.RowKit
set_option linter.unusedVariables false
set_option maxRecDepth 100000


set_option maxHeartbeats 8000000 in
theorem call_node {ok : Nat → Prop} {w : World} {o : Option Sh} {f : ByteArray} {k : Int} {s1 : Sh} {q1 : Option Addr} {g off m c : Nat} (h_len : (f.toList == [108, 101, 110]) = false) (h_at : (f.toList == [97, 116]) = false) (h_text : (f.toList == [116, 101, 120, 116]) = false) (h_int : (f.toList == [105, 110, 116]) = false) (h_node : (f.toList == [110, 111, 100, 101]) = true) (hok : ∀ g, w.heap.size ≤ g → ok g) (hm : 1 < m) (hg : g < w.heap.size) (c0 : w.cell? ⟨g, off, none⟩ = some (.int .i64 k)) (c2 : w.cell? ⟨g, off + 2, none⟩ = some (.int .i64 (kd s1))) (c3 : w.cell? ⟨g, off + 3, none⟩ = some (.pointer q1)) (ht : TyA ok w s1 (.agg #[.int .i64 (kd s1), .pointer q1])) (HV : Hid (o = if ((k == 2) && fitP s1 (1, 4)) = true then some (0, 4) else none)) :
  Calls Tryz.prog 132 #[.string f, .slice (some ⟨g, off, none⟩) m c] w (GotJ ok w o) := by
 have HO : Hid (∀ W, Calls Tryz.prog 47 #[.int .i64 4] W fun e w' => e = .returned (.agg #[.int .i64 4, .pointer none]) ∧ Below W.heap.size W w') := fun W => ronly_any 4 W
 have HL : Hid (∀ W, w.heap.size < W.heap.size → Calls Tryz.prog 168 #[.agg #[.int .i64 4, .pointer none]] W fun e w' => ∃ q', e = .returned (.agg #[.int .i64 3, .pointer q']) ∧ Below W.heap.size W w' ∧ TyA ok w' (1, 4) (.agg #[.int .i64 3, .pointer q'])) := fun W hW => rlistof_any (s := (0, 4)) (node_ty _ W) fun g hg => hok g (by omega)
 have HF : Hid (∀ W q, Below w.heap.size w W → TyA ok W (1, 4) (.agg #[.int .i64 3, .pointer q]) → Calls Tryz.prog 167 #[.agg #[.int .i64 (kd s1), .pointer q1], .agg #[.int .i64 3, .pointer q]] W fun e w' => e = .returned (.bool (fitP s1 (1, 4))) ∧ Below W.heap.size W w') := fun W q hW h => rfits_any _ (ht.below hW) h
 have HJ : Hid (J1 w (w.alloc (.cells #[.int .i64 0, .pointer none] 44))) := J1.new w
 have hm0 : 0 < m := by omega
 have hmI : (1 : Int) < (m : Int) := by omega
 generalize hk1 : kd s1 = k1 at *
 generalize hfb : fitP s1 (1, 4) = fb at *
 clear hok ht hk1 hfb
 cases h1 : (k == 2)
 all_goals
  go_enter Tryz.func132, Tryz.ntmps132
  go_wp2_with fail
  generalize w.alloc (.cells #[.int .i64 0, .pointer none] 44) = w1 at *
  go_at_call 47
  refine (HO.out _).mono ?_
  rintro e w4 ⟨rfl, hb4⟩
  have HJ4 := HJ.out.after hb4
  have ha4 := alloc_below w4 (.cells #[.int .i64 4, .pointer none] 44)
  have HJ5 : Hid (J1 w (w4.alloc (.cells #[.int .i64 4, .pointer none] 44))) := HJ4.after ha4
  have HTu : Hid (TyAt (w4.alloc (.cells #[.int .i64 4, .pointer none] 44)) w4.heap.size 4 none) := TyAt.new w4 4 none
  clear hb4 HO HJ HJ4 ha4
  go_wp2_with fail
  generalize hu : w4.heap.size = u at *
  generalize w4.alloc (.cells #[.int .i64 4, .pointer none] 44) = w5 at *
  clear hu
  have HL5 := HL.out w5 HJ5.out.r.lt
  go_at_call 168
  refine HL5.mono ?_
  rintro e w6 ⟨q, rfl, hb6, ht6⟩
  have HJ6 := HJ5.out.after hb6
  have ha6 := alloc_below w6 (.cells #[.int .i64 3, .pointer q] 44)
  have HJ7 : Hid (J1 w (w6.alloc (.cells #[.int .i64 3, .pointer q] 44))) := HJ6.after ha6
  have HTu7 : Hid (TyAt (w6.alloc (.cells #[.int .i64 3, .pointer q] 44)) u 4 none) := (HTu.out.below hb6 HTu.out.lt).below ha6 (HTu.out.below hb6 HTu.out.lt).lt
  have HTv7 : Hid (TyAt (w6.alloc (.cells #[.int .i64 3, .pointer q] 44)) w6.heap.size 3 q) := TyAt.new w6 3 q
  have HT7 : Hid (TyA ok (w6.alloc (.cells #[.int .i64 3, .pointer q] 44)) (1, 4) (.agg #[.int .i64 3, .pointer q])) := ht6.below ha6
  clear hb6 ht6 HL HL5 HTu HJ5 HJ6 ha6
  go_wp2_with fail
  generalize hv : w6.heap.size = v at *
  generalize w6.alloc (.cells #[.int .i64 3, .pointer q] 44) = w7 at *
  clear hv
  have hb7 := HJ7.out.bel
  have hg7 : g < w7.heap.size := Nat.lt_of_lt_of_le hg hb7.size
  have d2 : w7.cell? ⟨g, off + 2, none⟩ = some (.int .i64 k1) := (hb7.cell (p := ⟨g, off + 2, none⟩) hg).trans c2
  have d3 : w7.cell? ⟨g, off + 3, none⟩ = some (.pointer q1) := (hb7.cell (p := ⟨g, off + 3, none⟩) hg).trans c3
  have v0 := HTv7.out.c0
  have v1 := HTv7.out.c1
  have vl := HTv7.out.lt
  have HC : Hid (Calls Tryz.prog 167 #[.agg #[.int .i64 k1, .pointer q1], .agg #[.int .i64 3, .pointer q]] w7.drew fun e w' => e = .returned (.bool fb) ∧ Below w7.heap.size w7 w') := by
   have hd : Below w7.heap.size w7 w7.drew := below_drewG (Below.refl _ _) 1
   refine (HF.out w7.drew q (hb7.trans (hd.mono hb7.size)) (HT7.out.below hd)).mono ?_
   rintro e w' ⟨e1, e2⟩
   exact ⟨e1, hd.trans e2⟩
  have HX : Hid (∀ w', Below w7.heap.size w7 w' → w'.cell? ⟨g, off + 2, none⟩ = some (.int .i64 k1) ∧ w'.cell? ⟨g, off + 3, none⟩ = some (.pointer q1) ∧ w'.cell? ⟨v, 0, none⟩ = some (.int .i64 3) ∧ w'.cell? ⟨v, 1, none⟩ = some (.pointer q)) := fun w' hb =>
   ⟨(hb.cell (p := ⟨g, off + 2, none⟩) hg7).trans d2, (hb.cell (p := ⟨g, off + 3, none⟩) hg7).trans d3, (hb.cell (p := ⟨v, 0, none⟩) vl).trans v0, (hb.cell (p := ⟨v, 1, none⟩) vl).trans v1⟩
  clear hb7 HF HT7
  go_region_held3 (fun w' => w'.cell? ⟨g, off + 2, none⟩ = some (.int .i64 k1) ∧ w'.cell? ⟨g, off + 3, none⟩ = some (.pointer q1) ∧ w'.cell? ⟨v, 0, none⟩ = some (.int .i64 3) ∧ w'.cell? ⟨v, 1, none⟩ = some (.pointer q)) (go_keep) ((go_at_call 167; refine HC.out.mono ?_; rintro e w8 ⟨rfl, hb8⟩; obtain ⟨y0, y1, y2, y3⟩ := HX.out w8 hb8))
  have HJ8 : Hid (J1 w w8) := HJ7.out.after hb8
  have HTu8 := HTu7.out.below hb8 HTu7.out.lt
  have x0 := HTu8.c0
  have x1 := HTu8.c1
  have xl := HTu8.lt
  clear HTu8 HTu7 HTv7 HJ7 hb8 HX HC d2 d3 v0 v1 vl y0 y1 y2 y3 hg7
  have r0 := HJ8.out.r.c0
  have r1 := HJ8.out.r.c1
  have f0 := HJ8.out.r.fz 0
  have f1 := HJ8.out.r.fz 1
  have rr := HJ8.out.r.lt
  obtain ⟨W, hW, hbW, _, hTW⟩ := HJ8.out.r.ret HJ8.out.bel (Nat.le_refl _) 4 none
  have HW : Hid (putY w8 w.heap.size 4 none = W) := hW
  have s0 := hTW.c0
  have s1 := hTW.c1
  have HBW : Hid (Below w.heap.size w W) := hbW
  clear hW hbW hTW HJ8
  go_wp2
  have hW := HW.out
  unfold putY at hW
  rw [hW]
 ·refine bodyPost_ret (v := .tuple #[.agg #[.int .i64 4, .pointer none], .bool false]) ?_ rfl ?_
  ·simp [results, go_sem, s0, s1]
  ·exact GotJ.no (by have := HV.out; rw [h1] at this; simpa using this) HBW.out
 ·refine bodyPost_ret (v := .tuple #[.agg #[.int .i64 4, .pointer none], .bool fb]) ?_ rfl ?_
  ·simp [results, go_sem, s0, s1]
  ·exact GotJ.bool (s := (0, 4)) (by have := HV.out; rw [h1] at this; simpa using this) HBW.out (node_ty _ _)

set_option maxHeartbeats 8000000 in
theorem call_at_no {ok : Nat → Prop} {w : World} {o : Option Sh} {f : ByteArray} {k k1 : Int} {g off m c : Nat} (h_len : (f.toList == [108, 101, 110]) = false) (h_at : (f.toList == [97, 116]) = true) (hm : 2 < m) (hg : g < w.heap.size) (c0 : w.cell? ⟨g, off, none⟩ = some (.int .i64 k)) (c2 : w.cell? ⟨g, off + 2, none⟩ = some (.int .i64 k1)) (hk : ((k == 3) && (k1 == 1)) = false) (ho : o = none) :
  Calls Tryz.prog 132 #[.string f, .slice (some ⟨g, off, none⟩) m c] w (GotJ ok w o) := by
 have HJ : Hid (J1 w (w.alloc (.cells #[.int .i64 0, .pointer none] 44))) := J1.new w
 have hm0 : 0 < m := by omega
 have hmI : (1 : Int) < (m : Int) := by omega
 have hmJ : (2 : Int) < (m : Int) := by omega
 have HV2 : Hid (o = none) := ho
 clear ho
 cases h1 : (k == 3)
 ·have h2 : (k != 3) = true := by rw [bne, h1]; rfl
  clear hk
  go_enter Tryz.func132, Tryz.ntmps132
  have HRA : Hid (TyAt (w.alloc (.cells #[.int .i64 0, .pointer none] 44)) w.heap.size 0 none ∧ Below w.heap.size w (w.alloc (.cells #[.int .i64 0, .pointer none] 44))) := ⟨TyAt.new w 0 none, alloc_below w _⟩
  clear HJ
  go_wp2
  generalize w.alloc (.cells #[.int .i64 0, .pointer none] 44) = W at *
  have s0 := HRA.out.1.c0
  have s1 := HRA.out.1.c1
  refine bodyPost_ret (v := .tuple #[.agg #[.int .i64 0, .pointer none], .bool false]) ?_ rfl ?_
  ·simp [results, go_sem, s0, s1]
  ·exact GotJ.no HV2.out HRA.out.2
 ·have h3 : (k1 == 1) = false := by rw [h1] at hk; simpa using hk
  have h2 : (k != 3) = false := by rw [bne, h1]; rfl
  have h4 : (k1 != 1) = true := by rw [bne, h3]; rfl
  clear hk
  go_enter Tryz.func132, Tryz.ntmps132
  have HRA : Hid (TyAt (w.alloc (.cells #[.int .i64 0, .pointer none] 44)) w.heap.size 0 none ∧ Below w.heap.size w (w.alloc (.cells #[.int .i64 0, .pointer none] 44))) := ⟨TyAt.new w 0 none, alloc_below w _⟩
  clear HJ
  go_wp2
  generalize w.alloc (.cells #[.int .i64 0, .pointer none] 44) = W at *
  have s0 := HRA.out.1.c0
  have s1 := HRA.out.1.c1
  refine bodyPost_ret (v := .tuple #[.agg #[.int .i64 0, .pointer none], .bool false]) ?_ rfl ?_
  ·simp [results, go_sem, s0, s1]
  ·exact GotJ.no HV2.out HRA.out.2

set_option maxHeartbeats 8000000 in
theorem call_at_nil {ok : Nat → Prop} {w : World} {o : Option Sh} {f : ByteArray} {s2 : Sh} {k2 : Int} {q2 : Option Addr} {g off m c : Nat} (h_len : (f.toList == [108, 101, 110]) = false) (h_at : (f.toList == [97, 116]) = true) (hm : 2 < m) (hg : g < w.heap.size) (c0 : w.cell? ⟨g, off, none⟩ = some (.int .i64 3)) (c1 : w.cell? ⟨g, off + 1, none⟩ = some (.pointer none)) (c2 : w.cell? ⟨g, off + 2, none⟩ = some (.int .i64 1)) (c4 : w.cell? ⟨g, off + 4, none⟩ = some (.int .i64 k2)) (c5 : w.cell? ⟨g, off + 5, none⟩ = some (.pointer q2)) (ht : TyA ok w s2 (.agg #[.int .i64 k2, .pointer q2])) (ho : o = some s2) :
  Calls Tryz.prog 132 #[.string f, .slice (some ⟨g, off, none⟩) m c] w (GotJ ok w o) := by
 have HJ : Hid (J1 w (w.alloc (.cells #[.int .i64 0, .pointer none] 44))) := J1.new w
 have hm0 : 0 < m := by omega
 have hmI : (1 : Int) < (m : Int) := by omega
 have hmJ : (2 : Int) < (m : Int) := by omega
 have HRA : Hid (TyAt (w.alloc (.cells #[.int .i64 k2, .pointer q2] 44)) w.heap.size k2 q2 ∧ Below w.heap.size w (w.alloc (.cells #[.int .i64 k2, .pointer q2] 44))) := ⟨TyAt.new w k2 q2, alloc_below w _⟩
 have HT : Hid (TyA ok (w.alloc (.cells #[.int .i64 k2, .pointer q2] 44)) s2 (.agg #[.int .i64 k2, .pointer q2])) := ht.below HRA.out.2
 have HV2 : Hid (o = some s2) := ho
 clear HJ ht ho
 go_enter Tryz.func132, Tryz.ntmps132
 go_wp2
 generalize w.alloc (.cells #[.int .i64 k2, .pointer q2] 44) = W at *
 have s0 := HRA.out.1.c0
 have s1 := HRA.out.1.c1
 refine bodyPost_ret (v := .tuple #[.agg #[.int .i64 k2, .pointer q2], .bool true]) ?_ rfl ?_
 ·simp [results, go_sem, s0, s1]
 ·exact GotJ.yes HV2.out HRA.out.2 HT.out

set_option maxHeartbeats 8000000 in
theorem call_at_yes {ok : Nat → Prop} {w : World} {o : Option Sh} {f : ByteArray} {s0 s2 : Sh} {k0 k2 : Int} {q0 q2 : Option Addr} {gz : Nat} {g off m c : Nat} (h_len : (f.toList == [108, 101, 110]) = false) (h_at : (f.toList == [97, 116]) = true) (hm : 2 < m) (hg : g < w.heap.size) (c0 : w.cell? ⟨g, off, none⟩ = some (.int .i64 3)) (c1 : w.cell? ⟨g, off + 1, none⟩ = some (.pointer (some ⟨gz, 0, none⟩))) (c2 : w.cell? ⟨g, off + 2, none⟩ = some (.int .i64 1)) (c4 : w.cell? ⟨g, off + 4, none⟩ = some (.int .i64 k2)) (c5 : w.cell? ⟨g, off + 5, none⟩ = some (.pointer q2)) (hz : TyAt w gz k0 q0) (ht0 : TyA ok w s0 (.agg #[.int .i64 k0, .pointer q0])) (ht2 : TyA ok w s2 (.agg #[.int .i64 k2, .pointer q2])) (ho : o = joinP s0 s2) :
  Calls Tryz.prog 132 #[.string f, .slice (some ⟨g, off, none⟩) m c] w (GotJ ok w o) := by
 have HJ : Hid (J1 w (w.alloc (.cells #[.int .i64 0, .pointer none] 44))) := J1.new w
 have hm0 : 0 < m := by omega
 have hmI : (1 : Int) < (m : Int) := by omega
 have hmJ : (2 : Int) < (m : Int) := by omega
 have HJo : Hid (∀ W, Below w.heap.size w W → Calls Tryz.prog 129 #[.agg #[.int .i64 k0, .pointer q0], .agg #[.int .i64 k2, .pointer q2]] W (GotJ (fun g => ok g ∧ g ≠ w.heap.size) W o)) := fun W hW => by
  have h1 := (ht0.all.imp (ok' := fun g => ok g ∧ g ≠ w.heap.size) fun g _ hk => ⟨hk.1, by omega⟩).below hW
  have h2 := (ht2.all.imp (ok' := fun g => ok g ∧ g ≠ w.heap.size) fun g _ hk => ⟨hk.1, by omega⟩).below hW
  rw [ho]
  exact rjoin_any _ h1 h2
 have hzl := hz.lt
 have hz0 := hz.c0
 have hz1 := hz.c1
 clear ht0 ht2 ho hz
 go_enter Tryz.func132, Tryz.ntmps132
 go_wp2_with fail
 generalize w.alloc (.cells #[.int .i64 0, .pointer none] 44) = w1 at *
 have hb1 := HJ.out.bel
 have hg1 : g < w1.heap.size := Nat.lt_of_lt_of_le hg hb1.size
 have hzl1 : gz < w1.heap.size := Nat.lt_of_lt_of_le hzl hb1.size
 have d1 : w1.cell? ⟨g, off + 1, none⟩ = some (.pointer (some ⟨gz, 0, none⟩)) := (hb1.cell (p := ⟨g, off + 1, none⟩) hg).trans c1
 have d4 : w1.cell? ⟨g, off + 4, none⟩ = some (.int .i64 k2) := (hb1.cell (p := ⟨g, off + 4, none⟩) hg).trans c4
 have d5 : w1.cell? ⟨g, off + 5, none⟩ = some (.pointer q2) := (hb1.cell (p := ⟨g, off + 5, none⟩) hg).trans c5
 have d6 : w1.cell? ⟨gz, 0, none⟩ = some (.int .i64 k0) := (hb1.cell (p := ⟨gz, 0, none⟩) hzl).trans hz0
 have d7 : w1.cell? ⟨gz, 1, none⟩ = some (.pointer q0) := (hb1.cell (p := ⟨gz, 1, none⟩) hzl).trans hz1
 have HC : Hid (Calls Tryz.prog 129 #[.agg #[.int .i64 k0, .pointer q0], .agg #[.int .i64 k2, .pointer q2]] w1.drew fun e w' => Below w1.heap.size w1 w' ∧ GotJ (fun g => ok g ∧ g ≠ w.heap.size) w1.drew o e w') := by
  have hd : Below w1.heap.size w1 w1.drew := below_drewG (Below.refl _ _) 1
  refine (HJo.out w1.drew (hb1.trans (hd.mono hb1.size))).mono ?_
  rintro e w' h
  exact ⟨hd.trans h.1, h⟩
 have HX : Hid (∀ w', Below w1.heap.size w1 w' → w'.cell? ⟨g, off + 1, none⟩ = some (.pointer (some ⟨gz, 0, none⟩)) ∧ w'.cell? ⟨g, off + 4, none⟩ = some (.int .i64 k2) ∧ w'.cell? ⟨g, off + 5, none⟩ = some (.pointer q2) ∧ w'.cell? ⟨gz, 0, none⟩ = some (.int .i64 k0) ∧ w'.cell? ⟨gz, 1, none⟩ = some (.pointer q0)) := fun w' hb =>
  ⟨(hb.cell (p := ⟨g, off + 1, none⟩) hg1).trans d1, (hb.cell (p := ⟨g, off + 4, none⟩) hg1).trans d4, (hb.cell (p := ⟨g, off + 5, none⟩) hg1).trans d5, (hb.cell (p := ⟨gz, 0, none⟩) hzl1).trans d6, (hb.cell (p := ⟨gz, 1, none⟩) hzl1).trans d7⟩
 clear HJo hb1
 have ne1 : w.heap.size ≠ g := by omega
 have ne2 : w.heap.size ≠ gz := by omega
 go_region_held3 (fun w' => w'.cell? ⟨g, off + 1, none⟩ = some (.pointer (some ⟨gz, 0, none⟩)) ∧ w'.cell? ⟨g, off + 4, none⟩ = some (.int .i64 k2) ∧ w'.cell? ⟨g, off + 5, none⟩ = some (.pointer q2) ∧ w'.cell? ⟨gz, 0, none⟩ = some (.int .i64 k0) ∧ w'.cell? ⟨gz, 1, none⟩ = some (.pointer q0)) (go_keep) ((go_at_call 129; refine HC.out.mono ?_; rintro e w8 ⟨hb8, _, k9, q9, yes, rfl, hy, hts⟩; obtain ⟨y0, y1, y2, y3, y4⟩ := HX.out w8 hb8; have HY : Hid (yes = o.isSome) := hy; clear hy; have HTs : Hid (∀ s, o = some s → TyA (fun g => ok g ∧ g ≠ w.heap.size) w8 s (.agg #[.int .i64 k9, .pointer q9])) := hts; clear hts; have HJ8 : Hid (J1 w w8) := HJ.out.after hb8; have r0 := HJ8.out.r.c0; have r1 := HJ8.out.r.c1; have f0 := HJ8.out.r.fz 0; have f1 := HJ8.out.r.fz 1; have rr := HJ8.out.r.lt))
 obtain ⟨W, hW, hbW, _, hTW⟩ := HJ8.out.r.ret HJ8.out.bel (Nat.le_refl _) k9 q9
 have HW : Hid (putY w8 w.heap.size k9 q9 = W) := hW
 have s0 := hTW.c0
 have s1 := hTW.c1
 have HG : Hid (GotJ ok w o (.returned (.tuple #[.agg #[.int .i64 k9, .pointer q9], .bool yes])) W) := ⟨hbW, k9, q9, yes, rfl, HY.out, fun s hs => by
  rw [← hW]
  exact ((HTs.out s hs).over (fun g hg => hg.2) k9 q9).imp fun g _ hg => hg.1⟩
 clear hW hbW hTW HTs HY HJ8 HJ HC HX y0 y1 y2 y3 y4 d1 d4 d5 d6 d7 r0 r1 f0 f1 rr
 go_wp2
 have hW := HW.out
 unfold putY at hW
 rw [hW]
 refine bodyPost_ret (v := .tuple #[.agg #[.int .i64 k9, .pointer q9], .bool yes]) ?_ rfl ?_
 ·simp [results, go_sem, s0, s1]
 ·exact HG.out

end Go.Proofs.YtgmmfpdekefamaaGreatDoor
