/- Texts of the proof, put together: QTyo. -/
import Derived.Test.YtgmmfpdekefamaaGreatDoorAt06
namespace Go.Proofs.YtgmmfpdekefamaaGreatDoor
open Go.RowKit
set_option linter.unusedVariables false
set_option maxRecDepth 100000

theorem kd_one {s : Sh} (h : OkS s) : (kd s == 1) = decide (s = (0, 1)) := by
 obtain ⟨l, b⟩ := s
 unfold OkS at h; unfold kd
 simp only at h ⊢
 rw [Bool.eq_iff_iff, beq_iff_eq, decide_eq_true_iff]
 by_cases hl : l = 0
 ·subst hl; simp [Prod.ext_iff]
 ·rw [if_neg hl]; simp [Prod.ext_iff, hl]
theorem kd_two {s : Sh} (h : OkS s) : (kd s == 2) = decide (s = (0, 2)) := by
 obtain ⟨l, b⟩ := s
 unfold OkS at h; unfold kd
 simp only at h ⊢
 rw [Bool.eq_iff_iff, beq_iff_eq, decide_eq_true_iff]
 by_cases hl : l = 0
 ·subst hl; simp [Prod.ext_iff]
 ·rw [if_neg hl]; simp [Prod.ext_iff, hl]
theorem kd_four {s : Sh} (h : OkS s) : (kd s == 4) = decide (s = (0, 4)) := by
 obtain ⟨l, b⟩ := s
 unfold OkS at h; unfold kd
 simp only at h ⊢
 rw [Bool.eq_iff_iff, beq_iff_eq, decide_eq_true_iff]
 by_cases hl : l = 0
 ·subst hl; simp [Prod.ext_iff]
 ·rw [if_neg hl]; simp [Prod.ext_iff, hl]
theorem kd_three {s : Sh} (h : OkS s) : (kd s == 3) = decide (1 ≤ s.1) := by
 obtain ⟨l, b⟩ := s
 unfold OkS at h; unfold kd
 simp only at h ⊢
 by_cases hl : l = 0
 ·subst hl; simp; omega
 ·rw [if_neg hl]; simp; omega
/-- what an operator gives -/
def ltB (a b : Sh) : Bool := (decide (a = (0, 1)) && decide (b = (0, 1))) || (decide (a = (0, 2)) && decide (b = (0, 2)))
def numB (a b : Sh) : Bool := decide (a = (0, 1)) && decide (b = (0, 1))
def catB (a : Sh) : Bool := decide (a = (0, 2)) || decide (1 ≤ a.1)
def opP (o : List UInt8) (a b : Sh) : Option Sh :=
 if o == [61, 61] then (joinP a b).map fun _ => (0, 1)
 else if o == [60] then (if ltB a b = true then some (0, 1) else none)
 else if o == [43, 43] then (joinP a b).bind fun t => if catB a = true then some t else none
 else if numB a b = true then some (0, 1) else none
theorem GotJ.bool {ok : Nat → Prop} {w W : World} {o : Option Sh} {s : Sh} {k : Int} {q : Option Addr} {c : Bool} (ho : o = if c = true then some s else none) (hb : Below w.heap.size w W) (h : TyA ok W s (.agg #[.int .i64 k, .pointer q])) : GotJ ok w o (.returned (.tuple #[.agg #[.int .i64 k, .pointer q], .bool c])) W := by
 cases c
 ·exact GotJ.no (by simpa using ho) hb
 ·exact GotJ.yes (by simpa using ho) hb h
theorem int_ty (ok : Nat → Prop) (w : World) : TyA ok w (0, 1) (.agg #[.int .i64 1, .pointer none]) := ⟨rfl, .inl rfl⟩
theorem text_ty (ok : Nat → Prop) (w : World) : TyA ok w (0, 2) (.agg #[.int .i64 2, .pointer none]) := ⟨rfl, .inr (.inl rfl)⟩
theorem node_ty (ok : Nat → Prop) (w : World) : TyA ok w (0, 4) (.agg #[.int .i64 4, .pointer none]) := ⟨rfl, .inr (.inr rfl)⟩

/-- the answer of less, by kinds -/
theorem lt_kinds {a b : Sh} (ha : OkS a) (hb : OkS b) : ltB a b = ((kd a == kd b) && ((kd a == 1) || (kd a == 2))) := by
 unfold ltB
 rw [kd_one ha, kd_two ha, ← kd_one hb, ← kd_two hb]
 by_cases e1 : a = (0, 1)
 ·subst e1; rw [kd_zero, show (kd b == 1) = (1 == kd b) from Bool.beq_comm]; simp
 ·by_cases e2 : a = (0, 2)
  ·subst e2; rw [kd_zero, show (kd b == 2) = (2 == kd b) from Bool.beq_comm]; simp
  ·simp [e1, e2]
theorem num_kinds {a b : Sh} (ha : OkS a) (hb : OkS b) : numB a b = ((kd a == kd b) && (kd a == 1)) := by
 unfold numB
 rw [kd_one ha, ← kd_one hb]
 by_cases e1 : a = (0, 1)
 ·subst e1; rw [kd_zero, show (kd b == 1) = (1 == kd b) from Bool.beq_comm]; simp
 ·simp [e1]
theorem cat_kinds {a : Sh} (ha : OkS a) : catB a = ((kd a == 2) || (kd a == 3)) := by
 unfold catB
 rw [kd_two ha, kd_three ha]

set_option maxHeartbeats 8000000 in
/-- less -/
theorem op_less {ok : Nat → Prop} {w : World} {o : Option Sh} {ka kb : Int} {qa qb : Option Addr} {op : ByteArray} (ho1 : (op.toList == [61, 61]) = false) (ho2 : (op.toList == [60]) = true) (HV : Hid (o = if ((ka == kb) && ((ka == 1) || (ka == 2))) = true then some (0, 1) else none)) : Calls Tryz.prog 131 #[.string op, .agg #[.int .i64 ka, .pointer qa], .agg #[.int .i64 kb, .pointer qb]] w (GotJ ok w o) := by
 have HO : Hid (∀ W, Calls Tryz.prog 47 #[.int .i64 1] W fun e w' => e = .returned (.agg #[.int .i64 1, .pointer none]) ∧ Below W.heap.size W w') := fun W => ronly_any 1 W
 have HJ : Hid (J3 w (((w.alloc (.cells #[.int .i64 ka, .pointer qa] 44)).alloc (.cells #[.int .i64 kb, .pointer qb] 44)).alloc (.cells #[.int .i64 0, .pointer none] 44)) ka qa kb qb) := J3.new w _ _ _ _
 cases hk : (ka == kb)
 ·have HV2 : Hid (o = none) := by have := HV.out; rw [hk] at this; show _ = _; simpa using this
  clear HV
  go_enter Tryz.func131, Tryz.ntmps131
  go_wp2_with fail
  generalize ((w.alloc (.cells #[.int .i64 ka, .pointer qa] 44)).alloc (.cells #[.int .i64 kb, .pointer qb] 44)).alloc (.cells #[.int .i64 0, .pointer none] 44) = w3 at *
  have a0 := HJ.out.a.c0
  have ra := HJ.out.a.lt
  refine wp_region_held_drew (S := fun w' => w'.cell? ⟨w.heap.size, 0, none⟩ = some (.int .i64 ka)) (by kernel_rfl) a0 (fun hHeld => ?_)
  refine wpAnyH_take (i := 1) (v := ?_) rfl (by kernel_rfl) (by kernel_rfl) (by kernel_rfl) (fun _ _ _ h => h) (Or.inl ⟨by rfl, ?_⟩) (by assumption) ?_
  rotate_left
  ·(intro w hSw; (try dsimp only at hSw); go_simp; first | done | with_reducible rfl)
  simp only [Act.put, List.getElem_toArray, List.getElem_cons_succ, List.getElem_cons_zero, List.setIfInBounds_toArray, List.set_cons_zero, List.set_cons_succ]
  refine wpAnyH_ready (rs := [0]) (by kernel_rfl) (by simp) ?_
  refine AllReadyH.cons rfl (fun K hK => ?_) AllReadyH.nil
  go_simp
  go_wp2_with (go_at_call 47; refine (HO.out _).mono ?_; rintro e w4 ⟨rfl, hb4⟩)
  refine hK.out _ _ ((hb4.cell (p := ⟨w.heap.size, 0, none⟩) ra).trans a0) (fun hHeld => ?_)
  clear hK K
  have hb4' : Below w3.heap.size w3 w4 := (below_drewG (Below.refl _ _) 1).trans hb4
  have HJ4 : Hid (J3 w w4 ka qa kb qb) := HJ.out.after hb4'
  refine wpAnyH_take (i := 2) (v := ?_) rfl (by kernel_rfl) (by kernel_rfl) (by kernel_rfl) (fun _ _ _ h => h) (Or.inl ⟨by rfl, ?_⟩) (by assumption) ?_
  rotate_left
  ·(intro w hSw; (try dsimp only at hSw); go_simp; first | done | with_reducible rfl)
  simp only [Act.put, List.getElem_toArray, List.getElem_cons_succ, List.getElem_cons_zero, List.setIfInBounds_toArray, List.set_cons_zero, List.set_cons_succ]
  refine wpAnyH_take (i := 3) (v := undef) rfl (by kernel_rfl) (by kernel_rfl) (by kernel_rfl) (fun _ _ _ h => h) (Or.inr ⟨by kernel_rfl, rfl⟩) (by assumption) ?_
  simp only [Act.put, List.getElem_toArray, List.getElem_cons_succ, List.getElem_cons_zero, List.setIfInBounds_toArray, List.set_cons_zero, List.set_cons_succ]
  refine wpAnyH_take (i := 4) (v := undef) rfl (by kernel_rfl) (by kernel_rfl) (by kernel_rfl) (fun _ _ _ h => h) (Or.inr ⟨by kernel_rfl, rfl⟩) (by assumption) ?_
  simp only [Act.put, List.getElem_toArray, List.getElem_cons_succ, List.getElem_cons_zero, List.setIfInBounds_toArray, List.set_cons_zero, List.set_cons_succ]
  refine wpAnyH_take (i := 5) (v := undef) rfl (by kernel_rfl) (by kernel_rfl) (by kernel_rfl) (fun _ _ _ h => h) (Or.inr ⟨by kernel_rfl, rfl⟩) (by assumption) ?_
  simp only [Act.put, List.getElem_toArray, List.getElem_cons_succ, List.getElem_cons_zero, List.setIfInBounds_toArray, List.set_cons_zero, List.set_cons_succ]
  refine wpAnyH_take (i := 6) (v := undef) rfl (by kernel_rfl) (by kernel_rfl) (by kernel_rfl) (fun _ _ _ h => h) (Or.inr ⟨by kernel_rfl, rfl⟩) (by assumption) ?_
  simp only [Act.put, List.getElem_toArray, List.getElem_cons_succ, List.getElem_cons_zero, List.setIfInBounds_toArray, List.set_cons_zero, List.set_cons_succ]
  refine wpAnyH_take (i := 7) (v := undef) rfl (by kernel_rfl) (by kernel_rfl) (by kernel_rfl) (fun _ _ _ h => h) (Or.inr ⟨by kernel_rfl, rfl⟩) (by assumption) ?_
  simp only [Act.put, List.getElem_toArray, List.getElem_cons_succ, List.getElem_cons_zero, List.setIfInBounds_toArray, List.set_cons_zero, List.set_cons_succ]
  refine wpAnyH_take (i := 8) (v := undef) rfl (by kernel_rfl) (by kernel_rfl) (by kernel_rfl) (fun _ _ _ h => h) (Or.inr ⟨by kernel_rfl, rfl⟩) (by assumption) ?_
  simp only [Act.put, List.getElem_toArray, List.getElem_cons_succ, List.getElem_cons_zero, List.setIfInBounds_toArray, List.set_cons_zero, List.set_cons_succ]
  refine wpAnyH_take (i := 9) (v := undef) rfl (by kernel_rfl) (by kernel_rfl) (by kernel_rfl) (fun _ _ _ h => h) (Or.inr ⟨by kernel_rfl, rfl⟩) (by assumption) ?_
  simp only [Act.put, List.getElem_toArray, List.getElem_cons_succ, List.getElem_cons_zero, List.setIfInBounds_toArray, List.set_cons_zero, List.set_cons_succ]
  refine wpAnyH_take (i := 10) (v := undef) rfl (by kernel_rfl) (by kernel_rfl) (by kernel_rfl) (fun _ _ _ h => h) (Or.inr ⟨by kernel_rfl, rfl⟩) (by assumption) ?_
  simp only [Act.put, List.getElem_toArray, List.getElem_cons_succ, List.getElem_cons_zero, List.setIfInBounds_toArray, List.set_cons_zero, List.set_cons_succ]
  refine wpAnyH_take (i := 11) (v := ?_) rfl (by kernel_rfl) (by kernel_rfl) (by kernel_rfl) (fun _ _ _ h => h) (Or.inl ⟨by rfl, ?_⟩) (by assumption) ?_
  rotate_left
  ·(intro w hSw; (try dsimp only at hSw); go_simp; first | done | with_reducible rfl)
  simp only [Act.put, List.getElem_toArray, List.getElem_cons_succ, List.getElem_cons_zero, List.setIfInBounds_toArray, List.set_cons_zero, List.set_cons_succ]
  have r0 := HJ4.out.r.c0
  have r1 := HJ4.out.r.c1
  have f0 := HJ4.out.r.fz 0
  have f1 := HJ4.out.r.fz 1
  have rr := HJ4.out.r.lt
  have a4 := HJ4.out.a.c0
  obtain ⟨W, hW, hbW, _, hTW⟩ := HJ4.out.r.ret HJ4.out.bel (by omega) 1 none
  have HW : Hid (putY w4 (w.heap.size + 2) 1 none = W) := hW
  have s0 := hTW.c0
  have s1 := hTW.c1
  have HA5 : Hid (W.cell? ⟨w.heap.size, 0, none⟩ = some (.int .i64 ka)) := by rw [← hW]; exact (HJ4.out.a.other (by omega) 1 none).c0
  have HBW : Hid (Below w.heap.size w W) := hbW
  clear hW hbW hTW hb4 hb4' HJ4 HJ HO
  refine wpAnyH_ready (rs := [12]) (by kernel_rfl) (by simp) ?_
  refine AllReadyH.cons rfl (fun K hK => ?_) AllReadyH.nil
  go_simp
  have hW := HW.out
  unfold putY at hW
  rw [hW]
  clear hW HW r0 r1 f0 f1 rr a4
  refine hK.out _ _ HA5.out (fun hHeld => ?_)
  clear hK K
  refine wpAnyH_take (i := 13) (v := ?_) rfl (by kernel_rfl) (by kernel_rfl) (by kernel_rfl) (fun _ _ _ h => h) (Or.inl ⟨by rfl, ?_⟩) (by assumption) ?_
  rotate_left
  ·(intro w hSw; (try dsimp only at hSw); go_simp; first | done | with_reducible rfl)
  simp only [Act.put, List.getElem_toArray, List.getElem_cons_succ, List.getElem_cons_zero, List.setIfInBounds_toArray, List.set_cons_zero, List.set_cons_succ]
  refine wpAnyH_done (by kernel_rfl) ?_ _
  go_wp2
  refine bodyPost_ret (v := .tuple #[.agg #[.int .i64 1, .pointer none], .bool false]) ?_ rfl ?_
  ·simp [results, go_sem, s0, s1]
  ·exact GotJ.no HV2.out HBW.out
 ·cases h1 : (ka == 1)
  ·cases h2 : (ka == 2)
   ·have HV2 : Hid (o = none) := by have := HV.out; rw [hk, h1, h2] at this; show _ = _; simpa using this
    clear HV
    go_enter Tryz.func131, Tryz.ntmps131
    go_wp2_with fail
    generalize ((w.alloc (.cells #[.int .i64 ka, .pointer qa] 44)).alloc (.cells #[.int .i64 kb, .pointer qb] 44)).alloc (.cells #[.int .i64 0, .pointer none] 44) = w3 at *
    have a0 := HJ.out.a.c0
    have ra := HJ.out.a.lt
    refine wp_region_held_drew (S := fun w' => w'.cell? ⟨w.heap.size, 0, none⟩ = some (.int .i64 ka)) (by kernel_rfl) a0 (fun hHeld => ?_)
    refine wpAnyH_take (i := 1) (v := ?_) rfl (by kernel_rfl) (by kernel_rfl) (by kernel_rfl) (fun _ _ _ h => h) (Or.inl ⟨by rfl, ?_⟩) (by assumption) ?_
    rotate_left
    ·(intro w hSw; (try dsimp only at hSw); go_simp; first | done | with_reducible rfl)
    simp only [Act.put, List.getElem_toArray, List.getElem_cons_succ, List.getElem_cons_zero, List.setIfInBounds_toArray, List.set_cons_zero, List.set_cons_succ]
    refine wpAnyH_ready (rs := [0]) (by kernel_rfl) (by simp) ?_
    refine AllReadyH.cons rfl (fun K hK => ?_) AllReadyH.nil
    go_simp
    go_wp2_with (go_at_call 47; refine (HO.out _).mono ?_; rintro e w4 ⟨rfl, hb4⟩)
    refine hK.out _ _ ((hb4.cell (p := ⟨w.heap.size, 0, none⟩) ra).trans a0) (fun hHeld => ?_)
    clear hK K
    have hb4' : Below w3.heap.size w3 w4 := (below_drewG (Below.refl _ _) 1).trans hb4
    have HJ4 : Hid (J3 w w4 ka qa kb qb) := HJ.out.after hb4'
    refine wpAnyH_take (i := 2) (v := ?_) rfl (by kernel_rfl) (by kernel_rfl) (by kernel_rfl) (fun _ _ _ h => h) (Or.inl ⟨by rfl, ?_⟩) (by assumption) ?_
    rotate_left
    ·(intro w hSw; (try dsimp only at hSw); go_simp; first | done | with_reducible rfl)
    simp only [Act.put, List.getElem_toArray, List.getElem_cons_succ, List.getElem_cons_zero, List.setIfInBounds_toArray, List.set_cons_zero, List.set_cons_succ]
    refine wpAnyH_take (i := 3) (v := ?_) rfl (by kernel_rfl) (by kernel_rfl) (by kernel_rfl) (fun _ _ _ h => h) (Or.inl ⟨by rfl, ?_⟩) (by assumption) ?_
    rotate_left
    ·(intro w hSw; (try dsimp only at hSw); go_simp; first | done | with_reducible rfl)
    simp only [Act.put, List.getElem_toArray, List.getElem_cons_succ, List.getElem_cons_zero, List.setIfInBounds_toArray, List.set_cons_zero, List.set_cons_succ]
    refine wpAnyH_take (i := 4) (v := ?_) rfl (by kernel_rfl) (by kernel_rfl) (by kernel_rfl) (fun _ _ _ h => h) (Or.inl ⟨by rfl, ?_⟩) (by assumption) ?_
    rotate_left
    ·(intro w hSw; (try dsimp only at hSw); go_simp; first | done | with_reducible rfl)
    simp only [Act.put, List.getElem_toArray, List.getElem_cons_succ, List.getElem_cons_zero, List.setIfInBounds_toArray, List.set_cons_zero, List.set_cons_succ]
    refine wpAnyH_take (i := 5) (v := ?_) rfl (by kernel_rfl) (by kernel_rfl) (by kernel_rfl) (fun _ _ _ h => h) (Or.inl ⟨by rfl, ?_⟩) (by assumption) ?_
    rotate_left
    ·(intro w hSw; (try dsimp only at hSw); go_simp; first | done | with_reducible rfl)
    simp only [Act.put, List.getElem_toArray, List.getElem_cons_succ, List.getElem_cons_zero, List.setIfInBounds_toArray, List.set_cons_zero, List.set_cons_succ]
    refine wpAnyH_take (i := 6) (v := ?_) rfl (by kernel_rfl) (by kernel_rfl) (by kernel_rfl) (fun _ _ _ h => h) (Or.inl ⟨by rfl, ?_⟩) (by assumption) ?_
    rotate_left
    ·(intro w hSw; (try dsimp only at hSw); go_simp; first | done | with_reducible rfl)
    simp only [Act.put, List.getElem_toArray, List.getElem_cons_succ, List.getElem_cons_zero, List.setIfInBounds_toArray, List.set_cons_zero, List.set_cons_succ]
    refine wpAnyH_take (i := 7) (v := ?_) rfl (by kernel_rfl) (by kernel_rfl) (by kernel_rfl) (fun _ _ _ h => h) (Or.inl ⟨by rfl, ?_⟩) (by assumption) ?_
    rotate_left
    ·(intro w hSw; (try dsimp only at hSw); go_simp; first | done | with_reducible rfl)
    simp only [Act.put, List.getElem_toArray, List.getElem_cons_succ, List.getElem_cons_zero, List.setIfInBounds_toArray, List.set_cons_zero, List.set_cons_succ]
    refine wpAnyH_take (i := 8) (v := ?_) rfl (by kernel_rfl) (by kernel_rfl) (by kernel_rfl) (fun _ _ _ h => h) (Or.inl ⟨by rfl, ?_⟩) (by assumption) ?_
    rotate_left
    ·(intro w hSw; (try dsimp only at hSw); go_simp; first | done | with_reducible rfl)
    simp only [Act.put, List.getElem_toArray, List.getElem_cons_succ, List.getElem_cons_zero, List.setIfInBounds_toArray, List.set_cons_zero, List.set_cons_succ]
    refine wpAnyH_take (i := 9) (v := ?_) rfl (by kernel_rfl) (by kernel_rfl) (by kernel_rfl) (fun _ _ _ h => h) (Or.inl ⟨by rfl, ?_⟩) (by assumption) ?_
    rotate_left
    ·(intro w hSw; (try dsimp only at hSw); go_simp; first | done | with_reducible rfl)
    simp only [Act.put, List.getElem_toArray, List.getElem_cons_succ, List.getElem_cons_zero, List.setIfInBounds_toArray, List.set_cons_zero, List.set_cons_succ]
    refine wpAnyH_take (i := 10) (v := ?_) rfl (by kernel_rfl) (by kernel_rfl) (by kernel_rfl) (fun _ _ _ h => h) (Or.inl ⟨by rfl, ?_⟩) (by assumption) ?_
    rotate_left
    ·(intro w hSw; (try dsimp only at hSw); go_simp; first | done | with_reducible rfl)
    simp only [Act.put, List.getElem_toArray, List.getElem_cons_succ, List.getElem_cons_zero, List.setIfInBounds_toArray, List.set_cons_zero, List.set_cons_succ]
    refine wpAnyH_take (i := 11) (v := ?_) rfl (by kernel_rfl) (by kernel_rfl) (by kernel_rfl) (fun _ _ _ h => h) (Or.inl ⟨by rfl, ?_⟩) (by assumption) ?_
    rotate_left
    ·(intro w hSw; (try dsimp only at hSw); go_simp; first | done | with_reducible rfl)
    simp only [Act.put, List.getElem_toArray, List.getElem_cons_succ, List.getElem_cons_zero, List.setIfInBounds_toArray, List.set_cons_zero, List.set_cons_succ]
    have r0 := HJ4.out.r.c0
    have r1 := HJ4.out.r.c1
    have f0 := HJ4.out.r.fz 0
    have f1 := HJ4.out.r.fz 1
    have rr := HJ4.out.r.lt
    have a4 := HJ4.out.a.c0
    obtain ⟨W, hW, hbW, _, hTW⟩ := HJ4.out.r.ret HJ4.out.bel (by omega) 1 none
    have HW : Hid (putY w4 (w.heap.size + 2) 1 none = W) := hW
    have s0 := hTW.c0
    have s1 := hTW.c1
    have HA5 : Hid (W.cell? ⟨w.heap.size, 0, none⟩ = some (.int .i64 ka)) := by rw [← hW]; exact (HJ4.out.a.other (by omega) 1 none).c0
    have HBW : Hid (Below w.heap.size w W) := hbW
    clear hW hbW hTW hb4 hb4' HJ4 HJ HO
    refine wpAnyH_ready (rs := [12]) (by kernel_rfl) (by simp) ?_
    refine AllReadyH.cons rfl (fun K hK => ?_) AllReadyH.nil
    go_simp
    have hW := HW.out
    unfold putY at hW
    rw [hW]
    clear hW HW r0 r1 f0 f1 rr a4
    refine hK.out _ _ HA5.out (fun hHeld => ?_)
    clear hK K
    refine wpAnyH_take (i := 13) (v := ?_) rfl (by kernel_rfl) (by kernel_rfl) (by kernel_rfl) (fun _ _ _ h => h) (Or.inl ⟨by rfl, ?_⟩) (by assumption) ?_
    rotate_left
    ·(intro w hSw; (try dsimp only at hSw); go_simp; first | done | with_reducible rfl)
    simp only [Act.put, List.getElem_toArray, List.getElem_cons_succ, List.getElem_cons_zero, List.setIfInBounds_toArray, List.set_cons_zero, List.set_cons_succ]
    refine wpAnyH_done (by kernel_rfl) ?_ _
    go_wp2
    refine bodyPost_ret (v := .tuple #[.agg #[.int .i64 1, .pointer none], .bool false]) ?_ rfl ?_
    ·simp [results, go_sem, s0, s1]
    ·exact GotJ.no HV2.out HBW.out
   ·have HV2 : Hid (o = some (0, 1)) := by have := HV.out; rw [hk, h1, h2] at this; show _ = _; simpa using this
    clear HV
    go_enter Tryz.func131, Tryz.ntmps131
    go_wp2_with fail
    generalize ((w.alloc (.cells #[.int .i64 ka, .pointer qa] 44)).alloc (.cells #[.int .i64 kb, .pointer qb] 44)).alloc (.cells #[.int .i64 0, .pointer none] 44) = w3 at *
    have a0 := HJ.out.a.c0
    have ra := HJ.out.a.lt
    refine wp_region_held_drew (S := fun w' => w'.cell? ⟨w.heap.size, 0, none⟩ = some (.int .i64 ka)) (by kernel_rfl) a0 (fun hHeld => ?_)
    refine wpAnyH_take (i := 1) (v := ?_) rfl (by kernel_rfl) (by kernel_rfl) (by kernel_rfl) (fun _ _ _ h => h) (Or.inl ⟨by rfl, ?_⟩) (by assumption) ?_
    rotate_left
    ·(intro w hSw; (try dsimp only at hSw); go_simp; first | done | with_reducible rfl)
    simp only [Act.put, List.getElem_toArray, List.getElem_cons_succ, List.getElem_cons_zero, List.setIfInBounds_toArray, List.set_cons_zero, List.set_cons_succ]
    refine wpAnyH_ready (rs := [0]) (by kernel_rfl) (by simp) ?_
    refine AllReadyH.cons rfl (fun K hK => ?_) AllReadyH.nil
    go_simp
    go_wp2_with (go_at_call 47; refine (HO.out _).mono ?_; rintro e w4 ⟨rfl, hb4⟩)
    refine hK.out _ _ ((hb4.cell (p := ⟨w.heap.size, 0, none⟩) ra).trans a0) (fun hHeld => ?_)
    clear hK K
    have hb4' : Below w3.heap.size w3 w4 := (below_drewG (Below.refl _ _) 1).trans hb4
    have HJ4 : Hid (J3 w w4 ka qa kb qb) := HJ.out.after hb4'
    refine wpAnyH_take (i := 2) (v := ?_) rfl (by kernel_rfl) (by kernel_rfl) (by kernel_rfl) (fun _ _ _ h => h) (Or.inl ⟨by rfl, ?_⟩) (by assumption) ?_
    rotate_left
    ·(intro w hSw; (try dsimp only at hSw); go_simp; first | done | with_reducible rfl)
    simp only [Act.put, List.getElem_toArray, List.getElem_cons_succ, List.getElem_cons_zero, List.setIfInBounds_toArray, List.set_cons_zero, List.set_cons_succ]
    refine wpAnyH_take (i := 3) (v := ?_) rfl (by kernel_rfl) (by kernel_rfl) (by kernel_rfl) (fun _ _ _ h => h) (Or.inl ⟨by rfl, ?_⟩) (by assumption) ?_
    rotate_left
    ·(intro w hSw; (try dsimp only at hSw); go_simp; first | done | with_reducible rfl)
    simp only [Act.put, List.getElem_toArray, List.getElem_cons_succ, List.getElem_cons_zero, List.setIfInBounds_toArray, List.set_cons_zero, List.set_cons_succ]
    refine wpAnyH_take (i := 4) (v := ?_) rfl (by kernel_rfl) (by kernel_rfl) (by kernel_rfl) (fun _ _ _ h => h) (Or.inl ⟨by rfl, ?_⟩) (by assumption) ?_
    rotate_left
    ·(intro w hSw; (try dsimp only at hSw); go_simp; first | done | with_reducible rfl)
    simp only [Act.put, List.getElem_toArray, List.getElem_cons_succ, List.getElem_cons_zero, List.setIfInBounds_toArray, List.set_cons_zero, List.set_cons_succ]
    refine wpAnyH_take (i := 5) (v := ?_) rfl (by kernel_rfl) (by kernel_rfl) (by kernel_rfl) (fun _ _ _ h => h) (Or.inl ⟨by rfl, ?_⟩) (by assumption) ?_
    rotate_left
    ·(intro w hSw; (try dsimp only at hSw); go_simp; first | done | with_reducible rfl)
    simp only [Act.put, List.getElem_toArray, List.getElem_cons_succ, List.getElem_cons_zero, List.setIfInBounds_toArray, List.set_cons_zero, List.set_cons_succ]
    refine wpAnyH_take (i := 6) (v := ?_) rfl (by kernel_rfl) (by kernel_rfl) (by kernel_rfl) (fun _ _ _ h => h) (Or.inl ⟨by rfl, ?_⟩) (by assumption) ?_
    rotate_left
    ·(intro w hSw; (try dsimp only at hSw); go_simp; first | done | with_reducible rfl)
    simp only [Act.put, List.getElem_toArray, List.getElem_cons_succ, List.getElem_cons_zero, List.setIfInBounds_toArray, List.set_cons_zero, List.set_cons_succ]
    refine wpAnyH_take (i := 7) (v := ?_) rfl (by kernel_rfl) (by kernel_rfl) (by kernel_rfl) (fun _ _ _ h => h) (Or.inl ⟨by rfl, ?_⟩) (by assumption) ?_
    rotate_left
    ·(intro w hSw; (try dsimp only at hSw); go_simp; first | done | with_reducible rfl)
    simp only [Act.put, List.getElem_toArray, List.getElem_cons_succ, List.getElem_cons_zero, List.setIfInBounds_toArray, List.set_cons_zero, List.set_cons_succ]
    refine wpAnyH_take (i := 8) (v := ?_) rfl (by kernel_rfl) (by kernel_rfl) (by kernel_rfl) (fun _ _ _ h => h) (Or.inl ⟨by rfl, ?_⟩) (by assumption) ?_
    rotate_left
    ·(intro w hSw; (try dsimp only at hSw); go_simp; first | done | with_reducible rfl)
    simp only [Act.put, List.getElem_toArray, List.getElem_cons_succ, List.getElem_cons_zero, List.setIfInBounds_toArray, List.set_cons_zero, List.set_cons_succ]
    refine wpAnyH_take (i := 9) (v := ?_) rfl (by kernel_rfl) (by kernel_rfl) (by kernel_rfl) (fun _ _ _ h => h) (Or.inl ⟨by rfl, ?_⟩) (by assumption) ?_
    rotate_left
    ·(intro w hSw; (try dsimp only at hSw); go_simp; first | done | with_reducible rfl)
    simp only [Act.put, List.getElem_toArray, List.getElem_cons_succ, List.getElem_cons_zero, List.setIfInBounds_toArray, List.set_cons_zero, List.set_cons_succ]
    refine wpAnyH_take (i := 10) (v := ?_) rfl (by kernel_rfl) (by kernel_rfl) (by kernel_rfl) (fun _ _ _ h => h) (Or.inl ⟨by rfl, ?_⟩) (by assumption) ?_
    rotate_left
    ·(intro w hSw; (try dsimp only at hSw); go_simp; first | done | with_reducible rfl)
    simp only [Act.put, List.getElem_toArray, List.getElem_cons_succ, List.getElem_cons_zero, List.setIfInBounds_toArray, List.set_cons_zero, List.set_cons_succ]
    refine wpAnyH_take (i := 11) (v := ?_) rfl (by kernel_rfl) (by kernel_rfl) (by kernel_rfl) (fun _ _ _ h => h) (Or.inl ⟨by rfl, ?_⟩) (by assumption) ?_
    rotate_left
    ·(intro w hSw; (try dsimp only at hSw); go_simp; first | done | with_reducible rfl)
    simp only [Act.put, List.getElem_toArray, List.getElem_cons_succ, List.getElem_cons_zero, List.setIfInBounds_toArray, List.set_cons_zero, List.set_cons_succ]
    have r0 := HJ4.out.r.c0
    have r1 := HJ4.out.r.c1
    have f0 := HJ4.out.r.fz 0
    have f1 := HJ4.out.r.fz 1
    have rr := HJ4.out.r.lt
    have a4 := HJ4.out.a.c0
    obtain ⟨W, hW, hbW, _, hTW⟩ := HJ4.out.r.ret HJ4.out.bel (by omega) 1 none
    have HW : Hid (putY w4 (w.heap.size + 2) 1 none = W) := hW
    have s0 := hTW.c0
    have s1 := hTW.c1
    have HA5 : Hid (W.cell? ⟨w.heap.size, 0, none⟩ = some (.int .i64 ka)) := by rw [← hW]; exact (HJ4.out.a.other (by omega) 1 none).c0
    have HBW : Hid (Below w.heap.size w W) := hbW
    clear hW hbW hTW hb4 hb4' HJ4 HJ HO
    refine wpAnyH_ready (rs := [12]) (by kernel_rfl) (by simp) ?_
    refine AllReadyH.cons rfl (fun K hK => ?_) AllReadyH.nil
    go_simp
    have hW := HW.out
    unfold putY at hW
    rw [hW]
    clear hW HW r0 r1 f0 f1 rr a4
    refine hK.out _ _ HA5.out (fun hHeld => ?_)
    clear hK K
    refine wpAnyH_take (i := 13) (v := ?_) rfl (by kernel_rfl) (by kernel_rfl) (by kernel_rfl) (fun _ _ _ h => h) (Or.inl ⟨by rfl, ?_⟩) (by assumption) ?_
    rotate_left
    ·(intro w hSw; (try dsimp only at hSw); go_simp; first | done | with_reducible rfl)
    simp only [Act.put, List.getElem_toArray, List.getElem_cons_succ, List.getElem_cons_zero, List.setIfInBounds_toArray, List.set_cons_zero, List.set_cons_succ]
    refine wpAnyH_done (by kernel_rfl) ?_ _
    go_wp2
    refine bodyPost_ret (v := .tuple #[.agg #[.int .i64 1, .pointer none], .bool true]) ?_ rfl ?_
    ·simp [results, go_sem, s0, s1]
    ·exact GotJ.yes HV2.out HBW.out (int_ty _ _)
  ·have HV2 : Hid (o = some (0, 1)) := by have := HV.out; rw [hk, h1] at this; show _ = _; simpa using this
   clear HV
   go_enter Tryz.func131, Tryz.ntmps131
   go_wp2_with fail
   generalize ((w.alloc (.cells #[.int .i64 ka, .pointer qa] 44)).alloc (.cells #[.int .i64 kb, .pointer qb] 44)).alloc (.cells #[.int .i64 0, .pointer none] 44) = w3 at *
   have a0 := HJ.out.a.c0
   have ra := HJ.out.a.lt
   refine wp_region_held_drew (S := fun w' => w'.cell? ⟨w.heap.size, 0, none⟩ = some (.int .i64 ka)) (by kernel_rfl) a0 (fun hHeld => ?_)
   refine wpAnyH_take (i := 1) (v := ?_) rfl (by kernel_rfl) (by kernel_rfl) (by kernel_rfl) (fun _ _ _ h => h) (Or.inl ⟨by rfl, ?_⟩) (by assumption) ?_
   rotate_left
   ·(intro w hSw; (try dsimp only at hSw); go_simp; first | done | with_reducible rfl)
   simp only [Act.put, List.getElem_toArray, List.getElem_cons_succ, List.getElem_cons_zero, List.setIfInBounds_toArray, List.set_cons_zero, List.set_cons_succ]
   refine wpAnyH_ready (rs := [0]) (by kernel_rfl) (by simp) ?_
   refine AllReadyH.cons rfl (fun K hK => ?_) AllReadyH.nil
   go_simp
   go_wp2_with (go_at_call 47; refine (HO.out _).mono ?_; rintro e w4 ⟨rfl, hb4⟩)
   refine hK.out _ _ ((hb4.cell (p := ⟨w.heap.size, 0, none⟩) ra).trans a0) (fun hHeld => ?_)
   clear hK K
   have hb4' : Below w3.heap.size w3 w4 := (below_drewG (Below.refl _ _) 1).trans hb4
   have HJ4 : Hid (J3 w w4 ka qa kb qb) := HJ.out.after hb4'
   refine wpAnyH_take (i := 2) (v := ?_) rfl (by kernel_rfl) (by kernel_rfl) (by kernel_rfl) (fun _ _ _ h => h) (Or.inl ⟨by rfl, ?_⟩) (by assumption) ?_
   rotate_left
   ·(intro w hSw; (try dsimp only at hSw); go_simp; first | done | with_reducible rfl)
   simp only [Act.put, List.getElem_toArray, List.getElem_cons_succ, List.getElem_cons_zero, List.setIfInBounds_toArray, List.set_cons_zero, List.set_cons_succ]
   refine wpAnyH_take (i := 3) (v := ?_) rfl (by kernel_rfl) (by kernel_rfl) (by kernel_rfl) (fun _ _ _ h => h) (Or.inl ⟨by rfl, ?_⟩) (by assumption) ?_
   rotate_left
   ·(intro w hSw; (try dsimp only at hSw); go_simp; first | done | with_reducible rfl)
   simp only [Act.put, List.getElem_toArray, List.getElem_cons_succ, List.getElem_cons_zero, List.setIfInBounds_toArray, List.set_cons_zero, List.set_cons_succ]
   refine wpAnyH_take (i := 4) (v := ?_) rfl (by kernel_rfl) (by kernel_rfl) (by kernel_rfl) (fun _ _ _ h => h) (Or.inl ⟨by rfl, ?_⟩) (by assumption) ?_
   rotate_left
   ·(intro w hSw; (try dsimp only at hSw); go_simp; first | done | with_reducible rfl)
   simp only [Act.put, List.getElem_toArray, List.getElem_cons_succ, List.getElem_cons_zero, List.setIfInBounds_toArray, List.set_cons_zero, List.set_cons_succ]
   refine wpAnyH_take (i := 5) (v := ?_) rfl (by kernel_rfl) (by kernel_rfl) (by kernel_rfl) (fun _ _ _ h => h) (Or.inl ⟨by rfl, ?_⟩) (by assumption) ?_
   rotate_left
   ·(intro w hSw; (try dsimp only at hSw); go_simp; first | done | with_reducible rfl)
   simp only [Act.put, List.getElem_toArray, List.getElem_cons_succ, List.getElem_cons_zero, List.setIfInBounds_toArray, List.set_cons_zero, List.set_cons_succ]
   refine wpAnyH_take (i := 6) (v := ?_) rfl (by kernel_rfl) (by kernel_rfl) (by kernel_rfl) (fun _ _ _ h => h) (Or.inl ⟨by rfl, ?_⟩) (by assumption) ?_
   rotate_left
   ·(intro w hSw; (try dsimp only at hSw); go_simp; first | done | with_reducible rfl)
   simp only [Act.put, List.getElem_toArray, List.getElem_cons_succ, List.getElem_cons_zero, List.setIfInBounds_toArray, List.set_cons_zero, List.set_cons_succ]
   refine wpAnyH_take (i := 7) (v := undef) rfl (by kernel_rfl) (by kernel_rfl) (by kernel_rfl) (fun _ _ _ h => h) (Or.inr ⟨by kernel_rfl, rfl⟩) (by assumption) ?_
   simp only [Act.put, List.getElem_toArray, List.getElem_cons_succ, List.getElem_cons_zero, List.setIfInBounds_toArray, List.set_cons_zero, List.set_cons_succ]
   refine wpAnyH_take (i := 8) (v := undef) rfl (by kernel_rfl) (by kernel_rfl) (by kernel_rfl) (fun _ _ _ h => h) (Or.inr ⟨by kernel_rfl, rfl⟩) (by assumption) ?_
   simp only [Act.put, List.getElem_toArray, List.getElem_cons_succ, List.getElem_cons_zero, List.setIfInBounds_toArray, List.set_cons_zero, List.set_cons_succ]
   refine wpAnyH_take (i := 9) (v := undef) rfl (by kernel_rfl) (by kernel_rfl) (by kernel_rfl) (fun _ _ _ h => h) (Or.inr ⟨by kernel_rfl, rfl⟩) (by assumption) ?_
   simp only [Act.put, List.getElem_toArray, List.getElem_cons_succ, List.getElem_cons_zero, List.setIfInBounds_toArray, List.set_cons_zero, List.set_cons_succ]
   refine wpAnyH_take (i := 10) (v := ?_) rfl (by kernel_rfl) (by kernel_rfl) (by kernel_rfl) (fun _ _ _ h => h) (Or.inl ⟨by rfl, ?_⟩) (by assumption) ?_
   rotate_left
   ·(intro w hSw; (try dsimp only at hSw); go_simp; first | done | with_reducible rfl)
   simp only [Act.put, List.getElem_toArray, List.getElem_cons_succ, List.getElem_cons_zero, List.setIfInBounds_toArray, List.set_cons_zero, List.set_cons_succ]
   refine wpAnyH_take (i := 11) (v := ?_) rfl (by kernel_rfl) (by kernel_rfl) (by kernel_rfl) (fun _ _ _ h => h) (Or.inl ⟨by rfl, ?_⟩) (by assumption) ?_
   rotate_left
   ·(intro w hSw; (try dsimp only at hSw); go_simp; first | done | with_reducible rfl)
   simp only [Act.put, List.getElem_toArray, List.getElem_cons_succ, List.getElem_cons_zero, List.setIfInBounds_toArray, List.set_cons_zero, List.set_cons_succ]
   have r0 := HJ4.out.r.c0
   have r1 := HJ4.out.r.c1
   have f0 := HJ4.out.r.fz 0
   have f1 := HJ4.out.r.fz 1
   have rr := HJ4.out.r.lt
   have a4 := HJ4.out.a.c0
   obtain ⟨W, hW, hbW, _, hTW⟩ := HJ4.out.r.ret HJ4.out.bel (by omega) 1 none
   have HW : Hid (putY w4 (w.heap.size + 2) 1 none = W) := hW
   have s0 := hTW.c0
   have s1 := hTW.c1
   have HA5 : Hid (W.cell? ⟨w.heap.size, 0, none⟩ = some (.int .i64 ka)) := by rw [← hW]; exact (HJ4.out.a.other (by omega) 1 none).c0
   have HBW : Hid (Below w.heap.size w W) := hbW
   clear hW hbW hTW hb4 hb4' HJ4 HJ HO
   refine wpAnyH_ready (rs := [12]) (by kernel_rfl) (by simp) ?_
   refine AllReadyH.cons rfl (fun K hK => ?_) AllReadyH.nil
   go_simp
   have hW := HW.out
   unfold putY at hW
   rw [hW]
   clear hW HW r0 r1 f0 f1 rr a4
   refine hK.out _ _ HA5.out (fun hHeld => ?_)
   clear hK K
   refine wpAnyH_take (i := 13) (v := ?_) rfl (by kernel_rfl) (by kernel_rfl) (by kernel_rfl) (fun _ _ _ h => h) (Or.inl ⟨by rfl, ?_⟩) (by assumption) ?_
   rotate_left
   ·(intro w hSw; (try dsimp only at hSw); go_simp; first | done | with_reducible rfl)
   simp only [Act.put, List.getElem_toArray, List.getElem_cons_succ, List.getElem_cons_zero, List.setIfInBounds_toArray, List.set_cons_zero, List.set_cons_succ]
   refine wpAnyH_done (by kernel_rfl) ?_ _
   go_wp2
   refine bodyPost_ret (v := .tuple #[.agg #[.int .i64 1, .pointer none], .bool true]) ?_ rfl ?_
   ·simp [results, go_sem, s0, s1]
   ·exact GotJ.yes HV2.out HBW.out (int_ty _ _)

end Go.Proofs.YtgmmfpdekefamaaGreatDoor
