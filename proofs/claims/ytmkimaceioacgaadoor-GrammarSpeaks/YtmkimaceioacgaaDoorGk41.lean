/- Texts of the proof, put together: GOpw. -/
import Derived.Test.YtmkimaceioacgaaDoorGk40
namespace Go.Proofs.YtmkimaceioacgaaDoor
open Go.RowKit
set_option linter.unusedVariables false
set_option maxRecDepth 100000

def putS (f : Nat → Nat) (e : Nat → Bool) (s : Int) (o : Nat × Bool) : Nat × Bool := if o = (0, false) then (0, false) else if s < 0 then ((if e (-1 - s).toNat then f (-1 - s).toNat ||| o.1 else f (-1 - s).toNat), e (-1 - s).toNat && o.2) else (2 ^ s.toNat, false)
theorem opn_put (f : Nat → Nat) (e : Nat → Bool) (s : Int) (r : List Int) : opnS f e (s :: r) = putS f e s (opnS f e r) := rfl
theorem put_any (N FB EB : Nat) (L : List Nat) (E : List Bool) (o : Nat × Bool) (ho : o.1 < 512) (s : Int) (hs1 : -(N : Int) ≤ s) (hs8 : s ≤ 8) (hN : N ≤ 300) (hL : L.length = N) (hlt : ∀ n, factM L n < 512) (hE : E.length = N) (w : World) (hv : RowM w FB L) (he : RowB w EB E) :
    Calls Tryd.prog 69 #[opV o.1 o.2, .int .i64 s, .slice (some ⟨FB, 0, none⟩) N N, .slice (some ⟨EB, 0, none⟩) N N] w fun e' w' => e' = .returned (opV (putS (factM L) (factB E) s o).1 (putS (factM L) (factB E) s o).2) ∧ Below w.heap.size w w' := by
  obtain ⟨m, b⟩ := o
  simp only at ho ⊢
  by_cases h0 : m = 0 ∧ b = false
  · obtain ⟨rfl, rfl⟩ := h0
    rw [show putS (factM L) (factB E) s (0, false) = (0, false) from if_pos rfl]
    exact put_none s _ _ w
  · have hp : ¬ ((m, b) = ((0 : Nat), false)) := fun e => h0 (by simpa using e)
    have hmb : (m == 0 && !b) = false := by
      rw [← Bool.not_eq_true, Bool.and_eq_true]
      rintro ⟨h1, h2⟩
      exact h0 ⟨by simpa using h1, by simpa using h2⟩
    by_cases hs : s < 0
    · obtain ⟨n, hn⟩ : ∃ n : Nat, -1 - s = (n : Int) := ⟨(-1 - s).toNat, by omega⟩
      have hnN : n < N := by omega
      rw [show putS (factM L) (factB E) s (m, b) = ((if factB E n then factM L n ||| m else factM L n), factB E n && b) by unfold putS; rw [if_neg hp, if_pos hs, show (-1 - s).toNat = n by omega]]
      have hnL : n < L.length := by omega
      exact put_name m b ho hmb s n N hn hnN hN FB EB (factM L n) (factB E n) (hlt n) w ⟨hv.c0 hnL, hv.ck hnL (by omega) (by omega), hv.ck hnL (by omega) (by omega), hv.ck hnL (by omega) (by omega), hv.ck hnL (by omega) (by omega), hv.lt⟩ ⟨he.cell (by omega), he.lt⟩
    · obtain ⟨q, rfl⟩ : ∃ q : Nat, s = (q : Int) := ⟨s.toNat, by omega⟩
      rw [show putS (factM L) (factB E) (q : Int) (m, b) = (2 ^ q, false) by unfold putS; rw [if_neg hp, if_neg hs, Int.toNat_natCast]]
      exact put_term m b hmb q (by omega) _ _ w

set_option maxHeartbeats 8000000 in
theorem rowOp_any (N : Nat) (row : List Int) (rv : Value) (L : List Nat) (E : List Bool) (FB EB : Nat) (w : World) (hN : N ≤ 300) (hSy : SymsL N row) (h8 : ∀ j, j < row.length → row.getD j 0 ≤ 8) (hL : L.length = N) (hlt : ∀ n, factM L n < 512) (hE : E.length = N) (hr : IntsR w rv row) (hv : RowM w FB L) (he : RowB w EB E) :
    Calls Tryd.prog 47 #[rv, .slice (some ⟨FB, 0, none⟩) N N, .slice (some ⟨EB, 0, none⟩) N N] w fun e w' => ∃ O, e = .returned (.slice (some ⟨w.heap.size, 0, none⟩) (row.length + 1) (row.length + 1)) ∧ RowO w' w.heap.size O ∧ O.length = row.length + 1 ∧ (∀ i, i ≤ row.length → factQ O i = opnS (factM L) (factB E) (row.drop i)) ∧ Below w.heap.size w w' := by
  have hrl := hSy.1
  have hmk : (Instr.makeSlice 82 (.int .i64 ((row.length : Int) + 1)) (.int .i64 ((row.length : Int) + 1))).run Tryd.prog w = .ok (.slice (some ⟨w.heap.size, 0, none⟩) (row.length + 1) (row.length + 1)) (w.alloc (.cells (opsL (List.replicate (row.length + 1) (0, false))).toArray 81)) := makeOps (row.length + 1) (by omega) w
  have hA := alloc_below w (.cells (opsL (List.replicate (row.length + 1) (0, false))).toArray 81)
  have hR0 : RowO (w.alloc (.cells (opsL (List.replicate (row.length + 1) (0, false))).toArray 81)) w.heap.size (List.replicate (row.length + 1) (0, false)) := alloc_at _ _
  have HR0 : Hid (RowO (w.alloc (.cells (opsL (List.replicate (row.length + 1) (0, false))).toArray 81)) w.heap.size (List.replicate (row.length + 1) (0, false))) := hR0
  have hln : row.length < (List.replicate (row.length + 1) ((0 : Nat), false)).length := by simp
  have HPA : Hid (∀ wx (o : Nat × Bool) (j : Nat), Below w.heap.size w wx → o.1 < 512 → j < row.length → Calls Tryd.prog 69 #[opV o.1 o.2, .int .i64 (row.getD j 0), .slice (some ⟨FB, 0, none⟩) N N, .slice (some ⟨EB, 0, none⟩) N N] wx fun e' w' => e' = .returned (opV (putS (factM L) (factB E) (row.getD j 0) o).1 (putS (factM L) (factB E) (row.getD j 0) o).2) ∧ Below wx.heap.size wx w') := fun wx o j hb ho hj => put_any N FB EB L E o ho (row.getD j 0) (hSy.2 j hj).1 (h8 j hj) hN hL hlt hE wx (hv.below hb) (he.below hb)
  have HLT : Hid (∀ i, (opnS (factM L) (factB E) (row.drop i)).1 < 512) := fun i => opn_lt hlt _ fun s hs => by
    obtain ⟨k, hk, rfl⟩ := List.mem_iff_getElem.1 (List.mem_of_mem_drop hs)
    have := h8 k hk
    simpa [List.getD, hk] using this
  obtain ⟨ra, rc, rfl⟩ := hr.slice
  have HRW : Hid (IntsR w (.slice ra row.length rc) row) := hr
  have HOPN : Hid (∀ q, q < row.length → opnS (factM L) (factB E) (row.drop q) = putS (factM L) (factB E) (row.getD q 0) (opnS (factM L) (factB E) (row.drop (q + 1)))) := fun q hq => by
    rw [List.drop_eq_getElem_cons hq, opn_put, show row.getD q 0 = row[q] by simp [List.getD, hq]]
  clear hr hv he hSy h8 hL hlt hE hR0
  go_enter Tryd.func47, Tryd.ntmps47
  go_upto_region 2 with fail
  generalize w.alloc (.cells (opsL (List.replicate (row.length + 1) (0, false))).toArray 81) = w1 at *
  have c0 := HR0.out.c0 hln
  have c1 := HR0.out.ck hln (k := 1) (by omega) (by omega)
  have c2 := HR0.out.ck hln (k := 2) (by omega) (by omega)
  have c3 := HR0.out.ck hln (k := 3) (by omega) (by omega)
  have c4 := HR0.out.ck hln (k := 4) (by omega) (by omega)
  have c5 := HR0.out.c5 hln
  have z0 := HR0.out.fz (row.length * 6)
  have z1 := HR0.out.fz (row.length * 6 + 1)
  have z2 := HR0.out.fz (row.length * 6 + 2)
  have z3 := HR0.out.fz (row.length * 6 + 3)
  have z4 := HR0.out.fz (row.length * 6 + 4)
  have z5 := HR0.out.fz (row.length * 6 + 5)
  have l1 := HR0.out.lt
  clear hmk
  go_wp2
  have HXF : Hid ((((((w1.setCell ⟨w.heap.size, row.length * 6, none⟩ (.int .u64 0)).setCell ⟨w.heap.size, row.length * 6 + 1, none⟩ (.int .u64 0)).setCell ⟨w.heap.size, row.length * 6 + 2, none⟩ (.int .u64 0)).setCell ⟨w.heap.size, row.length * 6 + 3, none⟩ (.int .u64 0)).setCell ⟨w.heap.size, row.length * 6 + 4, none⟩ (.int .u64 0)).setCell ⟨w.heap.size, row.length * 6 + 5, none⟩ (.bool true) = fillQ w1 w.heap.size (row.length * 6) 0 true) := by show _ = _; unfold fillQ fillO; rfl
  rw [HXF.out]
  have HR1 : Hid (RowO (fillQ w1 w.heap.size (row.length * 6) 0 true) w.heap.size ((List.replicate (row.length + 1) (0, false)).set row.length (0, true))) := HR0.out.fill hln _ _
  have hb1 := fillQ_below hA (Nat.le_refl _) (row.length * 6) 0 true
  clear HXF c0 c1 c2 c3 c4 c5 z0 z1 z2 z3 z4 z5 l1 HR0 hA
  generalize fillQ w1 w.heap.size (row.length * 6) 0 true = w2 at *
  have HF1 : Hid (∀ i, row.length ≤ i → i ≤ row.length → factQ ((List.replicate (row.length + 1) (0, false)).set row.length (0, true)) i = opnS (factM L) (factB E) (row.drop i)) := fun i h1 h2 => by
    obtain rfl : i = row.length := by omega
    rw [factQ_set (N := row.length + 1) (by simp) (by omega), if_pos rfl, List.drop_length]
    rfl
  have HL1 : Hid (((List.replicate (row.length + 1) ((0 : Nat), false)).set row.length (0, true)).length = row.length + 1) := by show _ = _; simp
  generalize (List.replicate (row.length + 1) ((0 : Nat), false)).set row.length (0, true) = O1 at *
  clear hln
  go_loopw [8] (fun iv wr => ∃ (k : Nat) (O : List (Nat × Bool)), k ≤ row.length ∧ iv = .int .i64 ((k : Int) - 1) ∧ Hid (RowO wr w.heap.size O) ∧ Hid (O.length = row.length + 1) ∧ Hid (∀ i, k ≤ i → i ≤ row.length → factQ O i = opnS (factM L) (factB E) (row.drop i)) ∧ Below w.heap.size w wr) (fun iv _ => (intOf iv + 1).toNat)
  case atStart => exact ⟨row.length, O1, Nat.le_refl _, rfl, HR1, HL1, HF1, hb1⟩
  case round =>
    clear HR1 HL1 HF1 hb1 O1
    obtain ⟨k, O, hk, rfl, HR, HL, HF, hbw⟩ := hrel
    cases k with
    | zero =>
      have HFF : Hid (∀ i, i ≤ row.length → factQ O i = opnS (factM L) (factB E) (row.drop i)) := fun i hi => HF.out i (Nat.zero_le _) hi
      clear HF
      rw [show (((0 : Nat) : Int) - 1) = -1 from rfl]
      go_wp2
      go_ret
      exact ⟨O, rfl, HR.out, HL.out, HFF.out, hbw⟩
    | succ q =>
      rw [show (((q + 1 : Nat) : Int) - 1) = (q : Int) by omega]
      have hq : q < row.length := by omega
      obtain ⟨om, hom⟩ : ∃ om, om = (factQ O (q + 1)).1 := ⟨_, rfl⟩
      obtain ⟨ob, hob⟩ : ∃ ob, ob = (factQ O (q + 1)).2 := ⟨_, rfl⟩
      have hfo := HF.out (q + 1) (Nat.le_refl _) (by omega)
      have h512 : om < 512 := by rw [hom, hfo]; exact HLT.out (q + 1)
      have hqL : q + 1 < O.length := by rw [HL.out]; omega
      obtain ⟨rb, roff, hre, hrb, hrc⟩ := HRW.out.at hq
      subst hre
      have hPA := fun wx (hx : Below w.heap.size w wx) => HPA.out wx (om, ob) q hx h512 hq
      simp only at hPA
      have HPX : Hid (∀ wx, Below w.heap.size w wx → _) := hPA
      clear hPA
      have hpe : putS (factM L) (factB E) (row.getD q 0) (om, ob) = opnS (factM L) (factB E) (row.drop q) := by rw [HOPN.out q hq, ← hfo, hom, hob]
      obtain ⟨pm, hpm⟩ : ∃ pm, pm = (putS (factM L) (factB E) (row.getD q 0) (om, ob)).1 := ⟨_, rfl⟩
      obtain ⟨pb, hpb⟩ : ∃ pb, pb = (putS (factM L) (factB E) (row.getD q 0) (om, ob)).2 := ⟨_, rfl⟩
      rw [← hpm, ← hpb] at HPX
      unfold opV opA at HPX
      have HPE : Hid ((pm, pb) = opnS (factM L) (factB E) (row.drop q)) := by show _ = _; rw [← hpe, hpm, hpb]
      have HRX : Hid (∀ wx, Below wr.heap.size wr wx → RowO wx w.heap.size O) := fun wx hx => HR.out.below hx
      have HSS : Hid (∀ w5 O5, RowO w5 w.heap.size O5 → O5.length = row.length + 1 → factQ O5 (q + 1) = factQ O (q + 1) → Below w.heap.size w w5 → (w5.cell? ⟨w.heap.size, (q + 1) * 6, none⟩ = some (.int .u64 om) ∧ w5.cell? ⟨w.heap.size, (q + 1) * 6 + 1, none⟩ = some (.int .u64 0) ∧ w5.cell? ⟨w.heap.size, (q + 1) * 6 + 2, none⟩ = some (.int .u64 0) ∧ w5.cell? ⟨w.heap.size, (q + 1) * 6 + 3, none⟩ = some (.int .u64 0) ∧ w5.cell? ⟨w.heap.size, (q + 1) * 6 + 4, none⟩ = some (.int .u64 0) ∧ w5.cell? ⟨w.heap.size, (q + 1) * 6 + 5, none⟩ = some (.bool ob)) ∧ w5.cell? ⟨rb, roff + q, none⟩ = some (.int .i64 (row.getD q 0))) := fun w5 O5 h1 h2 h3 h4 => by
        have h5 : q + 1 < O5.length := by omega
        have e0 := h1.c0 h5
        have e5 := h1.c5 h5
        rw [h3, ← hom] at e0
        rw [h3, ← hob] at e5
        exact ⟨⟨e0, h1.ck h5 (by omega) (by omega), h1.ck h5 (by omega) (by omega), h1.ck h5 (by omega) (by omega), h1.ck h5 (by omega) (by omega), e5⟩, (h4.cell (p := ⟨rb, roff + q, none⟩) hrb).trans hrc⟩
      have HFX : Hid (∀ w5, RowO w5 w.heap.size O → RowO (fillQ w5 w.heap.size (q * 6) pm pb) w.heap.size (O.set q (pm, pb)) ∧ (O.set q (pm, pb)).length = row.length + 1 ∧ factQ (O.set q (pm, pb)) (q + 1) = factQ O (q + 1)) := fun w5 h5 => ⟨h5.fill (by rw [HL.out]; omega) pm pb, by rw [List.length_set]; exact HL.out, by rw [factQ_set HL.out (by omega), if_neg (by omega)]⟩
      have HFN : Hid (∀ i, q ≤ i → i ≤ row.length → factQ (O.set q (pm, pb)) i = opnS (factM L) (factB E) (row.drop i)) := fun i h1 h2 => by
        rw [factQ_set HL.out (by omega)]
        by_cases e : i = q
        · rw [if_pos e, e]; exact HPE.out
        · rw [if_neg e]; exact HF.out i (by omega) h2
      have HDX : Hid (∀ w5, Below wr.drew.heap.size wr.drew w5 → Below wr.heap.size wr w5) := fun w5 hb => ⟨hb.os, hb.tape, hb.output, hb.size, hb.block⟩
      have HBX : Hid (∀ w5, Below wr.heap.size wr w5 → Below w.heap.size w w5) := fun w5 hb => hbw.trans (hb.mono hbw.size)
      have hDl := HR.out.lt
      have hrl2 : rb < wr.heap.size := Nat.lt_of_lt_of_le hrb hbw.size
      have hS0 := HSS.out wr O HR.out HL.out rfl hbw
      have HLO : Hid (q < O.length) := by show _ < _; rw [HL.out]; omega
      have hwq : IntKind.i64.wrap ((q : Int) + 1) = ((q + 1 : Nat) : Int) := by rw [IntKind.wrap_i64]; omega
      have hq1 : q + 1 < row.length + 1 := by omega
      have hq0 : (0 : Int) ≤ (q : Int) + 1 := by omega
      have hq2 : (q : Int) < (row.length : Int) + 1 := by omega
      clear hom hob hfo h512 hqL hpe hpm hpb HPE HF HR hrc hrb HPA HLT HOPN
      generalize row.getD q 0 = sy at *
      go_wp2_with fail
      refine wp_region_held_drew (S := fun w' => (w'.cell? ⟨w.heap.size, (q + 1) * 6, none⟩ = some (.int .u64 om) ∧ w'.cell? ⟨w.heap.size, (q + 1) * 6 + 1, none⟩ = some (.int .u64 0) ∧ w'.cell? ⟨w.heap.size, (q + 1) * 6 + 2, none⟩ = some (.int .u64 0) ∧ w'.cell? ⟨w.heap.size, (q + 1) * 6 + 3, none⟩ = some (.int .u64 0) ∧ w'.cell? ⟨w.heap.size, (q + 1) * 6 + 4, none⟩ = some (.int .u64 0) ∧ w'.cell? ⟨w.heap.size, (q + 1) * 6 + 5, none⟩ = some (.bool ob)) ∧ w'.cell? ⟨rb, roff + q, none⟩ = some (.int .i64 sy)) (by kernel_rfl) hS0 (fun hHeld => ?_)
      refine wpAnyH_take (i := 0) (v := ?_) rfl (by kernel_rfl) (by kernel_rfl) (by kernel_rfl) (fun _ _ _ h => h) (Or.inl ⟨by rfl, ?_⟩) (by assumption) ?_
      rotate_left
      · (intro w hSw; (try dsimp only at hSw); go_simp; first | done | with_reducible rfl)
      simp only [Act.put, List.getElem_toArray, List.getElem_cons_zero, List.setIfInBounds_toArray, List.set_cons_zero, List.set_cons_succ]
      refine wpAnyH_take (i := 1) (v := ?_) rfl (by kernel_rfl) (by kernel_rfl) (by kernel_rfl) (fun _ _ _ h => h) (Or.inl ⟨by rfl, ?_⟩) (by assumption) ?_
      rotate_left
      · (intro w hSw; (try dsimp only at hSw); go_simp; first | done | with_reducible rfl)
      simp only [Act.put, List.getElem_toArray, List.getElem_cons_succ, List.getElem_cons_zero, List.setIfInBounds_toArray, List.set_cons_zero, List.set_cons_succ]
      refine wpAnyH_take (i := 2) (v := ?_) rfl (by kernel_rfl) (by kernel_rfl) (by kernel_rfl) (fun _ _ _ h => h) (Or.inl ⟨by rfl, ?_⟩) (by assumption) ?_
      rotate_left
      · (intro w hSw; (try dsimp only at hSw); go_simp; first | done | with_reducible rfl)
      simp only [Act.put, List.getElem_toArray, List.getElem_cons_succ, List.getElem_cons_zero, List.setIfInBounds_toArray, List.set_cons_zero, List.set_cons_succ]
      refine wpAnyH_take (i := 3) (v := ?_) rfl (by kernel_rfl) (by kernel_rfl) (by kernel_rfl) (fun _ _ _ h => h) (Or.inl ⟨by rfl, ?_⟩) (by assumption) ?_
      rotate_left
      · (intro w hSw; (try dsimp only at hSw); go_simp; first | done | with_reducible rfl)
      simp only [Act.put, List.getElem_toArray, List.getElem_cons_succ, List.getElem_cons_zero, List.setIfInBounds_toArray, List.set_cons_zero, List.set_cons_succ]
      refine wpAnyH_take (i := 4) (v := ?_) rfl (by kernel_rfl) (by kernel_rfl) (by kernel_rfl) (fun _ _ _ h => h) (Or.inl ⟨by rfl, ?_⟩) (by assumption) ?_
      rotate_left
      · (intro w hSw; (try dsimp only at hSw); go_simp; first | done | with_reducible rfl)
      simp only [Act.put, List.getElem_toArray, List.getElem_cons_succ, List.getElem_cons_zero, List.setIfInBounds_toArray, List.set_cons_zero, List.set_cons_succ]
      refine wpAnyH_take (i := 5) (v := ?_) rfl (by kernel_rfl) (by kernel_rfl) (by kernel_rfl) (fun _ _ _ h => h) (Or.inl ⟨by rfl, ?_⟩) (by assumption) ?_
      rotate_left
      · (intro w hSw; (try dsimp only at hSw); go_simp; first | done | with_reducible rfl)
      simp only [Act.put, List.getElem_toArray, List.getElem_cons_succ, List.getElem_cons_zero, List.setIfInBounds_toArray, List.set_cons_zero, List.set_cons_succ]
      refine wpAnyH_take (i := 6) (v := ?_) rfl (by kernel_rfl) (by kernel_rfl) (by kernel_rfl) (fun _ _ _ h => h) (Or.inl ⟨by rfl, ?_⟩) (by assumption) ?_
      rotate_left
      · (intro w hSw; (try dsimp only at hSw); go_simp; first | done | with_reducible rfl)
      simp only [Act.put, List.getElem_toArray, List.getElem_cons_succ, List.getElem_cons_zero, List.setIfInBounds_toArray, List.set_cons_zero, List.set_cons_succ]
      refine wpAnyH_take (i := 7) (v := ?_) rfl (by kernel_rfl) (by kernel_rfl) (by kernel_rfl) (fun _ _ _ h => h) (Or.inl ⟨by rfl, ?_⟩) (by assumption) ?_
      rotate_left
      · (intro w hSw; (try dsimp only at hSw); go_simp; first | done | with_reducible rfl)
      simp only [Act.put, List.getElem_toArray, List.getElem_cons_succ, List.getElem_cons_zero, List.setIfInBounds_toArray, List.set_cons_zero, List.set_cons_succ]
      refine wpAnyH_take (i := 8) (v := ?_) rfl (by kernel_rfl) (by kernel_rfl) (by kernel_rfl) (fun _ _ _ h => h) (Or.inl ⟨by rfl, ?_⟩) (by assumption) ?_
      rotate_left
      · (intro w hSw; (try dsimp only at hSw); go_simp; first | done | with_reducible rfl)
      simp only [Act.put, List.getElem_toArray, List.getElem_cons_succ, List.getElem_cons_zero, List.setIfInBounds_toArray, List.set_cons_zero, List.set_cons_succ]
      refine wpAnyH_take (i := 9) (v := ?_) rfl (by kernel_rfl) (by kernel_rfl) (by kernel_rfl) (fun _ _ _ h => h) (Or.inl ⟨by rfl, ?_⟩) (by assumption) ?_
      rotate_left
      · (intro w hSw; (try dsimp only at hSw); go_simp; first | done | with_reducible rfl)
      simp only [Act.put, List.getElem_toArray, List.getElem_cons_succ, List.getElem_cons_zero, List.setIfInBounds_toArray, List.set_cons_zero, List.set_cons_succ]
      refine wpAnyH_take (i := 10) (v := ?_) rfl (by kernel_rfl) (by kernel_rfl) (by kernel_rfl) (fun _ _ _ h => h) (Or.inl ⟨by rfl, ?_⟩) (by assumption) ?_
      rotate_left
      · (intro w hSw; (try dsimp only at hSw); go_simp; first | done | with_reducible rfl)
      simp only [Act.put, List.getElem_toArray, List.getElem_cons_succ, List.getElem_cons_zero, List.setIfInBounds_toArray, List.set_cons_zero, List.set_cons_succ]
      refine wpAnyH_take (i := 11) (v := ?_) rfl (by kernel_rfl) (by kernel_rfl) (by kernel_rfl) (fun _ _ _ h => h) (Or.inl ⟨by rfl, ?_⟩) (by assumption) ?_
      rotate_left
      · (intro w hSw; (try dsimp only at hSw); go_simp; first | done | with_reducible rfl)
      simp only [Act.put, List.getElem_toArray, List.getElem_cons_succ, List.getElem_cons_zero, List.setIfInBounds_toArray, List.set_cons_zero, List.set_cons_succ]
      refine wpAnyH_take (i := 12) (v := ?_) rfl (by kernel_rfl) (by kernel_rfl) (by kernel_rfl) (fun _ _ _ h => h) (Or.inl ⟨by rfl, ?_⟩) (by assumption) ?_
      rotate_left
      · (intro w hSw; (try dsimp only at hSw); go_simp; first | done | with_reducible rfl)
      simp only [Act.put, List.getElem_toArray, List.getElem_cons_succ, List.getElem_cons_zero, List.setIfInBounds_toArray, List.set_cons_zero, List.set_cons_succ]
      refine wpAnyH_ready (rs := [13]) (by kernel_rfl) (by simp) ?_
      refine AllReadyH.cons rfl (fun K hK => ?_) AllReadyH.nil
      go_simp
      go_wp2_with (go_at_call 69; refine (HPX.out _ (below_drewG hbw 1)).mono ?_; rintro e w4 ⟨rfl, hb4⟩)
      refine hK.out _ _ (HSS.out w4 O (HRX.out w4 (HDX.out w4 hb4)) HL.out rfl (HBX.out w4 (HDX.out w4 hb4))) (fun hHeld => ?_)
      clear hK K
      refine wpAnyH_take (i := 14) (v := ?_) rfl (by kernel_rfl) (by kernel_rfl) (by kernel_rfl) (fun _ _ _ h => h) (Or.inl ⟨by rfl, ?_⟩) (by assumption) ?_
      rotate_left
      · (intro w hSw; (try dsimp only at hSw); go_simp; first | done | with_reducible rfl)
      simp only [Act.put, List.getElem_toArray, List.getElem_cons_succ, List.getElem_cons_zero, List.setIfInBounds_toArray, List.set_cons_zero, List.set_cons_succ]
      have h4 := HRX.out w4 (HDX.out w4 hb4)
      have b4 := HBX.out w4 (HDX.out w4 hb4)
      have r0 := h4.c0 HLO.out
      have r1 := h4.ck HLO.out (k := 1) (by omega) (by omega)
      have r2 := h4.ck HLO.out (k := 2) (by omega) (by omega)
      have r3 := h4.ck HLO.out (k := 3) (by omega) (by omega)
      have r4 := h4.ck HLO.out (k := 4) (by omega) (by omega)
      have r5 := h4.c5 HLO.out
      have g0 := h4.fz (q * 6)
      have g1 := h4.fz (q * 6 + 1)
      have g2 := h4.fz (q * 6 + 2)
      have g3 := h4.fz (q * 6 + 3)
      have g4 := h4.fz (q * 6 + 4)
      have g5 := h4.fz (q * 6 + 5)
      have lr := h4.lt
      refine wpAnyH_ready (rs := [15]) (by kernel_rfl) (by simp) ?_
      refine AllReadyH.cons rfl (fun K hK => ?_) AllReadyH.nil
      go_simp
      have HX : Hid ((((((w4.setCell ⟨w.heap.size, q * 6, none⟩ (.int .u64 (pm : Int))).setCell ⟨w.heap.size, q * 6 + 1, none⟩ (.int .u64 0)).setCell ⟨w.heap.size, q * 6 + 2, none⟩ (.int .u64 0)).setCell ⟨w.heap.size, q * 6 + 3, none⟩ (.int .u64 0)).setCell ⟨w.heap.size, q * 6 + 4, none⟩ (.int .u64 0)).setCell ⟨w.heap.size, q * 6 + 5, none⟩ (.bool pb) = fillQ w4 w.heap.size (q * 6) pm pb) := by show _ = _; unfold fillQ fillO; rfl
      rw [HX.out]
      obtain ⟨u1, u2, u3⟩ := HFX.out w4 h4
      have u4 := fillQ_below b4 (Nat.le_refl _) (q * 6) pm pb
      refine hK.out _ _ (HSS.out _ _ u1 u2 u3 u4) (fun hHeld2 => ?_)
      clear hK K HX
      refine wpAnyH_done (by kernel_rfl) ?_ _
      have U1 : Hid (RowO (fillQ w4 w.heap.size (q * 6) pm pb) w.heap.size (O.set q (pm, pb))) := u1
      have U2 : Hid ((O.set q (pm, pb)).length = row.length + 1) := u2
      generalize fillQ w4 w.heap.size (q * 6) pm pb = W9 at *
      clear u1 u2 u3 r0 r1 r2 r3 r4 r5 g0 g1 g2 g3 g4 g5 lr h4 b4 hHeld hb4 hHeld2 hS0 HSS HFX HPX HRX HDX HBX
      go_wp2
      go_roundw
      case rel => exact ⟨q, _, by omega, by go_num, U1, U2, HFN, u4⟩
      case measure => simp [intOf]

end Go.Proofs.YtmkimaceioacgaaDoor
