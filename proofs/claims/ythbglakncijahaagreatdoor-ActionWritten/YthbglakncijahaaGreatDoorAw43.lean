/- Texts of the proof, put together: APlnB. -/
import Derived.Test.YthbglakncijahaaGreatDoorAw29
namespace Go.Proofs.YthbglakncijahaaGreatDoor
open Go.RowKit
set_option linter.unusedVariables false
set_option maxRecDepth 100000

set_option maxHeartbeats 8000000 in
theorem plexpr_row {w : World} {ps : List TmP} {b off c : Nat} (hb : b < w.heap.size) (hn : ps.length ≤ 2000) (hne : ps ≠ []) (hsz : ∀ j, j < ps.length → (ps.getD j noTm).kids.length * 8 ≤ 140737488351232) (hc : ∀ j, j < ps.length → ∃ kv, TmR w b (off + j * 4) (ps.getD j noTm) kv) :
    Calls Tryz.prog 7 #[.slice (some ⟨b, off, none⟩) ps.length c] w fun e w' => ∃ q, e = .returned (.pointer (some ⟨q, 0, none⟩)) ∧ Below w.heap.size w w' ∧ Expr (fun b => w.heap.size ≤ b) w' (.pointer (some ⟨q, 0, none⟩)) ((allE ps).getD (ps.length - 1) nilE) := by
  obtain ⟨i1, hj0, hj1, hj2, hj3⟩ := info_parts Tryz.infoPExpr
  have HP : Hid (∀ j, j < ps.length → ∃ kv, TmR w b (off + j * 4) (ps.getD j noTm) kv) := hc
  have HZ : Hid (∀ j, j < ps.length → (ps.getD j noTm).kids.length * 8 ≤ 140737488351232) := hsz
  have hlen : 0 < ps.length := by
    rcases Nat.eq_zero_or_pos ps.length with h | h
    · exact (hne (List.eq_nil_of_length_eq_zero h)).elim
    · exact h
  clear hc hsz hne
  go_enter Tryz.func7, Tryz.ntmps7
  go_wp2
  go_loopw [3, 11] (fun av iv wr => ∃ (i : Nat), i ≤ ps.length ∧ iv = .int .i64 i ∧ Hid (TmI w ps wr i av)) (fun _ iv _ => ps.length - (intOf iv).toNat)
  case atStart => exact ⟨0, Nat.zero_le _, rfl, ⟨[], rfl, ⟨rfl, .inl ⟨rfl, rfl⟩⟩, fun j hj => by simp [allE] at hj⟩, Below.refl _ _⟩
  case round =>
    rename World => wo
    obtain ⟨i, hi, rfl, HI⟩ := hrel
    obtain ⟨aa, ac, rfl⟩ := HI.out.slice hi
    by_cases hlt : i < ps.length
    · obtain ⟨kv, hp⟩ := HP.out i hlt
      have hbw := HI.out.2
      have hszw := hbw.size
      obtain ⟨c0, c1, c2, c3, hk⟩ := hp.below hb hbw
      have hzk := HZ.out i hlt
      obtain ⟨ka, kc, hke, _, hk2⟩ := hk
      subst hke
      have hb2 : b < wo.heap.size := by omega
      have HA : Hid (allE (ps.take (i + 1)) = allE (ps.take i) ++ [mkE (allE (ps.take i)) (ps.getD i noTm)]) := allTr_take ps i hlt
      have HAL : Hid ((allE (ps.take i)).length = i) := by show _ = _; rw [allTr_len, List.length_take]; omega
      generalize ps.getD i noTm = p at *
      generalize hAe : allE (ps.take i) = A at *
      have HPO : Hid (PtrsE wo w.heap.size (.slice aa i ac) A) := by have := HI.out.1; rw [hAe] at this; exact this
      obtain ⟨vs, hvl, hvo, hva⟩ := HPO.out
      have HVO : Hid (wo.ownsRow w.heap.size 24 1 (.slice aa i ac) i vs) := by have := HAL.out; show wo.ownsRow _ _ _ _ _ _; rw [show i = vs.length by omega]; rw [show i = vs.length by omega] at hvo; exact hvo
      have HVA : Hid (∀ j, j < A.length → ∃ t, A[j]? = some t ∧ Expr (fun b => w.heap.size ≤ b ∧ (Value.slice aa i ac).ownBlock ≠ some b) wo (vs.getD j .nilFunc) t ∧ ∃ b, vs.getD j .nilFunc = .pointer (some ⟨b, 0, none⟩)) := hva
      have HVL : Hid (vs.length = A.length) := hvl
      clear hAe hp hvo hva hvl
      have HST : Hid (NdE wo.heap.size (wo.heap.size + 1) wo ((wo.alloc (.cells #[.int .i64 p.kind, .int .i64 p.num, .string p.text, .slice ka p.kids.length kc] 61)).alloc (.cells #[.int .i64 p.kind, .int .i64 p.num, .string p.text, .slice none 0 0] 64)) p (.slice none 0 0) 0 []) := by
        have h1 := alloc_below wo (.cells #[.int .i64 p.kind, .int .i64 p.num, .string p.text, .slice ka p.kids.length kc] 61)
        have hs := alloc_size wo (.cells #[.int .i64 p.kind, .int .i64 p.num, .string p.text, .slice ka p.kids.length kc] 61)
        have h2 := NdE.start (p := p) h1 (by rw [hs]; omega)
        rw [hs] at h2
        exact h2
      have HB2 : Hid (Below wo.heap.size wo (wo.alloc (.cells #[.int .i64 p.kind, .int .i64 p.num, .string p.text, .slice ka p.kids.length kc] 61))) := alloc_below _ _
      obtain ⟨f0, f1, f2, f3⟩ := box4_cells wo (.int .i64 p.kind) (.int .i64 p.num) (.string p.text) (.slice ka p.kids.length kc) 61
      have hs1 : wo.heap.size < (wo.alloc (.cells #[.int .i64 p.kind, .int .i64 p.num, .string p.text, .slice ka p.kids.length kc] 61)).heap.size := by rw [alloc_size]; omega
      have g2 : ((wo.alloc (.cells #[.int .i64 p.kind, .int .i64 p.num, .string p.text, .slice ka p.kids.length kc] 61)).alloc (.cells #[.int .i64 p.kind, .int .i64 p.num, .string p.text, .slice none 0 0] 64)).cell? ⟨wo.heap.size, 3, none⟩ = some (.slice ka p.kids.length kc) := ((alloc_below _ _).cell (p := ⟨wo.heap.size, 3, none⟩) hs1).trans f3
      go_wp2
      clear hs1 f0 f1 f2 f3 g2 c0 c1 c2 c3
      generalize (wo.alloc (.cells #[.int .i64 p.kind, .int .i64 p.num, .string p.text, .slice ka p.kids.length kc] 61)).alloc (.cells #[.int .i64 p.kind, .int .i64 p.num, .string p.text, .slice none 0 0] 64) = w6 at *
      generalize hQ : wo.heap.size + 1 = Q at *
      have HQ : Hid (wo.heap.size + 1 = Q) := hQ
      clear hQ
      go_loopw [26] (fun kx wr2 => ∃ (k : Nat) (kv : Value) (us : List Value), k ≤ p.kids.length ∧ kx = .int .i64 k ∧ Hid (NdE wo.heap.size Q wo wr2 p kv k us) ∧ Hid (us = (p.kids.take k).map (kidVE i vs))) (fun kx _ => p.kids.length - (intOf kx).toNat)
      case atStart => exact ⟨0, _, [], Nat.zero_le _, rfl, HST, rfl⟩
      case round =>
        obtain ⟨k, kv, us, hk, rfl, HN, HU⟩ := hrel
        obtain ⟨va, vc, rfl⟩ := HN.out.slice
        have hq1 := HN.out.q.1
        have hq2 := HN.out.q.2
        have d4 := HN.out.cell2
        by_cases hkt : k < p.kids.length
        · obtain ⟨kg, koff, rfl, hkg, hkc⟩ : ∃ kg koff, ka = some ⟨kg, koff, none⟩ ∧ kg < wo.heap.size ∧ ∀ j, j < p.kids.length → wo.cell? ⟨kg, koff + j, none⟩ = some (.int .i64 (p.kids.getD j 0)) := by
            rcases hk2 with h | h
            · rw [h] at hkt; simp at hkt
            · exact h
          have ck := (HN.out.bel.cell (p := ⟨kg, koff + k, none⟩) hkg).trans (hkc k hkt)
          have HT : Hid ((p.kids.take (k + 1)).map (kidVE i vs) = us ++ [kidVE i vs (p.kids.getD k 0)]) := by
            show _ = _
            rw [List.take_succ_eq_append_getElem hkt, List.map_append, ← HU.out]
            simp [hkt]
          generalize p.kids.getD k 0 = x at *
          clear hkc hk2
          by_cases hx : x < 0 ∨ (i : Int) ≤ x
          · have HKV : Hid (kidVE i vs x = .pointer none) := by show _ = _; unfold kidVE; rw [if_pos hx]
            have hcs : x < 0 ∨ (¬ x < 0 ∧ x ≥ (i : Int)) := by omega
            clear hx
            rcases hcs with g1 | ⟨g1, g2⟩
            all_goals
              go_wp2_with (at_builtin; refine wpList_append_lies _ rfl _ _ 62 rfl (Q + 1) 24 i1 (.pointer none) 1 8 Tryz.underlying62 hj0 hj1 hj2 hj3 rfl (by decide) (.slice va k vc) k us rfl (World.ownsRow.alloc HN.out.own _) ⟨wr.heap.size, 0, none⟩ 1 1 [.pointer none] rfl rfl (cell_one_new wr _ _) (by intro x hx; simp at hx; subst hx; rfl) (by omega) (by unfold maxLen; omega) (by omega) (by simp; omega) (wr.heap.size + 1) (by simp) ?_)
              intro g9 cap9 w9 hown9 hg9 hat9 hlt9
              obtain ⟨q1, q2, q3, q4⟩ := HN.out.step hown9 hg9 hat9
              have Q4 : Hid (NdE wo.heap.size Q wo (w9.setCell ⟨Q, 3, none⟩ (.slice (some ⟨g9, 0, none⟩) (k + 1) cap9)) p (.slice (some ⟨g9, 0, none⟩) (k + 1) cap9) (k + 1) (us ++ [.pointer none])) := q4
              clear q4 hown9 hg9 hat9 hlt9 HN d4
              go_wp2
              go_roundw
              case rel => exact ⟨k + 1, _, _, by omega, by go_num, Q4, by show _ = _; rw [HT.out, HKV.out]⟩
              case measure => simp [intOf]; omega
          · have hx0 : 0 ≤ x := by omega
            have hxi : x < (i : Int) := by omega
            obtain ⟨xn, rfl⟩ : ∃ n : Nat, x = (n : Int) := ⟨x.toNat, by omega⟩
            have hxn : xn < i := by omega
            obtain ⟨ga, cap', e, hga1, hga2⟩ := HVO.out.form (by omega)
            simp only [Value.slice.injEq, true_and] at e
            obtain ⟨rfl, rfl⟩ := e
            have cx := (HN.out.bel.cell (p := ⟨ga, xn, none⟩) hga2).trans (own_cellE HVO.out hxn)
            obtain ⟨tx, htx, hTx, hPx⟩ := HVA.out xn (by rw [HAL.out]; exact hxn)
            obtain ⟨vb, hvb⟩ := hPx
            have HKV : Hid (kidVE i vs (xn : Int) = .pointer (some ⟨vb, 0, none⟩)) := by show _ = _; unfold kidVE; rw [if_neg hx, Int.toNat_natCast, hvb]
            rw [hvb] at cx
            have HOW : Hid (∀ o, (wr.drew.alloc o).ownsRow (Q + 1) 24 1 (.slice va k vc) k us) := fun o => World.ownsRow.alloc (HN.out.own.kept (row := none) (w' := wr.drew) ⟨rfl, rfl, rfl, Nat.le_refl _, fun _ _ _ => rfl⟩ (by cases hq : (Value.slice va k vc).ownBlock <;> simp)) _
            have HSTP : Hid (∀ o w9 g9 cap9, w9.ownsRow (Q + 1) 24 1 (.slice (some ⟨g9, 0, none⟩) (k + 1) cap9) (k + 1) (us ++ [.pointer (some ⟨vb, 0, none⟩)]) → (wr.drew.alloc o).grownBy w9 (Value.slice va k vc).ownBlock → ((Value.slice va k vc).ownBlock = some g9 ∨ g9 = wr.heap.size + 1) →
                w9.cell? ⟨Q, 3, none⟩ = some (.slice va k vc) ∧ w9.frozen? ⟨Q, 3, none⟩ = false ∧ Q < w9.heap.size ∧ NdE wo.heap.size Q wo (w9.setCell ⟨Q, 3, none⟩ (.slice (some ⟨g9, 0, none⟩) (k + 1) cap9)) p (.slice (some ⟨g9, 0, none⟩) (k + 1) cap9) (k + 1) (us ++ [.pointer (some ⟨vb, 0, none⟩)])) := fun o w9 g9 cap9 h1 h2 h3 => HN.out.step (o := o) h1 ⟨h2.os, h2.tape, h2.output, h2.size, h2.block⟩ h3
            clear hx hTx htx hvb HN
            go_wp2
            go_region_law (refine step_append_lies _ rfl _ _ 62 rfl (Q + 1) 24 i1 (.pointer none) 1 8 Tryz.underlying62 hj0 hj1 hj2 hj3 rfl (by decide) (.slice va k vc) k us rfl (HOW.out _) ⟨wr.heap.size, 0, none⟩ 1 1 [.pointer (some ⟨vb, 0, none⟩)] rfl rfl (cell_one_new wr.drew _ _) (by intro x hx; simp at hx; subst hx; rfl) (by omega) (by unfold maxLen; omega) (by omega) (by simp; omega) (wr.heap.size + 1) (by simp) ?_; intro g9 cap9 w9 hown9 hg9 hat9 hlt9; have q := HSTP.out _ w9 g9 cap9 hown9 hg9 hat9; obtain ⟨q1, q2, q3, q4⟩ := q)
            all_goals
              have Q4 : Hid (NdE wo.heap.size Q wo (w9.setCell ⟨Q, 3, none⟩ (.slice (some ⟨g9, 0, none⟩) (k + 1) cap9)) p (.slice (some ⟨g9, 0, none⟩) (k + 1) cap9) (k + 1) (us ++ [.pointer (some ⟨vb, 0, none⟩)])) := q4
              clear q4 hown9 hg9 hat9 hlt9 d4 HSTP HOW cx
              go_wp2
              go_roundw
              case rel => exact ⟨k + 1, _, _, by omega, by go_num, Q4, by show _ = _; rw [HT.out, HKV.out]⟩
              case measure => simp [intOf]; omega
        · obtain rfl : k = p.kids.length := by omega
          have hlt3 : ¬ (p.kids.length : Int) < (p.kids.length : Int) := by omega
          have HBB : Hid (Below wo.heap.size wo wr) := HN.out.bel
          have hown2 : wr.ownsRow w.heap.size 24 1 (.slice aa i ac) i vs := HVO.out.kept (row := none) (grownBy_of_belowE HBB.out none) (by cases hq : (Value.slice aa i ac).ownBlock <;> simp)
          have HTR : Hid (Expr (fun b => w.heap.size ≤ b ∧ (Value.slice aa i ac).ownBlock ≠ some b) wr (.pointer (some ⟨Q, 0, none⟩)) (mkE A p)) := mk_exprE HN.out rfl hszw (fun b hb => (HVO.out.lt b hb).2) HVL.out (fun j hj => by obtain ⟨t, q1, q2, _⟩ := HVA.out j hj; exact ⟨t, q1, q2⟩) (by rw [HU.out, List.take_of_length_le (Nat.le_refl _), HAL.out])
          have HFin : Hid (∀ v' w9 ob, w9.ownsRow w.heap.size 24 1 v' (i + 1) (vs ++ [.pointer (some ⟨Q, 0, none⟩)]) → (wr.alloc ob).grownBy w9 (Value.slice aa i ac).ownBlock → (v'.ownBlock = (Value.slice aa i ac).ownBlock ∨ v'.ownBlock = some (wr.alloc ob).heap.size) → TmI w ps w9 (i + 1) v') := fun v' w9 ob h1 h2 h3 => by
            have hL : vs.length = i := by rw [HVL.out, HAL.out]
            refine ⟨?_, ?_⟩
            · rw [HA.out]
              refine PtrsE.snoc (w := wr) (v := .slice aa i ac) (vs := vs) (q := Q) HVL.out (fun j hj => ?_) HTR.out (by rw [hL]; exact h1) h2 h3
              obtain ⟨t, q1, q2, q3⟩ := HVA.out j hj
              exact ⟨t, q1, q2.moved HBB.out.size fun b hb hok => ⟨hok, HBB.out.block b hb⟩, q3⟩
            · have hs2 := HBB.out.size
              have hs9 : wr.heap.size + 1 ≤ w9.heap.size := by have := h2.size; simpa using this
              refine ⟨h2.os.trans (HBB.out.os.trans hbw.os), by simpa using h2.tape.trans (HBB.out.tape.trans hbw.tape), h2.output.trans (HBB.out.output.trans hbw.output), by omega, fun b hb => ?_⟩
              rw [h2.block b (by simp; omega) (fun e => by have := (HVO.out.lt b e.symm).1; omega), Below.heap_alloc wr ob b (by omega), HBB.out.block b (by omega)]
              exact hbw.block b hb
          clear HN HU HTR d4
          have hs2 := HBB.out.size
          go_wp2_with (at_builtin; refine wpList_append_lies _ rfl _ _ 62 rfl w.heap.size 24 i1 (.pointer none) 1 8 Tryz.underlying62 hj0 hj1 hj2 hj3 rfl (by decide) (.slice aa i ac) i vs rfl (World.ownsRow.alloc hown2 _) ⟨wr.heap.size, 0, none⟩ 1 1 [.pointer (some ⟨Q, 0, none⟩)] rfl rfl (cell_one_new wr _ _) (by intro x hx; simp at hx; subst hx; rfl) (by omega) (by unfold maxLen; omega) (by omega) (by simp; omega) (wr.heap.size + 1) (by simp) ?_)
          intro g9 cap9 w9 hown9 hg9 hat9 hlt9
          have b1 := HFin.out _ w9 _ hown9 hg9 (by
            rcases hat9 with e | e
            · exact .inl (by rw [e]; rfl)
            · exact .inr (by rw [e]; simp [Value.ownBlock]))
          have B1 : Hid (TmI w ps w9 (i + 1) (.slice (some ⟨g9, 0, none⟩) (i + 1) cap9)) := b1
          clear b1 hown9 hg9 hat9 hlt9 HFin hown2
          go_wp2
          go_roundw
          case rel => exact ⟨i + 1, by omega, by go_num, B1⟩
          case measure => simp [intOf]; omega
    · obtain rfl : i = ps.length := by omega
      have hbw := HI.out.2
      obtain ⟨vs, hvl, hvo, hva⟩ := HI.out.1
      have hAL : (allE (ps.take ps.length)).length = ps.length := by rw [allTr_len, List.length_take]; omega
      rw [hAL] at hvl hva
      rw [hvl] at hvo
      obtain ⟨ga, cap', e, hga1, hga2⟩ := hvo.form (by omega)
      simp only [Value.slice.injEq, true_and] at e
      obtain ⟨rfl, rfl⟩ := e
      have cx := own_cellE hvo (show ps.length - 1 < ps.length by omega)
      obtain ⟨tx, htx, hTx, hPx⟩ := hva (ps.length - 1) (by omega)
      obtain ⟨vb, hvb⟩ := hPx
      rw [hvb] at cx hTx
      have HTx : Hid (Expr (fun b => w.heap.size ≤ b) wo (.pointer (some ⟨vb, 0, none⟩)) ((allE ps).getD (ps.length - 1) nilE)) := by
        rw [List.take_of_length_le (Nat.le_refl _)] at htx
        show Expr _ _ _ _
        rw [List.getD_eq_getElem?_getD, htx]
        exact hTx.imp fun b _ h => h.1
      have hne0 : ((ps.length : Int) == 0) = false := by rw [beq_eq_false_iff_ne]; omega
      have hsub : (ps.length : Int) - 1 = ((ps.length - 1 : Nat) : Int) := by omega
      have hnl : ps.length - 1 < ps.length := by omega
      clear HI hvl hvo hva hTx htx hvb hAL
      go_wp2
      go_ret
      exact ⟨vb, rfl, hbw, HTx.out⟩

end Go.Proofs.YthbglakncijahaaGreatDoor
