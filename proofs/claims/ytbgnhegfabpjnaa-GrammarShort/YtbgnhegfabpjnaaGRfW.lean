/- The document's side: Shortest, the walk. -/
import Derived.Test.YtbgnhegfabpjnaaGRfM
import Derived.Test.YtbgnhegfabpjnaaGEar
import Derived.Test.YtbgnhegfabpjnaaGShX
import Derived.Laws.AppendOwnNone
import Derived.Deep.AppendLies
import Derived.Deep.LoopGhost
namespace Go.Proofs.Ytbgnhegfabpjnaa
open Go.RowKit
set_option linter.unusedVariables false
set_option maxRecDepth 100000

set_option maxHeartbeats 2000000 in
theorem rshortest_out (g : Gm) (n : Int) (pv lv sv : Value) (w : World) (hn : n < 0 ∨ g.names ≤ n) :
    Calls Try.prog 8 #[gv g pv lv sv, .int .i64 n] w fun e w' => e = .returned (.tuple #[.slice none 0 0, .bool false]) ∧ Below w.heap.size w w' := by
  have hB0 := boxG_below w g pv lv sv
  have hB2 := boxG_box w g pv lv sv
  obtain ⟨q0, q1, q2, q3, q4, q5, q6⟩ := hB2
  unfold boxG gvs at hB0 q0 q1 q2 q3 q4 q5 q6
  unfold gv gvs
  by_cases hn0 : n < 0
  · have d1 : decide (n < 0) = true := decide_eq_true hn0
    go_enter Try.func8, Try.ntmps8
    go_wp2
    go_ret2
    exact ⟨rfl, hB0⟩
  · have hn1 : g.names ≤ n := by omega
    have d1 : decide (n < 0) = false := decide_eq_false hn0
    have d2 : decide (n ≥ g.names) = true := decide_eq_true hn1
    have d3 : ¬ n < g.names := by omega
    go_enter Try.func8, Try.ntmps8
    go_wp2
    go_ret2
    exact ⟨rfl, hB0⟩

set_option maxHeartbeats 16000000 in
theorem rshortest_any (t s : Int) (N n : Nat) (ps : List PdR) (ls ss : List Int) (pv lv sv : Value) (w : World) (hG : GOkM N ps) (h3 : ∀ p ∈ ps, ∀ x ∈ p.right, x ≤ 300) (hn : n < N) (h : PdsM w pv ps) :
    Calls Try.prog 8 #[gv ⟨t, N, s, ps, ls, ss⟩ pv lv sv, .int .i64 (n : Int)] w fun e w' => ∃ v F, e = .returned (.tuple #[v, .bool (factU F n).isSome]) ∧ IntsR w' v ((factU F n).getD []) ∧ RfI ps N F ∧ (∀ p ∈ ps, ClU F p) ∧ Below w.heap.size w w' := by
  obtain ⟨i0, hi0, hz0, hz1, hz2⟩ := infoParts Try.infoInt
  have hN := hG.n
  have hps := hG.len
  have hB0 := boxG_below w ⟨t, N, s, ps, ls, ss⟩ pv lv sv
  have hB1 := boxG_size w ⟨t, N, s, ps, ls, ss⟩ pv lv sv
  have hB2 := boxG_box w ⟨t, N, s, ps, ls, ss⟩ pv lv sv
  obtain ⟨pa, pc, rfl⟩ := h.slice
  have HP : Hid (PdsM w (.slice pa ps.length pc) ps) := h
  have HG : Hid (GOkM N ps) := hG
  have HP3 : Hid (∀ p ∈ ps, ∀ x ∈ p.right, x ≤ 300) := h3
  clear h hG h3
  have hmk1 := makeRows N (by omega) (boxG w ⟨t, N, s, ps, ls, ss⟩ (.slice pa ps.length pc) lv sv)
  have hmk2 := makeBools N (by omega) ((boxG w ⟨t, N, s, ps, ls, ss⟩ (.slice pa ps.length pc) lv sv).alloc (.cells (Array.replicate N (Value.slice none 0 0)) 23))
  have hS0 := @BsM.start (boxG w ⟨t, N, s, ps, ls, ss⟩ (.slice pa ps.length pc) lv sv) N
  have hA1 := alloc_below (boxG w ⟨t, N, s, ps, ls, ss⟩ (.slice pa ps.length pc) lv sv) (.cells (Array.replicate N (Value.slice none 0 0)) 23)
  have hA2 := alloc_size (boxG w ⟨t, N, s, ps, ls, ss⟩ (.slice pa ps.length pc) lv sv) (.cells (Array.replicate N (Value.slice none 0 0)) 23)
  have hA3 := alloc_below ((boxG w ⟨t, N, s, ps, ls, ss⟩ (.slice pa ps.length pc) lv sv).alloc (.cells (Array.replicate N (Value.slice none 0 0)) 23)) (.cells (Array.replicate N (Value.bool false)) 4)
  rw [hA2] at hmk2 hA3
  rw [hB1] at hmk1 hmk2 hS0 hA1 hA3
  have HBX : Hid (BoxG (boxG w ⟨t, N, s, ps, ls, ss⟩ (.slice pa ps.length pc) lv sv) w.heap.size ⟨t, N, s, ps, ls, ss⟩ (.slice pa ps.length pc) lv sv) := hB2
  have hbb : Below (w.heap.size + 1) (boxG w ⟨t, N, s, ps, ls, ss⟩ (.slice pa ps.length pc) lv sv) (((boxG w ⟨t, N, s, ps, ls, ss⟩ (.slice pa ps.length pc) lv sv).alloc (.cells (Array.replicate N (Value.slice none 0 0)) 23)).alloc (.cells (Array.replicate N (Value.bool false)) 4)) := hA1.trans (hA3.mono (by omega))
  have hq0 := HBX.out.below (Nat.lt_succ_self _) hA1
  obtain ⟨r0, r1, r2, r3, r4, r5, r6⟩ := hq0
  obtain ⟨q0, q1, q2, q3, q4, q5, q6⟩ := hB2
  unfold boxG gvs at hB0 hB1 hmk1 hmk2 hS0 hbb q0 q1 q2 q3 q4 q5 q6 HBX r0 r1 r2 r3 r4 r5 r6
  unfold gv gvs
  simp only at *
  have HS0 : Hid (BsM (((w.alloc (.cells #[.int .i64 t, .int .i64 N, .int .i64 s, .slice pa ps.length pc, lv, sv] 25)).alloc (.cells (Array.replicate N (Value.slice none 0 0)) 23)).alloc (.cells (Array.replicate N (Value.bool false)) 4)) (w.heap.size + 1) (w.heap.size + 1 + 1) N (List.replicate N none) (List.replicate N (Value.slice none 0 0))) := hS0
  have d1 : decide ((n : Int) < 0) = false := decide_eq_false (by omega)
  have d2 : decide ((n : Int) ≥ (N : Int)) = false := decide_eq_false (by omega)
  have d3 : ¬ (N : Int) ≤ (n : Int) := by omega
  clear hS0 hA1 hA2 hA3
  go_enter Try.func8, Try.ntmps8
  go_wp2
  clear hmk1 hmk2 q0 q1 q2 q3 q4 q5 q6 r0 r1 r2 r3 r4 r5 r6 d1 d2 d3
  generalize w.alloc (.cells #[.int .i64 t, .int .i64 N, .int .i64 s, .slice pa ps.length pc, lv, sv] 25) = w0 at *
  generalize (w0.alloc (.cells (Array.replicate N (Value.slice none 0 0)) 23)).alloc (.cells (Array.replicate N (Value.bool false)) 4) = w1 at *
  have HB1 : Hid (w0.heap.size = w.heap.size + 1) := hB1
  clear hB1
  go_loopg [8] (2 * rkU (List.replicate N none) + 1) (fun g ag wr => ∃ (F : List (Option (List Int))) (vs : List Value) (b : Bool), ag = .bool b ∧ Hid (BsM wr (w.heap.size + 1) (w.heap.size + 1 + 1) N F vs) ∧ Hid (RfI ps N F) ∧ Hid (2 * rkU F + (if b = true then 1 else 0) ≤ g) ∧ Hid (b = false → ∀ p ∈ ps, ClU F p) ∧ Below (w.heap.size + 1) w0 wr)
  case atStart => exact ⟨_, _, true, rfl, HS0, RfI.start ps N, (show _ ≤ _ from Nat.le_refl _), (fun e => by cases e), hbb⟩
  case round =>
    clear HS0 hbb
    obtain ⟨F, vs, b, rfl, HBM, HRF, HRK, HCL, hbw⟩ := hrel
    have hbx := hB0.trans (hbw.mono (Nat.le_succ _))
    cases b
    · have HC : Hid (∀ p ∈ ps, ClU F p) := HCL.out rfl
      have cB := HBM.out.cB hn
      have cH := HBM.out.cH hn
      have lB := HBM.out.rowB.lt
      have lH := HBM.out.rowH.lt
      have HIN : Hid (IntsR wr (vs.getD n .nilFunc) ((factU F n).getD [])) := (HBM.out.at_ n hn).ints
      obtain ⟨va, vc, hv⟩ := HIN.out.slice
      rw [hv] at cB HIN
      have HR2 : Hid (RfI ps N F) := HRF.out
      clear HBM HRF HRK HCL
      go_wp2
      go_quiet (fail)
      go_wp2
      go_ret2
      exact ⟨_, F, rfl, HIN.out.below ⟨rfl, rfl, rfl, Nat.le_refl _, fun _ _ => rfl⟩, HR2.out, HC.out, below_drewG hbx nq⟩
    · have HK0 : Hid (2 * rkU F + 1 ≤ gk) := HRK.out
      clear HRK HCL
      rename World => wa
      go_wp2
      go_loopw [8, 9] (fun ag iv wr => ∃ (F' : List (Option (List Int))) (vs : List Value) (b : Bool) (i : Nat), i ≤ ps.length ∧ ag = .bool b ∧ iv = .int .i64 i ∧ Hid (BsM wr (w.heap.size + 1) (w.heap.size + 1 + 1) N F' vs) ∧ Hid (RfI ps N F') ∧ Hid (b = true → rkU F' < rkU F) ∧ Hid (b = false → F' = F ∧ ∀ p ∈ ps.take i, ClU F p) ∧ Below (w.heap.size + 1) w0 wr) (fun _ iv _ => ps.length - (intOf iv).toNat)
      case atStart => exact ⟨F, vs, false, 0, Nat.zero_le _, rfl, rfl, HBM, HRF, (fun e => by cases e), (fun _ => ⟨rfl, fun p hp => by simp at hp⟩), hbw⟩
      case round =>
        clear HBM HRF hbw hbx vs
        obtain ⟨F', vs, b, i, hi, rfl, rfl, HBM, HRF, HT, HFa, hbw⟩ := hrel
        have hbx := hB0.trans (hbw.mono (Nat.le_succ _))
        obtain ⟨q0, q1, q2, q3, q4, q5, q6⟩ := HBX.out.below (Nat.lt_succ_self _) hbw
        simp only at q0 q1 q2 q3 q4 q5 q6
        by_cases hlt : i < ps.length
        · obtain ⟨bb, off, rv, rfl, hb, hpd⟩ := (HP.out.below hbx).at hlt
          have hO1 := (HG.out.pd i hlt).1
          have hI64 := (HG.out.pd i hlt).2
          have hmem : ps.getD i noPd ∈ ps := by simp [List.getD, hlt]
          have h3i := HP3.out _ hmem
          have HPM : Hid (ps.getD i noPd ∈ ps) := hmem
          have HTK : Hid (∀ q ∈ ps.take (i + 1), q ∈ ps.take i ∨ q = ps.getD i noPd) := fun q hq => by
            rw [List.take_succ_eq_append_getElem hlt] at hq
            rcases List.mem_append.1 hq with hq | hq
            · exact .inl hq
            · exact .inr (by rw [List.mem_singleton.1 hq]; simp [List.getD, hlt])
          generalize ps.getD i noPd = p at *
          obtain ⟨left, right, level⟩ := p
          obtain ⟨hl0, hl1, hl2, hl3⟩ := hO1
          simp only at hl0 hl1 hl2 hl3 hI64 h3i
          obtain ⟨lf, rfl⟩ : ∃ lf : Nat, left = (lf : Int) := ⟨left.toNat, by omega⟩
          have hlf : lf < N := by omega
          have HSY : Hid (∀ j, j < right.length → -(N : Int) ≤ right.getD j 0 ∧ right.getD j 0 ≤ 300) := fun j hj => ⟨hl3 j hj, h3i _ (getD_memI right j hj)⟩
          have HR3 : Hid (∀ s ∈ right, s ≤ 300) := h3i
          obtain ⟨c0, c1, c2, hr⟩ := hpd
          simp only at c0 c1 c2 hr
          have HRw : Hid (IntsR wr rv right) := hr
          obtain ⟨ra, rc, rfl⟩ := hr.slice
          clear hr hl0 hl1 hl3 hI64 h3i hmem c2
          have HPd : Hid (∀ w', Below wr.heap.size wr w' → w'.cell? ⟨bb, off + i * 3, none⟩ = some (.int .i64 (lf : Int)) ∧ w'.cell? ⟨bb, off + i * 3 + 1, none⟩ = some (.slice ra right.length rc) ∧ bb < w'.heap.size ∧ w'.cell? ⟨w.heap.size, 3, none⟩ = some (.slice (some ⟨bb, off, none⟩) ps.length pc) ∧ w.heap.size < w'.heap.size) := fun w' h' => ⟨(h'.cell (p := ⟨bb, off + i * 3, none⟩) hb).trans c0, (h'.cell (p := ⟨bb, off + i * 3 + 1, none⟩) hb).trans c1, Nat.lt_of_lt_of_le hb h'.size, (h'.cell (p := ⟨w.heap.size, 3, none⟩) q0).trans q4, Nat.lt_of_lt_of_le q0 h'.size⟩
          rename World => wo
          go_wp2
          clear q1 q2 q3 q4 q5 q6 c0 c1
          have HO0 : Hid (OwnI wo wo.heap.size (.slice none 0 0) []) := ⟨rfl, .inl ⟨rfl, rfl⟩⟩
          go_loopw [10, 11, 12] (fun lv okv kv wr => ∃ (k : Nat) (ok : Bool) (l : List Int), k ≤ right.length ∧ okv = .bool ok ∧ kv = .int .i64 k ∧ Hid (RowU (factU F') right k ok l) ∧ Hid (OwnI wr wo.heap.size lv l) ∧ l.length ≤ 2000 ∧ Below wo.heap.size wo wr) (fun _ _ kv _ => right.length - (intOf kv).toNat)
          case atStart => exact ⟨0, true, [], Nat.zero_le _, rfl, rfl, RowU.start _ _, HO0, by simp, Below.refl _ _⟩
          case round =>
            clear HO0
            obtain ⟨k, ok, l, hk, rfl, rfl, HRU, HOI, hll, hbi⟩ := hrel
            obtain ⟨la, lc, rfl⟩ := HOI.out.slice
            obtain ⟨e0, e1, e2, e3, e4⟩ := HPd.out wr hbi
            have hboxes := HBM.out.below hbi
            cases ok
            · have HFa2 : Hid (b = false → F' = F ∧ ∀ q ∈ ps.take (i + 1), ClU F q) := fun e => by
                obtain ⟨e1, e2⟩ := HFa.out e
                refine ⟨e1, fun q hq => ?_⟩
                rcases HTK.out q hq with hq | hq
                · exact e2 q hq
                · rw [hq, ← e1]; exact ClU.bad HRU.out.bad
              have HBM2 : Hid (BsM wr (w.heap.size + 1) (w.heap.size + 1 + 1) N F' vs) := hboxes
              have hbw2 : Below (w.heap.size + 1) w0 wr := hbw.trans (hbi.mono (by have := hbw.size; have := HB1.out; omega))
              clear HBM HFa HTK hboxes HOI HRU HPd HRw HSY
              by_cases hkA : k < right.length
              all_goals
                go_wp2
                go_roundw
                case rel => exact ⟨F', vs, b, i + 1, by omega, rfl, by go_num, HBM2, HRF, HT, HFa2, hbw2⟩
                case measure => simp [intOf]; omega
            · by_cases hkl : k < right.length
              · obtain ⟨b2, off2, rfl, hb2, hc2⟩ := (HRw.out.below hbi).at hkl
                obtain ⟨hs1, hs2⟩ := HSY.out k hkl
                have HSt : Hid (∀ x, symS (factU F') (right.getD k 0) = some x → RowU (factU F') right (k + 1) (decide ((l ++ x).length ≤ 1000)) (l ++ x)) := fun x hx => HRU.out.step hkl hx
                have HSn : Hid (∀ l', symS (factU F') (right.getD k 0) = none → RowU (factU F') right (k + 1) false l') := fun l' hx => HRU.out.none hkl hx
                have hl1 : l.length ≤ 1000 := by
                  have h9 : catS (factU F') (right.take k) = some l ∧ l.length ≤ 1000 := by simpa [RowU] using HRU.out
                  exact h9.2
                generalize right.getD k 0 = sy at *
                have hown : wr.ownsRow wo.heap.size 3 1 (.slice la l.length lc) l.length (l.map (Value.int .i64)) := HOI.out
                have hszw := hbi.size
                have HGr : Hid (∀ w2 ob, wr.grownBy w2 ob → (∀ g, ob = some g → wo.heap.size ≤ g) → Below wo.heap.size wo w2) := fun w2 ob hg hob => hbi.trans ⟨hg.os, hg.tape, hg.output, hg.size, fun c hc => hg.block c (by omega) (fun e => by have := hob _ e.symm; omega)⟩
                have HOl : Hid (∀ g, (Value.slice la l.length lc).ownBlock = some g → wo.heap.size ≤ g) := fun g hg => (HOI.out.lt g hg).1
                clear HRU
                by_cases hs : 0 ≤ sy
                · have hsym : symS (factU F') sy = some [sy] := by unfold symS; rw [if_neg (by omega)]
                  have HR2 := HSt.out [sy] hsym
                  have HR2' : Hid (RowU (factU F') right (k + 1) (decide ((l ++ [sy]).length ≤ 1000)) (l ++ [sy])) := HR2
                  have d1 : decide (sy ≥ 0) = true := decide_eq_true hs
                  clear HSt HSn hsym HR2 HOI hboxes
                  go_wp2_with (at_builtin; refine wpList_append_lies _ rfl _ _ 23 rfl wo.heap.size 3 i0 (.int .i64 0) 1 8 Try.underlying23 hi0 hz0 hz1 hz2 rfl (by decide) (.slice la l.length lc) l.length (l.map (Value.int .i64)) rfl (World.ownsRow.alloc hown _) ⟨wr.heap.size, 0, none⟩ 1 1 [.int .i64 sy] rfl rfl (cell_one_new wr _ _) (by intro x hx; simp at hx; subst hx; rfl) (by omega) (by unfold maxLen; omega) (by omega) (by simp; omega) (wr.heap.size + 1) (by simp) ?_)
                  intro g2 cc2 w2 hown2 hg2 hat2 hlt2
                  have hg3 : wr.grownBy w2 (Value.slice la l.length lc).ownBlock := ⟨hg2.os, hg2.tape, hg2.output, Nat.le_trans (by simp) hg2.size, fun c hc hne => (hg2.block c (by simp; omega) hne).trans (Below.heap_alloc wr _ c hc)⟩
                  have hb2' := HGr.out w2 _ hg3 HOl.out
                  have HO2 : Hid (OwnI w2 wo.heap.size (.slice (some ⟨g2, 0, none⟩) (l.length + 1) cc2) (l ++ [sy])) := by
                    show w2.ownsRow _ _ _ _ _ _
                    simpa using hown2
                  clear hown2 hg2 hat2 hlt2 hg3 HGr HOl hown
                  have e9 : decide ((l ++ [sy]).length ≤ 1000) = decide (((l.length : Int) + 1) ≤ 1000) := decide_eq_decide.2 (by simp; omega)
                  rw [e9] at HR2'
                  clear e9
                  by_cases h10 : ((l.length : Int) + 1) ≤ 1000
                  · have d10 : decide (((l.length : Int) + 1) ≤ 1000) = true := decide_eq_true h10
                    rw [d10] at HR2'
                    go_wp2
                    go_roundw
                    case rel => exact ⟨k + 1, true, l ++ [sy], by omega, rfl, by go_num, HR2', HO2, by simp; omega, hb2'⟩
                    case measure => simp [intOf]; omega
                  · have d10 : decide (((l.length : Int) + 1) ≤ 1000) = false := decide_eq_false h10
                    rw [d10] at HR2'
                    go_wp2
                    go_roundw
                    case rel => exact ⟨k + 1, false, l ++ [sy], by omega, rfl, by go_num, HR2', HO2, by simp; omega, hb2'⟩
                    case measure => simp [intOf]; omega
                · obtain ⟨q, hq⟩ : ∃ q : Nat, -1 - sy = (q : Int) := ⟨(-1 - sy).toNat, by omega⟩
                  have hqN : q < N := by omega
                  have hsym : symS (factU F') sy = factU F' q := by unfold symS; rw [if_pos (by omega), hq, Int.toNat_natCast]
                  rw [hsym] at HSt HSn
                  have cB := hboxes.cB hqN
                  have cH := hboxes.cH hqN
                  have lB := hboxes.rowB.lt
                  have lH := hboxes.rowH.lt
                  have hat := hboxes.at_ q hqN
                  have hOkq := HRF.out.ok q
                  have d1 : decide (sy ≥ 0) = false := decide_eq_false (by omega)
                  have d1' : ¬ 0 ≤ sy := hs
                  have hsub : IntKind.i64.wrap (-1 - sy) = (q : Int) := by rw [IntKind.wrap_i64]; omega
                  generalize vs.getD q .nilFunc = bv at *
                  obtain ⟨x, hfx⟩ : ∃ x, x = (factU F' q).getD [] := ⟨_, rfl⟩
                  obtain ⟨hb9, hfa⟩ : ∃ hb9, hb9 = (factU F' q).isSome := ⟨_, rfl⟩
                  have hxl : x.length ≤ 1000 := by
                    rw [hfx]
                    cases e : factU F' q with
                    | none => simp
                    | some y => exact (hOkq y e).1
                  have HNX : Hid (RowU (factU F') right (k + 1) (hb9 && decide ((l ++ x).length ≤ 1000)) (l ++ x)) := by
                    rw [hfa, hfx]
                    cases e : factU F' q with
                    | none => exact HSn.out _ e
                    | some y => exact HSt.out y e
                  rw [← hfa] at cH
                  rw [← hfx] at hat
                  clear hfx hOkq hsym hboxes hfa
                  obtain ⟨n2, hn2⟩ : ∃ n2, n2 = l.length + x.length := ⟨_, rfl⟩
                  have HN2 : Hid (n2 = l.length + x.length) := hn2
                  have hn20 : n2 ≤ 2000 := by omega
                  have hlx : l.length + x.length ≤ 2000 := by omega
                  clear hn2
                  obtain ⟨ba, bcc, rfl, hcase⟩ := hat
                  rcases hcase with ⟨hnil, rfl⟩ | ⟨g, off3, rfl, hg1, _, _, hg4⟩
                  · obtain ⟨rfl, rfl⟩ : ba = none ∧ bcc = 0 := by simpa using hnil
                    have HNY : Hid (RowU (factU F') right (k + 1) hb9 l) := by
                      have h9 := HNX.out
                      rw [List.append_nil, decide_eq_true hl1, Bool.and_true] at h9
                      exact h9
                    have h10 : (l.length : Int) ≤ 1000 := by omega
                    have d10 : decide ((l.length : Int) ≤ 1000) = true := decide_eq_true h10
                    clear HNX HN2 hn20 hlx hxl HSt HSn hnil HGr HOl
                    cases hb9
                    all_goals
                      go_wp2_with (at_builtin; refine wpList_append_own_none rfl _ _ 23 rfl wo.heap.size 3 i0 1 Try.underlying23 hi0 (.slice la l.length lc) l.length (l.map (Value.int .i64)) rfl hown rfl ?_)
                      go_roundw
                      case rel => exact ⟨k + 1, _, l, by omega, rfl, by go_num, HNY, HOI, hll, hbi⟩
                      case measure => simp [intOf]; omega
                  · have HG4 : Hid (∀ (j : Nat) (y : Int), x[j]? = some y → wr.cell? ⟨g, off3 + j, none⟩ = some (.int .i64 y)) := fun j y hy => by
                      have hj := (List.getElem?_eq_some_iff.1 hy).1
                      rw [hg4 j hj]
                      simp [List.getD, hy]
                    clear hg4 HSt HSn
                    have hbase : wo.heap.size ≤ wr.heap.size := hszw
                    cases hb9
                    all_goals
                      go_wp2_with (at_builtin; refine wpList_append_own _ rfl _ _ 23 rfl wo.heap.size 3 i0 (.int .i64 0) 1 8 Try.underlying23 hi0 hz0 hz1 hz2 rfl (by decide) (.slice la l.length lc) l.length (l.map (Value.int .i64)) rfl hown ⟨g, off3, none⟩ x.length bcc (x.map (Value.int .i64)) rfl ?c0 ?c1 ?c2 ?c3 ?c4 ?c5 ?_)
                      case c1 => exact HG4.out
                      case c2 => intro y _; rfl
                      case c3 => unfold maxLen; omega
                      case c4 => omega
                      intro v2 w2 hown2 hg2 hnil2
                      obtain ⟨a2, cc2, rfl⟩ : ∃ a2 cc2, v2 = .slice a2 n2 cc2 := by
                        rcases hown2.2 with ⟨e, h0⟩ | ⟨g5, cap5, cur5, e, _⟩
                        · exact ⟨none, 0, by rw [e, HN2.out, h0]⟩
                        · exact ⟨_, _, by rw [e, HN2.out]⟩
                      have hb2' := HGr.out w2 _ hg2 HOl.out
                      have HO2 : Hid (OwnI w2 wo.heap.size (.slice a2 n2 cc2) (l ++ x)) := by
                        show w2.ownsRow _ _ _ _ _ _
                        rw [List.length_append, List.map_append]
                        exact hown2
                      have HLX : Hid ((l ++ x).length ≤ 2000) := by show _ ≤ _; rw [List.length_append]; omega
                      clear hown2 hg2 hnil2 HG4
                      by_cases h10 : (n2 : Int) ≤ 1000
                      · have d10 : decide ((n2 : Int) ≤ 1000) = true := decide_eq_true h10
                        have h9 : decide ((l ++ x).length ≤ 1000) = true := by rw [decide_eq_true_iff, List.length_append]; have := HN2.out; omega
                        rw [h9] at HNX
                        clear h9 HN2
                        go_wp2
                        go_roundw
                        case rel => exact ⟨k + 1, _, l ++ x, by omega, rfl, by go_num, HNX, HO2, HLX.out, hb2'⟩
                        case measure => simp [intOf]; omega
                      · have d10 : decide ((n2 : Int) ≤ 1000) = false := decide_eq_false h10
                        have h9 : decide ((l ++ x).length ≤ 1000) = false := by rw [decide_eq_false_iff_not, List.length_append]; have := HN2.out; omega
                        rw [h9] at HNX
                        clear h9 HN2
                        go_wp2
                        go_roundw
                        case rel => exact ⟨k + 1, _, l ++ x, by omega, rfl, by go_num, HNX, HO2, HLX.out, hb2'⟩
                        case measure => simp [intOf]; omega
              · obtain rfl : k = right.length := by omega
                have HTo : Hid (toldS (catS (factU F') right) = some l) := HRU.out.good
                have cB := hboxes.cB hlf
                have cH := hboxes.cH hlf
                have lB := hboxes.rowB.lt
                have lH := hboxes.rowH.lt
                have fB := hboxes.rowB.fz lf
                have fH := hboxes.rowH.fz lf
                have hatl := hboxes.at_ lf hlf
                have hbw2 : Below (w.heap.size + 1) w0 wr := hbw.trans (hbi.mono (by have := hbw.size; have := HB1.out; omega))
                have hIN : IntsN wr (w.heap.size + 1) (w.heap.size + 1 + 1) (.slice la l.length lc) l := HOI.out.ints (Nat.lt_of_lt_of_le (HBM.out.rowB.lt) (Nat.le_refl _)) (HBM.out.rowH.lt)
                have HIN9 : Hid (IntsN wr (w.heap.size + 1) (w.heap.size + 1 + 1) (.slice la l.length lc) l) := hIN
                have HLI : Hid (IntsR wr (.slice la l.length lc) l) := hIN.ints
                have HSet : Hid (BsM ((wr.setCell ⟨w.heap.size + 1, lf, none⟩ (.slice la l.length lc)).setCell ⟨w.heap.size + 1 + 1, lf, none⟩ (.bool true)) (w.heap.size + 1) (w.heap.size + 1 + 1) N (F'.set lf (some l)) (vs.set lf (.slice la l.length lc))) := hboxes.set (by omega) hlf hIN
                have hbw3 : Below (w.heap.size + 1) w0 ((wr.setCell ⟨w.heap.size + 1, lf, none⟩ (.slice la l.length lc)).setCell ⟨w.heap.size + 1 + 1, lf, none⟩ (.bool true)) := below_set (below_set hbw2 (Nat.le_refl _) lf _) (Nat.le_succ _) lf _
                have HTr : Hid (rkU F' ≤ rkU F) := by
                  show _ ≤ _
                  cases hbq : b
                  · rw [(HFa.out hbq).1]; exact Nat.le_refl _
                  · exact Nat.le_of_lt (HT.out hbq)
                have HBt : Hid ((factU F' lf = none ∨ ∃ b0, factU F' lf = some b0 ∧ earB l b0 = true) → RfI ps N (F'.set lf (some l)) ∧ rkU (F'.set lf (some l)) < rkU F) := fun hh => by
                  obtain ⟨h1, h2⟩ := HRF.out.set HPM.out rfl hlf HR3.out HTo.out hh
                  exact ⟨h1, Nat.lt_of_lt_of_le h2 HTr.out⟩
                have HBM2 : Hid (BsM wr (w.heap.size + 1) (w.heap.size + 1 + 1) N F' vs) := hboxes
                have hkr : ¬ (right.length : Int) < (right.length : Int) := by omega
                generalize vs.getD lf .nilFunc = bv at *
                clear hIN HRU HOI hboxes HRw HSY HPd HBM
                cases hfl : factU F' lf with
                | none =>
                  obtain ⟨h1, h2⟩ := HBt.out (.inl hfl)
                  have HR2 : Hid (RfI ps N (F'.set lf (some l))) := h1
                  have HK2 : Hid (rkU (F'.set lf (some l)) < rkU F) := h2
                  rw [hfl] at cH
                  obtain ⟨ba, bcc, rfl, _⟩ := hatl
                  clear h1 h2 hfl HBt HTo HT HFa HTK HBM2
                  generalize (Option.getD (none : Option (List Int)) []).length = z0 at *
                  simp only [Option.isSome_none] at cH
                  go_wp2
                  go_roundw
                  case rel => exact ⟨_, _, true, i + 1, by omega, rfl, by go_num, HSet, HR2, (fun _ => HK2.out), (fun e => by cases e), hbw3⟩
                  case measure => simp [intOf]; omega
                | some b0 =>
                  rw [hfl] at cH hatl
                  simp only [Option.isSome_some, Option.getD_some] at cH hatl
                  have hEa := earlier_any (.slice la l.length lc) bv l b0 wr (by omega) HLI.out hatl.ints
                  obtain ⟨ba, bcc, rfl, _⟩ := hatl
                  have HCl : Hid (earB l b0 = false → ∀ e : b = false, F' = F ∧ ∀ q ∈ ps.take (i + 1), ClU F q) := fun he e => by
                    obtain ⟨e1, e2⟩ := HFa.out e
                    refine ⟨e1, fun q hq => ?_⟩
                    rcases HTK.out q hq with hq | hq
                    · exact e2 q hq
                    · rw [hq, ← e1]; exact ClU.ear rfl HTo.out hfl he
                  have HBt2 : Hid (earB l b0 = true → RfI ps N (F'.set lf (some l)) ∧ rkU (F'.set lf (some l)) < rkU F) := fun he => HBt.out (.inr ⟨b0, hfl, he⟩)
                  clear HFa HTK HBt HTo hfl
                  go_wp2_with fail
                  refine hEa.mono ?_
                  rintro e w2 ⟨rfl, hb2⟩
                  clear hEa
                  have hsz2 := hb2.size
                  cases he : earB l b0
                  · have HC2 : Hid (b = false → F' = F ∧ ∀ q ∈ ps.take (i + 1), ClU F q) := HCl.out he
                    have HB3 : Hid (BsM w2 (w.heap.size + 1) (w.heap.size + 1 + 1) N F' vs) := HBM2.out.below hb2
                    have hbw4 : Below (w.heap.size + 1) w0 w2 := hbw2.trans (hb2.mono (by omega))
                    clear HCl HBt2 HSet HBM2 cB cH fB fH
                    go_wp2
                    go_roundw
                    case rel => exact ⟨F', vs, b, i + 1, by omega, rfl, by go_num, HB3, HRF, HT, HC2, hbw4⟩
                    case measure => simp [intOf]; omega
                  · obtain ⟨h1, h2⟩ := HBt2.out he
                    have HR2 : Hid (RfI ps N (F'.set lf (some l))) := h1
                    have HK2 : Hid (rkU (F'.set lf (some l)) < rkU F) := h2
                    have hB2 := HBM2.out.below hb2
                    have cB2 := hB2.cB hlf
                    have cH2 := hB2.cH hlf
                    have lB2 := hB2.rowB.lt
                    have lH2 := hB2.rowH.lt
                    have fB2 := hB2.rowB.fz lf
                    have fH2 := hB2.rowH.fz lf
                    have hIN2 : IntsN w2 (w.heap.size + 1) (w.heap.size + 1 + 1) (.slice la l.length lc) l := HIN9.out.kept hb2.size fun k hk _ _ => hb2.block k hk
                    have HSet2 : Hid (BsM ((w2.setCell ⟨w.heap.size + 1, lf, none⟩ (.slice la l.length lc)).setCell ⟨w.heap.size + 1 + 1, lf, none⟩ (.bool true)) (w.heap.size + 1) (w.heap.size + 1 + 1) N (F'.set lf (some l)) (vs.set lf (.slice la l.length lc))) := hB2.set (by omega) hlf hIN2
                    have hbw4 : Below (w.heap.size + 1) w0 ((w2.setCell ⟨w.heap.size + 1, lf, none⟩ (.slice la l.length lc)).setCell ⟨w.heap.size + 1 + 1, lf, none⟩ (.bool true)) := below_set (below_set (hbw2.trans (hb2.mono (by omega))) (Nat.le_refl _) lf _) (Nat.le_succ _) lf _
                    generalize vs.getD lf .nilFunc = bv2 at cB2
                    generalize (factU F' lf).isSome = bs2 at cH2
                    clear HCl HBt2 HSet HBM2 cB cH fB fH h1 h2 hB2 hIN2
                    go_wp2
                    go_roundw
                    case rel => exact ⟨_, _, true, i + 1, by omega, rfl, by go_num, HSet2, HR2, (fun _ => HK2.out), (fun e => by cases e), hbw4⟩
                    case measure => simp [intOf]; omega
        · obtain rfl : i = ps.length := by omega
          have HFin : Hid (b = false → ∀ p ∈ ps, ClU F' p) := fun e p hp => by
            obtain ⟨e1, e2⟩ := HFa.out e
            rw [e1]
            exact e2 p (by rw [List.take_length]; exact hp)
          have HRk2 : Hid (2 * rkU F' + (if b = true then 1 else 0) < gk) := by
            have h0 := HK0.out
            show _ < _
            cases b
            · obtain ⟨e1, _⟩ := HFa.out rfl
              rw [e1, if_neg (by simp)]; omega
            · have := HT.out rfl
              rw [if_pos rfl]; omega
          clear HT HFa
          go_wp2
          go_roundg (2 * rkU F' + (if b = true then 1 else 0))
          case rel => exact ⟨F', vs, b, rfl, HBM, HRF, (show _ ≤ _ from Nat.le_refl _), HFin, hbw⟩
          case measure => exact HRk2.out

end Go.Proofs.Ytbgnhegfabpjnaa
