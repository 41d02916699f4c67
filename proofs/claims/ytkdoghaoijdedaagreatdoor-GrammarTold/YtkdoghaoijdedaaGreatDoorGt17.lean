/- Texts of the proof, put together: GAlk. -/
import Derived.Test.YtkdoghaoijdedaaGreatDoorGt14
import Derived.Test.YtkdoghaoijdedaaGreatDoorGt16
namespace Go.Proofs.YtkdoghaoijdedaaGreatDoor
open Go.RowKit
set_option linter.unusedVariables false
set_option maxRecDepth 100000

/-- at this place stands a name, and all others may be empty -/
def alkAt (e : Nat → Bool) (r : List Int) (i : Nat) : Bool := decide (r.getD i 0 < 0) && (hasB false e (r.take i) && hasB false e (r.drop (i + 1)))
def PdAlk (e : Nat → Bool) (p : PdR) (j m n : Nat) : Prop := p.left = (m : Int) ∧ ∃ i, i < j ∧ alkAt e p.right i = true ∧ -1 - p.right.getD i 0 = (n : Int)
def alkR (e : Nat → Bool) (ps : List PdR) (k : Nat) (m n : Nat) : Prop := ∃ q, q < k ∧ PdAlk e (ps.getD q noPd) (ps.getD q noPd).right.length m n
theorem alkR_succ (e : Nat → Bool) (ps : List PdR) (k m n : Nat) : alkR e ps (k + 1) m n ↔ alkR e ps k m n ∨ PdAlk e (ps.getD k noPd) (ps.getD k noPd).right.length m n := by
  constructor
  · rintro ⟨q, hq, h⟩
    by_cases e : q = k
    · subst e; exact .inr h
    · exact .inl ⟨q, by omega, h⟩
  · rintro (⟨q, hq, h⟩ | h)
    · exact ⟨q, by omega, h⟩
    · exact ⟨k, by omega, h⟩
theorem PdAlk_no (e : Nat → Bool) (p : PdR) (j m n : Nat) (h : alkAt e p.right j = false) : PdAlk e p (j + 1) m n ↔ PdAlk e p j m n := by
  constructor
  · rintro ⟨h1, i, hi, h2, h3⟩
    by_cases e : i = j
    · subst e; rw [h] at h2; cases h2
    · exact ⟨h1, i, by omega, h2, h3⟩
  · rintro ⟨h1, i, hi, h2⟩; exact ⟨h1, i, by omega, h2⟩
theorem PdAlk_yes (e : Nat → Bool) (p : PdR) (j lf q m n : Nat) (hl : p.left = (lf : Int)) (h : alkAt e p.right j = true) (hq : -1 - p.right.getD j 0 = (q : Int)) : PdAlk e p (j + 1) m n ↔ PdAlk e p j m n ∨ (m = lf ∧ n = q) := by
  constructor
  · rintro ⟨h1, i, hi, h2, h3⟩
    by_cases e : i = j
    · subst e; exact .inr ⟨by omega, by omega⟩
    · exact .inl ⟨h1, i, by omega, h2, h3⟩
  · rintro (⟨h1, i, hi, h2⟩ | ⟨rfl, rfl⟩)
    · exact ⟨h1, i, by omega, h2⟩
    · exact ⟨hl, j, by omega, h, hq⟩
theorem SymsL.take {N : Nat} {r : List Int} (h : SymsL N r) (k : Nat) : SymsL N (r.take k) := by
  refine ⟨Nat.le_trans (by rw [List.length_take]; omega) h.1, fun j hj => ?_⟩
  rw [List.length_take] at hj
  have := h.2 j (by omega)
  rwa [show (r.take k).getD j 0 = r.getD j 0 by simp [List.getD, List.getElem?_take_of_lt (show j < k by omega)]]
theorem SymsL.drop {N : Nat} {r : List Int} (h : SymsL N r) (k : Nat) : SymsL N (r.drop k) := by
  refine ⟨Nat.le_trans (by rw [List.length_drop]; omega) h.1, fun j hj => ?_⟩
  rw [List.length_drop] at hj
  have := h.2 (k + j) (by omega)
  rwa [show (r.drop k).getD j 0 = r.getD (k + j) 0 by simp [List.getD, List.getElem?_drop]]

set_option maxHeartbeats 8000000 in
theorem alike_any (t s : Int) (N : Nat) (ps : List PdR) (ls ss : List Int) (pv lv sv : Value) (w : World) (hG : GOkM N ps) (h : PdsM w pv ps) :
    Calls Tryz.prog 50 #[gv ⟨t, N, s, ps, ls, ss⟩ pv lv sv] w fun e w' => ∃ D cnt, e = .returned (.slice (some ⟨D, 0, none⟩) N N) ∧ LinksM w' D N (fun n => D + 1 + n) cnt (alkR (hgtB false (prsS ps) N) ps ps.length) ∧ (∀ n, cnt n ≤ 8000) ∧ w.heap.size ≤ D ∧ Below w.heap.size w w' := by
  have hN := hG.n
  have hps := hG.len
  have hB0 := boxG_below w ⟨t, N, s, ps, ls, ss⟩ pv lv sv
  have hB1 := boxG_size w ⟨t, N, s, ps, ls, ss⟩ pv lv sv
  have hB2 := boxG_box w ⟨t, N, s, ps, ls, ss⟩ pv lv sv
  have hHT := haveTrees_any false t s N ps ls ss pv lv sv (boxG w ⟨t, N, s, ps, ls, ss⟩ pv lv sv) hG (h.below hB0)
  obtain ⟨pa, pc, rfl⟩ := h.slice
  have HP : Hid (PdsM w (.slice pa ps.length pc) ps) := h
  have HOK : Hid (∀ m, m < ps.length → PdOk N (ps.getD m noPd) ∧ ∀ j, j < (ps.getD m noPd).right.length → I64 ((ps.getD m noPd).right.getD j 0)) := hG.pd
  clear h hG
  unfold boxG gv gvs at hHT
  unfold boxG gvs at hB0 hB1 hB2
  unfold gv gvs
  simp only at *
  obtain ⟨q0, q1, q2, q3, q4, q5, q6⟩ := hB2
  have HBX : Hid (BoxG (w.alloc (.cells #[.int .i64 t, .int .i64 N, .int .i64 s, .slice pa ps.length pc, lv, sv] 25)) w.heap.size ⟨t, N, s, ps, ls, ss⟩ (.slice pa ps.length pc) lv sv) := ⟨q0, q1, q2, q3, q4, q5, q6⟩
  simp only at q0 q1 q2 q3 q4 q5 q6
  go_enter Tryz.func50, Tryz.ntmps50
  go_wp2_with fail
  refine hHT.mono ?_
  rintro e wa ⟨EB, L, rfl, hrow, hLl, hfact, hEB, hba⟩
  clear hHT q0 q1 q2 q3 q4 q5 q6
  generalize w.alloc (.cells #[.int .i64 t, .int .i64 N, .int .i64 s, .slice pa ps.length pc, lv, sv] 25) = wz at *
  have hB01 : Below w.heap.size w wa := hB0.trans (hba.mono (by omega))
  have HBXa : Hid (BoxG wa w.heap.size ⟨t, N, s, ps, ls, ss⟩ (.slice pa ps.length pc) lv sv) := HBX.out.below (show w.heap.size < wz.heap.size by omega) hba
  have HRE : Hid (RowB wa EB L) := hrow
  have HLE : Hid (L.length = N) := hLl
  have HFE : Hid (factB L = hgtB false (prsS ps) N) := funext hfact
  have hNL := newLinks_any N hN wa
  have hDw : w.heap.size < wa.heap.size := Nat.lt_of_lt_of_le (by omega) hba.size
  clear hrow hLl hfact hEB hba hB0 hB1 HBX wz
  obtain ⟨q0, q1, q2, q3, q4, q5, q6⟩ := HBXa.out
  simp only at q0 q1 q2 q3 q4 q5 q6
  go_wp2_with fail
  refine hNL.mono ?_
  rintro e w1 ⟨rfl, ⟨vs, hnew⟩, hb1⟩
  clear hNL q0 q1 q2 q3 q4 q5 q6
  obtain ⟨D, hD⟩ : ∃ D, D = wa.heap.size := ⟨_, rfl⟩
  rw [← hD] at hnew hb1 hDw ⊢
  have HD : Hid (wa.heap.size = D) := hD.symm
  clear hD
  have HL0 : Hid (LinksM w1 D N (fun n => D + 1 + n) (fun _ => 0) (alkR (hgtB false (prsS ps) N) ps 0)) := (LinksM.new hnew).iff fun n k => ⟨fun e => e.elim, fun ⟨q, hq, _⟩ => by omega⟩
  clear hnew
  have HREb : Hid (∀ wx, Below D wa wx → RowB wx EB L) := fun wx hx => (hx.block EB (by rw [← HD.out]; exact HRE.out.lt)).trans HRE.out
  obtain ⟨q0, q1, q2, q3, q4, q5, q6⟩ := HBXa.out.below hDw hb1
  simp only at q0 q1 q2 q3 q4 q5 q6
  go_wp2
  clear q0 q1 q2 q3 q4 q5 q6
  go_loopw [19] (fun i wr => ∃ (k : Nat) (cnt : Nat → Nat), k ≤ ps.length ∧ i = .int .i64 k ∧ Hid (LinksM wr D N (fun n => D + 1 + n) cnt (alkR (hgtB false (prsS ps) N) ps k)) ∧ Hid (∀ n, cnt n ≤ k * 20) ∧ Below D wa wr) (fun i _ => ps.length - (intOf i).toNat)
  case atStart => exact ⟨0, _, Nat.zero_le _, rfl, HL0, (fun n => Nat.zero_le _), hb1⟩
  case round =>
    obtain ⟨k, cnt, hk, rfl, HL, HC, hbw⟩ := hrel
    have hbx := hB01.trans (hbw.mono (Nat.le_of_lt hDw))
    by_cases hlt : k < ps.length
    · obtain ⟨b, off, rv, rfl, hb, hpd⟩ := HP.out.at hlt
      have hpd2 := hpd.below hb hbx
      obtain ⟨hO1, hO2⟩ := HOK.out k hlt
      have HLS : Hid (∀ m n, alkR (hgtB false (prsS ps) N) ps (k + 1) m n ↔ alkR (hgtB false (prsS ps) N) ps k m n ∨ PdAlk (hgtB false (prsS ps) N) (ps.getD k noPd) (ps.getD k noPd).right.length m n) := alkR_succ _ ps k
      generalize ps.getD k noPd = p at *
      obtain ⟨left, right, level⟩ := p
      obtain ⟨hl0, hl1, hl2, hl3⟩ := hO1
      simp only at hl0 hl1 hl2 hl3 hO2 HLS
      obtain ⟨lf, rfl⟩ : ∃ lf : Nat, left = (lf : Int) := ⟨left.toNat, by omega⟩
      have hlf : lf < N := by omega
      clear hl0 hl1
      have HSY : Hid (∀ j, j < right.length → -(N : Int) ≤ right.getD j 0 ∧ I64 (right.getD j 0)) := fun j hj => ⟨hl3 j hj, hO2 j hj⟩
      clear hl3 hO2
      have HRw : Hid (IntsR w rv right) := hpd.right
      obtain ⟨ra, rc, rfl⟩ := hpd.right.slice
      obtain ⟨c0, c1, c2, _⟩ := hpd2
      simp only at c0 c1 c2
      have hbr : b < wr.heap.size := Nat.lt_of_lt_of_le hb hbx.size
      have hDlt := HL.out.lt
      have hml : D + 1 + lf < wr.heap.size := (HL.out.keys lf hlf).lt
      clear hpd
      rename World => wo
      go_wp2
      clear c0 c1 c2
      have hA := alloc_below wo (.cells #[.int .i64 (lf : Int), .slice ra right.length rc, .int .i64 level] 34)
      have hA2 : ∀ (W : World) (o : Obj), (W.alloc o).heap[W.heap.size]? = some o := fun W o => by
        show (W.heap.push _)[W.heap.size]? = _
        exact Array.getElem?_push_size
      have HQ0 : Hid ((wo.alloc (.cells #[.int .i64 (lf : Int), .slice ra right.length rc, .int .i64 level] 34)).heap[wo.heap.size]? = some (.cells #[.int .i64 (lf : Int), .slice ra right.length rc, .int .i64 level] 34 (0, 0))) := hA2 _ _
      have HLi0 : Hid (LinksM (wo.alloc (.cells #[.int .i64 (lf : Int), .slice ra right.length rc, .int .i64 level] 34)) D N (fun n => D + 1 + n) cnt (fun m n => alkR (hgtB false (prsS ps) N) ps k m n ∨ PdAlk (hgtB false (prsS ps) N) ⟨lf, right, level⟩ 0 m n)) := (HL.out.below hA).iff fun m n => ⟨.inl, fun h => h.elim id fun ⟨_, i, hi, _⟩ => by omega⟩
      have hb3 : Below D wa (wo.alloc (.cells #[.int .i64 (lf : Int), .slice ra right.length rc, .int .i64 level] 34)) := hbw.trans (hA.mono (by omega))
      have HC0 : Hid (∀ n, cnt n ≤ k * 20 + 0) := HC.out
      generalize wo.alloc (.cells #[.int .i64 (lf : Int), .slice ra right.length rc, .int .i64 level] 34) = w3 at *
      clear hA hA2 HL HC hbx hbw
      have HML : Hid (D + 1 + lf < wo.heap.size) := hml
      clear hml hDlt hbr
      go_loopw [26] (fun i wr => ∃ (j : Nat) (cnt : Nat → Nat), j ≤ right.length ∧ i = .int .i64 j ∧ Hid (LinksM wr D N (fun n => D + 1 + n) cnt (fun m n => alkR (hgtB false (prsS ps) N) ps k m n ∨ PdAlk (hgtB false (prsS ps) N) ⟨lf, right, level⟩ j m n)) ∧ Hid (∀ n, cnt n ≤ k * 20 + j) ∧ Hid (wr.heap[wo.heap.size]? = some (.cells #[.int .i64 (lf : Int), .slice ra right.length rc, .int .i64 level] 34 (0, 0))) ∧ Below D wa wr) (fun i _ => right.length - (intOf i).toNat)
      case atStart => exact ⟨0, cnt, Nat.zero_le _, rfl, HLi0, HC0, HQ0, hb3⟩
      case round =>
        clear HLi0 HC0 HQ0 hb3 cnt
        obtain ⟨j, cnt, hj, rfl, HL, HC, HQ, hbw⟩ := hrel
        have hbx := hB01.trans (hbw.mono (Nat.le_of_lt hDw))
        by_cases hlj : j < right.length
        · obtain ⟨b2, off2, rfl, hb2, hc2⟩ := (HRw.out.below hbx).at hlj
          obtain ⟨hs1, hs2⟩ := HSY.out j hlj
          have HNO : Hid (alkAt (hgtB false (prsS ps) N) right j = false → ∀ m n, PdAlk (hgtB false (prsS ps) N) ⟨lf, right, level⟩ (j + 1) m n ↔ PdAlk (hgtB false (prsS ps) N) ⟨lf, right, level⟩ j m n) := fun h m n => PdAlk_no (hgtB false (prsS ps) N) ⟨lf, right, level⟩ j m n h
          have HYE : Hid (∀ q : Nat, alkAt (hgtB false (prsS ps) N) right j = true → -1 - right.getD j 0 = (q : Int) → ∀ m n, PdAlk (hgtB false (prsS ps) N) ⟨lf, right, level⟩ (j + 1) m n ↔ PdAlk (hgtB false (prsS ps) N) ⟨lf, right, level⟩ j m n ∨ (m = lf ∧ n = q)) := fun q h h' m n => PdAlk_yes (hgtB false (prsS ps) N) ⟨lf, right, level⟩ j lf q m n rfl h h'
          have HAT : Hid (alkAt (hgtB false (prsS ps) N) right j = (decide (right.getD j 0 < 0) && (hasB false (hgtB false (prsS ps) N) (right.take j) && hasB false (hgtB false (prsS ps) N) (right.drop (j + 1))))) := rfl
          have hIR := HRw.out.below hbx
          have hcap := hIR.cap
          have hrE := HREb.out wr hbw
          have hR1 := rowHas_any N hN (right.take j) L false _ EB wr (SymsL.take ⟨hl2, HSY.out⟩ j) HLE.out (hIR.take (Nat.le_of_lt hlj)) hrE
          have hR2 := rowHas_any N hN (right.drop (j + 1)) L false _ EB wr (SymsL.drop ⟨hl2, HSY.out⟩ (j + 1)) HLE.out (hIR.drop hlj) hrE
          have HR2b : Hid (rc ≤ j + 1 → Calls Tryz.prog 48 #[.slice (some ⟨b2, off2, none⟩) (right.length - (j + 1)) 0, .slice (some ⟨EB, 0, none⟩) N N, .bool false] wr fun e w' => e = .returned (.bool (hasB false (factB L) (right.drop (j + 1)))) ∧ w' = wr) := fun hrc => by
            have e0 : right.drop (j + 1) = [] := List.drop_eq_nil_of_le (by omega)
            refine rowHas_any N hN (right.drop (j + 1)) L false _ EB wr (SymsL.drop ⟨hl2, HSY.out⟩ (j + 1)) HLE.out ?_ hrE
            rw [e0]
            exact ⟨_, 0, by rw [show right.length - (j + 1) = 0 by omega]; rfl, Nat.le_refl _, .inl rfl⟩
          rw [HFE.out] at hR1 hR2 HR2b
          clear hIR hrE
          have HNS : Hid (∀ wq : World, wq = wr → alkAt (hgtB false (prsS ps) N) right j = false → LinksM wr D N (fun n => D + 1 + n) cnt (fun m n => alkR (hgtB false (prsS ps) N) ps k m n ∨ PdAlk (hgtB false (prsS ps) N) ⟨lf, right, level⟩ (j + 1) m n)) := fun _ _ h => HL.out.iff fun m n => by rw [HNO.out h m n]
          have HC6 : Hid (∀ n, cnt n ≤ k * 20 + (j + 1)) := fun n => by have := HC.out n; omega
          generalize hasB false (hgtB false (prsS ps) N) (right.take j) = x1 at *
          generalize hasB false (hgtB false (prsS ps) N) (right.drop (j + 1)) = x2 at *
          generalize right.getD j 0 = sy at *
          have hNm := nameOf_any sy hs2
          have hPl : wo.heap.size < wr.heap.size := (Array.getElem?_eq_some_iff.1 HQ.out).1
          have cP : wr.cell? ⟨wo.heap.size, 0, none⟩ = some (.int .i64 (lf : Int)) := by simp only [World.cell?, HQ.out]; rfl
          have cP1 : wr.cell? ⟨wo.heap.size, 1, none⟩ = some (.slice (some ⟨b2, off2, none⟩) right.length rc) := by simp only [World.cell?, HQ.out]; rfl
          have hwj : IntKind.i64.wrap ((j : Int) + 1) = (j : Int) + 1 := by rw [IntKind.wrap_i64]; omega
          have hj1 : ((j : Int) + 1).toNat = j + 1 := by omega
          by_cases hs : sy < 0
          · obtain ⟨q, hq⟩ : ∃ q : Nat, -1 - sy = (q : Int) := ⟨(-1 - sy).toNat, by omega⟩
            have d1 : decide (sy < 0) = true := decide_eq_true hs
            rw [d1, hq] at hNm
            rw [d1, Bool.true_and] at HAT
            cases x1 with
            | false =>
              have HL5 : Hid (LinksM wr D N (fun n => D + 1 + n) cnt (fun m n => alkR (hgtB false (prsS ps) N) ps k m n ∨ PdAlk (hgtB false (prsS ps) N) ⟨lf, right, level⟩ (j + 1) m n)) := HNS.out wr rfl HAT.out
              clear hs d1 hq hs1 hs2 HNO HYE HL HC HNS HAT hR2
              go_wp2_with fail
              refine (hNm _).mono ?_
              rintro e w4 ⟨rfl, rfl⟩
              go_wp2_with fail
              refine hR1.mono ?_
              rintro e w6 ⟨rfl, rfl⟩
              go_wp2
              go_roundw
              case rel => exact ⟨j + 1, _, by omega, by go_num, HL5, HC6, HQ, hbw⟩
              case measure => simp [intOf]; omega
            | true =>
              by_cases hrc : rc = j + 1
              · have hRx := HR2b.out (Nat.le_of_eq hrc)
                clear HR2b hR2
                rw [show right.length - (j + 1) = 0 by omega] at hRx
                subst hrc
                cases x2 with
                | false =>
                  have HL5 : Hid (LinksM wr D N (fun n => D + 1 + n) cnt (fun m n => alkR (hgtB false (prsS ps) N) ps k m n ∨ PdAlk (hgtB false (prsS ps) N) ⟨lf, right, level⟩ (j + 1) m n)) := HNS.out wr rfl HAT.out
                  clear hs d1 hq hs1 hs2 HNO HYE HL HC HNS HAT
                  go_wp2_with fail
                  refine (hNm _).mono ?_
                  rintro e w4 ⟨rfl, rfl⟩
                  go_wp2_with fail
                  refine hR1.mono ?_
                  rintro e w6 ⟨rfl, rfl⟩
                  go_wp2_with fail
                  refine (hRx).mono ?_
                  rintro e w7 ⟨rfl, rfl⟩
                  go_wp2
                  go_roundw
                  case rel => exact ⟨j + 1, _, by omega, by go_num, HL5, HC6, HQ, hbw⟩
                  case measure => simp [intOf]; omega
                | true =>
                  have hcl := HC.out lf
                  have hAd := add_any HL.out lf q hlf (by omega) (by omega)
                  have HIF2 : Hid (∀ m n, PdAlk (hgtB false (prsS ps) N) ⟨lf, right, level⟩ (j + 1) m n ↔ PdAlk (hgtB false (prsS ps) N) ⟨lf, right, level⟩ j m n ∨ (m = lf ∧ n = q)) := HYE.out q HAT.out hq
                  clear hs d1 hq hs1 hs2 HNO HYE HNS HAT
                  go_wp2_with fail
                  refine (hNm _).mono ?_
                  rintro e w4 ⟨rfl, rfl⟩
                  go_wp2_with fail
                  refine hR1.mono ?_
                  rintro e w6 ⟨rfl, rfl⟩
                  go_wp2_with fail
                  refine (hRx).mono ?_
                  rintro e w7 ⟨rfl, rfl⟩
                  clear hR1 hRx
                  go_wp2_with fail
                  refine hAd.mono ?_
                  rintro e w5 ⟨rfl, hL5, hg5⟩
                  have HL5 : Hid (LinksM w5 D N (fun n => D + 1 + n) (fun n => if n = lf then cnt n + 1 else cnt n) (fun m n => alkR (hgtB false (prsS ps) N) ps k m n ∨ PdAlk (hgtB false (prsS ps) N) ⟨lf, right, level⟩ (j + 1) m n)) := hL5.iff fun m n => by
                    unfold addR
                    rw [HIF2.out m n]
                    constructor
                    · rintro ((h | h) | h)
                      · exact .inl h
                      · exact .inr (.inl h)
                      · exact .inr (.inr h)
                    · rintro (h | h | h)
                      · exact .inl (.inl h)
                      · exact .inl (.inr h)
                      · exact .inr h
                  have HC5 : Hid (∀ n, (if n = lf then cnt n + 1 else cnt n) ≤ k * 20 + (j + 1)) := fun n => by
                    have := HC.out n
                    split <;> omega
                  have HQ5 : Hid (w5.heap[wo.heap.size]? = some (.cells #[.int .i64 (lf : Int), .slice (some ⟨b2, off2, none⟩) right.length (j + 1), .int .i64 level] 34 (0, 0))) := (hg5.block _ hPl (by have := HML.out; simp; omega)).trans HQ.out
                  have hb5 : Below D wa w5 := hbw.trans (grown_below hg5 (by show D ≤ D + 1 + lf; omega) (by have := hbw.size; rw [HD.out] at this; exact this))
                  clear hL5 hg5 hAd HL HC HQ
                  go_wp2
                  go_roundw
                  case rel => exact ⟨j + 1, _, by omega, by go_num, HL5, HC5, HQ5, hb5⟩
                  case measure => simp [intOf]; omega
              · clear HR2b
                cases x2 with
                | false =>
                  have HL5 : Hid (LinksM wr D N (fun n => D + 1 + n) cnt (fun m n => alkR (hgtB false (prsS ps) N) ps k m n ∨ PdAlk (hgtB false (prsS ps) N) ⟨lf, right, level⟩ (j + 1) m n)) := HNS.out wr rfl HAT.out
                  clear hs d1 hq hs1 hs2 HNO HYE HL HC HNS HAT
                  go_wp2_with fail
                  refine (hNm _).mono ?_
                  rintro e w4 ⟨rfl, rfl⟩
                  go_wp2_with fail
                  refine hR1.mono ?_
                  rintro e w6 ⟨rfl, rfl⟩
                  go_wp2_with fail
                  refine (hR2).mono ?_
                  rintro e w7 ⟨rfl, rfl⟩
                  go_wp2
                  go_roundw
                  case rel => exact ⟨j + 1, _, by omega, by go_num, HL5, HC6, HQ, hbw⟩
                  case measure => simp [intOf]; omega
                | true =>
                  have hcl := HC.out lf
                  have hAd := add_any HL.out lf q hlf (by omega) (by omega)
                  have HIF2 : Hid (∀ m n, PdAlk (hgtB false (prsS ps) N) ⟨lf, right, level⟩ (j + 1) m n ↔ PdAlk (hgtB false (prsS ps) N) ⟨lf, right, level⟩ j m n ∨ (m = lf ∧ n = q)) := HYE.out q HAT.out hq
                  clear hs d1 hq hs1 hs2 HNO HYE HNS HAT
                  go_wp2_with fail
                  refine (hNm _).mono ?_
                  rintro e w4 ⟨rfl, rfl⟩
                  go_wp2_with fail
                  refine hR1.mono ?_
                  rintro e w6 ⟨rfl, rfl⟩
                  go_wp2_with fail
                  refine (hR2).mono ?_
                  rintro e w7 ⟨rfl, rfl⟩
                  clear hR1 hR2
                  go_wp2_with fail
                  refine hAd.mono ?_
                  rintro e w5 ⟨rfl, hL5, hg5⟩
                  have HL5 : Hid (LinksM w5 D N (fun n => D + 1 + n) (fun n => if n = lf then cnt n + 1 else cnt n) (fun m n => alkR (hgtB false (prsS ps) N) ps k m n ∨ PdAlk (hgtB false (prsS ps) N) ⟨lf, right, level⟩ (j + 1) m n)) := hL5.iff fun m n => by
                    unfold addR
                    rw [HIF2.out m n]
                    constructor
                    · rintro ((h | h) | h)
                      · exact .inl h
                      · exact .inr (.inl h)
                      · exact .inr (.inr h)
                    · rintro (h | h | h)
                      · exact .inl (.inl h)
                      · exact .inl (.inr h)
                      · exact .inr h
                  have HC5 : Hid (∀ n, (if n = lf then cnt n + 1 else cnt n) ≤ k * 20 + (j + 1)) := fun n => by
                    have := HC.out n
                    split <;> omega
                  have HQ5 : Hid (w5.heap[wo.heap.size]? = some (.cells #[.int .i64 (lf : Int), .slice (some ⟨b2, off2, none⟩) right.length rc, .int .i64 level] 34 (0, 0))) := (hg5.block _ hPl (by have := HML.out; simp; omega)).trans HQ.out
                  have hb5 : Below D wa w5 := hbw.trans (grown_below hg5 (by show D ≤ D + 1 + lf; omega) (by have := hbw.size; rw [HD.out] at this; exact this))
                  clear hL5 hg5 hAd HL HC HQ
                  go_wp2
                  go_roundw
                  case rel => exact ⟨j + 1, _, by omega, by go_num, HL5, HC5, HQ5, hb5⟩
                  case measure => simp [intOf]; omega
          · have d1 : decide (sy < 0) = false := decide_eq_false hs
            rw [d1] at hNm
            rw [d1, Bool.false_and] at HAT
            have HL5 : Hid (LinksM wr D N (fun n => D + 1 + n) cnt (fun m n => alkR (hgtB false (prsS ps) N) ps k m n ∨ PdAlk (hgtB false (prsS ps) N) ⟨lf, right, level⟩ (j + 1) m n)) := HNS.out wr rfl HAT.out
            clear hs d1 hs1 hs2 HNO HYE HL HC HNS HAT hR1 hR2
            go_wp2_with fail
            refine (hNm _).mono ?_
            rintro e w4 ⟨rfl, rfl⟩
            go_wp2
            go_roundw
            case rel => exact ⟨j + 1, _, by omega, by go_num, HL5, HC6, HQ, hbw⟩
            case measure => simp [intOf]; omega
        · have HL5 : Hid (LinksM wr D N (fun n => D + 1 + n) cnt (alkR (hgtB false (prsS ps) N) ps (k + 1))) := HL.out.iff fun m n => by
            rw [HLS.out m n, show j = right.length by omega]
          have HC5 : Hid (∀ n, cnt n ≤ (k + 1) * 20) := fun n => by have := HC.out n; omega
          clear HL HC
          go_wp2
          go_roundw
          case rel => exact ⟨k + 1, _, by omega, by go_num, HL5, HC5, hbw⟩
          case measure => simp [intOf]; omega
    · have HE : Hid (LinksM wr D N (fun n => D + 1 + n) cnt (alkR (hgtB false (prsS ps) N) ps ps.length)) := by
        obtain rfl : k = ps.length := by omega
        exact HL.out
      clear HL
      go_wp2
      go_ret
      exact ⟨D, cnt, rfl, HE.out, fun n => by have := HC.out n; omega, Nat.le_of_lt hDw, hbx⟩

end Go.Proofs.YtkdoghaoijdedaaGreatDoor
