/- Texts of the proof, put together: GWin, GTrn. -/
import Derived.Test.YtmkimaceioacgaaDoorGk06
import Derived.Test.YtmkimaceioacgaaDoorGk03
import Derived.Maps.RangeWalk
namespace Go.Proofs.YtmkimaceioacgaaDoor
open Go.RowKit
set_option linter.unusedVariables false
set_option maxRecDepth 100000

theorem LinksM.below {w w' : World} {D N : Nat} {mp cnt : Nat → Nat} {r : Nat → Nat → Prop} (h : LinksM w D N mp cnt r) (hb : Below w.heap.size w w') : LinksM w' D N mp cnt r :=
  ⟨Nat.lt_of_lt_of_le h.lt hb.size, fun n hn => (hb.cell (p := ⟨D, n, none⟩) h.lt).trans (h.cell n hn), fun n hn => (h.keys n hn).block (hb.block _ (h.keys n hn).lt), h.inj, h.ne⟩
theorem LinksM.iff {w : World} {D N : Nat} {mp cnt : Nat → Nat} {r r' : Nat → Nat → Prop} (h : LinksM w D N mp cnt r) (he : ∀ n k, r n k ↔ r' n k) : LinksM w D N mp cnt r' := by
  have e : r = r' := funext fun n => funext fun k => propext (he n k)
  exact e ▸ h
/-- a production has such a link -/
def PdHas (p : PdR) (j m n : Nat) : Prop := p.left = (m : Int) ∧ ∃ i, i < j ∧ p.right.getD i 0 < 0 ∧ -1 - p.right.getD i 0 = (n : Int)
def linkR (ps : List PdR) (k : Nat) (m n : Nat) : Prop := ∃ q, q < k ∧ PdHas (ps.getD q noPd) (ps.getD q noPd).right.length m n
theorem linkR_succ (ps : List PdR) (k m n : Nat) : linkR ps (k + 1) m n ↔ linkR ps k m n ∨ PdHas (ps.getD k noPd) (ps.getD k noPd).right.length m n := by
  constructor
  · rintro ⟨q, hq, h⟩
    by_cases e : q = k
    · subst e; exact .inr h
    · exact .inl ⟨q, by omega, h⟩
  · rintro (⟨q, hq, h⟩ | h)
    · exact ⟨q, by omega, h⟩
    · exact ⟨k, by omega, h⟩
theorem PdHas_no (p : PdR) (j m n : Nat) (h : ¬ p.right.getD j 0 < 0) : PdHas p (j + 1) m n ↔ PdHas p j m n := by
  constructor
  · rintro ⟨h1, i, hi, h2, h3⟩
    by_cases e : i = j
    · subst e; exact absurd h2 h
    · exact ⟨h1, i, by omega, h2, h3⟩
  · rintro ⟨h1, i, hi, h2⟩; exact ⟨h1, i, by omega, h2⟩
theorem PdHas_yes (p : PdR) (j lf q m n : Nat) (hl : p.left = (lf : Int)) (h : p.right.getD j 0 < 0) (hq : -1 - p.right.getD j 0 = (q : Int)) : PdHas p (j + 1) m n ↔ PdHas p j m n ∨ (m = lf ∧ n = q) := by
  constructor
  · rintro ⟨h1, i, hi, h2, h3⟩
    by_cases e : i = j
    · subst e; exact .inr ⟨by omega, by omega⟩
    · exact .inl ⟨h1, i, by omega, h2, h3⟩
  · rintro (⟨h1, i, hi, h2⟩ | ⟨rfl, rfl⟩)
    · exact ⟨h1, i, by omega, h2⟩
    · exact ⟨hl, j, by omega, h, hq⟩
theorem grown_below {w w' : World} {M B : Nat} (h : w.grownBy w' (some M)) (hB : B ≤ M) (hs : B ≤ w.heap.size) : Below B w w' :=
  ⟨h.os, h.tape, h.output, h.size, fun k hk => h.block k (by omega) (by simp; omega)⟩

set_option maxHeartbeats 8000000 in
theorem within_any (t s : Int) (N : Nat) (ps : List PdR) (ls ss : List Int) (pv lv sv : Value) (w : World) (hN : N ≤ 300) (hps : ps.length ≤ 400) (hok : ∀ m, m < ps.length → PdOk N (ps.getD m noPd) ∧ ∀ j, j < (ps.getD m noPd).right.length → I64 ((ps.getD m noPd).right.getD j 0)) (h : PdsM w pv ps) :
    Calls Tryd.prog 32 #[gv ⟨t, N, s, ps, ls, ss⟩ pv lv sv] w fun e w' => e = .returned (.slice (some ⟨w.heap.size + 1, 0, none⟩) N N) ∧ (∃ cnt, LinksM w' (w.heap.size + 1) N (fun n => w.heap.size + 1 + 1 + n) cnt (linkR ps ps.length) ∧ ∀ n, cnt n ≤ 8000) ∧ Below w.heap.size w w' := by
  have hB0 := boxG_below w ⟨t, N, s, ps, ls, ss⟩ pv lv sv
  have hB1 := boxG_size w ⟨t, N, s, ps, ls, ss⟩ pv lv sv
  have hB2 := boxG_box w ⟨t, N, s, ps, ls, ss⟩ pv lv sv
  obtain ⟨pa, pc, rfl⟩ := h.slice
  have HP : Hid (PdsM w (.slice pa ps.length pc) ps) := h
  have HOK : Hid (∀ m, m < ps.length → PdOk N (ps.getD m noPd) ∧ ∀ j, j < (ps.getD m noPd).right.length → I64 ((ps.getD m noPd).right.getD j 0)) := hok
  clear h hok
  have hNL := newLinks_any N hN (boxG w ⟨t, N, s, ps, ls, ss⟩ (.slice pa ps.length pc) lv sv)
  rw [hB1] at hNL
  unfold boxG gvs at hB0 hB1 hB2 hNL
  unfold gv gvs
  simp only at *
  obtain ⟨q0, q1, q2, q3, q4, q5, q6⟩ := hB2
  have HBX : Hid (BoxG (w.alloc (.cells #[.int .i64 t, .int .i64 N, .int .i64 s, .slice pa ps.length pc, lv, sv] 25)) w.heap.size ⟨t, N, s, ps, ls, ss⟩ (.slice pa ps.length pc) lv sv) := ⟨q0, q1, q2, q3, q4, q5, q6⟩
  simp only at q0 q1 q2 q3 q4 q5 q6
  go_enter Tryd.func32, Tryd.ntmps32
  go_wp2_with fail
  refine hNL.mono ?_
  rintro e w1 ⟨rfl, ⟨vs, hnew⟩, hb1⟩
  generalize w.alloc (.cells #[.int .i64 t, .int .i64 N, .int .i64 s, .slice pa ps.length pc, lv, sv] 25) = w0 at *
  have HB1 : Hid (w0.heap.size = w.heap.size + 1) := hB1
  have HL0 : Hid (LinksM w1 (w.heap.size + 1) N (fun n => w.heap.size + 1 + 1 + n) (fun _ => 0) (linkR ps 0)) := (LinksM.new hnew).iff fun n k => ⟨fun e => e.elim, fun ⟨q, hq, _⟩ => by omega⟩
  clear hnew hB1 hNL q0 q1 q2 q3 q4 q5 q6
  obtain ⟨q0, q1, q2, q3, q4, q5, q6⟩ := HBX.out.below (Nat.lt_succ_self _) hb1
  simp only at q0 q1 q2 q3 q4 q5 q6
  go_wp2
  clear q0 q1 q2 q3 q4 q5 q6
  go_loopw [16] (fun i wr => ∃ (k : Nat) (cnt : Nat → Nat), k ≤ ps.length ∧ i = .int .i64 k ∧ Hid (LinksM wr (w.heap.size + 1) N (fun n => w.heap.size + 1 + 1 + n) cnt (linkR ps k)) ∧ Hid (∀ n, cnt n ≤ k * 20) ∧ Below (w.heap.size + 1) w0 wr) (fun i _ => ps.length - (intOf i).toNat)
  case atStart => exact ⟨0, _, Nat.zero_le _, rfl, HL0, (fun n => Nat.zero_le _), hb1⟩
  case round =>
    obtain ⟨k, cnt, hk, rfl, HL, HC, hbw⟩ := hrel
    have hbx := hB0.trans (hbw.mono (Nat.le_succ _))
    by_cases hlt : k < ps.length
    · obtain ⟨b, off, rv, rfl, hb, hpd⟩ := HP.out.at hlt
      have hpd2 := hpd.below hb hbx
      obtain ⟨hO1, hO2⟩ := HOK.out k hlt
      have HLS : Hid (∀ m n, linkR ps (k + 1) m n ↔ linkR ps k m n ∨ PdHas (ps.getD k noPd) (ps.getD k noPd).right.length m n) := linkR_succ ps k
      generalize ps.getD k noPd = p at *
      obtain ⟨left, right, level⟩ := p
      obtain ⟨hl0, hl1, hl2, hl3⟩ := hO1
      simp only at hl0 hl1 hl2 hl3 hO2 HLS
      obtain ⟨lf, rfl⟩ : ∃ lf : Nat, left = (lf : Int) := ⟨left.toNat, by omega⟩
      have hlf : lf < N := by omega
      clear hl0 hl1
      have HSY : Hid (∀ j, j < right.length → -(N : Int) ≤ right.getD j 0 ∧ I64 (right.getD j 0)) := fun j hj => ⟨hl3 j hj, hO2 j hj⟩
      clear hl3 hO2
      have HRw : Hid (IntsR w rv right) := hpd.right
      obtain ⟨ra, rc, rfl⟩ := hpd.right.slice
      obtain ⟨c0, c1, c2, _⟩ := hpd2
      simp only at c0 c1 c2
      have hbr : b < wr.heap.size := Nat.lt_of_lt_of_le hb hbx.size
      have hDlt := HL.out.lt
      have hml : w.heap.size + 1 + 1 + lf < wr.heap.size := (HL.out.keys lf hlf).lt
      clear hpd
      rename World => wo
      go_wp2
      clear c0 c1 c2
      have hA := alloc_below wo (.cells #[.int .i64 (lf : Int), .slice ra right.length rc, .int .i64 level] 38)
      have hA2 : ∀ (W : World) (o : Obj), (W.alloc o).heap[W.heap.size]? = some o := fun W o => by
        show (W.heap.push _)[W.heap.size]? = _
        exact Array.getElem?_push_size
      have HQ0 : Hid ((wo.alloc (.cells #[.int .i64 (lf : Int), .slice ra right.length rc, .int .i64 level] 38)).heap[wo.heap.size]? = some (.cells #[.int .i64 (lf : Int), .slice ra right.length rc, .int .i64 level] 38 (0, 0))) := hA2 _ _
      have HLi0 : Hid (LinksM (wo.alloc (.cells #[.int .i64 (lf : Int), .slice ra right.length rc, .int .i64 level] 38)) (w.heap.size + 1) N (fun n => w.heap.size + 1 + 1 + n) cnt (fun m n => linkR ps k m n ∨ PdHas ⟨lf, right, level⟩ 0 m n)) := (HL.out.below hA).iff fun m n => ⟨.inl, fun h => h.elim id fun ⟨_, i, hi, _⟩ => by omega⟩
      have hb3 : Below (w.heap.size + 1) w0 (wo.alloc (.cells #[.int .i64 (lf : Int), .slice ra right.length rc, .int .i64 level] 38)) := hbw.trans (hA.mono (by omega))
      have HC0 : Hid (∀ n, cnt n ≤ k * 20 + 0) := HC.out
      generalize wo.alloc (.cells #[.int .i64 (lf : Int), .slice ra right.length rc, .int .i64 level] 38) = w3 at *
      clear hA hA2 HL HC hbx hbw
      have HML : Hid (w.heap.size + 1 + 1 + lf < wo.heap.size) := hml
      clear hml hDlt hbr
      go_loopw [23] (fun i wr => ∃ (j : Nat) (cnt : Nat → Nat), j ≤ right.length ∧ i = .int .i64 j ∧ Hid (LinksM wr (w.heap.size + 1) N (fun n => w.heap.size + 1 + 1 + n) cnt (fun m n => linkR ps k m n ∨ PdHas ⟨lf, right, level⟩ j m n)) ∧ Hid (∀ n, cnt n ≤ k * 20 + j) ∧ Hid (wr.heap[wo.heap.size]? = some (.cells #[.int .i64 (lf : Int), .slice ra right.length rc, .int .i64 level] 38 (0, 0))) ∧ Below (w.heap.size + 1) w0 wr) (fun i _ => right.length - (intOf i).toNat)
      case atStart => exact ⟨0, cnt, Nat.zero_le _, rfl, HLi0, HC0, HQ0, hb3⟩
      case round =>
        clear HLi0 HC0 HQ0 hb3 cnt
        obtain ⟨j, cnt, hj, rfl, HL, HC, HQ, hbw⟩ := hrel
        have hbx := hB0.trans (hbw.mono (Nat.le_succ _))
        by_cases hlj : j < right.length
        · obtain ⟨b2, off2, rfl, hb2, hc2⟩ := (HRw.out.below hbx).at hlj
          obtain ⟨hs1, hs2⟩ := HSY.out j hlj
          have HNO : Hid (¬ right.getD j 0 < 0 → ∀ m n, PdHas ⟨lf, right, level⟩ (j + 1) m n ↔ PdHas ⟨lf, right, level⟩ j m n) := fun h m n => PdHas_no ⟨lf, right, level⟩ j m n h
          have HYE : Hid (∀ q : Nat, right.getD j 0 < 0 → -1 - right.getD j 0 = (q : Int) → ∀ m n, PdHas ⟨lf, right, level⟩ (j + 1) m n ↔ PdHas ⟨lf, right, level⟩ j m n ∨ (m = lf ∧ n = q)) := fun q h h' m n => PdHas_yes ⟨lf, right, level⟩ j lf q m n rfl h h'
          generalize right.getD j 0 = sy at *
          have hNm := nameOf_any sy hs2
          by_cases hs : sy < 0
          · obtain ⟨q, hq⟩ : ∃ q : Nat, -1 - sy = (q : Int) := ⟨(-1 - sy).toNat, by omega⟩
            have d1 : decide (sy < 0) = true := decide_eq_true hs
            rw [d1, hq] at hNm
            have hPl : wo.heap.size < wr.heap.size := (Array.getElem?_eq_some_iff.1 HQ.out).1
            have cP : wr.cell? ⟨wo.heap.size, 0, none⟩ = some (.int .i64 (lf : Int)) := by simp only [World.cell?, HQ.out]; rfl
            have hcl := HC.out lf
            have hAd := add_any HL.out lf q hlf (by omega) (by omega)
            have HIF := HYE.out q hs hq
            have HIF2 : Hid (∀ m n, PdHas ⟨lf, right, level⟩ (j + 1) m n ↔ PdHas ⟨lf, right, level⟩ j m n ∨ (m = lf ∧ n = q)) := HIF
            clear hs d1 hq hs1 hs2 HIF HNO HYE
            go_wp2_with fail
            refine (hNm _).mono ?_
            rintro e w4 ⟨rfl, rfl⟩
            go_wp2_with fail
            refine hAd.mono ?_
            rintro e w5 ⟨rfl, hL5, hg5⟩
            have HL5 : Hid (LinksM w5 (w.heap.size + 1) N (fun n => w.heap.size + 1 + 1 + n) (fun n => if n = lf then cnt n + 1 else cnt n) (fun m n => linkR ps k m n ∨ PdHas ⟨lf, right, level⟩ (j + 1) m n)) := hL5.iff fun m n => by
              unfold addR
              rw [HIF2.out m n]
              constructor
              · rintro ((h | h) | h)
                · exact .inl h
                · exact .inr (.inl h)
                · exact .inr (.inr h)
              · rintro (h | h | h)
                · exact .inl (.inl h)
                · exact .inl (.inr h)
                · exact .inr h
            have HC5 : Hid (∀ n, (if n = lf then cnt n + 1 else cnt n) ≤ k * 20 + (j + 1)) := fun n => by
              have := HC.out n
              split <;> omega
            have HQ5 : Hid (w5.heap[wo.heap.size]? = some (.cells #[.int .i64 (lf : Int), .slice (some ⟨b2, off2, none⟩) right.length rc, .int .i64 level] 38 (0, 0))) := (hg5.block _ hPl (by have := HML.out; simp; omega)).trans HQ.out
            have hb5 : Below (w.heap.size + 1) w0 w5 := hbw.trans (grown_below hg5 (by show w.heap.size + 1 ≤ w.heap.size + 1 + 1 + lf; omega) (by have := hbw.size; rw [HB1.out] at this; exact this))
            clear hL5 hg5 hAd HL HC HQ
            go_wp2
            go_roundw
            case rel => exact ⟨j + 1, _, by omega, by go_num, HL5, HC5, HQ5, hb5⟩
            case measure => simp [intOf]; omega
          · have d1 : decide (sy < 0) = false := decide_eq_false hs
            rw [d1] at hNm
            have HL5 : Hid (LinksM wr (w.heap.size + 1) N (fun n => w.heap.size + 1 + 1 + n) cnt (fun m n => linkR ps k m n ∨ PdHas ⟨lf, right, level⟩ (j + 1) m n)) := HL.out.iff fun m n => by rw [HNO.out hs m n]
            have HC5 : Hid (∀ n, cnt n ≤ k * 20 + (j + 1)) := fun n => by have := HC.out n; omega
            clear hs d1 hs1 hs2 HNO HYE HL HC
            go_wp2_with fail
            refine (hNm _).mono ?_
            rintro e w4 ⟨rfl, rfl⟩
            go_wp2
            go_roundw
            case rel => exact ⟨j + 1, _, by omega, by go_num, HL5, HC5, HQ, hbw⟩
            case measure => simp [intOf]; omega
        · have HL5 : Hid (LinksM wr (w.heap.size + 1) N (fun n => w.heap.size + 1 + 1 + n) cnt (linkR ps (k + 1))) := HL.out.iff fun m n => by
            rw [HLS.out m n, show j = right.length by omega]
          have HC5 : Hid (∀ n, cnt n ≤ (k + 1) * 20) := fun n => by have := HC.out n; omega
          clear HL HC
          go_wp2
          go_roundw
          case rel => exact ⟨k + 1, _, by omega, by go_num, HL5, HC5, hbw⟩
          case measure => simp [intOf]; omega
    · have HE : Hid (LinksM wr (w.heap.size + 1) N (fun n => w.heap.size + 1 + 1 + n) cnt (linkR ps ps.length)) := by
        obtain rfl : k = ps.length := by omega
        exact HL.out
      clear HL
      go_wp2
      go_ret
      exact ⟨rfl, ⟨cnt, HE.out, fun n => by have := HC.out n; omega⟩, hbx⟩

end Go.Proofs.YtmkimaceioacgaaDoor

namespace Go.Proofs.YtmkimaceioacgaaDoor
open Go.RowKit
open Go.Maps (Keyed)
set_option linter.unusedVariables false
set_option maxRecDepth 100000

theorem LinksM.grown {w w' : World} {D N M : Nat} {mp cnt : Nat → Nat} {r : Nat → Nat → Prop} (h : LinksM w D N mp cnt r) (hg : w.grownBy w' (some M)) (h1 : M ≠ D) (h2 : ∀ n, n < N → mp n ≠ M) : LinksM w' D N mp cnt r := by
  have hb : ∀ k, k < w.heap.size → k ≠ M → w'.heap[k]? = w.heap[k]? := fun k hk hk2 => hg.block k hk (fun e => hk2 (by simpa using e))
  refine ⟨Nat.lt_of_lt_of_le h.lt hg.size, fun n hn => ?_, fun n hn => (h.keys n hn).block (hb _ (h.keys n hn).lt (h2 n hn)), h.inj, h.ne⟩
  have := h.cell n hn
  simp only [World.cell?] at this ⊢
  rw [hb D h.lt (Ne.symm h1)]
  exact this
/-- what is turned, while some keys are still to come -/
def trnR (r : Nat → Nat → Prop) (i : Nat) (left : Lit → Bool) : Nat → Nat → Prop := fun n k => (k < i ∧ r k n) ∨ (k = i ∧ r i n ∧ left (.int .i64 (n : Int)) = false)
theorem trnR_step (r : Nat → Nat → Prop) (i x : Nat) (left : Lit → Bool) (hx : r i x) (n k : Nat) : addR (trnR r i left) x i n k ↔ trnR r i (fun z => left z && !z.sameKey (.int .i64 (x : Int))) n k := by
  have hl : (left (.int .i64 (n : Int)) && !(Lit.int .i64 (n : Int)).sameKey (.int .i64 (x : Int))) = false ↔ left (.int .i64 (n : Int)) = false ∨ n = x := by
    by_cases h : n = x
    · subst h; simp [Lit.sameKey]
    · have : ¬ (n : Int) = (x : Int) := by omega
      simp [Lit.sameKey, h, this]
  unfold addR trnR
  simp only [hl]
  constructor
  · rintro ((h | ⟨rfl, h1, h2⟩) | ⟨rfl, rfl⟩)
    · exact .inl h
    · exact .inr ⟨rfl, h1, .inl h2⟩
    · exact .inr ⟨rfl, hx, .inr rfl⟩
  · rintro (h | ⟨rfl, h1, h2 | rfl⟩)
    · exact .inl (.inl h)
    · exact .inl (.inr ⟨rfl, h1, h2⟩)
    · exact .inr ⟨rfl, rfl⟩

set_option maxHeartbeats 8000000 in
theorem turned_any {w : World} {D N : Nat} {mp cnt : Nat → Nat} {r : Nat → Nat → Prop} (h : LinksM w D N mp cnt r) (hN : N ≤ 300) (hr : ∀ n k, n < N → r n k → k < N) {K : Nat} (hK : K ≤ 3000000) (hc : ∀ n, n < N → cnt n ≤ K) :
    Calls Tryd.prog 55 #[.slice (some ⟨D, 0, none⟩) N N] w fun e w' => e = .returned (.slice (some ⟨w.heap.size, 0, none⟩) N N) ∧ (∃ cnt', LinksM w' w.heap.size N (fun n => w.heap.size + 1 + n) cnt' (fun n k => k < N ∧ r k n) ∧ ∀ n, cnt' n ≤ 300 * K) ∧ Below w.heap.size w w' := by
  have HH : Hid (LinksM w D N mp cnt r) := h
  have HR : Hid (∀ n k, n < N → r n k → k < N) := hr
  have HCN : Hid (∀ n, n < N → cnt n ≤ K) := hc
  clear h hr hc
  have hNL := newLinks_any N hN w
  go_enter Tryd.func55, Tryd.ntmps55
  go_wp2_with fail
  refine hNL.mono ?_
  rintro e w1 ⟨rfl, ⟨vs, hnew⟩, hb1⟩
  have HL0 : Hid (LinksM w1 w.heap.size N (fun n => w.heap.size + 1 + n) (fun _ => 0) (fun n k => k < 0 ∧ r k n)) := (LinksM.new hnew).iff fun n k => ⟨fun e => e.elim, fun ⟨q, _⟩ => by omega⟩
  clear hnew hNL
  go_wp2
  go_loopw [12] (fun i wr => ∃ (k : Nat) (cn : Nat → Nat), k ≤ N ∧ i = .int .i64 k ∧ Hid (LinksM wr w.heap.size N (fun n => w.heap.size + 1 + n) cn (fun n k' => k' < k ∧ r k' n)) ∧ Hid (∀ n, cn n ≤ k * K) ∧ Below w.heap.size w wr) (fun i _ => N - (intOf i).toNat)
  case atStart => exact ⟨0, _, Nat.zero_le _, rfl, HL0, (fun n => Nat.zero_le _), hb1⟩
  case round =>
    obtain ⟨k, cn, hk, rfl, HL, HC, hbw⟩ := hrel
    by_cases hlt : k < N
    · have hO := HH.out.below hbw
      have hDl := hO.lt
      have cD := hO.cell k hlt
      obtain ⟨D0, hown, him, hkeys⟩ := hO.keys k hlt
      have HK : Hid (∀ kl, Maps.has D0 kl = true ↔ ∃ q : Nat, kl = .int .i64 q ∧ r k q) := hkeys
      have HS : Hid (Maps.size D0 ≤ K) := Nat.le_trans hown.size_le (HCN.out k hlt)
      have hMl : mp k < w.heap.size := (HH.out.keys k hlt).lt
      clear hO hkeys him
      rename World => wo
      go_wp2_with (first
        | (at_range; refine wpList_range_own _ rfl _ 92 rfl 3 3 Tryd.lawIntG Tryd.underlying92 _ (mp k) (cnt k) _ rfl hown ?_; intro w2 hrg0 hg0 hs0)
        | go_in)
      go_frame
      have hb2 : Below wo.heap.size wo w2 := ⟨hg0.os, hg0.tape, hg0.output, hg0.size, fun q hq => hg0.block q hq (by simp)⟩
      have HL2 : Hid (LinksM w2 w.heap.size N (fun n => w.heap.size + 1 + n) cn (trnR r k (Maps.has D0))) := (HL.out.below hb2).iff fun n k' => by
        unfold trnR
        constructor
        · exact .inl
        · rintro (h | ⟨rfl, h1, h2⟩)
          · exact h
          · have h3 := (HK.out (.int .i64 (n : Int))).2 ⟨n, rfl, h1⟩
            rw [h3] at h2; cases h2
      have hbw2 : Below w.heap.size w w2 := hbw.trans (hb2.mono hbw.size)
      have HMP : Hid (∀ n, n < N → w.heap.size + 1 + n < wo.heap.size) := fun n hn => (HL.out.keys n hn).lt
      have hwo : w.heap.size ≤ wo.heap.size := hbw.size
      have hDo : w.heap.size < wo.heap.size := HL.out.lt
      have HC2 : Hid (∀ n, cn n ≤ k * K + (Maps.size D0 - Maps.size D0)) := fun n => by have := HC.out n; omega
      clear HL HC hb2 hown hg0 cD hDl
      generalize hrr : wo.heap.size = rr at *
      go_loopw [6] (fun _ wr => ∃ (left : Lit → Bool) (ct : Nat) (cn : Nat → Nat), wr.ranges Tryd.prog 3 (plainElem Tryd.prog 3) (mp k) rr (cnt k) D0 left ct ∧ ct ≤ Maps.size D0 ∧ Hid (LinksM wr w.heap.size N (fun n => w.heap.size + 1 + n) cn (trnR r k left)) ∧ Hid (∀ n, cn n ≤ k * K + (Maps.size D0 - ct)) ∧ Hid (∀ kl, left kl = true → Maps.has D0 kl = true) ∧ Below w.heap.size w wr ∧ rr < wr.heap.size) (fun _ wr => wr.rangeLeft (mp k) rr)
      case atStart => exact ⟨_, _, cn, hrg0, Nat.le_refl _, HL2, HC2, (fun kl h => h), hbw2, by omega⟩
      case round =>
        clear HL2 HC2 hbw2 hrg0 hs0 cn
        obtain ⟨left, ct, cn, hrg, hcs, HL, HC, HF, hbr, hsz⟩ := hrel
        go_wp2_with (first
          | (at_next; refine wpList_next_ranges_ii _ rfl _ rfl 3 3 .i64 .i64 Tryd.lawIntG Tryd.underlying3 Tryd.underlying3 (mp k) rr (cnt k) _ _ _ rfl hrg ?_ ?_)
          | go_in)
        · intro hc0 hl0
          have HL5 : Hid (LinksM wr w.heap.size N (fun n => w.heap.size + 1 + n) cn (fun n k' => k' < k + 1 ∧ r k' n)) := HL.out.iff fun n k' => by
            unfold trnR
            constructor
            · rintro (⟨h1, h2⟩ | ⟨rfl, h1, _⟩)
              · exact ⟨by omega, h2⟩
              · exact ⟨by omega, h1⟩
            · rintro ⟨h1, h2⟩
              by_cases e : k' = k
              · subst e; exact .inr ⟨rfl, h2, hl0 _⟩
              · exact .inl ⟨by omega, h2⟩
          have HC5 : Hid (∀ n, cn n ≤ (k + 1) * K) := fun n => by have := HC.out n; have := HS.out; rw [Nat.succ_mul]; omega
          clear HL HC hl0
          go_wp2
          go_roundw
          case rel => exact ⟨k + 1, _, by omega, by go_num, HL5, HC5, hbr⟩
          case measure => simp [intOf]; omega
        · intro x p w3 ct1 hwx hwc hlx hat hrg1 hlt1 hg1 hs1 hen
          obtain ⟨q, hq, hrq⟩ := (HK.out _).1 (HF.out _ hlx)
          obtain rfl : x = (q : Int) := by simpa using hq
          have hqN := HR.out k q hlt hrq
          have hmq := HMP.out q hqN
          have hL3 : LinksM w3 w.heap.size N (fun n => w.heap.size + 1 + n) cn (trnR r k left) := HL.out.grown hg1 (by omega) (fun n hn => by have := HMP.out n hn; show w.heap.size + 1 + n ≠ rr; omega)
          have hcq := HC.out q
          have hS := HS.out
          have hAd := add_any hL3 q k hqN (by omega) (by have : k * K ≤ 300 * K := Nat.mul_le_mul_right _ (by omega)
                                                         omega)
          have HST : Hid (∀ n k', addR (trnR r k left) q k n k' ↔ trnR r k (fun z => left z && !z.sameKey (.int .i64 (q : Int))) n k') := trnR_step r k q left hrq
          clear hq hrq hL3
          go_wp2_with fail
          refine hAd.mono ?_
          rintro e w4 ⟨rfl, hL4, hg4⟩
          have HL4 : Hid (LinksM w4 w.heap.size N (fun n => w.heap.size + 1 + n) (fun n => if n = q then cn n + 1 else cn n) (trnR r k (fun z => left z && !z.sameKey (.int .i64 (q : Int))))) := hL4.iff HST.out
          have hrg2 := hrg1.kept hg4 (fun e => by have := Option.some.inj e; omega) (fun e => by have := Option.some.inj e; omega)
          have HC4 : Hid (∀ n, (if n = q then cn n + 1 else cn n) ≤ k * K + (Maps.size D0 - ct1)) := fun n => by
            have := HC.out n
            split <;> omega
          have hb3 : Below w.heap.size w w3 := hbr.trans (grown_below hg1 (by omega) hbr.size)
          have hb4 : Below w.heap.size w w4 := hb3.trans (grown_below hg4 (by show w.heap.size ≤ w.heap.size + 1 + q; omega) hb3.size)
          have hs4 : rr < w4.heap.size := by have := hg4.size; omega
          clear hL4 hAd HL HC
          go_wp2
          go_roundw
          case rel => exact ⟨_, ct1, _, hrg2, by omega, HL4, HC4, (fun kl hkl => HF.out kl (by simp only [Bool.and_eq_true] at hkl; exact hkl.1)), hb4, hs4⟩
          case measure => rw [hrg2.left_eq, hrg.left_eq]; exact hlt1
    · have HE : Hid (LinksM wr w.heap.size N (fun n => w.heap.size + 1 + n) cn (fun n k' => k' < N ∧ r k' n)) := by
        obtain rfl : k = N := by omega
        exact HL.out
      clear HL
      go_wp2
      go_ret
      exact ⟨rfl, ⟨cn, HE.out, fun n => by have := HC.out n; have : k * K ≤ 300 * K := Nat.mul_le_mul_right _ (by omega); omega⟩, hbw⟩

end Go.Proofs.YtmkimaceioacgaaDoor
