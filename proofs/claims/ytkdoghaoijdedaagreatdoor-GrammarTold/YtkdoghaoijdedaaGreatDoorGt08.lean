/- Texts of the proof, put together: GAdd, GWin. -/
import Derived.Test.YtkdoghaoijdedaaGreatDoorGt07
import Derived.Test.YtkdoghaoijdedaaGreatDoorGt04
namespace Go.Proofs.YtkdoghaoijdedaaGreatDoor
open Go.RowKit
open Go.Maps (Keyed)
set_option linter.unusedVariables false
set_option maxRecDepth 100000

theorem Tryz.lawIntG : Keyed Tryz.prog 3 := Maps.int_keyed Tryz.underlying3
theorem Tryz.zeroIntG (w : World) : (zeroValue 3).run Tryz.prog w = .ok (.int .i64 0) w := by kernel_rfl
/-- a map whose keys are these numbers -/
def KeysM (w : World) (M n : Nat) (r : Nat → Prop) : Prop := ∃ D : DataW Unit, w.ownsMap Tryz.prog 3 (plainElem Tryz.prog 3) M n D ∧ Maps.IsMap D ∧ ∀ kl, Maps.has D kl = true ↔ ∃ k : Nat, kl = .int .i64 k ∧ r k
theorem keyOf_nat (k : Nat) (hk : k ≤ 1000000) : keyOf Tryz.prog 3 (.int .i64 (k : Int)) = some (.int .i64 (k : Int)) := Maps.keyOf_int_mk Tryz.underlying3 (WalkArith.wf_i64 (by omega))
theorem wrap64_range (c : Int) : -9223372036854775808 ≤ wrap64 c ∧ wrap64 c ≤ 9223372036854775807 := by
  unfold wrap64
  omega
theorem KeysM.new {w : World} {M : Nat} (h : w.heap[M]? = some (.map #[] 0)) : KeysM w M 0 fun _ => False := by
  have hf : w.ownsMap (H := Unit) Tryz.prog 3 (plainElem Tryz.prog 3) M 0 (.map []) := by
    obtain ⟨es, cl, h1, h2⟩ := World.ownsMap_made (H := Unit) w Tryz.prog 3 (plainElem Tryz.prog 3)
    rw [heap_alloc_new] at h1
    simp at h1
    obtain ⟨rfl, rfl⟩ := h1
    exact ⟨_, _, h, h2⟩
  exact ⟨_, hf, ⟨[], rfl⟩, fun kl => ⟨fun e => (by cases e), fun ⟨_, _, e⟩ => e.elim⟩⟩

set_option maxHeartbeats 1000000 in
theorem add_walk (D N f t M : Nat) (hf : f < N) (c z : Int) (hz : wrap64 (c + 1) = z) (w w' : World) (hD : D < w.heap.size) (cD : w.cell? ⟨D, f, none⟩ = some (.map (some M)))
    (hlook : (Instr.lookup 65 (.map (some M)) (.int .i64 t) false).run Tryz.prog w = .ok (.int .i64 c) w)
    (hup : (Instr.mapUpdate 65 (.map (some M)) (.int .i64 t) (.int .i64 z)).run Tryz.prog w = .ok () w') :
    Calls Tryz.prog 73 #[.slice (some ⟨D, 0, none⟩) N N, .int .i64 f, .int .i64 t] w fun e w2 => e = .returned (.tuple #[]) ∧ w2 = w' := by
  go_enter Tryz.func73, Tryz.ntmps73
  go_wp2
  go_end0
  exact ⟨rfl, rfl⟩

/-- links in memory: the maps lie apart -/
structure LinksM (w : World) (D N : Nat) (mp cnt : Nat → Nat) (r : Nat → Nat → Prop) : Prop where
  lt : D < w.heap.size
  cell : ∀ n, n < N → w.cell? ⟨D, n, none⟩ = some (.map (some (mp n)))
  keys : ∀ n, n < N → KeysM w (mp n) (cnt n) (r n)
  inj : ∀ n m, n < N → m < N → mp n = mp m → n = m
  ne : ∀ n, n < N → mp n ≠ D
theorem KeysM.block {w w' : World} {M n : Nat} {r : Nat → Prop} (h : KeysM w M n r) (hb : w'.heap[M]? = w.heap[M]?) : KeysM w' M n r := by
  obtain ⟨D, ⟨es, cl, h1, h2⟩, h3, h4⟩ := h
  exact ⟨D, ⟨es, cl, hb.trans h1, h2⟩, h3, h4⟩
theorem KeysM.lt {w : World} {M n : Nat} {r : Nat → Prop} (h : KeysM w M n r) : M < w.heap.size := by
  obtain ⟨D, ⟨es, cl, h1, h2⟩, h3, h4⟩ := h
  exact (Array.getElem?_eq_some_iff.1 h1).1
theorem LinksM.new {w : World} {D N : Nat} {vs : List Value} (h : NewM w D N N vs) : LinksM w D N (fun n => D + 1 + n) (fun _ => 0) fun _ _ => False :=
  ⟨h.row.lt, fun n hn => (h.row.cell n).trans (h.at_ n hn).1, fun n hn => KeysM.new (h.at_ n hn).2, fun n m _ _ e => by have e2 : D + 1 + n = D + 1 + m := e; omega, fun n _ => by show D + 1 + n ≠ D; omega⟩
/-- .. with one more -/
def addR (r : Nat → Nat → Prop) (f t : Nat) : Nat → Nat → Prop := fun n k => r n k ∨ (n = f ∧ k = t)

theorem add_any {w : World} {D N : Nat} {mp cnt : Nat → Nat} {r : Nat → Nat → Prop} (h : LinksM w D N mp cnt r) (f t : Nat) (hf : f < N) (ht : t ≤ 1000000) (hc : cnt f ≤ 1000000000) :
    Calls Tryz.prog 73 #[.slice (some ⟨D, 0, none⟩) N N, .int .i64 f, .int .i64 t] w fun e w' => e = .returned (.tuple #[]) ∧ LinksM w' D N mp (fun n => if n = f then cnt n + 1 else cnt n) (addR r f t) ∧ w.grownBy w' (some (mp f)) := by
  obtain ⟨Dm, hown, him, hk⟩ := h.keys f hf
  obtain ⟨c, hrun, hat, hwc⟩ := hown.lookup_int Tryz.lawIntG Tryz.underlying65 Tryz.underlying3 (Tryz.zeroIntG _) (keyOf_nat t ht)
  have hr := wrap64_range (c + 1)
  obtain ⟨w', hup, hown', hturn⟩ := hown.store Tryz.lawIntG Tryz.underlying65 (by unfold maxLen; omega) (val := .int .i64 (wrap64 (c + 1))) (keyOf_nat t ht) (plainElem_int Tryz.underlying3 (WalkArith.wf_i64 (by omega)))
  have hg := hturn.grown
  have hblk : ∀ k, k < w.heap.size → k ≠ mp f → w'.heap[k]? = w.heap[k]? := fun k hk1 hk2 => hg.block k hk1 (fun e => hk2 (by simpa using e))
  refine (add_walk D N f t (mp f) hf c _ rfl w w' h.lt (h.cell f hf) hrun hup).mono ?_
  rintro e w2 ⟨rfl, rfl⟩
  refine ⟨rfl, ⟨Nat.lt_of_lt_of_le h.lt hg.size, fun n hn => ?_, fun n hn => ?_, h.inj, h.ne⟩, hg⟩
  · have hb := hblk D h.lt (Ne.symm (h.ne f hf))
    have := h.cell n hn
    simp only [World.cell?] at this ⊢
    rw [hb]; exact this
  · by_cases e : n = f
    · subst e
      simp only [if_true]
      refine ⟨_, hown', ?_, fun kl => ?_⟩
      · obtain ⟨es, rfl⟩ := him; exact ⟨_, rfl⟩
      · by_cases ek : kl = .int .i64 (t : Int)
        · subst ek
          rw [Maps.has_put_same him (show WideAt.IsKeyLit (.int .i64 (t : Int)) from trivial)]
          exact ⟨fun _ => ⟨t, rfl, .inr ⟨rfl, rfl⟩⟩, fun _ => rfl⟩
        · rw [Maps.has_put_other ek, hk kl]
          constructor
          · rintro ⟨k, e1, e2⟩; exact ⟨k, e1, .inl e2⟩
          · rintro ⟨k, e1, e2 | ⟨_, e2⟩⟩
            · exact ⟨k, e1, e2⟩
            · subst e2; exact absurd e1 ek
    · simp only [if_neg e]
      have h1 := (h.keys n hn).block (hblk (mp n) (h.keys n hn).lt fun e' => e (h.inj n f hn hf e'))
      obtain ⟨D1, a1, a2, a3⟩ := h1
      refine ⟨D1, a1, a2, fun kl => (a3 kl).trans ?_⟩
      constructor
      · rintro ⟨k, e1, e2⟩; exact ⟨k, e1, .inl e2⟩
      · rintro ⟨k, e1, e2 | ⟨e2, _⟩⟩
        · exact ⟨k, e1, e2⟩
        · exact absurd e2 e

end Go.Proofs.YtkdoghaoijdedaaGreatDoor

namespace Go.Proofs.YtkdoghaoijdedaaGreatDoor
open Go.RowKit
set_option linter.unusedVariables false
set_option maxRecDepth 100000

theorem LinksM.below {w w' : World} {D N : Nat} {mp cnt : Nat → Nat} {r : Nat → Nat → Prop} (h : LinksM w D N mp cnt r) (hb : Below w.heap.size w w') : LinksM w' D N mp cnt r :=
  ⟨Nat.lt_of_lt_of_le h.lt hb.size, fun n hn => (hb.cell (p := ⟨D, n, none⟩) h.lt).trans (h.cell n hn), fun n hn => (h.keys n hn).block (hb.block _ (h.keys n hn).lt), h.inj, h.ne⟩
theorem LinksM.iff {w : World} {D N : Nat} {mp cnt : Nat → Nat} {r r' : Nat → Nat → Prop} (h : LinksM w D N mp cnt r) (he : ∀ n k, r n k ↔ r' n k) : LinksM w D N mp cnt r' := by
  have e : r = r' := funext fun n => funext fun k => propext (he n k)
  exact e ▸ h
/-- a production has such a link -/
def PdHas (p : PdR) (j m n : Nat) : Prop := p.left = (m : Int) ∧ ∃ i, i < j ∧ p.right.getD i 0 < 0 ∧ -1 - p.right.getD i 0 = (n : Int)
def linkR (ps : List PdR) (k : Nat) (m n : Nat) : Prop := ∃ q, q < k ∧ PdHas (ps.getD q noPd) (ps.getD q noPd).right.length m n
theorem linkR_succ (ps : List PdR) (k m n : Nat) : linkR ps (k + 1) m n ↔ linkR ps k m n ∨ PdHas (ps.getD k noPd) (ps.getD k noPd).right.length m n := by
  constructor
  · rintro ⟨q, hq, h⟩
    by_cases e : q = k
    · subst e; exact .inr h
    · exact .inl ⟨q, by omega, h⟩
  · rintro (⟨q, hq, h⟩ | h)
    · exact ⟨q, by omega, h⟩
    · exact ⟨k, by omega, h⟩
theorem PdHas_no (p : PdR) (j m n : Nat) (h : ¬ p.right.getD j 0 < 0) : PdHas p (j + 1) m n ↔ PdHas p j m n := by
  constructor
  · rintro ⟨h1, i, hi, h2, h3⟩
    by_cases e : i = j
    · subst e; exact absurd h2 h
    · exact ⟨h1, i, by omega, h2, h3⟩
  · rintro ⟨h1, i, hi, h2⟩; exact ⟨h1, i, by omega, h2⟩
theorem PdHas_yes (p : PdR) (j lf q m n : Nat) (hl : p.left = (lf : Int)) (h : p.right.getD j 0 < 0) (hq : -1 - p.right.getD j 0 = (q : Int)) : PdHas p (j + 1) m n ↔ PdHas p j m n ∨ (m = lf ∧ n = q) := by
  constructor
  · rintro ⟨h1, i, hi, h2, h3⟩
    by_cases e : i = j
    · subst e; exact .inr ⟨by omega, by omega⟩
    · exact .inl ⟨h1, i, by omega, h2, h3⟩
  · rintro (⟨h1, i, hi, h2⟩ | ⟨rfl, rfl⟩)
    · exact ⟨h1, i, by omega, h2⟩
    · exact ⟨hl, j, by omega, h, hq⟩
theorem grown_below {w w' : World} {M B : Nat} (h : w.grownBy w' (some M)) (hB : B ≤ M) (hs : B ≤ w.heap.size) : Below B w w' :=
  ⟨h.os, h.tape, h.output, h.size, fun k hk => h.block k (by omega) (by simp; omega)⟩

set_option maxHeartbeats 8000000 in
theorem within_any (t s : Int) (N : Nat) (ps : List PdR) (ls ss : List Int) (pv lv sv : Value) (w : World) (hN : N ≤ 300) (hps : ps.length ≤ 400) (hok : ∀ m, m < ps.length → PdOk N (ps.getD m noPd) ∧ ∀ j, j < (ps.getD m noPd).right.length → I64 ((ps.getD m noPd).right.getD j 0)) (h : PdsM w pv ps) :
    Calls Tryz.prog 45 #[gv ⟨t, N, s, ps, ls, ss⟩ pv lv sv] w fun e w' => e = .returned (.slice (some ⟨w.heap.size + 1, 0, none⟩) N N) ∧ (∃ cnt, LinksM w' (w.heap.size + 1) N (fun n => w.heap.size + 1 + 1 + n) cnt (linkR ps ps.length) ∧ ∀ n, cnt n ≤ 8000) ∧ Below w.heap.size w w' := by
  have hB0 := boxG_below w ⟨t, N, s, ps, ls, ss⟩ pv lv sv
  have hB1 := boxG_size w ⟨t, N, s, ps, ls, ss⟩ pv lv sv
  have hB2 := boxG_box w ⟨t, N, s, ps, ls, ss⟩ pv lv sv
  obtain ⟨pa, pc, rfl⟩ := h.slice
  have HP : Hid (PdsM w (.slice pa ps.length pc) ps) := h
  have HOK : Hid (∀ m, m < ps.length → PdOk N (ps.getD m noPd) ∧ ∀ j, j < (ps.getD m noPd).right.length → I64 ((ps.getD m noPd).right.getD j 0)) := hok
  clear h hok
  have hNL := newLinks_any N hN (boxG w ⟨t, N, s, ps, ls, ss⟩ (.slice pa ps.length pc) lv sv)
  rw [hB1] at hNL
  unfold boxG gvs at hB0 hB1 hB2 hNL
  unfold gv gvs
  simp only at *
  obtain ⟨q0, q1, q2, q3, q4, q5, q6⟩ := hB2
  have HBX : Hid (BoxG (w.alloc (.cells #[.int .i64 t, .int .i64 N, .int .i64 s, .slice pa ps.length pc, lv, sv] 25)) w.heap.size ⟨t, N, s, ps, ls, ss⟩ (.slice pa ps.length pc) lv sv) := ⟨q0, q1, q2, q3, q4, q5, q6⟩
  simp only at q0 q1 q2 q3 q4 q5 q6
  go_enter Tryz.func45, Tryz.ntmps45
  go_wp2_with fail
  refine hNL.mono ?_
  rintro e w1 ⟨rfl, ⟨vs, hnew⟩, hb1⟩
  generalize w.alloc (.cells #[.int .i64 t, .int .i64 N, .int .i64 s, .slice pa ps.length pc, lv, sv] 25) = w0 at *
  have HB1 : Hid (w0.heap.size = w.heap.size + 1) := hB1
  have HL0 : Hid (LinksM w1 (w.heap.size + 1) N (fun n => w.heap.size + 1 + 1 + n) (fun _ => 0) (linkR ps 0)) := (LinksM.new hnew).iff fun n k => ⟨fun e => e.elim, fun ⟨q, hq, _⟩ => by omega⟩
  clear hnew hB1 hNL q0 q1 q2 q3 q4 q5 q6
  obtain ⟨q0, q1, q2, q3, q4, q5, q6⟩ := HBX.out.below (Nat.lt_succ_self _) hb1
  simp only at q0 q1 q2 q3 q4 q5 q6
  go_wp2
  clear q0 q1 q2 q3 q4 q5 q6
  go_loopw [16] (fun i wr => ∃ (k : Nat) (cnt : Nat → Nat), k ≤ ps.length ∧ i = .int .i64 k ∧ Hid (LinksM wr (w.heap.size + 1) N (fun n => w.heap.size + 1 + 1 + n) cnt (linkR ps k)) ∧ Hid (∀ n, cnt n ≤ k * 20) ∧ Below (w.heap.size + 1) w0 wr) (fun i _ => ps.length - (intOf i).toNat)
  case atStart => exact ⟨0, _, Nat.zero_le _, rfl, HL0, (fun n => Nat.zero_le _), hb1⟩
  case round =>
    obtain ⟨k, cnt, hk, rfl, HL, HC, hbw⟩ := hrel
    have hbx := hB0.trans (hbw.mono (Nat.le_succ _))
    by_cases hlt : k < ps.length
    · obtain ⟨b, off, rv, rfl, hb, hpd⟩ := HP.out.at hlt
      have hpd2 := hpd.below hb hbx
      obtain ⟨hO1, hO2⟩ := HOK.out k hlt
      have HLS : Hid (∀ m n, linkR ps (k + 1) m n ↔ linkR ps k m n ∨ PdHas (ps.getD k noPd) (ps.getD k noPd).right.length m n) := linkR_succ ps k
      generalize ps.getD k noPd = p at *
      obtain ⟨left, right, level⟩ := p
      obtain ⟨hl0, hl1, hl2, hl3⟩ := hO1
      simp only at hl0 hl1 hl2 hl3 hO2 HLS
      obtain ⟨lf, rfl⟩ : ∃ lf : Nat, left = (lf : Int) := ⟨left.toNat, by omega⟩
      have hlf : lf < N := by omega
      clear hl0 hl1
      have HSY : Hid (∀ j, j < right.length → -(N : Int) ≤ right.getD j 0 ∧ I64 (right.getD j 0)) := fun j hj => ⟨hl3 j hj, hO2 j hj⟩
      clear hl3 hO2
      have HRw : Hid (IntsR w rv right) := hpd.right
      obtain ⟨ra, rc, rfl⟩ := hpd.right.slice
      obtain ⟨c0, c1, c2, _⟩ := hpd2
      simp only at c0 c1 c2
      have hbr : b < wr.heap.size := Nat.lt_of_lt_of_le hb hbx.size
      have hDlt := HL.out.lt
      have hml : w.heap.size + 1 + 1 + lf < wr.heap.size := (HL.out.keys lf hlf).lt
      clear hpd
      rename World => wo
      go_wp2
      clear c0 c1 c2
      have hA := alloc_below wo (.cells #[.int .i64 (lf : Int), .slice ra right.length rc, .int .i64 level] 34)
      have hA2 : ∀ (W : World) (o : Obj), (W.alloc o).heap[W.heap.size]? = some o := fun W o => by
        show (W.heap.push _)[W.heap.size]? = _
        exact Array.getElem?_push_size
      have HQ0 : Hid ((wo.alloc (.cells #[.int .i64 (lf : Int), .slice ra right.length rc, .int .i64 level] 34)).heap[wo.heap.size]? = some (.cells #[.int .i64 (lf : Int), .slice ra right.length rc, .int .i64 level] 34 (0, 0))) := hA2 _ _
      have HLi0 : Hid (LinksM (wo.alloc (.cells #[.int .i64 (lf : Int), .slice ra right.length rc, .int .i64 level] 34)) (w.heap.size + 1) N (fun n => w.heap.size + 1 + 1 + n) cnt (fun m n => linkR ps k m n ∨ PdHas ⟨lf, right, level⟩ 0 m n)) := (HL.out.below hA).iff fun m n => ⟨.inl, fun h => h.elim id fun ⟨_, i, hi, _⟩ => by omega⟩
      have hb3 : Below (w.heap.size + 1) w0 (wo.alloc (.cells #[.int .i64 (lf : Int), .slice ra right.length rc, .int .i64 level] 34)) := hbw.trans (hA.mono (by omega))
      have HC0 : Hid (∀ n, cnt n ≤ k * 20 + 0) := HC.out
      generalize wo.alloc (.cells #[.int .i64 (lf : Int), .slice ra right.length rc, .int .i64 level] 34) = w3 at *
      clear hA hA2 HL HC hbx hbw
      have HML : Hid (w.heap.size + 1 + 1 + lf < wo.heap.size) := hml
      clear hml hDlt hbr
      go_loopw [23] (fun i wr => ∃ (j : Nat) (cnt : Nat → Nat), j ≤ right.length ∧ i = .int .i64 j ∧ Hid (LinksM wr (w.heap.size + 1) N (fun n => w.heap.size + 1 + 1 + n) cnt (fun m n => linkR ps k m n ∨ PdHas ⟨lf, right, level⟩ j m n)) ∧ Hid (∀ n, cnt n ≤ k * 20 + j) ∧ Hid (wr.heap[wo.heap.size]? = some (.cells #[.int .i64 (lf : Int), .slice ra right.length rc, .int .i64 level] 34 (0, 0))) ∧ Below (w.heap.size + 1) w0 wr) (fun i _ => right.length - (intOf i).toNat)
      case atStart => exact ⟨0, cnt, Nat.zero_le _, rfl, HLi0, HC0, HQ0, hb3⟩
      case round =>
        clear HLi0 HC0 HQ0 hb3 cnt
        obtain ⟨j, cnt, hj, rfl, HL, HC, HQ, hbw⟩ := hrel
        have hbx := hB0.trans (hbw.mono (Nat.le_succ _))
        by_cases hlj : j < right.length
        · obtain ⟨b2, off2, rfl, hb2, hc2⟩ := (HRw.out.below hbx).at hlj
          obtain ⟨hs1, hs2⟩ := HSY.out j hlj
          have HNO : Hid (¬ right.getD j 0 < 0 → ∀ m n, PdHas ⟨lf, right, level⟩ (j + 1) m n ↔ PdHas ⟨lf, right, level⟩ j m n) := fun h m n => PdHas_no ⟨lf, right, level⟩ j m n h
          have HYE : Hid (∀ q : Nat, right.getD j 0 < 0 → -1 - right.getD j 0 = (q : Int) → ∀ m n, PdHas ⟨lf, right, level⟩ (j + 1) m n ↔ PdHas ⟨lf, right, level⟩ j m n ∨ (m = lf ∧ n = q)) := fun q h h' m n => PdHas_yes ⟨lf, right, level⟩ j lf q m n rfl h h'
          generalize right.getD j 0 = sy at *
          have hNm := nameOf_any sy hs2
          by_cases hs : sy < 0
          · obtain ⟨q, hq⟩ : ∃ q : Nat, -1 - sy = (q : Int) := ⟨(-1 - sy).toNat, by omega⟩
            have d1 : decide (sy < 0) = true := decide_eq_true hs
            rw [d1, hq] at hNm
            have hPl : wo.heap.size < wr.heap.size := (Array.getElem?_eq_some_iff.1 HQ.out).1
            have cP : wr.cell? ⟨wo.heap.size, 0, none⟩ = some (.int .i64 (lf : Int)) := by simp only [World.cell?, HQ.out]; rfl
            have hcl := HC.out lf
            have hAd := add_any HL.out lf q hlf (by omega) (by omega)
            have HIF := HYE.out q hs hq
            have HIF2 : Hid (∀ m n, PdHas ⟨lf, right, level⟩ (j + 1) m n ↔ PdHas ⟨lf, right, level⟩ j m n ∨ (m = lf ∧ n = q)) := HIF
            clear hs d1 hq hs1 hs2 HIF HNO HYE
            go_wp2_with fail
            refine (hNm _).mono ?_
            rintro e w4 ⟨rfl, rfl⟩
            go_wp2_with fail
            refine hAd.mono ?_
            rintro e w5 ⟨rfl, hL5, hg5⟩
            have HL5 : Hid (LinksM w5 (w.heap.size + 1) N (fun n => w.heap.size + 1 + 1 + n) (fun n => if n = lf then cnt n + 1 else cnt n) (fun m n => linkR ps k m n ∨ PdHas ⟨lf, right, level⟩ (j + 1) m n)) := hL5.iff fun m n => by
              unfold addR
              rw [HIF2.out m n]
              constructor
              · rintro ((h | h) | h)
                · exact .inl h
                · exact .inr (.inl h)
                · exact .inr (.inr h)
              · rintro (h | h | h)
                · exact .inl (.inl h)
                · exact .inl (.inr h)
                · exact .inr h
            have HC5 : Hid (∀ n, (if n = lf then cnt n + 1 else cnt n) ≤ k * 20 + (j + 1)) := fun n => by
              have := HC.out n
              split <;> omega
            have HQ5 : Hid (w5.heap[wo.heap.size]? = some (.cells #[.int .i64 (lf : Int), .slice (some ⟨b2, off2, none⟩) right.length rc, .int .i64 level] 34 (0, 0))) := (hg5.block _ hPl (by have := HML.out; simp; omega)).trans HQ.out
            have hb5 : Below (w.heap.size + 1) w0 w5 := hbw.trans (grown_below hg5 (by show w.heap.size + 1 ≤ w.heap.size + 1 + 1 + lf; omega) (by have := hbw.size; rw [HB1.out] at this; exact this))
            clear hL5 hg5 hAd HL HC HQ
            go_wp2
            go_roundw
            case rel => exact ⟨j + 1, _, by omega, by go_num, HL5, HC5, HQ5, hb5⟩
            case measure => simp [intOf]; omega
          · have d1 : decide (sy < 0) = false := decide_eq_false hs
            rw [d1] at hNm
            have HL5 : Hid (LinksM wr (w.heap.size + 1) N (fun n => w.heap.size + 1 + 1 + n) cnt (fun m n => linkR ps k m n ∨ PdHas ⟨lf, right, level⟩ (j + 1) m n)) := HL.out.iff fun m n => by rw [HNO.out hs m n]
            have HC5 : Hid (∀ n, cnt n ≤ k * 20 + (j + 1)) := fun n => by have := HC.out n; omega
            clear hs d1 hs1 hs2 HNO HYE HL HC
            go_wp2_with fail
            refine (hNm _).mono ?_
            rintro e w4 ⟨rfl, rfl⟩
            go_wp2
            go_roundw
            case rel => exact ⟨j + 1, _, by omega, by go_num, HL5, HC5, HQ, hbw⟩
            case measure => simp [intOf]; omega
        · have HL5 : Hid (LinksM wr (w.heap.size + 1) N (fun n => w.heap.size + 1 + 1 + n) cnt (linkR ps (k + 1))) := HL.out.iff fun m n => by
            rw [HLS.out m n, show j = right.length by omega]
          have HC5 : Hid (∀ n, cnt n ≤ (k + 1) * 20) := fun n => by have := HC.out n; omega
          clear HL HC
          go_wp2
          go_roundw
          case rel => exact ⟨k + 1, _, by omega, by go_num, HL5, HC5, hbw⟩
          case measure => simp [intOf]; omega
    · have HE : Hid (LinksM wr (w.heap.size + 1) N (fun n => w.heap.size + 1 + 1 + n) cnt (linkR ps ps.length)) := by
        obtain rfl : k = ps.length := by omega
        exact HL.out
      clear HL
      go_wp2
      go_ret
      exact ⟨rfl, ⟨cnt, HE.out, fun n => by have := HC.out n; omega⟩, hbx⟩

end Go.Proofs.YtkdoghaoijdedaaGreatDoor
