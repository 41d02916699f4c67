/- The document's side: lengths of shortest sentences. -/
import Derived.Test.YtbgnhegfabpjnaaGShP
import Derived.Test.YtbgnhegfabpjnaaGRow
namespace Go.Proofs.Ytbgnhegfabpjnaa
open Go.RowKit
set_option linter.unusedVariables false
set_option maxRecDepth 100000

def PdOk (N : Nat) (p : PdR) : Prop := 0 ≤ p.left ∧ p.left < N ∧ p.right.length ≤ 20 ∧ ∀ j, j < p.right.length → -(N : Int) ≤ p.right.getD j 0
theorem getD_eq {L : List Int} {j : Nat} (h : j < L.length) (a b : Int) : L.getD j a = L.getD j b := by simp [List.getD, h]
theorem below_set {B : Nat} {w w' : World} (h : Below B w w') {D : Nat} (hD : B ≤ D) (o : Nat) (v : Value) : Below B w (w'.setCell ⟨D, o, none⟩ v) :=
  ⟨h.os, h.tape, h.output, by simpa using h.size, fun k hk => (Below.heap_setCell _ _ _ _ (by simp; omega)).trans (h.block k hk)⟩

theorem Row.fz {w : World} {D : Nat} {L : List Int} (h : Row w D L) (j : Nat) : w.frozen? ⟨D, j, none⟩ = false := by
  unfold Row at h
  simp [World.frozen?, h]
theorem codeO_optI {z : Int} (h : -1 ≤ z) : codeO (optI z) = z := by
  unfold optI
  split
  · show (-1 : Int) = z; omega
  · show ((z.toNat : Nat) : Int) = z; omega
theorem leO_code (a b : Option Nat) (h : codeO b < 0 ∨ (0 ≤ codeO a ∧ codeO a ≤ codeO b)) : leO a b := by
  cases a with
  | none =>
    cases b with
    | none => trivial
    | some y => simp only [codeO] at h; omega
  | some x =>
    cases b with
    | none => trivial
    | some y => simp only [codeO] at h; show x ≤ y; omega
theorem prsS_get {ps : List PdR} {m : Nat} (hm : m < ps.length) : (prsS ps)[m]? = some (prS (ps.getD m noPd)) := by
  simp [prsS, List.getD, hm]
theorem ShI.stepStay {ps : List PdR} {N r m : Nat} {L : List Int} (h : ShI (prsS ps) N r m L) (hm : m < ps.length) {lf : Nat} {right : List Int} {level z : Int} (hp : ps.getD m noPd = ⟨lf, right, level⟩) (hz : rowZ L right right.length = z) (hno : z < 0 ∨ (0 ≤ L.getD lf (-1) ∧ L.getD lf (-1) ≤ z)) : ShI (prsS ps) N r (m + 1) L := by
  refine h.stay (prsS_get hm) ?_
  rw [hp]
  apply leO_code
  have e1 : codeO (factO L (prS ⟨(lf : Int), right, level⟩).left) = L.getD lf (-1) := by
    show codeO (optI (L.getD (lf : Int).toNat (-1))) = _
    rw [codeO_optI (h.lo _)]; simp
  have e2 : codeO (capO (rowL (factO L) (prS ⟨(lf : Int), right, level⟩).right)) = z := by
    rw [← hz]; unfold rowZ; rw [List.take_length]; rfl
  rw [e1, e2]; exact hno
theorem ShI.stepSet {ps : List PdR} {N r m : Nat} {L : List Int} (h : ShI (prsS ps) N r m L) (hm : m < ps.length) {lf : Nat} (hlf : lf < N) {right : List Int} {level z : Int} (hp : ps.getD m noPd = ⟨lf, right, level⟩) (hz : rowZ L right right.length = z) (hz0 : 0 ≤ z) (hb : L.getD lf (-1) < 0 ∨ z < L.getD lf (-1)) : ShI (prsS ps) N r (m + 1) (L.set lf z) := by
  have e2 : codeO (capO (rowL (factO L) (prS ⟨(lf : Int), right, level⟩).right)) = z := by
    rw [← hz]; unfold rowZ; rw [List.take_length]; rfl
  have e1 : codeO (factO L (prS ⟨(lf : Int), right, level⟩).left) = L.getD lf (-1) := by
    show codeO (optI (L.getD (lf : Int).toNat (-1))) = _
    rw [codeO_optI (h.lo _)]; simp
  have hg := prsS_get hm
  rw [hp] at hg
  have := h.set hg (by show (lf : Int).toNat < N; simpa using hlf) (leO_code _ _ (by rw [e1, e2]; omega))
  rw [e2] at this
  have e3 : (prS ⟨(lf : Int), right, level⟩).left = lf := by show (lf : Int).toNat = lf; simp
  rw [e3] at this
  exact this
theorem rowZ_named {L r : List Int} {k q : Nat} {s z x : Int} (hk : k < r.length) (hs : r.getD k 0 = s) (hq : -1 - s = (q : Int)) (hz : rowZ L r k = z) (hz0 : 0 ≤ z) (hx : L.getD q (-1) = x) : rowZ L r (k + 1) = if x < 0 then -1 else min (z + x) 1000000 := by
  rw [rowZ_step L r k hk (by omega)]
  simp only [hs]
  rw [if_pos (show s < 0 by omega), hq, hz]
  simp only [Int.toNat_natCast, hx]
theorem rowZ_term {L r : List Int} {k : Nat} {s z : Int} (hk : k < r.length) (hs : r.getD k 0 = s) (h0 : ¬ s < 0) (hz : rowZ L r k = z) (hz0 : 0 ≤ z) : rowZ L r (k + 1) = min (z + 1) 1000000 := by
  rw [rowZ_step L r k hk (by omega)]
  simp only [hs]
  rw [if_neg h0, hz]
  simp

set_option maxHeartbeats 8000000 in
theorem rshort_any (t s : Int) (N : Nat) (ps : List PdR) (ls ss : List Int) (pv lv sv : Value) (w : World) (hN : N ≤ 300) (hps : ps.length ≤ 400) (hok : ∀ m, m < ps.length → PdOk N (ps.getD m noPd)) (h : PdsM w pv ps) :
    Calls Try.prog 10 #[gv ⟨t, N, s, ps, ls, ss⟩ pv lv sv] w fun e w' => ∃ v L, e = .returned v ∧ IntsR w' v L ∧ L.length = N ∧ (∀ n, -1 ≤ L.getD n (-1)) ∧ (∀ n, factO L n = bestH (prsS ps) N n) ∧ Below w.heap.size w w' := by
  have hB0 := boxG_below w ⟨t, N, s, ps, ls, ss⟩ pv lv sv
  have hB1 := boxG_size w ⟨t, N, s, ps, ls, ss⟩ pv lv sv
  have hB2 := boxG_box w ⟨t, N, s, ps, ls, ss⟩ pv lv sv
  obtain ⟨pa, pc, rfl⟩ := h.slice
  have HP : Hid (PdsM w (.slice pa ps.length pc) ps) := h
  have HOK : Hid (∀ m, m < ps.length → PdOk N (ps.getD m noPd)) := hok
  clear h hok
  have HLT : Hid (∀ p ∈ prsS ps, p.left < N) := by
    intro p hp
    obtain ⟨q, hq, rfl⟩ := List.mem_map.1 hp
    obtain ⟨m, hm, e⟩ := List.getElem_of_mem hq
    have := HOK.out m hm
    simp only [List.getD, List.getElem?_eq_getElem hm, Option.getD_some, e] at this
    unfold PdOk at this
    show q.left.toNat < N
    omega
  unfold boxG gvs at hB0 hB1 hB2
  unfold gv gvs
  simp only at *
  have hmk := makeInts N (by omega)
  go_enter Try.func10, Try.ntmps10
  go_wp2
  clear hmk
  generalize hw0 : w.alloc (.cells #[.int .i64 t, .int .i64 N, .int .i64 s, .slice pa ps.length pc, lv, sv] 25) = w0 at *
  have HW0 : Hid (w.alloc (.cells #[.int .i64 t, .int .i64 N, .int .i64 s, .slice pa ps.length pc, lv, sv] 25) = w0) := hw0
  clear hw0
  have HBX : Hid (BoxG w0 w.heap.size ⟨t, N, s, ps, ls, ss⟩ (.slice pa ps.length pc) lv sv) := hB2
  clear hB2
  have HB1 : Hid (w0.heap.size = w.heap.size + 1) := hB1
  clear hB1
  have HR0 : Hid (Row (w0.alloc (.cells (intsA (List.replicate N 0)) 3)) (w.heap.size + 1) (List.replicate N 0)) := by
    show (w0.alloc _).heap[w.heap.size + 1]? = _
    rw [← HB1.out]
    show (w0.heap.push _)[w0.heap.size]? = _
    exact Array.getElem?_push_size
  have hb0 : Below (w.heap.size + 1) w0 (w0.alloc (.cells (intsA (List.replicate N 0)) 3)) := (alloc_below w0 _).mono (by rw [HB1.out]; exact Nat.le_refl _)
  generalize w0.alloc (.cells (intsA (List.replicate N 0)) 3) = w1 at *
  go_loopw [4] (fun i wr => ∃ (k : Nat) (L : List Int), k ≤ N ∧ i = .int .i64 k ∧ Hid (Row wr (w.heap.size + 1) L) ∧ Hid (L.length = N) ∧ Hid (∀ j, j < k → L.getD j 0 = -1) ∧ Below (w.heap.size + 1) w0 wr) (fun i _ => N - (intOf i).toNat)
  case atStart => exact ⟨0, List.replicate N 0, Nat.zero_le _, rfl, HR0, (by show _ = _; simp), (fun j hj => by omega), hb0⟩
  case round =>
    obtain ⟨k, L, hk, rfl, HR, HL, HA, hbw⟩ := hrel
    have hDlt := HR.out.lt
    obtain ⟨q0, q1, q2, q3, q4, q5, q6⟩ := HBX.out.below (Nat.lt_succ_self _) hbw
    simp only at *
    by_cases hlt : k < N
    · have cD := HR.out.cell (j := k) (by rw [HL.out]; exact hlt)
      have fz := HR.out.fz k
      have HR2 : Hid (Row (wr.setCell ⟨w.heap.size + 1, k, none⟩ (.int .i64 (-1))) (w.heap.size + 1) (L.set k (-1))) := HR.out.set k (-1)
      have HA2 : Hid (∀ j, j < k + 1 → (L.set k (-1)).getD j 0 = -1) := fun j hj => by
        by_cases e : j = k
        · subst e; simp [List.getD, HL.out, hlt]
        · have := HA.out j (by omega)
          simp only [List.getD] at *
          rw [List.getElem?_set_ne (Ne.symm e)]; exact this
      have HL2 : Hid ((L.set k (-1)).length = N) := by show _ = _; rw [List.length_set]; exact HL.out
      have hb2 := below_set hbw (Nat.le_refl _) k (.int .i64 (-1))
      generalize L.getD k 0 = old at *
      clear HR HA HL
      go_wp2
      go_roundw
      case rel => exact ⟨k + 1, _, by omega, by go_num, HR2, HL2, HA2, hb2⟩
      case measure => simp [intOf]; omega
    · have HS : Hid (ShI (prsS ps) N 0 0 L) := ShI.start _ N L HL.out (fun j hj => HA.out j (by omega))
      clear HA HL HR0 hb0
      go_wp2
      clear q0 q1 q2 q3 q4 q5 q6 hDlt
      rename World => wa
      have hba := hbw
      have HRa := HR
      clear hbw HR
      go_loopw [5] (fun i wr => ∃ (r : Nat) (L : List Int), r ≤ N + 1 ∧ i = .int .i64 r ∧ Hid (Row wr (w.heap.size + 1) L) ∧ Hid (ShI (prsS ps) N r 0 L) ∧ Below (w.heap.size + 1) w0 wr) (fun i _ => N + 1 - (intOf i).toNat)
      case atStart => exact ⟨0, L, by omega, rfl, HRa, HS, hba⟩
      case round =>
        clear HRa HS hba L
        obtain ⟨r, L, hr, rfl, HR, HS, hbw⟩ := hrel
        have hDlt := HR.out.lt
        obtain ⟨q0, q1, q2, q3, q4, q5, q6⟩ := HBX.out.below (Nat.lt_succ_self _) hbw
        simp only at *
        by_cases hlr : r ≤ N
        · go_wp2
          clear q0 q1 q2 q3 q4 q5 q6 hDlt
          rename World => wb
          have hbb := hbw
          have HRb := HR
          have HSb := HS
          clear hbw HR HS
          go_loopw [6] (fun i wr => ∃ (m : Nat) (L : List Int), m ≤ ps.length ∧ i = .int .i64 m ∧ Hid (Row wr (w.heap.size + 1) L) ∧ Hid (ShI (prsS ps) N r m L) ∧ Below (w.heap.size + 1) w0 wr) (fun i _ => ps.length - (intOf i).toNat)
          case atStart => exact ⟨0, L, by omega, rfl, HRb, HSb, hbb⟩
          case round =>
            clear HRb HSb hbb L
            obtain ⟨m, L, hm, rfl, HR, HS, hbw⟩ := hrel
            have hDlt := HR.out.lt
            obtain ⟨q0, q1, q2, q3, q4, q5, q6⟩ := HBX.out.below (Nat.lt_succ_self _) hbw
            simp only at *
            by_cases hlm : m < ps.length
            · obtain ⟨b, off, rv, rfl, hb, hpd⟩ := (HP.out.below (hB0.trans (hbw.mono (Nat.le_succ _)))).at hlm
              have HO := HOK.out m hlm
              have HPE : Hid (ps.getD m noPd = ps.getD m noPd) := rfl
              generalize hpe : ps.getD m noPd = p at *
              have HPE2 : Hid (ps.getD m noPd = p) := hpe
              clear HPE hpe
              obtain ⟨left, right, level⟩ := p
              obtain ⟨hl0, hl1, hl2, hl3⟩ := HO
              simp only at hl0 hl1 hl2 hl3
              obtain ⟨lf, rfl⟩ : ∃ lf : Nat, left = (lf : Int) := ⟨left.toNat, by omega⟩
              have hlf : lf < N := by omega
              clear hl0 hl1
              have HSY : Hid (∀ j, j < right.length → -(N : Int) ≤ right.getD j 0) := hl3
              clear hl3
              obtain ⟨c0, c1, c2, hr⟩ := hpd
              simp only at c0 c1 c2 hr
              obtain ⟨ra, rc, rfl⟩ := hr.slice
              have HRi : Hid (IntsR wr (.slice ra right.length rc) right) := hr
              clear hr
              rename World => wc
              go_wp2
              go_loopw [7, 8] (fun x i wr => ∃ (k : Nat) (z : Int), k ≤ right.length ∧ x = .int .i64 z ∧ i = .int .i64 k ∧ -1 ≤ z ∧ z ≤ 1000000 ∧ Hid (rowZ L right k = z) ∧ wr = wc) (fun _ i _ => right.length - (intOf i).toNat)
              case atStart => exact ⟨0, 0, Nat.zero_le _, rfl, rfl, by omega, by omega, rowZ_zero _ _, rfl⟩
              case round =>
                obtain ⟨k2, z, hk2, rfl, rfl, hz1, hz2, HZ, hwe⟩ := hrel
                subst hwe
                by_cases hgo : k2 < right.length ∧ 0 ≤ z
                · obtain ⟨hkl, hz0⟩ := hgo
                  have dz : decide (z ≥ 0) = true := decide_eq_true hz0
                  obtain ⟨b2, off2, rfl, hb2, hc2⟩ := HRi.out.at hkl
                  have hsy := HSY.out k2 hkl
                  have HSE : Hid (right.getD k2 0 = right.getD k2 0) := rfl
                  generalize hse : right.getD k2 0 = sy at *
                  have HSE2 : Hid (right.getD k2 0 = sy) := hse
                  clear HSE hse
                  by_cases hs : sy < 0
                  · obtain ⟨q, hq⟩ : ∃ q : Nat, -1 - sy = (q : Int) := ⟨(-1 - sy).toNat, by omega⟩
                    have hqN : q < N := by omega
                    have cD := HR.out.cell (j := q) (by rw [HS.out.len]; exact hqN)
                    rw [getD_eq (by rw [HS.out.len]; exact hqN) 0 (-1)] at cD
                    have hx1 := HS.out.lo q
                    have hx2 := HS.out.hi q
                    generalize hxe : L.getD q (-1) = x at *
                    have HN : Hid (rowZ L right (k2 + 1) = if x < 0 then -1 else min (z + x) 1000000) := rowZ_named hkl HSE2.out hq HZ.out hz0 hxe
                    clear hxe
                    by_cases hxn : x < 0
                    · have HN2 : Hid (rowZ L right (k2 + 1) = -1) := by show _ = _; rw [HN.out, if_pos hxn]
                      clear HN
                      go_wp2
                      go_roundw
                      case rel => exact ⟨k2 + 1, -1, by omega, by go_num, by go_num, by omega, by omega, HN2, trivial⟩
                      case measure => simp [intOf]; omega
                    · by_cases hbig : z + x > 1000000
                      · have HN2 : Hid (rowZ L right (k2 + 1) = 1000000) := by show _ = _; rw [HN.out, if_neg hxn]; omega
                        clear HN
                        go_wp2
                        go_roundw
                        case rel => exact ⟨k2 + 1, 1000000, by omega, by go_num, by go_num, by omega, by omega, HN2, trivial⟩
                        case measure => simp [intOf]; omega
                      · have HN2 : Hid (rowZ L right (k2 + 1) = z + x) := by show _ = _; rw [HN.out, if_neg hxn]; omega
                        clear HN
                        go_wp2
                        go_roundw
                        case rel => exact ⟨k2 + 1, z + x, by omega, by go_num, by go_num, by omega, by omega, HN2, trivial⟩
                        case measure => simp [intOf]; omega
                  · have HN : Hid (rowZ L right (k2 + 1) = min (z + 1) 1000000) := rowZ_term hkl HSE2.out hs HZ.out hz0
                    by_cases hbig : z + 1 > 1000000
                    · have HN2 : Hid (rowZ L right (k2 + 1) = 1000000) := by show _ = _; rw [HN.out]; omega
                      clear HN
                      go_wp2
                      go_roundw
                      case rel => exact ⟨k2 + 1, 1000000, by omega, by go_num, by go_num, by omega, by omega, HN2, trivial⟩
                      case measure => simp [intOf]; omega
                    · have HN2 : Hid (rowZ L right (k2 + 1) = z + 1) := by show _ = _; rw [HN.out]; omega
                      clear HN
                      go_wp2
                      go_roundw
                      case rel => exact ⟨k2 + 1, z + 1, by omega, by go_num, by go_num, by omega, by omega, HN2, trivial⟩
                      case measure => simp [intOf]; omega
                · have HE : Hid (rowZ L right right.length = z) := by
                    by_cases hz0 : 0 ≤ z
                    · have : k2 = right.length := by omega
                      rw [← this]; exact HZ.out
                    · have := rowZ_end L right k2 (by rw [HZ.out]; omega)
                      show _ = _
                      rw [this]; omega
                  have cD := HR.out.cell (j := lf) (by rw [HS.out.len]; exact hlf)
                  rw [getD_eq (by rw [HS.out.len]; exact hlf) 0 (-1)] at cD
                  have fz := HR.out.fz lf
                  have hx1 := HS.out.lo lf
                  have HST : Hid (z < 0 ∨ (0 ≤ L.getD lf (-1) ∧ L.getD lf (-1) ≤ z) → ShI (prsS ps) N r (m + 1) L) := HS.out.stepStay hlm HPE2.out HE.out
                  have HSE : Hid (0 ≤ z → (L.getD lf (-1) < 0 ∨ z < L.getD lf (-1)) → ShI (prsS ps) N r (m + 1) (L.set lf z)) := HS.out.stepSet hlm hlf HPE2.out HE.out
                  have HRS : Hid (Row (wr.setCell ⟨w.heap.size + 1, lf, none⟩ (.int .i64 z)) (w.heap.size + 1) (L.set lf z)) := HR.out.set lf z
                  have hbs := below_set hbw (Nat.le_refl _) lf (.int .i64 z)
                  generalize L.getD lf (-1) = old at *
                  have hcase : (k2 < right.length ∧ decide (z ≥ 0) = false) ∨ ¬ k2 < right.length := by
                    by_cases hz0 : 0 ≤ z
                    · exact .inr (by omega)
                    · by_cases hkl : k2 < right.length
                      · exact .inl ⟨hkl, decide_eq_false (by omega)⟩
                      · exact .inr hkl
                  clear hgo HE HZ
                  rcases hcase with ⟨hkl, dz⟩ | hkl
                  · have hzn : z < 0 := by simpa using dz
                    have HS2 := HST.out (.inl hzn)
                    have HS3 : Hid (ShI (prsS ps) N r (m + 1) L) := HS2
                    clear HS2 HST HSE HRS hbs hzn
                    go_wp2
                    go_roundw
                    case rel => exact ⟨m + 1, L, by omega, by go_num, HR, HS3, hbw⟩
                    case measure => simp [intOf]; omega
                  · by_cases hzn : 0 ≤ z
                    · have dz : decide (z ≥ 0) = true := decide_eq_true hzn
                      by_cases ho : old < 0
                      · have do1 : decide (old < 0) = true := decide_eq_true ho
                        have HS3 : Hid (ShI (prsS ps) N r (m + 1) (L.set lf z)) := HSE.out hzn (.inl ho)
                        clear HST HSE
                        go_wp2
                        go_roundw
                        case rel => exact ⟨m + 1, _, by omega, by go_num, HRS, HS3, hbs⟩
                        case measure => simp [intOf]; omega
                      · have do1 : decide (old < 0) = false := decide_eq_false ho
                        by_cases hlo : z < old
                        · have do2 : decide (z < old) = true := decide_eq_true hlo
                          have HS3 : Hid (ShI (prsS ps) N r (m + 1) (L.set lf z)) := HSE.out hzn (.inr hlo)
                          clear HST HSE
                          go_wp2
                          go_roundw
                          case rel => exact ⟨m + 1, _, by omega, by go_num, HRS, HS3, hbs⟩
                          case measure => simp [intOf]; omega
                        · have do2 : decide (z < old) = false := decide_eq_false hlo
                          have HS3 : Hid (ShI (prsS ps) N r (m + 1) L) := HST.out (.inr ⟨by omega, by omega⟩)
                          clear HST HSE HRS hbs
                          go_wp2
                          go_roundw
                          case rel => exact ⟨m + 1, L, by omega, by go_num, HR, HS3, hbw⟩
                          case measure => simp [intOf]; omega
                    · have dz : decide (z ≥ 0) = false := decide_eq_false hzn
                      have HS3 : Hid (ShI (prsS ps) N r (m + 1) L) := HST.out (.inl (by omega))
                      clear HST HSE HRS hbs
                      go_wp2
                      go_roundw
                      case rel => exact ⟨m + 1, L, by omega, by go_num, HR, HS3, hbw⟩
                      case measure => simp [intOf]; omega
            · have HS2 : Hid (ShI (prsS ps) N (r + 1) 0 L) := by
                obtain rfl : m = (prsS ps).length := by simp [prsS]; omega
                exact HS.out.next
              clear HS
              go_wp2
              go_roundw
              case rel => exact ⟨r + 1, L, by omega, by go_num, HR, HS2, hbw⟩
              case measure => simp [intOf]; omega
        · have hrN : r = N + 1 := by omega
          have HF : Hid (∀ n, factO L n = bestH (prsS ps) N n) := by
            subst hrN
            exact HS.out.final HLT.out
          have HLO : Hid (∀ n, -1 ≤ L.getD n (-1)) := HS.out.lo
          have HLN : Hid (L.length = N) := HS.out.len
          clear HS hrN
          have HI : Hid (IntsR wr (.slice (some ⟨w.heap.size + 1, 0, none⟩) N N) L) := by
            have := HR.out.ints
            rw [HLN.out] at this
            exact this
          go_wp2
          go_ret
          exact ⟨_, L, rfl, HI.out, HLN.out, HLO.out, HF.out, hB0.trans (hbw.mono (Nat.le_succ _))⟩

end Go.Proofs.Ytbgnhegfabpjnaa
