/- Texts of the proof, put together: GSml, GSmB, GLsE. -/
import Derived.Test.YtkdoghaoijdedaaGreatDoorGt01
import Derived.Test.YtkdoghaoijdedaaGreatDoorGt33
import Derived.BigQuiet
import Derived.Deep.RegionWith
import Derived.Test.YtkdoghaoijdedaaGreatDoorGt34
import Derived.Test.YtkdoghaoijdedaaGreatDoorGt25
namespace Go.Proofs.YtkdoghaoijdedaaGreatDoor
open Go.RowKit
set_option linter.unusedVariables false
set_option maxRecDepth 100000

def smallG (g : Gm) : Bool := (decide (g.terms ≤ 8) && decide (g.names ≤ 8) && decide (g.prods.length ≤ 14) && decide (g.levels.length ≤ 8) && decide (g.sides.length ≤ 8)) && g.prods.all fun p => decide (p.right.length ≤ 5)

set_option maxHeartbeats 2000000 in
theorem small_any (g : Gm) (pv lv sv : Value) (w : World) (h : GrM w g pv lv sv) :
    Calls Tryz.prog 4 #[gv g pv lv sv] w fun e w' => e = .returned (.bool (smallG g)) ∧ Below w.heap.size w w' := by
  have hB0 := boxG_below w g pv lv sv
  have hB1 := boxG_size w g pv lv sv
  have hB2 := boxG_box w g pv lv sv
  obtain ⟨hp, hl, hs⟩ := h
  obtain ⟨pa, pc, rfl⟩ := hp.slice
  obtain ⟨la, lc, rfl⟩ := hl.slice
  obtain ⟨sa, sc, rfl⟩ := hs.slice
  clear hl hs
  have HP : Hid (PdsM w (.slice pa g.prods.length pc) g.prods) := hp
  clear hp
  obtain ⟨t, n, s, ps, ls, ss⟩ := g
  unfold boxG gvs at hB0 hB1 hB2
  simp only at *
  have HR : Hid (smallG ⟨t, n, s, ps, ls, ss⟩ = ((decide (t ≤ 8) && decide (n ≤ 8) && decide (ps.length ≤ 14) && decide (ls.length ≤ 8) && decide (ss.length ≤ 8)) && ps.all fun p => decide (p.right.length ≤ 5))) := rfl
  generalize smallG ⟨t, n, s, ps, ls, ss⟩ = R at *
  unfold gv gvs
  simp only
  by_cases h1 : t > 8
  · have HS : Hid (R = false) := by show _ = _; rw [HR.out, decide_eq_false (p := t ≤ 8) (by omega)]; simp
    go_enter Tryz.func4, Tryz.ntmps4
    go_wp2
    go_ret
    exact ⟨by rw [HS.out]; rfl, hB0⟩
  have d1 : decide (t > 8) = false := decide_eq_false (by omega)
  by_cases h2 : n > 8
  · have HS : Hid (R = false) := by show _ = _; rw [HR.out, decide_eq_false (p := n ≤ 8) (by omega)]; simp
    go_enter Tryz.func4, Tryz.ntmps4
    go_wp2
    go_ret
    exact ⟨by rw [HS.out]; rfl, hB0⟩
  have d2 : decide (n > 8) = false := decide_eq_false (by omega)
  by_cases h3 : (ps.length : Int) > 14
  · have HS : Hid (R = false) := by show _ = _; rw [HR.out, decide_eq_false (p := ps.length ≤ 14) (by omega)]; simp
    go_enter Tryz.func4, Tryz.ntmps4
    go_wp2
    go_ret
    exact ⟨by rw [HS.out]; rfl, hB0⟩
  have d3 : decide ((ps.length : Int) > 14) = false := decide_eq_false (by omega)
  by_cases h4 : (ls.length : Int) > 8
  · have HS : Hid (R = false) := by show _ = _; rw [HR.out, decide_eq_false (p := ls.length ≤ 8) (by omega)]; simp
    go_enter Tryz.func4, Tryz.ntmps4
    go_wp2
    go_ret
    exact ⟨by rw [HS.out]; rfl, hB0⟩
  have d4 : decide ((ls.length : Int) > 8) = false := decide_eq_false (by omega)
  by_cases h5 : (ss.length : Int) > 8
  · have HS : Hid (R = false) := by show _ = _; rw [HR.out, decide_eq_false (p := ss.length ≤ 8) (by omega)]; simp
    go_enter Tryz.func4, Tryz.ntmps4
    go_wp2
    go_ret
    exact ⟨by rw [HS.out]; rfl, hB0⟩
  have d5 : decide ((ss.length : Int) > 8) = false := decide_eq_false (by omega)
  go_enter Tryz.func4, Tryz.ntmps4
  go_wp2
  generalize hw0 : w.alloc (.cells #[.int .i64 t, .int .i64 n, .int .i64 s, .slice pa ps.length pc, .slice la ls.length lc, .slice sa ss.length sc] 25) = w0 at *
  have HW0 : Hid (w.alloc (.cells #[.int .i64 t, .int .i64 n, .int .i64 s, .slice pa ps.length pc, .slice la ls.length lc, .slice sa ss.length sc] 25) = w0) := hw0
  clear hw0
  have HBX : Hid (BoxG w0 w.heap.size ⟨t, n, s, ps, ls, ss⟩ (.slice pa ps.length pc) (.slice la ls.length lc) (.slice sa ss.length sc)) := hB2
  clear hB2
  have HE : Hid ((decide (t ≤ 8) && decide (n ≤ 8) && decide (ps.length ≤ 14) && decide (ls.length ≤ 8) && decide (ss.length ≤ 8)) = true) := by
    show _ = _; simp; omega
  clear h1 h2 h4 h5 d1 d2 d3 d4 d5
  go_loopw [3] (fun i wr => ∃ k : Nat, k ≤ ps.length ∧ i = .int .i64 k ∧ Hid (ps.all (fun p => decide (p.right.length ≤ 5)) = (ps.drop k).all (fun p => decide (p.right.length ≤ 5))) ∧ Below (w.heap.size + 1) w0 wr) (fun i _ => ps.length - (intOf i).toNat)
  case atStart => exact ⟨0, Nat.zero_le _, rfl, (by show _ = _; rw [List.drop_zero]), Below.refl _ _⟩
  case round =>
    obtain ⟨k, hk, rfl, HM, hbw⟩ := hrel
    have hbx := hB0.trans (hbw.mono (Nat.le_succ _))
    obtain ⟨q0, q1, q2, q3, q4, q5, q6⟩ := HBX.out.below (Nat.lt_succ_self _) hbw
    simp only at *
    by_cases hlt : k < ps.length
    · obtain ⟨b, off, rv, rfl, hb, hpd⟩ := (HP.out.below hbx).at hlt
      have HA : Hid _ := all_dropG ps noPd (fun p => decide (p.right.length ≤ 5)) k hlt
      generalize ps.getD k noPd = p at *
      obtain ⟨c0, c1, c2, hr⟩ := hpd
      obtain ⟨ra, rc, rfl⟩ := hr.slice
      clear hr
      by_cases g1 : (p.right.length : Int) > 5
      · have HS : Hid (ps.all (fun p => decide (p.right.length ≤ 5)) = false) := by
          show _ = _; rw [HM.out, HA.out]; simp; omega
        go_wp2
        go_ret
        exact ⟨by rw [HR.out, HS.out, Bool.and_false]; rfl, hbx⟩
      · have HS : Hid (ps.all (fun p => decide (p.right.length ≤ 5)) = (ps.drop (k + 1)).all (fun p => decide (p.right.length ≤ 5))) := by
          show _ = _; rw [HM.out, HA.out, decide_eq_true (by omega), Bool.true_and]
        go_wp2
        go_roundw
        case rel => exact ⟨k + 1, by omega, by go_num, HS, hbw⟩
        case measure => simp [intOf]; omega
    · have HS : Hid (ps.all (fun p => decide (p.right.length ≤ 5)) = true) := by
        show _ = _; rw [HM.out, List.drop_eq_nil_of_le (by omega)]; rfl
      go_wp2
      go_ret
      exact ⟨by rw [HR.out, HS.out, HE.out]; rfl, hbx⟩

set_option maxHeartbeats 2000000 in
theorem same_any (va vb : Value) (la lb : List Int) (w : World) (hz : la.length ≤ 1000000) (ha : IntsR w va la) (hb : IntsR w vb lb) :
    Calls Tryz.prog 32 #[va, vb] w fun e w' => e = .returned (.bool (decide (la = lb))) ∧ Below w.heap.size w w' := by
  obtain ⟨aa, ac, rfl⟩ := ha.slice
  obtain ⟨ba, bc, rfl⟩ := hb.slice
  by_cases h1 : la.length = lb.length
  · have HA : Hid (IntsR w (.slice aa la.length ac) la) := ha
    have HB : Hid (IntsR w (.slice ba lb.length bc) lb) := hb
    clear ha hb
    have HL : Hid (lb.length = la.length) := h1.symm
    rw [← h1] at HB ⊢
    clear h1
    generalize hn : la.length = n at *
    have HN : Hid (la.length = n) := hn
    clear hn
    go_enter Tryz.func32, Tryz.ntmps32
    go_wp2
    go_loopw [5] (fun i wr => ∃ k : Nat, k ≤ n ∧ i = .int .i64 k ∧ Hid ((la = lb) ↔ (la.drop k = lb.drop k)) ∧ Below w.heap.size w wr) (fun i _ => n - (intOf i).toNat)
    case atStart => exact ⟨0, Nat.zero_le _, rfl, (by show _ ↔ _; simp), Below.refl _ _⟩
    case round =>
      obtain ⟨k, hk, rfl, HM, hbw⟩ := hrel
      by_cases hlt : k < n
      · have hka : k < la.length := by rw [HN.out]; exact hlt
        have hkb : k < lb.length := by rw [HL.out]; exact hlt
        obtain ⟨b, off, rfl, hb, hc⟩ := (HA.out.below hbw).at hka
        obtain ⟨b', off', rfl, hb', hc'⟩ := (HB.out.below hbw).at hkb
        have HS : Hid ((la = lb) ↔ (la.getD k 0 = lb.getD k 0 ∧ la.drop (k + 1) = lb.drop (k + 1))) := by
          show _ ↔ _
          rw [HM.out, List.drop_eq_getElem_cons hka, List.drop_eq_getElem_cons hkb, List.cons.injEq]
          simp [List.getD, hka, hkb]
        clear HM hka hkb
        generalize la.getD k 0 = x at *
        generalize lb.getD k 0 = y at *
        by_cases g1 : x = y
        · subst g1
          have HS2 : Hid ((la = lb) ↔ la.drop (k + 1) = lb.drop (k + 1)) := by show _ ↔ _; rw [HS.out]; simp
          clear HS
          go_wp2_with fail
          go_quiet (fail)
          go_wp2
          go_roundw
          case rel => exact ⟨k + 1, by omega, by go_num, HS2, below_drewG hbw _⟩
          case measure => simp [intOf]; omega
        · have HS2 : Hid (decide (la = lb) = false) := by show _ = _; rw [decide_eq_false_iff_not, HS.out]; simp [g1]
          clear HS
          have g2 : (x == y) = false := by rw [beq_eq_false_iff_ne]; exact g1
          go_wp2_with fail
          go_quiet (fail)
          go_wp2
          go_ret
          exact ⟨by rw [HS2.out]; rfl, below_drewG hbw _⟩
      · have HS : Hid (decide (la = lb) = true) := by
          show _ = _; rw [decide_eq_true_iff, HM.out, List.drop_eq_nil_of_le (by rw [HN.out]; omega), List.drop_eq_nil_of_le (by rw [HL.out]; omega)]
        go_wp2
        go_ret
        exact ⟨by rw [HS.out]; rfl, hbw⟩
  · have HS : Hid (decide (la = lb) = false) := by show _ = _; rw [decide_eq_false_iff_not]; rintro rfl; exact h1 rfl
    have h1' : ¬ (la.length : Int) = (lb.length : Int) := by omega
    clear ha hb
    go_enter Tryz.func32, Tryz.ntmps32
    go_wp2
    go_ret
    exact ⟨by rw [HS.out]; rfl, Below.refl _ _⟩

end Go.Proofs.YtkdoghaoijdedaaGreatDoor

namespace Go.Proofs.YtkdoghaoijdedaaGreatDoor
open Go.RowKit
set_option linter.unusedVariables false
set_option maxRecDepth 100000

set_option maxHeartbeats 4000000 in
theorem sameBools_any (n A B : Nat) (L : List Bool) (w : World) (hn : n ≤ 1000000) (hl : L.length = n) (ha : RowB w A L) (hb : RowB w B L) :
    Calls Tryz.prog 13 #[.slice (some ⟨A, 0, none⟩) n n, .slice (some ⟨B, 0, none⟩) n n] w fun e w' => e = .returned (.bool true) ∧ Below w.heap.size w w' := by
  have HA : Hid (RowB w A L) := ha
  have HB : Hid (RowB w B L) := hb
  have HL : Hid (L.length = n) := hl
  clear ha hb hl
  go_enter Tryz.func13, Tryz.ntmps13
  go_wp2
  go_loopw [5] (fun iv wr => ∃ (k : Nat), k ≤ n ∧ iv = .int .i64 k ∧ Below w.heap.size w wr) (fun iv _ => n - (intOf iv).toNat)
  case atStart => exact ⟨0, Nat.zero_le _, rfl, Below.refl _ _⟩
  case round =>
    obtain ⟨k, hk, rfl, hbw⟩ := hrel
    by_cases hlt : k < n
    · have ca := (HA.out.below hbw).cell (j := k) (by rw [HL.out]; exact hlt)
      have cb := (HB.out.below hbw).cell (j := k) (by rw [HL.out]; exact hlt)
      have la := (HA.out.below hbw).lt
      have lb := (HB.out.below hbw).lt
      generalize factB L k = x at *
      cases x
      all_goals
        go_wp2_with fail
        go_quiet (fail)
        go_wp2
        go_roundw
        case rel => exact ⟨k + 1, by omega, by go_num, below_drewG hbw _⟩
        case measure => simp [intOf]; omega
    · go_wp2
      go_ret
      exact ⟨rfl, hbw⟩

set_option maxHeartbeats 4000000 in
theorem sameLists_any (va vb : Value) (l : List (List Int)) (w : World) (hn : l.length ≤ 1000000) (hz : ∀ z ∈ l, z.length ≤ 1000000) (ha : LssM w va l) (hb : LssM w vb l) :
    Calls Tryz.prog 18 #[va, vb] w fun e w' => e = .returned (.bool true) ∧ Below w.heap.size w w' := by
  obtain ⟨aa, ac, rfl, _⟩ := id ha
  obtain ⟨ba, bc, rfl, _⟩ := id hb
  have HA : Hid (LssM w (.slice aa l.length ac) l) := ha
  have HB : Hid (LssM w (.slice ba l.length bc) l) := hb
  have HZ : Hid (∀ z ∈ l, z.length ≤ 1000000) := hz
  clear ha hb hz
  go_enter Tryz.func18, Tryz.ntmps18
  go_wp2
  go_loopw [5] (fun iv wr => ∃ (k : Nat), k ≤ l.length ∧ iv = .int .i64 k ∧ Below w.heap.size w wr) (fun iv _ => l.length - (intOf iv).toNat)
  case atStart => exact ⟨0, Nat.zero_le _, rfl, Below.refl _ _⟩
  case round =>
    obtain ⟨k, hk, rfl, hbw⟩ := hrel
    by_cases hlt : k < l.length
    · obtain ⟨b1, o1, v1, h1, h2, h3, h4⟩ := HA.out.at hlt
      obtain ⟨b2, o2, v2, g1, g2, g3, g4⟩ := HB.out.at hlt
      subst h1 g1
      have hm : l.getD k [] ∈ l := by simp [List.getD, hlt]
      have HC : Hid (∀ d, Calls Tryz.prog 32 #[v1, v2] (wr.drewN d) fun e w' => e = .returned (.bool true) ∧ Below wr.heap.size wr w') := fun d => by
        have hbd := below_drewG hbw d
        have hC := same_any v1 v2 (l.getD k []) (l.getD k []) (wr.drewN d) (HZ.out _ hm) (h4.below hbd) (g4.below hbd)
        rw [decide_eq_true rfl] at hC
        exact hC.mono fun e w' ⟨h1, h2⟩ => ⟨h1, h2.os, h2.tape, h2.output, h2.size, h2.block⟩
      have c1 := (hbw.cell (p := ⟨b1, o1 + k, none⟩) h2).trans h3
      have c2 := (hbw.cell (p := ⟨b2, o2 + k, none⟩) g2).trans g3
      have l1 := Nat.lt_of_lt_of_le h2 hbw.size
      have l2 := Nat.lt_of_lt_of_le g2 hbw.size
      obtain ⟨a1, k1, hv1⟩ := h4.slice
      obtain ⟨a2, k2, hv2⟩ := g4.slice
      subst hv1 hv2
      generalize l.getD k [] = zz at *
      clear h2 h3 h4 g2 g3 g4 hm
      go_wp2_with fail
      go_region_with (go_at_call 32; refine (HC.out _).mono ?_; rintro e w5 ⟨rfl, hb5⟩)
      all_goals
        have hb6 := hbw.trans (hb5.mono hbw.size)
        clear HC c1 c2 l1 l2 hb5
        try go_simp
        try go_wp2
        go_roundw
        case rel => exact ⟨k + 1, by omega, by go_num, hb6⟩
        case measure => simp [intOf]; omega
    · go_wp2
      go_ret
      exact ⟨rfl, hbw⟩

end Go.Proofs.YtkdoghaoijdedaaGreatDoor

namespace Go.Proofs.YtkdoghaoijdedaaGreatDoor
set_option linter.unusedVariables false

theorem filter_range {P : Nat → Bool} {M : Nat} (hM : M ≤ 9) (h : ∀ i, P i = true → i < M) : (List.range 9).filter P = (List.range M).filter P := by
  have e : List.range 9 = List.range M ++ (List.range (9 - M)).map (M + ·) := by
    rw [← List.range_add]
    congr 1
    omega
  rw [e, List.filter_append]
  have : ((List.range (9 - M)).map (M + ·)).filter P = [] := by
    rw [List.filter_eq_nil_iff]
    intro x hx hp
    obtain ⟨y, _, rfl⟩ := List.mem_map.1 hx
    have := h _ hp
    omega
  rw [this, List.append_nil]
theorem bits_num {a M : Nat} {L : List Bool} (hM : M ≤ 9) (hl : L.length = M) (h : ∀ t, a.testBit t = true ↔ factB L t = true) : bitsZ a = numR M L := by
  unfold bitsZ bitsN numR
  have hP : a.testBit = factB L := funext fun t => by rw [Bool.eq_iff_iff]; exact h t
  rw [hP, filter_range hM fun i hi => by rw [← hl]; exact factB_lt hi]
theorem bits_nums {N M : Nat} {L : List Nat} {LL : Nat → List Bool} {P : Nat → Nat → Prop} (hM : M ≤ 9) (h1 : ∀ n, n < N → ∀ i, ((factM L n).testBit i = true ↔ P n i)) (h2 : ∀ n, n < N → (LL n).length = M) (h3 : ∀ x t, x < N → (factB (LL x) t = true ↔ P x t)) : ((List.range N).map fun n => bitsZ (factM L n)) = numL N M LL := by
  unfold numL
  refine List.map_congr_left fun n hn => ?_
  have hn' := List.mem_range.1 hn
  exact bits_num hM (h2 n hn') fun t => (h1 n hn' t).trans (h3 n t hn').symm
theorem bools_same {n : Nat} {A B : List Bool} (ha : A.length = n) (hb : B.length = n) (h : ∀ i, i < n → (factB A i = true ↔ factB B i = true)) : A = B := by
  refine List.ext_getElem (by omega) fun i h1 h2 => ?_
  have := h i (by omega)
  unfold factB at this
  rw [← Bool.eq_iff_iff] at this
  simpa [List.getD, h1, h2] using this

end Go.Proofs.YtkdoghaoijdedaaGreatDoor
