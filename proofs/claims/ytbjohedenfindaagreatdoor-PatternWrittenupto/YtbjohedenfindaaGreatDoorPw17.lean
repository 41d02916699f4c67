/- Texts of the proof, put together: RTmsB, RPar. -/
import Derived.Test.YtbjohedenfindaaGreatDoorPw16
namespace Go.Proofs.YtbjohedenfindaaGreatDoor
open Go.RowKit
set_option linter.unusedVariables false
set_option maxRecDepth 100000

theorem countS_posR {s : ByteArray} {i j : Nat} {z : Int} (h : countS s i = some (z, j)) : 0 ≤ z := by
  unfold countS at h
  split at h
  · simp at h
  · simp only [Option.some.injEq, Prod.mk.injEq] at h
    rw [← h.1]
    have key : ∀ k, k ≤ digRun s s.size i → 0 ≤ digVal s i k := by
      intro k
      induction k with
      | zero => intro _; simp [digVal]
      | succ k ih =>
        intro hk
        have h1 := ih (by omega)
        have h2 := digRun_all s s.size i k (by omega)
        simp [isDig] at h2
        rw [digVal]
        omega
    exact key _ (Nat.le_refl _)

set_option maxHeartbeats 4000000 in
theorem rtimes_any {W0 w : World} (L : LibR W0) {R Q i o : Nat} {s : ByteArray} {sv kv : Value} {mn0 mx0 : Int} (hne : Q ≠ R) (hQ : 16 ≤ Q) (h : XR W0 w R s i o) (hq : QAt w Q sv kv mn0 mx0) :
    Calls Tryz.prog 128 #[.pointer (some ⟨R, 0, none⟩), .pointer (some ⟨Q, 0, none⟩)] w fun e w' => e = .returned (.tuple #[]) ∧ TmQ W0 w R Q s i o sv kv w' := by
  obtain ⟨i1, hi1, _, c1, _⟩ := h.at_
  have HT0 : Hid (TmI W0 w w R Q s o i sv kv mn0 mx0) := ⟨h, hq, .of (grown_self _ _)⟩
  have HC := count_x L h
  have HCC : Hid (Calls Tryz.prog 141 #[.pointer (some ⟨R, 0, none⟩)] w fun e w1 => ∃ (z : Int), e = .returned (.int .i64 z) ∧ -1000 ≤ z ∧ z ≤ 1000 ∧ w1.cell? ⟨Q, 2, none⟩ = some (.int .i64 mn0) ∧ w1.frozen? ⟨Q, 2, none⟩ = false ∧ w1.cell? ⟨Q, 3, none⟩ = some (.int .i64 mx0) ∧ w1.frozen? ⟨Q, 3, none⟩ = false ∧ (∃ j, TmI W0 w ((w1.setCell ⟨Q, 2, none⟩ (.int .i64 z)).setCell ⟨Q, 3, none⟩ (.int .i64 z)) R Q s o j sv kv z z ∧ (BR W0 ((w1.setCell ⟨Q, 2, none⟩ (.int .i64 z)).setCell ⟨Q, 3, none⟩ (.int .i64 z)) R s ∨ countS s i = some (z, j)) ∧ (SR W0 w R s i o → BR W0 ((w1.setCell ⟨Q, 2, none⟩ (.int .i64 z)).setCell ⟨Q, 3, none⟩ (.int .i64 z)) R s → BadR s (countS s i)))) := by
    refine HC.mono ?_
    rintro e w1 ⟨z, j, rfl, z0, z1, hg, hx, hh, hbd⟩
    have hT1 := HT0.out.grown hne hg hx
    refine ⟨z, rfl, z0, z1, hT1.q.cells.1, hT1.q.cells.2.2.1, hT1.q.cells.2.1, hT1.q.cells.2.2.2.1, j, (hT1.set2 hne hQ z).set3 hne hQ z, br_setQ (br_setQ (hh.elim .inl fun h => .inr h.2) hne hQ) hne hQ, fun hS hB => hbd hS (br_unsetQ (br_unsetQ hB hne hQ) hne hQ)⟩
  clear HC h hq
  go_enter Tryz.func128, Tryz.ntmps128
  go_wp2_with fail
  refine HCC.out.mono ?_
  rintro e w1 ⟨z, rfl, z0, z1, q1, q2, q3, q4, hj⟩
  have HJ : Hid (∃ j, TmI W0 w ((w1.setCell ⟨Q, 2, none⟩ (.int .i64 z)).setCell ⟨Q, 3, none⟩ (.int .i64 z)) R Q s o j sv kv z z ∧ (BR W0 ((w1.setCell ⟨Q, 2, none⟩ (.int .i64 z)).setCell ⟨Q, 3, none⟩ (.int .i64 z)) R s ∨ countS s i = some (z, j)) ∧ (SR W0 w R s i o → BR W0 ((w1.setCell ⟨Q, 2, none⟩ (.int .i64 z)).setCell ⟨Q, 3, none⟩ (.int .i64 z)) R s → BadR s (countS s i))) := hj
  clear hj HCC HT0
  go_wp2_with fail
  go_at_call 45
  obtain ⟨j, hT3, hh3, hbd3⟩ := HJ.out
  generalize (w1.setCell ⟨Q, 2, none⟩ (.int .i64 z)).setCell ⟨Q, 3, none⟩ (.int .i64 z) = w3 at *
  refine (eat_x L hT3.x 44 (by omega) (by omega)).mono ?_
  have HT3 : Hid (TmI W0 w w3 R Q s o j sv kv z z) := hT3
  have HH3 : Hid (BR W0 w3 R s ∨ countS s i = some (z, j)) := hh3
  have HBD3 : Hid (SR W0 w R s i o → BR W0 w3 R s → BadR s (countS s i)) := hbd3
  clear hT3 hh3 HJ q1 q2 q3 q4 hbd3
  rintro e w4 ⟨b, rfl, hg4, ⟨rfl, e1, e2, e3, e4⟩ | ⟨rfl, e1, e2, e2n⟩⟩
  · have hT4 := HT3.out.grown hne hg4 (.inl ⟨e3, e4⟩ : XR W0 w4 R s (j + 1) o)
    have HT4 : Hid (TmI W0 w w4 R Q s o (j + 1) sv kv z z) := hT4
    have c4 := e3.cell1.1
    have HH4 : Hid (BR W0 w4 R s ∨ (countS s i = some (z, j) ∧ cpAt s j = 44)) := by
      rcases HH3.out with hB | h1
      · exact absurd hB fun hb => e1.not_br hb
      · exact .inr ⟨h1, e2⟩
    have HC4 : Hid (countS s i = some (z, j) ∧ cpAt s j = 44) := HH4.out.elim (fun hB => (sr_not_br e3 hB).elim) id
    have HS4 : Hid (SR W0 w4 R s (j + 1) o) := e3
    clear hT4 e1 e2 e3 hg4 HT3 HH3 HBD3
    go_wp2_with fail
    go_at_call 74
    refine (now_x L HT4.out.x).mono ?_
    rintro e w5 ⟨c, rfl, hc0, hc1, hg5, hx5, hh5, hh5n⟩
    by_cases hc : c = 125
    · subst hc
      have hh6 : BR W0 w5 R s ∨ ((countS s i = some (z, j) ∧ cpAt s j = 44) ∧ cpAt s (j + 1) = 125) := hist_step HH4.out (hh5.elim (fun h => .inl h.1) fun h => .inr ⟨h.1, h.2.1.symm⟩)
      have hT5 := HT4.out.grown hne hg5 hx5
      have f1 := hT5.q.cells.2.1
      have f2 := hT5.q.cells.2.2.2.1
      have HR : Hid (TmT W0 w (w5.setCell ⟨Q, 3, none⟩ (.int .i64 (-1))) R Q s i o sv kv z (-1)) := (hT5.set3 hne hQ (-1)).rest L hne (fun hn => br_setQ (hh6.elim .inl fun h => .inr fun h5 => by
        unfold timesS
        rw [h.1.1]
        simp only
        rw [if_pos h.1.2, if_pos h.2]) hne hQ) (fun _ hB => (hh5.elim (fun h => by omega) fun h => (sr_not_br h.2.2 (br_unsetQ hB hne hQ)).elim)) (fun _ _ => ⟨fun hq => by omega, fun _ h5 => (hh5.elim (fun h => by omega) fun h => (h5 h.2.1.symm).elim)⟩)
      have HO2 := HR.out.ok (by omega)
      have HO3 : Hid (∀ n, Calls Tryz.prog 142 #[.pointer (some ⟨R, 0, none⟩), .int .i64 125] ((w5.setCell ⟨Q, 3, none⟩ (.int .i64 (-1))).drewN n) fun e w' => e = .returned (.tuple #[]) ∧ TmQ W0 w R Q s i o sv kv w') := HO2
      clear HO2 HR hT5 hh6 hh5 hh5n hx5 hg5 HT4 HH4 HC4 HS4
      go_wp2
      go_quiet (fail)
      go_wp2_with fail
      go_at_call 142
      refine (HO3.out _).mono ?_
      rintro e w9 ⟨rfl, h9⟩
      go_wp2
      go_end0
      exact ⟨rfl, h9⟩
    · have hcq : (c == 125) = false := by rw [beq_eq_false_iff_ne]; exact hc
      have hh6 : BR W0 w5 R s ∨ ((countS s i = some (z, j) ∧ cpAt s j = 44) ∧ cpAt s (j + 1) ≠ 125) := hist_step HH4.out (hh5.elim (fun h => .inl h.1) fun h => .inr ⟨h.1, fun e => hc (by rw [h.2.1]; exact e)⟩)
      have HH6 : Hid (BR W0 w5 R s ∨ ((countS s i = some (z, j) ∧ cpAt s j = 44) ∧ cpAt s (j + 1) ≠ 125)) := hh6
      have HT5 : Hid (TmI W0 w w5 R Q s o (j + 1) sv kv z z) := HT4.out.grown hne hg5 hx5
      have HQ5 : Hid (cpAt s (j + 1) ≠ 125) := by
        rcases hh5 with ⟨hB, _⟩ | ⟨_, h, _⟩
        · have := hh5n HS4.out hB
          show _ ≠ _
          omega
        · show _ ≠ _
          rw [← h]; exact hc
      have HN5 : Hid (BR W0 w5 R s → countS s (j + 1) = none) := fun hB => count_none (hh5n HS4.out hB)
      clear hh6 hh5 hh5n hx5 hg5 HT4 HH4 hc HS4
      go_wp2_with fail
      go_at_call 141
      refine (count_x L HT5.out.x).mono ?_
      rintro e w6 ⟨z2, k2, rfl, y0, y1, hg6, hx6, hh6, hh6n⟩
      have hT6 := HT5.out.grown hne hg6 hx6
      have f1 := hT6.q.cells.2.1
      have f2 := hT6.q.cells.2.2.2.1
      have hh7 := hist_step HH6.out hh6
      have HR : Hid (TmT W0 w (w6.setCell ⟨Q, 3, none⟩ (.int .i64 z2)) R Q s i o sv kv z z2) := (hT6.set3 hne hQ z2).rest L hne (fun hn => br_setQ (hh7.elim .inl fun h => .inr fun h5 => by
        have := countS_posR h.2
        unfold timesS
        rw [h.1.1.1]
        simp only
        rw [if_pos h.1.1.2, if_neg h.1.2, h.2]
        simp only
        rw [if_neg (by omega)]) hne hQ) (fun _ hB => by
          refine times_none2 HC4.out.1 HC4.out.2 HQ5.out ?_
          rcases HT5.out.x with ⟨hS5, _⟩ | hB5
          · exact hh6n hS5 (br_unsetQ hB hne hQ)
          · exact .inl (HN5.out hB5)) (fun _ hS6 => by
          rcases hh6 with hB6 | ⟨_, hc6⟩
          · exact (sr_not_br (sr_unsetQ hS6 hne hQ) hB6).elim
          · exact ⟨fun hq => times_none3 HC4.out.1 HC4.out.2 HQ5.out hc6 (by omega), fun hq h5 => times_none3 HC4.out.1 HC4.out.2 HQ5.out hc6 (.inr (.inr h5))⟩)
      obtain ⟨te, pe, cs, hF⟩ := HR.out.syn
      have g2 := HR.out.c2
      have g3 := HR.out.c3
      have HF0 : Hid ((0 ≤ z2 ∧ (z2 < z ∨ z2 = 0)) → TmF W0 w R Q s i o sv kv te pe (w6.setCell ⟨Q, 3, none⟩ (.int .i64 z2))) := hF
      have HO : Hid (_ → _) := HR.out.ok
      clear hF HR hT6 hh7 hh6 hh6n hx6 hg6 HT5 HH6 HC4 HQ5 HN5
      have hzc : (decide (z2 ≥ 0) = false ∧ z2 < 0) ∨ (decide (z2 ≥ 0) = true ∧ decide (z2 < z) = true ∧ 0 ≤ z2) ∨ (z2 = 0 ∧ decide ((0 : Int) < z) = false) ∨ (decide (z2 ≥ 0) = true ∧ decide (z2 < z) = false ∧ (z2 == 0) = false ∧ ¬ (0 ≤ z2 ∧ (z2 < z ∨ z2 = 0))) := by
        by_cases a0 : z2 < 0
        · exact .inl ⟨by simp; omega, a0⟩
        · by_cases a1 : z2 < z
          · exact .inr (.inl ⟨by simp; omega, by simp; omega, by omega⟩)
          · by_cases a2 : z2 = 0
            · exact .inr (.inr (.inl ⟨a2, by simp; omega⟩))
            · exact .inr (.inr (.inr ⟨by simp; omega, by simp; omega, by rw [beq_eq_false_iff_ne]; exact a2, by omega⟩))
      have h200 : -1000 ≤ z2 ∧ z2 ≤ 1000 := ⟨y0, y1⟩
      rcases hzc with ⟨g1, g4⟩ | ⟨g1, g4, g5⟩ | ⟨rfl, g4⟩ | ⟨g1, g4, g5, g6⟩
      · have HO2 := HO.out (by omega)
        have HO3 : Hid (∀ n, Calls Tryz.prog 142 #[.pointer (some ⟨R, 0, none⟩), .int .i64 125] ((w6.setCell ⟨Q, 3, none⟩ (.int .i64 z2)).drewN n) fun e w' => e = .returned (.tuple #[]) ∧ TmQ W0 w R Q s i o sv kv w') := HO2
        clear HO HO2 HF0
        go_wp2
        go_quiet (fail)
        go_wp2_with fail
        go_at_call 142
        refine (HO3.out _).mono ?_
        rintro e w9 ⟨rfl, h9⟩
        go_wp2
        go_end0
        exact ⟨rfl, h9⟩
      · have HF : Hid (TmF W0 w R Q s i o sv kv te pe (w6.setCell ⟨Q, 3, none⟩ (.int .i64 z2))) := HF0.out ⟨g5, .inl (of_decide_eq_true g4)⟩
        clear HO HF0
        go_wp2
        go_quiet (fail)
        have d9 : ((w6.setCell ⟨Q, 3, none⟩ (.int .i64 z2)).drewN nq).cell? ⟨0, 0, none⟩ = some (.iface te pe) := cs
        go_wp2_with fail
        go_at_call 22
        refine (HF.out _ _).mono ?_
        rintro e w8 ⟨rfl, h8⟩
        go_wp2_with fail
        go_at_call 142
        refine h8.out.mono ?_
        rintro e w9 ⟨rfl, h9⟩
        go_wp2
        go_end0
        exact ⟨rfl, h9⟩
      · have HF : Hid (TmF W0 w R Q s i o sv kv te pe (w6.setCell ⟨Q, 3, none⟩ (.int .i64 0))) := HF0.out ⟨by omega, .inr rfl⟩
        clear HO HF0
        go_wp2
        go_quiet (fail)
        have d9 : ((w6.setCell ⟨Q, 3, none⟩ (.int .i64 0)).drewN nq).cell? ⟨0, 0, none⟩ = some (.iface te pe) := cs
        go_wp2_with fail
        go_at_call 22
        refine (HF.out _ _).mono ?_
        rintro e w8 ⟨rfl, h8⟩
        go_wp2_with fail
        go_at_call 142
        refine h8.out.mono ?_
        rintro e w9 ⟨rfl, h9⟩
        go_wp2
        go_end0
        exact ⟨rfl, h9⟩
      · have HO2 := HO.out g6
        have HO3 : Hid (∀ n, Calls Tryz.prog 142 #[.pointer (some ⟨R, 0, none⟩), .int .i64 125] ((w6.setCell ⟨Q, 3, none⟩ (.int .i64 z2)).drewN n) fun e w' => e = .returned (.tuple #[]) ∧ TmQ W0 w R Q s i o sv kv w') := HO2
        clear HO HO2 HF0
        go_wp2
        go_quiet (fail)
        go_wp2_with fail
        go_at_call 142
        refine (HO3.out _).mono ?_
        rintro e w9 ⟨rfl, h9⟩
        go_wp2
        go_end0
        exact ⟨rfl, h9⟩
  · have HR : Hid (TmT W0 w w4 R Q s i o sv kv z z) := (HT3.out.grown hne hg4 e1).rest L hne (fun hn => by
      rcases hist_step HH3.out e2 with hB | ⟨h1, h2⟩
      · exact .inl hB
      · refine .inr fun h5 => ?_
        have := countS_posR h1
        unfold timesS
        rw [h1]
        simp only
        rw [if_neg h2, if_neg (by omega)]) (fun hS0 hB4 => by
          rcases HT3.out.x with ⟨hS3, _⟩ | hB3
          · rcases HH3.out with hB | hc
            · exact (sr_not_br hS3 hB).elim
            · exact times_none1 (.inr ⟨z, j, hc, e2n hS3 hB4⟩)
          · exact times_none1 (HBD3.out hS0 hB3)) (fun hS0 hS4 => by
          rcases hist_step HH3.out e2 with hB | ⟨h1, h2⟩
          · exact (sr_not_br hS4 hB).elim
          · exact ⟨fun hq => times_none4 h1 h2 (.inr (by omega)), fun hq h5 => times_none4 h1 h2 (.inl h5)⟩)
    obtain ⟨te, pe, cs, hF⟩ := HR.out.syn
    have k2 := HR.out.c2
    have k3 := HR.out.c3
    have HF0 : Hid ((0 ≤ z ∧ (z < z ∨ z = 0)) → TmF W0 w R Q s i o sv kv te pe w4) := hF
    have HO : Hid (_ → _) := HR.out.ok
    clear e1 e2 e2n hg4 hF HT3 HH3 HBD3
    have hzc : (decide (z ≥ 0) = false ∧ z < 0) ∨ z = 0 ∨ (decide (z ≥ 0) = true ∧ decide (z < z) = false ∧ (z == 0) = false ∧ 0 < z) := by
      rcases (show z < 0 ∨ z = 0 ∨ 0 < z by omega) with h | h | h
      · exact .inl ⟨by simp; omega, h⟩
      · exact .inr (.inl h)
      · exact .inr (.inr ⟨by simp; omega, by simp, by rw [beq_eq_false_iff_ne]; omega, h⟩)
    rcases hzc with ⟨g1, g2⟩ | rfl | ⟨g1, g2, g3, g4⟩
    · have HO2 := HO.out (by omega)
      have HO3 : Hid (∀ n, Calls Tryz.prog 142 #[.pointer (some ⟨R, 0, none⟩), .int .i64 125] (w4.drewN n) fun e w' => e = .returned (.tuple #[]) ∧ TmQ W0 w R Q s i o sv kv w') := HO2
      clear HO HO2 HF0 HR
      go_wp2
      go_quiet (fail)
      go_wp2_with fail
      go_at_call 142
      refine (HO3.out _).mono ?_
      rintro e w5 ⟨rfl, h5⟩
      go_wp2
      go_end0
      exact ⟨rfl, h5⟩
    · have HF : Hid (TmF W0 w R Q s i o sv kv te pe w4) := HF0.out ⟨by omega, .inr rfl⟩
      clear HO HR HF0
      go_wp2
      go_quiet (fail)
      have d9 : (w4.drewN nq).cell? ⟨0, 0, none⟩ = some (.iface te pe) := cs
      go_wp2_with fail
      go_at_call 22
      refine (HF.out _ _).mono ?_
      rintro e w8 ⟨rfl, h8⟩
      go_wp2_with fail
      go_at_call 142
      refine h8.out.mono ?_
      rintro e w9 ⟨rfl, h9⟩
      go_wp2
      go_end0
      exact ⟨rfl, h9⟩
    · have HO2 := HO.out (by omega)
      have HO3 : Hid (∀ n, Calls Tryz.prog 142 #[.pointer (some ⟨R, 0, none⟩), .int .i64 125] (w4.drewN n) fun e w' => e = .returned (.tuple #[]) ∧ TmQ W0 w R Q s i o sv kv w') := HO2
      clear HO HO2 HF0 HR
      go_wp2
      go_quiet (fail)
      go_wp2_with fail
      go_at_call 142
      refine (HO3.out _).mono ?_
      rintro e w9 ⟨rfl, h9⟩
      go_wp2
      go_end0
      exact ⟨rfl, h9⟩

end Go.Proofs.YtbjohedenfindaaGreatDoor

namespace Go.Proofs.YtbjohedenfindaaGreatDoor
open Go.RowKit
set_option linter.unusedVariables false
set_option maxRecDepth 100000

/-- the trees that the reader makes lie behind it -/
abbrev RT' (B : Nat) (w : World) (v : Value) (t : Re) : Prop := Tree (fun b => B ≤ b) w v t
/-- what a function of the reader gives: a tree, or something is wrong -/
def GotT (W0 w : World) (R : Nat) (s : ByteArray) (i o : Nat) (r : Option (Re × Nat)) (e : Ending) (w' : World) : Prop :=
  ∃ (p : Option Addr) (j : Nat), e = .returned (.pointer p) ∧ w.grownBy w' (some R) ∧ XR W0 w' R s j o ∧ (BR W0 w' R s ∨ (SR W0 w R s i o ∧ ∃ t, r = some (t, j) ∧ RT' w.heap.size w' (.pointer p) t)) ∧ (SR W0 w R s i o → BR W0 w' R s → r = none)
/-- .. a part: a byte that belongs to no point may stand behind it -/
def GotP (W0 w : World) (R : Nat) (s : ByteArray) (i o : Nat) (r : Option (Re × Nat)) (e : Ending) (w' : World) : Prop :=
  ∃ (p : Option Addr) (j : Nat), e = .returned (.pointer p) ∧ w.grownBy w' (some R) ∧ XR W0 w' R s j o ∧ (BR W0 w' R s ∨ (SR W0 w R s i o ∧ ∃ t, r = some (t, j) ∧ RT' w.heap.size w' (.pointer p) t)) ∧ (SR W0 w R s i o → BR W0 w' R s → BadR s r)
def RUnitC (W0 : World) (R : Nat) (s : ByteArray) (o : Nat) (u : Nat → Option (Re × Nat)) : Prop := ∀ (w : World) (i : Nat), XR W0 w R s i o → Calls Tryz.prog 127 #[.pointer (some ⟨R, 0, none⟩)] w fun e w' => GotT W0 w R s i o (u i) e w'

theorem tree_grown {R B : Nat} {w w' : World} {v : Value} {t : Re} (h : RT' B w v t) (hRB : R < B) (hg : w.grownBy w' (some R)) : RT' B w' v t := Tree.grown h hg fun b hb e => by simp at e; omega
theorem rep_tree {B Q K : Nat} {w : World} {p : Value} {t : Re} {mn mx : Int} {ty : TypeId} (hq : QAt w Q (.slice none 0 0) (.slice (some ⟨K, 0, none⟩) 1 1) mn mx) (hQ : B ≤ Q) (hk : w.heap[K]? = some (.cells #[p] ty (0, 0))) (hK : B ≤ K) (hp : RT' B w p t) : RT' B w (.pointer (some ⟨Q, 0, none⟩)) (repRe mn mx t) := by
  obtain ⟨n, hn⟩ := hp
  refine ⟨n + 1, Q, _, _, rfl, hQ, hq, .inl ⟨rfl, none, 0, rfl⟩, .inr ⟨K, 0, 1, rfl, (Array.getElem?_eq_some_iff.1 hk).1, hK, fun j hj => ?_⟩⟩
  have hj0 : j = 0 := by simp [repRe] at hj; omega
  subst hj0
  exact ⟨p, by simp [World.cell?, hk], by simpa [repRe] using hn⟩

/-- how much is left to read; nothing where something is wrong -/
def mea (s : ByteArray) (R : Nat) (w : World) : Nat := match w.cell? ⟨R, 3, none⟩ with
  | some .nilIface => (match w.cell? ⟨R, 1, none⟩ with | some (.int _ z) => s.size - z.toNat + 1 | _ => 0)
  | _ => 0
theorem mea_sr {W0 w : World} {R i o : Nat} {s : ByteArray} (h : SR W0 w R s i o) : mea s R w = s.size - i + 1 := by
  unfold mea; rw [h.cell1.1, h.cell1.2]; simp
theorem mea_br {W0 w : World} {R : Nat} {s : ByteArray} (h : BR W0 w R s) : mea s R w = 0 := by
  obtain ⟨te, pe, h2⟩ := h.cell3
  unfold mea; rw [h2]
theorem mea_x {W0 w w' : World} {R i j o : Nat} {s : ByteArray} (h : SR W0 w R s i o) (hx : XR W0 w' R s j o) (hj : BR W0 w' R s ∨ i < j) : mea s R w' < mea s R w := by
  rw [mea_sr h]
  rcases hx with ⟨hx, _⟩ | hx
  · rcases hj with hj | hj
    · exact (hx.not_br hj).elim
    · rw [mea_sr hx]
      have := hx.inn
      omega
  · rw [mea_br hx]; omega

/-- the two new blocks of a repetition -/
theorem new_rep {W0 w : World} {R j o : Nat} {s : ByteArray} (p : Value) (hx : XR W0 w R s j o) : ∃ w3, (w.alloc (.cells #[p] 22)).alloc (.cells #[.int .i64 6, .slice none 0 0, .int .i64 0, .int .i64 0, .slice (some ⟨w.heap.size, 0, none⟩) 1 1] 48) = w3 ∧
    TmI W0 w3 w3 R (w.heap.size + 1) s o j (.slice none 0 0) (.slice (some ⟨w.heap.size, 0, none⟩) 1 1) 0 0 ∧ w3.heap[w.heap.size]? = some (.cells #[p] 22 (0, 0)) ∧ (∀ row, w.grownBy w3 row) := by
  have hb : Below w.heap.size w ((w.alloc (.cells #[p] 22)).alloc (.cells #[.int .i64 6, .slice none 0 0, .int .i64 0, .int .i64 0, .slice (some ⟨w.heap.size, 0, none⟩) 1 1] 48)) := ((Below.refl _ w).alloc (Nat.le_refl _) _).alloc (by simp) _
  refine ⟨_, rfl, ⟨hx.kept (grownBy_of_below hb none), ?_, .of (grown_self _ _)⟩, ?_, fun row => grownBy_of_below hb row⟩
  · have := heap_alloc_new (w.alloc (.cells #[p] 22)) (.cells #[.int .i64 6, .slice none 0 0, .int .i64 0, .int .i64 0, .slice (some ⟨w.heap.size, 0, none⟩) 1 1] 48)
    show _ = _
    simpa using this
  · rw [Below.heap_alloc _ _ _ (by simp)]
    exact heap_alloc_new w _
theorem gr2_grown {w w3 w' : World} {R Q : Nat} (h : w.grownBy w3 (some R)) (hQ : w.heap.size ≤ Q) (hg : Gr2 R Q w3 w') : w.grownBy w' (some R) :=
  ⟨hg.os.trans h.os, hg.tape.trans h.tape, hg.output.trans h.output, Nat.le_trans h.size hg.size, fun b hb hne => (hg.block b (Nat.lt_of_lt_of_le hb h.size) (by simpa using hne) (by omega)).trans (h.block b hb hne)⟩

/-- what part has read so far -/
def PaH (W0 w0 : World) (R : Nat) (s : ByteArray) (i o : Nat) (res : Option (Re × Nat)) (w : World) (p : Value) (j : Nat) : Prop := BR W0 w R s ∨ (SR W0 w0 R s i o ∧ ∃ t f, res = partS s f t j ∧ s.size + 1 ≤ f + j ∧ RT' w0.heap.size w p t)

/-- one round: from the place j with a tree to the place j' with a repetition of it -/
theorem PaH.next {W0 w0 w w' : World} {R i o j j' Q K : Nat} {s : ByteArray} {res : Option (Re × Nat)} {p : Value} {mn mx : Int} {ty : TypeId} (h : PaH W0 w0 R s i o res w p j) (hS : SR W0 w R s j o) (hj : j < s.size) (hg : w.grownBy w' (some R)) (hq : QAt w' Q (.slice none 0 0) (.slice (some ⟨K, 0, none⟩) 1 1) mn mx) (hQ : w0.heap.size ≤ Q) (hk : w'.heap[K]? = some (.cells #[p] ty (0, 0))) (hK : w0.heap.size ≤ K) (hRB : R < w0.heap.size)
    (hn : BR W0 w' R s ∨ (j < j' ∧ ∀ f t, partS s (f + 1) t j = partS s f (repRe mn mx t) j')) : PaH W0 w0 R s i o res w' (.pointer (some ⟨Q, 0, none⟩)) j' := by
  rcases hn with hB | ⟨hlt, hn⟩
  · exact .inl hB
  · rcases h with h | ⟨h1, t, f, h2, h3, h4⟩
    · exact (hS.not_br h).elim
    · obtain ⟨f', rfl⟩ : ∃ f', f = f' + 1 := ⟨f - 1, by omega⟩
      exact .inr ⟨h1, _, f', by rw [h2, hn], by omega, rep_tree hq hQ hk hK (tree_grown h4 hRB hg)⟩
theorem PaH.stop {W0 w0 w w' : World} {R i o j : Nat} {s : ByteArray} {res : Option (Re × Nat)} {p : Value} {c : Int} (h : PaH W0 w0 R s i o res w p j) (hRB : R < w0.heap.size) (hg : w.grownBy w' (some R)) (hc : (BR W0 w' R s) ∨ (SR W0 w R s j o ∧ cpAt s j ≠ 42 ∧ cpAt s j ≠ 43 ∧ cpAt s j ≠ 63 ∧ cpAt s j ≠ 123)) : BR W0 w' R s ∨ (SR W0 w0 R s i o ∧ ∃ t, res = some (t, j) ∧ RT' w0.heap.size w' p t) := by
  rcases hc with hB | ⟨hS, n1, n2, n3, n4⟩
  · exact .inl hB
  · rcases h with h | ⟨h1, t, f, h2, h3, h4⟩
    · exact (hS.not_br h).elim
    · have := hS.inn
      obtain ⟨f', rfl⟩ : ∃ f', f = f' + 1 := ⟨f - 1, by omega⟩
      exact .inr ⟨h1, t, by rw [h2, partS, if_neg n1, if_neg n2, if_neg n3, if_neg n4], tree_grown h4 hRB hg⟩
theorem PaH.bad {W0 w0 w : World} {R i o j : Nat} {s : ByteArray} {res : Option (Re × Nat)} {p : Value} (h : PaH W0 w0 R s i o res w p j) (hS : SR W0 w R s j o) (h2 : cpAt s j = -2) : BadR s res := by
  rcases h with h | ⟨h1, t, f, h2', h3, h4⟩
  · exact (sr_not_br hS h).elim
  · have := hS.inn
    obtain ⟨f', rfl⟩ : ∃ f', f = f' + 1 := ⟨f - 1, by omega⟩
    exact .inr ⟨t, j, by rw [h2', partS, if_neg (by omega), if_neg (by omega), if_neg (by omega), if_neg (by omega)], h2⟩
theorem PaH.brace {W0 w0 w : World} {R i o j : Nat} {s : ByteArray} {res : Option (Re × Nat)} {p : Value} (h : PaH W0 w0 R s i o res w p j) (hS : SR W0 w R s j o) (hj : j < s.size) (hc : cpAt s j = 123) (hn : timesS s (j + 1) = none) : res = none := by
  rcases h with h | ⟨h1, t, f, h2', h3, h4⟩
  · exact (sr_not_br hS h).elim
  · obtain ⟨f', rfl⟩ : ∃ f', f = f' + 1 := ⟨f - 1, by omega⟩
    rw [h2', partS, if_neg (by omega), if_neg (by omega), if_neg (by omega), if_pos hc, hn]
theorem XR.back {W0 w w' : World} {R i o : Nat} {s : ByteArray} (h : XR W0 w R s i o) (hg : w.grownBy w' none) (hB : BR W0 w' R s) : BR W0 w R s := h.elim (fun h => (sr_not_br (h.1.kept hg) hB).elim) id

end Go.Proofs.YtbjohedenfindaaGreatDoor
