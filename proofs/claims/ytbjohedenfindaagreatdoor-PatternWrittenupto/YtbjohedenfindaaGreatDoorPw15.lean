/- Texts of the proof, put together: RPnt. -/
import Derived.Test.YtbjohedenfindaaGreatDoorPw13
namespace Go.Proofs.YtbjohedenfindaaGreatDoor
open Go.RowKit
set_option linter.unusedVariables false
set_option maxRecDepth 100000

def escB : ByteArray := ⟨#[124, 38, 42, 43, 63, 123, 125, 126, 40, 41, 91, 93, 46, 92, 45, 94, 34, 39, 32]⟩
/-- what point gives -/
def PntP (W0 w : World) (R : Nat) (s : ByteArray) (signs : Int → Bool) (i o : Nat) (e : Ending) (w' : World) : Prop := ∃ z : Int, e = .returned (.int .i64 z) ∧ 0 ≤ z ∧ z ≤ 1114111 ∧ w.grownBy w' (some R) ∧ (BR W0 w' R s ∨ ∃ j, pointS s signs i = some (z, j) ∧ SR W0 w' R s j o) ∧ (BR W0 w' R s → pointS s signs i = none)
/-- the signs that are barred -/
structure Bars (S : ByteArray) (bar : Int → Bool) : Prop where
  call : ∀ (c : Int) (w : World), Calls Tryz.prog 158 #[.string S, .int .i64 c] w fun e w' => e = .returned (.bool (bar c)) ∧ w' = w

set_option maxHeartbeats 2000000 in
/-- barred, or nothing there -/
theorem rpoint_no {W0 w : World} (L : LibR W0) {R i o : Nat} {s S : ByteArray} {bar : Int → Bool} (B : Bars S bar)
    (HN : Hid (Calls Tryz.prog 74 #[.pointer (some ⟨R, 0, none⟩)] w fun e w' => ∃ c : Int, e = .returned (.int .i64 c) ∧ (c < 0 ∨ bar c = true) ∧ c ≤ 1114111 ∧ w.grownBy w' (some R) ∧ XR W0 w' R s i o)) :
    Calls Tryz.prog 140 #[.pointer (some ⟨R, 0, none⟩), .string S] w fun e w' => e = .returned (.int .i64 0) ∧ w.grownBy w' (some R) ∧ BR W0 w' R s := by
  have HB := B.call
  have HBB : Hid (∀ (c : Int) (w : World), Calls Tryz.prog 158 #[.string S, .int .i64 c] w fun e w' => e = .returned (.bool (bar c)) ∧ w' = w) := HB
  clear HB B
  go_enter Tryz.func140, Tryz.ntmps140
  go_wp2_with fail
  refine HN.out.mono ?_
  rintro e w1 ⟨c, rfl, hc, hc1, hg1, hX1⟩
  obtain ⟨te, pe, i1, cs, c1, hF⟩ := fail_here L hg1 hX1
  have HF1 : Hid (Calls Tryz.prog 22 #[.pointer (some ⟨R, 0, none⟩), .iface te pe, .int .i64 i1] w1.drew fun e w' => e = .returned (.tuple #[]) ∧ w.grownBy w' (some R) ∧ BR W0 w' R s) := hF 1
  clear hF hX1 hg1 HN
  go_wp2_with fail
  refine (HBB.out c _).mono ?_
  rintro e w2 ⟨rfl, rfl⟩
  have hcc : decide (c < 0) = true ∨ (decide (c < 0) = false ∧ bar c = true) := by
    by_cases h : c < 0
    · exact .inl (by simp; omega)
    · exact .inr ⟨by simp; omega, hc.resolve_left h⟩
  clear hc
  generalize bar c = bc at *
  rcases hcc with h1 | ⟨h1, rfl⟩
  all_goals
    go_wp2
    go_region_with (go_at_call 22; refine HF1.out.mono ?_; rintro e w4 ⟨rfl, hg4, hB4⟩)
    all_goals
      go_wp2
      go_ret
      exact ⟨rfl, hg4, hB4⟩

/-- SR's cells -/
theorem SR.cell1 {W0 w : World} {R i o : Nat} {s : ByteArray} (h : SR W0 w R s i o) : w.cell? ⟨R, 1, none⟩ = some (.int .i64 (i : Int)) ∧ w.cell? ⟨R, 3, none⟩ = some .nilIface := by
  obtain ⟨z, hz⟩ := h.at_
  exact ⟨hz.cells.2.1, hz.cells.2.2.2.1⟩
theorem BR.cell3 {W0 w : World} {R : Nat} {s : ByteArray} (h : BR W0 w R s) : ∃ te pe, w.cell? ⟨R, 3, none⟩ = some (.iface te pe) := by
  obtain ⟨i, o, te, pe, z, _, _, hz⟩ := h.at_
  exact ⟨te, pe, hz.cells.2.2.2.1⟩

set_option maxHeartbeats 2000000 in
theorem rpoint_plain {W0 w : World} {R i o : Nat} {s S : ByteArray} {bar : Int → Bool} (B : Bars S bar) (h : SR W0 w R s i o) (h0 : 0 ≤ cpAt s i) (hb : bar (cpAt s i) = false) (h92 : cpAt s i ≠ 92) :
    Calls Tryz.prog 140 #[.pointer (some ⟨R, 0, none⟩), .string S] w fun e w' => e = .returned (.int .i64 (cpAt s i)) ∧ w.grownBy w' (some R) ∧ SR W0 w' R s (i + szAt s i) o := by
  have HBB : Hid (∀ (c : Int) (w : World), Calls Tryz.prog 158 #[.string S, .int .i64 c] w fun e w' => e = .returned (.bool (bar c)) ∧ w' = w) := B.call
  have HN : Hid (Calls Tryz.prog 74 #[.pointer (some ⟨R, 0, none⟩)] w fun e w' => e = .returned (.int .i64 (cpAt s i)) ∧ ∃ n, w' = w.drewN n) := now_in h h0
  have HS : Hid (SR W0 w R s i o) := h
  have hlt := cp_lt h0
  have HB : Hid (bar (cpAt s i) = false) := hb
  have hne : (cpAt s i != 92) = true := by rw [bne_iff_ne]; exact h92
  have hn0 : ¬ cpAt s i < 0 := by omega
  clear B h hb
  generalize cpAt s i = c at *
  go_enter Tryz.func140, Tryz.ntmps140
  go_wp2_with fail
  refine HN.out.mono ?_
  rintro e w1 ⟨rfl, n, rfl⟩
  have hS1 := HS.out.kept (grown_drewN w n none)
  have c1 := hS1.cell1.1
  have HSk : Hid (Calls Tryz.prog 75 #[.pointer (some ⟨R, 0, none⟩)] (w.drewN n) fun e w' => e = .returned (.tuple #[]) ∧ w.grownBy w' (some R) ∧ SR W0 w' R s (i + szAt s i) o) := by
    refine (skip_in hS1 hlt).mono ?_
    rintro e w' ⟨h1, h2, h3⟩
    exact ⟨h1, Lib.grownBy_trans (grown_drewN w n (some R)) h2, h3⟩
  clear hS1
  go_wp2_with fail
  refine (HBB.out c _).mono ?_
  rintro e w2 ⟨rfl, rfl⟩
  rw [HB.out]
  go_wp2_with fail
  refine HSk.out.mono ?_
  rintro e w3 ⟨rfl, hg3, hS3⟩
  go_wp2
  go_ret
  exact ⟨rfl, hg3, hS3⟩

/-- digits, as they are read -/
def DigC (W0 : World) (s : ByteArray) : Prop := ∀ (w : World) (R i o : Nat) (y : Int), SR W0 w R s i o → o ≤ 1000 → Calls Tryz.prog 159 #[.pointer (some ⟨R, 0, none⟩), .int .i64 y] w fun e w' => ∃ z : Int, e = .returned (.int .i64 z) ∧ 0 ≤ z ∧ z ≤ 1114111 ∧ w.grownBy w' (some R) ∧ (BR W0 w' R s ∨ ∃ j, cpAt s i = 123 ∧ hexS s (i + 1) = some (z, j) ∧ SR W0 w' R s j o) ∧ (BR W0 w' R s → cpAt s i = 123 → hexS s (i + 1) = none)
theorem esc_ascii {c : Int} (h : escSign c = true) : 0 ≤ c ∧ c < 128 := by
  simp [escSign] at h
  omega
theorem escOf_sign {c : Int} (h1 : c ≠ 110) (h2 : c ≠ 114) (h3 : c ≠ 116) (h : escSign c = true) : escOf c = some c := by
  unfold escOf; rw [if_neg h1, if_neg h2, if_neg h3, if_pos h]

set_option maxHeartbeats 4000000 in
theorem rpoint_esc {W0 w : World} (L : LibR W0) {R i o : Nat} {s S : ByteArray} {bar signs : Int → Bool} (B : Bars S bar) (E : Bars escB escSign) (D : DigC W0 s) (h : SR W0 w R s i o) (ho : o ≤ 1000) (hc : cpAt s i = 92) (hb : bar 92 = false) :
    Calls Tryz.prog 140 #[.pointer (some ⟨R, 0, none⟩), .string S] w fun e w' => PntP W0 w R s signs i o e w' := by
  have HBB : Hid (∀ (c : Int) (w : World), Calls Tryz.prog 158 #[.string S, .int .i64 c] w fun e w' => e = .returned (.bool (bar c)) ∧ w' = w) := B.call
  have HEE : Hid (∀ (c : Int) (w : World), Calls Tryz.prog 158 #[.string escB, .int .i64 c] w fun e w' => e = .returned (.bool (escSign c)) ∧ w' = w) := E.call
  have HN : Hid (Calls Tryz.prog 74 #[.pointer (some ⟨R, 0, none⟩)] w fun e w' => e = .returned (.int .i64 92) ∧ ∃ n, w' = w.drewN n) := by
    have := now_in h (by omega)
    rw [hc] at this
    exact this
  have HDg : Hid (DigC W0 s) := D
  have HS : Hid (SR W0 w R s i o) := h
  have hsz := cp_eq_size hc (by omega) (by omega)
  have HB : Hid (bar 92 = false) := hb
  have HP : Hid (pointS s signs i = escS s (i + 1)) := by show _ = _; unfold pointS; rw [if_pos hc]
  clear B E D h hb hc
  go_enter Tryz.func140, Tryz.ntmps140
  go_wp2_with fail
  refine HN.out.mono ?_
  rintro e w1 ⟨rfl, n, rfl⟩
  have hS1 := HS.out.kept (grown_drewN w n none)
  have c1 := hS1.cell1.1
  have HSk : Hid (Calls Tryz.prog 75 #[.pointer (some ⟨R, 0, none⟩)] (w.drewN n) fun e w' => e = .returned (.tuple #[]) ∧ w.grownBy w' (some R) ∧ SR W0 w' R s (i + 1) o) := by
    refine (skip_in hS1 (by omega)).mono ?_
    rintro e w' ⟨h1, h2, h3⟩
    rw [hsz.2] at h3
    exact ⟨h1, Lib.grownBy_trans (grown_drewN w n (some R)) h2, h3⟩
  clear hS1
  go_wp2_with fail
  refine (HBB.out 92 _).mono ?_
  rintro e w2 ⟨rfl, rfl⟩
  rw [HB.out]
  go_wp2_with fail
  refine HSk.out.mono ?_
  rintro e w3 ⟨rfl, hg3, hS3⟩
  have HS3 : Hid (SR W0 w3 R s (i + 1) o) := hS3
  have HG3 : Hid (w.grownBy w3 (some R)) := hg3
  clear HBB HN HSk HB hS3 hg3 c1 HS
  go_wp2_with fail
  refine (now_any L HS3.out ho).mono ?_
  rintro e w4 ⟨hg4, ⟨h1, rfl, h3⟩ | ⟨h1, rfl, h3⟩⟩
  · have c3 := h3.cell1.2
    have HS4 : Hid (SR W0 w4 R s (i + 1) o) := h3
    have HG4 : Hid (w.grownBy w4 (some R)) := Lib.grownBy_trans HG3.out hg4
    have hrg := cp_range s (i + 1)
    have HEsc : Hid (escS s (i + 1) = match escOf (cpAt s (i + 1)) with | some p => some (p, i + 2) | none => if cpAt s (i + 1) = 117 ∧ cpAt s (i + 2) = 123 then hexS s (i + 3) else none) := rfl
    have HAsc : Hid (0 ≤ cpAt s (i + 1) → cpAt s (i + 1) < 128 → i + 1 < s.size ∧ szAt s (i + 1) = 1) := fun g0 g1 => ⟨cp_lt g0, (cp_ascii g0 g1).1⟩
    have HSkip : Hid (i + 1 < s.size → szAt s (i + 1) = 1 → Calls Tryz.prog 75 #[.pointer (some ⟨R, 0, none⟩)] w4 fun e w' => e = .returned (.tuple #[]) ∧ w.grownBy w' (some R) ∧ SR W0 w' R s (i + 2) o) := fun g0 g1 => by
      refine (skip_in HS4.out g0).mono ?_
      rintro e w' ⟨q1, q2, q3⟩
      rw [g1] at q3
      exact ⟨q1, Lib.grownBy_trans HG4.out q2, q3⟩
    obtain ⟨te, pe, cs⟩ := env_syn L h3.env
    have HFail : Hid (∀ y, Calls Tryz.prog 22 #[.pointer (some ⟨R, 0, none⟩), .iface te pe, .int .i64 y] w4 fun e w' => e = .returned (.tuple #[]) ∧ w.grownBy w' (some R) ∧ BR W0 w' R s) := fun y => by
      refine (fail_first HS4.out ho te pe y).mono ?_
      rintro e w' ⟨q1, q2, q3⟩
      exact ⟨q1, Lib.grownBy_trans HG4.out q2, q3⟩
    clear h1 h3 hg4 HS3 HG3
    generalize cpAt s (i + 1) = c at *
    rcases (show c = 110 ∨ c = 114 ∨ c = 116 ∨ c = 117 ∨ (c ≠ 110 ∧ c ≠ 114 ∧ c ≠ 116 ∧ c ≠ 117) by omega) with hc0 | hc0 | hc0 | hc0 | ⟨n1, n2, n3, n4⟩
    · subst hc0
      obtain ⟨g0, g1⟩ := HAsc.out (by omega) (by omega)
      have HSk2 := HSkip.out g0 g1
      have HSk3 : Hid (Calls Tryz.prog 75 #[.pointer (some ⟨R, 0, none⟩)] w4 fun e w' => e = .returned (.tuple #[]) ∧ w.grownBy w' (some R) ∧ SR W0 w' R s (i + 2) o) := HSk2
      have HE2 : Hid (escS s (i + 1) = some (10, i + 2)) := HEsc.out
      clear HSk2 HSkip HAsc HEsc HFail
      go_wp2_with fail
      refine (HEE.out 110 _).mono ?_
      rintro e w5 ⟨rfl, rfl⟩
      go_wp2_with fail
      refine HSk3.out.mono ?_
      rintro e w6 ⟨rfl, hg6, hS6⟩
      go_wp2
      go_ret
      exact ⟨10, rfl, by omega, by omega, hg6, .inr ⟨_, by rw [HP.out]; exact HE2.out, hS6⟩, fun hB => (sr_not_br hS6 hB).elim⟩
    · subst hc0
      obtain ⟨g0, g1⟩ := HAsc.out (by omega) (by omega)
      have HSk2 := HSkip.out g0 g1
      have HSk3 : Hid (Calls Tryz.prog 75 #[.pointer (some ⟨R, 0, none⟩)] w4 fun e w' => e = .returned (.tuple #[]) ∧ w.grownBy w' (some R) ∧ SR W0 w' R s (i + 2) o) := HSk2
      have HE2 : Hid (escS s (i + 1) = some (13, i + 2)) := HEsc.out
      clear HSk2 HSkip HAsc HEsc HFail
      go_wp2_with fail
      refine (HEE.out 114 _).mono ?_
      rintro e w5 ⟨rfl, rfl⟩
      go_wp2_with fail
      refine HSk3.out.mono ?_
      rintro e w6 ⟨rfl, hg6, hS6⟩
      go_wp2
      go_ret
      exact ⟨13, rfl, by omega, by omega, hg6, .inr ⟨_, by rw [HP.out]; exact HE2.out, hS6⟩, fun hB => (sr_not_br hS6 hB).elim⟩
    · subst hc0
      obtain ⟨g0, g1⟩ := HAsc.out (by omega) (by omega)
      have HSk2 := HSkip.out g0 g1
      have HSk3 : Hid (Calls Tryz.prog 75 #[.pointer (some ⟨R, 0, none⟩)] w4 fun e w' => e = .returned (.tuple #[]) ∧ w.grownBy w' (some R) ∧ SR W0 w' R s (i + 2) o) := HSk2
      have HE2 : Hid (escS s (i + 1) = some (9, i + 2)) := HEsc.out
      clear HSk2 HSkip HAsc HEsc HFail
      go_wp2_with fail
      refine (HEE.out 116 _).mono ?_
      rintro e w5 ⟨rfl, rfl⟩
      go_wp2_with fail
      refine HSk3.out.mono ?_
      rintro e w6 ⟨rfl, hg6, hS6⟩
      go_wp2
      go_ret
      exact ⟨9, rfl, by omega, by omega, hg6, .inr ⟨_, by rw [HP.out]; exact HE2.out, hS6⟩, fun hB => (sr_not_br hS6 hB).elim⟩
    · subst hc0
      obtain ⟨g0, g1⟩ := HAsc.out (by omega) (by omega)
      have HSk2 := HSkip.out g0 g1
      have HSk3 : Hid (Calls Tryz.prog 75 #[.pointer (some ⟨R, 0, none⟩)] w4 fun e w' => e = .returned (.tuple #[]) ∧ w.grownBy w' (some R) ∧ SR W0 w' R s (i + 2) o) := HSk2
      have HE2 : Hid (cpAt s (i + 2) = 123 → escS s (i + 1) = hexS s (i + 3)) := fun g => by
        rw [HEsc.out]
        show (if (117 : Int) = 117 ∧ cpAt s (i + 2) = 123 then hexS s (i + 3) else none) = _
        rw [if_pos ⟨rfl, g⟩]
      have HE3 : Hid (cpAt s (i + 2) ≠ 123 → escS s (i + 1) = none) := fun g => by
        rw [HEsc.out]
        show (if (117 : Int) = 117 ∧ cpAt s (i + 2) = 123 then hexS s (i + 3) else none) = _
        rw [if_neg (fun h => g h.2)]
      clear HSk2 HSkip HAsc HEsc HFail
      go_wp2_with fail
      refine (HEE.out 117 _).mono ?_
      rintro e w5 ⟨rfl, rfl⟩
      go_wp2_with fail
      refine HSk3.out.mono ?_
      rintro e w6 ⟨rfl, hg6, hS6⟩
      have HG6 : Hid (w.grownBy w6 (some R)) := hg6
      have HS6 : Hid (SR W0 w6 R s (i + 2) o) := hS6
      clear hg6 hS6
      go_wp2_with fail
      refine (HDg.out w6 R (i + 2) o _ HS6.out ho).mono ?_
      rintro e w7 ⟨z, rfl, z0, z1, hg7, hz, hzn⟩
      have HZN : Hid (BR W0 w7 R s → cpAt s (i + 2) = 123 → hexS s (i + 2 + 1) = none) := hzn
      clear hzn
      have HZ : Hid (BR W0 w7 R s ∨ ∃ j, cpAt s (i + 2) = 123 ∧ hexS s (i + 2 + 1) = some (z, j) ∧ SR W0 w7 R s j o) := hz
      clear hz
      go_wp2
      go_ret
      refine ⟨z, rfl, z0, z1, Lib.grownBy_trans HG6.out hg7, ?_, fun hB => ?_⟩
      · rcases HZ.out with hB | ⟨j, q1, q2, q3⟩
        · exact .inl hB
        · exact .inr ⟨j, by rw [HP.out, HE2.out q1]; exact q2, q3⟩
      rw [HP.out]
      by_cases g : cpAt s (i + 2) = 123
      · rw [HE2.out g]; exact HZN.out hB g
      · exact HE3.out g
    · have k1 : (c == 110) = false := by rw [beq_eq_false_iff_ne]; exact n1
      have k2 : (c == 114) = false := by rw [beq_eq_false_iff_ne]; exact n2
      have k3 : (c == 116) = false := by rw [beq_eq_false_iff_ne]; exact n3
      have k4 : (c == 117) = false := by rw [beq_eq_false_iff_ne]; exact n4
      cases hes : escSign c
      · have HES : Hid (escSign c = false) := hes
        have HNo : Hid (escS s (i + 1) = none) := by
          show _ = _
          rw [HEsc.out]
          have : escOf c = none := by unfold escOf; rw [if_neg n1, if_neg n2, if_neg n3, if_neg (by rw [hes]; simp)]
          rw [this]
          show (if c = 117 ∧ cpAt s (i + 2) = 123 then hexS s (i + 3) else none) = _
          rw [if_neg (fun h => n4 h.1)]
        clear hes HSkip HAsc HEsc
        go_wp2_with fail
        refine (HEE.out c _).mono ?_
        rintro e w5 ⟨rfl, rfl⟩
        rw [HES.out]
        go_wp2_with fail
        refine (HFail.out _).mono ?_
        rintro e w6 ⟨rfl, hg6, hB6⟩
        go_wp2
        go_ret
        exact ⟨0, rfl, by omega, by omega, hg6, .inl hB6, fun _ => by rw [HP.out]; exact HNo.out⟩
      · have HES : Hid (escSign c = true) := hes
        obtain ⟨a0, a1⟩ := esc_ascii hes
        obtain ⟨g0, g1⟩ := HAsc.out a0 a1
        have HSk2 := HSkip.out g0 g1
        have HSk3 : Hid (Calls Tryz.prog 75 #[.pointer (some ⟨R, 0, none⟩)] w4 fun e w' => e = .returned (.tuple #[]) ∧ w.grownBy w' (some R) ∧ SR W0 w' R s (i + 2) o) := HSk2
        have HE2 : Hid (escS s (i + 1) = some (c, i + 2)) := by show _ = _; rw [HEsc.out, escOf_sign n1 n2 n3 hes]
        clear hes HSk2 HSkip HAsc HEsc HFail
        go_wp2_with fail
        refine (HEE.out c _).mono ?_
        rintro e w5 ⟨rfl, rfl⟩
        rw [HES.out]
        go_wp2_with fail
        refine HSk3.out.mono ?_
        rintro e w6 ⟨rfl, hg6, hS6⟩
        go_wp2
        go_ret
        exact ⟨c, rfl, by omega, by omega, hg6, .inr ⟨_, by rw [HP.out]; exact HE2.out, hS6⟩, fun hB => (sr_not_br hS6 hB).elim⟩
  · obtain ⟨te, pe, c3⟩ := h3.cell3
    have HB4 : Hid (w.grownBy w4 (some R) ∧ BR W0 w4 R s) := ⟨Lib.grownBy_trans HG3.out hg4, h3⟩
    have HNo : Hid (escS s (i + 1) = none) := by
      show _ = _
      unfold escS
      rw [h1]
      show (if (-2 : Int) = 117 ∧ cpAt s (i + 1 + 1) = 123 then hexS s (i + 1 + 2) else none) = _
      rw [if_neg (by omega)]
    clear h1 h3 hg4
    go_wp2
    go_ret
    exact ⟨0, rfl, by omega, by omega, HB4.out.1, .inl HB4.out.2, fun _ => by rw [HP.out]; exact HNo.out⟩

theorem rpoint_any {W0 w : World} (L : LibR W0) {R i o : Nat} {s S : ByteArray} {bar signs : Int → Bool} (B : Bars S bar) (E : Bars escB escSign) (D : DigC W0 s) (h : SR W0 w R s i o) (ho : o ≤ 1000) (hb : bar 92 = false) (hsg : ∀ c, c ≠ 92 → signs c = bar c) :
    Calls Tryz.prog 140 #[.pointer (some ⟨R, 0, none⟩), .string S] w fun e w' => PntP W0 w R s signs i o e w' := by
  by_cases hc : cpAt s i = 92
  · exact rpoint_esc L B E D h ho hc hb
  · by_cases hn : cpAt s i < 0 ∨ bar (cpAt s i) = true
    · refine (rpoint_no (s := s) (i := i) (o := o) L B ?_).mono ?_
      · refine (now_any L h ho).mono ?_
        rintro e w' ⟨hg, ⟨h1, rfl, h3⟩ | ⟨h1, rfl, h3⟩⟩
        · exact ⟨_, rfl, hn, (cp_range s i).2, hg, .inl ⟨h3, ho⟩⟩
        · exact ⟨_, rfl, .inl (by omega), by omega, hg, .inr h3⟩
      · rintro e w' ⟨rfl, h1, h2⟩
        refine ⟨0, rfl, by omega, by omega, h1, .inl h2, fun _ => ?_⟩
        unfold pointS
        rw [if_neg hc, if_pos]
        rw [hsg _ hc]
        exact hn
    · have h0 : 0 ≤ cpAt s i := by
        rcases Int.lt_or_le (cpAt s i) 0 with h' | h'
        · exact absurd (.inl h') hn
        · exact h'
      have hbf : bar (cpAt s i) = false := by
        cases hq : bar (cpAt s i)
        · rfl
        · exact absurd (.inr hq) hn
      refine (rpoint_plain B h h0 hbf hc).mono ?_
      rintro e w' ⟨rfl, h1, h2⟩
      refine ⟨_, rfl, h0, (cp_range s i).2, h1, .inr ⟨_, ?_, h2⟩, fun hB => (sr_not_br h2 hB).elim⟩
      unfold pointS
      rw [if_neg hc, if_neg]
      rw [hsg _ hc, hbf]
      simp
      omega
theorem rpoint_bad {W0 w : World} (L : LibR W0) {R : Nat} {s S : ByteArray} {bar : Int → Bool} (B : Bars S bar) (h : BR W0 w R s) :
    Calls Tryz.prog 140 #[.pointer (some ⟨R, 0, none⟩), .string S] w fun e w' => e = .returned (.int .i64 0) ∧ w.grownBy w' (some R) ∧ BR W0 w' R s := by
  refine rpoint_no (i := 0) (o := 0) L B ?_
  refine (now_bad h).mono ?_
  rintro e w' ⟨rfl, n, rfl⟩
  exact ⟨-1, rfl, .inl (by omega), by omega, grown_drewN w n (some R), .inr (h.kept (grown_drewN w n none))⟩

def outB : ByteArray := ⟨#[124, 38, 42, 43, 63, 123, 125, 126, 40, 41, 91, 93, 46]⟩
def inB : ByteArray := ⟨#[91, 93, 45, 94]⟩
def outBar (c : Int) : Bool := withinS outB outB.size c
def inBar (c : Int) : Bool := withinS inB inB.size c
theorem bars_out : Bars outB outBar := ⟨fun c w => within_any outB c w (by decide)⟩
theorem bars_in : Bars inB inBar := ⟨fun c w => within_any inB c w (by decide)⟩
theorem within_list (S : ByteArray) (l : List Int) (e : (List.range S.size).map (fun i => ((S.get! i).toNat : Int)) = l) (c : Int) : withinS S S.size c = l.contains c := by
  subst e
  unfold withinS
  rw [Bool.eq_iff_iff, List.any_eq_true, List.contains_iff_mem, List.mem_map]
  constructor
  · rintro ⟨x, hx, h⟩
    exact ⟨x, hx, by simpa using h⟩
  · rintro ⟨x, hx, h⟩
    exact ⟨x, hx, by simpa using h⟩
theorem escB_sign (c : Int) : withinS escB escB.size c = escSign c := within_list escB _ (by decide) c
theorem outBar_eq (c : Int) : outBar c = [124, 38, 42, 43, 63, 123, 125, 126, 40, 41, 91, 93, 46].contains c := within_list outB _ (by decide) c
theorem inBar_eq (c : Int) : inBar c = [91, 93, 45, 94].contains c := within_list inB _ (by decide) c
theorem out_signs (c : Int) (h : c ≠ 92) : outerS c = outBar c := by
  rw [outBar_eq]; simp [outerS, h]
theorem in_signs (c : Int) (h : c ≠ 92) : innerS c = inBar c := by
  rw [inBar_eq]; simp [innerS, h]
theorem bars_esc : Bars escB escSign := ⟨fun c w => by rw [← escB_sign]; exact within_any escB c w (by decide)⟩

end Go.Proofs.YtbjohedenfindaaGreatDoor
