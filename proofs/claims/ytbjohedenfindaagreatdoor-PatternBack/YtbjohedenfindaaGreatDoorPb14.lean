/- Texts of the proof, put together: RTmsB, RPar, RParB, RSev. -/
import Derived.Test.YtbjohedenfindaaGreatDoorPb13
import Derived.Test.YtbjohedenfindaaGreatDoorPb10
import Derived.Test.YtbjohedenfindaaGreatDoorPb09
namespace Go.Proofs.YtbjohedenfindaaGreatDoor
open Go.RowKit
set_option linter.unusedVariables false
set_option maxRecDepth 100000

theorem countS_posR {s : ByteArray} {i j : Nat} {z : Int} (h : countS s i = some (z, j)) : 0 ≤ z := by
  unfold countS at h
  split at h
  · simp at h
  · simp only [Option.some.injEq, Prod.mk.injEq] at h
    rw [← h.1]
    have key : ∀ k, k ≤ digRun s s.size i → 0 ≤ digVal s i k := by
      intro k
      induction k with
      | zero => intro _; simp [digVal]
      | succ k ih =>
        intro hk
        have h1 := ih (by omega)
        have h2 := digRun_all s s.size i k (by omega)
        simp [isDig] at h2
        rw [digVal]
        omega
    exact key _ (Nat.le_refl _)

set_option maxHeartbeats 4000000 in
theorem rtimes_any {W0 w : World} (L : LibC W0) {R Q i o : Nat} {s : ByteArray} {sv kv : Value} {mn0 mx0 : Int} (hne : Q ≠ R) (hQ : 16 ≤ Q) (h : XR W0 w R s i o) (hq : QAt w Q sv kv mn0 mx0) :
    Calls Tryz.prog 128 #[.pointer (some ⟨R, 0, none⟩), .pointer (some ⟨Q, 0, none⟩)] w fun e w' => e = .returned (.tuple #[]) ∧ TmQ W0 w R Q s i o sv kv w' := by
  obtain ⟨i1, hi1, _, c1, _⟩ := h.at_
  have HT0 : Hid (TmI W0 w w R Q s o i sv kv mn0 mx0) := ⟨h, hq, .of (grown_self _ _)⟩
  have HC := count_x L h
  have HCC : Hid (Calls Tryz.prog 141 #[.pointer (some ⟨R, 0, none⟩)] w fun e w1 => ∃ (z : Int), e = .returned (.int .i64 z) ∧ -1000 ≤ z ∧ z ≤ 1000 ∧ w1.cell? ⟨Q, 2, none⟩ = some (.int .i64 mn0) ∧ w1.frozen? ⟨Q, 2, none⟩ = false ∧ w1.cell? ⟨Q, 3, none⟩ = some (.int .i64 mx0) ∧ w1.frozen? ⟨Q, 3, none⟩ = false ∧ (∃ j, TmI W0 w ((w1.setCell ⟨Q, 2, none⟩ (.int .i64 z)).setCell ⟨Q, 3, none⟩ (.int .i64 z)) R Q s o j sv kv z z ∧ (BR W0 ((w1.setCell ⟨Q, 2, none⟩ (.int .i64 z)).setCell ⟨Q, 3, none⟩ (.int .i64 z)) R s ∨ countS s i = some (z, j)))) := by
    refine HC.mono ?_
    rintro e w1 ⟨z, j, rfl, z0, z1, hg, hx, hh⟩
    have hT1 := HT0.out.grown hne hg hx
    refine ⟨z, rfl, z0, z1, hT1.q.cells.1, hT1.q.cells.2.2.1, hT1.q.cells.2.1, hT1.q.cells.2.2.2.1, j, (hT1.set2 hne hQ z).set3 hne hQ z, br_setQ (br_setQ (hh.elim .inl fun h => .inr h.2) hne hQ) hne hQ⟩
  clear HC h hq
  go_enter Tryz.func128, Tryz.ntmps128
  go_wp2_with fail
  refine HCC.out.mono ?_
  rintro e w1 ⟨z, rfl, z0, z1, q1, q2, q3, q4, hj⟩
  have HJ : Hid (∃ j, TmI W0 w ((w1.setCell ⟨Q, 2, none⟩ (.int .i64 z)).setCell ⟨Q, 3, none⟩ (.int .i64 z)) R Q s o j sv kv z z ∧ (BR W0 ((w1.setCell ⟨Q, 2, none⟩ (.int .i64 z)).setCell ⟨Q, 3, none⟩ (.int .i64 z)) R s ∨ countS s i = some (z, j))) := hj
  clear hj HCC HT0
  go_wp2_with fail
  go_at_call 45
  obtain ⟨j, hT3, hh3⟩ := HJ.out
  generalize (w1.setCell ⟨Q, 2, none⟩ (.int .i64 z)).setCell ⟨Q, 3, none⟩ (.int .i64 z) = w3 at *
  refine (eat_x L hT3.x 44 (by omega) (by omega)).mono ?_
  have HT3 : Hid (TmI W0 w w3 R Q s o j sv kv z z) := hT3
  have HH3 : Hid (BR W0 w3 R s ∨ countS s i = some (z, j)) := hh3
  clear hT3 hh3 HJ q1 q2 q3 q4
  rintro e w4 ⟨b, rfl, hg4, ⟨rfl, e1, e2, e3, e4⟩ | ⟨rfl, e1, e2⟩⟩
  · have hT4 := HT3.out.grown hne hg4 (.inl ⟨e3, e4⟩ : XR W0 w4 R s (j + 1) o)
    have HT4 : Hid (TmI W0 w w4 R Q s o (j + 1) sv kv z z) := hT4
    have c4 := e3.cell1.1
    have HH4 : Hid (BR W0 w4 R s ∨ (countS s i = some (z, j) ∧ cpAt s j = 44)) := by
      rcases HH3.out with hB | h1
      · exact absurd hB fun hb => e1.not_br hb
      · exact .inr ⟨h1, e2⟩
    clear hT4 e1 e2 e3 hg4 HT3 HH3
    go_wp2_with fail
    go_at_call 74
    refine (now_x L HT4.out.x).mono ?_
    rintro e w5 ⟨c, rfl, hc0, hc1, hg5, hx5, hh5⟩
    by_cases hc : c = 125
    · subst hc
      have hh6 : BR W0 w5 R s ∨ ((countS s i = some (z, j) ∧ cpAt s j = 44) ∧ cpAt s (j + 1) = 125) := hist_step HH4.out (hh5.elim (fun h => .inl h.1) fun h => .inr ⟨h.1, h.2.1.symm⟩)
      have hT5 := HT4.out.grown hne hg5 hx5
      have f1 := hT5.q.cells.2.1
      have f2 := hT5.q.cells.2.2.2.1
      have HR : Hid (TmT W0 w (w5.setCell ⟨Q, 3, none⟩ (.int .i64 (-1))) R Q s i o sv kv z (-1)) := (hT5.set3 hne hQ (-1)).rest L hne fun hn => br_setQ (hh6.elim .inl fun h => .inr fun h5 => by
        unfold timesS
        rw [h.1.1]
        simp only
        rw [if_pos h.1.2, if_pos h.2]) hne hQ
      have HO2 := HR.out.ok (by omega)
      have HO3 : Hid (∀ n, Calls Tryz.prog 142 #[.pointer (some ⟨R, 0, none⟩), .int .i64 125] ((w5.setCell ⟨Q, 3, none⟩ (.int .i64 (-1))).drewN n) fun e w' => e = .returned (.tuple #[]) ∧ TmQ W0 w R Q s i o sv kv w') := HO2
      clear HO2 HR hT5 hh6 hh5 hx5 hg5 HT4 HH4
      go_wp2
      go_quiet (fail)
      go_wp2_with fail
      go_at_call 142
      refine (HO3.out _).mono ?_
      rintro e w9 ⟨rfl, h9⟩
      go_wp2
      go_end0
      exact ⟨rfl, h9⟩
    · have hcq : (c == 125) = false := by rw [beq_eq_false_iff_ne]; exact hc
      have hh6 : BR W0 w5 R s ∨ ((countS s i = some (z, j) ∧ cpAt s j = 44) ∧ cpAt s (j + 1) ≠ 125) := hist_step HH4.out (hh5.elim (fun h => .inl h.1) fun h => .inr ⟨h.1, fun e => hc (by rw [h.2.1]; exact e)⟩)
      have HH6 : Hid (BR W0 w5 R s ∨ ((countS s i = some (z, j) ∧ cpAt s j = 44) ∧ cpAt s (j + 1) ≠ 125)) := hh6
      have HT5 : Hid (TmI W0 w w5 R Q s o (j + 1) sv kv z z) := HT4.out.grown hne hg5 hx5
      clear hh6 hh5 hx5 hg5 HT4 HH4 hc
      go_wp2_with fail
      go_at_call 141
      refine (count_x L HT5.out.x).mono ?_
      rintro e w6 ⟨z2, k2, rfl, y0, y1, hg6, hx6, hh6⟩
      have hT6 := HT5.out.grown hne hg6 hx6
      have f1 := hT6.q.cells.2.1
      have f2 := hT6.q.cells.2.2.2.1
      have hh7 := hist_step HH6.out hh6
      have HR : Hid (TmT W0 w (w6.setCell ⟨Q, 3, none⟩ (.int .i64 z2)) R Q s i o sv kv z z2) := (hT6.set3 hne hQ z2).rest L hne fun hn => br_setQ (hh7.elim .inl fun h => .inr fun h5 => by
        have := countS_posR h.2
        unfold timesS
        rw [h.1.1.1]
        simp only
        rw [if_pos h.1.1.2, if_neg h.1.2, h.2]
        simp only
        rw [if_neg (by omega)]) hne hQ
      obtain ⟨te, pe, cs, hF⟩ := HR.out.syn
      have g2 := HR.out.c2
      have g3 := HR.out.c3
      have HF : Hid (∀ n y, Calls Tryz.prog 22 #[.pointer (some ⟨R, 0, none⟩), .iface te pe, .int .i64 y] ((w6.setCell ⟨Q, 3, none⟩ (.int .i64 z2)).drewN n) fun e w' => e = .returned (.tuple #[]) ∧ Hid (Calls Tryz.prog 142 #[.pointer (some ⟨R, 0, none⟩), .int .i64 125] w' fun e w'' => e = .returned (.tuple #[]) ∧ TmQ W0 w R Q s i o sv kv w'')) := hF
      have HO : Hid (_ → _) := HR.out.ok
      clear hF HR hT6 hh7 hh6 hx6 hg6 HT5 HH6
      have hzc : (decide (z2 ≥ 0) = false ∧ z2 < 0) ∨ (decide (z2 ≥ 0) = true ∧ decide (z2 < z) = true ∧ 0 ≤ z2) ∨ (z2 = 0 ∧ decide ((0 : Int) < z) = false) ∨ (decide (z2 ≥ 0) = true ∧ decide (z2 < z) = false ∧ (z2 == 0) = false ∧ ¬ (0 ≤ z2 ∧ (z2 < z ∨ z2 = 0))) := by
        by_cases a0 : z2 < 0
        · exact .inl ⟨by simp; omega, a0⟩
        · by_cases a1 : z2 < z
          · exact .inr (.inl ⟨by simp; omega, by simp; omega, by omega⟩)
          · by_cases a2 : z2 = 0
            · exact .inr (.inr (.inl ⟨a2, by simp; omega⟩))
            · exact .inr (.inr (.inr ⟨by simp; omega, by simp; omega, by rw [beq_eq_false_iff_ne]; exact a2, by omega⟩))
      have h200 : -1000 ≤ z2 ∧ z2 ≤ 1000 := ⟨y0, y1⟩
      rcases hzc with ⟨g1, g4⟩ | ⟨g1, g4, g5⟩ | ⟨rfl, g4⟩ | ⟨g1, g4, g5, g6⟩
      · have HO2 := HO.out (by omega)
        have HO3 : Hid (∀ n, Calls Tryz.prog 142 #[.pointer (some ⟨R, 0, none⟩), .int .i64 125] ((w6.setCell ⟨Q, 3, none⟩ (.int .i64 z2)).drewN n) fun e w' => e = .returned (.tuple #[]) ∧ TmQ W0 w R Q s i o sv kv w') := HO2
        clear HO HO2 HF
        go_wp2
        go_quiet (fail)
        go_wp2_with fail
        go_at_call 142
        refine (HO3.out _).mono ?_
        rintro e w9 ⟨rfl, h9⟩
        go_wp2
        go_end0
        exact ⟨rfl, h9⟩
      · clear HO
        go_wp2
        go_quiet (fail)
        have d9 : ((w6.setCell ⟨Q, 3, none⟩ (.int .i64 z2)).drewN nq).cell? ⟨0, 0, none⟩ = some (.iface te pe) := cs
        go_wp2_with fail
        go_at_call 22
        refine (HF.out _ _).mono ?_
        rintro e w8 ⟨rfl, h8⟩
        go_wp2_with fail
        go_at_call 142
        refine h8.out.mono ?_
        rintro e w9 ⟨rfl, h9⟩
        go_wp2
        go_end0
        exact ⟨rfl, h9⟩
      · clear HO
        go_wp2
        go_quiet (fail)
        have d9 : ((w6.setCell ⟨Q, 3, none⟩ (.int .i64 0)).drewN nq).cell? ⟨0, 0, none⟩ = some (.iface te pe) := cs
        go_wp2_with fail
        go_at_call 22
        refine (HF.out _ _).mono ?_
        rintro e w8 ⟨rfl, h8⟩
        go_wp2_with fail
        go_at_call 142
        refine h8.out.mono ?_
        rintro e w9 ⟨rfl, h9⟩
        go_wp2
        go_end0
        exact ⟨rfl, h9⟩
      · have HO2 := HO.out g6
        have HO3 : Hid (∀ n, Calls Tryz.prog 142 #[.pointer (some ⟨R, 0, none⟩), .int .i64 125] ((w6.setCell ⟨Q, 3, none⟩ (.int .i64 z2)).drewN n) fun e w' => e = .returned (.tuple #[]) ∧ TmQ W0 w R Q s i o sv kv w') := HO2
        clear HO HO2 HF
        go_wp2
        go_quiet (fail)
        go_wp2_with fail
        go_at_call 142
        refine (HO3.out _).mono ?_
        rintro e w9 ⟨rfl, h9⟩
        go_wp2
        go_end0
        exact ⟨rfl, h9⟩
  · have HR : Hid (TmT W0 w w4 R Q s i o sv kv z z) := (HT3.out.grown hne hg4 e1).rest L hne fun hn => by
      rcases hist_step HH3.out e2 with hB | ⟨h1, h2⟩
      · exact .inl hB
      · refine .inr fun h5 => ?_
        have := countS_posR h1
        unfold timesS
        rw [h1]
        simp only
        rw [if_neg h2, if_neg (by omega)]
    obtain ⟨te, pe, cs, hF⟩ := HR.out.syn
    have k2 := HR.out.c2
    have k3 := HR.out.c3
    have HF : Hid (∀ n y, Calls Tryz.prog 22 #[.pointer (some ⟨R, 0, none⟩), .iface te pe, .int .i64 y] (w4.drewN n) fun e w' => e = .returned (.tuple #[]) ∧ Hid (Calls Tryz.prog 142 #[.pointer (some ⟨R, 0, none⟩), .int .i64 125] w' fun e w'' => e = .returned (.tuple #[]) ∧ TmQ W0 w R Q s i o sv kv w'')) := hF
    have HO : Hid (_ → _) := HR.out.ok
    clear e1 e2 hg4 hF HT3 HH3
    have hzc : (decide (z ≥ 0) = false ∧ z < 0) ∨ z = 0 ∨ (decide (z ≥ 0) = true ∧ decide (z < z) = false ∧ (z == 0) = false ∧ 0 < z) := by
      rcases (show z < 0 ∨ z = 0 ∨ 0 < z by omega) with h | h | h
      · exact .inl ⟨by simp; omega, h⟩
      · exact .inr (.inl h)
      · exact .inr (.inr ⟨by simp; omega, by simp, by rw [beq_eq_false_iff_ne]; omega, h⟩)
    rcases hzc with ⟨g1, g2⟩ | rfl | ⟨g1, g2, g3, g4⟩
    · have HO2 := HO.out (by omega)
      have HO3 : Hid (∀ n, Calls Tryz.prog 142 #[.pointer (some ⟨R, 0, none⟩), .int .i64 125] (w4.drewN n) fun e w' => e = .returned (.tuple #[]) ∧ TmQ W0 w R Q s i o sv kv w') := HO2
      clear HO HO2 HF HR
      go_wp2
      go_quiet (fail)
      go_wp2_with fail
      go_at_call 142
      refine (HO3.out _).mono ?_
      rintro e w5 ⟨rfl, h5⟩
      go_wp2
      go_end0
      exact ⟨rfl, h5⟩
    · clear HO HR
      go_wp2
      go_quiet (fail)
      have d9 : (w4.drewN nq).cell? ⟨0, 0, none⟩ = some (.iface te pe) := cs
      go_wp2_with fail
      go_at_call 22
      refine (HF.out _ _).mono ?_
      rintro e w8 ⟨rfl, h8⟩
      go_wp2_with fail
      go_at_call 142
      refine h8.out.mono ?_
      rintro e w9 ⟨rfl, h9⟩
      go_wp2
      go_end0
      exact ⟨rfl, h9⟩
    · have HO2 := HO.out (by omega)
      have HO3 : Hid (∀ n, Calls Tryz.prog 142 #[.pointer (some ⟨R, 0, none⟩), .int .i64 125] (w4.drewN n) fun e w' => e = .returned (.tuple #[]) ∧ TmQ W0 w R Q s i o sv kv w') := HO2
      clear HO HO2 HF HR
      go_wp2
      go_quiet (fail)
      go_wp2_with fail
      go_at_call 142
      refine (HO3.out _).mono ?_
      rintro e w9 ⟨rfl, h9⟩
      go_wp2
      go_end0
      exact ⟨rfl, h9⟩

end Go.Proofs.YtbjohedenfindaaGreatDoor

namespace Go.Proofs.YtbjohedenfindaaGreatDoor
open Go.RowKit
set_option linter.unusedVariables false
set_option maxRecDepth 100000

/-- the trees that the reader makes lie behind it -/
abbrev RT' (B : Nat) (w : World) (v : Value) (t : Re) : Prop := Tree (fun b => B ≤ b) w v t
/-- what a function of the reader gives: a tree, or something is wrong -/
def GotT (W0 w : World) (R : Nat) (s : ByteArray) (i o : Nat) (r : Option (Re × Nat)) (e : Ending) (w' : World) : Prop :=
  ∃ (p : Option Addr) (j : Nat), e = .returned (.pointer p) ∧ w.grownBy w' (some R) ∧ XR W0 w' R s j o ∧ (BR W0 w' R s ∨ (SR W0 w R s i o ∧ ∃ t, r = some (t, j) ∧ RT' w.heap.size w' (.pointer p) t))
def RUnitC (W0 : World) (R : Nat) (s : ByteArray) (o : Nat) (u : Nat → Option (Re × Nat)) : Prop := ∀ (w : World) (i : Nat), XR W0 w R s i o → Calls Tryz.prog 127 #[.pointer (some ⟨R, 0, none⟩)] w fun e w' => GotT W0 w R s i o (u i) e w'

theorem tree_grown {R B : Nat} {w w' : World} {v : Value} {t : Re} (h : RT' B w v t) (hRB : R < B) (hg : w.grownBy w' (some R)) : RT' B w' v t := Tree.grown h hg fun b hb e => by simp at e; omega
theorem rep_tree {B Q K : Nat} {w : World} {p : Value} {t : Re} {mn mx : Int} {ty : TypeId} (hq : QAt w Q (.slice none 0 0) (.slice (some ⟨K, 0, none⟩) 1 1) mn mx) (hQ : B ≤ Q) (hk : w.heap[K]? = some (.cells #[p] ty (0, 0))) (hK : B ≤ K) (hp : RT' B w p t) : RT' B w (.pointer (some ⟨Q, 0, none⟩)) (repRe mn mx t) := by
  obtain ⟨n, hn⟩ := hp
  refine ⟨n + 1, Q, _, _, rfl, hQ, hq, .inl ⟨rfl, none, 0, rfl⟩, .inr ⟨K, 0, 1, rfl, (Array.getElem?_eq_some_iff.1 hk).1, hK, fun j hj => ?_⟩⟩
  have hj0 : j = 0 := by simp [repRe] at hj; omega
  subst hj0
  exact ⟨p, by simp [World.cell?, hk], by simpa [repRe] using hn⟩

/-- how much is left to read; nothing where something is wrong -/
def mea (s : ByteArray) (R : Nat) (w : World) : Nat := match w.cell? ⟨R, 3, none⟩ with
  | some .nilIface => (match w.cell? ⟨R, 1, none⟩ with | some (.int _ z) => s.size - z.toNat + 1 | _ => 0)
  | _ => 0
theorem mea_sr {W0 w : World} {R i o : Nat} {s : ByteArray} (h : SR W0 w R s i o) : mea s R w = s.size - i + 1 := by
  unfold mea; rw [h.cell1.1, h.cell1.2]; simp
theorem mea_br {W0 w : World} {R : Nat} {s : ByteArray} (h : BR W0 w R s) : mea s R w = 0 := by
  obtain ⟨te, pe, h2⟩ := h.cell3
  unfold mea; rw [h2]
theorem mea_x {W0 w w' : World} {R i j o : Nat} {s : ByteArray} (h : SR W0 w R s i o) (hx : XR W0 w' R s j o) (hj : BR W0 w' R s ∨ i < j) : mea s R w' < mea s R w := by
  rw [mea_sr h]
  rcases hx with ⟨hx, _⟩ | hx
  · rcases hj with hj | hj
    · exact (hx.not_br hj).elim
    · rw [mea_sr hx]
      have := hx.inn
      omega
  · rw [mea_br hx]; omega

/-- the two new blocks of a repetition -/
theorem new_rep {W0 w : World} {R j o : Nat} {s : ByteArray} (p : Value) (hx : XR W0 w R s j o) : ∃ w3, (w.alloc (.cells #[p] 22)).alloc (.cells #[.int .i64 6, .slice none 0 0, .int .i64 0, .int .i64 0, .slice (some ⟨w.heap.size, 0, none⟩) 1 1] 48) = w3 ∧
    TmI W0 w3 w3 R (w.heap.size + 1) s o j (.slice none 0 0) (.slice (some ⟨w.heap.size, 0, none⟩) 1 1) 0 0 ∧ w3.heap[w.heap.size]? = some (.cells #[p] 22 (0, 0)) ∧ (∀ row, w.grownBy w3 row) := by
  have hb : Below w.heap.size w ((w.alloc (.cells #[p] 22)).alloc (.cells #[.int .i64 6, .slice none 0 0, .int .i64 0, .int .i64 0, .slice (some ⟨w.heap.size, 0, none⟩) 1 1] 48)) := ((Below.refl _ w).alloc (Nat.le_refl _) _).alloc (by simp) _
  refine ⟨_, rfl, ⟨hx.kept (grownBy_of_below hb none), ?_, .of (grown_self _ _)⟩, ?_, fun row => grownBy_of_below hb row⟩
  · have := heap_alloc_new (w.alloc (.cells #[p] 22)) (.cells #[.int .i64 6, .slice none 0 0, .int .i64 0, .int .i64 0, .slice (some ⟨w.heap.size, 0, none⟩) 1 1] 48)
    show _ = _
    simpa using this
  · rw [Below.heap_alloc _ _ _ (by simp)]
    exact heap_alloc_new w _
theorem gr2_grown {w w3 w' : World} {R Q : Nat} (h : w.grownBy w3 (some R)) (hQ : w.heap.size ≤ Q) (hg : Gr2 R Q w3 w') : w.grownBy w' (some R) :=
  ⟨hg.os.trans h.os, hg.tape.trans h.tape, hg.output.trans h.output, Nat.le_trans h.size hg.size, fun b hb hne => (hg.block b (Nat.lt_of_lt_of_le hb h.size) (by simpa using hne) (by omega)).trans (h.block b hb hne)⟩

/-- what part has read so far -/
def PaH (W0 w0 : World) (R : Nat) (s : ByteArray) (i o : Nat) (res : Option (Re × Nat)) (w : World) (p : Value) (j : Nat) : Prop := BR W0 w R s ∨ (SR W0 w0 R s i o ∧ ∃ t f, res = partS s f t j ∧ s.size + 1 ≤ f + j ∧ RT' w0.heap.size w p t)

/-- one round: from the place j with a tree to the place j' with a repetition of it -/
theorem PaH.next {W0 w0 w w' : World} {R i o j j' Q K : Nat} {s : ByteArray} {res : Option (Re × Nat)} {p : Value} {mn mx : Int} {ty : TypeId} (h : PaH W0 w0 R s i o res w p j) (hS : SR W0 w R s j o) (hj : j < s.size) (hg : w.grownBy w' (some R)) (hq : QAt w' Q (.slice none 0 0) (.slice (some ⟨K, 0, none⟩) 1 1) mn mx) (hQ : w0.heap.size ≤ Q) (hk : w'.heap[K]? = some (.cells #[p] ty (0, 0))) (hK : w0.heap.size ≤ K) (hRB : R < w0.heap.size)
    (hn : BR W0 w' R s ∨ (j < j' ∧ ∀ f t, partS s (f + 1) t j = partS s f (repRe mn mx t) j')) : PaH W0 w0 R s i o res w' (.pointer (some ⟨Q, 0, none⟩)) j' := by
  rcases hn with hB | ⟨hlt, hn⟩
  · exact .inl hB
  · rcases h with h | ⟨h1, t, f, h2, h3, h4⟩
    · exact (hS.not_br h).elim
    · obtain ⟨f', rfl⟩ : ∃ f', f = f' + 1 := ⟨f - 1, by omega⟩
      exact .inr ⟨h1, _, f', by rw [h2, hn], by omega, rep_tree hq hQ hk hK (tree_grown h4 hRB hg)⟩
theorem PaH.stop {W0 w0 w w' : World} {R i o j : Nat} {s : ByteArray} {res : Option (Re × Nat)} {p : Value} {c : Int} (h : PaH W0 w0 R s i o res w p j) (hRB : R < w0.heap.size) (hg : w.grownBy w' (some R)) (hc : (BR W0 w' R s) ∨ (SR W0 w R s j o ∧ cpAt s j ≠ 42 ∧ cpAt s j ≠ 43 ∧ cpAt s j ≠ 63 ∧ cpAt s j ≠ 123)) : BR W0 w' R s ∨ (SR W0 w0 R s i o ∧ ∃ t, res = some (t, j) ∧ RT' w0.heap.size w' p t) := by
  rcases hc with hB | ⟨hS, n1, n2, n3, n4⟩
  · exact .inl hB
  · rcases h with h | ⟨h1, t, f, h2, h3, h4⟩
    · exact (hS.not_br h).elim
    · have := hS.inn
      obtain ⟨f', rfl⟩ : ∃ f', f = f' + 1 := ⟨f - 1, by omega⟩
      exact .inr ⟨h1, t, by rw [h2, partS, if_neg n1, if_neg n2, if_neg n3, if_neg n4], tree_grown h4 hRB hg⟩

end Go.Proofs.YtbjohedenfindaaGreatDoor

namespace Go.Proofs.YtbjohedenfindaaGreatDoor
open Go.RowKit
set_option linter.unusedVariables false
set_option maxRecDepth 100000

theorem XR.sr {W0 w : World} {R i o : Nat} {s : ByteArray} (h : XR W0 w R s i o) (hc : w.cell? ⟨R, 3, none⟩ = some .nilIface) : SR W0 w R s i o := by
  rcases h with h | h
  · exact h.1
  · obtain ⟨te, pe, h2⟩ := h.cell3
    rw [hc] at h2
    simp at h2
theorem SR.setQ {W0 w : World} {R i o Q k : Nat} {s : ByteArray} {v : Value} (h : SR W0 w R s i o) (ho : o ≤ 1000) (hne : Q ≠ R) (hQ : 16 ≤ Q) : SR W0 (w.setCell ⟨Q, k, none⟩ v) R s i o := by
  refine (XR.setQ (.inl ⟨h, ho⟩) hne hQ).sr ?_
  rw [World.cell?_of_block (a := ⟨R, 3, none⟩) (Below.heap_setCell _ _ _ _ (by simp; omega))]
  exact h.cell1.2
theorem PaH.now {W0 w0 w w' : World} {R i o j : Nat} {s : ByteArray} {res : Option (Re × Nat)} {p : Value} (h : PaH W0 w0 R s i o res w p j) (hRB : R < w0.heap.size) (hg : w.grownBy w' (some R)) (hS : SR W0 w R s j o) : PaH W0 w0 R s i o res w' p j := by
  rcases h with h | ⟨h1, t, f, h2, h3, h4⟩
  · exact (hS.not_br h).elim
  · exact .inr ⟨h1, t, f, h2, h3, tree_grown h4 hRB hg⟩

/-- behind a round -/
def PaN (W0 w0 wr : World) (R : Nat) (s : ByteArray) (i o : Nat) (res : Option (Re × Nat)) (Q : Nat) (w : World) : Prop := ∃ j, XR W0 w R s j o ∧ w0.grownBy w (some R) ∧ PaH W0 w0 R s i o res w (.pointer (some ⟨Q, 0, none⟩)) j ∧ mea s R w < mea s R wr

/-- what stands when a sign was seen -/
structure PaS (W0 w0 wr w2 w3 : World) (R : Nat) (s : ByteArray) (i o j : Nat) (res : Option (Re × Nat)) (p : Value) : Prop where
  sr : SR W0 wr R s j o
  s3 : SR W0 w3 R s j o
  o1 : o ≤ 1000
  lt : R < w0.heap.size
  r16 : 16 ≤ R
  g0 : w0.grownBy w2 (some R)
  g3 : w2.grownBy w3 (some R)
  pa : PaH W0 w0 R s i o res w2 p j
  s2 : SR W0 w2 R s j o
  k3 : w3.heap[w2.heap.size]? = some (.cells #[p] 22 (0, 0))
  t3 : TmI W0 w3 w3 R (w2.heap.size + 1) s o j (.slice none 0 0) (.slice (some ⟨w2.heap.size, 0, none⟩) 1 1) 0 0
  sz : w2.heap.size + 1 < w3.heap.size

theorem part_simple {W0 w0 wr w2 w3 w4 : World} {R i o j : Nat} {s : ByteArray} {res : Option (Re × Nat)} {p : Value} {mn mx c : Int} (h : PaS W0 w0 wr w2 w3 R s i o j res p) (hT : TmI W0 w3 w4 R (w2.heap.size + 1) s o j (.slice none 0 0) (.slice (some ⟨w2.heap.size, 0, none⟩) 1 1) mn mx) (hS : SR W0 w4 R s j o)
    (hc : cpAt s j = c) (hc0 : 0 ≤ c) (hc1 : c < 128) (hn : ∀ f t, partS s (f + 1) t j = partS s f (repRe mn mx t) (j + 1)) :
    Calls Tryz.prog 75 #[.pointer (some ⟨R, 0, none⟩)] w4 fun e w5 => e = .returned (.tuple #[]) ∧ PaN W0 w0 wr R s i o res (w2.heap.size + 1) w5 := by
  have hsz := cp_eq_size hc hc0 hc1
  refine (skip_in hS (by omega)).mono ?_
  rintro e w5 ⟨h1, hg, h3⟩
  rw [hsz.2] at h3
  have hlt0 := h.lt
  have hsz02 := h.g0.size
  have hlt : R < w2.heap.size := by omega
  have hsz3 := h.sz
  have hg24 : w2.grownBy w4 (some R) := gr2_grown h.g3 (Nat.le_succ _) hT.g
  have hg25 := Lib.grownBy_trans hg24 hg
  have hq5 : QAt w5 (w2.heap.size + 1) (.slice none 0 0) (.slice (some ⟨w2.heap.size, 0, none⟩) 1 1) mn mx := hT.q.kept hg (by omega)
  have hk4 : w4.heap[w2.heap.size]? = some (.cells #[p] 22 (0, 0)) := (hT.g.block _ (by omega) (by omega) (by omega)).trans h.k3
  have hk5 : w5.heap[w2.heap.size]? = some (.cells #[p] 22 (0, 0)) := (hg.block _ (Nat.lt_of_lt_of_le (by omega) hT.g.size) (by simp; omega)).trans hk4
  exact ⟨h1, j + 1, .inl ⟨h3, h.o1⟩, Lib.grownBy_trans h.g0 hg25, h.pa.next h.s2 (by omega) hg25 hq5 (by omega) hk5 (by omega) hlt0 (.inr ⟨by omega, hn⟩), mea_x h.sr (.inl ⟨h3, h.o1⟩) (.inr (by omega))⟩
theorem part_brace {W0 w0 wr w2 w3 : World} (L : LibC W0) {R i o j : Nat} {s : ByteArray} {res : Option (Re × Nat)} {p : Value} (h : PaS W0 w0 wr w2 w3 R s i o j res p) (hc : cpAt s j = 123) :
    Calls Tryz.prog 75 #[.pointer (some ⟨R, 0, none⟩)] w3 fun e w5 => e = .returned (.tuple #[]) ∧ Hid (Calls Tryz.prog 128 #[.pointer (some ⟨R, 0, none⟩), .pointer (some ⟨w2.heap.size + 1, 0, none⟩)] w5 fun e w6 => e = .returned (.tuple #[]) ∧ PaN W0 w0 wr R s i o res (w2.heap.size + 1) w6) := by
  have hsz := cp_eq_size hc (by omega) (by omega)
  refine (skip_in h.s3 (by omega)).mono ?_
  rintro e w5 ⟨h1, hg, h3⟩
  rw [hsz.2] at h3
  refine ⟨h1, ?_⟩
  have hlt0 := h.lt
  have hsz02 := h.g0.size
  have hlt : R < w2.heap.size := by omega
  have h16 := h.r16
  have hsz3 := h.sz
  have hq5 : QAt w5 (w2.heap.size + 1) (.slice none 0 0) (.slice (some ⟨w2.heap.size, 0, none⟩) 1 1) 0 0 := h.t3.q.kept hg (by omega)
  refine (rtimes_any L (by omega) (by omega) (.inl ⟨h3, h.o1⟩) hq5).mono ?_
  rintro e w6 ⟨h4, mn, mx, hq6, hg6, hh⟩
  have hg25 := Lib.grownBy_trans h.g3 hg
  have hg26 : w2.grownBy w6 (some R) := gr2_grown hg25 (Nat.le_succ _) hg6
  have hk5 : w5.heap[w2.heap.size]? = some (.cells #[p] 22 (0, 0)) := (hg.block _ (by omega) (by simp; omega)).trans h.k3
  have hk6 : w6.heap[w2.heap.size]? = some (.cells #[p] 22 (0, 0)) := (hg6.block _ (Nat.lt_of_lt_of_le (by omega) hg.size) (by omega) (by omega)).trans hk5
  rcases hh with hB | ⟨j', h5, h6⟩
  · exact ⟨h4, 0, .inr hB, Lib.grownBy_trans h.g0 hg26, .inl hB, mea_x (j := 0) h.sr (.inr hB) (.inl hB)⟩
  · have hjj : j + 1 < j' := (timesS_some (by omega) h5).1
    refine ⟨h4, j', .inl ⟨h6, h.o1⟩, Lib.grownBy_trans h.g0 hg26, h.pa.next h.s2 (by omega) hg26 hq6 (by omega) hk6 (by omega) hlt0 (.inr ⟨by omega, fun f t => ?_⟩), mea_x h.sr (.inl ⟨h6, h.o1⟩) (.inr (by omega))⟩
    rw [partS, if_neg (by omega), if_neg (by omega), if_neg (by omega), if_pos hc, h5]

set_option maxHeartbeats 4000000 in
theorem rpart_any {W0 : World} (L : LibC W0) {R o : Nat} {s : ByteArray} {u : Nat → Option (Re × Nat)} (U : RUnitC W0 R s o u) {w : World} {i : Nat} (h : XR W0 w R s i o) :
    Calls Tryz.prog 106 #[.pointer (some ⟨R, 0, none⟩)] w fun e w' => GotT W0 w R s i o ((u i).bind fun x => partS s (s.size + 1) x.1 x.2) e w' := by
  have HU : Hid (Calls Tryz.prog 127 #[.pointer (some ⟨R, 0, none⟩)] w fun e w' => GotT W0 w R s i o (u i) e w') := U w i h
  have h16 := h.r16
  have hRB := h.lt
  have hini : ∀ w1 p j, (BR W0 w1 R s ∨ (SR W0 w R s i o ∧ ∃ t, u i = some (t, j) ∧ RT' w.heap.size w1 p t)) → PaH W0 w R s i o ((u i).bind fun x => partS s (s.size + 1) x.1 x.2) w1 p j := by
    rintro w1 p j (h1 | ⟨h1, t, h2, h3⟩)
    · exact .inl h1
    · exact .inr ⟨h1, t, s.size + 1, by rw [h2]; rfl, by omega, h3⟩
  have HI : Hid (∀ w1 p j, (BR W0 w1 R s ∨ (SR W0 w R s i o ∧ ∃ t, u i = some (t, j) ∧ RT' w.heap.size w1 p t)) → PaH W0 w R s i o ((u i).bind fun x => partS s (s.size + 1) x.1 x.2) w1 p j) := hini
  clear hini U h
  generalize ((u i).bind fun x => partS s (s.size + 1) x.1 x.2) = res at *
  go_enter Tryz.func106, Tryz.ntmps106
  go_wp2_with fail
  refine HU.out.mono ?_
  rintro e w1 ⟨p, j, rfl, hg1, hx1, hh1⟩
  have HX1 : Hid (XR W0 w1 R s j o) := hx1
  have HG1 : Hid (w.grownBy w1 (some R)) := hg1
  have HP1 : Hid (PaH W0 w R s i o res w1 (.pointer p) j) := HI.out w1 _ j hh1
  clear hx1 hg1 hh1 HI HU
  go_wp2
  go_loopw [3] (fun x wr => ∃ (p : Option Addr) (j : Nat), x = .pointer p ∧ Hid (XR W0 wr R s j o) ∧ Hid (w.grownBy wr (some R)) ∧ Hid (PaH W0 w R s i o res wr (.pointer p) j)) (fun _ wr => mea s R wr)
  case atStart => exact ⟨p, j, rfl, HX1, HG1, HP1⟩
  case round =>
    clear HX1 HG1 HP1
    obtain ⟨p, j, rfl, HX, HG, HP⟩ := hrel
    go_wp2_with fail
    go_at_call 74
    refine (now_x L HX.out).mono ?_
    rintro e w2 ⟨c, rfl, c0, c1, hg2, hx2, hh2⟩
    obtain ⟨w3, hw3, hT3, hK3, hg3⟩ := new_rep (.pointer p) hx2
    have hlt2 := hx2.lt
    have hs3 : w2.heap.size + 1 < w3.heap.size := by rw [← hw3]; simp
    have HTI : Hid (TmI W0 w3 w3 R (w2.heap.size + 1) s o j (.slice none 0 0) (.slice (some ⟨w2.heap.size, 0, none⟩) 1 1) 0 0) := hT3
    by_cases hcc : c = 42 ∨ c = 43 ∨ c = 63 ∨ c = 123
    · obtain ⟨hSr, hce, hS2⟩ : SR W0 wr R s j o ∧ c = cpAt s j ∧ SR W0 w2 R s j o := by
        rcases hh2 with ⟨_, e⟩ | h
        · omega
        · exact h
      have ho : o ≤ 1000 := by
        rcases hx2 with h | h
        · exact h.2
        · exact (hS2.not_br h).elim
      have hS3 : SR W0 w3 R s j o := hS2.kept (hg3 none)
      have HPS : Hid (PaS W0 w wr w2 w3 R s i o j res (.pointer p)) := ⟨hSr, hS3, ho, hRB, h16, Lib.grownBy_trans HG.out hg2, hg3 _, HP.out.now hRB hg2 hSr, hS2, hK3, hT3, hs3⟩
      have hce' : cpAt s j = c := hce.symm
      have HS3 : Hid (SR W0 w3 R s j o) := hS3
      obtain ⟨f2, f3, f4, f5, f6⟩ := HTI.out.q.cells
      clear hce hS2 hS3 hSr hh2 hx2 hg2 hg3 hT3 hK3 HX HG HP
      rcases hcc with hcc | hcc | hcc | hcc
      · subst hcc
        have HSk : Hid (Calls Tryz.prog 75 #[.pointer (some ⟨R, 0, none⟩)] (w3.setCell ⟨w2.heap.size + 1, 3, none⟩ (.int .i64 (-1))) fun e w5 => e = .returned (.tuple #[]) ∧ PaN W0 w wr R s i o res (w2.heap.size + 1) w5) := part_simple HPS.out (HTI.out.set3 (by omega) (by omega) (-1)) (HS3.out.setQ ho (by omega) (by omega)) hce' (by omega) (by omega) fun f t => by rw [partS, if_pos hce']
        clear HTI HPS hce' HS3
        go_wp2_with fail
        go_at_call 75
        refine HSk.out.mono ?_
        rintro e w5 ⟨rfl, hN⟩
        have HN : Hid (PaN W0 w wr R s i o res (w2.heap.size + 1) w5) := hN
        clear hN HSk hw3
        go_wp2
        obtain ⟨j5, hN1, hN2, hN3, hN4⟩ := HN.out
        go_roundw
        case rel => exact ⟨_, j5, rfl, hN1, hN2, hN3⟩
        case measure => exact hN4
      · subst hcc
        have HSk : Hid (Calls Tryz.prog 75 #[.pointer (some ⟨R, 0, none⟩)] ((w3.setCell ⟨w2.heap.size + 1, 2, none⟩ (.int .i64 1)).setCell ⟨w2.heap.size + 1, 3, none⟩ (.int .i64 (-1))) fun e w5 => e = .returned (.tuple #[]) ∧ PaN W0 w wr R s i o res (w2.heap.size + 1) w5) := part_simple HPS.out ((HTI.out.set2 (by omega) (by omega) 1).set3 (by omega) (by omega) (-1)) ((HS3.out.setQ ho (by omega) (by omega)).setQ ho (by omega) (by omega)) hce' (by omega) (by omega) fun f t => by rw [partS, if_neg (by omega), if_pos hce']
        clear HTI HPS hce' HS3
        go_wp2_with fail
        go_at_call 75
        refine HSk.out.mono ?_
        rintro e w5 ⟨rfl, hN⟩
        have HN : Hid (PaN W0 w wr R s i o res (w2.heap.size + 1) w5) := hN
        clear hN HSk hw3
        go_wp2
        obtain ⟨j5, hN1, hN2, hN3, hN4⟩ := HN.out
        go_roundw
        case rel => exact ⟨_, j5, rfl, hN1, hN2, hN3⟩
        case measure => exact hN4
      · subst hcc
        have HSk : Hid (Calls Tryz.prog 75 #[.pointer (some ⟨R, 0, none⟩)] (w3.setCell ⟨w2.heap.size + 1, 3, none⟩ (.int .i64 1)) fun e w5 => e = .returned (.tuple #[]) ∧ PaN W0 w wr R s i o res (w2.heap.size + 1) w5) := part_simple HPS.out (HTI.out.set3 (by omega) (by omega) 1) (HS3.out.setQ ho (by omega) (by omega)) hce' (by omega) (by omega) fun f t => by rw [partS, if_neg (by omega), if_neg (by omega), if_pos hce']
        clear HTI HPS hce' HS3
        go_wp2_with fail
        go_at_call 75
        refine HSk.out.mono ?_
        rintro e w5 ⟨rfl, hN⟩
        have HN : Hid (PaN W0 w wr R s i o res (w2.heap.size + 1) w5) := hN
        clear hN HSk hw3
        go_wp2
        obtain ⟨j5, hN1, hN2, hN3, hN4⟩ := HN.out
        go_roundw
        case rel => exact ⟨_, j5, rfl, hN1, hN2, hN3⟩
        case measure => exact hN4
      · subst hcc
        have HSk : Hid (Calls Tryz.prog 75 #[.pointer (some ⟨R, 0, none⟩)] w3 fun e w5 => e = .returned (.tuple #[]) ∧ Hid (Calls Tryz.prog 128 #[.pointer (some ⟨R, 0, none⟩), .pointer (some ⟨w2.heap.size + 1, 0, none⟩)] w5 fun e w6 => e = .returned (.tuple #[]) ∧ PaN W0 w wr R s i o res (w2.heap.size + 1) w6)) := part_brace L HPS.out hce'
        clear HTI HPS hce' HS3
        go_wp2_with fail
        go_at_call 75
        refine HSk.out.mono ?_
        rintro e w5 ⟨rfl, HTm⟩
        clear HSk hw3
        go_wp2_with fail
        go_at_call 128
        refine HTm.out.mono ?_
        rintro e w6 ⟨rfl, hN⟩
        have HN : Hid (PaN W0 w wr R s i o res (w2.heap.size + 1) w6) := hN
        clear hN HTm
        go_wp2
        obtain ⟨j5, hN1, hN2, hN3, hN4⟩ := HN.out
        go_roundw
        case rel => exact ⟨_, j5, rfl, hN1, hN2, hN3⟩
        case measure => exact hN4
    · have n1 : (c == 42) = false := by rw [beq_eq_false_iff_ne]; omega
      have n2 : (c == 43) = false := by rw [beq_eq_false_iff_ne]; omega
      have n3 : (c == 63) = false := by rw [beq_eq_false_iff_ne]; omega
      have n4 : (c == 123) = false := by rw [beq_eq_false_iff_ne]; omega
      have HFin : Hid (GotT W0 w R s i o res (.returned (.pointer p)) w3) := by
        have hg23 := Lib.grownBy_trans hg2 (hg3 (some R))
        refine ⟨p, j, rfl, Lib.grownBy_trans HG.out hg23, hT3.x, HP.out.stop (c := 0) hRB hg23 ?_⟩
        rcases hh2 with ⟨hB, _⟩ | ⟨q1, q2, q3⟩
        · exact .inl (hB.kept (hg3 none))
        · exact .inr ⟨q1, by omega, by omega, by omega, by omega⟩
      clear hcc hh2 hx2 hg2 hg3 hT3 hK3 HX HG HP HTI
      go_wp2
      go_ret
      exact HFin.out

end Go.Proofs.YtbjohedenfindaaGreatDoor

namespace Go.Proofs.YtbjohedenfindaaGreatDoor
open Go.RowKit
set_option linter.unusedVariables false
set_option maxRecDepth 100000

set_option maxHeartbeats 1000000 in
theorem rsev_one (kind : Int) (g cap b : Nat) (w : World) (hc : w.cell? ⟨g, 0, none⟩ = some (.pointer (some ⟨b, 0, none⟩))) :
    Calls Tryz.prog 46 #[.int .i64 kind, .slice (some ⟨g, 0, none⟩) 1 cap] w fun e w' => e = .returned (.pointer (some ⟨b, 0, none⟩)) ∧ w' = w := by
  go_enter Tryz.func46, Tryz.ntmps46
  go_wp2
  go_ret
  exact ⟨rfl, rfl⟩

set_option maxHeartbeats 1000000 in
theorem rsev_more (kind : Int) (a : Option Addr) (n cap : Nat) (w : World) (hn : n ≠ 1) :
    Calls Tryz.prog 46 #[.int .i64 kind, .slice a n cap] w fun e w' => e = .returned (.pointer (some ⟨w.heap.size, 0, none⟩)) ∧ w' = w.alloc (.cells #[.int .i64 kind, .slice none 0 0, .int .i64 0, .int .i64 0, .slice a n cap] 48) := by
  have hq : ((n : Int) == 1) = false := by rw [beq_eq_false_iff_ne]; omega
  go_enter Tryz.func46, Tryz.ntmps46
  go_wp2
  go_ret
  exact ⟨rfl, rfl⟩

theorem rsev_any {B : Nat} (kind : Int) (v : Value) (l : List Re) (w : World) (hBw : B ≤ w.heap.size) (hv : PtrsOwn w B v l) :
    Calls Tryz.prog 46 #[.int .i64 kind, v] w fun e w' => ∃ u, e = .returned u ∧ Tree (fun b => B ≤ b) w' u (gatherS kind l) ∧ ∀ row, w.grownBy w' row := by
  by_cases h1 : l.length = 1
  · obtain ⟨vs, hl, hown, hall⟩ := hv
    obtain ⟨t, ht, hT⟩ := hall 0 (by omega)
    obtain ⟨t', rfl⟩ := List.length_eq_one_iff.1 h1
    have e : t' = t := by simpa using ht
    subst e
    rcases hown.2 with ⟨rfl, h0⟩ | ⟨g, cap, cur, rfl, _⟩
    · simp at hl; omega
    · have hc := hown.cellAt 0 (by omega)
      have hc' : w.cell? ⟨g, 0, none⟩ = some (vs.getD 0 .nilFunc) := by
        have h0 : 0 < vs.length := by omega
        rw [show (⟨g, 0, none⟩ : Addr) = ⟨g, 0 * 1, none⟩ by simp]
        first | (rw [hc]; simp [h0]) | (simpa [h0] using hc)
      have hl1 : vs.length = 1 := by simpa using hl
      rw [hl1]
      obtain ⟨b, hb, _⟩ := hT.ptr
      rw [hb] at hc' hT
      refine (rsev_one kind g cap b w hc').mono ?_
      rintro e w' ⟨rfl, rfl⟩
      exact ⟨_, rfl, hT.imp fun b _ h => h.1, fun row => World.grownBy.refl _ _⟩
  · obtain ⟨a, c, rfl⟩ := ptrs_slice hv
    refine (rsev_more kind a l.length c w h1).mono ?_
    rintro e w' ⟨rfl, rfl⟩
    have hg : ∀ row, w.grownBy (w.alloc (.cells #[.int .i64 kind, .slice none 0 0, .int .i64 0, .int .i64 0, .slice a l.length c] 48)) row := fun row => World.grownBy_alloc w _ row
    refine ⟨_, rfl, ?_, hg⟩
    have e : gatherS kind l = ⟨kind, [], 0, 0, l.map some⟩ := by
      match l, h1 with
      | [], _ => rfl
      | [p], h => simp at h
      | p :: q :: r, _ => rfl
    rw [e]
    exact tree_node (heap_alloc_new w _) hBw (Or.inl ⟨rfl, none, 0, rfl⟩) (hv.grown (row := none) (by simp) (hg _))


end Go.Proofs.YtbjohedenfindaaGreatDoor
