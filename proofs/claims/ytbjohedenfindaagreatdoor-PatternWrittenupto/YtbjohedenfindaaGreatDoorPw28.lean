/- Texts of the proof, put together: VWgh. -/
import Derived.Test.YtbjohedenfindaaGreatDoorPw25
namespace Go.Proofs.YtbjohedenfindaaGreatDoor
open Go.RowKit
set_option linter.unusedVariables false
set_option maxRecDepth 100000

set_option maxHeartbeats 1000000 in
theorem canonical_rowx (b off c : Nat) (l : List Rg) (w : World) (hl : l.length ≤ 10000000) (hb : b < w.heap.size) (hc : ∀ j, j < l.length → w.cell? ⟨b, off + j * 2, none⟩ = some (.int .i64 (l.getD j (0, 0)).1) ∧ w.cell? ⟨b, off + j * 2 + 1, none⟩ = some (.int .i64 (l.getD j (0, 0)).2)) :
    Calls Tryz.prog 83 #[.slice (some ⟨b, off, none⟩) l.length c] w fun e w' => e = .returned (.bool (canonFrom 0 l)) ∧ Below w.heap.size w w' := by
  have HC : Hid (∀ j, j < l.length → w.cell? ⟨b, off + j * 2, none⟩ = some (.int .i64 (l.getD j (0, 0)).1) ∧ w.cell? ⟨b, off + j * 2 + 1, none⟩ = some (.int .i64 (l.getD j (0, 0)).2)) := hc
  have HK : Hid (canonFrom 0 l = canonFrom 0 (l.drop 0)) := by show _ = _; simp
  clear hc
  generalize canonFrom 0 l = res at *
  go_enter Tryz.func83, Tryz.ntmps83
  go_wp2
  go_loopw [3, 8] (fun lv kv wr => ∃ (k : Nat) (least : Int), k ≤ l.length ∧ kv = .int .i64 k ∧ lv = .int .i64 least ∧ 0 ≤ least ∧ least ≤ 1114113 ∧ Hid (res = canonFrom least (l.drop k)) ∧ Below w.heap.size w wr) (fun _ kv _ => l.length - (intOf kv).toNat)
  case atStart => exact ⟨0, 0, Nat.zero_le _, rfl, rfl, by omega, by omega, HK, Below.refl _ _⟩
  case round =>
    obtain ⟨k, least, hk, rfl, rfl, hl0, hl1, HKr, hbw⟩ := hrel
    by_cases hlt : k < l.length
    · obtain ⟨h1, h2⟩ := HC.out k hlt
      have h1' := (hbw.cell (p := ⟨b, off + k * 2, none⟩) hb).trans h1
      have h2' := (hbw.cell (p := ⟨b, off + k * 2 + 1, none⟩) hb).trans h2
      have hd : l.drop k = l.getD k (0, 0) :: l.drop (k + 1) := by
        rw [List.drop_eq_getElem_cons hlt]
        simp [hlt]
      have hk2 := HKr.out
      rw [hd] at hk2
      generalize l.getD k (0, 0) = r at *
      unfold canonFrom at hk2
      have hsz := hbw.size
      by_cases hno : r.1 < least ∨ r.2 < r.1 ∨ 1114111 < r.2
      · rw [if_pos hno] at hk2
        have HK2 : Hid (res = false) := hk2
        have hcs : r.1 < least ∨ (¬ r.1 < least ∧ r.2 < r.1) ∨ (¬ r.1 < least ∧ ¬ r.2 < r.1 ∧ 1114111 < r.2) := by omega
        clear hno hk2 hd h1 h2 HKr HK
        rcases hcs with g1 | ⟨g1, g2⟩ | ⟨g1, g2, g3⟩
        all_goals
          go_wp2
          go_ret
          exact ⟨by rw [HK2.out]; rfl, hbw.alloc hsz _⟩
      · rw [if_neg hno] at hk2
        have g1 : ¬ r.1 < least := fun h => hno (Or.inl h)
        have g2 : ¬ r.2 < r.1 := fun h => hno (Or.inr (Or.inl h))
        have g3 : ¬ 1114111 < r.2 := fun h => hno (Or.inr (Or.inr h))
        have HK2 : Hid (res = canonFrom (r.2 + 2) (l.drop (k + 1))) := hk2
        clear hno hk2 hd h1 h2 HKr HK
        go_wp2
        go_roundw
        case rel => exact ⟨k + 1, r.2 + 2, by omega, by go_num, rfl, by omega, by omega, HK2, hbw.alloc hsz _⟩
        case measure => simp [intOf]; omega
    · have hd : l.drop k = [] := List.drop_of_length_le (by omega)
      have HK2 : Hid (res = true) := by show _ = _; rw [HKr.out, hd]; rfl
      clear HKr HK hd
      go_wp2
      go_ret
      exact ⟨by rw [HK2.out]; rfl, hbw⟩

theorem canonical_x (v : Value) (l : List Rg) (w : World) (hl : l.length ≤ 10000000) (hv : Rngs w v l) :
    Calls Tryz.prog 83 #[v] w fun e w' => e = .returned (.bool (canonFrom 0 l)) ∧ Below w.heap.size w w' := by
  rcases hv with ⟨rfl, a, c, rfl⟩ | ⟨b, off, c, rfl, hb, hc⟩
  · exact canonical_empty a c w
  · exact canonical_rowx b off c l w hl hb hc

set_option maxHeartbeats 1000000 in
theorem wellCounted_no (a b : Int) (w : World) (h : ¬ (0 ≤ a ∧ a ≤ 50 ∧ (b = -1 ∨ (a ≤ b ∧ 1 ≤ b ∧ b ≤ 50)))) :
    Calls Tryz.prog 84 #[.int .i64 a, .int .i64 b] w fun e w' => e = .returned (.bool false) ∧ w' = w := by
  have hcs : decide (a < 0) = true ∨ (decide (a < 0) = false ∧ decide (a > 50) = true) ∨ (decide (a < 0) = false ∧ decide (a > 50) = false ∧ (b == -1) = false ∧ (b < a ∨ b < 1 ∨ 50 < b)) := by
    by_cases h1 : a < 0
    · exact .inl (by simpa using h1)
    · by_cases h2 : 50 < a
      · exact .inr (.inl ⟨by simpa using h1, by simpa using h2⟩)
      · exact .inr (.inr ⟨by simpa using h1, by simpa using h2, by rw [beq_eq_false_iff_ne]; intro e; subst e; exact h ⟨by omega, by omega, .inl rfl⟩, by omega⟩)
  clear h
  rcases hcs with g1 | ⟨g1, g2⟩ | ⟨g1, g2, g3, g4⟩
  · go_enter Tryz.func84, Tryz.ntmps84
    go_wp2
    go_ret
    exact ⟨rfl, rfl⟩
  · go_enter Tryz.func84, Tryz.ntmps84
    go_wp2
    go_ret
    exact ⟨rfl, rfl⟩
  · have ha0 : ¬ a < 0 := by simpa using g1
    have ha1 : ¬ a > 50 := by simpa using g2
    clear g1 g2
    by_cases hm : a < 1
    · have ha : a = 0 := by omega
      subst ha
      have hcc : decide (b ≥ 1) = false ∨ (decide (b ≥ 1) = true ∧ decide (b ≤ 50) = false) := by
        by_cases h1 : b < 1
        · exact .inl (by simp; omega)
        · exact .inr ⟨by simp; omega, by simp; omega⟩
      clear g4
      rcases hcc with q1 | ⟨q1, q2⟩
      all_goals
        go_enter Tryz.func84, Tryz.ntmps84
        go_wp2
        all_goals
          first
          | (exfalso; simp at *; omega)
          | (go_ret; exact ⟨by first | rfl | simp_all, rfl⟩)
    · have ha : (1 : Int) ≤ a := by omega
      have hcc : decide (b ≥ a) = false ∨ (decide (b ≥ a) = true ∧ decide (b ≤ 50) = false) := by
        by_cases h1 : b < a
        · exact .inl (by simp; omega)
        · exact .inr ⟨by simp; omega, by simp; omega⟩
      clear g4 hm
      rcases hcc with q1 | ⟨q1, q2⟩
      all_goals
        go_enter Tryz.func84, Tryz.ntmps84
        go_wp2
        all_goals
          first
          | (exfalso; simp at *; omega)
          | (go_ret; exact ⟨by first | rfl | simp_all, rfl⟩)

/-- how greatly a node may be made -/
def SzN (t : Re) : Prop := t.set.length ≤ 10000000 ∧ t.kids.length ≤ 10000000

/-- the three ways of the counts that must be 0 -/
theorem counts_cases (mn mx : Int) : (mn == 0) = false ∨ (mn = 0 ∧ (mx == 0) = false) ∨ (mn = 0 ∧ mx = 0) := by
  by_cases h1 : mn = 0
  · by_cases h2 : mx = 0
    · exact .inr (.inr ⟨h1, h2⟩)
    · exact .inr (.inl ⟨h1, by rw [beq_eq_false_iff_ne]; exact h2⟩)
  · exact .inl (by rw [beq_eq_false_iff_ne]; exact h1)

set_option maxHeartbeats 4000000 in
/-- the number of kids is not as asked -/
theorem wm_kids {w : World} {b nk ns : Nat} {kind mn mx : Int} {sa ka : Option Addr} {sc kc : Nat} (c0 : w.cell? ⟨b, 0, none⟩ = some (.int .i64 kind)) (c1 : w.cell? ⟨b, 1, none⟩ = some (.slice sa ns sc)) (c2 : w.cell? ⟨b, 2, none⟩ = some (.int .i64 mn)) (c3 : w.cell? ⟨b, 3, none⟩ = some (.int .i64 mx)) (c4 : w.cell? ⟨b, 4, none⟩ = some (.slice ka nk kc))
    (h : (kind = 1 ∧ ((nk : Int) == 0) = false) ∨ (kind = 2 ∧ nk = 1) ∨ (kind = 3 ∧ ¬ 2 ≤ (nk : Int)) ∨ (kind = 4 ∧ ¬ 2 ≤ (nk : Int)) ∨ (kind = 5 ∧ ((nk : Int) == 1) = false) ∨ ((kind == 1) = false ∧ (kind == 2) = false ∧ (kind == 3) = false ∧ (kind == 4) = false ∧ (kind == 5) = false ∧ (kind == 6) = false)) :
    Calls Tryz.prog 53 #[.pointer (some ⟨b, 0, none⟩)] w fun e w' => e = .returned (.bool false) ∧ Below w.heap.size w w' := by
  rcases counts_cases mn mx with hm | ⟨rfl, hm⟩ | ⟨rfl, rfl⟩
  all_goals
    rcases h with ⟨rfl, h⟩ | ⟨rfl, rfl⟩ | ⟨rfl, h⟩ | ⟨rfl, h⟩ | ⟨rfl, h⟩ | ⟨h1, h2, h3, h4, h5, h6⟩
    all_goals
      go_enter Tryz.func53, Tryz.ntmps53
      go_wp2
      go_ret
      exact ⟨rfl, Below.refl _ _⟩

set_option maxHeartbeats 4000000 in
theorem wm_kids6 {w : World} {b nk ns : Nat} {mn mx : Int} {sa ka : Option Addr} {sc kc : Nat} (c0 : w.cell? ⟨b, 0, none⟩ = some (.int .i64 6)) (c1 : w.cell? ⟨b, 1, none⟩ = some (.slice sa ns sc)) (c2 : w.cell? ⟨b, 2, none⟩ = some (.int .i64 mn)) (c3 : w.cell? ⟨b, 3, none⟩ = some (.int .i64 mx)) (c4 : w.cell? ⟨b, 4, none⟩ = some (.slice ka nk kc)) (h : ((nk : Int) == 1) = false) :
    Calls Tryz.prog 53 #[.pointer (some ⟨b, 0, none⟩)] w fun e w' => e = .returned (.bool false) ∧ Below w.heap.size w w' := by
  rcases counts_cases mn mx with hm | ⟨rfl, hm⟩ | ⟨rfl, rfl⟩
  all_goals
    go_enter Tryz.func53, Tryz.ntmps53
    go_wp2
    go_quiet (fail)
    go_wp2
    go_ret
    exact ⟨rfl, ⟨rfl, rfl, rfl, Nat.le_refl _, fun _ _ => rfl⟩⟩

set_option maxHeartbeats 4000000 in
/-- .. or the counts are not 0 -/
theorem wm_counts {w : World} {b nk ns : Nat} {kind mn mx : Int} {sa ka : Option Addr} {sc kc : Nat} (c0 : w.cell? ⟨b, 0, none⟩ = some (.int .i64 kind)) (c1 : w.cell? ⟨b, 1, none⟩ = some (.slice sa ns sc)) (c2 : w.cell? ⟨b, 2, none⟩ = some (.int .i64 mn)) (c3 : w.cell? ⟨b, 3, none⟩ = some (.int .i64 mx)) (c4 : w.cell? ⟨b, 4, none⟩ = some (.slice ka nk kc))
    (hm : (mn == 0) = false ∨ (mn = 0 ∧ (mx == 0) = false))
    (h : (kind = 1 ∧ nk = 0) ∨ (kind = 2 ∧ ((nk : Int) != 1) = true) ∨ (kind = 3 ∧ 2 ≤ (nk : Int)) ∨ (kind = 4 ∧ 2 ≤ (nk : Int)) ∨ (kind = 5 ∧ nk = 1)) :
    Calls Tryz.prog 53 #[.pointer (some ⟨b, 0, none⟩)] w fun e w' => e = .returned (.bool false) ∧ Below w.heap.size w w' := by
  rcases hm with hm | ⟨rfl, hm⟩
  all_goals
    rcases h with ⟨rfl, rfl⟩ | ⟨rfl, h⟩ | ⟨rfl, h⟩ | ⟨rfl, h⟩ | ⟨rfl, rfl⟩
    all_goals
      go_enter Tryz.func53, Tryz.ntmps53
      go_wp2
      go_ret
      exact ⟨rfl, Below.refl _ _⟩

set_option maxHeartbeats 4000000 in
/-- .. or the set is not empty -/
theorem wm_set {w : World} {b nk ns : Nat} {kind : Int} {sa ka : Option Addr} {sc kc : Nat} (c0 : w.cell? ⟨b, 0, none⟩ = some (.int .i64 kind)) (c1 : w.cell? ⟨b, 1, none⟩ = some (.slice sa ns sc)) (c2 : w.cell? ⟨b, 2, none⟩ = some (.int .i64 0)) (c3 : w.cell? ⟨b, 3, none⟩ = some (.int .i64 0)) (c4 : w.cell? ⟨b, 4, none⟩ = some (.slice ka nk kc))
    (hns : ((ns : Int) == 0) = false)
    (h : (kind = 2 ∧ ((nk : Int) != 1) = true) ∨ (kind = 3 ∧ 2 ≤ (nk : Int)) ∨ (kind = 4 ∧ 2 ≤ (nk : Int)) ∨ (kind = 5 ∧ nk = 1)) :
    Calls Tryz.prog 53 #[.pointer (some ⟨b, 0, none⟩)] w fun e w' => e = .returned (.bool false) ∧ Below w.heap.size w w' := by
  rcases h with ⟨rfl, h⟩ | ⟨rfl, h⟩ | ⟨rfl, h⟩ | ⟨rfl, rfl⟩
  all_goals
    go_enter Tryz.func53, Tryz.ntmps53
    go_wp2
    go_ret
    exact ⟨by first | rfl | simp_all, Below.refl _ _⟩

set_option maxHeartbeats 4000000 in
theorem wm_canon {w : World} {b ns : Nat} {sa ka : Option Addr} {sc kc : Nat} (c0 : w.cell? ⟨b, 0, none⟩ = some (.int .i64 1)) (c1 : w.cell? ⟨b, 1, none⟩ = some (.slice sa ns sc)) (c2 : w.cell? ⟨b, 2, none⟩ = some (.int .i64 0)) (c3 : w.cell? ⟨b, 3, none⟩ = some (.int .i64 0)) (c4 : w.cell? ⟨b, 4, none⟩ = some (.slice ka 0 kc))
    (HC : Hid (Calls Tryz.prog 83 #[.slice sa ns sc] w fun e w' => e = .returned (.bool false) ∧ Below w.heap.size w w')) :
    Calls Tryz.prog 53 #[.pointer (some ⟨b, 0, none⟩)] w fun e w' => e = .returned (.bool false) ∧ Below w.heap.size w w' := by
  go_enter Tryz.func53, Tryz.ntmps53
  go_wp2_with fail
  refine HC.out.mono ?_
  rintro e w1 ⟨rfl, hb⟩
  go_wp2
  go_ret
  exact ⟨rfl, hb⟩

set_option maxHeartbeats 4000000 in
/-- a repetition that is not as asked -/
theorem wm_times {w : World} {b ns : Nat} {mn mx : Int} {cb : Bool} {sa ka : Option Addr} {sc kc : Nat} (c0 : w.cell? ⟨b, 0, none⟩ = some (.int .i64 6)) (c1 : w.cell? ⟨b, 1, none⟩ = some (.slice sa ns sc)) (c2 : w.cell? ⟨b, 2, none⟩ = some (.int .i64 mn)) (c3 : w.cell? ⟨b, 3, none⟩ = some (.int .i64 mx)) (c4 : w.cell? ⟨b, 4, none⟩ = some (.slice ka 1 kc))
    (HW : Hid (∀ w, Calls Tryz.prog 84 #[.int .i64 mn, .int .i64 mx] w fun e w' => e = .returned (.bool cb) ∧ w' = w)) (h : cb = false ∨ (cb = true ∧ ((ns : Int) == 0) = false)) :
    Calls Tryz.prog 53 #[.pointer (some ⟨b, 0, none⟩)] w fun e w' => e = .returned (.bool false) ∧ Below w.heap.size w w' := by
  rcases counts_cases mn mx with hm | ⟨rfl, hm⟩ | ⟨rfl, rfl⟩
  all_goals
    rcases h with rfl | ⟨rfl, h⟩
    all_goals
      go_enter Tryz.func53, Tryz.ntmps53
      go_wp2
      go_quiet ((go_at_call 84; exact Calls.quiet_of_same (HW.out _)))
      go_wp2
      go_ret
      exact ⟨by first | rfl | simp_all, ⟨rfl, rfl, rfl, Nat.le_refl _, fun _ _ => rfl⟩⟩

theorem wellMade_no {w : World} {b : Nat} {t : Re} {sv : Value} {ka : Option Addr} {kc : Nat} (hz : SzN t) (hn : NodeAt w b t sv (.slice ka t.kids.length kc)) (hset : Rngs w sv t.set) (hok : ¬ NodeOk t) :
    Calls Tryz.prog 53 #[.pointer (some ⟨b, 0, none⟩)] w fun e w' => e = .returned (.bool false) ∧ Below w.heap.size w w' := by
  obtain ⟨c0, c1, c2, c3, c4⟩ := hn.cells
  obtain ⟨sa, sc, rfl⟩ : ∃ a c, sv = .slice a t.set.length c := by
    rcases hset with ⟨h, a, c, rfl⟩ | ⟨b, off, c, rfl, _⟩
    · exact ⟨a, c, by rw [h]; rfl⟩
    · exact ⟨_, _, rfl⟩
  have hq : ∀ {n m : Nat}, n ≠ m → ((n : Int) == (m : Int)) = false := fun h => by rw [beq_eq_false_iff_ne]; omega
  have hset0 : t.set.length = 0 → t.set = [] := List.eq_nil_of_length_eq_zero
  have hkid0 : t.kids.length = 0 → t.kids = [] := List.eq_nil_of_length_eq_zero
  obtain ⟨hz1, hz2⟩ := hz
  unfold NodeOk at hok
  by_cases k1 : t.kind = 1
  · rw [k1] at c0
    by_cases n0 : t.kids.length = 0
    · rcases counts_cases t.mn t.mx with hm | hm | ⟨hm1, hm2⟩
      · exact wm_counts c0 c1 c2 c3 c4 (.inl hm) (.inl ⟨rfl, n0⟩)
      · exact wm_counts c0 c1 c2 c3 c4 (.inr hm) (.inl ⟨rfl, n0⟩)
      · rw [hm1] at c2
        rw [hm2] at c3
        rw [n0] at c4
        have hc : canonFrom 0 t.set = false := by
          rw [← Bool.not_eq_true]
          intro hc
          exact hok (.inl ⟨k1, hkid0 n0, hm1, hm2, hc, hz1⟩)
        have := canonical_x _ t.set w hz1 hset
        rw [hc] at this
        exact wm_canon c0 c1 c2 c3 c4 this
    · exact wm_kids c0 c1 c2 c3 c4 (.inl ⟨rfl, hq n0⟩)
  · by_cases k2 : t.kind = 2
    · rw [k2] at c0
      by_cases n1 : t.kids.length = 1
      · exact wm_kids c0 c1 c2 c3 c4 (.inr (.inl ⟨rfl, n1⟩))
      · have hn : ((t.kids.length : Int) != 1) = true := by rw [bne_iff_ne]; omega
        rcases counts_cases t.mn t.mx with hm | hm | ⟨hm1, hm2⟩
        · exact wm_counts c0 c1 c2 c3 c4 (.inl hm) (.inr (.inl ⟨rfl, hn⟩))
        · exact wm_counts c0 c1 c2 c3 c4 (.inr hm) (.inr (.inl ⟨rfl, hn⟩))
        · rw [hm1] at c2
          rw [hm2] at c3
          refine wm_set c0 c1 c2 c3 c4 (hq fun h => ?_) (.inl ⟨rfl, hn⟩)
          exact hok (.inr (.inl ⟨k2, n1, hz2, hm1, hm2, hset0 h⟩))
    · by_cases k34 : t.kind = 3 ∨ t.kind = 4
      · by_cases n2 : 2 ≤ t.kids.length
        · have hn : 2 ≤ (t.kids.length : Int) := by omega
          have hcase : t.set.length ≠ 0 ∨ ((t.mn == 0) = false ∨ (t.mn = 0 ∧ (t.mx == 0) = false)) := by
            rcases counts_cases t.mn t.mx with hm | hm | ⟨hm1, hm2⟩
            · exact .inr (.inl hm)
            · exact .inr (.inr hm)
            · exact .inl fun h => hok (.inr (.inr (.inl ⟨k34, n2, hz2, hm1, hm2, hset0 h⟩)))
          rcases counts_cases t.mn t.mx with hm | hm | ⟨hm1, hm2⟩
          · rcases k34 with k | k <;> rw [k] at c0
            · exact wm_counts c0 c1 c2 c3 c4 (.inl hm) (.inr (.inr (.inl ⟨rfl, hn⟩)))
            · exact wm_counts c0 c1 c2 c3 c4 (.inl hm) (.inr (.inr (.inr (.inl ⟨rfl, hn⟩))))
          · rcases k34 with k | k <;> rw [k] at c0
            · exact wm_counts c0 c1 c2 c3 c4 (.inr hm) (.inr (.inr (.inl ⟨rfl, hn⟩)))
            · exact wm_counts c0 c1 c2 c3 c4 (.inr hm) (.inr (.inr (.inr (.inl ⟨rfl, hn⟩))))
          · have hns : t.set.length ≠ 0 := fun h => hok (.inr (.inr (.inl ⟨k34, n2, hz2, hm1, hm2, hset0 h⟩)))
            rw [hm1] at c2
            rw [hm2] at c3
            rcases k34 with k | k <;> rw [k] at c0
            · exact wm_set c0 c1 c2 c3 c4 (hq hns) (.inr (.inl ⟨rfl, hn⟩))
            · exact wm_set c0 c1 c2 c3 c4 (hq hns) (.inr (.inr (.inl ⟨rfl, hn⟩)))
        · have hn : ¬ 2 ≤ (t.kids.length : Int) := by omega
          rcases k34 with k | k <;> rw [k] at c0
          · exact wm_kids c0 c1 c2 c3 c4 (.inr (.inr (.inl ⟨rfl, hn⟩)))
          · exact wm_kids c0 c1 c2 c3 c4 (.inr (.inr (.inr (.inl ⟨rfl, hn⟩))))
      · by_cases k5 : t.kind = 5
        · rw [k5] at c0
          by_cases n1 : t.kids.length = 1
          · rcases counts_cases t.mn t.mx with hm | hm | ⟨hm1, hm2⟩
            · exact wm_counts c0 c1 c2 c3 c4 (.inl hm) (.inr (.inr (.inr (.inr ⟨rfl, n1⟩))))
            · exact wm_counts c0 c1 c2 c3 c4 (.inr hm) (.inr (.inr (.inr (.inr ⟨rfl, n1⟩))))
            · rw [hm1] at c2
              rw [hm2] at c3
              refine wm_set c0 c1 c2 c3 c4 (hq fun h => ?_) (.inr (.inr (.inr ⟨rfl, n1⟩)))
              exact hok (.inr (.inr (.inr (.inl ⟨k5, n1, hm1, hm2, hset0 h⟩))))
          · exact wm_kids c0 c1 c2 c3 c4 (.inr (.inr (.inr (.inr (.inl ⟨rfl, hq n1⟩)))))
        · by_cases k6 : t.kind = 6
          · rw [k6] at c0
            by_cases n1 : t.kids.length = 1
            · rw [n1] at c4
              by_cases hc : 0 ≤ t.mn ∧ t.mn ≤ 50 ∧ (t.mx = -1 ∨ (t.mn ≤ t.mx ∧ 1 ≤ t.mx ∧ t.mx ≤ 50))
              · refine wm_times c0 c1 c2 c3 c4 (cb := true) (fun w => wellCounted_any _ _ w hc.1 hc.2.1 hc.2.2) (.inr ⟨rfl, hq fun h => ?_⟩)
                exact hok (.inr (.inr (.inr (.inr ⟨k6, n1, hc.1, hc.2.1, hc.2.2, hset0 h⟩))))
              · exact wm_times c0 c1 c2 c3 c4 (cb := false) (fun w => wellCounted_no _ _ w hc) (.inl rfl)
            · exact wm_kids6 c0 c1 c2 c3 c4 (hq n1)
          · refine wm_kids c0 c1 c2 c3 c4 (.inr (.inr (.inr (.inr (.inr ⟨?_, ?_, ?_, ?_, ?_, ?_⟩)))))
            all_goals
              rw [beq_eq_false_iff_ne]
              first | exact k1 | exact k2 | exact k5 | exact k6 | exact fun h => k34 (.inl h) | exact fun h => k34 (.inr h)

end Go.Proofs.YtbjohedenfindaaGreatDoor
