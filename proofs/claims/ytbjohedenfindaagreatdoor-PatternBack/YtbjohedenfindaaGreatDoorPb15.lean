/- Texts of the proof, put together: PTms, PItm. -/
import Derived.Test.YtbjohedenfindaaGreatDoorPb11
namespace Go.Proofs.YtbjohedenfindaaGreatDoor
open Go.RowKit
set_option linter.unusedVariables false
set_option maxRecDepth 100000

theorem digVal_pos (s : ByteArray) (i : Nat) : ∀ k, (∀ j, j < k → isDig s (i + j) = true) → 0 ≤ digVal s i k
  | 0, _ => by simp [digVal]
  | k + 1, h => by
    have h1 := digVal_pos s i k (fun j hj => h j (by omega))
    have h2 := h k (by omega)
    simp [isDig] at h2
    simp only [digVal]
    omega
theorem countS_pos {s : ByteArray} {i j : Nat} {a : Int} (h : countS s i = some (a, j)) : 0 ≤ a := by
  unfold countS at h
  split at h
  · simp at h
  · simp at h
    rw [← h.1]
    exact digVal_pos s i _ (digRun_all s s.size i)

def TwoV (p : Int × Int) (_ : World) (v : Value) : Prop := v = .tuple #[.int .i64 p.1, .int .i64 p.2]

set_option maxHeartbeats 4000000 in
theorem times_any {W0 w : World} (L : LibC W0) {R i o M : Nat} {s : ByteArray} (h : St W0 w R s i o M) :
    Calls Tryz.prog 137 #[.pointer (some ⟨R, 0, none⟩)] w (Got W0 w R s o M (timesS s i) TwoV) := by
  have HS : Hid (St W0 w R s i o M) := h
  have HC : Hid (timesS s i = match countS s i with
    | none => none
    | some (a, j) =>
      if cpAt s j = 44 then
        if cpAt s (j + 1) = 125 then some ((a, -1), j + 2)
        else match countS s (j + 1) with
          | none => none
          | some (b, k) => if b < a ∨ b < 1 ∨ cpAt s k ≠ 125 then none else some ((a, b), k + 1)
      else if cpAt s j ≠ 125 ∨ a < 1 then none else some ((a, a), j + 1)) := rfl
  generalize timesS s i = res at *
  obtain ⟨_, c1, _, _⟩ := h.at_.cells
  have hs := h.text
  have hi := h.inn
  clear h
  go_enter Tryz.func137, Tryz.ntmps137
  go_wp2_with fail
  refine (count_any L HS.out).mono ?_
  intro e w1 hG
  obtain ⟨hg1, ⟨hx, f, rfl⟩ | ⟨⟨a, j⟩, v, hx, rfl, hv, hS1⟩⟩ := hG.both
  · exact ⟨rfl, Got.bad (by rw [HC.out, hx]) hg1 ⟨f, rfl⟩⟩
  · have hv' : v = .int .i64 a := hv
    subst hv'
    have ha := countS_pos hx
    obtain ⟨hj0, hj1, ha50⟩ := countS_some hi hx
    have HC2 : Hid (res = if cpAt s j = 44 then
        if cpAt s (j + 1) = 125 then some ((a, -1), j + 2)
        else match countS s (j + 1) with
          | none => none
          | some (b, k) => if b < a ∨ b < 1 ∨ cpAt s k ≠ 125 then none else some ((a, b), k + 1)
      else if cpAt s j ≠ 125 ∨ a < 1 then none else some ((a, a), j + 1)) := by show _ = _; rw [HC.out, hx]
    have HS1 : Hid (St W0 w1 R s j o M) := hS1
    clear HC hx hG hS1 c1
    by_cases hcomma : cpAt s j = 44
    · obtain ⟨hjl, hjz⟩ := cp_eq_size hcomma (by omega) (by omega)
      have HT := take_yes L HS1.out 44 hcomma
      rw [hjz] at HT
      have HT' : Hid (Calls Tryz.prog 72 #[.pointer (some ⟨R, 0, none⟩), .int .i32 44] w1 fun e w' => e = .returned (.bool true) ∧ w1.grownBy w' (some R) ∧ St W0 w' R s (j + 1) o M) := HT
      have HC3 : Hid (res = if cpAt s (j + 1) = 125 then some ((a, -1), j + 2)
        else match countS s (j + 1) with
          | none => none
          | some (b, k) => if b < a ∨ b < 1 ∨ cpAt s k ≠ 125 then none else some ((a, b), k + 1)) := by show _ = _; rw [HC2.out, if_pos hcomma]
      clear HT HC2 hcomma hjz
      go_wp2_with fail
      refine HT'.out.mono ?_
      rintro e w2 ⟨rfl, hg2, hS2⟩
      have hg12 := Lib.grownBy_trans hg1 hg2
      have HS2 : Hid (St W0 w2 R s (j + 1) o M) := hS2
      clear hS2
      by_cases hbr : cpAt s (j + 1) = 125
      · obtain ⟨hjl2, hjz2⟩ := cp_eq_size hbr (by omega) (by omega)
        have HT := take_yes L HS2.out 125 hbr
        rw [hjz2] at HT
        have HT2 : Hid (Calls Tryz.prog 72 #[.pointer (some ⟨R, 0, none⟩), .int .i32 125] w2 fun e w' => e = .returned (.bool true) ∧ w2.grownBy w' (some R) ∧ St W0 w' R s (j + 2) o M) := HT
        have HC4 : Hid (res = some ((a, -1), j + 2)) := by show _ = _; rw [HC3.out, if_pos hbr]
        clear HT HC3 hbr hjz2
        go_wp2_with fail
        refine HT2.out.mono ?_
        rintro e w3 ⟨rfl, hg3, hS3⟩
        go_wp2
        go_ret2
        exact Got.ok HC4.out (Lib.grownBy_trans hg12 hg3) rfl hS3
      · have HT2 : Hid (Calls Tryz.prog 72 #[.pointer (some ⟨R, 0, none⟩), .int .i32 125] w2 fun e w' => e = .returned (.bool false) ∧ w2.grownBy w' (some R) ∧ St W0 w' R s (j + 1) o M) := take_no L HS2.out 125 hbr
        have HC4 : Hid (res = match countS s (j + 1) with
          | none => none
          | some (b, k) => if b < a ∨ b < 1 ∨ cpAt s k ≠ 125 then none else some ((a, b), k + 1)) := by show _ = _; rw [HC3.out, if_neg hbr]
        clear HC3 hbr
        go_wp2_with fail
        refine HT2.out.mono ?_
        rintro e w3 ⟨rfl, hg3, hS3⟩
        have hg13 := Lib.grownBy_trans hg12 hg3
        obtain ⟨_, d1, _, _⟩ := hS3.at_.cells
        have HS3 : Hid (St W0 w3 R s (j + 1) o M) := hS3
        clear hS3
        go_wp2_with fail
        refine (count_any L HS3.out).mono ?_
        intro e w4 hG
        obtain ⟨hg4, ⟨hx, f, rfl⟩ | ⟨⟨b, k⟩, v, hx, rfl, hv, hS4⟩⟩ := hG.both
        · exact ⟨rfl, Got.bad (by rw [HC4.out, hx]) (Lib.grownBy_trans hg13 hg4) ⟨f, rfl⟩⟩
        · have hv' : v = .int .i64 b := hv
          subst hv'
          have hb := countS_pos hx
          have hk1 := (countS_some (by omega) hx).2.1
          have hg14 := Lib.grownBy_trans hg13 hg4
          have HC5 : Hid (res = if b < a ∨ b < 1 ∨ cpAt s k ≠ 125 then none else some ((a, b), k + 1)) := by show _ = _; rw [HC4.out, hx]
          have HS4 : Hid (St W0 w4 R s k o M) := hS4
          obtain ⟨te, pe, d2⟩ := L.synAt hS4.env
          clear HC4 hx hG hS4 d1 hv
          by_cases ha1 : a < 1
          · have ha0 : a = 0 := by omega
            subst ha0
            by_cases hlow : b < 1
            · have HB : Hid (b < 0 ∨ b < 1) := by show b < 0 ∨ b < 1; omega
              go_wp2_with fail
              refine (throw_any _ _ _ _).mono ?_
              rintro e w' ⟨⟨f, rfl⟩, hg5⟩
              refine ⟨rfl, Got.bad ?_ (Lib.grownBy_trans hg14 (hg5 _)) ⟨f, rfl⟩⟩
              rw [HC5.out, if_pos (by rcases HB.out with h | h; exact Or.inl h; exact Or.inr (Or.inl h))]
            · by_cases hend : cpAt s k = 125
              · obtain ⟨hkl, hkz⟩ := cp_eq_size hend (by omega) (by omega)
                have HW := want_yes L HS4.out 125 hend
                rw [hkz] at HW
                have HW2 : Hid (Calls Tryz.prog 43 #[.pointer (some ⟨R, 0, none⟩), .int .i32 125] w4 fun e w' => e = .returned (.tuple #[]) ∧ w4.grownBy w' (some R) ∧ St W0 w' R s (k + 1) o M) := HW
                have HC6 : Hid (res = some ((0, b), k + 1)) := by show _ = _; rw [HC5.out, if_neg (by intro hh; rcases hh with h | h | h; omega; omega; exact h hend)]
                clear HW hkz hend HC5
                go_wp2_with fail
                refine HW2.out.mono ?_
                rintro e w5 ⟨rfl, hg5, hS5⟩
                go_wp2
                go_ret2
                exact Got.ok HC6.out (Lib.grownBy_trans hg14 hg5) rfl hS5
              · have HW2 : Hid (Calls Tryz.prog 43 #[.pointer (some ⟨R, 0, none⟩), .int .i32 125] w4 fun e w' => Thrown e ∧ w4.grownBy w' (some R)) := want_no L HS4.out 125 hend
                have HC6 : Hid (res = none) := by show _ = _; rw [HC5.out, if_pos (Or.inr (Or.inr hend))]
                clear hend HC5
                go_wp2_with fail
                refine HW2.out.mono ?_
                rintro e w5 ⟨⟨f, rfl⟩, hg5⟩
                exact ⟨rfl, Got.bad HC6.out (Lib.grownBy_trans hg14 hg5) ⟨f, rfl⟩⟩
          · have ha2 : (1 : Int) ≤ a := by omega
            clear ha1
            by_cases hlow : b < a
            · have HB : Hid (b < a ∨ b < 1) := by show b < a ∨ b < 1; omega
              go_wp2_with fail
              refine (throw_any _ _ _ _).mono ?_
              rintro e w' ⟨⟨f, rfl⟩, hg5⟩
              refine ⟨rfl, Got.bad ?_ (Lib.grownBy_trans hg14 (hg5 _)) ⟨f, rfl⟩⟩
              rw [HC5.out, if_pos (by rcases HB.out with h | h; exact Or.inl h; exact Or.inr (Or.inl h))]
            · by_cases hend : cpAt s k = 125
              · obtain ⟨hkl, hkz⟩ := cp_eq_size hend (by omega) (by omega)
                have HW := want_yes L HS4.out 125 hend
                rw [hkz] at HW
                have HW2 : Hid (Calls Tryz.prog 43 #[.pointer (some ⟨R, 0, none⟩), .int .i32 125] w4 fun e w' => e = .returned (.tuple #[]) ∧ w4.grownBy w' (some R) ∧ St W0 w' R s (k + 1) o M) := HW
                have HC6 : Hid (res = some ((a, b), k + 1)) := by show _ = _; rw [HC5.out, if_neg (by intro hh; rcases hh with h | h | h; omega; omega; exact h hend)]
                clear HW hkz hend HC5
                go_wp2_with fail
                refine HW2.out.mono ?_
                rintro e w5 ⟨rfl, hg5, hS5⟩
                go_wp2
                go_ret2
                exact Got.ok HC6.out (Lib.grownBy_trans hg14 hg5) rfl hS5
              · have HW2 : Hid (Calls Tryz.prog 43 #[.pointer (some ⟨R, 0, none⟩), .int .i32 125] w4 fun e w' => Thrown e ∧ w4.grownBy w' (some R)) := want_no L HS4.out 125 hend
                have HC6 : Hid (res = none) := by show _ = _; rw [HC5.out, if_pos (Or.inr (Or.inr hend))]
                clear hend HC5
                go_wp2_with fail
                refine HW2.out.mono ?_
                rintro e w5 ⟨⟨f, rfl⟩, hg5⟩
                exact ⟨rfl, Got.bad HC6.out (Lib.grownBy_trans hg14 hg5) ⟨f, rfl⟩⟩
    · have HT' : Hid (Calls Tryz.prog 72 #[.pointer (some ⟨R, 0, none⟩), .int .i32 44] w1 fun e w' => e = .returned (.bool false) ∧ w1.grownBy w' (some R) ∧ St W0 w' R s j o M) := take_no L HS1.out 44 hcomma
      have HC3 : Hid (res = if cpAt s j ≠ 125 ∨ a < 1 then none else some ((a, a), j + 1)) := by show _ = _; rw [HC2.out, if_neg hcomma]
      clear HC2 hcomma
      go_wp2_with fail
      refine HT'.out.mono ?_
      rintro e w2 ⟨rfl, hg2, hS2⟩
      have hg12 := Lib.grownBy_trans hg1 hg2
      have HS2 : Hid (St W0 w2 R s j o M) := hS2
      clear hS2
      by_cases hend : cpAt s j = 125
      · obtain ⟨hkl, hkz⟩ := cp_eq_size hend (by omega) (by omega)
        have HW := want_yes L HS2.out 125 hend
        rw [hkz] at HW
        have HW2 : Hid (Calls Tryz.prog 43 #[.pointer (some ⟨R, 0, none⟩), .int .i32 125] w2 fun e w' => e = .returned (.tuple #[]) ∧ w2.grownBy w' (some R) ∧ St W0 w' R s (j + 1) o M) := HW
        have HC4 : Hid (res = if a < 1 then none else some ((a, a), j + 1)) := by show _ = _; rw [HC3.out]; simp [hend]
        clear HW hkz hend HC3
        go_wp2_with fail
        refine HW2.out.mono ?_
        rintro e w3 ⟨rfl, hg3, hS3⟩
        have hg13 := Lib.grownBy_trans hg12 hg3
        obtain ⟨te, pe, d2⟩ := L.synAt hS3.env
        have HS3 : Hid (St W0 w3 R s (j + 1) o M) := hS3
        clear hS3
        by_cases h0 : a < 1
        · have ha0 : a = 0 := by omega
          subst ha0
          go_wp2_with fail
          refine (throw_any _ _ _ _).mono ?_
          rintro e w' ⟨⟨f, rfl⟩, hg4⟩
          exact ⟨rfl, Got.bad (by rw [HC4.out, if_pos (by omega)]) (Lib.grownBy_trans hg13 (hg4 _)) ⟨f, rfl⟩⟩
        · have hne : (a == 0) = false := by rw [beq_eq_false_iff_ne]; omega
          have HC5 : Hid (res = some ((a, a), j + 1)) := by show _ = _; rw [HC4.out, if_neg h0]
          go_wp2
          go_ret2
          exact Got.ok HC5.out hg13 rfl HS3.out
      · have HW2 : Hid (Calls Tryz.prog 43 #[.pointer (some ⟨R, 0, none⟩), .int .i32 125] w2 fun e w' => Thrown e ∧ w2.grownBy w' (some R)) := want_no L HS2.out 125 hend
        have HC4 : Hid (res = none) := by show _ = _; rw [HC3.out, if_pos (Or.inl hend)]
        clear hend HC3
        go_wp2_with fail
        refine HW2.out.mono ?_
        rintro e w3 ⟨⟨f, rfl⟩, hg3⟩
        exact ⟨rfl, Got.bad HC4.out (Lib.grownBy_trans hg12 hg3) ⟨f, rfl⟩⟩

end Go.Proofs.YtbjohedenfindaaGreatDoor

namespace Go.Proofs.YtbjohedenfindaaGreatDoor
open Go.RowKit
set_option linter.unusedVariables false
set_option maxRecDepth 100000

theorem grownBy_new {w w1 : World} {row : Option Nat} (h : w.grownBy w1 row) {b : Nat} (hb : w.heap.size ≤ b) (i : Nat) (v : Value) : w.grownBy (w1.setCell ⟨b, i, none⟩ v) row :=
  ⟨h.os, h.tape, h.output, by simp [World.setCell]; exact h.size, fun k hk hne => (Below.heap_setCell w1 ⟨b, i, none⟩ v k (by show k ≠ b; omega)).trans (h.block k hk hne)⟩

def RgV (r : Rg) (_ : World) (v : Value) : Prop := v = .agg #[.int .i64 r.1, .int .i64 r.2]

theorem RdAt.alloc {w : World} {R i o M : Nat} {s : ByteArray} (h : RdAt w R s i o M) (ob : Obj) : RdAt (w.alloc ob) R s i o M := h.kept (World.grownBy_alloc w ob none)
theorem St.alloc {W0 w : World} {R i o M : Nat} {s : ByteArray} (h : St W0 w R s i o M) (ob : Obj) : St W0 (w.alloc ob) R s i o M := h.step (World.grownBy_alloc w ob _) h.inn (h.at_.alloc ob)

set_option maxHeartbeats 2000000 in
theorem item_any {W0 w : World} (L : LibC W0) {R i o M : Nat} {s : ByteArray} (h : St W0 w R s i o M) :
    Calls Tryz.prog 169 #[.pointer (some ⟨R, 0, none⟩)] w (Got W0 w R s o M (itemS s i) RgV) := by
  have hRw := h.at_.lt
  have HS0 : Hid (St W0 w R s i o M) := h
  have hA := h.alloc (.cells #[.int .i64 0, .int .i64 0] 101)
  have HS : Hid (St W0 (w.alloc (.cells #[.int .i64 0, .int .i64 0] 101)) R s i o M) := hA
  have hg0 : w.grownBy (w.alloc (.cells #[.int .i64 0, .int .i64 0] 101)) (some R) := World.grownBy_alloc w _ _
  have HC : Hid (itemS s i = match pointS s innerS i with
    | none => none
    | some (lo, j) =>
      if cpAt s j = 45 then
        match pointS s innerS (j + 1) with
        | none => none
        | some (hi, k) => if hi < lo then none else some ((lo, hi), k)
      else some ((lo, lo), j)) := rfl
  generalize itemS s i = res at *
  obtain ⟨_, c1, _, _⟩ := hA.at_.cells
  have hB : (w.alloc (.cells #[.int .i64 0, .int .i64 0] 101)).heap[w.heap.size]? = some (.cells #[.int .i64 0, .int .i64 0] 101 (0, 0)) := heap_alloc_new w _
  have HB : Hid ((w.alloc (.cells #[.int .i64 0, .int .i64 0] 101)).heap[w.heap.size]? = some (.cells #[.int .i64 0, .int .i64 0] 101 (0, 0))) := hB
  have hs := h.text
  have hi := h.inn
  clear h hA hB
  go_enter Tryz.func169, Tryz.ntmps169
  go_wp2_with fail
  refine (ppoint_any L HS.out innerB innerS (Or.inr ⟨rfl, rfl⟩)).mono ?_
  intro e w1 hG
  obtain ⟨hg1, ⟨hx, f, rfl⟩ | ⟨⟨lo, j⟩, v, hx, rfl, hv, hS1⟩⟩ := hG.both
  · exact ⟨rfl, Got.bad (by rw [HC.out, hx]) (Lib.grownBy_trans hg0 hg1) ⟨f, rfl⟩⟩
  · have hv' : v = .int .i64 lo := hv
    subst hv'
    obtain ⟨hj0, hj1, hlo0, hlo1⟩ := pointS_some hi hx
    have HC2 : Hid (res = if cpAt s j = 45 then
        match pointS s innerS (j + 1) with
        | none => none
        | some (hi, k) => if hi < lo then none else some ((lo, hi), k)
      else some ((lo, lo), j)) := by show _ = _; rw [HC.out, hx]
    have HS1 : Hid (St W0 w1 R s j o M) := hS1
    have hb1 : w1.heap[w.heap.size]? = some (.cells #[.int .i64 0, .int .i64 0] 101 (0, 0)) := (hg1.block _ (by simp) (fun e => by cases e; omega)).trans HB.out
    have HB1 : Hid (w1.heap[w.heap.size]? = some (.cells #[.int .i64 0, .int .i64 0] 101 (0, 0))) := hb1
    have hg01 := Lib.grownBy_trans hg0 hg1
    clear HC hx hG hS1 c1 hv hb1 HB
    by_cases hm : cpAt s j = 45
    · obtain ⟨hjl, hjz⟩ := cp_eq_size hm (by omega) (by omega)
      have HT := take_yes L HS1.out 45 hm
      rw [hjz] at HT
      have HT' : Hid (Calls Tryz.prog 72 #[.pointer (some ⟨R, 0, none⟩), .int .i32 45] w1 fun e w' => e = .returned (.bool true) ∧ w1.grownBy w' (some R) ∧ St W0 w' R s (j + 1) o M) := HT
      have HC3 : Hid (res = match pointS s innerS (j + 1) with
        | none => none
        | some (hi, k) => if hi < lo then none else some ((lo, hi), k)) := by show _ = _; rw [HC2.out, if_pos hm]
      clear HT HC2 hm hjz
      go_wp2_with fail
      refine HT'.out.mono ?_
      rintro e w2 ⟨rfl, hg2, hS2⟩
      have hg02 := Lib.grownBy_trans hg01 hg2
      have hb2 : w2.heap[w.heap.size]? = some (.cells #[.int .i64 0, .int .i64 0] 101 (0, 0)) := (hg2.block _ (Array.getElem?_eq_some_iff.1 HB1.out).1 (fun e => by cases e; omega)).trans HB1.out
      have HB2 : Hid (w2.heap[w.heap.size]? = some (.cells #[.int .i64 0, .int .i64 0] 101 (0, 0))) := hb2
      have HS2 : Hid (St W0 w2 R s (j + 1) o M) := hS2
      clear hS2 hb2
      go_wp2_with fail
      refine (ppoint_any L HS2.out innerB innerS (Or.inr ⟨rfl, rfl⟩)).mono ?_
      intro e w3 hG
      obtain ⟨hg3, ⟨hx, f, rfl⟩ | ⟨⟨up, k⟩, v, hx, rfl, hv, hS3⟩⟩ := hG.both
      · exact ⟨rfl, Got.bad (by rw [HC3.out, hx]) (Lib.grownBy_trans hg02 hg3) ⟨f, rfl⟩⟩
      · have hv' : v = .int .i64 up := hv
        subst hv'
        have hg03 := Lib.grownBy_trans hg02 hg3
        have hb3 : w3.heap[w.heap.size]? = some (.cells #[.int .i64 0, .int .i64 0] 101 (0, 0)) := (hg3.block _ (Array.getElem?_eq_some_iff.1 HB2.out).1 (fun e => by cases e; omega)).trans HB2.out
        have HC4 : Hid (res = if up < lo then none else some ((lo, up), k)) := by show _ = _; rw [HC3.out, hx]
        have HS3 : Hid (St W0 w3 R s k o M) := hS3
        obtain ⟨te, pe, d2⟩ := L.synAt hS3.env
        clear HC3 hx hG hS3 hv
        by_cases hlt : up < lo
        · go_wp2_with fail
          refine (throw_any _ _ _ _).mono ?_
          rintro e w' ⟨⟨f, rfl⟩, hg4⟩
          exact ⟨rfl, Got.bad (by rw [HC4.out, if_pos hlt]) (Lib.grownBy_trans hg03 (hg4 _)) ⟨f, rfl⟩⟩
        · have HC5 : Hid (res = some ((lo, up), k)) := by show _ = _; rw [HC4.out, if_neg hlt]
          have k0 : w3.cell? ⟨w.heap.size, 0, none⟩ = some (.int .i64 0) := by simp [World.cell?, hb3]
          have k1 : w3.cell? ⟨w.heap.size, 1, none⟩ = some (.int .i64 0) := by simp [World.cell?, hb3]
          have kf0 : w3.frozen? ⟨w.heap.size, 0, none⟩ = false := by simp [World.frozen?, hb3]
          have kf1 : w3.frozen? ⟨w.heap.size, 1, none⟩ = false := by simp [World.frozen?, hb3]
          clear hb3 HC4
          go_wp2
          refine bodyPost_ret (v := .agg #[.int .i64 lo, .int .i64 up]) (by simp [results, Tryz.results169, go_sem, k0, k1]) rfl ?_
          have hgz := grownBy_new (grownBy_new hg03 (Nat.le_refl _) 0 (.int .i64 lo)) (Nat.le_refl _) 1 (.int .i64 up)
          refine Got.ok HC5.out hgz rfl (HS0.out.step hgz HS3.out.inn ?_)
          have hne : R ≠ w.heap.size := by omega
          exact (Below.heap_setCell _ ⟨w.heap.size, 1, none⟩ _ R hne).trans ((Below.heap_setCell _ ⟨w.heap.size, 0, none⟩ _ R hne).trans HS3.out.at_)
    · have HT' : Hid (Calls Tryz.prog 72 #[.pointer (some ⟨R, 0, none⟩), .int .i32 45] w1 fun e w' => e = .returned (.bool false) ∧ w1.grownBy w' (some R) ∧ St W0 w' R s j o M) := take_no L HS1.out 45 hm
      have HC3 : Hid (res = some ((lo, lo), j)) := by show _ = _; rw [HC2.out, if_neg hm]
      clear HC2 hm
      go_wp2_with fail
      refine HT'.out.mono ?_
      rintro e w2 ⟨rfl, hg2, hS2⟩
      have hg02 := Lib.grownBy_trans hg01 hg2
      have hb2 : w2.heap[w.heap.size]? = some (.cells #[.int .i64 0, .int .i64 0] 101 (0, 0)) := (hg2.block _ (Array.getElem?_eq_some_iff.1 HB1.out).1 (fun e => by cases e; omega)).trans HB1.out
      have HS2 : Hid (St W0 w2 R s j o M) := hS2
      have k0 : w2.cell? ⟨w.heap.size, 0, none⟩ = some (.int .i64 0) := by simp [World.cell?, hb2]
      have k1 : w2.cell? ⟨w.heap.size, 1, none⟩ = some (.int .i64 0) := by simp [World.cell?, hb2]
      have kf0 : w2.frozen? ⟨w.heap.size, 0, none⟩ = false := by simp [World.frozen?, hb2]
      have kf1 : w2.frozen? ⟨w.heap.size, 1, none⟩ = false := by simp [World.frozen?, hb2]
      clear hS2 hb2
      go_wp2
      refine bodyPost_ret (v := .agg #[.int .i64 lo, .int .i64 lo]) (by simp [results, Tryz.results169, go_sem, k0, k1]) rfl ?_
      have hgz := grownBy_new (grownBy_new hg02 (Nat.le_refl _) 0 (.int .i64 lo)) (Nat.le_refl _) 1 (.int .i64 lo)
      refine Got.ok HC3.out hgz rfl (HS0.out.step hgz HS2.out.inn ?_)
      have hne : R ≠ w.heap.size := by omega
      exact (Below.heap_setCell _ ⟨w.heap.size, 1, none⟩ _ R hne).trans ((Below.heap_setCell _ ⟨w.heap.size, 0, none⟩ _ R hne).trans HS2.out.at_)

/-- what the sets' functions say: mk is the set of the points of the ranges, or of all others -/
structure SetC (mk : List Rg → Bool → List Rg) : Prop where
  canon : ∀ va a w, a.length ≤ 120000 → Rngs w va a → Calls Tryz.prog 170 #[va] w fun e w' => ∃ v, e = .returned v ∧ OwnR w' w.heap.size v (mk a false) ∧ Below w.heap.size w w'
  other : ∀ va a w, a.length ≤ 120000 → Rngs w va a → Calls Tryz.prog 90 #[va] w fun e w' => ∃ v, e = .returned v ∧ OwnR w' w.heap.size v (mk a true) ∧ Below w.heap.size w w'
def RowV (B : Nat) (l : List Rg) (w : World) (v : Value) : Prop := RowR (fun b => B ≤ b) w v l
def brackL (s : ByteArray) (mk : List Rg → Bool → List Rg) (i : Nat) : Option (List Rg × Nat) :=
  if cpAt s i = 94 then (itemsS s (s.size + 1) [] (i + 1)).map fun x => (mk x.1 true, x.2)
  else (itemsS s (s.size + 1) [] i).map fun x => (mk x.1 false, x.2)

theorem OwnR.grown {w w' : World} {B R : Nat} {v : Value} {l : List Rg} (h : OwnR w B v l) (hR : R < B) (hg : w.grownBy w' (some R)) : OwnR w' B v l := by
  refine World.ownsRow.kept h hg ?_
  cases hb : v.ownBlock with
  | none => exact Or.inl rfl
  | some k => right; intro e; cases e; have := (World.ownsRow.lt h R hb).1; omega

theorem grownBy_own {w w1 w2 : World} {row r2 : Option Nat} (h : w.grownBy w1 row) (h2 : w1.grownBy w2 r2) (hr : ∀ k, r2 = some k → w.heap.size ≤ k) : w.grownBy w2 row :=
  ⟨h2.os.trans h.os, h2.tape.trans h.tape, h2.output.trans h.output, Nat.le_trans h.size h2.size, fun k hk hne => (h2.block k (Nat.lt_of_lt_of_le hk h.size) (fun e => by have := hr k e.symm; omega)).trans (h.block k hk hne)⟩
theorem own_slice {w : World} {B : Nat} {v : Value} {l : List Rg} (h : OwnR w B v l) : ∃ a c, v = .slice a l.length c := by
  rcases h.2 with ⟨rfl, h0⟩ | ⟨g, cap, cur, rfl, _⟩
  · exact ⟨none, 0, by rw [h0]⟩
  · exact ⟨_, _, rfl⟩

set_option maxHeartbeats 2000000 in
/-- the loop over the items, and what is made of them -/
theorem items_tail {W0 w : World} (L : LibC W0) {mk : List Rg → Bool → List Rg} (C : SetC mk) {R i0' i o M : Nat} {s : ByteArray} (h : St W0 w R s i0' o M) (neg : Bool) (hi : i ≤ s.size) (h94 : Calls Tryz.prog 72 #[.pointer (some ⟨R, 0, none⟩), .int .i32 94] w fun e w' => e = .returned (.bool neg) ∧ w.grownBy w' (some R) ∧ St W0 w' R s i o M) (hsz : s.size ≤ 60000) :
    Calls Tryz.prog 153 #[.pointer (some ⟨R, 0, none⟩)] w (Got W0 w R s o M ((itemsS s (s.size + 1) [] i).map fun x => (mk x.1 neg, x.2)) (RowV w.heap.size)) := by
  obtain ⟨i0, hi0, hz0, hz1, hz2⟩ := info_parts Tryz.infoRange
  have HS : Hid (St W0 w R s i0' o M) := h
  have hRw := h.at_.lt
  have HT' : Hid (Calls Tryz.prog 72 #[.pointer (some ⟨R, 0, none⟩), .int .i32 94] w fun e w' => e = .returned (.bool neg) ∧ w.grownBy w' (some R) ∧ St W0 w' R s i o M) := h94
  clear h h94
  generalize hres : (itemsS s (s.size + 1) [] i) = res at *
  have HRes : Hid (itemsS s (s.size + 1) [] i = res) := hres
  clear hres
  go_enter Tryz.func153, Tryz.ntmps153
  go_wp2_with fail
  refine HT'.out.mono ?_
  rintro e w1 ⟨rfl, hg1, hS1⟩
  have HS1 : Hid (St W0 w1 R s i o M) := hS1
  clear hS1
  go_wp2_with fail
  go_loopw [4] (fun v wr => ∃ (f : Nat) (acc : List Rg) (m : Nat), itemsS s f acc m = res ∧ s.size < m + f ∧ i ≤ m ∧ acc.length ≤ m ∧ w.grownBy wr (some R) ∧ St W0 wr R s m o M ∧ OwnR wr w.heap.size v acc) (fun _ wr => s.size + 1 - placeOf wr R)
  case atStart => exact ⟨s.size + 1, [], i, HRes.out, by omega, Nat.le_refl _, by simp, hg1, HS1.out, World.ownsRow_nil _ _ _ _⟩
  case round =>
    obtain ⟨f, acc, m, hf, hfm, him, hacc, hgr, hSr, hown⟩ := hrel
    have hml := hSr.inn
    have HSr : Hid (St W0 wr R s m o M) := hSr
    have HO : Hid (OwnR wr w.heap.size u4 acc) := hown
    obtain ⟨f', rfl⟩ : ∃ f', f = f' + 1 := ⟨f - 1, by omega⟩
    have HF : Hid (itemsS s (f' + 1) acc m = res) := hf
    obtain ⟨a4, c4, rfl⟩ := own_slice hown
    clear hSr hown hf
    by_cases h93 : cpAt s m = 93
    · obtain ⟨hml1, hmz⟩ := cp_eq_size h93 (by omega) (by omega)
      have HT := take_yes L HSr.out 93 h93
      rw [hmz] at HT
      have HT2 : Hid (Calls Tryz.prog 72 #[.pointer (some ⟨R, 0, none⟩), .int .i32 93] wr fun e w' => e = .returned (.bool true) ∧ wr.grownBy w' (some R) ∧ St W0 w' R s (m + 1) o M) := HT
      have HR2 : Hid (res = some (acc, m + 1)) := by show _ = _; rw [← HF.out]; unfold itemsS; rw [if_pos h93]
      clear HT hmz h93
      go_wp2_with fail
      refine HT2.out.mono ?_
      rintro e w2 ⟨rfl, hg2, hS2⟩
      have hO2 := HO.out.grown hRw hg2
      have hgr2 := Lib.grownBy_trans hgr hg2
      cases neg
      · go_wp2_with fail
        refine (C.canon _ acc _ (by omega) hO2.rngs).mono ?_
        rintro e w3 ⟨v3, rfl, hO3, hb3⟩
        obtain ⟨a5, c5, rfl⟩ := own_slice hO3
        have hgr3 := Lib.grownBy_trans hgr2 (grownBy_of_below hb3 (some R))
        have HS3 : Hid (St W0 w3 R s (m + 1) o M) := hS2.step (grownBy_of_below hb3 (some R)) hml1 (hS2.at_.kept (grownBy_of_below hb3 none))
        have HO3 : Hid (RowR (fun b => w.heap.size ≤ b) w3 (.slice a5 (mk acc false).length c5) (mk acc false)) := (RowR.of_own hO3).moved (Nat.le_refl _) fun b _ hb => ⟨Nat.le_trans hgr2.size hb, rfl⟩
        clear hO2 hO3 hS2
        go_wp2
        go_ret
        exact Got.ok (x := (mk acc false, m + 1)) (by rw [HR2.out]; rfl) hgr3 HO3.out HS3.out
      · go_wp2_with fail
        refine (C.other _ acc _ (by omega) hO2.rngs).mono ?_
        rintro e w3 ⟨v3, rfl, hO3, hb3⟩
        obtain ⟨a5, c5, rfl⟩ := own_slice hO3
        have hgr3 := Lib.grownBy_trans hgr2 (grownBy_of_below hb3 (some R))
        have HS3 : Hid (St W0 w3 R s (m + 1) o M) := hS2.step (grownBy_of_below hb3 (some R)) hml1 (hS2.at_.kept (grownBy_of_below hb3 none))
        have HO3 : Hid (RowR (fun b => w.heap.size ≤ b) w3 (.slice a5 (mk acc true).length c5) (mk acc true)) := (RowR.of_own hO3).moved (Nat.le_refl _) fun b _ hb => ⟨Nat.le_trans hgr2.size hb, rfl⟩
        clear hO2 hO3 hS2
        go_wp2
        go_ret
        exact Got.ok (x := (mk acc true, m + 1)) (by rw [HR2.out]; rfl) hgr3 HO3.out HS3.out
    · have HT2 : Hid (Calls Tryz.prog 72 #[.pointer (some ⟨R, 0, none⟩), .int .i32 93] wr fun e w' => e = .returned (.bool false) ∧ wr.grownBy w' (some R) ∧ St W0 w' R s m o M) := take_no L HSr.out 93 h93
      have HR2 : Hid (res = match itemS s m with
          | none => none
          | some (r, j) => itemsS s f' (acc ++ [r]) j) := by show _ = _; rw [← HF.out]; rw [itemsS.eq_def]; simp only; rw [if_neg h93]; rfl
      clear h93
      go_wp2_with fail
      refine HT2.out.mono ?_
      rintro e w2 ⟨rfl, hg2, hS2⟩
      have hO2 := HO.out.grown hRw hg2
      have hgr2 := Lib.grownBy_trans hgr hg2
      have HO2 : Hid (OwnR w2 w.heap.size (.slice a4 acc.length c4) acc) := hO2
      have HS2 : Hid (St W0 w2 R s m o M) := hS2
      clear hO2 hS2
      go_wp2_with fail
      refine (item_any L HS2.out).mono ?_
      intro e w3 hG
      obtain ⟨hg3, ⟨hx, ff, rfl⟩ | ⟨⟨⟨lo, up⟩, k⟩, v, hx, rfl, hv, hS3⟩⟩ := hG.both
      · exact ⟨rfl, Got.bad (by rw [HR2.out, hx]; rfl) (Lib.grownBy_trans hgr2 hg3) ⟨ff, rfl⟩⟩
      · have hv' : v = .agg #[.int .i64 lo, .int .i64 up] := hv
        subst hv'
        have hk := itemS_some hml hx
        have hO3 := HO2.out.grown hRw hg3
        have hgr3 := Lib.grownBy_trans hgr2 hg3
        have HS3 : Hid (St W0 w3 R s k o M) := hS3
        have HR3 : Hid (itemsS s f' (acc ++ [(lo, up)]) k = res) := by show _ = _; rw [HR2.out, hx]
        have hsz3 := hgr3.size
        have hR3 := hS3.at_
        clear hG hx HR2 hv hS3
        go_wp2_with (at_builtin; refine wpList_append_own _ rfl _ _ 33 rfl w.heap.size 101 i0 (.agg #[.int .i64 0, .int .i64 0]) 2 16 Tryz.underlying33 hi0 hz0 hz1 hz2 rfl (by decide) _ _ _ rfl (World.ownsRow.alloc hO3 _) ⟨w3.heap.size, 0, none⟩ 1 1 [.int .i64 lo, .int .i64 up] rfl rfl ?c1 ?c2 ?c3 ?c4 ?c5 ?_)
        case c1 =>
          intro j u hj
          match j, hj with
          | 0, hj => simp at hj; subst hj; simp [Addr.add]
          | 1, hj => simp at hj; subst hj; simp [Addr.add]
        case c2 => intro u hu; simp at hu; rcases hu with rfl | rfl <;> rfl
        case c3 => unfold maxLen; omega
        case c4 => omega
        case c5 => simp; omega
        · intro v' w4 hown' hgrow _
          have hown4 := own_snoc rfl hown'
          have hgz : w.grownBy w4 (some R) := grownBy_own (Lib.grownBy_allocR hgr3 _) hgrow (fun q hq => (World.ownsRow.lt hO3 q hq).1)
          have hR4 : RdAt w4 R s k o M := (hgrow.block R (by simp; have := hR3.lt; omega) (fun e => by have := (World.ownsRow.lt hO3 R e.symm).1; omega)).trans (hR3.alloc _)
          clear hown' hgrow
          go_wp2
          go_roundw
          case rel => exact ⟨f', acc ++ [(lo, up)], k, HR3.out, by omega, by omega, by simp; omega, hgz, HS.out.step hgz hk.2 hR4, hown4⟩
          case measure =>
            rw [placeOf_at hR4, placeOf_at HSr.out.at_]
            omega

theorem items_any {W0 w : World} (L : LibC W0) {mk : List Rg → Bool → List Rg} (C : SetC mk) {R i o M : Nat} {s : ByteArray} (h : St W0 w R s i o M) (hsz : s.size ≤ 60000) :
    Calls Tryz.prog 153 #[.pointer (some ⟨R, 0, none⟩)] w (Got W0 w R s o M (brackL s mk i) (RowV w.heap.size)) := by
  by_cases h94 : cpAt s i = 94
  · obtain ⟨hl, hz⟩ := cp_eq_size h94 (by omega) (by omega)
    have HT := take_yes L h 94 h94
    rw [hz] at HT
    have e : brackL s mk i = (itemsS s (s.size + 1) [] (i + 1)).map fun x => (mk x.1 true, x.2) := by unfold brackL; rw [if_pos h94]
    rw [e]
    exact items_tail L C h true hl HT hsz
  · have e : brackL s mk i = (itemsS s (s.size + 1) [] i).map fun x => (mk x.1 false, x.2) := by unfold brackL; rw [if_neg h94]
    rw [e]
    exact items_tail L C h false h.inn (take_no L h 94 h94) hsz

end Go.Proofs.YtbjohedenfindaaGreatDoor
