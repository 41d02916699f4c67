/- The program: the state to which a point leads. -/
import Derived.Test.YtifhoeffkehcmaaAutR
import Derived.Shelf.Abstract
namespace Go.Proofs.Ytifhoeffkehcmaa
open Go.RowKit
set_option linter.unusedVariables false
set_option maxRecDepth 100000

set_option maxHeartbeats 400000 in
theorem isnan_any (z : Int) (w : World) : Calls Try.prog 42 #[.int .i64 z] w fun e w' => e = .returned (.bool false) ∧ w' = w := by
  go_enter Try.func42, Try.ntmps42
  go_wp2
  go_ret
  exact ⟨by simp, rfl⟩

def cmpZ (x y : Int) : Int := if x < y then -1 else if y < x then 1 else 0
set_option maxHeartbeats 1000000 in
theorem compare_any (x y : Int) (w : World) : Calls Try.prog 28 #[.int .i64 x, .int .i64 y] w fun e w' => e = .returned (.int .i64 (cmpZ x y)) ∧ w' = w := by
  by_cases h1 : x < y
  · have e : cmpZ x y = -1 := by unfold cmpZ; rw [if_pos h1]
    rw [e]; clear e
    go_enter Try.func28, Try.ntmps28
    go_wp2_with (go_at_call 42; refine (isnan_any _ _).mono ?_; rintro e w' ⟨rfl, rfl⟩)
    go_ret
    exact ⟨rfl, rfl⟩
  · by_cases h2 : y < x
    · have e : cmpZ x y = 1 := by unfold cmpZ; rw [if_neg h1, if_pos h2]
      rw [e]; clear e
      have h3 : x > y := h2
      go_enter Try.func28, Try.ntmps28
      go_wp2_with (go_at_call 42; refine (isnan_any _ _).mono ?_; rintro e w' ⟨rfl, rfl⟩)
      go_ret
      exact ⟨rfl, rfl⟩
    · have e : cmpZ x y = 0 := by unfold cmpZ; rw [if_neg h1, if_neg h2]
      rw [e]; clear e
      have h3 : ¬ x > y := h2
      go_enter Try.func28, Try.ntmps28
      go_wp2_with (go_at_call 42; refine (isnan_any _ _).mono ?_; rintro e w' ⟨rfl, rfl⟩)
      go_ret
      exact ⟨rfl, rfl⟩

set_option maxHeartbeats 1000000 in
theorem next1_any (lo hi to p : Int) (w : World) : Calls Try.prog 27 #[.agg #[.int .i64 lo, .int .i64 hi, .int .i64 to], .int .i64 p] w fun e w' => e = .returned (.int .i64 (cmpZ hi p)) ∧ Below w.heap.size w w' := by
  go_enter Try.func27, Try.ntmps27
  go_wp2_with (go_at_call 28; refine (compare_any _ _ _).mono ?_; rintro e w' ⟨rfl, rfl⟩)
  go_ret
  exact ⟨rfl, (Below.refl _ w).alloc (Nat.le_refl _) _⟩

set_option maxHeartbeats 2000000 in
theorem search_row (a : Option Addr) (c n : Nat) (p : Int) (ms : List Mv) (w : World) (hm : mvOk n (-1) ms = true) (hv : Mvs w (.slice a ms.length c) ms) :
    Calls Try.prog 26 #[.slice a ms.length c, .int .i64 p, .func (.func 27) #[] #[]] w fun e w' => ∃ (i : Nat) (f : Bool), e = .returned (.tuple #[.int .i64 i, .bool f]) ∧ i ≤ ms.length ∧ stepL ms p = (if i < ms.length ∧ (ms.getD i m0).1 ≤ p then (ms.getD i m0).2.2 else -1) ∧ Below w.heap.size w w' := by
  have hlen := mvOk_len n ms (-1) hm (by omega)
  have eg : ∀ args w, (callFunc 27 args).run Try.prog w = .ok (.enter 27 args) w := enters_of Try.func27 (by kernel_rfl) rfl
  have HV : Hid (Mvs w (.slice a ms.length c) ms) := hv
  have HO : Hid (mvOk n (-1) ms = true) := hm
  clear hm hv
  go_enter Try.func26, Try.ntmps26
  go_wp2
  go_loopw [9, 10] (fun x y wr => ∃ i j : Nat, i ≤ j ∧ j ≤ ms.length ∧ x = .int .i64 i ∧ y = .int .i64 j ∧ Hid (∀ q, q < i → (ms.getD q m0).2.1 < p) ∧ Hid (∀ q, j ≤ q → q < ms.length → p ≤ (ms.getD q m0).2.1) ∧ Below w.heap.size w wr) (fun x y _ => (intOf y).toNat - (intOf x).toNat)
  case atStart => exact ⟨0, ms.length, Nat.zero_le _, Nat.le_refl _, rfl, rfl, fun q h => by omega, fun q h h2 => by omega, Below.refl _ _⟩
  case round =>
    obtain ⟨i, j, hij, hj, rfl, rfl, HL, HH, hbw⟩ := hrel
    have hsz := hbw.size
    by_cases hlt : i < j
    · obtain ⟨h, hq, h1, h2⟩ : ∃ h : Nat, ((i : Int) + (j : Int)) / 2 = (h : Int) ∧ i ≤ h ∧ h < j := ⟨(i + j) / 2, by omega, by omega, by omega⟩
      obtain ⟨g, o, rfl, _, hg, e0, e1, e2⟩ := HV.out.cell (show h < ms.length by omega)
      have f0 := (hbw.cell (p := ⟨g, o + h * 3, none⟩) hg).trans e0
      have f1 := (hbw.cell (p := ⟨g, o + h * 3 + 1, none⟩) hg).trans e1
      have f2 := (hbw.cell (p := ⟨g, o + h * 3 + 2, none⟩) hg).trans e2
      have HMono : Hid (∀ a b, a ≤ b → b < ms.length → (ms.getD a m0).2.1 ≤ (ms.getD b m0).2.1) := mvOk_mono n ms (-1) HO.out
      have hhl : h < ms.length := by omega
      have HR : Hid (ms.getD h m0 = ms.getD h m0) := rfl
      clear e0 e1 e2
      generalize hr : ms.getD h m0 = r at f0 f1 f2
      have HE : Hid (ms.getD h m0 = r) := hr
      clear hr HR
      obtain ⟨lo, hi, to⟩ := r
      simp only at f0 f1 f2
      go_wp2_with fail
      refine (next1_any lo hi to p _).mono ?_
      rintro e w1 ⟨rfl, hb1⟩
      have hbw1 := hbw.trans (hb1.mono hsz)
      clear hb1
      by_cases hc : hi < p
      · have hz : cmpZ hi p = -1 := by unfold cmpZ; rw [if_pos hc]
        rw [hz]
        have HN : Hid (∀ q, q < h + 1 → (ms.getD q m0).2.1 < p) := fun q hq => by
          have := HMono.out q h (by omega) hhl
          rw [HE.out] at this
          simp only at this
          omega
        clear hz HE HMono
        go_wp2
        go_roundw
        case rel => exact ⟨h + 1, j, by omega, hj, by go_num, rfl, HN, HH, hbw1⟩
        case measure => simp [intOf]; omega
      · obtain ⟨z, hz, hz0⟩ : ∃ z : Int, cmpZ hi p = z ∧ ¬ z < 0 := ⟨_, rfl, by unfold cmpZ; rw [if_neg hc]; split <;> omega⟩
        rw [hz]
        have HN : Hid (∀ q, h ≤ q → q < ms.length → p ≤ (ms.getD q m0).2.1) := fun q hq hl => by
          have := HMono.out h q hq hl
          rw [HE.out] at this
          simp only at this
          omega
        clear hz HE HMono
        go_wp2
        go_roundw
        case rel => exact ⟨i, h, by omega, by omega, rfl, rfl, HL, HN, hbw1⟩
        case measure => simp [intOf]; omega
    · obtain rfl : i = j := by omega
      have HS : Hid (stepL ms p = (if i < ms.length ∧ (ms.getD i m0).1 ≤ p then (ms.getD i m0).2.2 else -1)) := stepL_at n ms (-1) p i HO.out hj HL.out HH.out
      by_cases hil : i < ms.length
      · obtain ⟨g, o, rfl, _, hg, e0, e1, e2⟩ := HV.out.cell hil
        have f0 := (hbw.cell (p := ⟨g, o + i * 3, none⟩) hg).trans e0
        have f1 := (hbw.cell (p := ⟨g, o + i * 3 + 1, none⟩) hg).trans e1
        have f2 := (hbw.cell (p := ⟨g, o + i * 3 + 2, none⟩) hg).trans e2
        clear e0 e1 e2 HL HH
        generalize (ms.getD i m0).1 = lo at f0
        generalize (ms.getD i m0).2.1 = hi at f1
        generalize (ms.getD i m0).2.2 = to at f2
        go_wp2_with fail
        refine (next1_any lo hi to p _).mono ?_
        rintro e w1 ⟨rfl, hb1⟩
        have hbw1 := hbw.trans (hb1.mono hsz)
        clear hb1
        go_wp2
        go_ret2
        exact ⟨i, _, rfl, hj, HS.out, hbw1⟩
      · clear HL HH
        go_wp2
        go_ret2
        exact ⟨i, _, rfl, hj, HS.out, hbw⟩

set_option maxHeartbeats 1000000 in
theorem movesof_no (v : Value) (w : World) : Calls Try.prog 25 #[.agg #[v], .int .i64 (-1)] w fun e w' => e = .returned (.slice none 0 0) ∧ Below w.heap.size w w' := by
  go_enter Try.func25, Try.ntmps25
  go_wp2
  go_ret
  exact ⟨rfl, box_below w _⟩

end Go.Proofs.Ytifhoeffkehcmaa
