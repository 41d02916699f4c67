/- The program: how long a row of symbols is, and what the productions of a name say. -/
import Derived.Test.YtbgnhegfabpjnaaGOkT
import Derived.Test.YtbgnhegfabpjnaaGShR
namespace Go.Proofs.Ytbgnhegfabpjnaa
open Go.RowKit
set_option linter.unusedVariables false
set_option maxRecDepth 100000

/-- lengths that are known so far -/
structure LenL (N : Nat) (L : List Int) : Prop where
  len : L.length = N
  lo : ∀ n, -1 ≤ L.getD n (-1)
  hi : ∀ n, L.getD n (-1) ≤ 1000000
/-- symbols of a grammar of so many names -/
def SymsL (N : Nat) (r : List Int) : Prop := r.length ≤ 20 ∧ ∀ j, j < r.length → -(N : Int) ≤ r.getD j 0 ∧ I64 (r.getD j 0)
theorem rowL_take {f : Nat → Option Nat} {r : List Int} {k : Nat} (hk : k < r.length) {x : Nat} (hx : rowL f (r.take k) = some x) : rowL f (r.take (k + 1)) = (match (if r.getD k 0 < 0 then f (-1 - r.getD k 0).toNat else some 1) with | some b => some (x + b) | none => none) := by
  rw [List.take_succ_eq_append_getElem hk, rowL_snoc, hx]
  have e : r.getD k 0 = r[k] := by simp [List.getD, hk]
  rw [e]
  generalize (if r[k] < 0 then f (-1 - r[k]).toNat else some 1) = a
  cases a <;> rfl

set_option maxHeartbeats 4000000 in
theorem rowLength_any (N : Nat) (hN : N ≤ 300) (r L : List Int) (rv v : Value) (w : World) (hr : SymsL N r) (hL : LenL N L) (hrv : IntsR w rv r) (hv : IntsR w v L) :
    Calls Try.prog 23 #[rv, v] w fun e w' => e = .returned (.int .i64 (codeO (capO (rowL (factO L) r)))) ∧ w' = w := by
  obtain ⟨ra, rc, rfl⟩ := hrv.slice
  obtain ⟨va, vc, rfl⟩ := hv.slice
  rw [hL.len] at hv ⊢
  have HRV : Hid (IntsR w (.slice ra r.length rc) r) := hrv
  have HV : Hid (IntsR w (.slice va N vc) L) := hv
  have HL : Hid (LenL N L) := hL
  have HSY : Hid (SymsL N r) := hr
  have hrl := hr.1
  clear hrv hv hL hr
  generalize hR : codeO (capO (rowL (factO L) r)) = R at *
  have HR : Hid (codeO (capO (rowL (factO L) r)) = R) := hR
  clear hR
  have hN0 := nameOf_any
  go_enter Try.func23, Try.ntmps23
  go_wp2
  go_loopw [5, 12] (fun x i wr => ∃ (k z : Nat), k ≤ r.length ∧ x = .int .i64 z ∧ i = .int .i64 k ∧ z ≤ k * 1000000 ∧ Hid (rowL (factO L) (r.take k) = some z) ∧ wr = w) (fun _ i _ => r.length - (intOf i).toNat)
  case atStart => exact ⟨0, 0, Nat.zero_le _, rfl, rfl, by omega, (by show _ = _; simp [rowL]), rfl⟩
  case round =>
    obtain ⟨k, z, hk, rfl, rfl, hz, HZ, hwe⟩ := hrel
    subst hwe
    by_cases hlt : k < r.length
    · obtain ⟨b, off, rfl, hb, hc⟩ := HRV.out.at hlt
      obtain ⟨hs1, hs2⟩ := HSY.out.2 k hlt
      have HT : Hid _ := rowL_take hlt HZ.out
      generalize r.getD k 0 = sy at *
      have hC := hN0 sy hs2
      clear hN0
      by_cases hs : sy < 0
      · obtain ⟨q, hq⟩ : ∃ q : Nat, -1 - sy = (q : Int) := ⟨(-1 - sy).toNat, by omega⟩
        have hqN : q < N := by omega
        have d1 : decide (sy < 0) = true := decide_eq_true hs
        rw [d1, hq] at hC
        have hqn : (-1 - sy).toNat = q := by omega
        rw [if_pos hs, hqn] at HT
        obtain ⟨b2, off2, rfl, hb2, hc2⟩ := HV.out.at (k := q) (by rw [HL.out.len]; exact hqN)
        rw [getD_eq (by rw [HL.out.len]; exact hqN) 0 (-1)] at hc2
        have hx1 := HL.out.lo q
        have hx2 := HL.out.hi q
        have HF : Hid (factO L q = optI (L.getD q (-1))) := rfl
        generalize L.getD q (-1) = x at *
        clear hq hqn hs d1 hs1 hs2
        by_cases hxn : x = -1
        · have HE : Hid (R = -1) := by
            show _ = _
            have h0 : rowL (factO L) (r.take (k + 1)) = none := by rw [HT.out, HF.out, hxn]; rfl
            have := rowL_none (factO L) (r.drop (k + 1)) _ h0
            rw [List.take_append_drop] at this
            rw [← HR.out, this]; rfl
          subst hxn
          go_wp2_with fail
          refine (hC _).mono ?_
          rintro e w1 ⟨rfl, rfl⟩
          go_wp2
          go_ret
          exact ⟨by rw [HE.out]; rfl, rfl⟩
        · obtain ⟨y, rfl⟩ : ∃ y : Nat, x = (y : Int) := ⟨x.toNat, by omega⟩
          have HZ2 : Hid (rowL (factO L) (r.take (k + 1)) = some (z + y)) := by
            show _ = _
            rw [HT.out, HF.out]
            have : optI (y : Int) = some y := codeO_opt (some y)
            rw [this]
          have d3 : ((y : Int) == -1) = false := by rw [beq_eq_false_iff_ne]; omega
          clear hxn HT HF
          go_wp2_with fail
          refine (hC _).mono ?_
          rintro e w1 ⟨rfl, rfl⟩
          go_wp2
          go_roundw
          case rel => exact ⟨k + 1, z + y, by omega, by go_num, by go_num, by omega, HZ2, trivial⟩
          case measure => simp [intOf]; omega
      · have d1 : decide (sy < 0) = false := decide_eq_false hs
        rw [d1] at hC
        rw [if_neg hs] at HT
        have HZ2 : Hid (rowL (factO L) (r.take (k + 1)) = some (z + 1)) := HT.out
        clear HT hs hs1 hs2 d1
        go_wp2_with fail
        refine (hC _).mono ?_
        rintro e w1 ⟨rfl, rfl⟩
        go_wp2
        go_roundw
        case rel => exact ⟨k + 1, z + 1, by omega, by go_num, by go_num, by omega, HZ2, trivial⟩
        case measure => simp [intOf]; omega
    · have HE : Hid (R = min (z : Int) 1000000) := by
        show _ = _
        have h0 := HZ.out
        rw [List.take_of_length_le (by omega)] at h0
        rw [← HR.out, h0]
        show ((min z 1000000 : Nat) : Int) = _
        omega
      clear hN0
      by_cases hm : (z : Int) ≤ 1000000
      · have HE2 : Hid (R = z) := by show _ = _; rw [HE.out]; omega
        go_wp2
        all_goals
          first
          | (exfalso; omega)
          | (go_ret; exact ⟨by rw [HE2.out]; rfl, rfl⟩)
      · have HE2 : Hid (R = 1000000) := by show _ = _; rw [HE.out]; omega
        go_wp2
        all_goals
          first
          | (exfalso; omega)
          | (go_ret; exact ⟨by rw [HE2.out]; rfl, rfl⟩)

end Go.Proofs.Ytbgnhegfabpjnaa
