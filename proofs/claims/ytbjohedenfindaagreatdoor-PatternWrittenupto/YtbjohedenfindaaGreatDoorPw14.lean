/- Texts of the proof, put together: RDig. -/
import Derived.Test.YtbjohedenfindaaGreatDoorPw13
import Derived.Test.YtbjohedenfindaaGreatDoorPw12
namespace Go.Proofs.YtbjohedenfindaaGreatDoor
open Go.RowKit
set_option linter.unusedVariables false
set_option maxRecDepth 100000

set_option maxHeartbeats 2000000 in
theorem rcount_bad {W0 w : World} (L : LibR W0) {R : Nat} {s : ByteArray} (h : BR W0 w R s) :
    Calls Tryz.prog 141 #[.pointer (some ⟨R, 0, none⟩)] w fun e w' => e = .returned (.int .i64 0) ∧ w.grownBy w' (some R) ∧ BR W0 w' R s := by
  have HB : Hid (BR W0 w R s) := h
  obtain ⟨i1, o1, te, pe, z, h1, h2, hz⟩ := h.at_
  obtain ⟨c0, c1, _, _, _⟩ := hz.cells
  have htx := h.text
  have HN : Hid (Calls Tryz.prog 74 #[.pointer (some ⟨R, 0, none⟩)] w fun e w' => e = .returned (.int .i64 (-1)) ∧ ∃ n, w' = w.drewN n) := now_bad h
  obtain ⟨te1, pe1, cs⟩ := env_syn L h.env
  have HF : Hid (∀ n y, Calls Tryz.prog 22 #[.pointer (some ⟨R, 0, none⟩), .iface te1 pe1, .int .i64 y] (w.drewN n) fun e w' => e = .returned (.tuple #[]) ∧ w' = w.drewN n) := fun n y => fail_more (HB.out.kept (grown_drewN w n none)) te1 pe1 y
  clear h hz
  go_enter Tryz.func141, Tryz.ntmps141
  go_wp2
  refine wp_loop_rounds 1 ?_
  rw [rounds_succ]
  go_wp2_with fail
  refine HN.out.mono ?_
  rintro e w1 ⟨rfl, n, rfl⟩
  have d1 : (w.drewN n).cell? ⟨R, 1, none⟩ = some (.int .i64 i1) := c1
  have d2 : (w.drewN n).cell? ⟨0, 0, none⟩ = some (.iface te1 pe1) := cs
  go_wp2_with fail
  refine (HF.out n _).mono ?_
  rintro e w2 ⟨rfl, rfl⟩
  go_wp2
  go_ret
  exact ⟨rfl, grown_drewN w n (some R), HB.out.kept (grown_drewN w n none)⟩

theorem hexOf_range (b : Nat) : -1 ≤ hexOf b ∧ hexOf b ≤ 15 := by
  unfold hexOf
  split
  · omega
  · split
    · omega
    · split <;> omega
theorem hexRun_ge (s : ByteArray) : ∀ (f i k : Nat), k ≤ f → (∀ j, j < k → isHex s (i + j) = true) → k ≤ hexRun s f i
  | _, _, 0, _, _ => Nat.zero_le _
  | 0, _, k + 1, h, _ => by omega
  | f + 1, i, k + 1, h, h1 => by
    have h0 : isHex s i = true := by simpa using h1 0 (by omega)
    have := hexRun_ge s f (i + 1) k (by omega) (fun j hj => by have := h1 (j + 1) (by omega); rwa [show i + (j + 1) = i + 1 + j by omega] at this)
    rw [hexRun, if_pos h0]
    omega
theorem pow16 (k : Nat) (h : k ≤ 7) : (16 : Int) ^ k ≤ 268435456 := by
  rcases (show k = 0 ∨ k = 1 ∨ k = 2 ∨ k = 3 ∨ k = 4 ∨ k = 5 ∨ k = 6 ∨ k = 7 by omega) with rfl | rfl | rfl | rfl | rfl | rfl | rfl | rfl <;> decide
theorem hexVal_lt (s : ByteArray) (i : Nat) : ∀ k, k ≤ 7 → (∀ j, j < k → isHex s (i + j) = true) → 0 ≤ hexVal s i k ∧ hexVal s i k < 16 ^ k
  | 0, _, _ => by simp [hexVal]
  | k + 1, hk, h => by
    have ih := hexVal_lt s i k (by omega) (fun j hj => h j (by omega))
    have h1 := h k (by omega)
    simp [isHex] at h1
    have h2 := hexOf_range (s.get! (i + k)).toNat
    rw [hexVal, Int.pow_succ]
    omega

set_option maxHeartbeats 4000000 in
theorem rdigits_any {W0 w : World} (L : LibR W0) {R i o : Nat} {s : ByteArray} (h : SR W0 w R s i o) (ho : o ≤ 1000) (y : Int) :
    Calls Tryz.prog 159 #[.pointer (some ⟨R, 0, none⟩), .int .i64 y] w fun e w' => ∃ z : Int, e = .returned (.int .i64 z) ∧ 0 ≤ z ∧ z ≤ 1114111 ∧ w.grownBy w' (some R) ∧ (BR W0 w' R s ∨ ∃ j, cpAt s i = 123 ∧ hexS s (i + 1) = some (z, j) ∧ SR W0 w' R s j o) ∧ (BR W0 w' R s → cpAt s i = 123 → hexS s (i + 1) = none) := by
  obtain ⟨z0, hz0⟩ := h.at_
  obtain ⟨c0, c1, _, _, _⟩ := hz0.cells
  have hin := h.inn
  have htx := h.text
  have HS : Hid (SR W0 w R s i o) := h
  have HZ0 : Hid (RrAt w R s i o .nilIface z0) := hz0
  obtain ⟨te, pe, cs⟩ := env_syn L h.env
  have HFail : Hid (∀ m y, Calls Tryz.prog 22 #[.pointer (some ⟨R, 0, none⟩), .iface te pe, .int .i64 y] (w.drewN m) fun e w' => e = .returned (.tuple #[]) ∧ (w.grownBy w' (some R) ∧ BR W0 w' R s)) := fun m y => by
    refine (fail_first (HS.out.kept (grown_drewN w m none)) ho te pe y).mono ?_
    rintro e w' ⟨h1, h2, h3⟩
    exact ⟨h1, Lib.grownBy_trans (grown_drewN w m (some R)) h2, h3⟩
  clear h hz0
  have hcase : (¬ i < s.size ∧ decide ((i : Int) ≥ (s.size : Int)) = true) ∨ ∃ hi : i < s.size, decide ((i : Int) ≥ (s.size : Int)) = false ∧ (((((s[i]'hi).toNat : Int) != 123) = true) ∨ ((((s[i]'hi).toNat : Int) != 123) = false ∧ cpAt s i = 123)) := by
    by_cases hi : i < s.size
    · refine .inr ⟨hi, by simp; omega, ?_⟩
      rw [get_at s i hi]
      by_cases hb : (s.get! i).toNat = 123
      · exact .inr ⟨by rw [hb]; rfl, by have := ascii_cp hi (by omega); omega⟩
      · exact .inl (by rw [bne_iff_ne]; omega)
    · exact .inl ⟨hi, by simp; omega⟩
  rcases hcase with ⟨e1, e2⟩ | ⟨hi, e2, e3 | ⟨e3, e4⟩⟩
  · go_enter Tryz.func159, Tryz.ntmps159
    go_wp2
    go_quiet (fail)
    have d2 : (w.drewN nq).cell? ⟨0, 0, none⟩ = some (.iface te pe) := cs
    go_wp2_with fail
    refine (HFail.out _ _).mono ?_
    rintro e w2 ⟨rfl, hg2, hB2⟩
    go_wp2
    go_ret
    exact ⟨0, rfl, by omega, by omega, hg2, .inl hB2, fun _ h5 => absurd (cp_lt (s := s) (i := i) (by omega)) e1⟩
  · have HE3 : Hid (cpAt s i = 123 → False) := fun h5 => by
      have h6 := (cp_ascii (s := s) (i := i) (by omega) (by omega)).2
      have h7 := e3
      rw [get_at s i hi, bne_iff_ne] at h7
      omega
    go_enter Tryz.func159, Tryz.ntmps159
    go_wp2
    go_quiet (fail)
    have d2 : (w.drewN nq).cell? ⟨0, 0, none⟩ = some (.iface te pe) := cs
    go_wp2_with fail
    refine (HFail.out _ _).mono ?_
    rintro e w2 ⟨rfl, hg2, hB2⟩
    go_wp2
    go_ret
    exact ⟨0, rfl, by omega, by omega, hg2, .inl hB2, fun _ h5 => (HE3.out h5).elim⟩
  · go_enter Tryz.func159, Tryz.ntmps159
    go_wp2
    go_quiet (fail)
    have HZ1 : Hid (RrAt (w.drewN nq) R s i o .nilIface z0) := HZ0.out.kept (grown_drewN w nq none)
    have HS1 : Hid (SR W0 (w.drewN nq) R s i o) := HS.out.kept (grown_drewN w nq none)
    have HG1 : Hid (w.grownBy (w.drewN nq) (some R)) := grown_drewN w nq (some R)
    have HF1 := HFail.out nq
    have HFF : Hid (∀ y, Calls Tryz.prog 22 #[.pointer (some ⟨R, 0, none⟩), .iface te pe, .int .i64 y] (w.drewN nq) fun e w' => e = .returned (.tuple #[]) ∧ (w.grownBy w' (some R) ∧ BR W0 w' R s)) := HF1
    have d2 : (w.drewN nq).cell? ⟨0, 0, none⟩ = some (.iface te pe) := cs
    have d0 : (w.drewN nq).cell? ⟨R, 0, none⟩ = some (.string s) := c0
    have d1 : (w.drewN nq).cell? ⟨R, 1, none⟩ = some (.int .i64 i) := c1
    clear HF1 HFail HS HZ0 cs c0 c1 e2 e3
    have hde : decide (s.size ≤ i) = false := by simp; omega
    generalize w.drewN nq = w1 at *
    go_wp2
    rw [hde]
    go_loopw [5, 6, 7] (fun a b c wr => ∃ k : Nat, wr = w1 ∧ a = .int .i64 (hexVal s (i + 1) k) ∧ b = .int .i64 k ∧ c = .int .i64 ((i + 1 + k : Nat) : Int) ∧ k ≤ 7 ∧ i + 1 + k ≤ s.size ∧ Hid (∀ j, j < k → isHex s (i + 1 + j) = true)) (fun _ b _ _ => 8 - (intOf b).toNat)
    case atStart => exact ⟨0, rfl, rfl, rfl, by go_num, by omega, by omega, fun j hj => by omega⟩
    case round =>
      obtain ⟨k, hw, rfl, rfl, rfl, hk7, hks, HX⟩ := hrel
      obtain rfl := hw.symm
      have hv := hexVal_lt s (i + 1) k hk7 HX.out
      have hv2 : hexVal s (i + 1) k < 268435456 := by
        have := pow16 k hk7
        omega
      obtain ⟨hv0, _⟩ := hv
      by_cases hp : i + 1 + k < s.size
      · have hpi : ((i + 1 + k : Nat) : Int) < (s.size : Int) := by omega
        by_cases hk6 : k ≤ 6
        · have hb := get_at s (i + 1 + k) hp
          have hlt : (s.get! (i + 1 + k)).toNat < 256 := (s.get! (i + 1 + k)).toNat_lt
          have HHex : Hid (Calls Tryz.prog 173 #[.int .u8 (((s.get! (i + 1 + k)).toNat : Nat) : Int)] w1 fun e w' => e = .returned (.int .i64 (hexOf (s.get! (i + 1 + k)).toNat)) ∧ w' = w1) := hex_any _ hlt w1
          have hr := hexOf_range (s.get! (i + 1 + k)).toNat
          by_cases hh : 0 ≤ hexOf (s.get! (i + 1 + k)).toNat
          · have HX2 : Hid (∀ j, j < k + 1 → isHex s (i + 1 + j) = true) := fun j hj => by
              by_cases e : j = k
              · subst e; simp [isHex]; exact ⟨by omega, hh⟩
              · exact HX.out j (by omega)
            have HE : Hid (hexVal s (i + 1) (k + 1) = hexVal s (i + 1) k * 16 + hexOf (s.get! (i + 1 + k)).toNat) := rfl
            generalize hexOf (s.get! (i + 1 + k)).toNat = d at *
            have hd0 : ¬ d < 0 := by omega
            generalize hexVal s (i + 1) k = n at *
            go_wp2_with fail
            go_at_call 173
            refine HHex.out.mono ?_
            rintro e w2 ⟨rfl, rfl⟩
            go_wp2
            go_roundw
            case rel => exact ⟨k + 1, by first | rfl | trivial, by rw [HE.out], by go_num, by go_num, by omega, by omega, HX2⟩
            case measure => simp [intOf]; omega
          · have hnx : isHex s (i + 1 + k) = false := by simp [isHex]; intro _; omega
            have HRun : Hid (hexRun s 7 (i + 1) = k) := hexRun_of s 7 (i + 1) k (by omega) HX.out hnx
            have HNn : Hid ((k < 1 ∨ hexVal s (i + 1) k > 1114111 ∨ (((s.get! (i + 1 + k)).toNat : Int) != 125) = true) → hexS s (i + 1) = none) := fun g => by
              unfold hexS
              rw [HRun.out, if_neg]
              rintro ⟨a1, a2, a3, a4⟩
              rcases g with g | g | g
              · omega
              · omega
              · rw [bne_iff_ne] at g
                have := (cp_ascii (s := s) (i := i + 1 + k) (by omega) (by omega)).2
                omega
            have HGood : Hid (1 ≤ k → hexVal s (i + 1) k ≤ 1114111 → (s.get! (i + 1 + k)).toNat = 125 → hexS s (i + 1) = some (hexVal s (i + 1) k, i + 1 + k + 1)) := fun g1 g2 g3 => by
              have := ascii_cp hp (by omega)
              unfold hexS
              rw [HRun.out, if_pos ⟨g1, hk6, by omega, g2⟩]
            have HSet : Hid (SR W0 (w1.setCell ⟨R, 1, none⟩ (.int .i64 ((i + 1 + k + 1 : Nat) : Int))) R s (i + 1 + k + 1) o ∧ w.grownBy (w1.setCell ⟨R, 1, none⟩ (.int .i64 ((i + 1 + k + 1 : Nat) : Int))) (some R)) := by
              have hg : w1.grownBy (w1.setCell ⟨R, 1, none⟩ (.int .i64 ((i + 1 + k + 1 : Nat) : Int))) (some R) := Lib.grownBy_setCell w1 R 1 _
              exact ⟨HS1.out.step hg (by omega) (HZ1.out.set1 _), Lib.grownBy_trans HG1.out hg⟩
            have hfr := HZ1.out.frozen 1
            have hd0 : hexOf (s.get! (i + 1 + k)).toNat < 0 := by omega
            generalize hexOf (s.get! (i + 1 + k)).toNat = d at *
            have hby : (((s.get! (i + 1 + k)).toNat : Int) != 125) = true ∨ ((((s.get! (i + 1 + k)).toNat : Int) != 125) = false ∧ (s.get! (i + 1 + k)).toNat = 125) := by
              by_cases h5 : (s.get! (i + 1 + k)).toNat = 125
              · exact .inr ⟨by rw [h5]; rfl, h5⟩
              · exact .inl (by rw [bne_iff_ne]; omega)
            generalize hexVal s (i + 1) k = n at *
            clear hh hnx HX HS1 HZ1 hr
            by_cases g1 : k < 1
            · have hq1 : decide ((k : Int) < 1) = true := by simp; omega
              have HNo : Hid (hexS s (i + 1) = none) := HNn.out (.inl g1)
              clear hby HSet HGood HRun HNn
              go_wp2_with fail
              go_at_call 173
              refine HHex.out.mono ?_
              rintro e w2 ⟨rfl, rfl⟩
              go_wp2_with fail
              go_at_call 22
              refine (HFF.out _).mono ?_
              rintro e w2 ⟨rfl, hg2, hB2⟩
              go_wp2
              go_ret
              exact ⟨0, rfl, by omega, by omega, hg2, .inl hB2, fun _ _ => HNo.out⟩
            · have hq1 : decide ((k : Int) < 1) = false := by simp; omega
              have hq2 : decide ((k : Int) > 6) = false := by simp; omega
              by_cases g2 : n > 1114111
              · have HNo : Hid (hexS s (i + 1) = none) := HNn.out (.inr (.inl g2))
                clear hby HSet HGood HRun HNn
                go_wp2_with fail
                go_at_call 173
                refine HHex.out.mono ?_
                rintro e w2 ⟨rfl, rfl⟩
                go_wp2_with fail
                go_at_call 22
                refine (HFF.out _).mono ?_
                rintro e w2 ⟨rfl, hg2, hB2⟩
                go_wp2
                go_ret
                exact ⟨0, rfl, by omega, by omega, hg2, .inl hB2, fun _ _ => HNo.out⟩
              · rcases hby with hby | ⟨hby, hb5⟩
                · have HNo : Hid (hexS s (i + 1) = none) := HNn.out (.inr (.inr hby))
                  clear HSet HGood HRun HNn
                  go_wp2_with fail
                  go_at_call 173
                  refine HHex.out.mono ?_
                  rintro e w2 ⟨rfl, rfl⟩
                  go_wp2_with fail
                  go_at_call 22
                  refine (HFF.out _).mono ?_
                  rintro e w2 ⟨rfl, hg2, hB2⟩
                  go_wp2
                  go_ret
                  exact ⟨0, rfl, by omega, by omega, hg2, .inl hB2, fun _ _ => HNo.out⟩
                · have HFin := HGood.out (by omega) (by omega) hb5
                  have HFH : Hid (hexS s (i + 1) = some (n, i + 1 + k + 1)) := HFin
                  clear HGood HFin HFF hb5 HNn
                  go_wp2_with fail
                  go_at_call 173
                  refine HHex.out.mono ?_
                  rintro e w2 ⟨rfl, rfl⟩
                  go_wp2
                  go_ret
                  exact ⟨n, rfl, by omega, by omega, HSet.out.2, .inr ⟨_, e4, HFH.out, HSet.out.1⟩, fun hB => (sr_not_br HSet.out.1 hB).elim⟩
        · obtain rfl : k = 7 := by omega
          have HNo : Hid (hexS s (i + 1) = none) := by
            show _ = _
            have h7 := hexRun_ge s 7 (i + 1) 7 (by omega) HX.out
            unfold hexS
            rw [if_neg (by omega)]
          clear HX HS1 HZ1
          generalize hexVal s (i + 1) 7 = n at *
          go_wp2_with fail
          go_at_call 22
          refine (HFF.out _).mono ?_
          rintro e w2 ⟨rfl, hg2, hB2⟩
          go_wp2
          go_ret
          exact ⟨0, rfl, by omega, by omega, hg2, .inl hB2, fun _ _ => HNo.out⟩
      · have hpi : ¬ ((i + 1 + k : Nat) : Int) < (s.size : Int) := by omega
        have hpi2 : decide (((i + 1 + k : Nat) : Int) ≥ (s.size : Int)) = true := by simp; omega
        have HNo : Hid (hexS s (i + 1) = none) := by
          show _ = _
          have hcp : ∀ m, s.size ≤ m → cpAt s m = -1 := fun m hm => by unfold cpAt; rw [if_neg (by omega)]
          have hle := hexRun_le s 7 (i + 1) (by omega)
          have hge := hexRun_ge s 7 (i + 1) k hk7 HX.out
          have h9 := hcp (i + 1 + hexRun s 7 (i + 1)) (by omega)
          unfold hexS
          rw [if_neg (by omega)]
        clear HX HS1 HZ1
        generalize hexVal s (i + 1) k = n at *
        by_cases g1 : k < 1
        · have hq1 : decide ((k : Int) < 1) = true := by simp; omega
          go_wp2_with fail
          go_at_call 22
          refine (HFF.out _).mono ?_
          rintro e w2 ⟨rfl, hg2, hB2⟩
          go_wp2
          go_ret
          exact ⟨0, rfl, by omega, by omega, hg2, .inl hB2, fun _ _ => HNo.out⟩
        · have hq1 : decide ((k : Int) < 1) = false := by simp; omega
          by_cases g3 : k > 6
          · have hq2 : decide ((k : Int) > 6) = true := by simp; omega
            go_wp2_with fail
            go_at_call 22
            refine (HFF.out _).mono ?_
            rintro e w2 ⟨rfl, hg2, hB2⟩
            go_wp2
            go_ret
            exact ⟨0, rfl, by omega, by omega, hg2, .inl hB2, fun _ _ => HNo.out⟩
          · have hq2 : decide ((k : Int) > 6) = false := by simp; omega
            by_cases g2 : n > 1114111
            · go_wp2_with fail
              go_at_call 22
              refine (HFF.out _).mono ?_
              rintro e w2 ⟨rfl, hg2, hB2⟩
              go_wp2
              go_ret
              exact ⟨0, rfl, by omega, by omega, hg2, .inl hB2, fun _ _ => HNo.out⟩
            · go_wp2_with fail
              go_at_call 22
              refine (HFF.out _).mono ?_
              rintro e w2 ⟨rfl, hg2, hB2⟩
              go_wp2
              go_ret
              exact ⟨0, rfl, by omega, by omega, hg2, .inl hB2, fun _ _ => HNo.out⟩

end Go.Proofs.YtbjohedenfindaaGreatDoor
