/- Texts of the proof, put together: RWgt, RPokB, WrE. -/
import Derived.Test.YtbjohedenfindaaGreatDoorPb29
import Derived.Test.YtbjohedenfindaaGreatDoorPb34
import Derived.Test.YtbjohedenfindaaGreatDoorPb35
namespace Go.Proofs.YtbjohedenfindaaGreatDoor
open Go.RowKit
set_option linter.unusedVariables false
set_option maxRecDepth 100000

set_option maxHeartbeats 1000000 in
theorem most_any (a b : Int) (w : World) : Calls Tryz.prog 52 #[.int .i64 a, .int .i64 b] w fun e w' => e = .returned (.int .i64 (max a b)) ∧ w' = w := by
  by_cases h : b < a
  · have e : max a b = a := by omega
    have hq : decide (a > b) = true := by simpa using h
    rw [e]
    clear e
    go_enter Tryz.func52, Tryz.ntmps52
    go_wp2
    go_ret
    exact ⟨rfl, rfl⟩
  · have e : max a b = b := by omega
    have hq : decide (a > b) = false := by simpa using h
    rw [e]
    clear e
    go_enter Tryz.func52, Tryz.ntmps52
    go_wp2
    go_ret
    exact ⟨rfl, rfl⟩

def sumW (l : List Tm) : Nat := (l.map wT).sum
theorem sumW_take (l : List Tm) (i : Nat) (h : i < l.length) : sumW (l.take (i + 1)) = sumW (l.take i) + wT (l.getD i nothT) := by
  unfold sumW; rw [List.take_succ_eq_append_getElem h, List.map_append, List.sum_append]; simp [h]
theorem sumW_le (l : List Tm) (i : Nat) : sumW (l.take i) ≤ sumW l := by
  have : sumW l = sumW (l.take i) + sumW (l.drop i) := by unfold sumW; rw [← List.sum_append, ← List.map_append, List.take_append_drop]
  omega
theorem wT_sum {t : Tm} (hk : t.kind ≠ 1) : sumW t.kids < wT t := by
  rw [wT_eq, if_neg hk]
  split
  · have := Nat.le_mul_of_pos_right (t.kids.map wT).sum (show 0 < max (max t.mn t.mx).toNat 1 by omega)
    unfold sumW; omega
  · unfold sumW; omega
/-- the weight, exactly where it is at most 60 -/
def Wgt (t : Tm) (z : Int) : Prop := (z = (wT t : Int) ∨ (60 < z ∧ 60 < (wT t : Int))) ∧ 1 ≤ z ∧ z ≤ 3001
def WgtC (t : Tm) : Prop := ∀ (ok : Nat → Prop) (w : World) (v : Value), TT ok w v t → Sml t → Calls Tryz.prog 26 #[v] w fun e w' => ∃ z, e = .returned (.int .i64 z) ∧ Wgt t z ∧ Below w.heap.size w w'
set_option maxHeartbeats 4000000 in
theorem weight_raw {w : World} {b kc : Nat} {t : Tm} {ka : Option Addr} (hs : NumOk t) (hlt : b < w.heap.size) (c0 : w.cell? ⟨b, 0, none⟩ = some (.int .i64 t.kind)) (c2 : w.cell? ⟨b, 2, none⟩ = some (.int .i64 t.mn)) (c3 : w.cell? ⟨b, 3, none⟩ = some (.int .i64 t.mx)) (c4 : w.cell? ⟨b, 4, none⟩ = some (.slice ka t.kids.length kc))
    (HK : Hid (∀ j, j < t.kids.length → ∃ g off b1, ka = some ⟨g, off, none⟩ ∧ g < w.heap.size ∧ w.cell? ⟨g, off + j, none⟩ = some (.pointer (some ⟨b1, 0, none⟩)) ∧ ∀ w', Below w.heap.size w w' → Calls Tryz.prog 26 #[.pointer (some ⟨b1, 0, none⟩)] w' fun e w'' => ∃ z, e = .returned (.int .i64 z) ∧ Wgt (t.kids.getD j nothT) z ∧ Below w'.heap.size w' w'')) :
    Calls Tryz.prog 26 #[.pointer (some ⟨b, 0, none⟩)] w fun e w' => ∃ z, e = .returned (.int .i64 z) ∧ Wgt t z ∧ Below w.heap.size w w' := by
  have hkl := hs.2.2.2.2.2
  have hm1 := hs.2.1
  have hm2 := hs.2.2.1
  by_cases hk : t.kind = 1
  · have HW : Hid (Wgt t 1) := ⟨.inl (by rw [wT_eq, if_pos hk]; rfl), by omega, by omega⟩
    rw [hk] at c0
    clear hk hs
    go_enter Tryz.func26, Tryz.ntmps26
    go_wp2
    go_ret
    exact ⟨_, rfl, HW.out, Below.refl _ _⟩
  · have hq : (t.kind == 1) = false := by rw [beq_eq_false_iff_ne]; exact hk
    have HS : Hid (sumW t.kids < wT t) := wT_sum hk
    have HE6 : Hid (t.kind = 6 → sumW t.kids ≤ 60 → Wgt t ((sumW t.kids : Int) * max (max t.mn t.mx) 1 + 1)) := fun h6 h60 => by
      have e : (wT t : Int) = (sumW t.kids : Int) * max (max t.mn t.mx) 1 + 1 := by
        rw [wT_eq, if_neg hk, if_pos h6]
        have e1 : ((max (max t.mn t.mx).toNat 1 : Nat) : Int) = max (max t.mn t.mx) 1 := by omega
        unfold sumW
        push_cast
        rw [← e1]
      have h0 : 0 ≤ (sumW t.kids : Int) * max (max t.mn t.mx) 1 := Int.mul_nonneg (by omega) (by omega)
      have h1 : (sumW t.kids : Int) * max (max t.mn t.mx) 1 ≤ 60 * 50 := Int.mul_le_mul (by omega) (by omega) (by omega) (by omega)
      exact ⟨.inl e.symm, by omega, by omega⟩
    have HEn : Hid (t.kind ≠ 6 → sumW t.kids ≤ 60 → Wgt t ((sumW t.kids : Int) + 1)) := fun h6 h60 => by
      refine ⟨.inl ?_, by omega, by omega⟩
      rw [wT_eq, if_neg hk, if_neg h6]; unfold sumW; omega
    have HM : Hid (∀ a b w, Calls Tryz.prog 52 #[.int .i64 a, .int .i64 b] w fun e w' => e = .returned (.int .i64 (max a b)) ∧ w' = w) := most_any
    clear hk hs
    go_enter Tryz.func26, Tryz.ntmps26
    go_wp2
    go_loopw [3, 4] (fun nv iv wr => ∃ i : Nat, i ≤ t.kids.length ∧ iv = .int .i64 i ∧ nv = .int .i64 (sumW (t.kids.take i) : Int) ∧ sumW (t.kids.take i) ≤ 60 ∧ Below w.heap.size w wr) (fun _ iv _ => t.kids.length - (intOf iv).toNat)
    case atStart => exact ⟨0, Nat.zero_le _, rfl, rfl, by simp [sumW], Below.refl _ _⟩
    case round =>
      obtain ⟨i, hi, rfl, rfl, h60, hbw⟩ := hrel
      have d0 := (hbw.cell (p := ⟨b, 0, none⟩) hlt).trans c0
      have d2 := (hbw.cell (p := ⟨b, 2, none⟩) hlt).trans c2
      have d3 := (hbw.cell (p := ⟨b, 3, none⟩) hlt).trans c3
      have d4 := (hbw.cell (p := ⟨b, 4, none⟩) hlt).trans c4
      clear c0 c2 c3 c4
      by_cases hlt2 : i < t.kids.length
      · obtain ⟨g, off, b1, rfl, hg, hu, hc⟩ := HK.out i hlt2
        have hu' := (hbw.cell (p := ⟨g, off + i, none⟩) hg).trans hu
        have HC := hc wr hbw
        have HT : Hid (sumW (t.kids.take (i + 1)) = sumW (t.kids.take i) + wT (t.kids.getD i nothT)) := sumW_take _ i hlt2
        have HL : Hid (sumW (t.kids.take (i + 1)) ≤ sumW t.kids) := sumW_le _ _
        generalize hsi : sumW (t.kids.take i) = s0 at *
        clear hc hu hsi HE6 HEn d0 d2 d3
        go_wp2_with fail
        refine HC.mono ?_
        rintro e w2 ⟨z, rfl, hz, hb2⟩
        obtain ⟨hz1, hz2, hz3⟩ := hz
        have hbw2 := hbw.trans (hb2.mono hbw.size)
        by_cases hbig : 60 < (s0 : Int) + z
        · have HW : Hid (Wgt t 61) := by
            refine ⟨.inr ⟨by omega, ?_⟩, by omega, by omega⟩
            have := HS.out; have := HT.out; have := HL.out
            rcases hz1 with h | h <;> omega
          clear hz1
          go_wp2
          go_ret
          exact ⟨_, rfl, HW.out, hbw2⟩
        · have hze : z = (wT (t.kids.getD i nothT) : Int) := by rcases hz1 with h | h <;> omega
          have HN : Hid ((s0 : Int) + z = (sumW (t.kids.take (i + 1)) : Int)) := by show _ = _; have := HT.out; omega
          clear hz1 hze
          go_wp2
          go_roundw
          case rel => exact ⟨i + 1, by omega, by go_num, by rw [HN.out], by have := HN.out; omega, hbw2⟩
          case measure => simp [intOf]; omega
      · have hi2 : t.kids.take i = t.kids := List.take_of_length_le (by omega)
        rw [hi2] at h60 ⊢
        by_cases h6 : t.kind = 6
        · have HW := HE6.out h6 h60
          have HWW : Hid (Wgt t ((sumW t.kids : Int) * max (max t.mn t.mx) 1 + 1)) := HW
          have hp0 : 0 ≤ (sumW t.kids : Int) * max (max t.mn t.mx) 1 := Int.mul_nonneg (by omega) (by omega)
          have hp1 : (sumW t.kids : Int) * max (max t.mn t.mx) 1 ≤ 60 * 50 := Int.mul_le_mul (by omega) (by omega) (by omega) (by omega)
          have hw1 : IntKind.i64.wrap ((sumW t.kids : Int) * max (max t.mn t.mx) 1) = (sumW t.kids : Int) * max (max t.mn t.mx) 1 := wrap_id _ (by omega) (by omega)
          rw [h6] at d0
          clear hi2 HW HE6 HEn HS HK
          generalize hmx : max (max t.mn t.mx) 1 = M1 at *
          generalize hmm : max t.mn t.mx = M0 at *
          generalize t.mn = mn at *
          generalize t.mx = mx at *
          generalize (sumW t.kids : Int) = S at *
          have HM1 : Hid (∀ w, Calls Tryz.prog 52 #[.int .i64 mn, .int .i64 mx] w fun e w' => e = .returned (.int .i64 M0) ∧ w' = w) := fun w => by rw [← hmm]; exact HM.out mn mx w
          have HM2 : Hid (∀ w, Calls Tryz.prog 52 #[.int .i64 M0, .int .i64 1] w fun e w' => e = .returned (.int .i64 M1) ∧ w' = w) := fun w => by rw [← hmx]; exact HM.out M0 1 w
          clear HM hmx hmm hm1 hm2
          go_wp2
          go_quiet (first | (go_at_call 52; exact Calls.quiet_of_same (HM1.out _)) | (go_at_call 52; exact Calls.quiet_of_same (HM2.out _)))
          go_wp2
          go_ret
          exact ⟨_, rfl, HWW.out, below_drew' hbw _⟩
        · have hq6 : (t.kind == 6) = false := by rw [beq_eq_false_iff_ne]; exact h6
          have HWW : Hid (Wgt t ((sumW t.kids : Int) + 1)) := HEn.out h6 h60
          clear hi2 HE6 HEn HS HK h6
          generalize t.kind = kk at *
          go_wp2
          go_ret
          exact ⟨_, rfl, HWW.out, hbw⟩
theorem weight_any : ∀ (t : Tm), WgtC t := by
  refine Tm.ind ?_
  intro t ih ok w v hv hs
  obtain ⟨b, sv, ka, kc, hN⟩ := hv.node
  have e := hN.v_eq; subst e
  refine weight_raw hs.num hN.lt hN.c0 hN.c2 hN.c3 hN.c4 ?_
  intro j hj
  obtain ⟨g, off, u, h1, h2, _, h3, h4⟩ := hN.kid j hj
  obtain ⟨b1, rfl⟩ := h4.ptr
  exact ⟨g, off, b1, h1, h2, h3, fun w' hb => ih _ (getD_mem _ j hj) ok w' _ (h4.below hb) (hs.kid (getD_mem _ j hj))⟩
end Go.Proofs.YtbjohedenfindaaGreatDoor

namespace Go.Proofs.YtbjohedenfindaaGreatDoor
open Go.RowKit
set_option linter.unusedVariables false
set_option maxRecDepth 100000

/-- as many kids as the kind asks -/
def KidN (k n : Int) : Prop := (k = 1 ∧ n = 0) ∨ (k = 2 ∧ n ≠ 1) ∨ (k = 3 ∧ 1 < n) ∨ (k = 4 ∧ 1 < n) ∨ (k = 5 ∧ n = 1) ∨ (k = 6 ∧ n = 1)
set_option maxHeartbeats 2000000 in
theorem kidsok_yes {k n : Int} (h : KidN k n) (w : World) : Calls Tryz.prog 49 #[.int .i64 k, .int .i64 n] w fun e w' => e = .returned (.bool true) ∧ w' = w := by
  rcases h with ⟨rfl, rfl⟩ | ⟨rfl, h⟩ | ⟨rfl, h⟩ | ⟨rfl, h⟩ | ⟨rfl, rfl⟩ | ⟨rfl, rfl⟩
  · go_enter Tryz.func49, Tryz.ntmps49
    go_wp2
    go_ret
    exact ⟨rfl, rfl⟩
  · have hq : (n != 1) = true := by rw [bne_iff_ne]; exact h
    go_enter Tryz.func49, Tryz.ntmps49
    go_wp2
    go_ret
    first | exact ⟨rfl, rfl⟩ | exact ⟨by rw [hq], rfl⟩ | exact ⟨by simp [h], rfl⟩
  · go_enter Tryz.func49, Tryz.ntmps49
    go_wp2
    go_ret
    first | exact ⟨rfl, rfl⟩ | exact ⟨by simp [h], rfl⟩
  · go_enter Tryz.func49, Tryz.ntmps49
    go_wp2
    go_ret
    first | exact ⟨rfl, rfl⟩ | exact ⟨by simp [h], rfl⟩
  · go_enter Tryz.func49, Tryz.ntmps49
    go_wp2
    go_ret
    exact ⟨rfl, rfl⟩
  · go_enter Tryz.func49, Tryz.ntmps49
    go_wp2
    go_ret
    exact ⟨rfl, rfl⟩
theorem kidN_of {t : Re} (h : NodeOk t) : KidN t.kind t.kids.length := by
  unfold KidN
  rcases h with ⟨h1, h2, _⟩ | ⟨h1, h2, _⟩ | ⟨h1, h2, _⟩ | ⟨h1, h2, _⟩ | ⟨h1, h2, _⟩
  · rw [h2]; simp [h1]
  · omega
  · omega
  · omega
  · omega
theorem node_set {t : Re} (h : NodeOk t) : canonFrom 0 t.set = true ∧ (t.kind = 1 ∨ ((t.kind != 1) = true ∧ t.set = [])) := by
  rcases h with ⟨h1, _, _, _, h2, _⟩ | ⟨h1, _, _, _, _, h2⟩ | ⟨h1, _, _, _, _, h2⟩ | ⟨h1, _, _, _, h2⟩ | ⟨h1, _, _, _, _, h2⟩
  · exact ⟨h2, .inl h1⟩
  all_goals
    rw [h2]
    refine ⟨rfl, .inr ⟨?_, rfl⟩⟩
    rw [bne_iff_ne]; omega

set_option maxHeartbeats 4000000 in
theorem shaped_deep {w : World} {b : Nat} (z : Int) (h : 30 < z) : Calls Tryz.prog 25 #[.pointer (some ⟨b, 0, none⟩), .int .i64 z] w fun e w' => ∃ bb, e = .returned (.bool bb) ∧ Below w.heap.size w w' := by
  go_enter Tryz.func25, Tryz.ntmps25
  go_wp2
  go_ret
  exact ⟨_, rfl, Below.refl _ _⟩

set_option maxHeartbeats 8000000 in
theorem shaped_raw {w : World} {b kc sc : Nat} {kind mn mx : Int} {set : List Rg} {nk : Nat} {ka sa : Option Addr} {mk : List Rg → Bool → List Rg} (M : MkOk mk) (z : Int) (hz0 : 0 ≤ z) (hz : z ≤ 30) (hlt : b < w.heap.size) (hnk : nk ≤ 17592186000000) (hkn : KidN kind nk) (hcan : canonFrom 0 set = true) (hkind : kind = 1 ∨ ((kind != 1) = true ∧ set = []))
    (c0 : w.cell? ⟨b, 0, none⟩ = some (.int .i64 kind)) (c1 : w.cell? ⟨b, 1, none⟩ = some (.slice sa set.length sc)) (c2 : w.cell? ⟨b, 2, none⟩ = some (.int .i64 mn)) (c3 : w.cell? ⟨b, 3, none⟩ = some (.int .i64 mx)) (c4 : w.cell? ⟨b, 4, none⟩ = some (.slice ka nk kc)) (hset : Rngs w (.slice sa set.length sc) set)
    (HK : Hid (∀ j, j < nk → ∃ g off b1, ka = some ⟨g, off, none⟩ ∧ g < w.heap.size ∧ w.cell? ⟨g, off + j, none⟩ = some (.pointer (some ⟨b1, 0, none⟩)) ∧ ∀ w', Below w.heap.size w w' → Calls Tryz.prog 25 #[.pointer (some ⟨b1, 0, none⟩), .int .i64 (z + 1)] w' fun e w'' => ∃ bb, e = .returned (.bool bb) ∧ Below w'.heap.size w' w'')) :
    Calls Tryz.prog 25 #[.pointer (some ⟨b, 0, none⟩), .int .i64 z] w fun e w' => ∃ bb, e = .returned (.bool bb) ∧ Below w.heap.size w w' := by
  have hlen : set.length ≤ 600000 := (upto_canon (canon_upto hcan)).2
  have hself := M.self hcan
  have HKo : Hid (∀ w', Calls Tryz.prog 49 #[.int .i64 kind, .int .i64 (nk : Int)] w' fun e w'' => e = .returned (.bool true) ∧ w'' = w') := fun w' => kidsok_yes hkn w'
  have HTi : Hid (∀ w', Below w.heap.size w w' → Calls Tryz.prog 50 #[.pointer (some ⟨b, 0, none⟩)] w' fun e w'' => ∃ bb, e = .returned (.bool bb) ∧ Below w'.heap.size w' w'') := fun w' hb => timesok_any (Nat.lt_of_lt_of_le hlt hb.size) ((hb.cell (p := ⟨b, 0, none⟩) hlt).trans c0) ((hb.cell (p := ⟨b, 2, none⟩) hlt).trans c2) ((hb.cell (p := ⟨b, 3, none⟩) hlt).trans c3)
  have HCa : Hid (∀ w', Below w.heap.size w w' → Calls Tryz.prog 51 #[.slice sa set.length sc] w' fun e w'' => ∃ ua uc, e = .returned (.slice ua set.length uc) ∧ Rngs w'' (.slice ua set.length uc) set ∧ Rngs w'' (.slice sa set.length sc) set ∧ Below w'.heap.size w' w'') := fun w' hb => by
    refine (rcanon_mk M _ set w' hlen (hset.below hb)).mono ?_
    rintro e w'' ⟨u, rfl, h1, h2⟩
    rw [hself] at h1
    obtain ⟨ua, uc, rfl⟩ := rngs_slice h1.rngs
    exact ⟨ua, uc, rfl, h1.rngs, (hset.below hb).below h2, h2⟩
  have HSa : Hid (∀ (w' : World) (ua : Option Addr) (uc : Nat), Rngs w' (.slice ua set.length uc) set → Rngs w' (.slice sa set.length sc) set → Calls Tryz.prog 24 #[.slice ua set.length uc, .slice sa set.length sc] w' fun e w'' => e = .returned (.bool true) ∧ ∃ n, w'' = w'.drewN n) := fun w' ua uc h1 h2 => sameset_any _ _ set w' (by omega) h1 h2
  have hzz : IntKind.i64.wrap (z + 1) = z + 1 := wrap_id _ (by omega) (by omega)
  have hz30 : ¬ 30 < z := by omega
  have hkind2 : kind = 1 ∨ ((kind != 1) = true ∧ set.length = 0) := by
    rcases hkind with h | ⟨h, h2⟩
    · exact .inl h
    · exact .inr ⟨h, by rw [h2]; rfl⟩
  clear hself hkn hcan hset c2 c3 hkind
  generalize set.length = ns at *
  have HF : Hid (∀ w', Below w.heap.size w w' → w'.cell? ⟨b, 0, none⟩ = some (.int .i64 kind) ∧ w'.cell? ⟨b, 1, none⟩ = some (.slice sa ns sc) ∧ w'.cell? ⟨b, 4, none⟩ = some (.slice ka nk kc) ∧ b < w'.heap.size) := fun w' hb => ⟨(hb.cell (p := ⟨b, 0, none⟩) hlt).trans c0, (hb.cell (p := ⟨b, 1, none⟩) hlt).trans c1, (hb.cell (p := ⟨b, 4, none⟩) hlt).trans c4, Nat.lt_of_lt_of_le hlt hb.size⟩
  go_enter Tryz.func25, Tryz.ntmps25
  go_wp2
  go_quiet ((go_at_call 49; exact Calls.quiet_of_same (HKo.out _)))
  have hb1 : Below w.heap.size w (w.drewN nq) := ⟨rfl, rfl, rfl, Nat.le_refl _, fun _ _ => rfl⟩
  generalize w.drewN nq = w1 at *
  obtain ⟨d0, d1, d4, dl⟩ := HF.out w1 hb1
  clear c0 c1 c4
  go_wp2_with fail
  go_at_call 50
  refine (HTi.out w1 hb1).mono ?_
  rintro e w2 ⟨bb, rfl, hbx⟩
  have hb2 := hb1.trans (hbx.mono hb1.size)
  obtain ⟨e0, e1, e4, el⟩ := HF.out w2 hb2
  clear d0 d1 d4 dl hbx hb1
  go_wp2_with fail
  go_at_call 51
  refine (HCa.out w2 hb2).mono ?_
  rintro e w3 ⟨ua, uc, rfl, hR1, hR2, hbx⟩
  have HR : Hid (Rngs w3 (.slice ua ns uc) set ∧ Rngs w3 (.slice sa ns sc) set) := ⟨hR1, hR2⟩
  have hb3 := hb2.trans (hbx.mono hb2.size)
  obtain ⟨f0, f1, f4, fl⟩ := HF.out w3 hb3
  clear e0 e1 e4 el hbx hb2 hR1 hR2
  go_wp2_with fail
  go_at_call 24
  refine (HSa.out w3 ua uc HR.out.1 HR.out.2).mono ?_
  rintro e w4 ⟨rfl, n4, hw4⟩
  have hb4 : Below w.heap.size w w4 := by rw [hw4]; exact below_drewU hb3 n4
  obtain ⟨g0, g1, g4, gl⟩ := HF.out w4 hb4
  clear f0 f1 f4 fl hb3 hw4 HR
  have HL : Hid (∀ (wr : World) (j : Nat), Below w.heap.size w wr → j < nk → ∃ g off b1, ka = some ⟨g, off, none⟩ ∧ wr.cell? ⟨g, off + j, none⟩ = some (.pointer (some ⟨b1, 0, none⟩)) ∧ Calls Tryz.prog 25 #[.pointer (some ⟨b1, 0, none⟩), .int .i64 (z + 1)] wr fun e w'' => ∃ bb, e = .returned (.bool bb) ∧ Below w.heap.size w w'') := fun wr j hb hj => by
    obtain ⟨g, off, b1, h1, h2, h3, h4⟩ := HK.out j hj
    refine ⟨g, off, b1, h1, (hb.cell (p := ⟨g, off + j, none⟩) h2).trans h3, (h4 wr hb).mono ?_⟩
    rintro e w'' ⟨bb, rfl, hbx⟩
    exact ⟨bb, rfl, hb.trans (hbx.mono hb.size)⟩
  clear HK HTi HCa HSa HKo hlen
  cases bb
  · go_wp2
    go_ret
    exact ⟨_, rfl, hb4⟩
  · rcases hkind2 with rfl | ⟨hq, rfl⟩
    all_goals
      go_wp2
      go_loopw [9] (fun iv wr => ∃ i : Nat, i ≤ nk ∧ iv = .int .i64 i ∧ Below w.heap.size w wr) (fun iv _ => nk - (intOf iv).toNat)
      case atStart => exact ⟨0, Nat.zero_le _, rfl, hb4⟩
      case round =>
        clear g0 g1 g4 gl hb4
        obtain ⟨i, hi, rfl, hbw⟩ := hrel
        obtain ⟨g0, g1, g4, gl⟩ := HF.out wr hbw
        by_cases hlt2 : i < nk
        · obtain ⟨g, off, b1, rfl, hu, hC⟩ := HL.out wr i hbw hlt2
          have HC : Hid (Calls Tryz.prog 25 #[.pointer (some ⟨b1, 0, none⟩), .int .i64 (z + 1)] wr fun e w'' => ∃ bb, e = .returned (.bool bb) ∧ Below w.heap.size w w'') := hC
          clear hC
          go_wp2_with fail
          go_at_call 25
          refine HC.out.mono ?_
          rintro e w5 ⟨bb, rfl, hb5⟩
          clear g0 g1 g4 gl hu HC
          cases bb
          · go_wp2
            go_ret
            exact ⟨_, rfl, hb5⟩
          · go_wp2
            go_roundw
            case rel => exact ⟨i + 1, by omega, by go_num, hb5⟩
            case measure => simp [intOf]; omega
        · go_wp2
          go_ret
          exact ⟨_, rfl, hbw⟩

theorem good_kid {t x : Tm} (h : GoodT (reOf t)) (hx : x ∈ t.kids) : GoodT (reOf x) := fun n => by
  have h1 : some (reOf x) ∈ (reOf t).kids := by
    rw [reOf_eq]
    exact List.mem_map_of_mem (List.mem_map_of_mem hx)
  obtain ⟨k', e, h2⟩ := (h (n + 1)).2 (some (reOf x)) h1
  injection e with e
  subst e
  exact h2
def ShC (t : Tm) : Prop := ∀ (ok : Nat → Prop) (w : World) (v : Value) (z : Int), 0 ≤ z → z ≤ 31 → TT ok w v t → GoodT (reOf t) → Sml t → Calls Tryz.prog 25 #[v, .int .i64 z] w fun e w' => ∃ bb, e = .returned (.bool bb) ∧ Below w.heap.size w w'
theorem shaped_any {mk : List Rg → Bool → List Rg} (M : MkOk mk) : ∀ (t : Tm), ShC t := by
  refine Tm.ind ?_
  intro t ih ok w v z hz0 hz1 hv hG hs
  obtain ⟨b, sv, ka, kc, hN⟩ := hv.node
  have e := hN.v_eq; subst e
  by_cases hz : z ≤ 30
  · have hno : NodeOk (reOf t) := (hG 1).1
    have hk := kidN_of hno
    have hst := node_set hno
    have e1 : (reOf t).kind = t.kind := by rw [reOf_eq]
    have e2 : (reOf t).kids.length = t.kids.length := by rw [reOf_eq]; simp
    have e3 : (reOf t).set = t.set := by rw [reOf_eq]
    rw [e1, e2] at hk
    rw [e1, e3] at hst
    have c1 := hN.c1
    have hr := hN.set.rngs
    obtain ⟨sa, sc, rfl⟩ := rngs_slice hr
    refine shaped_raw M z hz0 hz hN.lt hs.num.2.2.2.2.2 hk hst.1 hst.2 hN.c0 c1 hN.c2 hN.c3 hN.c4 hr ?_
    intro j hj
    obtain ⟨g, off, u, h1, h2, _, h3, h4⟩ := hN.kid j hj
    obtain ⟨b1, rfl⟩ := h4.ptr
    exact ⟨g, off, b1, h1, h2, h3, fun w' hb => ih _ (getD_mem _ j hj) ok w' _ (z + 1) (by omega) (by omega) (h4.below hb) (good_kid hG (getD_mem _ j hj)) (hs.kid (getD_mem _ j hj))⟩
  · exact shaped_deep z (by omega)

set_option maxHeartbeats 2000000 in
theorem patok_any {mk : List Rg → Bool → List Rg} (M : MkOk mk) (t : Tm) (ok : Nat → Prop) (w : World) (v : Value) (hv : TT ok w v t) (hG : GoodT (reOf t)) (hs : Sml t) :
    Calls Tryz.prog 13 #[v] w fun e w' => ∃ b, e = .returned (.bool b) ∧ Below w.heap.size w w' := by
  have HS : Hid (Calls Tryz.prog 25 #[v, .int .i64 0] w fun e w' => ∃ bb, e = .returned (.bool bb) ∧ Below w.heap.size w w') := shaped_any M t ok w v 0 (by omega) (by omega) hv hG hs
  have HW : Hid (∀ w', Below w.heap.size w w' → Calls Tryz.prog 26 #[v] w' fun e w'' => ∃ z, e = .returned (.int .i64 z) ∧ Below w'.heap.size w' w'') := fun w' hb => (weight_any t ok w' v (hv.below hb) hs).mono fun e w'' ⟨z, h1, _, h2⟩ => ⟨z, h1, h2⟩
  obtain ⟨b, rfl⟩ := hv.ptr
  clear hv hG hs
  go_enter Tryz.func13, Tryz.ntmps13
  go_wp2_with fail
  go_at_call 25
  refine HS.out.mono ?_
  rintro e w1 ⟨bb, rfl, hb1⟩
  cases bb
  · go_wp2
    go_ret
    exact ⟨_, rfl, hb1⟩
  · go_wp2_with fail
    go_at_call 26
    refine (HW.out w1 hb1).mono ?_
    rintro e w2 ⟨z, rfl, hb2⟩
    have hb3 := hb1.trans (hb2.mono hb1.size)
    by_cases hz : z ≤ 60
    all_goals
      go_wp2
      go_ret
      exact ⟨_, rfl, hb3⟩
theorem pokc_of {mk : List Rg → Bool → List Rg} (M : MkOk mk) {s : ByteArray} (hs : s.size ≤ 1000000) : PokC s mk := by
  intro B w v t hw hT
  have hG := wholeS_good hs (fun a b _ => ⟨(M a b).2.1, Nat.le_trans (M a b).2.2 (by omega)⟩) hw
  obtain ⟨tm, rfl, hO, hS, hTw⟩ := good_tm t hG
  exact patok_any M tm _ w v hT hG hS

end Go.Proofs.YtbjohedenfindaaGreatDoor

namespace Go.Proofs.YtbjohedenfindaaGreatDoor
set_option linter.unusedVariables false

variable {mk : List Rg → Bool → List Rg}

theorem setB_len {l : List Rg} (hc : canonFrom 0 l = true) : 1 ≤ (setB mk l).length := by
  have hok := canon_ok hc
  unfold setB
  split
  · rename_i h1
    obtain ⟨x, rfl⟩ := List.length_eq_one_iff.1 h1.1
    have hx := hok x (by simp)
    have := pt_len (c := x.1.toNat) (sg := outerS) (by have := hx.2.1; have := hx.2.2; omega)
    simpa using this.1
  · split
    · simp
    · split <;> simp
theorem gather_many {k : Int} {l : List Re} (h : l.length ≠ 1) : gatherS k l = ⟨k, [], 0, 0, l.map some⟩ := by
  match l, h with
  | [], _ => rfl
  | [p], h => simp at h
  | p :: q :: r, _ => rfl
theorem maps_at (ks : List Tm) (n : Nat) : ((ks.map (wrT mk)).map fun w => w n) = ks.map fun x => wrT mk x n := by simp [List.map_map, Function.comp_def]
theorem pairs_1 (ks : List Tm) (n : Nat) : ((ks.map fun x => (wrT mk x n, reOf x)).map (·.1)) = ks.map fun x => wrT mk x n := by simp [List.map_map, Function.comp_def]
theorem pairs_2 (ks : List Tm) (n : Nat) : ((ks.map fun x => (wrT mk x n, reOf x)).map (·.2)) = ks.map reOf := by simp [List.map_map, Function.comp_def]
theorem fst_flat {ks : List Tm} {n : Nat} (hne : ks ≠ []) (h : ∀ x ∈ ks, Fst (wrT mk x n)) : Fst (ks.map fun x => wrT mk x n).flatten := by
  cases ks with
  | nil => exact absurd rfl hne
  | cons x t => simpa using fst_append (h x (by simp))
theorem fst_join {c : Nat} {ks : List Tm} {n : Nat} (hne : ks ≠ []) (h : ∀ x ∈ ks, Fst (wrT mk x n)) : Fst (joinB c (ks.map fun x => wrT mk x n)) := by
  cases ks with
  | nil => exact absurd rfl hne
  | cons x t => simpa [joinB] using fst_append (h x (by simp))

theorem rd_all (M : MkOk mk) : ∀ (t : Tm), GoodT (reOf t) → Rd mk (2 * hT t) t := by
  refine Tm.ind ?_
  intro t ih hG
  have A := mk_all M
  have hno : NodeOk (reOf t) := (hG 1).1
  have hh : 1 ≤ hT t := by rw [hT_eq]; omega
  have hk : ∀ x ∈ t.kids, Rd mk (2 * hT x) x ∧ 2 * hT x + 2 ≤ 2 * hT t := fun x hx => ⟨ih x hx (good_kid hG hx), by have := hT_kid hx; omega⟩
  have er : reOf t = ⟨t.kind, t.set, t.mn, t.mx, (t.kids.map reOf).map some⟩ := reOf_eq t
  rw [er] at hno
  obtain ⟨N, hN⟩ : ∃ N, 2 * hT t = N + 1 := ⟨2 * hT t - 1, by omega⟩
  rw [hN] at hk ⊢
  have hN1 : 1 ≤ N := by omega
  clear hh hN ih
  rcases hno with ⟨h1, h2, h3, h4, h5, _⟩ | ⟨h1, h2, _, h3, h4, h5⟩ | ⟨h1, h2, _, h3, h4, h5⟩ | ⟨h1, h2, h3, h4, h5⟩ | ⟨h1, h2, h3, h3', h4, h5⟩ <;> simp only at h1 h2 h3 h4 h5
  · -- a set
    have hkn : t.kids = [] := by simpa using h2
    refine rd_of (own := 4) (l := setB mk t.set) (by omega) (fun place => ?_) (fun s i hA => set_first h5 hA) (setB_len h5) (fun _ => ?_) (by omega) (by omega) (by omega) (by omega)
    · rw [wrT_eq, h1]; simp [placeK, bodyB]
    · intro s i n hn hA hi
      obtain ⟨n', rfl⟩ : ∃ n', n = n' + 1 := ⟨n - 1, by omega⟩
      rw [set_at M A h5 hA hi n', er, h1, h3, h4, hkn]
      rfl
  · -- a row
    by_cases h0 : t.kids = []
    · have hRU : RU mk 1 [40, 41] (reOf t) := by
        have q1 := rr_row (mk := mk) (N := 0) [] (by simp)
        have q2 := ra_ru (rb_ra (rr_rb q1))
        have e : gatherS 2 (([] : List (List Nat × Re)).map (·.2)) = reOf t := by rw [er, h1, h3, h4, h5, h0]; rfl
        rw [e] at q2
        exact q2
      refine rd_of (own := 2) (l := [40, 41]) (by omega) (fun place => ?_) fst_open (by simp) (by omega) (by omega) (fun _ => rp_rr (ru_rp (hRU.mono hN1)) fst_open (by simp)) (by omega) (by omega)
      rw [wrT_eq, h1, h0]; simp [placeK, bodyB]
    · have hw : ∀ x ∈ t.kids.map (fun x => (wrT mk x 3, reOf x)), RP mk N x.1 x.2 ∧ Fst x.1 ∧ 1 ≤ x.1.length := by
        intro x hx
        obtain ⟨y, hy, rfl⟩ := List.mem_map.1 hx
        obtain ⟨q1, q2⟩ := hk y hy
        exact ⟨q1.p.mono (by omega), q1.f 3, q1.len 3⟩
      have hRR := rr_row (mk := mk) (N := N) _ hw
      rw [pairs_1, pairs_2, gather_many (by simpa using h2)] at hRR
      refine rd_of (own := 2) (l := (t.kids.map fun x => wrT mk x 3).flatten) (by omega) (fun place => ?_) (fst_flat h0 fun x hx => (hk x hx).1.f 3) ?_ (by omega) (by omega) (fun _ => ?_) (by omega) (by omega)
      · rw [wrT_eq, h1]
        have : t.kids.length ≠ 0 := fun e => h0 (List.length_eq_zero_iff.1 e)
        simp [placeK, bodyB, h0, Function.comp_def]
      · cases hq : t.kids with
        | nil => exact absurd hq h0
        | cons y r =>
          have := (hk y (by rw [hq]; simp)).1.len 3
          simp; omega
      · rw [er, h1, h3, h4, h5]; exact hRR
  · -- or, and
    have hl2 : 2 ≤ t.kids.length := by simpa using h2
    obtain ⟨y, r, hq⟩ : ∃ y r, t.kids = y :: r := by
      cases hq : t.kids with
      | nil => rw [hq] at hl2; simp at hl2
      | cons y r => exact ⟨y, r, rfl⟩
    have h0 : t.kids ≠ [] := by rw [hq]; simp
    have hlen : ∀ n c, 1 ≤ (joinB c (t.kids.map fun x => wrT mk x n)).length := fun n c => by
      have := (hk y (by rw [hq]; simp)).1.len n
      rw [hq]; simp [joinB]; omega
    rcases h1 with h1 | h1
    · have hw : ∀ x ∈ (wrT mk y 1, reOf y) :: r.map (fun x => (wrT mk x 1, reOf x)), RB mk N x.1 x.2 := by
        intro x hx
        have hx' : x ∈ t.kids.map (fun x => (wrT mk x 1, reOf x)) := by rw [hq]; simpa using hx
        obtain ⟨z, hz, rfl⟩ := List.mem_map.1 hx'
        obtain ⟨q1, q2⟩ := hk z hz
        exact q1.b.mono (by omega)
      have hRA := ra_any (mk := mk) (N := N) _ _ hw
      have e1 : ((wrT mk y 1, reOf y) :: r.map (fun x => (wrT mk x 1, reOf x))) = t.kids.map (fun x => (wrT mk x 1, reOf x)) := by rw [hq]; rfl
      rw [e1, pairs_1, pairs_2, gather_many (by rw [List.length_map]; omega)] at hRA
      refine rd_of (own := 0) (l := joinB 124 (t.kids.map fun x => wrT mk x 1)) (by omega) (fun place => ?_) (fst_join h0 fun x hx => (hk x hx).1.f 1) (hlen 1 124) (by omega) (by omega) (by omega) (by omega) (fun _ => ?_)
      · rw [wrT_eq, h1]; simp [placeK, bodyB, Function.comp_def]
      · rw [er, h1, h3, h4, h5]; exact hRA
    · have hw : ∀ x ∈ (wrT mk y 2, reOf y) :: r.map (fun x => (wrT mk x 2, reOf x)), RR mk N x.1 x.2 := by
        intro x hx
        have hx' : x ∈ t.kids.map (fun x => (wrT mk x 2, reOf x)) := by rw [hq]; simpa using hx
        obtain ⟨z, hz, rfl⟩ := List.mem_map.1 hx'
        obtain ⟨q1, q2⟩ := hk z hz
        exact q1.r.mono (by omega)
      have hRB := rb_both (mk := mk) (N := N) _ _ hw
      have e1 : ((wrT mk y 2, reOf y) :: r.map (fun x => (wrT mk x 2, reOf x))) = t.kids.map (fun x => (wrT mk x 2, reOf x)) := by rw [hq]; rfl
      rw [e1, pairs_1, pairs_2, gather_many (by rw [List.length_map]; omega)] at hRB
      refine rd_of (own := 1) (l := joinB 38 (t.kids.map fun x => wrT mk x 2)) (by omega) (fun place => ?_) (fst_join h0 fun x hx => (hk x hx).1.f 2) (hlen 2 38) (by omega) (by omega) (by omega) (fun _ => ?_) (by omega)
      · rw [wrT_eq, h1]; simp [placeK, bodyB, Function.comp_def]
      · rw [er, h1, h3, h4, h5]; exact hRB
  · -- not
    have hl1 : t.kids.length = 1 := by simpa using h2
    obtain ⟨y, hq⟩ := List.length_eq_one_iff.1 hl1
    obtain ⟨q1, q2⟩ := hk y (by rw [hq]; simp)
    refine rd_of (own := 4) (l := 126 :: wrT mk y 4) (by omega) (fun place => ?_) (fun s i hA => ?_) (by simp) (fun _ => ?_) (by omega) (by omega) (by omega) (by omega)
    · rw [wrT_eq, h1, hq]; simp [placeK, bodyB]
    · obtain ⟨e1, _, e2⟩ := At.cp hA (by omega)
      rw [e1]
      exact ⟨e2, by omega, by omega, by omega, by omega, by omega, by decide⟩
    · intro s i n hn hA hi
      obtain ⟨n', rfl⟩ : ∃ n', n = n' + 1 := ⟨n - 1, by omega⟩
      have c1 : cpAt s i = 126 := by simpa using (At.cp hA (by omega)).1
      obtain ⟨hlt, hA1⟩ := At.cons.1 hA
      have hu := q1.u s (i + 1) n' (by omega) hA1 (by omega)
      rw [unitS, if_pos c1, hu, er, h1, h3, h4, h5, hq]
      simp [notRe]
      omega
  · -- repeated
    have hl1 : t.kids.length = 1 := by simpa using h2
    obtain ⟨y, hq⟩ := List.length_eq_one_iff.1 hl1
    obtain ⟨q1, q2⟩ := hk y (by rw [hq]; simp)
    have hT : TimesOk t.mn t.mx := ⟨h3, h3', h4⟩
    have htl := times_len t.mn t.mx
    refine rd_of (own := 3) (l := wrT mk y 3 ++ timesB t.mn t.mx) (by omega) (fun place => ?_) (fst_append (q1.f 3)) (by have := q1.len 3; simp; omega) (by omega) (fun _ => ?_) (by omega) (by omega) (by omega)
    · rw [wrT_eq, h1, hq]; simp [placeK, bodyB]
    · intro s i n hn hA hi
      obtain ⟨hA1, hA2⟩ := At.append.1 hA
      obtain ⟨u, i1, m, g1, g2, g3⟩ := q1.p s i n (by omega) hA1 hi
      refine ⟨u, i1, m + 1, g1, by rw [List.length_append]; omega, fun f => ?_⟩
      rw [show f + (m + 1) = f + 1 + m by omega, g3, times_at hT hA2, er, h1, h5, hq, List.length_append, Nat.add_assoc]
      rfl

end Go.Proofs.YtbjohedenfindaaGreatDoor
