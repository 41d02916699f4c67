/- Texts of the proof, put together: MFindC, MFrom, GTm. -/
import Derived.Test.YtbjohedenfindaaGreatDoorPb32
import Derived.Test.YtbjohedenfindaaGreatDoorPb25
namespace Go.Proofs.YtbjohedenfindaaGreatDoor
open Go.RowKit
set_option linter.unusedVariables false
set_option maxRecDepth 100000

section
variable {zs : List Int} {Φ : Nat → Option Tm} {m : Nat}

theorem bits_others {t : Tm} {a N : Nat} (hz : zs.length ≤ 40) (ha : a ≤ zs.length) (h : BitsOf (InL zs t a) N) : BitsOf (InL zs (notT t) a) ((18446744073709551615 ^^^ N) &&& (2 ^ (zs.length - a + 1) - 1)) := by
  intro n
  rw [Nat.testBit_and, Nat.testBit_two_pow_sub_one, Nat.testBit_xor]
  have hall : ∀ n, n < 64 → Nat.testBit 18446744073709551615 n = true := fun n hn => by
    rw [show (18446744073709551615 : Nat) = 2 ^ 64 - 1 from rfl, Nat.testBit_two_pow_sub_one]; simpa using hn
  unfold InL
  rw [M_not]
  by_cases hn : n < zs.length - a + 1
  · rw [hall n (by omega)]
    have hn' : a + n ≤ zs.length := by omega
    have h1 := h n
    unfold InL at h1
    simp only [hn, decide_true, Bool.and_true, Bool.true_bne, Bool.not_eq_true', hn', true_and] at h1 ⊢
    rw [← h1]
    cases N.testBit n <;> simp
  · have hn' : ¬ (a + n ≤ zs.length) := by omega
    simp [hn, hn']

set_option maxHeartbeats 4000000 in
theorem find_not {x : Tm} (hz : zs.length ≤ 40) (hF : FromC zs Φ m x) {ok : Nat → Prop} {w : World} {sb re a kept kc : Nat} {ka : Option Addr} (hS : Spot Φ m w sb re (notT x) ka kc) (hMS : MS zs Φ m ok w kept) (ha : a ≤ zs.length) :
    Calls Tryz.prog 61 #[.pointer (some ⟨m, 0, none⟩), .pointer (some ⟨sb, 0, none⟩), .int .i64 a] w fun e w' => Gives zs Φ m ok w (InL zs (notT x) a) e w' := by
  have HMS : Hid (MS zs Φ m ok w kept) := hMS
  obtain ⟨ta, tc, ht1, _⟩ := hMS.text
  have c0 := hS.c0
  have r0 : w.cell? ⟨re, 0, none⟩ = some (.int .i64 5) := hS.r0
  have mt : w.cell? ⟨m, 0, none⟩ = some (.slice ta zs.length tc) := by simp [World.cell?, ht1]
  obtain ⟨g, off, b1, e1, h2, h3, h4, h5⟩ := hS.kid 0 (by simp [notT])
  have c1 : w.cell? ⟨sb, 1, none⟩ = some (.slice (some ⟨g, off, none⟩) 1 kc) := by have := hS.c1; rw [e1] at this; exact this
  have h4' : w.cell? ⟨g, off, none⟩ = some (.pointer (some ⟨b1, 0, none⟩)) := by simpa using h4
  have h5' : SP Φ m w (.pointer (some ⟨b1, 0, none⟩)) x := by simpa [notT] using h5
  have HC : Hid (Calls Tryz.prog 33 #[.pointer (some ⟨m, 0, none⟩), .pointer (some ⟨b1, 0, none⟩), .int .i64 a] w fun e w' => Gives zs Φ m ok w (InL zs x a) e w') := hF ok w _ a kept h5' hMS ha
  have HO : Hid (∀ w2 v N, LenV (orNew ok w) w2 v N → BitsOf (InL zs x a) N → Calls Tryz.prog 97 #[v, .int .i64 ((zs.length - a : Nat) : Int)] w2 fun e w' => ∃ u, e = .returned u ∧ OwnL w' w2.heap.size u ((18446744073709551615 ^^^ N) &&& (2 ^ (zs.length - a + 1) - 1)) ∧ Below w2.heap.size w2 w') := fun w2 v N hv hb => lothers_any (by omega) (Nat.lt_trans (hb.lt fun n hn => by have := hn.1; omega) (by decide)) hv
  have HBt : Hid (∀ N, BitsOf (InL zs x a) N → BitsOf (InL zs (notT x) a) ((18446744073709551615 ^^^ N) &&& (2 ^ (zs.length - a + 1) - 1))) := fun N h => bits_others hz ha h
  have HR : Hid ((zs.length : Int) - (a : Int) = ((zs.length - a : Nat) : Int)) := by show _ = _; omega
  generalize InL zs (notT x) a = Q at *
  clear hS hMS ht1 h4 h5 h5' hF
  go_enter Tryz.func61, Tryz.ntmps61
  go_wp2_with fail
  refine HC.out.mono ?_
  intro e w1 hG
  obtain ⟨v1, N1, kp1, rfl, hv1, hb1, hM1, hf1⟩ := hG.all
  have HO1 := HO.out w1 v1 N1 hv1 hb1
  have HB1 := HBt.out N1 hb1
  have HBB : Hid (BitsOf Q ((18446744073709551615 ^^^ N1) &&& (2 ^ (zs.length - a + 1) - 1))) := HB1
  have HM1 : Hid (MS zs Φ m (orNew ok w) w1 kp1) := hM1
  clear hG hv1 hb1 hM1 HO HBt HB1 c0 c1 r0 mt h4'
  go_wp2_with fail
  rw [HR.out]
  refine HO1.mono ?_
  rintro e w2 ⟨v2, rfl, hO2, hb2⟩
  have HO2 : Hid (OwnL w2 w1.heap.size v2 ((18446744073709551615 ^^^ N1) &&& (2 ^ (zs.length - a + 1) - 1))) := hO2
  clear hO2 HO1
  go_wp2
  go_ret
  exact ⟨_, _, kp1, rfl, HO2.out.len.imp (fun b h => .inr (Nat.le_trans hf1.size h)), HBB.out, HM1.out.below hb2, hf1.trans (Fr.below hb2)⟩

/-! ## Both -/
def AndL (zs : List Int) (l : List Tm) (a j n : Nat) : Prop := ∀ i, i < j → InL zs (l.getD i nothT) a n
theorem and_next {l : List Tm} {a j N N2 : Nat} (h : BitsOf (AndL zs l a j) N) (h2 : BitsOf (InL zs (l.getD j nothT) a) N2) : BitsOf (AndL zs l a (j + 1)) (N &&& N2) := by
  intro n
  rw [Nat.testBit_and, Bool.and_eq_true, h n, h2 n]
  constructor
  · rintro ⟨h1, h3⟩ i hi
    by_cases e : i = j
    · subst e; exact h3
    · exact h1 i (by omega)
  · intro h1; exact ⟨fun i hi => h1 i (by omega), h1 j (by omega)⟩
theorem and_one {l : List Tm} {a N2 : Nat} (h2 : BitsOf (InL zs (l.getD 0 nothT) a) N2) : BitsOf (AndL zs l a 1) (0 ||| N2 * 2 ^ 0) := by
  rw [Nat.pow_zero, Nat.mul_one, Nat.zero_or]
  exact h2.congr fun n => ⟨fun h i hi => by
    have : i = 0 := by omega
    subst this; exact h, fun h => h 0 (by omega)⟩
theorem and_all {l : List Tm} {a : Nat} (hl : l ≠ []) (n : Nat) : AndL zs l a l.length n ↔ InL zs (sevT 4 l) a n := by
  unfold AndL InL
  rw [sevT, M_and]
  have hp : 0 < l.length := List.length_pos_iff.2 hl
  constructor
  · intro h
    refine ⟨(h 0 hp).1, fun x hx => ?_⟩
    obtain ⟨i, hi, rfl⟩ := List.getElem_of_mem hx
    have := (h i hi).2
    simpa [hi] using this
  · rintro ⟨h1, h2⟩ i hi
    exact ⟨h1, h2 _ (getD_mem l i hi)⟩

set_option maxHeartbeats 4000000 in
theorem find_and {l : List Tm} (hz : zs.length ≤ 40) (hF : ∀ x ∈ l, FromC zs Φ m x) (hln : l.length ≤ 10000000) (h2l : 2 ≤ l.length) {ok : Nat → Prop} {w : World} {sb re a kept kc : Nat} {ka : Option Addr} (hS : Spot Φ m w sb re (sevT 4 l) ka kc) (hMS : MS zs Φ m ok w kept) (ha : a ≤ zs.length) :
    Calls Tryz.prog 61 #[.pointer (some ⟨m, 0, none⟩), .pointer (some ⟨sb, 0, none⟩), .int .i64 a] w fun e w' => Gives zs Φ m ok w (InL zs (sevT 4 l) a) e w' := by
  have HMS : Hid (MS zs Φ m ok w kept) := hMS
  obtain ⟨ta, tc, ht1, _⟩ := hMS.text
  have c0 := hS.c0
  have r0 : w.cell? ⟨re, 0, none⟩ = some (.int .i64 4) := hS.r0
  have mt : w.cell? ⟨m, 0, none⟩ = some (.slice ta zs.length tc) := by simp [World.cell?, ht1]
  obtain ⟨g, off, b1, e1, _⟩ := hS.kid 0 (by simp [sevT]; omega)
  subst e1
  have c1 : w.cell? ⟨sb, 1, none⟩ = some (.slice (some ⟨g, off, none⟩) l.length kc) := hS.c1
  have hcap : l.length ≤ kc := hS.cap
  have HCell : Hid (∀ w', Fr Φ m w w' → w'.cell? ⟨sb, 1, none⟩ = some (.slice (some ⟨g, off, none⟩) l.length kc)) := fun w' hf => (hf.cell hS.hsb hS.ssb).trans c1
  have HK : Hid (∀ j, j < l.length → ∃ b1, (∀ w', Fr Φ m w w' → w'.cell? ⟨g, off + j, none⟩ = some (.pointer (some ⟨b1, 0, none⟩))) ∧ ∀ (okA : Nat → Prop) (wr : World) (kp : Nat), Fr Φ m w wr → MS zs Φ m okA wr kp → Calls Tryz.prog 33 #[.pointer (some ⟨m, 0, none⟩), .pointer (some ⟨b1, 0, none⟩), .int .i64 a] wr fun e w' => Gives zs Φ m okA wr (InL zs (l.getD j nothT) a) e w') := fun j hj => by
    obtain ⟨g', off', b1, h1, h2, h3, h4, h5⟩ := hS.kid j hj
    injection h1 with h1; injection h1 with h1 h1' _; subst h1 h1'
    exact ⟨b1, fun w' hf => (hf.cell h2 h3).trans h4, fun okA wr kp hf hM => hF _ (getD_mem l j hj) okA wr _ a kp (h5.fr hf) hM ha⟩
  have HEnd : Hid (∀ N, BitsOf (AndL zs l a l.length) N → BitsOf (InL zs (sevT 4 l) a) N) := fun N h => h.congr (and_all (by intro e; rw [e] at h2l; simp at h2l))
  generalize InL zs (sevT 4 l) a = Q at *
  obtain ⟨b0, hu0, hc0⟩ := HK.out 0 (by omega)
  have k0 : (w.alloc (.cells #[] 119)).cell? ⟨g, off, none⟩ = some (.pointer (some ⟨b0, 0, none⟩)) := by simpa using hu0 (w.alloc (.cells #[] 119)) (Fr.below (below_alloc w _))
  have k1 := HCell.out (w.alloc (.cells #[] 119)) (Fr.below (below_alloc w _))
  have HM0 : Hid (MS zs Φ m (fun b => ok b ∧ b < w.heap.size) (w.alloc (.cells #[] 119)) kept) := (HMS.out.imp (ok' := fun b => ok b ∧ b < w.heap.size) (fun b hb hk => ⟨hk, hb⟩) (fun b hb => HMS.out.still b hb.1)).below (below_alloc w _)
  have HC0 : Hid (Calls Tryz.prog 33 #[.pointer (some ⟨m, 0, none⟩), .pointer (some ⟨b0, 0, none⟩), .int .i64 a] (w.alloc (.cells #[] 119)) fun e w' => Gives zs Φ m (fun b => ok b ∧ b < w.heap.size) (w.alloc (.cells #[] 119)) (InL zs (l.getD 0 nothT) a) e w') := hc0 _ _ kept (Fr.below (below_alloc w _)) HM0.out
  have HA0 : Hid (∀ w2 v N2, Fr Φ m (w.alloc (.cells #[] 119)) w2 → LenV (orNew (fun b => ok b ∧ b < w.heap.size) (w.alloc (.cells #[] 119))) w2 v N2 → BitsOf (InL zs (l.getD 0 nothT) a) N2 → Calls Tryz.prog 95 #[.slice (some ⟨w.heap.size, 0, none⟩) 0 0, v, .int .i64 0] w2 fun e w' => Lens w2 w.heap.size (some w.heap.size) (0 ||| N2 * 2 ^ 0) e w') := fun w2 v N2 hf2 hv hb2 => by
    have hN2 : N2 < 2 ^ 64 := Nat.lt_trans (hb2.lt fun n hn => by have := hn.1; omega) (by decide)
    have hO : OwnL w2 w.heap.size (.slice (some ⟨w.heap.size, 0, none⟩) 0 0) 0 := (OwnL.made (Nat.le_refl _) 119 rfl).fr hf2 (fun k hk => by
      have e : w.heap.size = k := by simpa [Value.ownBlock] using hk
      subst e; exact HMS.out.fresh (Nat.le_refl _))
    exact ljoin_any 0 (Nat.le_trans (by simp) hf2.size) (by omega) (by decide) (by simpa using hN2) hO hv
  clear hF hMS ht1 hS hu0 hc0
  go_enter Tryz.func61, Tryz.ntmps61
  go_wp2_with fail
  refine HC0.out.mono ?_
  intro e w1 hG
  obtain ⟨v1, N1, kp1, rfl, hv1, hb1, hM1, hf1⟩ := hG.all
  have HJ1 := HA0.out w1 v1 N1 hf1 hv1 hb1
  have HT1 : Hid (BitsOf (AndL zs l a 1) (0 ||| N1 * 2 ^ 0)) := and_one hb1
  have hfw1 : Fr Φ m w w1 := (Fr.below (below_alloc w _)).trans hf1
  have HM1 : Hid (∀ w2 v2, w1.grownBy w2 (some w.heap.size) → (∀ k, Value.ownBlock v2 = some k → some w.heap.size = some k ∨ w1.heap.size ≤ k) → MS zs Φ m (fun b => orNew ok w b ∧ Value.ownBlock v2 ≠ some b) w2 kp1 ∧ Fr Φ m w w2) := fun w2 v2 hg hat => by
    refine ⟨MS.lens (ov := .slice (some ⟨w.heap.size, 0, none⟩) 0 0) hM1 (okA := orNew ok w) ?_ ?_ hg hat HMS.out.orNew, hfw1.own (fun k hk => by injection hk with hk; omega) hg⟩
    · intro b _ hb
      rcases hb with hb | hb
      · exact ⟨.inl hb.1, fun e => by simp [Value.ownBlock] at e; have := hb.2; omega⟩
      · exact ⟨.inr (by simp at hb; omega), fun e => by simp [Value.ownBlock] at e; simp at hb; omega⟩
    · intro k hk
      have e : w.heap.size = k := by simpa [Value.ownBlock] using hk
      subst e; exact HMS.out.fresh (Nat.le_refl _)
  clear hG hv1 hb1 hM1 HC0 HA0 HM0 k0 k1
  go_wp2_with fail
  refine HJ1.mono ?_
  rintro e w2 ⟨v2, rfl, hO2, hg2, hat2⟩
  obtain ⟨hM2, hf2⟩ := HM1.out w2 v2 hg2 hat2
  have d1 := HCell.out w2 hf2
  have HO2 : Hid (OwnL w2 w.heap.size v2 (0 ||| N1 * 2 ^ 0)) := hO2
  have HM2 : Hid (MS zs Φ m (fun b => orNew ok w b ∧ Value.ownBlock v2 ≠ some b) w2 kp1) := hM2
  have hlk : (1 : Int) ≤ (l.length : Int) := by omega
  have hkc : kc - 1 ≠ 0 := by omega
  clear hO2 hg2 hat2 hM2 HM1 c0 c1 r0 mt HJ1
  go_wp2
  go_loopw [14, 110, 16] (fun ov iv kv wr => ∃ i : Nat, i ≤ l.length - 1 ∧ iv = .int .i64 i ∧ ∃ N kp, OwnL wr w.heap.size ov N ∧ BitsOf (AndL zs l a (i + 1)) N ∧ MS zs Φ m (fun b => orNew ok w b ∧ ov.ownBlock ≠ some b) wr kp ∧ Fr Φ m w wr) (fun _ iv _ _ => (l.length - 1) - (intOf iv).toNat)
  case atStart => exact ⟨0, Nat.zero_le _, rfl, _, kp1, HO2.out, HT1.out, HM2.out, hf2⟩
  case round =>
    obtain ⟨i, hi, rfl, N, kp, hO, hB, hM, hf⟩ := hrel
    clear HO2 HT1 HM2 d1
    by_cases hlt : i < l.length - 1
    · obtain ⟨b1, hu, hc⟩ := HK.out (i + 1) (by omega)
      have hu' : wr.cell? ⟨g, off + 1 + i, none⟩ = some (.pointer (some ⟨b1, 0, none⟩)) := by have := hu wr hf; rwa [show off + (i + 1) = off + 1 + i by omega] at this
      have HC : Hid (Calls Tryz.prog 33 #[.pointer (some ⟨m, 0, none⟩), .pointer (some ⟨b1, 0, none⟩), .int .i64 a] wr fun e w' => Gives zs Φ m (fun b => orNew ok w b ∧ u14.ownBlock ≠ some b) wr (InL zs (l.getD (i + 1) nothT) a) e w') := hc _ wr kp hf hM
      have hltO := hO.lt
      have hStO : ∀ k, u14.ownBlock = some k → Still Φ m k := fun k hk => HMS.out.fresh (hltO k hk).1
      have hN64 : N < 2 ^ 64 := Nat.lt_trans (hB.lt fun n hn => by have := (hn 0 (by omega)).1; omega) (by decide)
      have HJ : Hid (∀ w2 v N2, Fr Φ m wr w2 → LenV (orNew (fun b => orNew ok w b ∧ u14.ownBlock ≠ some b) wr) w2 v N2 → BitsOf (InL zs (l.getD (i + 1) nothT) a) N2 → Calls Tryz.prog 96 #[u14, v] w2 fun e w' => Lens w2 w.heap.size u14.ownBlock (N &&& N2) e w') := fun w2 v N2 hf2 hv hb2 => by
        have hN2 : N2 < 2 ^ 64 := Nat.lt_trans (hb2.lt fun n hn => by have := hn.1; omega) (by decide)
        exact lmeet_any hN64 hN2 (hO.fr hf2 hStO) hv
      have HMM : Hid (∀ w2 w3 v3 kp2, Fr Φ m wr w2 → MS zs Φ m (orNew (fun b => orNew ok w b ∧ u14.ownBlock ≠ some b) wr) w2 kp2 → w2.grownBy w3 u14.ownBlock → (∀ k, v3.ownBlock = some k → u14.ownBlock = some k ∨ w2.heap.size ≤ k) → MS zs Φ m (fun b => orNew ok w b ∧ Value.ownBlock v3 ≠ some b) w3 kp2 ∧ Fr Φ m w w3) := fun w2 w3 v3 kp2 hf2 hM2 hg hat => by
        refine ⟨hM2.lens (okA := orNew ok w) ?_ hStO hg hat (HMS.out.orNew), (hf.trans hf2).own (fun k hk => (hltO k hk).1) hg⟩
        intro b hb2 hb
        rcases hb with hb | hb
        · exact hb
        · exact ⟨.inr (Nat.le_trans hf.size hb), fun e => by have := (hltO b e).2; omega⟩
      have HTh : Hid (∀ N2, BitsOf (InL zs (l.getD (i + 1) nothT) a) N2 → BitsOf (AndL zs l a (i + 1 + 1)) (N &&& N2)) := fun N2 h2 => and_next hB h2
      clear hO hB hM hltO hStO hu hc
      go_wp2_with fail
      refine HC.out.mono ?_
      intro e w3 hG
      obtain ⟨v3, N3, kp3, rfl, hv3, hb3, hM3, hf3⟩ := hG.all
      have HJ3 := HJ.out w3 v3 N3 hf3 hv3 hb3
      have HM3 : Hid (∀ w4 v4, w3.grownBy w4 u14.ownBlock → (∀ k, Value.ownBlock v4 = some k → u14.ownBlock = some k ∨ w3.heap.size ≤ k) → MS zs Φ m (fun b => orNew ok w b ∧ Value.ownBlock v4 ≠ some b) w4 kp3 ∧ Fr Φ m w w4) := fun w4 v4 hg hat => HMM.out w3 w4 v4 kp3 hf3 hM3 hg hat
      have HTT : Hid (BitsOf (AndL zs l a (i + 1 + 1)) (N &&& N3)) := HTh.out N3 hb3
      clear hG hv3 hb3 hM3 HTh HMM HJ
      go_wp2_with fail
      refine HJ3.mono ?_
      rintro e w4 ⟨v4, rfl, hO4, hg4, hat4⟩
      obtain ⟨hM4, hf4⟩ := HM3.out w4 v4 hg4 hat4
      have HO4 : Hid (OwnL w4 w.heap.size v4 (N &&& N3)) := hO4
      have HM4 : Hid (MS zs Φ m (fun b => orNew ok w b ∧ Value.ownBlock v4 ≠ some b) w4 kp3) := hM4
      clear hO4 hg4 hat4 hM4 HM3
      go_wp2
      go_roundw
      case rel => exact ⟨i + 1, by omega, by go_num, _, kp3, HO4.out, HTT.out, HM4.out, hf4⟩
      case measure => simp [intOf]; omega
    · have hi2 : i + 1 = l.length := by omega
      have HO : Hid (OwnL wr w.heap.size u14 N) := hO
      have HB2 : Hid (BitsOf Q N) := HEnd.out N (by rw [← hi2]; exact hB)
      have HM : Hid (MS zs Φ m (fun b => orNew ok w b ∧ u14.ownBlock ≠ some b) wr kp) := hM
      clear hO hB hM HEnd hi2
      go_wp2
      go_ret
      exact ⟨_, N, kp, rfl, HO.out.len.imp (fun b h => .inr h), HB2.out, HM.out.imp (fun b _ h => h.1) (fun b h => HMS.out.orNew b h), hf⟩
end
end Go.Proofs.YtbjohedenfindaaGreatDoor

namespace Go.Proofs.YtbjohedenfindaaGreatDoor
open Go.RowKit
open Go.Maps (Keyed)
set_option linter.unusedVariables false
set_option maxRecDepth 100000

theorem zeroLens (w : World) : (zeroValue 80).run Tryz.prog w = .ok (.slice none 0 0) w := by kernel_rfl
theorem intKey (a : Nat) (h : a ≤ 1000) : keyOf Tryz.prog 3 (.int .i64 (a : Int)) = some (.int .i64 (a : Int)) := Maps.keyOf_int_mk Tryz.underlying3 (WalkArith.wf_i64 (by omega))
section
variable {zs : List Int} {Φ : Nat → Option Tm} {m : Nat}

theorem MS.put {ok : Nat → Prop} {w w3 : World} {kept mb n a N c : Nat} {t : Tm} {D : DataW Value} {v : Value} (hz : zs.length ≤ 40) (h : MS zs Φ m ok w kept) (hΦ : Φ mb = some t) (hown : w.ownsMap Tryz.prog 3 heldR mb n D) (hn : n ≤ kept)
    (hD : ∀ a : Nat, a ≤ zs.length → Maps.has D (.int .i64 a) = true → ∃ v N, D.atKey (.int .i64 a) (.held (.slice none 0 0)) = .held v ∧ LenV ok w v N ∧ BitsOf (InL zs t a) N)
    (hput : w3.ownsMap Tryz.prog 3 heldR mb (n + 1) (D.put (.int .i64 (a : Int)) (.held v))) (hg : w.grownBy w3 (some mb)) (hv : LenV ok w v N) (hb : BitsOf (InL zs t a) N) (hc : 1 ≤ c) (hk : kept + c ≤ 4194400) :
    MS zs Φ m ok (w3.setCell ⟨m, 1, none⟩ (.int .i64 ((kept + c : Nat) : Int))) (kept + c) ∧ Fr Φ m w (w3.setCell ⟨m, 1, none⟩ (.int .i64 ((kept + c : Nat) : Int))) := by
  have hmb : mb ≠ m := fun e => by rw [e, h.mnone] at hΦ; simp at hΦ
  obtain ⟨ta, tc, ht1, ht2⟩ := h.text
  have ht3 : w3.heap[m]? = some (.cells #[.slice ta zs.length tc, .int .i64 (kept : Int)] 78 (0, 0)) := (hg.block m h.mlt (fun e => hmb (by simpa using e.symm))).trans ht1
  have hset : ∀ b, b ≠ m → (w3.setCell ⟨m, 1, none⟩ (.int .i64 ((kept + c : Nat) : Int))).heap[b]? = w3.heap[b]? := fun b hb => Below.heap_setCell _ _ _ _ (by simpa using hb)
  have hall : ∀ b, b < w.heap.size → b ≠ m → b ≠ mb → (w3.setCell ⟨m, 1, none⟩ (.int .i64 ((kept + c : Nat) : Int))).heap[b]? = w.heap[b]? := fun b hlt h1 h2 => (hset b h1).trans (hg.block b hlt (fun e => h2 (by simpa using e)))
  have hst : ∀ b, ok b → b ≠ m ∧ b ≠ mb := fun b hb => ⟨(h.still b hb).1, fun e => by have := (h.still b hb).2; rw [e, hΦ] at this; simp at this⟩
  have hsz : w.heap.size ≤ (w3.setCell ⟨m, 1, none⟩ (.int .i64 ((kept + c : Nat) : Int))).heap.size := by simp; exact hg.size
  have hlen : ∀ v N, LenV ok w v N → LenV ok (w3.setCell ⟨m, 1, none⟩ (.int .i64 ((kept + c : Nat) : Int))) v N := fun v N hv => hv.moved hsz fun b hlt hb => hall b hlt (hst b hb).1 (hst b hb).2
  refine ⟨⟨Nat.lt_of_lt_of_le h.mlt hsz, h.mnone, ⟨ta, tc, ?_, fun j hj => ?_⟩, hk, fun b u hb' => ?_, h.still⟩, ?_⟩
  · have := heap_setCell_same w3 m 1 _ 78 (.int .i64 ((kept + c : Nat) : Int)) ht3
    simpa using this
  · obtain ⟨g, e1, e2, e3, e4⟩ := ht2 j hj
    exact ⟨g, e1, Nat.lt_of_lt_of_le e2 hsz, e3, (World.cell?_of_block (a := ⟨g, j, none⟩) (hall g e2 (hst g e3).1 (hst g e3).2)).trans e4⟩
  · by_cases e : b = mb
    · subst e
      rw [hΦ] at hb'; injection hb' with hb'; subst hb'
      refine ⟨n + 1, _, hput.setCell (a := ⟨m, 1, none⟩) (by simpa using hmb) _, by omega, fun a' ha' hh => ?_⟩
      by_cases ea : a' = a
      · subst ea
        exact ⟨v, N, Maps.atKey_put_same hown.isMap (show WideAt.IsKeyLit (.int .i64 (a' : Int)) from trivial) _ _, hlen v N hv, hb⟩
      · have hne : (Lit.int .i64 (a' : Int)) ≠ .int .i64 (a : Int) := fun e => ea (by injection e with _ e; omega)
        rw [Maps.has_put_other hne] at hh
        obtain ⟨v', N', k1, k2, k3⟩ := hD a' ha' hh
        exact ⟨v', N', by rw [Maps.atKey_put_other hne]; exact k1, hlen v' N' k2, k3⟩
    · obtain ⟨n', D', h1, h2, h3⟩ := h.know b u hb'
      have hbm : b ≠ m := fun e => by rw [e, h.mnone] at hb'; simp at hb'
      refine ⟨n', D', (h1.kept hg (fun e' => e (by simpa using e'))).setCell (a := ⟨m, 1, none⟩) (by simpa using hbm) _, by omega, fun a' ha' hh => ?_⟩
      obtain ⟨v', N', k1, k2, k3⟩ := h3 a' ha' hh
      exact ⟨v', N', k1, hlen v' N' k2, k3⟩
  · exact ⟨hg.os, hg.tape, hg.output, hsz, fun b hlt hs => hall b hlt hs.1 (fun e => by have := hs.2; rw [e, hΦ] at this; simp at this)⟩

set_option maxHeartbeats 4000000 in
theorem from_raw {t : Tm} (hz : zs.length ≤ 40) {ok : Nat → Prop} {w : World} {sb mb a kept : Nat} (hsb : sb < w.heap.size) (hssb : Still Φ m sb) (c2 : w.cell? ⟨sb, 2, none⟩ = some (.map (some mb))) (hΦ : Φ mb = some t) (hMS : MS zs Φ m ok w kept) (ha : a ≤ zs.length)
    (HFd : Hid (Calls Tryz.prog 61 #[.pointer (some ⟨m, 0, none⟩), .pointer (some ⟨sb, 0, none⟩), .int .i64 a] w fun e w' => Gives zs Φ m ok w (InL zs t a) e w')) :
    Calls Tryz.prog 33 #[.pointer (some ⟨m, 0, none⟩), .pointer (some ⟨sb, 0, none⟩), .int .i64 a] w fun e w' => Gives zs Φ m ok w (InL zs t a) e w' := by
  have HMS : Hid (MS zs Φ m ok w kept) := hMS
  obtain ⟨n, D, hown, hn, hD⟩ := hMS.know mb t hΦ
  have HD : Hid (∀ a : Nat, a ≤ zs.length → Maps.has D (.int .i64 a) = true → ∃ v N, D.atKey (.int .i64 a) (.held (.slice none 0 0)) = .held v ∧ LenV ok w v N ∧ BitsOf (InL zs t a) N) := hD
  have HKey : Hid (keyOf Tryz.prog 3 (.int .i64 (a : Int)) = some (.int .i64 (a : Int))) := intKey a (by omega)
  have HAft : Hid (∀ w2 v2 N2 kp2, LenV (orNew ok w) w2 v2 N2 → BitsOf (InL zs t a) N2 → MS zs Φ m (orNew ok w) w2 kp2 → Fr Φ m w w2 → ∃ n2 D2, w2.ownsMap Tryz.prog 3 heldR mb n2 D2 ∧ n2 ≤ kp2 ∧ kp2 ≤ 4194400 ∧ w2.cell? ⟨sb, 2, none⟩ = some (.map (some mb)) ∧ w2.cell? ⟨m, 1, none⟩ = some (.int .i64 (kp2 : Int)) ∧
      ∀ w3, w3.ownsMap Tryz.prog 3 heldR mb (n2 + 1) (D2.put (.int .i64 (a : Int)) (.held v2)) → w2.grownBy w3 (some mb) → w3.cell? ⟨m, 1, none⟩ = some (.int .i64 (kp2 : Int)) ∧ w3.frozen? ⟨m, 1, none⟩ = false ∧ ∀ c, 1 ≤ c → kp2 + c ≤ 4194400 → Gives zs Φ m ok w (InL zs t a) (.returned v2) (w3.setCell ⟨m, 1, none⟩ (.int .i64 ((kp2 + c : Nat) : Int)))) := fun w2 v2 N2 kp2 hv hb hM hf => by
    obtain ⟨n2, D2, ho2, hn2, hD2⟩ := hM.know mb t hΦ
    obtain ⟨ta, tc, ht1, _⟩ := hM.text
    have hmb : mb ≠ m := fun e => by rw [e, hM.mnone] at hΦ; simp at hΦ
    refine ⟨n2, D2, ho2, hn2, hM.kept_le, (hf.cell hsb hssb).trans c2, by simp [World.cell?, ht1], fun w3 h3 hg => ?_⟩
    have ht3 : w3.heap[m]? = some (.cells #[.slice ta zs.length tc, .int .i64 (kp2 : Int)] 78 (0, 0)) := (hg.block m hM.mlt (fun e => hmb (by simpa using e.symm))).trans ht1
    refine ⟨by simp [World.cell?, ht3], by simp [World.frozen?, ht3], fun c hc hk => ?_⟩
    obtain ⟨p1, p2⟩ := MS.put hz hM hΦ ho2 hn2 hD2 h3 hg hv hb hc hk
    refine ⟨v2, N2, kp2 + c, rfl, ?_, hb, p1, hf.trans p2⟩
    exact hv.moved p2.size fun b hlt hb' => p2.block b hlt (hM.still b hb')
  clear hD
  go_enter Tryz.func33, Tryz.ntmps33
  go_wp2_with (at_lookup; refine wpList_lookup_own_ok _ rfl _ _ 116 rfl 3 80 Tryz.lawIntK Tryz.underlying116 heldR (zeroLens _) (.held (.slice none 0 0)) [] rfl mb n D rfl hown _ _ rfl HKey.out ?_)
  intro v ps hv
  have hv' : D.atKey (.int .i64 (a : Int)) (.held (.slice none 0 0)) = .held v := by
    unfold heldR at hv; injection hv with hv; injection hv with hv _; exact hv.symm
  cases hh : Maps.has D (.int .i64 (a : Int))
  · clear hv hv' hh hown HD
    go_wp2_with fail
    refine HFd.out.mono ?_
    intro e w2 hG
    obtain ⟨v2, N2, kp2, rfl, hv2, hb2, hM2, hf2⟩ := hG.all
    obtain ⟨n2, D2, ho2, hn2, hk2, d2, dm, HP⟩ := HAft.out w2 v2 N2 kp2 hv2 hb2 hM2 hf2
    obtain ⟨va, vk, vc, rfl, hvk⟩ : ∃ va vk vc, v2 = .slice va vk vc ∧ vk ≤ 1 := by
      rcases hv2 with ⟨_, a, c, rfl⟩ | ⟨g, off, c, rfl, _⟩
      · exact ⟨_, _, _, rfl, by omega⟩
      · exact ⟨_, _, _, rfl, by omega⟩
    have HPP : Hid (∀ w3, w3.ownsMap Tryz.prog 3 heldR mb (n2 + 1) (D2.put (.int .i64 (a : Int)) (.held (.slice va vk vc))) → w2.grownBy w3 (some mb) → w3.cell? ⟨m, 1, none⟩ = some (.int .i64 (kp2 : Int)) ∧ w3.frozen? ⟨m, 1, none⟩ = false ∧ ∀ c, 1 ≤ c → kp2 + c ≤ 4194400 → Gives zs Φ m ok w (InL zs t a) (.returned (.slice va vk vc)) (w3.setCell ⟨m, 1, none⟩ (.int .i64 ((kp2 + c : Nat) : Int)))) := HP
    have HG0 : Hid (Gives zs Φ m ok w (InL zs t a) (.returned (.slice va vk vc)) w2) := hG
    clear hG hv2 hb2 hM2 HAft HP c2
    have HK2 : Hid (kp2 ≤ 4194400) := hk2
    by_cases hkk : kp2 < 4194304
    · have hq : decide ((kp2 : Int) < 4194304) = true := by simp; omega
      have HKK : Hid (kp2 < 4194304) := hkk
      have HN2 : Hid (n2 ≤ kp2) := hn2
      clear hkk hk2 hn2
      go_wp2_with (at_mapUpdate; refine wpList_mapUpdate_own _ rfl _ _ _ 116 rfl 3 80 Tryz.lawIntK Tryz.underlying116 heldR mb n2 D2 rfl ho2 (by unfold maxLen; have := HKK.out; have := HN2.out; omega) (.int .i64 (a : Int)) (.slice va vk vc) _ rfl rfl HKey.out _ [] rfl ?_)
      intro w3 ho3 hg3
      obtain ⟨f1, f2, f3⟩ := HPP.out w3 ho3 hg3
      have HF3 := f3 (vk + 1) (by omega) (by have := HKK.out; omega)
      have HFF : Hid (Gives zs Φ m ok w (InL zs t a) (.returned (.slice va vk vc)) (w3.setCell ⟨m, 1, none⟩ (.int .i64 ((kp2 + (vk + 1) : Nat) : Int)))) := HF3
      have HE : Hid (wrap64 ((kp2 : Int) + ((vk : Int) + 1)) = ((kp2 + (vk + 1) : Nat) : Int)) := by
        show wrap64 _ = _
        have := HKK.out
        have h6 := wrap_id ((kp2 : Int) + ((vk : Int) + 1)) (by omega) (by omega)
        have h7 : wrap64 ((kp2 : Int) + ((vk : Int) + 1)) = (kp2 : Int) + ((vk : Int) + 1) := by unfold wrap64; omega
        rw [h7]; omega
      clear ho3 hg3 f3 HF3 HPP ho2
      go_wp2
      rw [HE.out]
      go_wp2
      go_ret
      exact HFF.out
    · have hq : decide ((kp2 : Int) < 4194304) = false := by simp; omega
      clear HPP ho2 hkk hk2 hn2
      go_wp2
      go_ret
      exact HG0.out
  · obtain ⟨v', N, k1, k2, k3⟩ := HD.out a ha hh
    rw [hv'] at k1
    injection k1 with k1; subst k1
    have HK2 : Hid (LenV ok w v N) := k2
    have HK3 : Hid (BitsOf (InL zs t a) N) := k3
    clear hv hv' hh hown HD k2 k3 HFd HAft c2
    go_wp2
    go_ret
    exact ⟨_, N, kept, rfl, HK2.out.imp orNew_l, HK3.out, HMS.out.imp (fun b _ h => .inl h) HMS.out.orNew, Fr.refl _⟩
/-- from, of each tree as it is read -/
theorem sp_spot {t : Tm} {w : World} {sv : Value} (h : SP Φ m w sv t) : ∃ sb re ka kc mb sv1 ka' kc', sv = .pointer (some ⟨sb, 0, none⟩) ∧ Spot Φ m w sb re t ka kc ∧ w.cell? ⟨sb, 2, none⟩ = some (.map (some mb)) ∧ Φ mb = some t ∧ Node (Still Φ m) w (.pointer (some ⟨re, 0, none⟩)) t re sv1 ka' kc' := by
  obtain ⟨n, h⟩ := h
  cases n with
  | zero => exact h.elim
  | succ n =>
    obtain ⟨sb, re, ka, kc, mb, h1, h2, h3, h4, h5, h6, h7, h8⟩ := h
    obtain ⟨rb, sv1, ka', kc', hN⟩ := h6.node
    have e := hN.v_eq; subst e
    refine ⟨sb, rb, ka, kc, mb, sv1, ka', kc', h1, ⟨h2, h3, hN.lt, hN.okb, by simp [World.cell?, h4], by simp [World.cell?, h4], hN.c0, hN.c2, hN.c3, h7, fun j hj => ?_⟩, by simp [World.cell?, h4], h5, hN⟩
    obtain ⟨g, off, u, k1, k2, k3, k4, k5⟩ := h8 j hj
    obtain ⟨b1, hb1⟩ : ∃ b1, u = .pointer (some ⟨b1, 0, none⟩) := by
      cases n with
      | zero => exact k5.elim
      | succ n => obtain ⟨sb, _, _, _, _, e, _⟩ := k5; exact ⟨sb, e⟩
    subst hb1
    exact ⟨g, off, b1, k1, k2, k3, k4, n, k5⟩
theorem from_one (hz : zs.length ≤ 40) (hzs : ∀ c ∈ zs, 0 ≤ c ∧ c ≤ 1114111) : ∀ (t : Tm), Org t → Sml t → ((t.kind = 4 → 2 ≤ t.kids.length) ∧ t.kids.length ≤ 10000000) → (∀ x ∈ t.kids, FromC zs Φ m x) → FromC zs Φ m t := by
  intro t hO hs h24 ih ok w sv a kept hSP hMS ha
  obtain ⟨sb, re, ka, kc, mb, sv1, ka', kc', rfl, hSpot, c2, hΦ, hN⟩ := sp_spot hSP
  refine from_raw hz hSpot.hsb hSpot.ssb c2 hΦ hMS ha ?_
  have hnum := hs.num
  revert hSpot hN ih hnum h24
  refine org_cases (P := fun t => ((t.kind = 4 → 2 ≤ t.kids.length) ∧ t.kids.length ≤ 10000000) → (∀ x ∈ t.kids, FromC zs Φ m x) → Spot Φ m w sb re t ka kc → Node (Still Φ m) w (.pointer (some ⟨re, 0, none⟩)) t re sv1 ka' kc' → NumOk t → Calls Tryz.prog 61 #[.pointer (some ⟨m, 0, none⟩), .pointer (some ⟨sb, 0, none⟩), .int .i64 a] w fun e w' => Gives zs Φ m ok w (InL zs t a) e w') t hO ?_ ?_ ?_ ?_ ?_
  · intro s _ _ hSpot hN hnum
    obtain ⟨sa, sc, rfl⟩ := hN.set.len
    exact find_set hz hzs hSpot hN.c1 hN.set.rngs hnum.2.2.2.1 hMS ha
  · intro l _ h24 ih hSpot hN hnum
    exact find_row hz ih h24.2 hSpot hMS ha
  · intro k l hk hl _ h24 ih hSpot hN hnum
    rcases hk with rfl | rfl
    · exact find_or hz ih h24.2 hSpot hMS ha
    · exact find_and hz ih h24.2 (h24.1 rfl) hSpot hMS ha
  · intro x _ _ ih hSpot hN hnum
    exact find_not hz (ih x (by simp [notT])) hSpot hMS ha
  · intro x lo hi _ h0 h1 _ ih hSpot hN hnum
    obtain ⟨lo', rfl⟩ : ∃ lo' : Nat, lo = (lo' : Int) := ⟨lo.toNat, by omega⟩
    simp only [NumOk, repT] at hnum
    exact find_rep hz (ih x (by simp [repT])) (by omega) (by omega) hSpot hMS ha
/-- both has two kids at least; not too many kids -/
def Two (t : Tm) : Prop := match t with
  | ⟨k, s, a, b, ks⟩ => ((k = 4 → 2 ≤ ks.length) ∧ ks.length ≤ 10000000) ∧ ∀ x, (h : x ∈ ks) → Two x
theorem two_iff {t : Tm} : Two t ↔ ((t.kind = 4 → 2 ≤ t.kids.length) ∧ t.kids.length ≤ 10000000) ∧ ∀ x ∈ t.kids, Two x := by
  obtain ⟨k, s, a, b, ks⟩ := t; rw [Two]
theorem from_all (hz : zs.length ≤ 40) (hzs : ∀ c ∈ zs, 0 ≤ c ∧ c ≤ 1114111) : ∀ (t : Tm), Org t → Sml t → Two t → FromC zs Φ m t := by
  refine Tm.ind ?_
  intro t ih hO hs h2
  exact from_one hz hzs t hO hs (two_iff.1 h2).1 fun x hx => ih x hx ((org_iff.1 hO).2 x hx) (hs.kid hx) ((two_iff.1 h2).2 x hx)
end
end Go.Proofs.YtbjohedenfindaaGreatDoor

namespace Go.Proofs.YtbjohedenfindaaGreatDoor
set_option linter.unusedVariables false

theorem canon_rng : ∀ (l : List Rg) (p : Int), 0 ≤ p → canonFrom p l = true → (∀ r ∈ l, (0 ≤ r.1 ∧ r.1 ≤ 1114111) ∧ 0 ≤ r.2 ∧ r.2 ≤ 1114111) ∧ (l.length : Int) * 2 ≤ max 0 (1114113 - p)
  | [], p, hp, _ => ⟨by simp, by simp; omega⟩
  | r :: l, p, hp, h => by
    simp only [canonFrom] at h
    split at h
    · simp at h
    · rename_i hh
      obtain ⟨h1, h2⟩ := canon_rng l (r.2 + 2) (by omega) h
      refine ⟨fun x hx => ?_, ?_⟩
      · rcases List.mem_cons.1 hx with rfl | hx
        · omega
        · exact h1 x hx
      · simp only [List.length_cons]; omega
theorem kids_list (Q : Tm → Prop) : ∀ (ks : List (Option Re)), (∀ o ∈ ks, ∃ tm, o = some (reOf tm) ∧ Q tm) → ∃ l : List Tm, ks = (l.map reOf).map some ∧ ∀ x ∈ l, Q x
  | [], _ => ⟨[], rfl, by simp⟩
  | o :: ks, h => by
    obtain ⟨tm, h1, h2⟩ := h o (by simp)
    obtain ⟨l, h3, h4⟩ := kids_list Q ks fun o ho => h o (by simp [ho])
    refine ⟨tm :: l, by rw [h1, h3]; rfl, fun x hx => ?_⟩
    rcases List.mem_cons.1 hx with rfl | hx
    · exact h2
    · exact h4 x hx
theorem good_tm : ∀ (t : Re), GoodT t → ∃ tm : Tm, t = reOf tm ∧ Org tm ∧ Sml tm ∧ Two tm := by
  refine Re.ind ?_
  intro t ih hG
  have h1 : NodeOk t := (hG 1).1
  have hk : ∀ o ∈ t.kids, ∃ tm, o = some (reOf tm) ∧ (Org tm ∧ Sml tm ∧ Two tm) := by
    intro o ho
    obtain ⟨k, rfl, _⟩ := (hG 1).2 o ho
    have hGk : GoodT k := fun n => by
      obtain ⟨k', e, h⟩ := (hG (n + 1)).2 (some k) ho
      injection e with e; subst e; exact h
    obtain ⟨tm, h2, h3⟩ := ih k ho hGk
    exact ⟨tm, by rw [h2], h3⟩
  obtain ⟨l, hl, hQ⟩ := kids_list (fun tm => Org tm ∧ Sml tm ∧ Two tm) t.kids hk
  have hlen : t.kids.length = l.length := by rw [hl]; simp
  obtain ⟨k, s, a, b, ks⟩ := t
  simp only at hl hlen
  subst hl
  have e : ∀ k s a b, (⟨k, s, a, b, (l.map reOf).map some⟩ : Re) = reOf ⟨k, s, a, b, l⟩ := fun k s a b => by rw [reOf_eq]
  have hkids : ∀ x ∈ l, Org x ∧ Sml x ∧ Two x := hQ
  refine ⟨⟨k, s, a, b, l⟩, e _ _ _ _, org_iff.2 ⟨?_, fun x hx => (hQ x hx).1⟩, sml_iff.2 ⟨?_, fun x hx => (hQ x hx).2.1⟩, two_iff.2 ⟨?_, fun x hx => (hQ x hx).2.2⟩⟩
  · rcases h1 with ⟨h1, h2, h3, h4, _⟩ | ⟨h1, _, _, h3, h4, h5⟩ | ⟨h1, h2, _, h3, h4, h5⟩ | ⟨h1, h2, h3, h4, h5⟩ | ⟨h1, h2, h3, _, h4, h5⟩ <;> simp only at *
    · have : l = [] := by simpa using h2
      subst this h1 h3 h4; exact .inl ⟨s, rfl⟩
    · subst h1 h3 h4 h5; exact .inr (.inl ⟨l, rfl⟩)
    · subst h3 h4 h5
      refine .inr (.inr (.inl ⟨k, l, h1, rfl, ?_⟩))
      intro e; rw [e] at h2; simp at h2
    · subst h1 h3 h4 h5
      have : l.length = 1 := by simpa using h2
      obtain ⟨x, rfl⟩ := List.length_eq_one_iff.1 this
      exact .inr (.inr (.inr (.inl ⟨x, rfl⟩)))
    · subst h1 h5
      have : l.length = 1 := by simpa using h2
      obtain ⟨x, rfl⟩ := List.length_eq_one_iff.1 this
      refine .inr (.inr (.inr (.inr ⟨x, a, b, rfl, h3, ?_⟩)))
      omega
  · have hsl : s.length ≤ 1000000 ∧ ∀ r ∈ s, (0 ≤ r.1 ∧ r.1 ≤ 1114111) ∧ 0 ≤ r.2 ∧ r.2 ≤ 1114111 := by
      rcases h1 with ⟨_, _, _, _, h5, _⟩ | ⟨_, _, _, _, _, h5⟩ | ⟨_, _, _, _, _, h5⟩ | ⟨_, _, _, _, h5⟩ | ⟨_, _, _, _, _, h5⟩ <;> simp only at h5
      · obtain ⟨p1, p2⟩ := canon_rng s 0 (by omega) h5
        exact ⟨by omega, p1⟩
      all_goals subst h5; simp
    have hl2 : l.length ≤ 17592186000000 := by
      rcases h1 with ⟨_, h2, _⟩ | ⟨_, _, h2, _⟩ | ⟨_, _, h2, _⟩ | ⟨_, h2, _⟩ | ⟨_, h2, _⟩ <;> simp at h2 <;> first | omega | (subst h2; simp)
    refine ⟨?_, ?_, ?_, hsl.1, hsl.2, hl2⟩ <;> (simp only; rcases h1 with ⟨h1, _, h3, h4, _⟩ | ⟨h1, _, _, h3, h4, _⟩ | ⟨h1, _, _, h3, h4, _⟩ | ⟨h1, _, h3, h4, _⟩ | ⟨h1, _, h3, h4, h5, _⟩ <;> simp only at * <;> omega)
  · rcases h1 with ⟨h1, h2, _⟩ | ⟨h1, _, h2, _⟩ | ⟨h1, h3, h2, _⟩ | ⟨h1, h2, _⟩ | ⟨h1, h2, _⟩ <;> simp at h1 h2 <;> simp only
    · subst h2; simp; omega
    · exact ⟨by omega, h2⟩
    · simp at h3; exact ⟨fun _ => h3, h2⟩
    · exact ⟨by omega, by omega⟩
    · exact ⟨by omega, by omega⟩
end Go.Proofs.YtbjohedenfindaaGreatDoor
