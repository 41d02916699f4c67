/- Texts of the proof, put together: RBrkC. -/
import Derived.Test.YtbjohedenfindaaGreatDoorPw22
namespace Go.Proofs.YtbjohedenfindaaGreatDoor
open Go.RowKit
set_option linter.unusedVariables false
set_option maxRecDepth 100000

set_option maxHeartbeats 8000000 in
theorem rinner_brack {W0 w : World} (L : LibR W0) {mk : List Rg → Bool → List Rg} (D : SetD mk) {R i o : Nat} {s : ByteArray} (hss : s.size ≤ 60000) (h : XR W0 w R s i o) :
    Calls Tryz.prog 139 #[.pointer (some ⟨R, 0, none⟩), .int .i64 91] w fun e w' => GotT W0 w R s i o (brackS s mk i) e w' := by
  obtain ⟨i0, hi0, hz0, hz1, hz2⟩ := info_parts Tryz.infoRange
  have hRB := h.lt
  have HD : Hid (SetD mk) := D
  have HE : Hid (Calls Tryz.prog 45 #[.pointer (some ⟨R, 0, none⟩), .int .i64 94] w fun e w1 => ∃ (nt : Bool) (i' : Nat) (res : Option (List Rg × Nat)), e = .returned (.bool nt) ∧ BI W0 w w1 R s i o res (.slice none 0 0) [] i' ∧ (SR W0 w R s i o → brackS s mk i = res.map fun x => (setRe (mk x.1 nt), x.2)) ∧ (SR W0 w R s i o → BR W0 w1 R s → res = none)) := by
    have hn0 : ∀ w1 : World, OwnR w1 w.heap.size (.slice none 0 0) [] := fun w1 => ⟨rfl, .inl ⟨rfl, rfl⟩⟩
    rcases h with ⟨hS, ho⟩ | hBr
    · by_cases h94 : cpAt s i = 94
      · refine (eat_yes L hS 94 (by omega) h94).mono ?_
        rintro e w1 ⟨rfl, hg, hS1⟩
        rw [(cp_eq_size h94 (by omega) (by omega)).2] at hS1
        exact ⟨true, i + 1, itemsS s (s.size + 1) [] (i + 1), rfl, ⟨.inl ⟨hS1, ho⟩, hg, hn0 _, .inr ⟨hS, s.size + 1, rfl, by omega⟩⟩, fun _ => by unfold brackS; rw [if_pos h94], fun _ hB => (sr_not_br hS1 hB).elim⟩
      · refine (eat_no L hS ho 94 (by omega) h94).mono ?_
        rintro e w1 ⟨rfl, hg, ⟨_, hS1⟩ | ⟨hc2, hB1⟩⟩
        · exact ⟨false, i, itemsS s (s.size + 1) [] i, rfl, ⟨.inl ⟨hS1, ho⟩, hg, hn0 _, .inr ⟨hS, s.size + 1, rfl, by omega⟩⟩, fun _ => by unfold brackS; rw [if_neg h94], fun _ hB => (sr_not_br hS1 hB).elim⟩
        · exact ⟨false, i, itemsS s (s.size + 1) [] i, rfl, ⟨.inr hB1, hg, hn0 _, .inl hB1⟩, fun _ => by unfold brackS; rw [if_neg h94], fun _ _ => items_broken hc2 _ _⟩
    · refine (eat_bad hBr 94 (by omega)).mono ?_
      rintro e w1 ⟨rfl, n, rfl⟩
      have hB1 := hBr.kept (grown_drewN w n none)
      exact ⟨false, i, none, rfl, ⟨.inr hB1, grown_drewN w n (some R), hn0 _, .inl hB1⟩, fun hS => (hS.not_br hBr).elim, fun hS => (hS.not_br hBr).elim⟩
  clear D h
  go_enter Tryz.func139, Tryz.ntmps139
  go_wp2_with fail
  go_at_call 45
  refine HE.out.mono ?_
  rintro e w1 ⟨nt, i', res, rfl, hB1, hEq, hNo1⟩
  have HNo1 : Hid (SR W0 w R s i o → BR W0 w1 R s → res = none) := hNo1
  have HB1 : Hid (BI W0 w w1 R s i o res (.slice none 0 0) [] i') := hB1
  have HEq : Hid (SR W0 w R s i o → brackS s mk i = res.map fun x => (setRe (mk x.1 nt), x.2)) := hEq
  clear HE hB1 hEq hNo1
  go_wp2
  go_loopw [8] (fun x wr => ∃ (v : Value) (acc : List Rg) (j : Nat), x = v ∧ Hid (BI W0 w wr R s i o res v acc j) ∧ acc.length ≤ s.size + 1 ∧ Hid (BR W0 wr R s ∨ acc.length ≤ j) ∧ Hid (SR W0 w R s i o → BR W0 wr R s → res = none)) (fun _ wr => mea s R wr)
  case atStart => exact ⟨_, [], i', rfl, HB1, by simp, .inr (by simp), HNo1⟩
  case round =>
    clear HB1 HNo1
    obtain ⟨v, acc, j, hv8, HB, hal, HN, HNo⟩ := hrel
    obtain ⟨va0, vc0, rfl⟩ : ∃ a c, v = .slice a acc.length c := by
      rcases HB.out.own.2 with ⟨rfl, h0⟩ | ⟨g, cap, cur, rfl, _⟩
      · exact ⟨none, 0, by rw [h0]⟩
      · exact ⟨_, _, rfl⟩
    subst hv8
    rcases HB.out.x with ⟨hS, ho⟩ | hBr
    · have c3 := hS.cell1.2
      have HSr : Hid (SR W0 wr R s j o) := hS
      have hjs := hS.inn
      have hN2 : acc.length ≤ j := HN.out.elim (fun hB => (hS.not_br hB).elim) id
      clear hS HN
      go_wp2_with fail
      go_at_call 45
      refine (eat_x L HB.out.x 93 (by omega) (by omega)).mono ?_
      rintro e w2 ⟨b, rfl, hg2, ⟨rfl, k1, k2, k3, k4⟩ | ⟨rfl, hx2, hh2, hh2n⟩⟩
      · have hst : BR W0 w2 R s ∨ (SR W0 w R s i o ∧ res = some (acc, j + 1)) := HB.out.hist.elim (fun hB => (k1.not_br hB).elim) fun ⟨q1, q2⟩ => .inr ⟨q1, q2.stop hjs k2⟩
        have HT : Hid (TailC W0 w w2 R s i o mk nt (.slice va0 acc.length vc0)) := tail_any HD.out (by omega) (.inl ⟨k3, k4⟩) (Lib.grownBy_trans HB.out.g hg2) (HB.out.own.grown hRB hg2) hst HEq.out fun _ hB => (sr_not_br k3 hB).elim
        clear hst k1 k2 k3 k4 hg2 HB HSr HNo
        cases nt
        · go_wp2_with fail
          go_at_call 51
          refine HT.out.mono ?_
          rintro e w2 ⟨ua, un, uc, rfl, hf, _⟩
          have HF := hf rfl
          clear hf HT
          go_wp2
          go_ret
          exact HF.out
        · go_wp2_with fail
          go_at_call 51
          refine HT.out.mono ?_
          rintro e w2 ⟨ua, un, uc, rfl, _, hf⟩
          have HF := hf rfl
          clear hf HT
          go_wp2_with fail
          go_at_call 157
          refine HF.out.mono ?_
          rintro e w3 ⟨va, vn, vc, rfl, HF2⟩
          clear HF
          go_wp2_with fail
          go_at_call 82
          refine HF2.out.mono ?_
          rintro e w4 ⟨xa, xn, xc, rfl, HF3⟩
          clear HF2
          go_wp2
          go_ret
          exact HF3.out
      · have HB2 : Hid (BI W0 w w2 R s i o res (.slice va0 acc.length vc0) acc j) := HB.out.keep hRB hg2 hx2 (hh2.imp id fun h => h.1)
        have HH2 : Hid (SR W0 w2 R s j o → cpAt s j ≠ 93) := fun hS2 => hh2.elim (fun hB => (hS2.not_br hB).elim) fun h => h.2
        have HRN : Hid (∀ wl, w2.grownBy wl (some R) → (SR W0 w2 R s j o → BR W0 wl R s → BadR s (itemS s j)) → BR W0 wl R s → res = none) := fun wl hgl hbd hB => by
          rcases HB.out.hist with hB0 | ⟨_, hZ⟩
          · exact (sr_not_br HSr.out hB0).elim
          · rcases hx2 with ⟨hS2, _⟩ | hB2
            · exact hZ.bad2 hjs (HH2.out hS2) (hbd hS2 hB)
            · exact hZ.bad (hh2n HSr.out hB2)
        obtain ⟨i1, _, _, c1, _⟩ := hx2.at_
        clear hg2 hx2 hh2 hh2n HB HNo
        go_wp2_with fail
        go_at_call 140
        refine (point_x (signs := innerS) L bars_in in92 in_signs HB2.out.x).mono ?_
        rintro e w3 ⟨lo, k, rfl, lo0, lo1, hg3, hx3, hh3, hh3n⟩
        have HN3 : Hid (SR W0 w2 R s j o → BR W0 w3 R s → pointS s innerS j = none) := hh3n
        have HX3 : Hid (XR W0 w3 R s k o) := hx3
        have HH3 : Hid (BR W0 w3 R s ∨ (SR W0 w2 R s j o ∧ pointS s innerS j = some (lo, k))) := hh3
        have HG3 : Hid (w2.grownBy w3 (some R)) := hg3
        clear hx3 hh3 hg3 hh3n
        go_wp2_with fail
        go_at_call 45
        refine (eat_x L HX3.out 45 (by omega) (by omega)).mono ?_
        rintro e w4 ⟨b, rfl, hg4, ⟨rfl, k1, k2, k3, k4⟩ | ⟨rfl, hx4, hh4, hh4n⟩⟩
        · have HX4 : Hid (XR W0 w4 R s (k + 1) o) := .inl ⟨k3, k4⟩
          have HH4 : Hid (SR W0 w2 R s j o ∧ pointS s innerS j = some (lo, k) ∧ cpAt s k = 45) := HH3.out.elim (fun hB => (k1.not_br hB).elim) fun h => ⟨h.1, h.2, k2⟩
          have HG4 : Hid (w2.grownBy w4 (some R)) := Lib.grownBy_trans HG3.out hg4
          have HS4 : Hid (SR W0 w4 R s (k + 1) o) := k3
          clear k1 k2 k3 k4 hg4 HX3 HH3 HG3 HN3
          go_wp2_with fail
          go_at_call 140
          refine (point_x (signs := innerS) L bars_in in92 in_signs HX4.out).mono ?_
          rintro e w5 ⟨up, m, rfl, up0, up1, hg5, hx5, hh5, hh5n⟩
          have HN5 : Hid (BR W0 w5 R s → itemS s j = none) := fun hB => itemS_no2 HH4.out.2.1 HH4.out.2.2 (hh5n HS4.out hB)
          have HN6 : Hid (up < lo → itemS s j = none) := fun hl => by
            rcases hh5 with hB | ⟨_, q2⟩
            · exact HN5.out hB
            · exact itemS_no3 HH4.out.2.1 HH4.out.2.2 q2 hl
          clear HS4 hh5n
          have hg25 := Lib.grownBy_trans HG4.out hg5
          by_cases hlt : up < lo
          · obtain ⟨te, pe, cs⟩ := env_syn L hx5.env
            have HFl : Hid (∀ y, Calls Tryz.prog 22 #[.pointer (some ⟨R, 0, none⟩), .iface te pe, .int .i64 y] w5 fun e w6 => e = .returned (.tuple #[]) ∧ w2.grownBy w6 (some R) ∧ BR W0 w6 R s) := fun y => (fail_any hx5 te pe y).mono fun e w6 ⟨q1, q2, q3⟩ => ⟨q1, Lib.grownBy_trans hg25 q2, q3⟩
            clear hg5 hx5 hh5 hg25 HX4 HG4
            go_wp2_with fail
            go_at_call 22
            refine (HFl.out _).mono ?_
            rintro e w6 ⟨rfl, hg6, hB6⟩
            have hown3 : OwnR w6 w.heap.size (.slice va0 acc.length vc0) acc := HB2.out.own.grown hRB hg6
            have hsz3 : w.heap.size ≤ w6.heap.size := Nat.le_trans HB2.out.g.size hg6.size
            have HS3 : Hid (∀ v' wn ob, OwnR wn w.heap.size v' (acc ++ [(lo, up)]) → (w6.alloc ob).grownBy wn (Value.slice va0 acc.length vc0).ownBlock → BI W0 w wn R s i o res v' (acc ++ [(lo, up)]) m ∧ mea s R wn < mea s R wr ∧ (BR W0 wn R s ∨ acc.length + 1 ≤ m) ∧ res = none) := fun v' wn ob h5 hgn => by
              obtain ⟨a1, a2, a3⟩ := HB2.out.snoc hRB hg6 (.inr hB6) (.inl hB6) h5 hgn
              exact ⟨a1, mea_x HSr.out a1.x a2, a2.imp id (fun h => by have := hN2; omega), HRN.out w6 hg6 (fun _ _ => .inl (HN6.out hlt)) hB6⟩
            clear hg6 hB6 HB2 HH2 HH4 HFl HSr HN5 HN6 HRN
            go_wp2_with (at_builtin; refine wpList_append_own _ rfl _ _ 33 rfl w.heap.size 101 i0 (.agg #[.int .i64 0, .int .i64 0]) 2 16 Tryz.underlying33 hi0 hz0 hz1 hz2 rfl (by decide) _ _ _ rfl (World.ownsRow.alloc hown3 _) ⟨w6.heap.size, 0, none⟩ 1 1 [.int .i64 lo, .int .i64 up] rfl rfl ?c1 ?c2 ?c3 ?c4 ?c5 ?_)
            case c1 =>
              intro j u hj
              match j, hj with
              | 0, hj => simp at hj; subst hj; simp [Addr.add]
              | 1, hj => simp at hj; subst hj; simp [Addr.add]
            case c2 => intro u hu; simp at hu; rcases hu with rfl | rfl <;> rfl
            case c3 => unfold maxLen; omega
            case c4 => omega
            case c5 => simp; omega
            · intro v' w9 hown' hgrow _
              have hown9 := own_snoc rfl hown'
              obtain ⟨b1, b2, b3, b4⟩ := HS3.out v' w9 _ hown9 hgrow
              have B1 : Hid (BI W0 w w9 R s i o res v' (acc ++ [(lo, up)]) m) := b1
              have B2 : Hid (mea s R w9 < mea s R wr) := b2
              have B3 : Hid (BR W0 w9 R s ∨ acc.length + 1 ≤ m) := b3
              have B4 : Hid (SR W0 w R s i o → BR W0 w9 R s → res = none) := fun _ _ => b4
              clear b1 b2 b3 b4 hown' hgrow hown9 hown3 HS3
              go_wp2
              go_roundw
              case rel => exact ⟨v', acc ++ [(lo, up)], m, rfl, B1, by simp; omega, by show _ ∨ _; simpa using B3.out, B4⟩
              case measure => exact B2.out
          · have hHA : BR W0 w5 R s ∨ (SR W0 w2 R s j o ∧ cpAt s j ≠ 93 ∧ itemS s j = some ((lo, up), m)) := by
              rcases hh5 with hB | ⟨q1, q2⟩
              · exact .inl hB
              · exact .inr ⟨HH4.out.1, HH2.out HH4.out.1, itemS_two HH4.out.2.1 HH4.out.2.2 q2 hlt⟩
            have hown3 : OwnR w5 w.heap.size (.slice va0 acc.length vc0) acc := HB2.out.own.grown hRB hg25
            have hsz3 : w.heap.size ≤ w5.heap.size := Nat.le_trans HB2.out.g.size hg25.size
            have HS3 : Hid (∀ v' wn ob, OwnR wn w.heap.size v' (acc ++ [(lo, up)]) → (w5.alloc ob).grownBy wn (Value.slice va0 acc.length vc0).ownBlock → BI W0 w wn R s i o res v' (acc ++ [(lo, up)]) m ∧ mea s R wn < mea s R wr ∧ (BR W0 wn R s ∨ acc.length + 1 ≤ m) ∧ (BR W0 wn R s → res = none)) := fun v' wn ob h5 hgn => by
              obtain ⟨a1, a2, a3⟩ := HB2.out.snoc hRB hg25 hx5 hHA h5 hgn
              exact ⟨a1, mea_x HSr.out a1.x a2, a2.imp id (fun h => by have := hN2; omega), fun hB => HRN.out w5 hg25 (fun _ hB => .inl (HN5.out hB)) (a3 hB)⟩
            clear hg5 hx5 hh5 hg25 hHA HB2 HH2 HH4 HX4 HG4 HSr HN5 HN6 HRN
            go_wp2_with (at_builtin; refine wpList_append_own _ rfl _ _ 33 rfl w.heap.size 101 i0 (.agg #[.int .i64 0, .int .i64 0]) 2 16 Tryz.underlying33 hi0 hz0 hz1 hz2 rfl (by decide) _ _ _ rfl (World.ownsRow.alloc hown3 _) ⟨w5.heap.size, 0, none⟩ 1 1 [.int .i64 lo, .int .i64 up] rfl rfl ?c1 ?c2 ?c3 ?c4 ?c5 ?_)
            case c1 =>
              intro j u hj
              match j, hj with
              | 0, hj => simp at hj; subst hj; simp [Addr.add]
              | 1, hj => simp at hj; subst hj; simp [Addr.add]
            case c2 => intro u hu; simp at hu; rcases hu with rfl | rfl <;> rfl
            case c3 => unfold maxLen; omega
            case c4 => omega
            case c5 => simp; omega
            · intro v' w9 hown' hgrow _
              have hown9 := own_snoc rfl hown'
              obtain ⟨b1, b2, b3, b4⟩ := HS3.out v' w9 _ hown9 hgrow
              have B1 : Hid (BI W0 w w9 R s i o res v' (acc ++ [(lo, up)]) m) := b1
              have B2 : Hid (mea s R w9 < mea s R wr) := b2
              have B3 : Hid (BR W0 w9 R s ∨ acc.length + 1 ≤ m) := b3
              have B4 : Hid (SR W0 w R s i o → BR W0 w9 R s → res = none) := fun _ => b4
              clear b1 b2 b3 b4 hown' hgrow hown9 hown3 HS3
              go_wp2
              go_roundw
              case rel => exact ⟨v', acc ++ [(lo, up)], m, rfl, B1, by simp; omega, by show _ ∨ _; simpa using B3.out, B4⟩
              case measure => exact B2.out
        · have hg24 := Lib.grownBy_trans HG3.out hg4
          have hHA : BR W0 w4 R s ∨ (SR W0 w2 R s j o ∧ cpAt s j ≠ 93 ∧ itemS s j = some ((lo, lo), k)) := by
            rcases hist_step HH3.out hh4 with hB | ⟨⟨q1, q2⟩, q3⟩
            · exact .inl hB
            · exact .inr ⟨q1, HH2.out q1, itemS_one q2 q3⟩
          have hll : ¬ lo < lo := by omega
          have hown3 : OwnR w4 w.heap.size (.slice va0 acc.length vc0) acc := HB2.out.own.grown hRB hg24
          have hsz3 : w.heap.size ≤ w4.heap.size := Nat.le_trans HB2.out.g.size hg24.size
          have HS3 : Hid (∀ v' wn ob, OwnR wn w.heap.size v' (acc ++ [(lo, lo)]) → (w4.alloc ob).grownBy wn (Value.slice va0 acc.length vc0).ownBlock → BI W0 w wn R s i o res v' (acc ++ [(lo, lo)]) k ∧ mea s R wn < mea s R wr ∧ (BR W0 wn R s ∨ acc.length + 1 ≤ k) ∧ (BR W0 wn R s → res = none)) := fun v' wn ob h5 hgn => by
            obtain ⟨a1, a2, a3⟩ := HB2.out.snoc hRB hg24 hx4 hHA h5 hgn
            refine ⟨a1, mea_x HSr.out a1.x a2, a2.imp id (fun h => by have := hN2; omega), fun hB => HRN.out w4 hg24 (fun hS2 hB4 => ?_) (a3 hB)⟩
            rcases HX3.out with ⟨hS3, _⟩ | hB3
            · rcases HH3.out with hB | ⟨_, q2⟩
              · exact (sr_not_br hS3 hB).elim
              · have h2 := hh4n hS3 hB4
                exact .inr ⟨_, k, itemS_one q2 (by omega), h2⟩
            · exact .inl (itemS_no (HN3.out hS2 hB3))
          clear hg4 hx4 hh4 hh4n hg24 hHA HB2 HH2 HH3 HX3 HG3 HSr HN3 HRN
          go_wp2_with (at_builtin; refine wpList_append_own _ rfl _ _ 33 rfl w.heap.size 101 i0 (.agg #[.int .i64 0, .int .i64 0]) 2 16 Tryz.underlying33 hi0 hz0 hz1 hz2 rfl (by decide) _ _ _ rfl (World.ownsRow.alloc hown3 _) ⟨w4.heap.size, 0, none⟩ 1 1 [.int .i64 lo, .int .i64 lo] rfl rfl ?c1 ?c2 ?c3 ?c4 ?c5 ?_)
          case c1 =>
            intro j u hj
            match j, hj with
            | 0, hj => simp at hj; subst hj; simp [Addr.add]
            | 1, hj => simp at hj; subst hj; simp [Addr.add]
          case c2 => intro u hu; simp at hu; rcases hu with rfl | rfl <;> rfl
          case c3 => unfold maxLen; omega
          case c4 => omega
          case c5 => simp; omega
          · intro v' w9 hown' hgrow _
            have hown9 := own_snoc rfl hown'
            obtain ⟨b1, b2, b3, b4⟩ := HS3.out v' w9 _ hown9 hgrow
            have B1 : Hid (BI W0 w w9 R s i o res v' (acc ++ [(lo, lo)]) k) := b1
            have B2 : Hid (mea s R w9 < mea s R wr) := b2
            have B3 : Hid (BR W0 w9 R s ∨ acc.length + 1 ≤ k) := b3
            have B4 : Hid (SR W0 w R s i o → BR W0 w9 R s → res = none) := fun _ => b4
            clear b1 b2 b3 b4 hown' hgrow hown9 hown3 HS3
            go_wp2
            go_roundw
            case rel => exact ⟨v', acc ++ [(lo, lo)], k, rfl, B1, by simp; omega, by show _ ∨ _; simpa using B3.out, B4⟩
            case measure => exact B2.out
    · obtain ⟨te, pe, c3⟩ := hBr.cell3
      have HT : Hid (TailC W0 w wr R s i o mk nt (.slice va0 acc.length vc0)) := tail_any (jf := j) HD.out (by omega) HB.out.x HB.out.g HB.out.own (.inl hBr) HEq.out HNo.out
      clear HB HN hBr HNo
      cases nt
      · go_wp2_with fail
        go_at_call 51
        refine HT.out.mono ?_
        rintro e w2 ⟨ua, un, uc, rfl, hf, _⟩
        have HF := hf rfl
        clear hf HT
        go_wp2
        go_ret
        exact HF.out
      · go_wp2_with fail
        go_at_call 51
        refine HT.out.mono ?_
        rintro e w2 ⟨ua, un, uc, rfl, _, hf⟩
        have HF := hf rfl
        clear hf HT
        go_wp2_with fail
        go_at_call 157
        refine HF.out.mono ?_
        rintro e w3 ⟨va, vn, vc, rfl, HF2⟩
        clear HF
        go_wp2_with fail
        go_at_call 82
        refine HF2.out.mono ?_
        rintro e w4 ⟨xa, xn, xc, rfl, HF3⟩
        clear HF2
        go_wp2
        go_ret
        exact HF3.out

end Go.Proofs.YtbjohedenfindaaGreatDoor
