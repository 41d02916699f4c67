/- Texts of the proof, put together: RBrkC, RRea, RPok, DvB. -/
import Derived.Test.YtbjohedenfindaaGreatDoorPb18
import Derived.Test.YtbjohedenfindaaGreatDoorPb02
namespace Go.Proofs.YtbjohedenfindaaGreatDoor
open Go.RowKit
set_option linter.unusedVariables false
set_option maxRecDepth 100000

set_option maxHeartbeats 8000000 in
theorem rinner_brack {W0 w : World} (L : LibC W0) {mk : List Rg → Bool → List Rg} (D : SetD mk) {R i o : Nat} {s : ByteArray} (hss : s.size ≤ 2000) (h : XR W0 w R s i o) :
    Calls Tryz.prog 139 #[.pointer (some ⟨R, 0, none⟩), .int .i64 91] w fun e w' => GotT W0 w R s i o (brackS s mk i) e w' := by
  obtain ⟨i0, hi0, hz0, hz1, hz2⟩ := info_parts Tryz.infoRange
  have hRB := h.lt
  have HD : Hid (SetD mk) := D
  have HE : Hid (Calls Tryz.prog 45 #[.pointer (some ⟨R, 0, none⟩), .int .i64 94] w fun e w1 => ∃ (nt : Bool) (i' : Nat) (res : Option (List Rg × Nat)), e = .returned (.bool nt) ∧ BI W0 w w1 R s i o res (.slice none 0 0) [] i' ∧ (SR W0 w R s i o → brackS s mk i = res.map fun x => (setRe (mk x.1 nt), x.2))) := by
    have hn0 : ∀ w1 : World, OwnR w1 w.heap.size (.slice none 0 0) [] := fun w1 => ⟨rfl, .inl ⟨rfl, rfl⟩⟩
    rcases h with ⟨hS, ho⟩ | hBr
    · by_cases h94 : cpAt s i = 94
      · refine (eat_yes L hS 94 (by omega) h94).mono ?_
        rintro e w1 ⟨rfl, hg, hS1⟩
        rw [(cp_eq_size h94 (by omega) (by omega)).2] at hS1
        exact ⟨true, i + 1, itemsS s (s.size + 1) [] (i + 1), rfl, ⟨.inl ⟨hS1, ho⟩, hg, hn0 _, .inr ⟨hS, s.size + 1, rfl, by omega⟩⟩, fun _ => by unfold brackS; rw [if_pos h94]⟩
      · refine (eat_no L hS ho 94 (by omega) h94).mono ?_
        rintro e w1 ⟨rfl, hg, ⟨_, hS1⟩ | ⟨_, hB1⟩⟩
        · exact ⟨false, i, itemsS s (s.size + 1) [] i, rfl, ⟨.inl ⟨hS1, ho⟩, hg, hn0 _, .inr ⟨hS, s.size + 1, rfl, by omega⟩⟩, fun _ => by unfold brackS; rw [if_neg h94]⟩
        · exact ⟨false, i, itemsS s (s.size + 1) [] i, rfl, ⟨.inr hB1, hg, hn0 _, .inl hB1⟩, fun _ => by unfold brackS; rw [if_neg h94]⟩
    · refine (eat_bad hBr 94 (by omega)).mono ?_
      rintro e w1 ⟨rfl, n, rfl⟩
      have hB1 := hBr.kept (grown_drewN w n none)
      exact ⟨false, i, none, rfl, ⟨.inr hB1, grown_drewN w n (some R), hn0 _, .inl hB1⟩, fun hS => (hS.not_br hBr).elim⟩
  clear D h
  go_enter Tryz.func139, Tryz.ntmps139
  go_wp2_with fail
  go_at_call 45
  refine HE.out.mono ?_
  rintro e w1 ⟨nt, i', res, rfl, hB1, hEq⟩
  have HB1 : Hid (BI W0 w w1 R s i o res (.slice none 0 0) [] i') := hB1
  have HEq : Hid (SR W0 w R s i o → brackS s mk i = res.map fun x => (setRe (mk x.1 nt), x.2)) := hEq
  clear HE hB1 hEq
  go_wp2
  go_loopw [8] (fun x wr => ∃ (v : Value) (acc : List Rg) (j : Nat), x = v ∧ Hid (BI W0 w wr R s i o res v acc j) ∧ acc.length ≤ s.size + 1 ∧ Hid (BR W0 wr R s ∨ acc.length ≤ j)) (fun _ wr => mea s R wr)
  case atStart => exact ⟨_, [], i', rfl, HB1, by simp, .inr (by simp)⟩
  case round =>
    clear HB1
    obtain ⟨v, acc, j, hv8, HB, hal, HN⟩ := hrel
    obtain ⟨va0, vc0, rfl⟩ : ∃ a c, v = .slice a acc.length c := by
      rcases HB.out.own.2 with ⟨rfl, h0⟩ | ⟨g, cap, cur, rfl, _⟩
      · exact ⟨none, 0, by rw [h0]⟩
      · exact ⟨_, _, rfl⟩
    subst hv8
    rcases HB.out.x with ⟨hS, ho⟩ | hBr
    · have c3 := hS.cell1.2
      have HSr : Hid (SR W0 wr R s j o) := hS
      have hjs := hS.inn
      have hN2 : acc.length ≤ j := HN.out.elim (fun hB => (hS.not_br hB).elim) id
      clear hS HN
      go_wp2_with fail
      go_at_call 45
      refine (eat_x L HB.out.x 93 (by omega) (by omega)).mono ?_
      rintro e w2 ⟨b, rfl, hg2, ⟨rfl, k1, k2, k3, k4⟩ | ⟨rfl, hx2, hh2⟩⟩
      · have hst : BR W0 w2 R s ∨ (SR W0 w R s i o ∧ res = some (acc, j + 1)) := HB.out.hist.elim (fun hB => (k1.not_br hB).elim) fun ⟨q1, q2⟩ => .inr ⟨q1, q2.stop hjs k2⟩
        have HT : Hid (TailC W0 w w2 R s i o mk nt (.slice va0 acc.length vc0)) := tail_any HD.out (by omega) (.inl ⟨k3, k4⟩) (Lib.grownBy_trans HB.out.g hg2) (HB.out.own.grown hRB hg2) hst HEq.out
        clear hst k1 k2 k3 k4 hg2 HB HSr
        cases nt
        · go_wp2_with fail
          go_at_call 51
          refine HT.out.mono ?_
          rintro e w2 ⟨ua, un, uc, rfl, hf, _⟩
          have HF := hf rfl
          clear hf HT
          go_wp2
          go_ret
          exact HF.out
        · go_wp2_with fail
          go_at_call 51
          refine HT.out.mono ?_
          rintro e w2 ⟨ua, un, uc, rfl, _, hf⟩
          have HF := hf rfl
          clear hf HT
          go_wp2_with fail
          go_at_call 157
          refine HF.out.mono ?_
          rintro e w3 ⟨va, vn, vc, rfl, HF2⟩
          clear HF
          go_wp2_with fail
          go_at_call 82
          refine HF2.out.mono ?_
          rintro e w4 ⟨xa, xn, xc, rfl, HF3⟩
          clear HF2
          go_wp2
          go_ret
          exact HF3.out
      · have HB2 : Hid (BI W0 w w2 R s i o res (.slice va0 acc.length vc0) acc j) := HB.out.keep hRB hg2 hx2 (hh2.imp id fun h => h.1)
        have HH2 : Hid (SR W0 w2 R s j o → cpAt s j ≠ 93) := fun hS2 => hh2.elim (fun hB => (hS2.not_br hB).elim) fun h => h.2
        obtain ⟨i1, _, _, c1, _⟩ := hx2.at_
        clear hg2 hx2 hh2 HB
        go_wp2_with fail
        go_at_call 140
        refine (point_x (signs := innerS) L bars_in in92 in_signs HB2.out.x).mono ?_
        rintro e w3 ⟨lo, k, rfl, lo0, lo1, hg3, hx3, hh3⟩
        have HX3 : Hid (XR W0 w3 R s k o) := hx3
        have HH3 : Hid (BR W0 w3 R s ∨ (SR W0 w2 R s j o ∧ pointS s innerS j = some (lo, k))) := hh3
        have HG3 : Hid (w2.grownBy w3 (some R)) := hg3
        clear hx3 hh3 hg3
        go_wp2_with fail
        go_at_call 45
        refine (eat_x L HX3.out 45 (by omega) (by omega)).mono ?_
        rintro e w4 ⟨b, rfl, hg4, ⟨rfl, k1, k2, k3, k4⟩ | ⟨rfl, hx4, hh4⟩⟩
        · have HX4 : Hid (XR W0 w4 R s (k + 1) o) := .inl ⟨k3, k4⟩
          have HH4 : Hid (SR W0 w2 R s j o ∧ pointS s innerS j = some (lo, k) ∧ cpAt s k = 45) := HH3.out.elim (fun hB => (k1.not_br hB).elim) fun h => ⟨h.1, h.2, k2⟩
          have HG4 : Hid (w2.grownBy w4 (some R)) := Lib.grownBy_trans HG3.out hg4
          clear k1 k2 k3 k4 hg4 HX3 HH3 HG3
          go_wp2_with fail
          go_at_call 140
          refine (point_x (signs := innerS) L bars_in in92 in_signs HX4.out).mono ?_
          rintro e w5 ⟨up, m, rfl, up0, up1, hg5, hx5, hh5⟩
          have hg25 := Lib.grownBy_trans HG4.out hg5
          by_cases hlt : up < lo
          · obtain ⟨te, pe, cs⟩ := env_syn L hx5.env
            have HFl : Hid (∀ y, Calls Tryz.prog 22 #[.pointer (some ⟨R, 0, none⟩), .iface te pe, .int .i64 y] w5 fun e w6 => e = .returned (.tuple #[]) ∧ w2.grownBy w6 (some R) ∧ BR W0 w6 R s) := fun y => (fail_any hx5 te pe y).mono fun e w6 ⟨q1, q2, q3⟩ => ⟨q1, Lib.grownBy_trans hg25 q2, q3⟩
            clear hg5 hx5 hh5 hg25 HX4 HG4
            go_wp2_with fail
            go_at_call 22
            refine (HFl.out _).mono ?_
            rintro e w6 ⟨rfl, hg6, hB6⟩
            have hown3 : OwnR w6 w.heap.size (.slice va0 acc.length vc0) acc := HB2.out.own.grown hRB hg6
            have hsz3 : w.heap.size ≤ w6.heap.size := Nat.le_trans HB2.out.g.size hg6.size
            have HS3 : Hid (∀ v' wn ob, OwnR wn w.heap.size v' (acc ++ [(lo, up)]) → (w6.alloc ob).grownBy wn (Value.slice va0 acc.length vc0).ownBlock → BI W0 w wn R s i o res v' (acc ++ [(lo, up)]) m ∧ mea s R wn < mea s R wr ∧ (BR W0 wn R s ∨ acc.length + 1 ≤ m)) := fun v' wn ob h5 hgn => by
              obtain ⟨a1, a2⟩ := HB2.out.snoc hRB hg6 (.inr hB6) (.inl hB6) h5 hgn
              exact ⟨a1, mea_x HSr.out a1.x a2, a2.imp id (fun h => by have := hN2; omega)⟩
            clear hg6 hB6 HB2 HH2 HH4 HFl HSr
            go_wp2_with (at_builtin; refine wpList_append_own _ rfl _ _ 33 rfl w.heap.size 101 i0 (.agg #[.int .i64 0, .int .i64 0]) 2 16 Tryz.underlying33 hi0 hz0 hz1 hz2 rfl (by decide) _ _ _ rfl (World.ownsRow.alloc hown3 _) ⟨w6.heap.size, 0, none⟩ 1 1 [.int .i64 lo, .int .i64 up] rfl rfl ?c1 ?c2 ?c3 ?c4 ?c5 ?_)
            case c1 =>
              intro j u hj
              match j, hj with
              | 0, hj => simp at hj; subst hj; simp [Addr.add]
              | 1, hj => simp at hj; subst hj; simp [Addr.add]
            case c2 => intro u hu; simp at hu; rcases hu with rfl | rfl <;> rfl
            case c3 => unfold maxLen; omega
            case c4 => omega
            case c5 => simp; omega
            · intro v' w9 hown' hgrow _
              have hown9 := own_snoc rfl hown'
              obtain ⟨b1, b2, b3⟩ := HS3.out v' w9 _ hown9 hgrow
              have B1 : Hid (BI W0 w w9 R s i o res v' (acc ++ [(lo, up)]) m) := b1
              have B2 : Hid (mea s R w9 < mea s R wr) := b2
              have B3 : Hid (BR W0 w9 R s ∨ acc.length + 1 ≤ m) := b3
              clear b1 b2 b3 hown' hgrow hown9 hown3 HS3
              go_wp2
              go_roundw
              case rel => exact ⟨v', acc ++ [(lo, up)], m, rfl, B1, by simp; omega, by show _ ∨ _; simpa using B3.out⟩
              case measure => exact B2.out
          · have hHA : BR W0 w5 R s ∨ (SR W0 w2 R s j o ∧ cpAt s j ≠ 93 ∧ itemS s j = some ((lo, up), m)) := by
              rcases hh5 with hB | ⟨q1, q2⟩
              · exact .inl hB
              · exact .inr ⟨HH4.out.1, HH2.out HH4.out.1, itemS_two HH4.out.2.1 HH4.out.2.2 q2 hlt⟩
            have hown3 : OwnR w5 w.heap.size (.slice va0 acc.length vc0) acc := HB2.out.own.grown hRB hg25
            have hsz3 : w.heap.size ≤ w5.heap.size := Nat.le_trans HB2.out.g.size hg25.size
            have HS3 : Hid (∀ v' wn ob, OwnR wn w.heap.size v' (acc ++ [(lo, up)]) → (w5.alloc ob).grownBy wn (Value.slice va0 acc.length vc0).ownBlock → BI W0 w wn R s i o res v' (acc ++ [(lo, up)]) m ∧ mea s R wn < mea s R wr ∧ (BR W0 wn R s ∨ acc.length + 1 ≤ m)) := fun v' wn ob h5 hgn => by
              obtain ⟨a1, a2⟩ := HB2.out.snoc hRB hg25 hx5 hHA h5 hgn
              exact ⟨a1, mea_x HSr.out a1.x a2, a2.imp id (fun h => by have := hN2; omega)⟩
            clear hg5 hx5 hh5 hg25 hHA HB2 HH2 HH4 HX4 HG4 HSr
            go_wp2_with (at_builtin; refine wpList_append_own _ rfl _ _ 33 rfl w.heap.size 101 i0 (.agg #[.int .i64 0, .int .i64 0]) 2 16 Tryz.underlying33 hi0 hz0 hz1 hz2 rfl (by decide) _ _ _ rfl (World.ownsRow.alloc hown3 _) ⟨w5.heap.size, 0, none⟩ 1 1 [.int .i64 lo, .int .i64 up] rfl rfl ?c1 ?c2 ?c3 ?c4 ?c5 ?_)
            case c1 =>
              intro j u hj
              match j, hj with
              | 0, hj => simp at hj; subst hj; simp [Addr.add]
              | 1, hj => simp at hj; subst hj; simp [Addr.add]
            case c2 => intro u hu; simp at hu; rcases hu with rfl | rfl <;> rfl
            case c3 => unfold maxLen; omega
            case c4 => omega
            case c5 => simp; omega
            · intro v' w9 hown' hgrow _
              have hown9 := own_snoc rfl hown'
              obtain ⟨b1, b2, b3⟩ := HS3.out v' w9 _ hown9 hgrow
              have B1 : Hid (BI W0 w w9 R s i o res v' (acc ++ [(lo, up)]) m) := b1
              have B2 : Hid (mea s R w9 < mea s R wr) := b2
              have B3 : Hid (BR W0 w9 R s ∨ acc.length + 1 ≤ m) := b3
              clear b1 b2 b3 hown' hgrow hown9 hown3 HS3
              go_wp2
              go_roundw
              case rel => exact ⟨v', acc ++ [(lo, up)], m, rfl, B1, by simp; omega, by show _ ∨ _; simpa using B3.out⟩
              case measure => exact B2.out
        · have hg24 := Lib.grownBy_trans HG3.out hg4
          have hHA : BR W0 w4 R s ∨ (SR W0 w2 R s j o ∧ cpAt s j ≠ 93 ∧ itemS s j = some ((lo, lo), k)) := by
            rcases hist_step HH3.out hh4 with hB | ⟨⟨q1, q2⟩, q3⟩
            · exact .inl hB
            · exact .inr ⟨q1, HH2.out q1, itemS_one q2 q3⟩
          have hll : ¬ lo < lo := by omega
          have hown3 : OwnR w4 w.heap.size (.slice va0 acc.length vc0) acc := HB2.out.own.grown hRB hg24
          have hsz3 : w.heap.size ≤ w4.heap.size := Nat.le_trans HB2.out.g.size hg24.size
          have HS3 : Hid (∀ v' wn ob, OwnR wn w.heap.size v' (acc ++ [(lo, lo)]) → (w4.alloc ob).grownBy wn (Value.slice va0 acc.length vc0).ownBlock → BI W0 w wn R s i o res v' (acc ++ [(lo, lo)]) k ∧ mea s R wn < mea s R wr ∧ (BR W0 wn R s ∨ acc.length + 1 ≤ k)) := fun v' wn ob h5 hgn => by
            obtain ⟨a1, a2⟩ := HB2.out.snoc hRB hg24 hx4 hHA h5 hgn
            exact ⟨a1, mea_x HSr.out a1.x a2, a2.imp id (fun h => by have := hN2; omega)⟩
          clear hg4 hx4 hh4 hg24 hHA HB2 HH2 HH3 HX3 HG3 HSr
          go_wp2_with (at_builtin; refine wpList_append_own _ rfl _ _ 33 rfl w.heap.size 101 i0 (.agg #[.int .i64 0, .int .i64 0]) 2 16 Tryz.underlying33 hi0 hz0 hz1 hz2 rfl (by decide) _ _ _ rfl (World.ownsRow.alloc hown3 _) ⟨w4.heap.size, 0, none⟩ 1 1 [.int .i64 lo, .int .i64 lo] rfl rfl ?c1 ?c2 ?c3 ?c4 ?c5 ?_)
          case c1 =>
            intro j u hj
            match j, hj with
            | 0, hj => simp at hj; subst hj; simp [Addr.add]
            | 1, hj => simp at hj; subst hj; simp [Addr.add]
          case c2 => intro u hu; simp at hu; rcases hu with rfl | rfl <;> rfl
          case c3 => unfold maxLen; omega
          case c4 => omega
          case c5 => simp; omega
          · intro v' w9 hown' hgrow _
            have hown9 := own_snoc rfl hown'
            obtain ⟨b1, b2, b3⟩ := HS3.out v' w9 _ hown9 hgrow
            have B1 : Hid (BI W0 w w9 R s i o res v' (acc ++ [(lo, lo)]) k) := b1
            have B2 : Hid (mea s R w9 < mea s R wr) := b2
            have B3 : Hid (BR W0 w9 R s ∨ acc.length + 1 ≤ k) := b3
            clear b1 b2 b3 hown' hgrow hown9 hown3 HS3
            go_wp2
            go_roundw
            case rel => exact ⟨v', acc ++ [(lo, lo)], k, rfl, B1, by simp; omega, by show _ ∨ _; simpa using B3.out⟩
            case measure => exact B2.out
    · obtain ⟨te, pe, c3⟩ := hBr.cell3
      have HT : Hid (TailC W0 w wr R s i o mk nt (.slice va0 acc.length vc0)) := tail_any (jf := j) HD.out (by omega) HB.out.x HB.out.g HB.out.own (.inl hBr) HEq.out
      clear HB HN hBr
      cases nt
      · go_wp2_with fail
        go_at_call 51
        refine HT.out.mono ?_
        rintro e w2 ⟨ua, un, uc, rfl, hf, _⟩
        have HF := hf rfl
        clear hf HT
        go_wp2
        go_ret
        exact HF.out
      · go_wp2_with fail
        go_at_call 51
        refine HT.out.mono ?_
        rintro e w2 ⟨ua, un, uc, rfl, _, hf⟩
        have HF := hf rfl
        clear hf HT
        go_wp2_with fail
        go_at_call 157
        refine HF.out.mono ?_
        rintro e w3 ⟨va, vn, vc, rfl, HF2⟩
        clear HF
        go_wp2_with fail
        go_at_call 82
        refine HF2.out.mono ?_
        rintro e w4 ⟨xa, xn, xc, rfl, HF3⟩
        clear HF2
        go_wp2
        go_ret
        exact HF3.out

end Go.Proofs.YtbjohedenfindaaGreatDoor

namespace Go.Proofs.YtbjohedenfindaaGreatDoor
open Go.RowKit
set_option linter.unusedVariables false
set_option maxRecDepth 100000

/-- what Read gives -/
def RdP (w : World) (s : ByteArray) (mk : List Rg → Bool → List Rg) (e : Ending) (w' : World) : Prop := Below w.heap.size w w' ∧ ((∃ te pe, ∃ z : Int, e = .returned (.tuple #[.pointer none, .iface te pe, .int .i64 z])) ∨ ∃ t b, wholeS s mk = some t ∧ e = .returned (.tuple #[.pointer (some ⟨b, 0, none⟩), .nilIface, .int .i64 0]) ∧ Tree (fun b => w.heap.size ≤ b) w' (.pointer (some ⟨b, 0, none⟩)) t)
/-- PatternOk comes back -/
def PokC (s : ByteArray) (mk : List Rg → Bool → List Rg) : Prop := ∀ (B : Nat) (w : World) (v : Value) (t : Re), wholeS s mk = some t → Tree (fun b => B ≤ b) w v t → Calls Tryz.prog 13 #[v] w fun e w' => ∃ b, e = .returned (.bool b) ∧ Below w.heap.size w w'

/-- the reader's block as it begins -/
theorem reader_new {W0 w : World} {s : ByteArray} (hE : Env W0 w) (hs : s.size ≤ 2000) : SR W0 (w.alloc (.cells #[.string s, .int .i64 0, .int .i64 0, .nilIface, .int .i64 0] 54)) w.heap.size s 0 0 := by
  refine ⟨⟨by simp; have := hE.1; omega, fun k hk => ?_⟩, ⟨0, ?_⟩, hE.1, by omega, by omega⟩
  · rw [Below.heap_alloc _ _ _ (by have := hE.1; omega)]
    exact hE.2 k hk
  · have := heap_alloc_new w (.cells #[.string s, .int .i64 0, .int .i64 0, .nilIface, .int .i64 0] 54)
    exact this
theorem below_reader {w w' : World} {o : Obj} (hg : (w.alloc o).grownBy w' (some w.heap.size)) : Below w.heap.size w w' :=
  ⟨hg.os, hg.tape, hg.output, Nat.le_trans (by simp) hg.size, fun b hb => (hg.block b (by simp; omega) (by simp; omega)).trans (Below.heap_alloc w o b hb)⟩

theorem below_drewU {B : Nat} {a w : World} (h : Below B a w) (n : Nat) : Below B a (w.drewN n) := ⟨h.os, h.tape, h.output, h.size, h.block⟩
theorem BR.cell34 {W0 w : World} {R : Nat} {s : ByteArray} (h : BR W0 w R s) : ∃ te pe, ∃ z : Int, w.cell? ⟨R, 3, none⟩ = some (.iface te pe) ∧ w.cell? ⟨R, 4, none⟩ = some (.int .i64 z) := by
  obtain ⟨i, o, te, pe, z, _, _, hz⟩ := h.at_
  exact ⟨te, pe, z, hz.cells.2.2.2.1, hz.cells.2.2.2.2⟩

set_option maxHeartbeats 8000000 in
theorem rread_any {W0 w : World} (L : LibC W0) (hE : Env W0 w) {mk : List Rg → Bool → List Rg} (D : SetD mk) (hmk : mk [(10, 10)] true = [(0, 9), (11, 1114111)]) {s : ByteArray} (hs : s.size ≤ 2000) (P : PokC s mk) :
    Calls Tryz.prog 8 #[.string s] w fun e w' => RdP w s mk e w' := by
  have hl : ¬ (65536 : Int) < (s.size : Int) := by omega
  have hS1 := reader_new (s := s) hE hs
  have hU := runit_all (R := w.heap.size) (s := s) L hmk (fun o w i h => rinner_brack L D hs h) 100 0 (by omega)
  have HA : Hid (Calls Tryz.prog 21 #[.pointer (some ⟨w.heap.size, 0, none⟩)] (w.alloc (.cells #[.string s, .int .i64 0, .int .i64 0, .nilIface, .int .i64 0] 54)) fun e w2 => ∃ (p : Option Addr) (i1 : Nat), e = .returned (.pointer p) ∧ Below w.heap.size w w2 ∧ i1 ≤ s.size ∧ w2.cell? ⟨w.heap.size, 1, none⟩ = some (.int .i64 (i1 : Int)) ∧ Env W0 w2 ∧
      ((∃ j, XR W0 w2 w.heap.size s j 0) ∧ (BR W0 w2 w.heap.size s ∨ (SR W0 w2 w.heap.size s i1 0 ∧ ∃ t b, p = some ⟨b, 0, none⟩ ∧ patS s (fun j => unitS s mk 100 j) 0 = some (t, i1) ∧ Tree (fun b => w.heap.size ≤ b) w2 (.pointer p) t)))) := by
    refine (rpat_any L hU (unitS_goes 100) (part_goes (unitS_goes 100)) _ 0 (.inl ⟨hS1, by omega⟩)).mono ?_
    rintro e w2 ⟨p, j, rfl, hg, hx, hh⟩
    obtain ⟨i1, hi1, _, c1, hst⟩ := hx.at_
    refine ⟨p, i1, rfl, below_reader hg, hi1, c1, hx.env, ⟨j, hx⟩, ?_⟩
    rcases hst with hB | ⟨rfl, hS2⟩
    · exact .inl hB
    · rcases hh with hB | ⟨_, t, h2, h3⟩
      · exact .inl hB
      · obtain ⟨b, hb, _⟩ := h3.ptr
        have hp : p = some ⟨b, 0, none⟩ := by injection hb
        refine .inr ⟨hS2, t, b, hp, h2, Tree.imp h3 fun c _ hc => ?_⟩
        have : w.heap.size ≤ (w.alloc (.cells #[.string s, .int .i64 0, .int .i64 0, .nilIface, .int .i64 0] 54)).heap.size := by simp
        exact Nat.le_trans this hc
  have HP : Hid (PokC s mk) := P
  clear hS1 hU D hE P hmk
  go_enter Tryz.func8, Tryz.ntmps8
  go_wp2_with fail
  go_at_call 21
  refine HA.out.mono ?_
  rintro e w2 ⟨p, i1, rfl, hb2, hi1, c1, hE2, ⟨jx, hx2⟩, hh2⟩
  clear HA
  have hsz2 := hb2.size
  have hend : ∀ w3 : World, w2.grownBy w3 (some w.heap.size) → Below w.heap.size w w3 := fun w3 hg => ⟨hg.os.trans hb2.os, hg.tape.trans hb2.tape, hg.output.trans hb2.output, Nat.le_trans hsz2 hg.size, fun b hb => (hg.block b (by omega) (by simp; omega)).trans (hb2.block b hb)⟩
  by_cases hlt : i1 < s.size
  · have hltz : (i1 : Int) < (s.size : Int) := by omega
    obtain ⟨te, pe, cs⟩ := env_syn L hE2
    have HFl : Hid (Calls Tryz.prog 22 #[.pointer (some ⟨w.heap.size, 0, none⟩), .iface te pe, .int .i64 i1] w2.drew fun e w3 => e = .returned (.tuple #[]) ∧ (∃ te pe, ∃ z : Int, w3.cell? ⟨w.heap.size, 3, none⟩ = some (.iface te pe) ∧ w3.cell? ⟨w.heap.size, 4, none⟩ = some (.int .i64 z)) ∧ Below w.heap.size w w3) := by
      refine (fail_any (hx2.kept (grown_drewN w2 1 none)) te pe i1).mono ?_
      rintro e w3 ⟨q1, q2, q3⟩
      exact ⟨q1, q3.cell34, hend w3 (Lib.grownBy_trans (grown_drewN w2 1 (some w.heap.size)) q2)⟩
    clear hh2 hx2 hend hE2
    go_wp2
    go_region_with (go_at_call 22; refine HFl.out.mono ?_; rintro e w3 ⟨rfl, ⟨te3, pe3, z3, d3, d4⟩, hb3⟩)
    all_goals
      go_wp2
      go_quiet (fail)
      go_wp2
      go_ret3
      exact ⟨below_drewU hb3 nq, .inl ⟨te3, pe3, z3, rfl⟩⟩
  · have hltz : ¬ (i1 : Int) < (s.size : Int) := by omega
    rcases hh2 with hB | ⟨hS, t, b, rfl, hp, hT⟩
    · obtain ⟨te3, pe3, z3, d3, d4⟩ := hB.cell34
      clear hx2 hend hE2 hB
      go_wp2
      go_quiet (fail)
      go_wp2
      go_ret3
      exact ⟨below_drewU hb2 nq, .inl ⟨te3, pe3, z3, rfl⟩⟩
    · have d3 := hS.cell1.2
      have hw : wholeS s mk = some t := by
        unfold wholeS
        rw [hp]
        simp only
        rw [if_pos]
        unfold cpAt
        rw [if_neg (by omega)]
      have HW : Hid (wholeS s mk = some t) := hw
      have HT : Hid (Tree (fun b => w.heap.size ≤ b) w2 (.pointer (some ⟨b, 0, none⟩)) t) := hT
      have HK : Hid (Calls Tryz.prog 13 #[.pointer (some ⟨b, 0, none⟩)] w2 fun e w3 => ∃ bb, e = .returned (.bool bb) ∧ Below w.heap.size w w3 ∧ (∃ te pe, w3.cell? ⟨1, 0, none⟩ = some (.iface te pe)) ∧ Tree (fun b => w.heap.size ≤ b) w3 (.pointer (some ⟨b, 0, none⟩)) t) := by
        refine (HP.out w.heap.size w2 _ t hw hT).mono ?_
        rintro e w3 ⟨bb, q1, q2⟩
        have hg3 := grownBy_of_below q2 (some w.heap.size)
        refine ⟨bb, q1, hend w3 hg3, env_bnd L ⟨Nat.le_trans hE2.1 q2.size, fun k hk => (q2.block k (by have := hE2.1; omega)).trans (hE2.2 k hk)⟩, Tree.moved hT q2.size fun c hc hok => ⟨hok, q2.block c hc⟩⟩
      clear hx2 hend hE2 hS hp hT hw HP
      go_wp2_with fail
      go_at_call 13
      refine HK.out.mono ?_
      rintro e w3 ⟨bb, rfl, hb3, ⟨te3, pe3, d5⟩, hT3⟩
      have HT3 : Hid (Tree (fun b => w.heap.size ≤ b) w3 (.pointer (some ⟨b, 0, none⟩)) t) := hT3
      clear hT3 HK HT
      cases bb
      · go_wp2
        go_quiet (fail)
        go_wp2
        go_ret3
        exact ⟨below_drewU hb3 nq, .inl ⟨te3, pe3, 0, rfl⟩⟩
      · go_wp2
        go_ret3
        exact ⟨hb3, .inr ⟨t, b, HW.out, rfl, HT3.out⟩⟩

end Go.Proofs.YtbjohedenfindaaGreatDoor

namespace Go.Proofs.YtbjohedenfindaaGreatDoor
open Go.RowKit
set_option linter.unusedVariables false
set_option maxRecDepth 100000

set_option maxHeartbeats 2000000 in
theorem kidsok_any (k n : Int) (w : World) : Calls Tryz.prog 49 #[.int .i64 k, .int .i64 n] w fun e w' => ∃ b, e = .returned (.bool b) ∧ w' = w := by
  go_enter Tryz.func49, Tryz.ntmps49
  go_wp2
  all_goals
    go_ret
    exact ⟨_, rfl, rfl⟩

set_option maxHeartbeats 4000000 in
theorem timesok_any {w : World} {b : Nat} {k mn mx : Int} (hb : b < w.heap.size) (c0 : w.cell? ⟨b, 0, none⟩ = some (.int .i64 k)) (c2 : w.cell? ⟨b, 2, none⟩ = some (.int .i64 mn)) (c3 : w.cell? ⟨b, 3, none⟩ = some (.int .i64 mx)) :
    Calls Tryz.prog 50 #[.pointer (some ⟨b, 0, none⟩)] w fun e w' => ∃ bb, e = .returned (.bool bb) ∧ Below w.heap.size w w' := by
  by_cases hk : k = 6
  · subst hk
    by_cases h1 : mn < 0
    · go_enter Tryz.func50, Tryz.ntmps50
      go_wp2
      go_ret
      first | exact ⟨_, rfl, Below.refl _ _⟩ | exact ⟨.inl rfl, Below.refl _ _⟩ | exact ⟨.inr rfl, Below.refl _ _⟩
    · by_cases h2 : mn > 50
      · go_enter Tryz.func50, Tryz.ntmps50
        go_wp2
        go_ret
        first | exact ⟨_, rfl, Below.refl _ _⟩ | exact ⟨.inl rfl, Below.refl _ _⟩ | exact ⟨.inr rfl, Below.refl _ _⟩
      · have hcase : mx = -1 ∨ ((mx == -1) = false ∧ decide (mx ≥ mn) = false) ∨ ((mx == -1) = false ∧ decide (mx ≥ mn) = true ∧ decide (mx ≥ 1) = false) ∨ ((mx == -1) = false ∧ decide (mx ≥ mn) = true ∧ decide (mx ≥ 1) = true) := by
          by_cases a0 : mx = -1
          · exact .inl a0
          · have a1 : (mx == -1) = false := by rw [beq_eq_false_iff_ne]; exact a0
            by_cases a2 : mx ≥ mn
            · by_cases a3 : mx ≥ 1
              · exact .inr (.inr (.inr ⟨a1, by simp; omega, by simp; omega⟩))
              · exact .inr (.inr (.inl ⟨a1, by simp; omega, by simp; omega⟩))
            · exact .inr (.inl ⟨a1, by simp; omega⟩)
        rcases hcase with rfl | ⟨g1, g2⟩ | ⟨g1, g2, g3⟩ | ⟨g1, g2, g3⟩
        all_goals
          go_enter Tryz.func50, Tryz.ntmps50
          go_wp2
          go_quiet (fail)
          go_wp2
          go_ret
          exact ⟨_, rfl, below_drewU (Below.refl _ _) nq⟩
  · have hq : (k != 6) = true := by rw [bne_iff_ne]; exact hk
    by_cases h0 : mn = 0
    · subst h0
      go_enter Tryz.func50, Tryz.ntmps50
      go_wp2
      go_ret
      first | exact ⟨_, rfl, Below.refl _ _⟩ | exact ⟨.inl rfl, Below.refl _ _⟩ | exact ⟨.inr rfl, Below.refl _ _⟩
    · have hq2 : (mn == 0) = false := by rw [beq_eq_false_iff_ne]; exact h0
      go_enter Tryz.func50, Tryz.ntmps50
      go_wp2
      go_ret
      first | exact ⟨_, rfl, Below.refl _ _⟩ | exact ⟨.inl rfl, Below.refl _ _⟩ | exact ⟨.inr rfl, Below.refl _ _⟩

end Go.Proofs.YtbjohedenfindaaGreatDoor

namespace Go.Proofs.YtbjohedenfindaaGreatDoor
set_option linter.unusedVariables false

theorem isNo_iff {t : Tm} : isNo t = true ↔ t.kind = 1 ∧ t.set = [] := by simp [isNo]
theorem isEm_iff {t : Tm} : isEm t = true ↔ t.kind = 2 ∧ t.kids = [] := by simp [isEm]

/-- how a node looks -/
def Shape (t : Tm) : Prop :=
  (∃ s, t = setT s) ∨ t = emptT ∨ (∃ x y, t = catT x y ∧ x.kind ≠ 2 ∧ isNo x = false ∧ isNo y = false ∧ isEm y = false) ∨
  (∃ k l, (k = 3 ∨ k = 4) ∧ t = sevT k l ∧ 2 ≤ l.length ∧ Srt l ∧ ∀ x ∈ l, x.kind ≠ k ∧ isNo x = false) ∨
  (∃ x, t = notT x) ∨ (∃ x lo hi, t = repT x lo hi ∧ 0 ≤ lo ∧ (hi = -1 ∨ (lo ≤ hi ∧ 1 ≤ hi)) ∧ isNo x = false ∧ isEm x = false)
def Nf (t : Tm) : Prop := match t with
  | ⟨k, s, a, b, ks⟩ => Shape ⟨k, s, a, b, ks⟩ ∧ ∀ x, (h : x ∈ ks) → Nf x
theorem nf_iff {t : Tm} : Nf t ↔ Shape t ∧ ∀ x ∈ t.kids, Nf x := by
  obtain ⟨k, s, a, b, ks⟩ := t; rw [Nf]
theorem Nf.kid {t x : Tm} (h : Nf t) (hx : x ∈ t.kids) : Nf x := (nf_iff.1 h).2 x hx

theorem nf_set (s : List Rg) : Nf (setT s) := nf_iff.2 ⟨.inl ⟨s, rfl⟩, by simp [setT]⟩
theorem nf_noth : Nf nothT := nf_set []
theorem nf_empt : Nf emptT := nf_iff.2 ⟨.inr (.inl rfl), by simp [emptT]⟩
theorem nf_cat {x y : Tm} (hx : Nf x) (hy : Nf y) (h1 : x.kind ≠ 2) (h2 : isNo x = false) (h3 : isNo y = false) (h4 : isEm y = false) : Nf (catT x y) :=
  nf_iff.2 ⟨.inr (.inr (.inl ⟨x, y, rfl, h1, h2, h3, h4⟩)), by simp [catT, hx, hy]⟩
theorem nf_sev {k : Int} {l : List Tm} (hk : k = 3 ∨ k = 4) (h2 : 2 ≤ l.length) (h3 : Srt l) (h4 : ∀ x ∈ l, x.kind ≠ k ∧ isNo x = false) (h5 : ∀ x ∈ l, Nf x) : Nf (sevT k l) :=
  nf_iff.2 ⟨.inr (.inr (.inr (.inl ⟨k, l, hk, rfl, h2, h3, h4⟩))), by simpa [sevT] using h5⟩
theorem nf_not {x : Tm} (hx : Nf x) : Nf (notT x) := nf_iff.2 ⟨.inr (.inr (.inr (.inr (.inl ⟨x, rfl⟩)))), by simpa [notT] using hx⟩
theorem nf_rep {x : Tm} {lo hi : Int} (hx : Nf x) (h0 : 0 ≤ lo) (h1 : hi = -1 ∨ (lo ≤ hi ∧ 1 ≤ hi)) (h2 : isNo x = false) (h3 : isEm x = false) : Nf (repT x lo hi) :=
  nf_iff.2 ⟨.inr (.inr (.inr (.inr (.inr ⟨x, lo, hi, rfl, h0, h1, h2, h3⟩)))), by simpa [repT] using hx⟩

/-- the cases of a normal form -/
theorem nf_cases {P : Tm → Prop} (t : Tm) (h : Nf t) (cset : ∀ s, P (setT s)) (cempt : P emptT)
    (ccat : ∀ x y, Nf x → Nf y → x.kind ≠ 2 → isNo x = false → isNo y = false → isEm y = false → P (catT x y))
    (csev : ∀ k l, (k = 3 ∨ k = 4) → 2 ≤ l.length → Srt l → (∀ x ∈ l, x.kind ≠ k ∧ isNo x = false) → (∀ x ∈ l, Nf x) → P (sevT k l))
    (cnot : ∀ x, Nf x → P (notT x))
    (crep : ∀ x lo hi, Nf x → 0 ≤ lo → (hi = -1 ∨ (lo ≤ hi ∧ 1 ≤ hi)) → isNo x = false → isEm x = false → P (repT x lo hi)) : P t := by
  obtain ⟨h1, h2⟩ := nf_iff.1 h
  rcases h1 with ⟨s, rfl⟩ | rfl | ⟨x, y, rfl, h3⟩ | ⟨k, l, hk, rfl, h3⟩ | ⟨x, rfl⟩ | ⟨x, lo, hi, rfl, h3⟩
  · exact cset s
  · exact cempt
  · exact ccat x y (h2 x (by simp [catT])) (h2 y (by simp [catT])) h3.1 h3.2.1 h3.2.2.1 h3.2.2.2
  · exact csev k l hk h3.1 h3.2.1 h3.2.2 fun x hx => h2 x (by simpa [sevT] using hx)
  · exact cnot x (h2 x (by simp [notT]))
  · exact crep x lo hi (h2 x (by simp [repT])) h3.1 h3.2.1 h3.2.2.1 h3.2.2.2
theorem nf_no {t : Tm} (h : Nf t) (hn : isNo t = true) : t = nothT := by
  obtain ⟨hk, hs⟩ := isNo_iff.1 hn
  revert hk hs
  refine nf_cases (P := fun t => t.kind = 1 → t.set = [] → t = nothT) t h ?_ ?_ ?_ ?_ ?_ ?_
  · intro s _ hs; simp only [setT] at hs; subst hs; rfl
  · simp [emptT]
  · simp [catT]
  · intro k l hk; rcases hk with rfl | rfl <;> simp [sevT]
  · simp [notT]
  · simp [repT]
theorem nf_em {t : Tm} (h : Nf t) (hn : isEm t = true) : t = emptT := by
  obtain ⟨hk, hs⟩ := isEm_iff.1 hn
  revert hk hs
  refine nf_cases (P := fun t => t.kind = 2 → t.kids = [] → t = emptT) t h ?_ ?_ ?_ ?_ ?_ ?_
  · simp [setT]
  · simp
  · simp [catT]
  · intro k l hk; rcases hk with rfl | rfl <;> simp [sevT]
  · simp [notT]
  · simp [repT]

/-! ## One behind the other -/
def catS (a b : Tm) : Tm := match a with
  | ⟨k, s, m, n, ks⟩ =>
    if isNo ⟨k, s, m, n, ks⟩ || isNo b then nothT else if isEm ⟨k, s, m, n, ks⟩ then b else if isEm b then ⟨k, s, m, n, ks⟩ else
    if k = 2 then (match ks with | [x, y] => catT x (catS y b) | _ => catT ⟨k, s, m, n, ks⟩ b) else catT ⟨k, s, m, n, ks⟩ b
theorem catS_eq (a b : Tm) : catS a b = if isNo a || isNo b then nothT else if isEm a then b else if isEm b then a else
    if a.kind = 2 then (match a.kids with | [x, y] => catT x (catS y b) | _ => catT a b) else catT a b := by
  obtain ⟨k, s, m, n, ks⟩ := a
  rw [catS.eq_def]
theorem catS_no_l {a b : Tm} (h : isNo a = true) : catS a b = nothT := by rw [catS_eq]; simp [h]
theorem catS_no_r {a b : Tm} (h : isNo b = true) : catS a b = nothT := by rw [catS_eq]; simp [h]
theorem isNo_empt : isNo emptT = false := by simp [isNo, emptT]
theorem isEm_empt : isEm emptT = true := by simp [isEm, emptT]
theorem isNo_noth : isNo nothT = true := by simp [isNo, nothT]
theorem isEm_noth : isEm nothT = false := by simp [isEm, nothT]
theorem isNo_cat (a b : Tm) : isNo (catT a b) = false := by simp [isNo, catT]
theorem isEm_cat (a b : Tm) : isEm (catT a b) = false := by simp [isEm, catT]
theorem catS_em_l {b : Tm} (hb : Nf b) : catS emptT b = b := by
  rw [catS_eq, isNo_empt, isEm_empt]
  cases h : isNo b
  · simp
  · simp [nf_no hb h]
theorem catS_em_r {a : Tm} (ha : Nf a) : catS a emptT = a := by
  rw [catS_eq, isNo_empt, isEm_empt]
  cases h : isNo a
  · cases h2 : isEm a
    · simp
    · simp [nf_em ha h2]
  · simp [nf_no ha h]
theorem catS_plain {a b : Tm} (h : a.kind ≠ 2) (h1 : isNo a = false) (h2 : isNo b = false) (h3 : isEm b = false) : catS a b = catT a b := by
  have he : isEm a = false := by simp [isEm, h]
  rw [catS_eq, h1, h2, he, h3]
  simp [h]
theorem catS_cat {x y b : Tm} (h2 : isNo b = false) (h3 : isEm b = false) : catS (catT x y) b = catT x (catS y b) := by
  rw [catS_eq, isNo_cat, h2, isEm_cat, h3]
  simp [catT]

theorem catS_nf : ∀ (a b : Tm), Nf a → Nf b → Nf (catS a b) ∧ (isNo a = false → isNo b = false → isNo (catS a b) = false) ∧ (isEm b = false → isNo b = false → isNo a = false → isEm (catS a b) = false) := by
  refine Tm.ind ?_
  intro a ih b ha hb
  cases h1 : isNo a
  · cases h2 : isNo b
    · cases h3 : isEm b
      · revert ih h1
        refine nf_cases (P := fun a => (∀ k ∈ a.kids, ∀ (b : Tm), Nf k → Nf b → Nf (catS k b) ∧ (isNo k = false → isNo b = false → isNo (catS k b) = false) ∧ (isEm b = false → isNo b = false → isNo k = false → isEm (catS k b) = false)) → isNo a = false →
          Nf (catS a b) ∧ (false = false → false = false → isNo (catS a b) = false) ∧ (false = false → false = false → false = false → isEm (catS a b) = false)) a ha ?_ ?_ ?_ ?_ ?_ ?_
        · intro s ih h1
          rw [catS_plain (by simp [setT]) h1 h2 h3]
          exact ⟨nf_cat (nf_set s) hb (by simp [setT]) h1 h2 h3, fun _ _ => isNo_cat _ _, fun _ _ _ => isEm_cat _ _⟩
        · intro ih h1
          rw [catS_em_l hb]
          exact ⟨hb, fun _ _ => h2, fun _ _ _ => h3⟩
        · intro x y hx hy k1 k2 k3 k4 ih h1
          rw [catS_cat h2 h3]
          obtain ⟨g1, g2, g3⟩ := ih y (by simp [catT]) b hy hb
          exact ⟨nf_cat hx g1 k1 k2 (g2 k3 h2) (g3 h3 h2 k3), fun _ _ => isNo_cat _ _, fun _ _ _ => isEm_cat _ _⟩
        · intro k l hk k2 k3 k4 k5 ih h1
          have hk2 : (sevT k l).kind ≠ 2 := by simp only [sevT]; omega
          rw [catS_plain hk2 h1 h2 h3]
          exact ⟨nf_cat (nf_sev hk k2 k3 k4 k5) hb hk2 h1 h2 h3, fun _ _ => isNo_cat _ _, fun _ _ _ => isEm_cat _ _⟩
        · intro x hx ih h1
          rw [catS_plain (by simp [notT]) h1 h2 h3]
          exact ⟨nf_cat (nf_not hx) hb (by simp [notT]) h1 h2 h3, fun _ _ => isNo_cat _ _, fun _ _ _ => isEm_cat _ _⟩
        · intro x lo hi hx k0 k1 k2 k3 ih h1
          rw [catS_plain (by simp [repT]) h1 h2 h3]
          exact ⟨nf_cat (nf_rep hx k0 k1 k2 k3) hb (by simp [repT]) h1 h2 h3, fun _ _ => isNo_cat _ _, fun _ _ _ => isEm_cat _ _⟩
      · have := nf_em hb h3; subst this
        rw [catS_em_r ha]
        exact ⟨ha, fun _ _ => h1, by simp⟩
    · rw [catS_no_r h2]; exact ⟨nf_noth, by simp, by simp⟩
  · rw [catS_no_l h1]; exact ⟨nf_noth, by simp, by simp⟩
theorem nf_catS {a b : Tm} (ha : Nf a) (hb : Nf b) : Nf (catS a b) := (catS_nf a b ha hb).1
theorem no_catS {a b : Tm} (ha : Nf a) (hb : Nf b) (h1 : isNo a = false) (h2 : isNo b = false) : isNo (catS a b) = false := (catS_nf a b ha hb).2.1 h1 h2
theorem em_catS {a b : Tm} (ha : Nf a) (hb : Nf b) (h1 : isNo a = false) (h2 : isNo b = false) (h3 : isEm b = false) : isEm (catS a b) = false := (catS_nf a b ha hb).2.2 h3 h2 h1

theorem catS_assoc : ∀ (a b c : Tm), Nf a → Nf b → Nf c → catS (catS a b) c = catS a (catS b c) := by
  refine Tm.ind ?_
  intro a ih b c ha hb hc
  cases h1 : isNo a
  · cases h2 : isNo b
    · cases h4 : isNo c
      · cases h3 : isEm b
        · cases h5 : isEm c
          · have hbc := nf_catS hb hc
            have n1 := no_catS hb hc h2 h4
            have n2 := em_catS hb hc h2 h4 h5
            have aux : a.kind ≠ 2 → catS (catS a b) c = catS a (catS b c) := by
              intro hk
              rw [catS_plain hk h1 h2 h3, catS_cat h4 h5, catS_plain hk h1 n1 n2]
            revert ih aux h1
            refine nf_cases (P := fun a => (∀ k ∈ a.kids, ∀ (b c : Tm), Nf k → Nf b → Nf c → catS (catS k b) c = catS k (catS b c)) → isNo a = false → (a.kind ≠ 2 → catS (catS a b) c = catS a (catS b c)) → catS (catS a b) c = catS a (catS b c)) a ha ?_ ?_ ?_ ?_ ?_ ?_
            · intro s _ _ aux; exact aux (by simp [setT])
            · intro _ _ _; rw [catS_em_l hb, catS_em_l hbc]
            · intro x y hx hy k1 k2 k3 k4 ih _ _
              rw [catS_cat h2 h3, catS_cat h4 h5, catS_cat n1 n2, ih y (by simp [catT]) b c hy hb hc]
            · intro k l hk _ _ _ _ _ _ aux; exact aux (by simp only [sevT]; omega)
            · intro x _ _ _ aux; exact aux (by simp [notT])
            · intro x lo hi _ _ _ _ _ _ _ aux; exact aux (by simp [repT])
          · have := nf_em hc h5; subst this
            rw [catS_em_r (nf_catS ha hb), catS_em_r hb]
        · have := nf_em hb h3; subst this
          rw [catS_em_r ha, catS_em_l hc]
      · rw [catS_no_r h4, catS_no_r h4, catS_no_r isNo_noth]
    · rw [catS_no_r h2, catS_no_l h2, catS_no_l isNo_noth, catS_no_r isNo_noth]
  · rw [catS_no_l h1, catS_no_l isNo_noth, catS_no_l h1]

end Go.Proofs.YtbjohedenfindaaGreatDoor
