/- Texts of the proof, put together: PPt, PCnt, PCntB. -/
import Derived.Test.YtbjohedenfindaaGreatDoorPb10
namespace Go.Proofs.YtbjohedenfindaaGreatDoor
open Go.RowKit
set_option linter.unusedVariables false
set_option maxRecDepth 100000

set_option maxHeartbeats 4000000 in
theorem esc_hex_good {W0 w : World} (L : LibC W0) {R i o M : Nat} {s : ByteArray} (h : St W0 w R s i o M) (hu : cpAt s i = 117) (hb : cpAt s (i + 1) = 123) (D : ByteArray) (p : Int) (hDs : D.size ≤ 6) (hp0 : 0 ≤ p) (hp : p ≤ 1114111) (hend : i + 2 + D.size + 1 ≤ s.size)
    (hcut : ∀ w, Env W0 w → Calls Tryz.prog 181 #[.string (s.extract (i + 2) s.size), .string ⟨#[125]⟩] w fun e w' => (∃ b, e = .returned (.tuple #[.string D, .string b, .bool true])) ∧ Below w.heap.size w w')
    (hpar : ∀ w, Env W0 w → Calls Tryz.prog 182 #[.string D, .int .i64 16, .int .i64 64] w fun e w' => e = .returned (.tuple #[.int .u64 p, .nilIface]) ∧ Below w.heap.size w w') :
    Calls Tryz.prog 171 #[.pointer (some ⟨R, 0, none⟩)] w fun e w' => e = .returned (.int .i64 p) ∧ w.grownBy w' (some R) ∧ St W0 w' R s (i + 2 + D.size + 1) o M := by
  have HS : Hid (St W0 w R s i o M) := h
  have hn := next_any L h.env h.at_ h.inn h.text
  obtain ⟨hlt, hz⟩ := cp_eq_size hu (by omega) (by omega)
  obtain ⟨hlt2, hz2⟩ := cp_eq_size hb (by omega) (by omega)
  obtain ⟨_, c1, _, c3⟩ := h.at_.cells
  rw [hu, hz] at hn
  have HN : Hid (Calls Tryz.prog 105 #[.pointer (some ⟨R, 0, none⟩)] w fun e w' => e = .returned (.tuple #[.int .i32 117, .int .i64 1]) ∧ ∀ row, w.grownBy w' row) := hn
  have HT : Hid (∀ w2, St W0 w2 R s (i + 1) o M → Calls Tryz.prog 72 #[.pointer (some ⟨R, 0, none⟩), .int .i32 123] w2 fun e w' => e = .returned (.bool true) ∧ w2.grownBy w' (some R) ∧ St W0 w' R s (i + 2) o M) := fun w2 h2 => by
    have := take_yes L h2 123 hb
    rw [hz2] at this
    exact this
  have HC : Hid (∀ w, Env W0 w → Calls Tryz.prog 181 #[.string (s.extract (i + 2) s.size), .string ⟨#[125]⟩] w fun e w' => (∃ b, e = .returned (.tuple #[.string D, .string b, .bool true])) ∧ Below w.heap.size w w') := hcut
  have HPr : Hid (∀ w, Env W0 w → Calls Tryz.prog 182 #[.string D, .int .i64 16, .int .i64 64] w fun e w' => e = .returned (.tuple #[.int .u64 p, .nilIface]) ∧ Below w.heap.size w w') := hpar
  have hs := h.text
  clear hn h hz hu hb hz2 hcut hpar
  go_enter Tryz.func171, Tryz.ntmps171
  go_wp2_with fail
  refine HN.out.mono ?_
  rintro e w1 ⟨rfl, hg⟩
  have hR1 := HS.out.at_.kept (hg none)
  obtain ⟨_, d1, _, d3⟩ := hR1.cells
  have f1 := hR1.frozen 1
  have hg2 : w.grownBy (w1.setCell ⟨R, 1, none⟩ (.int .i64 ((i : Int) + 1))) (some R) := Lib.grownBy_setB (hg _) 1 _
  have hS2 : St W0 (w1.setCell ⟨R, 1, none⟩ (.int .i64 ((i : Int) + 1))) R s (i + 1) o M := HS.out.step hg2 (by omega) (by simpa using hR1.set1 (i + 1))
  obtain ⟨n, D', hn, hown, hD⟩ := hS2.esc
  have hk : keyOf Tryz.prog 21 (.int .i32 117) = some (.int .i32 117) := Maps.keyOf_int_mk Tryz.underlying21 (WalkArith.wf_i32 (by constructor <;> omega))
  have HB : Hid (Maps.has D' (.int .i32 117) = false) := by show _ = _; rw [(hD 117).1, esc_117]; rfl
  have HS2 : Hid (St W0 (w1.setCell ⟨R, 1, none⟩ (.int .i64 ((i : Int) + 1))) R s (i + 1) o M) := hS2
  clear hR1 hD hS2
  go_wp2_with (at_lookup; refine wpList_lookup_own_ok_int _ rfl _ _ 88 rfl 21 3 .i64 Tryz.lawRune Tryz.underlying88 Tryz.underlying3 (Tryz.zeroInt _) M n D' rfl hown _ _ rfl hk ?_; intro c hat hwc; rw [HB.out])
  refine (HT.out _ HS2.out).mono ?_
  rintro e w3 ⟨rfl, hg3, hS3⟩
  obtain ⟨g0, g1, _, _⟩ := hS3.at_.cells
  have hE3 := hS3.env
  have HS3 : Hid (St W0 w3 R s (i + 2) o M) := hS3
  have hg13 := Lib.grownBy_trans hg2 hg3
  have e2 : (((i + 2 : Nat) : Int)) = (i : Int) + 2 := by omega
  clear hown hS3 d1 d3 c1 c3 f1 hg hg3 hg2 HT HN HB HS2 hk hat hwc
  go_wp2_with fail
  go_region_with (go_at_call 181; refine (HC.out _ ?_).mono ?_; exact hE3.drewN _; rintro e w4 ⟨⟨b, rfl⟩, hb4⟩)
  all_goals
    have hE4 : Env W0 w4 := hE3.grown (R := R) (grownBy_undrew (grownBy_of_below hb4 _)) HS.out.r16
    have hg4 := (grownBy_undrew (grownBy_of_below hb4 none))
    go_wp2_with fail
    refine (HPr.out _ hE4).mono ?_
    rintro e w5 ⟨rfl, hb5⟩
    have hg5 := Lib.grownBy_trans hg4 (grownBy_of_below hb5 none)
    have hR5 := HS3.out.at_.kept hg5
    obtain ⟨_, k1, _, _⟩ := hR5.cells
    have kf := hR5.frozen 1
    have HR5 : Hid (RdAt w5 R s (i + 2) o M) := hR5
    have hnb : ¬ (1114111 : Int) < p := by omega
    have hn6 : ¬ (6 : Int) < (D.size : Int) := by omega
    have hcv : IntKind.i64.wrap p = p := wrap_id _ (by omega) (by omega)
    clear hE4 hE3 hb4 hb5 hg4 HC HPr g0 g1 hR5
    go_wp2
    go_ret
    have hgz := Lib.grownBy_setB (Lib.grownBy_trans hg13 (grownBy_none hg5 (some R))) 1 (.int .i64 ((i : Int) + 2 + ((D.size : Int) + 1)))
    refine ⟨rfl, hgz, HS.out.step hgz hend ?_⟩
    have := HR5.out.set1 (i + 2 + D.size + 1)
    have e3 : ((i + 2 + D.size + 1 : Nat) : Int) = (i : Int) + 2 + ((D.size : Int) + 1) := by omega
    rw [e3] at this
    exact this

theorem escape_any {W0 w : World} (L : LibC W0) {R i o M : Nat} {s : ByteArray} (h : St W0 w R s i o M) :
    Calls Tryz.prog 171 #[.pointer (some ⟨R, 0, none⟩)] w (Got W0 w R s o M (escS s i) IntV) := by
  by_cases hb : cpAt s i = -2
  · have e : escS s i = none := by
      unfold escS
      rw [hb]
      have : escOf (-2) = none := by decide
      rw [this]; simp
    rw [e]
    exact (esc_broken L h hb).mono fun e w' ⟨a, b⟩ => ⟨b, a⟩
  · cases hp : escOf (cpAt s i) with
    | some p =>
      have e : escS s i = some (p, i + 1) := by unfold escS; rw [hp]
      rw [e]
      exact (esc_known L h p hp).mono fun e w' ⟨a, b, c⟩ => ⟨b, _, a, rfl, c⟩
    | none =>
      by_cases hu : cpAt s i = 117
      · by_cases hv : cpAt s (i + 1) = 123
        · have e : escS s i = hexS s (i + 2) := by unfold escS; rw [hp]; simp [hu, hv]
          rw [e]
          have h2 := (cp_eq_size hv (by omega) (by omega)).1
          have htx := h.text
          have hTs : (s.extract (i + 2) s.size).size = s.size - (i + 2) := by simp
          cases hx : hexS s (i + 2) with
          | some x =>
            obtain ⟨p, j⟩ := x
            obtain ⟨k, h3, h4, h5, h6, h7, h8, h9, h10, h11⟩ := hexS_good (by omega) hx
            have hk := extract0_size (s.extract (i + 2) s.size) k (by have := h3.1; omega)
            refine (esc_hex_good L h hu hv ((s.extract (i + 2) s.size).extract 0 k) p (by omega) h11 h10 (by omega) (fun w hE => L.cutT _ w k hE (by omega) h3) (fun w hE => ?_)).mono ?_
            · have := L.parT ((s.extract (i + 2) s.size).extract 0 k) w hE (by omega) (by omega) h6
              rw [hk, h7] at this
              exact this
            · rintro e w' ⟨a, b, c⟩
              refine ⟨b, _, a, rfl, ?_⟩
              rw [hk] at c
              rw [h8]
              exact c
          | none =>
            rcases first_or (s.extract (i + 2) s.size) 125 with ⟨k, hk⟩ | hno
            · have hks := extract0_size (s.extract (i + 2) s.size) k (by have := hk.1; omega)
              have hkl := hk.1
              by_cases hk6 : 6 < k
              · refine (esc_hex_bad L h hu hv _ true (by omega) (fun w hE => L.cutT _ w k hE (by omega) hk) (fun w hE => (L.parL _ w hE (by omega)).mono ?_)).mono fun e w' ⟨a, b⟩ => ⟨b, a⟩
                rintro e w' ⟨⟨n, v, rfl, hv⟩, hb⟩
                exact ⟨⟨n, v, rfl, Or.inr (Or.inl ⟨rfl, by omega, hv⟩)⟩, hb⟩
              · by_cases hgood : 1 ≤ k ∧ allHex ((s.extract (i + 2) s.size).extract 0 k)
                · have hbig : 1114111 < hexVal ((s.extract (i + 2) s.size).extract 0 k) 0 k := by
                    rcases Int.lt_or_le 1114111 (hexVal ((s.extract (i + 2) s.size).extract 0 k) 0 k) with h | h
                    · exact h
                    · have := hexS_of (by omega) hk hgood.1 (by omega) hgood.2 h
                      rw [hx] at this
                      simp at this
                  refine (esc_hex_bad L h hu hv _ true (by omega) (fun w hE => L.cutT _ w k hE (by omega) hk) (fun w hE => (L.parT _ w hE (by omega) (by omega) hgood.2).mono ?_)).mono fun e w' ⟨a, b⟩ => ⟨b, a⟩
                  rintro e w' ⟨rfl, hb⟩
                  exact ⟨⟨_, _, rfl, Or.inr (Or.inr (Or.inr ⟨rfl, by omega, rfl, by rw [hks]; exact hbig⟩))⟩, hb⟩
                · refine (esc_hex_bad L h hu hv _ true (by omega) (fun w hE => L.cutT _ w k hE (by omega) hk) (fun w hE => (L.parF _ w hE (by omega) ?_).mono ?_)).mono fun e w' ⟨a, b⟩ => ⟨b, a⟩
                  · by_cases h1 : 1 ≤ k
                    · exact Or.inr fun hh => hgood ⟨h1, hh⟩
                    · exact Or.inl (by omega)
                  · rintro e w' ⟨⟨n, te, pe, rfl⟩, hb⟩
                    exact ⟨⟨_, _, rfl, Or.inr (Or.inr (Or.inl ⟨rfl, by omega, te, pe, rfl⟩))⟩, hb⟩
            · refine (esc_hex_bad L h hu hv _ false (by omega) (fun w hE => L.cutF _ w hE (by omega) hno) (fun w hE => (L.parL _ w hE (by omega)).mono ?_)).mono fun e w' ⟨a, b⟩ => ⟨b, a⟩
              rintro e w' ⟨⟨n, v, rfl, hv⟩, hb⟩
              exact ⟨⟨n, v, rfl, Or.inl ⟨rfl, hv⟩⟩, hb⟩
        · have e : escS s i = none := by unfold escS; rw [hp]; simp [hu, hv]
          rw [e]
          exact (esc_u_no L h hu hv).mono fun e w' ⟨a, b⟩ => ⟨b, a⟩
      · have e : escS s i = none := by unfold escS; rw [hp]; simp [hu]
        rw [e]
        exact (esc_other L h hp hb hu).mono fun e w' ⟨a, b⟩ => ⟨b, a⟩

set_option maxHeartbeats 1000000 in
theorem point_esc {W0 w : World} (L : LibC W0) {R i o M : Nat} {s : ByteArray} (h : St W0 w R s i o M) (S : ByteArray) (hc : cpAt s i = 92) :
    Calls Tryz.prog 155 #[.pointer (some ⟨R, 0, none⟩), .string S] w (Got W0 w R s o M (escS s (i + 1)) IntV) := by
  obtain ⟨hlt, hz⟩ := cp_eq_size hc (by omega) (by omega)
  have HT : Hid (Calls Tryz.prog 72 #[.pointer (some ⟨R, 0, none⟩), .int .i32 92] w fun e w' => e = .returned (.bool true) ∧ w.grownBy w' (some R) ∧ St W0 w' R s (i + 1) o M) := by
    have := take_yes L h 92 hc
    rw [hz] at this
    exact this
  clear h hc hz
  go_enter Tryz.func155, Tryz.ntmps155
  go_wp2_with fail
  refine HT.out.mono ?_
  rintro e w1 ⟨rfl, hg, hS⟩
  go_wp2_with fail
  refine (escape_any L hS).mono ?_
  intro e w2 hG
  obtain ⟨hg2, ⟨hx, f, rfl⟩ | ⟨x, v, hx, rfl, hv, hS2⟩⟩ := hG.both
  · exact ⟨rfl, Got.bad hx (Lib.grownBy_trans hg hg2) ⟨f, rfl⟩⟩
  · have hv' : v = .int .i64 x.1 := hv
    subst hv'
    have HX : Hid (escS s (i + 1) = some x) := hx
    clear hx hG hS
    go_wp2
    go_ret
    exact Got.ok HX.out (Lib.grownBy_trans hg hg2) rfl hS2

end Go.Proofs.YtbjohedenfindaaGreatDoor

namespace Go.Proofs.YtbjohedenfindaaGreatDoor
open Go.RowKit
set_option linter.unusedVariables false
set_option maxRecDepth 100000

set_option maxHeartbeats 1000000 in
theorem point_bad {W0 w : World} (L : LibC W0) {R i o M : Nat} {s : ByteArray} (h : St W0 w R s i o M) (S : ByteArray) (sg : Int → Bool) (hS : SignsOf S sg) (hc : cpAt s i ≠ 92) (hbad : cpAt s i < 0 ∨ (0 ≤ cpAt s i ∧ sg (cpAt s i) = true)) :
    Calls Tryz.prog 155 #[.pointer (some ⟨R, 0, none⟩), .string S] w fun e w' => Thrown e ∧ w.grownBy w' (some R) := by
  have HT : Hid (Calls Tryz.prog 72 #[.pointer (some ⟨R, 0, none⟩), .int .i32 92] w fun e w' => e = .returned (.bool false) ∧ w.grownBy w' (some R) ∧ St W0 w' R s i o M) := take_no L h 92 hc
  have HN : Hid (∀ w, St W0 w R s i o M → Calls Tryz.prog 105 #[.pointer (some ⟨R, 0, none⟩)] w fun e w' => e = .returned (.tuple #[.int .i32 (cpAt s i), .int .i64 (szAt s i)]) ∧ ∀ row, w.grownBy w' row) := fun w h => next_any L h.env h.at_ h.inn h.text
  have hcr := cp_range s i
  have r16 := h.r16
  have HCon : Hid (∀ c w, 0 ≤ c → c ≤ 1114111 → Env W0 w → Calls Tryz.prog 115 #[.string S, .int .i32 c] w fun e w' => e = .returned (.bool (sg c)) ∧ Below w.heap.size w w') := L.con S sg hS
  clear h hc hS
  generalize cpAt s i = x at *
  generalize szAt s i = z at *
  rcases hbad with hneg | ⟨hpos, hsg⟩
  · go_enter Tryz.func155, Tryz.ntmps155
    go_wp2_with fail
    refine HT.out.mono ?_
    rintro e w1 ⟨rfl, hg, hS1⟩
    go_wp2_with fail
    refine (HN.out _ hS1).mono ?_
    rintro e w2 ⟨rfl, hg2⟩
    have hR2 := hS1.at_.kept (hg2 none)
    obtain ⟨_, d1, _, _⟩ := hR2.cells
    obtain ⟨te, pe, d2⟩ := L.synAt (hS1.env.grown (hg2 _) r16)
    clear hR2 hS1
    go_wp2
    go_region_dies
    all_goals (go_at_call 40; refine (throw_any _ _ _ _).mono ?_; rintro e w' ⟨⟨f, rfl⟩, hg3⟩; exact ⟨rfl, ⟨f, rfl⟩, Lib.grownBy_trans hg (Lib.grownBy_trans (hg2 _) (grownBy_undrew (n := 1) (hg3 _)))⟩)
  · have hnn : ¬ x < 0 := by omega
    have HC : Hid (∀ w, Env W0 w → Calls Tryz.prog 115 #[.string S, .int .i32 x] w fun e w' => e = .returned (.bool true) ∧ Below w.heap.size w w') := fun w hE => by
      have := HCon.out x w hpos hcr.2 hE
      rw [hsg] at this
      exact this
    clear HCon hsg
    go_enter Tryz.func155, Tryz.ntmps155
    go_wp2_with fail
    refine HT.out.mono ?_
    rintro e w1 ⟨rfl, hg, hS1⟩
    go_wp2_with fail
    refine (HN.out _ hS1).mono ?_
    rintro e w2 ⟨rfl, hg2⟩
    have hE2 := hS1.env.grown (hg2 (some R)) r16
    go_wp2_with fail
    refine (HC.out _ hE2).mono ?_
    rintro e w3 ⟨rfl, hb3⟩
    have hg3 := Lib.grownBy_trans (hg2 none) (grownBy_of_below hb3 none)
    have hR3 := hS1.at_.kept hg3
    obtain ⟨_, d1, _, _⟩ := hR3.cells
    obtain ⟨te, pe, d2⟩ := L.synAt (hE2.grown (grownBy_of_below hb3 (some R)) r16)
    clear hR3 hS1 hE2 hb3
    go_wp2
    go_region_dies
    all_goals (go_at_call 40; refine (throw_any _ _ _ _).mono ?_; rintro e w' ⟨⟨f, rfl⟩, hg4⟩; exact ⟨rfl, ⟨f, rfl⟩, Lib.grownBy_trans hg (Lib.grownBy_trans (grownBy_none hg3 _) (grownBy_undrew (n := 1) (hg4 _)))⟩)

set_option maxHeartbeats 1000000 in
theorem point_plain {W0 w : World} (L : LibC W0) {R i o M : Nat} {s : ByteArray} (h : St W0 w R s i o M) (S : ByteArray) (sg : Int → Bool) (hS : SignsOf S sg) (hc : cpAt s i ≠ 92) (hpos : 0 ≤ cpAt s i) (hsg : sg (cpAt s i) = false) :
    Calls Tryz.prog 155 #[.pointer (some ⟨R, 0, none⟩), .string S] w fun e w' => e = .returned (.int .i64 (cpAt s i)) ∧ w.grownBy w' (some R) ∧ St W0 w' R s (i + szAt s i) o M := by
  have HT : Hid (Calls Tryz.prog 72 #[.pointer (some ⟨R, 0, none⟩), .int .i32 92] w fun e w' => e = .returned (.bool false) ∧ w.grownBy w' (some R) ∧ St W0 w' R s i o M) := take_no L h 92 hc
  have HN : Hid (∀ w, St W0 w R s i o M → Calls Tryz.prog 105 #[.pointer (some ⟨R, 0, none⟩)] w fun e w' => e = .returned (.tuple #[.int .i32 (cpAt s i), .int .i64 (szAt s i)]) ∧ ∀ row, w.grownBy w' row) := fun w h => next_any L h.env h.at_ h.inn h.text
  have hcr := cp_range s i
  have r16 := h.r16
  have hz := sz_le s i h.inn
  have hs := h.text
  have HCon : Hid (∀ c w, 0 ≤ c → c ≤ 1114111 → Env W0 w → Calls Tryz.prog 115 #[.string S, .int .i32 c] w fun e w' => e = .returned (.bool (sg c)) ∧ Below w.heap.size w w') := L.con S sg hS
  clear h hc hS
  generalize cpAt s i = x at *
  generalize szAt s i = z at *
  have hnn : ¬ x < 0 := by omega
  have HC : Hid (∀ w, Env W0 w → Calls Tryz.prog 115 #[.string S, .int .i32 x] w fun e w' => e = .returned (.bool false) ∧ Below w.heap.size w w') := fun w hE => by
    have := HCon.out x w hpos hcr.2 hE
    rw [hsg] at this
    exact this
  have hcv : IntKind.i64.wrap x = x := wrap_id _ (by omega) (by omega)
  clear HCon hsg
  go_enter Tryz.func155, Tryz.ntmps155
  go_wp2_with fail
  refine HT.out.mono ?_
  rintro e w1 ⟨rfl, hg, hS1⟩
  go_wp2_with fail
  refine (HN.out _ hS1).mono ?_
  rintro e w2 ⟨rfl, hg2⟩
  have hE2 := hS1.env.grown (hg2 (some R)) r16
  go_wp2_with fail
  refine (HC.out _ hE2).mono ?_
  rintro e w3 ⟨rfl, hb3⟩
  have hg3 := Lib.grownBy_trans (hg2 none) (grownBy_of_below hb3 none)
  have hR3 := hS1.at_.kept hg3
  obtain ⟨_, d1, _, _⟩ := hR3.cells
  have f1 := hR3.frozen 1
  have HR3 : Hid (RdAt w3 R s i o M) := hR3
  have HS1 : Hid (St W0 w1 R s i o M) := hS1
  clear hR3 hE2 hb3 hS1
  go_wp2
  go_ret
  have hg4 := Lib.grownBy_setB (grownBy_none hg3 (some R)) 1 (.int .i64 ((i : Int) + z))
  exact ⟨rfl, Lib.grownBy_trans hg hg4, HS1.out.step hg4 hz (by simpa using HR3.out.set1 (i + z))⟩

theorem ppoint_any {W0 w : World} (L : LibC W0) {R i o M : Nat} {s : ByteArray} (h : St W0 w R s i o M) (S : ByteArray) (sg : Int → Bool) (hS : SignsOf S sg) :
    Calls Tryz.prog 155 #[.pointer (some ⟨R, 0, none⟩), .string S] w (Got W0 w R s o M (pointS s sg i) IntV) := by
  by_cases h1 : cpAt s i = 92
  · have e : pointS s sg i = escS s (i + 1) := by unfold pointS; rw [if_pos h1]
    rw [e]
    exact point_esc L h S h1
  · by_cases h2 : cpAt s i < 0 ∨ sg (cpAt s i) = true
    · have e : pointS s sg i = none := by unfold pointS; rw [if_neg h1, if_pos h2]
      rw [e]
      refine (point_bad L h S sg hS h1 ?_).mono fun e w' ⟨a, b⟩ => ⟨b, a⟩
      rcases h2 with h2 | h2
      · exact Or.inl h2
      · rcases Int.lt_or_le (cpAt s i) 0 with h3 | h3
        · exact Or.inl h3
        · exact Or.inr ⟨h3, h2⟩
    · have e : pointS s sg i = some (cpAt s i, i + szAt s i) := by unfold pointS; rw [if_neg h1, if_neg h2]
      rw [e]
      have h3 : 0 ≤ cpAt s i := by
        rcases Int.lt_or_le (cpAt s i) 0 with h3 | h3
        · exact absurd (Or.inl h3) h2
        · exact h3
      have h4 : sg (cpAt s i) = false := by
        cases h5 : sg (cpAt s i) with
        | false => rfl
        | true => exact absurd (Or.inr h5) h2
      exact (point_plain L h S sg hS h1 h3 h4).mono fun e w' ⟨a, b, c⟩ => ⟨b, _, a, rfl, c⟩

end Go.Proofs.YtbjohedenfindaaGreatDoor

namespace Go.Proofs.YtbjohedenfindaaGreatDoor
open Go.RowKit
set_option linter.unusedVariables false
set_option maxRecDepth 100000

/-- the place that the reader's cell says -/
def placeOf (w : World) (R : Nat) : Nat := match w.cell? ⟨R, 1, none⟩ with
  | some (.int _ q) => q.toNat
  | _ => 0
theorem placeOf_at {w : World} {R i o M : Nat} {s : ByteArray} (h : RdAt w R s i o M) : placeOf w R = i := by
  obtain ⟨_, c1, _, _⟩ := h.cells
  simp [placeOf, c1]
theorem digRun_all (s : ByteArray) : ∀ (f i k : Nat), k < digRun s f i → isDig s (i + k) = true := by
  intro f
  induction f with
  | zero => intro i k h; simp [digRun] at h
  | succ f ih =>
    intro i k h
    unfold digRun at h
    split at h
    · rename_i h1
      cases k with
      | zero => exact h1
      | succ k =>
        have := ih (i + 1) k (by omega)
        rw [show i + (k + 1) = i + 1 + k by omega]; exact this
    · omega
theorem digRun_end (s : ByteArray) : ∀ (f i : Nat), s.size ≤ i + f → isDig s (i + digRun s f i) = false := by
  intro f
  induction f with
  | zero =>
    intro i h
    have h2 : ¬ i < s.size := by omega
    simp [digRun, isDig, h2]
  | succ f ih =>
    intro i h
    unfold digRun
    by_cases h1 : isDig s i = true
    · rw [if_pos h1]
      have := ih (i + 1) (by omega)
      rw [show i + (digRun s f (i + 1) + 1) = i + 1 + digRun s f (i + 1) by omega]; exact this
    · rw [if_neg h1]; simpa using h1
theorem extr_get (s : ByteArray) (i e j : Nat) (he : e ≤ s.size) (hj : i + j < e) : (s.extract i e).get! j = s.get! (i + j) := by
  rw [get_bang, get_bang, ByteArray.data_extract, Array.getElem?_extract]
  have : s.data.size = s.size := rfl
  rw [if_pos (by omega)]
theorem extr_size (s : ByteArray) (i e : Nat) (he : e ≤ s.size) : (s.extract i e).size = e - i := by simp; omega
theorem digVal_same (s T : ByteArray) (i : Nat) : ∀ k, (∀ j, j < k → T.get! j = s.get! (i + j)) → digVal s i k = digVal T 0 k
  | 0, _ => rfl
  | k + 1, h => by
    simp only [digVal]
    rw [digVal_same s T i k (fun j hj => h j (by omega))]
    have := h k (by omega)
    simp [this]
theorem get_elem (s : ByteArray) (k : Nat) (h : k < s.size) : s.get! k = s[k] := by
  rw [get_bang]
  have : k < s.data.size := h
  rw [Array.getElem?_eq_getElem this]
  rfl

set_option maxHeartbeats 4000000 in
theorem count_any {W0 w : World} (L : LibC W0) {R i o M : Nat} {s : ByteArray} (h : St W0 w R s i o M) :
    Calls Tryz.prog 156 #[.pointer (some ⟨R, 0, none⟩)] w (Got W0 w R s o M (countS s i) IntV) := by
  have HS : Hid (St W0 w R s i o M) := h
  have hall : Hid (∀ k, k < digRun s s.size i → isDig s (i + k) = true) := digRun_all s s.size i
  have hend : Hid (isDig s (i + digRun s s.size i) = false) := digRun_end s s.size i (by omega)
  have hle := digRun_le s s.size i h.inn
  have HC : Hid (countS s i = if digRun s s.size i = 0 ∨ (1 < digRun s s.size i ∧ (s.get! i).toNat = 48) ∨ 50 < digVal s i (digRun s s.size i) then none else some (digVal s i (digRun s s.size i), i + digRun s s.size i)) := rfl
  generalize countS s i = res at *
  generalize digRun s s.size i = K at *
  obtain ⟨_, c1, _, _⟩ := h.at_.cells
  have hs := h.text
  clear h
  go_enter Tryz.func156, Tryz.ntmps156
  go_wp2
  go_loopw [44] (fun _ wr => ∃ m : Nat, i ≤ m ∧ m ≤ i + K ∧ w.grownBy wr (some R) ∧ St W0 wr R s m o M) (fun _ wr => s.size - placeOf wr R)
  case atStart => exact ⟨i, Nat.le_refl _, by omega, World.grownBy.refl _ _, HS.out⟩
  case round =>
    obtain ⟨m, hm0, hm1, hgr, hSr⟩ := hrel
    obtain ⟨d0, d1, _, _⟩ := hSr.at_.cells
    have HSr : Hid (St W0 wr R s m o M) := hSr
    by_cases hlt : m < i + K
    · have hd := hall.out (m - i) (by omega)
      rw [show i + (m - i) = m by omega] at hd
      simp [isDig] at hd
      obtain ⟨q1, q2, q3⟩ := hd
      rw [get_elem s m q1] at q2 q3
      have f1 := hSr.at_.frozen 1
      have e1 : decide ((m : Int) < (s.size : Int)) = true := by simp; omega
      have q2' : decide ((48 : Int) ≤ (s[m].toNat : Int)) = true := by simp; omega
      have q3' : decide ((s[m].toNat : Int) ≤ (57 : Int)) = true := by simp; omega
      clear hSr
      go_wp2
      go_quiet (fail)
      go_wp2
      go_roundw
      case rel =>
        have hg2 := Lib.grownBy_setB (w := wr.drewN nq) (grownBy_undrew (n := 0) (⟨hgr.os, hgr.tape, hgr.output, hgr.size, hgr.block⟩ : w.grownBy (wr.drewN nq) (some R))) 1 (.int .i64 ((m : Int) + 1))
        refine ⟨m + 1, by omega, by omega, hg2, ?_⟩
        exact HS.out.step hg2 (by omega) (by simpa using (show RdAt (wr.drewN nq) R s m o M from HSr.out.at_).set1 (m + 1))
      case measure =>
        have h1 : placeOf wr R = m := placeOf_at HSr.out.at_
        have h2 : placeOf ((wr.drewN nq).setCell ⟨R, 1, none⟩ (.int .i64 ((m : Int) + 1))) R = m + 1 := placeOf_at (s := s) (o := o) (M := M) (by simpa using (show RdAt (wr.drewN nq) R s m o M from HSr.out.at_).set1 (m + 1))
        rw [h1, h2]
        omega
    · have hmK : m = i + K := by omega
      subst hmK
      have hnd := hend.out
      have hcase : (¬ i + K < s.size) ∨ ∃ h : i + K < s.size, (s[i + K].toNat < 48 ∨ (48 ≤ s[i + K].toNat ∧ 57 < s[i + K].toNat)) := by
        by_cases h1 : i + K < s.size
        · refine Or.inr ⟨h1, ?_⟩
          simp [isDig, h1] at hnd
          rw [get_elem s _ h1] at hnd
          by_cases h2 : 48 ≤ s[i + K].toNat
          · exact Or.inr ⟨h2, hnd h2⟩
          · exact Or.inl (by omega)
        · exact Or.inl h1
      clear hend hSr
      generalize hmm : i + K = m at *
      have HM : Hid (i + K = m) := hmm
      clear hmm
      have HT1 : Hid ((s.extract i m).size = K) := by show _ = _; rw [extr_size s i m hle]; have := HM.out; omega
      have HT2 : Hid (∀ j, j < K → (s.extract i m).get! j = s.get! (i + j)) := fun j hj => extr_get s i m j hle (by have := HM.out; omega)
      have HT3 : Hid (allDig (s.extract i m)) := fun j hj => by
        have hj' : j < K := by have := HT1.out; omega
        rw [HT2.out j hj']
        have := hall.out j hj'
        simp [isDig] at this
        exact this.2
      have HT4 : Hid (digVal s i K = digVal (s.extract i m) 0 K) := digVal_same s _ i K HT2.out
      obtain ⟨te, pe, d2⟩ := L.synAt HSr.out.env
      obtain ⟨te', pe', d3⟩ := L.bndAt HSr.out.env
      have hKs : K ≤ 1000000 := by have := HM.out; omega
      clear hnd hlt hm1 hall
      have tail : ∀ (T : ByteArray), T = s.extract i m → T.size = K ∧ (∀ j, j < K → T.get! j = s.get! (i + j)) ∧ allDig T ∧ digVal s i K = digVal T 0 T.size := fun T hT => by
        subst hT
        exact ⟨HT1.out, HT2.out, HT3.out, by rw [HT1.out]; exact HT4.out⟩
      have TAIL : Hid (∀ (T : ByteArray), T = s.extract i m → T.size = K ∧ (∀ j, j < K → T.get! j = s.get! (i + j)) ∧ allDig T ∧ digVal s i K = digVal T 0 T.size) := tail
      clear tail HT1 HT2 HT3 HT4
      rcases hcase with h1 | ⟨h1, h2 | ⟨h2, h3⟩⟩
      · have e1 : decide ((m : Int) < (s.size : Int)) = false := by simp; omega
        go_wp2
        go_quiet (fail)
        go_wp2
        go_quiet (fail)
        obtain ⟨T, hT⟩ : ∃ T, T = s.extract i m := ⟨_, rfl⟩
        rw [← hT]
        obtain ⟨t1, t2, t3, t4⟩ := TAIL.out T hT
        have HX : Hid (T = s.extract i m) := hT
        clear hT
        have HT3 : Hid (allDig T) := t3
        have HT4 : Hid (digVal s i K = digVal T 0 T.size) := t4
        have HG : Hid (∀ k, w.grownBy (wr.drewN k) (some R)) := fun k => ⟨hgr.os, hgr.tape, hgr.output, hgr.size, hgr.block⟩
        have hE : Env W0 wr := HSr.out.env
        clear t3 t4
        by_cases hK0 : K = 0
        · have b1 : T = (⟨#[]⟩ : ByteArray) := by
            have : T.data.size = 0 := by have : T.data.size = T.size := rfl; omega
            cases T; simp at this ⊢; exact this
          clear t2 t1
          subst b1
          go_wp2_with fail
          refine (throw_any _ _ _ _).mono ?_
          rintro e w' ⟨⟨f, rfl⟩, hg2⟩
          refine ⟨rfl, Got.bad ?_ (Lib.grownBy_trans (HG.out _) (hg2 _)) ⟨f, rfl⟩⟩
          rw [HC.out, if_pos (Or.inl hK0)]
        · have b0 : ¬ T.toList = [] := by
            rw [Lib.toList_data]
            intro h
            have h2 := congrArg List.length h
            have h3 : T.data.toList.length = T.size := by simp
            simp at h2
            exact hK0 (by rw [← t1, ← h3, h2]; rfl)
          have b1 : T.toList.isEmpty = false := by
            cases h : T.toList with
            | nil => exact absurd h b0
            | cons _ _ => rfl
          have hT0 : T[0]'(by omega) = s.get! i := by
            have := t2 0 (by omega)
            rw [get_elem T 0 (by omega)] at this
            simpa using this
          by_cases hz : 1 < K ∧ (s.get! i).toNat = 48
          · have b2 : (((T[0]'(by omega)).toNat : Int) == 48) = true := by rw [beq_iff_eq, hT0]; omega
            have b3 : (1 : Int) < (T.size : Int) := by omega
            clear t2 hT0
            go_wp2_with fail
            refine (throw_any _ _ _ _).mono ?_
            rintro e w' ⟨⟨f, rfl⟩, hg2⟩
            refine ⟨rfl, Got.bad ?_ (Lib.grownBy_trans (HG.out _) (hg2 _)) ⟨f, rfl⟩⟩
            rw [HC.out, if_pos (Or.inr (Or.inl hz))]
          · have b4 : ¬ (1 : Int) < (T.size : Int) ∨ ((1 : Int) < (T.size : Int) ∧ (((T[0]'(by omega)).toNat : Int) == 48) = false) := by
              by_cases h5 : 1 < K
              · refine Or.inr ⟨by omega, ?_⟩
                rw [beq_eq_false_iff_ne, hT0]
                intro h6
                exact hz ⟨h5, by omega⟩
              · exact Or.inl (by omega)
            clear t2 hT0
            rcases b4 with b5 | ⟨b5, b6⟩
            all_goals
              go_wp2_with fail
              refine (L.ato T _ (hE.drewN _) (by omega) (by omega) HT3.out).mono ?_
              rintro e w5 ⟨⟨n, ev, rfl, hn⟩, hb5⟩
              have hg5 := Lib.grownBy_trans (HG.out _) (grownBy_of_below hb5 (some R))
              have hE5 : Env W0 w5 := hE.grown (R := R) (grownBy_undrew (grownBy_of_below hb5 _)) HS.out.r16
              obtain ⟨te5, pe5, d5⟩ := L.bndAt hE5
              have hR5 : RdAt w5 R s m o M := HSr.out.at_.kept (grownBy_undrew (grownBy_of_below hb5 none))
              have HR5 : Hid (St W0 w5 R s m o M) := HS.out.step hg5 hle hR5
              clear hR5 hb5 hE5
              rcases hn with ⟨rfl, hn⟩ | ⟨t7, p7, rfl, hbig⟩
              · rw [← HT4.out] at hn
                by_cases h50 : 50 < n
                · go_wp2_with fail
                  refine (throw_any _ _ _ _).mono ?_
                  rintro e w' ⟨⟨f, rfl⟩, hg2⟩
                  refine ⟨rfl, Got.bad ?_ (Lib.grownBy_trans hg5 (hg2 _)) ⟨f, rfl⟩⟩
                  rw [HC.out, if_pos (Or.inr (Or.inr (by rw [← hn]; exact h50)))]
                · have HN : Hid (n = digVal s i K) := hn
                  clear hn
                  go_wp2
                  go_ret
                  refine Got.ok (x := (n, m)) ?_ hg5 rfl HR5.out
                  rw [HC.out, ← HN.out, if_neg (fun hh => by rcases hh with hh | hh | hh <;> first | exact hK0 hh | exact hz hh | omega)]
              · rw [← HT4.out] at hbig
                have HB : Hid (50 < digVal s i K) := hbig
                clear hbig
                go_wp2_with fail
                refine (throw_any _ _ _ _).mono ?_
                rintro e w' ⟨⟨f, rfl⟩, hg2⟩
                refine ⟨rfl, Got.bad ?_ (Lib.grownBy_trans hg5 (hg2 _)) ⟨f, rfl⟩⟩
                rw [HC.out, if_pos (Or.inr (Or.inr HB.out))]
      · have e1 : decide ((m : Int) < (s.size : Int)) = true := by simp; omega
        have q2' : decide ((48 : Int) ≤ (s[m].toNat : Int)) = false := by simp; omega
        go_wp2
        go_quiet (fail)
        go_wp2
        go_quiet (fail)
        obtain ⟨T, hT⟩ : ∃ T, T = s.extract i m := ⟨_, rfl⟩
        rw [← hT]
        obtain ⟨t1, t2, t3, t4⟩ := TAIL.out T hT
        have HX : Hid (T = s.extract i m) := hT
        clear hT
        have HT3 : Hid (allDig T) := t3
        have HT4 : Hid (digVal s i K = digVal T 0 T.size) := t4
        have HG : Hid (∀ k, w.grownBy (wr.drewN k) (some R)) := fun k => ⟨hgr.os, hgr.tape, hgr.output, hgr.size, hgr.block⟩
        have hE : Env W0 wr := HSr.out.env
        clear t3 t4
        by_cases hK0 : K = 0
        · have b1 : T = (⟨#[]⟩ : ByteArray) := by
            have : T.data.size = 0 := by have : T.data.size = T.size := rfl; omega
            cases T; simp at this ⊢; exact this
          clear t2 t1
          subst b1
          go_wp2_with fail
          refine (throw_any _ _ _ _).mono ?_
          rintro e w' ⟨⟨f, rfl⟩, hg2⟩
          refine ⟨rfl, Got.bad ?_ (Lib.grownBy_trans (HG.out _) (hg2 _)) ⟨f, rfl⟩⟩
          rw [HC.out, if_pos (Or.inl hK0)]
        · have b0 : ¬ T.toList = [] := by
            rw [Lib.toList_data]
            intro h
            have h2 := congrArg List.length h
            have h3 : T.data.toList.length = T.size := by simp
            simp at h2
            exact hK0 (by rw [← t1, ← h3, h2]; rfl)
          have b1 : T.toList.isEmpty = false := by
            cases h : T.toList with
            | nil => exact absurd h b0
            | cons _ _ => rfl
          have hT0 : T[0]'(by omega) = s.get! i := by
            have := t2 0 (by omega)
            rw [get_elem T 0 (by omega)] at this
            simpa using this
          by_cases hz : 1 < K ∧ (s.get! i).toNat = 48
          · have b2 : (((T[0]'(by omega)).toNat : Int) == 48) = true := by rw [beq_iff_eq, hT0]; omega
            have b3 : (1 : Int) < (T.size : Int) := by omega
            clear t2 hT0
            go_wp2_with fail
            refine (throw_any _ _ _ _).mono ?_
            rintro e w' ⟨⟨f, rfl⟩, hg2⟩
            refine ⟨rfl, Got.bad ?_ (Lib.grownBy_trans (HG.out _) (hg2 _)) ⟨f, rfl⟩⟩
            rw [HC.out, if_pos (Or.inr (Or.inl hz))]
          · have b4 : ¬ (1 : Int) < (T.size : Int) ∨ ((1 : Int) < (T.size : Int) ∧ (((T[0]'(by omega)).toNat : Int) == 48) = false) := by
              by_cases h5 : 1 < K
              · refine Or.inr ⟨by omega, ?_⟩
                rw [beq_eq_false_iff_ne, hT0]
                intro h6
                exact hz ⟨h5, by omega⟩
              · exact Or.inl (by omega)
            clear t2 hT0
            rcases b4 with b5 | ⟨b5, b6⟩
            all_goals
              go_wp2_with fail
              refine (L.ato T _ (hE.drewN _) (by omega) (by omega) HT3.out).mono ?_
              rintro e w5 ⟨⟨n, ev, rfl, hn⟩, hb5⟩
              have hg5 := Lib.grownBy_trans (HG.out _) (grownBy_of_below hb5 (some R))
              have hE5 : Env W0 w5 := hE.grown (R := R) (grownBy_undrew (grownBy_of_below hb5 _)) HS.out.r16
              obtain ⟨te5, pe5, d5⟩ := L.bndAt hE5
              have hR5 : RdAt w5 R s m o M := HSr.out.at_.kept (grownBy_undrew (grownBy_of_below hb5 none))
              have HR5 : Hid (St W0 w5 R s m o M) := HS.out.step hg5 hle hR5
              clear hR5 hb5 hE5
              rcases hn with ⟨rfl, hn⟩ | ⟨t7, p7, rfl, hbig⟩
              · rw [← HT4.out] at hn
                by_cases h50 : 50 < n
                · go_wp2_with fail
                  refine (throw_any _ _ _ _).mono ?_
                  rintro e w' ⟨⟨f, rfl⟩, hg2⟩
                  refine ⟨rfl, Got.bad ?_ (Lib.grownBy_trans hg5 (hg2 _)) ⟨f, rfl⟩⟩
                  rw [HC.out, if_pos (Or.inr (Or.inr (by rw [← hn]; exact h50)))]
                · have HN : Hid (n = digVal s i K) := hn
                  clear hn
                  go_wp2
                  go_ret
                  refine Got.ok (x := (n, m)) ?_ hg5 rfl HR5.out
                  rw [HC.out, ← HN.out, if_neg (fun hh => by rcases hh with hh | hh | hh <;> first | exact hK0 hh | exact hz hh | omega)]
              · rw [← HT4.out] at hbig
                have HB : Hid (50 < digVal s i K) := hbig
                clear hbig
                go_wp2_with fail
                refine (throw_any _ _ _ _).mono ?_
                rintro e w' ⟨⟨f, rfl⟩, hg2⟩
                refine ⟨rfl, Got.bad ?_ (Lib.grownBy_trans hg5 (hg2 _)) ⟨f, rfl⟩⟩
                rw [HC.out, if_pos (Or.inr (Or.inr HB.out))]
      · have e1 : decide ((m : Int) < (s.size : Int)) = true := by simp; omega
        have q2' : decide ((48 : Int) ≤ (s[m].toNat : Int)) = true := by simp; omega
        have q3' : decide ((s[m].toNat : Int) ≤ (57 : Int)) = false := by simp; omega
        go_wp2
        go_quiet (fail)
        go_wp2
        go_quiet (fail)
        obtain ⟨T, hT⟩ : ∃ T, T = s.extract i m := ⟨_, rfl⟩
        rw [← hT]
        obtain ⟨t1, t2, t3, t4⟩ := TAIL.out T hT
        have HX : Hid (T = s.extract i m) := hT
        clear hT
        have HT3 : Hid (allDig T) := t3
        have HT4 : Hid (digVal s i K = digVal T 0 T.size) := t4
        have HG : Hid (∀ k, w.grownBy (wr.drewN k) (some R)) := fun k => ⟨hgr.os, hgr.tape, hgr.output, hgr.size, hgr.block⟩
        have hE : Env W0 wr := HSr.out.env
        clear t3 t4
        by_cases hK0 : K = 0
        · have b1 : T = (⟨#[]⟩ : ByteArray) := by
            have : T.data.size = 0 := by have : T.data.size = T.size := rfl; omega
            cases T; simp at this ⊢; exact this
          clear t2 t1
          subst b1
          go_wp2_with fail
          refine (throw_any _ _ _ _).mono ?_
          rintro e w' ⟨⟨f, rfl⟩, hg2⟩
          refine ⟨rfl, Got.bad ?_ (Lib.grownBy_trans (HG.out _) (hg2 _)) ⟨f, rfl⟩⟩
          rw [HC.out, if_pos (Or.inl hK0)]
        · have b0 : ¬ T.toList = [] := by
            rw [Lib.toList_data]
            intro h
            have h2 := congrArg List.length h
            have h3 : T.data.toList.length = T.size := by simp
            simp at h2
            exact hK0 (by rw [← t1, ← h3, h2]; rfl)
          have b1 : T.toList.isEmpty = false := by
            cases h : T.toList with
            | nil => exact absurd h b0
            | cons _ _ => rfl
          have hT0 : T[0]'(by omega) = s.get! i := by
            have := t2 0 (by omega)
            rw [get_elem T 0 (by omega)] at this
            simpa using this
          by_cases hz : 1 < K ∧ (s.get! i).toNat = 48
          · have b2 : (((T[0]'(by omega)).toNat : Int) == 48) = true := by rw [beq_iff_eq, hT0]; omega
            have b3 : (1 : Int) < (T.size : Int) := by omega
            clear t2 hT0
            go_wp2_with fail
            refine (throw_any _ _ _ _).mono ?_
            rintro e w' ⟨⟨f, rfl⟩, hg2⟩
            refine ⟨rfl, Got.bad ?_ (Lib.grownBy_trans (HG.out _) (hg2 _)) ⟨f, rfl⟩⟩
            rw [HC.out, if_pos (Or.inr (Or.inl hz))]
          · have b4 : ¬ (1 : Int) < (T.size : Int) ∨ ((1 : Int) < (T.size : Int) ∧ (((T[0]'(by omega)).toNat : Int) == 48) = false) := by
              by_cases h5 : 1 < K
              · refine Or.inr ⟨by omega, ?_⟩
                rw [beq_eq_false_iff_ne, hT0]
                intro h6
                exact hz ⟨h5, by omega⟩
              · exact Or.inl (by omega)
            clear t2 hT0
            rcases b4 with b5 | ⟨b5, b6⟩
            all_goals
              go_wp2_with fail
              refine (L.ato T _ (hE.drewN _) (by omega) (by omega) HT3.out).mono ?_
              rintro e w5 ⟨⟨n, ev, rfl, hn⟩, hb5⟩
              have hg5 := Lib.grownBy_trans (HG.out _) (grownBy_of_below hb5 (some R))
              have hE5 : Env W0 w5 := hE.grown (R := R) (grownBy_undrew (grownBy_of_below hb5 _)) HS.out.r16
              obtain ⟨te5, pe5, d5⟩ := L.bndAt hE5
              have hR5 : RdAt w5 R s m o M := HSr.out.at_.kept (grownBy_undrew (grownBy_of_below hb5 none))
              have HR5 : Hid (St W0 w5 R s m o M) := HS.out.step hg5 hle hR5
              clear hR5 hb5 hE5
              rcases hn with ⟨rfl, hn⟩ | ⟨t7, p7, rfl, hbig⟩
              · rw [← HT4.out] at hn
                by_cases h50 : 50 < n
                · go_wp2_with fail
                  refine (throw_any _ _ _ _).mono ?_
                  rintro e w' ⟨⟨f, rfl⟩, hg2⟩
                  refine ⟨rfl, Got.bad ?_ (Lib.grownBy_trans hg5 (hg2 _)) ⟨f, rfl⟩⟩
                  rw [HC.out, if_pos (Or.inr (Or.inr (by rw [← hn]; exact h50)))]
                · have HN : Hid (n = digVal s i K) := hn
                  clear hn
                  go_wp2
                  go_ret
                  refine Got.ok (x := (n, m)) ?_ hg5 rfl HR5.out
                  rw [HC.out, ← HN.out, if_neg (fun hh => by rcases hh with hh | hh | hh <;> first | exact hK0 hh | exact hz hh | omega)]
              · rw [← HT4.out] at hbig
                have HB : Hid (50 < digVal s i K) := hbig
                clear hbig
                go_wp2_with fail
                refine (throw_any _ _ _ _).mono ?_
                rintro e w' ⟨⟨f, rfl⟩, hg2⟩
                refine ⟨rfl, Got.bad ?_ (Lib.grownBy_trans hg5 (hg2 _)) ⟨f, rfl⟩⟩
                rw [HC.out, if_pos (Or.inr (Or.inr HB.out))]

end Go.Proofs.YtbjohedenfindaaGreatDoor
