/- Texts of the proof, put together: PPt, PCnt. -/
import Derived.Test.YtbjohedenfindaaGreatDoorMg11
namespace Go.Proofs.YtbjohedenfindaaGreatDoor
open Go.RowKit
set_option linter.unusedVariables false
set_option maxRecDepth 100000

set_option maxHeartbeats 4000000 in
theorem esc_hex_good {W0 w : World} (L : LibC W0) {R i o M : Nat} {s : ByteArray} (h : St W0 w R s i o M) (hu : cpAt s i = 117) (hb : cpAt s (i + 1) = 123) (D : ByteArray) (p : Int) (hDs : D.size ≤ 6) (hp0 : 0 ≤ p) (hp : p ≤ 1114111) (hend : i + 2 + D.size + 1 ≤ s.size)
    (hcut : ∀ w, Env W0 w → Calls Tryz.prog 181 #[.string (s.extract (i + 2) s.size), .string ⟨#[125]⟩] w fun e w' => (∃ b, e = .returned (.tuple #[.string D, .string b, .bool true])) ∧ Below w.heap.size w w')
    (hpar : ∀ w, Env W0 w → Calls Tryz.prog 182 #[.string D, .int .i64 16, .int .i64 64] w fun e w' => e = .returned (.tuple #[.int .u64 p, .nilIface]) ∧ Below w.heap.size w w') :
    Calls Tryz.prog 171 #[.pointer (some ⟨R, 0, none⟩)] w fun e w' => e = .returned (.int .i64 p) ∧ w.grownBy w' (some R) ∧ St W0 w' R s (i + 2 + D.size + 1) o M := by
  have HS : Hid (St W0 w R s i o M) := h
  have hn := next_any L h.env h.at_ h.inn h.text
  obtain ⟨hlt, hz⟩ := cp_eq_size hu (by omega) (by omega)
  obtain ⟨hlt2, hz2⟩ := cp_eq_size hb (by omega) (by omega)
  obtain ⟨_, c1, _, c3⟩ := h.at_.cells
  rw [hu, hz] at hn
  have HN : Hid (Calls Tryz.prog 105 #[.pointer (some ⟨R, 0, none⟩)] w fun e w' => e = .returned (.tuple #[.int .i32 117, .int .i64 1]) ∧ ∀ row, w.grownBy w' row) := hn
  have HT : Hid (∀ w2, St W0 w2 R s (i + 1) o M → Calls Tryz.prog 72 #[.pointer (some ⟨R, 0, none⟩), .int .i32 123] w2 fun e w' => e = .returned (.bool true) ∧ w2.grownBy w' (some R) ∧ St W0 w' R s (i + 2) o M) := fun w2 h2 => by
    have := take_yes L h2 123 hb
    rw [hz2] at this
    exact this
  have HC : Hid (∀ w, Env W0 w → Calls Tryz.prog 181 #[.string (s.extract (i + 2) s.size), .string ⟨#[125]⟩] w fun e w' => (∃ b, e = .returned (.tuple #[.string D, .string b, .bool true])) ∧ Below w.heap.size w w') := hcut
  have HPr : Hid (∀ w, Env W0 w → Calls Tryz.prog 182 #[.string D, .int .i64 16, .int .i64 64] w fun e w' => e = .returned (.tuple #[.int .u64 p, .nilIface]) ∧ Below w.heap.size w w') := hpar
  have hs := h.text
  clear hn h hz hu hb hz2 hcut hpar
  go_enter Tryz.func171, Tryz.ntmps171
  go_wp2_with fail
  refine HN.out.mono ?_
  rintro e w1 ⟨rfl, hg⟩
  have hR1 := HS.out.at_.kept (hg none)
  obtain ⟨_, d1, _, d3⟩ := hR1.cells
  have f1 := hR1.frozen 1
  have hg2 : w.grownBy (w1.setCell ⟨R, 1, none⟩ (.int .i64 ((i : Int) + 1))) (some R) := Lib.grownBy_setB (hg _) 1 _
  have hS2 : St W0 (w1.setCell ⟨R, 1, none⟩ (.int .i64 ((i : Int) + 1))) R s (i + 1) o M := HS.out.step hg2 (by omega) (by simpa using hR1.set1 (i + 1))
  obtain ⟨n, D', hn, hown, hD⟩ := hS2.esc
  have hk : keyOf Tryz.prog 21 (.int .i32 117) = some (.int .i32 117) := Maps.keyOf_int_mk Tryz.underlying21 (WalkArith.wf_i32 (by constructor <;> omega))
  have HB : Hid (Maps.has D' (.int .i32 117) = false) := by show _ = _; rw [(hD 117).1, esc_117]; rfl
  have HS2 : Hid (St W0 (w1.setCell ⟨R, 1, none⟩ (.int .i64 ((i : Int) + 1))) R s (i + 1) o M) := hS2
  clear hR1 hD hS2
  go_wp2_with (at_lookup; refine wpList_lookup_own_ok_int _ rfl _ _ 88 rfl 21 3 .i64 Tryz.lawRune Tryz.underlying88 Tryz.underlying3 (Tryz.zeroInt _) M n D' rfl hown _ _ rfl hk ?_; intro c hat hwc; rw [HB.out])
  refine (HT.out _ HS2.out).mono ?_
  rintro e w3 ⟨rfl, hg3, hS3⟩
  obtain ⟨g0, g1, _, _⟩ := hS3.at_.cells
  have hE3 := hS3.env
  have HS3 : Hid (St W0 w3 R s (i + 2) o M) := hS3
  have hg13 := Lib.grownBy_trans hg2 hg3
  have e2 : (((i + 2 : Nat) : Int)) = (i : Int) + 2 := by omega
  clear hown hS3 d1 d3 c1 c3 f1 hg hg3 hg2 HT HN HB HS2 hk hat hwc
  go_wp2_with fail
  go_region_with (go_at_call 181; refine (HC.out _ ?_).mono ?_; exact hE3.drewN _; rintro e w4 ⟨⟨b, rfl⟩, hb4⟩)
  all_goals
    have hE4 : Env W0 w4 := hE3.grown (R := R) (grownBy_undrew (grownBy_of_below hb4 _)) HS.out.r16
    have hg4 := (grownBy_undrew (grownBy_of_below hb4 none))
    go_wp2_with fail
    refine (HPr.out _ hE4).mono ?_
    rintro e w5 ⟨rfl, hb5⟩
    have hg5 := Lib.grownBy_trans hg4 (grownBy_of_below hb5 none)
    have hR5 := HS3.out.at_.kept hg5
    obtain ⟨_, k1, _, _⟩ := hR5.cells
    have kf := hR5.frozen 1
    have HR5 : Hid (RdAt w5 R s (i + 2) o M) := hR5
    have hnb : ¬ (1114111 : Int) < p := by omega
    have hn6 : ¬ (6 : Int) < (D.size : Int) := by omega
    have hcv : IntKind.i64.wrap p = p := wrap_id _ (by omega) (by omega)
    clear hE4 hE3 hb4 hb5 hg4 HC HPr g0 g1 hR5
    go_wp2
    go_ret
    have hgz := Lib.grownBy_setB (Lib.grownBy_trans hg13 (grownBy_none hg5 (some R))) 1 (.int .i64 ((i : Int) + 2 + ((D.size : Int) + 1)))
    refine ⟨rfl, hgz, HS.out.step hgz hend ?_⟩
    have := HR5.out.set1 (i + 2 + D.size + 1)
    have e3 : ((i + 2 + D.size + 1 : Nat) : Int) = (i : Int) + 2 + ((D.size : Int) + 1) := by omega
    rw [e3] at this
    exact this

theorem escape_any {W0 w : World} (L : LibC W0) {R i o M : Nat} {s : ByteArray} (h : St W0 w R s i o M) :
    Calls Tryz.prog 171 #[.pointer (some ⟨R, 0, none⟩)] w (Got W0 w R s o M (escS s i) IntV) := by
  by_cases hb : cpAt s i = -2
  · have e : escS s i = none := by
      unfold escS
      rw [hb]
      have : escOf (-2) = none := by decide
      rw [this]; simp
    rw [e]
    exact (esc_broken L h hb).mono fun e w' ⟨a, b⟩ => ⟨b, a⟩
  · cases hp : escOf (cpAt s i) with
    | some p =>
      have e : escS s i = some (p, i + 1) := by unfold escS; rw [hp]
      rw [e]
      exact (esc_known L h p hp).mono fun e w' ⟨a, b, c⟩ => ⟨b, _, a, rfl, c⟩
    | none =>
      by_cases hu : cpAt s i = 117
      · by_cases hv : cpAt s (i + 1) = 123
        · have e : escS s i = hexS s (i + 2) := by unfold escS; rw [hp]; simp [hu, hv]
          rw [e]
          have h2 := (cp_eq_size hv (by omega) (by omega)).1
          have htx := h.text
          have hTs : (s.extract (i + 2) s.size).size = s.size - (i + 2) := by simp
          cases hx : hexS s (i + 2) with
          | some x =>
            obtain ⟨p, j⟩ := x
            obtain ⟨k, h3, h4, h5, h6, h7, h8, h9, h10, h11⟩ := hexS_good (by omega) hx
            have hk := extract0_size (s.extract (i + 2) s.size) k (by have := h3.1; omega)
            refine (esc_hex_good L h hu hv ((s.extract (i + 2) s.size).extract 0 k) p (by omega) h11 h10 (by omega) (fun w hE => L.cutT _ w k hE (by omega) h3) (fun w hE => ?_)).mono ?_
            · have := L.parT ((s.extract (i + 2) s.size).extract 0 k) w hE (by omega) (by omega) h6
              rw [hk, h7] at this
              exact this
            · rintro e w' ⟨a, b, c⟩
              refine ⟨b, _, a, rfl, ?_⟩
              rw [hk] at c
              rw [h8]
              exact c
          | none =>
            rcases first_or (s.extract (i + 2) s.size) 125 with ⟨k, hk⟩ | hno
            · have hks := extract0_size (s.extract (i + 2) s.size) k (by have := hk.1; omega)
              have hkl := hk.1
              by_cases hk6 : 6 < k
              · refine (esc_hex_bad L h hu hv _ true (by omega) (fun w hE => L.cutT _ w k hE (by omega) hk) (fun w hE => (L.parL _ w hE (by omega)).mono ?_)).mono fun e w' ⟨a, b⟩ => ⟨b, a⟩
                rintro e w' ⟨⟨n, v, rfl, hv⟩, hb⟩
                exact ⟨⟨n, v, rfl, Or.inr (Or.inl ⟨rfl, by omega, hv⟩)⟩, hb⟩
              · by_cases hgood : 1 ≤ k ∧ allHex ((s.extract (i + 2) s.size).extract 0 k)
                · have hbig : 1114111 < hexVal ((s.extract (i + 2) s.size).extract 0 k) 0 k := by
                    rcases Int.lt_or_le 1114111 (hexVal ((s.extract (i + 2) s.size).extract 0 k) 0 k) with h | h
                    · exact h
                    · have := hexS_of (by omega) hk hgood.1 (by omega) hgood.2 h
                      rw [hx] at this
                      simp at this
                  refine (esc_hex_bad L h hu hv _ true (by omega) (fun w hE => L.cutT _ w k hE (by omega) hk) (fun w hE => (L.parT _ w hE (by omega) (by omega) hgood.2).mono ?_)).mono fun e w' ⟨a, b⟩ => ⟨b, a⟩
                  rintro e w' ⟨rfl, hb⟩
                  exact ⟨⟨_, _, rfl, Or.inr (Or.inr (Or.inr ⟨rfl, by omega, rfl, by rw [hks]; exact hbig⟩))⟩, hb⟩
                · refine (esc_hex_bad L h hu hv _ true (by omega) (fun w hE => L.cutT _ w k hE (by omega) hk) (fun w hE => (L.parF _ w hE (by omega) ?_).mono ?_)).mono fun e w' ⟨a, b⟩ => ⟨b, a⟩
                  · by_cases h1 : 1 ≤ k
                    · exact Or.inr fun hh => hgood ⟨h1, hh⟩
                    · exact Or.inl (by omega)
                  · rintro e w' ⟨⟨n, te, pe, rfl⟩, hb⟩
                    exact ⟨⟨_, _, rfl, Or.inr (Or.inr (Or.inl ⟨rfl, by omega, te, pe, rfl⟩))⟩, hb⟩
            · refine (esc_hex_bad L h hu hv _ false (by omega) (fun w hE => L.cutF _ w hE (by omega) hno) (fun w hE => (L.parL _ w hE (by omega)).mono ?_)).mono fun e w' ⟨a, b⟩ => ⟨b, a⟩
              rintro e w' ⟨⟨n, v, rfl, hv⟩, hb⟩
              exact ⟨⟨n, v, rfl, Or.inl ⟨rfl, hv⟩⟩, hb⟩
        · have e : escS s i = none := by unfold escS; rw [hp]; simp [hu, hv]
          rw [e]
          exact (esc_u_no L h hu hv).mono fun e w' ⟨a, b⟩ => ⟨b, a⟩
      · have e : escS s i = none := by unfold escS; rw [hp]; simp [hu]
        rw [e]
        exact (esc_other L h hp hb hu).mono fun e w' ⟨a, b⟩ => ⟨b, a⟩

set_option maxHeartbeats 1000000 in
theorem point_esc {W0 w : World} (L : LibC W0) {R i o M : Nat} {s : ByteArray} (h : St W0 w R s i o M) (S : ByteArray) (hc : cpAt s i = 92) :
    Calls Tryz.prog 155 #[.pointer (some ⟨R, 0, none⟩), .string S] w (Got W0 w R s o M (escS s (i + 1)) IntV) := by
  obtain ⟨hlt, hz⟩ := cp_eq_size hc (by omega) (by omega)
  have HT : Hid (Calls Tryz.prog 72 #[.pointer (some ⟨R, 0, none⟩), .int .i32 92] w fun e w' => e = .returned (.bool true) ∧ w.grownBy w' (some R) ∧ St W0 w' R s (i + 1) o M) := by
    have := take_yes L h 92 hc
    rw [hz] at this
    exact this
  clear h hc hz
  go_enter Tryz.func155, Tryz.ntmps155
  go_wp2_with fail
  refine HT.out.mono ?_
  rintro e w1 ⟨rfl, hg, hS⟩
  go_wp2_with fail
  refine (escape_any L hS).mono ?_
  intro e w2 hG
  obtain ⟨hg2, ⟨hx, f, rfl⟩ | ⟨x, v, hx, rfl, hv, hS2⟩⟩ := hG.both
  · exact ⟨rfl, Got.bad hx (Lib.grownBy_trans hg hg2) ⟨f, rfl⟩⟩
  · have hv' : v = .int .i64 x.1 := hv
    subst hv'
    have HX : Hid (escS s (i + 1) = some x) := hx
    clear hx hG hS
    go_wp2
    go_ret
    exact Got.ok HX.out (Lib.grownBy_trans hg hg2) rfl hS2

end Go.Proofs.YtbjohedenfindaaGreatDoor

namespace Go.Proofs.YtbjohedenfindaaGreatDoor
open Go.RowKit
set_option linter.unusedVariables false
set_option maxRecDepth 100000

set_option maxHeartbeats 1000000 in
theorem point_bad {W0 w : World} (L : LibC W0) {R i o M : Nat} {s : ByteArray} (h : St W0 w R s i o M) (S : ByteArray) (sg : Int → Bool) (hS : SignsOf S sg) (hc : cpAt s i ≠ 92) (hbad : cpAt s i < 0 ∨ (0 ≤ cpAt s i ∧ sg (cpAt s i) = true)) :
    Calls Tryz.prog 155 #[.pointer (some ⟨R, 0, none⟩), .string S] w fun e w' => Thrown e ∧ w.grownBy w' (some R) := by
  have HT : Hid (Calls Tryz.prog 72 #[.pointer (some ⟨R, 0, none⟩), .int .i32 92] w fun e w' => e = .returned (.bool false) ∧ w.grownBy w' (some R) ∧ St W0 w' R s i o M) := take_no L h 92 hc
  have HN : Hid (∀ w, St W0 w R s i o M → Calls Tryz.prog 105 #[.pointer (some ⟨R, 0, none⟩)] w fun e w' => e = .returned (.tuple #[.int .i32 (cpAt s i), .int .i64 (szAt s i)]) ∧ ∀ row, w.grownBy w' row) := fun w h => next_any L h.env h.at_ h.inn h.text
  have hcr := cp_range s i
  have r16 := h.r16
  have HCon : Hid (∀ c w, 0 ≤ c → c ≤ 1114111 → Env W0 w → Calls Tryz.prog 115 #[.string S, .int .i32 c] w fun e w' => e = .returned (.bool (sg c)) ∧ Below w.heap.size w w') := L.con S sg hS
  clear h hc hS
  generalize cpAt s i = x at *
  generalize szAt s i = z at *
  rcases hbad with hneg | ⟨hpos, hsg⟩
  · go_enter Tryz.func155, Tryz.ntmps155
    go_wp2_with fail
    refine HT.out.mono ?_
    rintro e w1 ⟨rfl, hg, hS1⟩
    go_wp2_with fail
    refine (HN.out _ hS1).mono ?_
    rintro e w2 ⟨rfl, hg2⟩
    have hR2 := hS1.at_.kept (hg2 none)
    obtain ⟨_, d1, _, _⟩ := hR2.cells
    obtain ⟨te, pe, d2⟩ := L.synAt (hS1.env.grown (hg2 _) r16)
    clear hR2 hS1
    go_wp2
    go_region_dies
    all_goals (go_at_call 40; refine (throw_any _ _ _ _).mono ?_; rintro e w' ⟨⟨f, rfl⟩, hg3⟩; exact ⟨rfl, ⟨f, rfl⟩, Lib.grownBy_trans hg (Lib.grownBy_trans (hg2 _) (grownBy_undrew (n := 1) (hg3 _)))⟩)
  · have hnn : ¬ x < 0 := by omega
    have HC : Hid (∀ w, Env W0 w → Calls Tryz.prog 115 #[.string S, .int .i32 x] w fun e w' => e = .returned (.bool true) ∧ Below w.heap.size w w') := fun w hE => by
      have := HCon.out x w hpos hcr.2 hE
      rw [hsg] at this
      exact this
    clear HCon hsg
    go_enter Tryz.func155, Tryz.ntmps155
    go_wp2_with fail
    refine HT.out.mono ?_
    rintro e w1 ⟨rfl, hg, hS1⟩
    go_wp2_with fail
    refine (HN.out _ hS1).mono ?_
    rintro e w2 ⟨rfl, hg2⟩
    have hE2 := hS1.env.grown (hg2 (some R)) r16
    go_wp2_with fail
    refine (HC.out _ hE2).mono ?_
    rintro e w3 ⟨rfl, hb3⟩
    have hg3 := Lib.grownBy_trans (hg2 none) (grownBy_of_below hb3 none)
    have hR3 := hS1.at_.kept hg3
    obtain ⟨_, d1, _, _⟩ := hR3.cells
    obtain ⟨te, pe, d2⟩ := L.synAt (hE2.grown (grownBy_of_below hb3 (some R)) r16)
    clear hR3 hS1 hE2 hb3
    go_wp2
    go_region_dies
    all_goals (go_at_call 40; refine (throw_any _ _ _ _).mono ?_; rintro e w' ⟨⟨f, rfl⟩, hg4⟩; exact ⟨rfl, ⟨f, rfl⟩, Lib.grownBy_trans hg (Lib.grownBy_trans (grownBy_none hg3 _) (grownBy_undrew (n := 1) (hg4 _)))⟩)

set_option maxHeartbeats 1000000 in
theorem point_plain {W0 w : World} (L : LibC W0) {R i o M : Nat} {s : ByteArray} (h : St W0 w R s i o M) (S : ByteArray) (sg : Int → Bool) (hS : SignsOf S sg) (hc : cpAt s i ≠ 92) (hpos : 0 ≤ cpAt s i) (hsg : sg (cpAt s i) = false) :
    Calls Tryz.prog 155 #[.pointer (some ⟨R, 0, none⟩), .string S] w fun e w' => e = .returned (.int .i64 (cpAt s i)) ∧ w.grownBy w' (some R) ∧ St W0 w' R s (i + szAt s i) o M := by
  have HT : Hid (Calls Tryz.prog 72 #[.pointer (some ⟨R, 0, none⟩), .int .i32 92] w fun e w' => e = .returned (.bool false) ∧ w.grownBy w' (some R) ∧ St W0 w' R s i o M) := take_no L h 92 hc
  have HN : Hid (∀ w, St W0 w R s i o M → Calls Tryz.prog 105 #[.pointer (some ⟨R, 0, none⟩)] w fun e w' => e = .returned (.tuple #[.int .i32 (cpAt s i), .int .i64 (szAt s i)]) ∧ ∀ row, w.grownBy w' row) := fun w h => next_any L h.env h.at_ h.inn h.text
  have hcr := cp_range s i
  have r16 := h.r16
  have hz := sz_le s i h.inn
  have hs := h.text
  have HCon : Hid (∀ c w, 0 ≤ c → c ≤ 1114111 → Env W0 w → Calls Tryz.prog 115 #[.string S, .int .i32 c] w fun e w' => e = .returned (.bool (sg c)) ∧ Below w.heap.size w w') := L.con S sg hS
  clear h hc hS
  generalize cpAt s i = x at *
  generalize szAt s i = z at *
  have hnn : ¬ x < 0 := by omega
  have HC : Hid (∀ w, Env W0 w → Calls Tryz.prog 115 #[.string S, .int .i32 x] w fun e w' => e = .returned (.bool false) ∧ Below w.heap.size w w') := fun w hE => by
    have := HCon.out x w hpos hcr.2 hE
    rw [hsg] at this
    exact this
  have hcv : IntKind.i64.wrap x = x := wrap_id _ (by omega) (by omega)
  clear HCon hsg
  go_enter Tryz.func155, Tryz.ntmps155
  go_wp2_with fail
  refine HT.out.mono ?_
  rintro e w1 ⟨rfl, hg, hS1⟩
  go_wp2_with fail
  refine (HN.out _ hS1).mono ?_
  rintro e w2 ⟨rfl, hg2⟩
  have hE2 := hS1.env.grown (hg2 (some R)) r16
  go_wp2_with fail
  refine (HC.out _ hE2).mono ?_
  rintro e w3 ⟨rfl, hb3⟩
  have hg3 := Lib.grownBy_trans (hg2 none) (grownBy_of_below hb3 none)
  have hR3 := hS1.at_.kept hg3
  obtain ⟨_, d1, _, _⟩ := hR3.cells
  have f1 := hR3.frozen 1
  have HR3 : Hid (RdAt w3 R s i o M) := hR3
  have HS1 : Hid (St W0 w1 R s i o M) := hS1
  clear hR3 hE2 hb3 hS1
  go_wp2
  go_ret
  have hg4 := Lib.grownBy_setB (grownBy_none hg3 (some R)) 1 (.int .i64 ((i : Int) + z))
  exact ⟨rfl, Lib.grownBy_trans hg hg4, HS1.out.step hg4 hz (by simpa using HR3.out.set1 (i + z))⟩

theorem ppoint_any {W0 w : World} (L : LibC W0) {R i o M : Nat} {s : ByteArray} (h : St W0 w R s i o M) (S : ByteArray) (sg : Int → Bool) (hS : SignsOf S sg) :
    Calls Tryz.prog 155 #[.pointer (some ⟨R, 0, none⟩), .string S] w (Got W0 w R s o M (pointS s sg i) IntV) := by
  by_cases h1 : cpAt s i = 92
  · have e : pointS s sg i = escS s (i + 1) := by unfold pointS; rw [if_pos h1]
    rw [e]
    exact point_esc L h S h1
  · by_cases h2 : cpAt s i < 0 ∨ sg (cpAt s i) = true
    · have e : pointS s sg i = none := by unfold pointS; rw [if_neg h1, if_pos h2]
      rw [e]
      refine (point_bad L h S sg hS h1 ?_).mono fun e w' ⟨a, b⟩ => ⟨b, a⟩
      rcases h2 with h2 | h2
      · exact Or.inl h2
      · rcases Int.lt_or_le (cpAt s i) 0 with h3 | h3
        · exact Or.inl h3
        · exact Or.inr ⟨h3, h2⟩
    · have e : pointS s sg i = some (cpAt s i, i + szAt s i) := by unfold pointS; rw [if_neg h1, if_neg h2]
      rw [e]
      have h3 : 0 ≤ cpAt s i := by
        rcases Int.lt_or_le (cpAt s i) 0 with h3 | h3
        · exact absurd (Or.inl h3) h2
        · exact h3
      have h4 : sg (cpAt s i) = false := by
        cases h5 : sg (cpAt s i) with
        | false => rfl
        | true => exact absurd (Or.inr h5) h2
      exact (point_plain L h S sg hS h1 h3 h4).mono fun e w' ⟨a, b, c⟩ => ⟨b, _, a, rfl, c⟩

end Go.Proofs.YtbjohedenfindaaGreatDoor
