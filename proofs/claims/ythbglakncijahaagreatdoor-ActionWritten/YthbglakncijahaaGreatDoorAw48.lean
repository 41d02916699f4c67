/- Texts of the proof, put together: ALaw. -/
import Derived.Test.YthbglakncijahaaGreatDoorAw45
import Derived.Test.YthbglakncijahaaGreatDoorAw36
import Derived.Test.YthbglakncijahaaGreatDoorAw47
namespace Go.Proofs.YthbglakncijahaaGreatDoor
open Go.RowKit
set_option linter.unusedVariables false
set_option maxRecDepth 100000

set_option maxHeartbeats 4000000 in
theorem told_err (w : World) (a : Nat → Addr) (h : Errs w a) (i : Nat) (hi : i < 7) :
    Calls Tryz.prog 11 #[.iface 294 (.pointer (some (a i))), .iface 294 (.pointer (some (a i))), .int .i64 (-1)] w fun e w' => e = .returned (.bool true) ∧ Below w.heap.size w w' := by
  have HD : Hid (∀ w', Below w.heap.size w w' → Calls Tryz.prog 29 #[.iface 294 (.pointer (some (a i)))] w' fun e w'' => e = .returned (.tuple #[.int .i64 ((i : Int) + 1), .int .i64 (-1)]) ∧ Below w.heap.size w w'') := fun w' hb => (code_err w' a (h.below hb (Nat.le_refl _)) i hi).mono fun e w'' ⟨q1, q2⟩ => ⟨q1, hb.trans (q2.mono hb.size)⟩
  clear h
  go_enter Tryz.func11, Tryz.ntmps11
  go_wp2_with fail
  go_at_call 29
  refine (HD.out w (Below.refl _ _)).mono ?_
  rintro e w1 ⟨rfl, hb1⟩
  have HD1 := HD.out w1 hb1
  clear hb1 HD
  go_wp2_with fail
  go_at_call 29
  refine HD1.mono ?_
  rintro e w2 ⟨rfl, hb2⟩
  have HB2 : Hid (Below w.heap.size w w2) := hb2
  clear hb2 HD1
  have hne : ¬ ((i : Int) + 1 = 0) := by omega
  go_wp2_with fail
  go_ret
  exact ⟨rfl, HB2.out⟩

/-- what the law asks of the world -/
structure LawA (w : World) (a : Nat → Addr) : Prop where
  lib : LibW w
  err : Errs w a
  big : 16 ≤ w.heap.size
theorem LawA.below {w w' : World} {a : Nat → Addr} (h : LawA w a) (hb : Below w.heap.size w w') : LawA w' a := ⟨h.lib.below hb, h.err.below hb (Nat.le_refl _), Nat.le_trans h.big hb.size⟩
theorem LawA.libA {w : World} {a : Nat → Addr} (h : LawA w a) : LibA w := ⟨⟨_, _, h.err.cell 0 (by omega)⟩, ⟨_, _, h.err.cell 1 (by omega)⟩⟩
theorem LawA.env {w : World} {a : Nat → Addr} (h : LawA w a) : EnvA w w := ⟨h.big, fun _ _ => rfl⟩

set_option maxHeartbeats 4000000 in
theorem law_farA {w : World} {va : Option Addr} {n c : Nat} {z : Int} (HS : Hid (Calls Tryz.prog 6 #[.slice va n c] w fun e w' => e = .returned (.int .i64 z) ∧ Below w.heap.size w w')) (h : 200 < n ∨ 1000 ≤ z) : Calls Tryz.prog 3 #[.slice va n c] w fun e w' => e = .returned (.bool true) ∧ Below w.heap.size w w' := by
  by_cases hn : 200 < n
  · have k1 : (200 : Int) < (n : Int) := by omega
    clear h
    go_enter Tryz.func3, Tryz.ntmps3
    go_wp2_with fail
    go_at_call 6
    refine HS.out.mono ?_
    rintro e w1 ⟨rfl, hb1⟩
    have HB : Hid (Below w.heap.size w w1) := hb1
    clear hb1 HS
    go_wp2_with fail
    go_ret
    exact ⟨rfl, HB.out⟩
  · have k1 : ¬ (200 : Int) < (n : Int) := by omega
    have k2 : (1000 : Int) ≤ z := by omega
    clear h
    go_enter Tryz.func3, Tryz.ntmps3
    go_wp2_with fail
    go_at_call 6
    refine HS.out.mono ?_
    rintro e w1 ⟨rfl, hb1⟩
    have HB : Hid (Below w.heap.size w w1) := hb1
    clear hb1 HS
    go_wp2_with fail
    go_ret
    exact ⟨rfl, HB.out⟩

/-- what Write gives -/
theorem write_any {w : World} {a : Nat → Addr} {v : Value} {t : Ex} (A : LawA w a) (h : Expr (fun _ => True) w v t) (hT : TxA t) (hN : NmA t) (hk : okX t = true) : ∃ (s : ByteArray) (er : Value), (∀ w', Below w.heap.size w w' → Calls Tryz.prog 10 #[v] w' fun e w'' => e = .returned (.tuple #[.string s, er]) ∧ Below w.heap.size w w'') ∧ (lngE t ≤ 16000 → s = baLw (wrU t 0) ∧ s.size ≤ 65536 ∧ er = .nilIface) := by
  by_cases hl : (wrU t 0).length ≤ 65536
  · refine ⟨baLw (wrU t 0), .nilIface, fun w' hb => ?_, fun _ => ⟨rfl, ?_, rfl⟩⟩
    · refine (write_yes (A.lib.below hb) (h.moved hb.size fun b hb1 _ => ⟨trivial, hb.block b hb1⟩) hT hN hk hl).mono ?_
      rintro e w'' ⟨q1, q2⟩
      exact ⟨q1, hb.trans (q2.mono hb.size)⟩
    · show (wrU t 0).toArray.size ≤ _
      rw [List.size_toArray]; exact hl
  · refine ⟨⟨#[]⟩, .iface 294 (.pointer (some (a 1))), fun w' hb => ?_, fun hh => absurd (written_fits hk hN hh) hl⟩
    refine (write_long (A.lib.below hb) (h.moved hb.size fun b hb1 _ => ⟨trivial, hb.block b hb1⟩) hT hN hk (by omega) ((A.err.below hb (Nat.le_refl _)).cell 1 (by omega))).mono ?_
    rintro e w'' ⟨q1, q2⟩
    exact ⟨q1, hb.trans (q2.mono hb.size)⟩

set_option maxHeartbeats 8000000 in
theorem law_nearA {w : World} {a : Nat → Addr} {va : Option Addr} {n c : Nat} {z : Int} {t : Ex} (A : LawA w a) (HS : Hid (Calls Tryz.prog 6 #[.slice va n c] w fun e w' => e = .returned (.int .i64 z) ∧ Below w.heap.size w w')) (h1 : n ≤ 200) (h2 : z < 1000)
    (HP : Hid (∀ w', Below w.heap.size w w' → Calls Tryz.prog 7 #[.slice va n c] w' fun e w'' => ∃ p, e = .returned (.pointer p) ∧ Below w.heap.size w w'' ∧ Expr (fun _ => True) w'' (.pointer p) t)) (hT : TxA t) (hN : NmA t) :
    Calls Tryz.prog 3 #[.slice va n c] w fun e w' => e = .returned (.bool true) ∧ Below w.heap.size w w' := by
  have k1 : ¬ (200 : Int) < (n : Int) := by omega
  have k2 : ¬ (1000 : Int) ≤ z := by omega
  have HA : Hid (LawA w a) := A
  have HT : Hid (TxA t) := hT
  have HN : Hid (NmA t) := hN
  clear A hT hN
  go_enter Tryz.func3, Tryz.ntmps3
  go_wp2_with fail
  go_at_call 6
  refine HS.out.mono ?_
  rintro e w1 ⟨rfl, hb1⟩
  have HP1 := HP.out w1 hb1
  clear hb1 HS HP
  go_wp2_with fail
  go_at_call 7
  refine HP1.mono ?_
  rintro e w2 ⟨p, rfl, hb2, hE⟩
  have HB2 : Hid (Below w.heap.size w w2) := hb2
  have HE : Hid (Expr (fun _ => True) w2 (.pointer p) t) := hE
  have HA2 : Hid (LawA w2 a) := HA.out.below hb2
  have HR : Hid (Calls Tryz.prog 8 #[.pointer p] w2 fun e w' => e = .returned (.bool (okX t)) ∧ w' = w2) := rexprok_any hE HT.out
  have HO : Hid (Calls Tryz.prog 9 #[.pointer p] w2 fun e w' => e = .returned (.bool (okX t)) ∧ Below w2.heap.size w2 w') := aok_any HA2.out.lib.valid hE HT.out
  clear hb2 hE HP1
  cases hk : okX t
  · rw [hk] at HR HO
    have HW : Hid (∀ w', Below w2.heap.size w2 w' → Calls Tryz.prog 10 #[.pointer p] w' fun e w'' => e = .returned (.tuple #[.string ⟨#[]⟩, .iface 294 (.pointer (some (a 0)))]) ∧ Below w2.heap.size w2 w'') := fun w' hb => by
      refine (write_not (HA2.out.lib.below hb).valid (HE.out.moved hb.size fun b hb1 _ => ⟨trivial, hb.block b hb1⟩) HT.out hk ((HA2.out.err.below hb (Nat.le_refl _)).cell 0 (by omega))).mono ?_
      rintro e w'' ⟨q1, q2⟩
      exact ⟨q1, hb.trans (q2.mono hb.size)⟩
    have HTo : Hid (∀ w', Below w2.heap.size w2 w' → w'.cell? ⟨0, 0, none⟩ = some (.iface 294 (.pointer (some (a 0)))) ∧ Calls Tryz.prog 11 #[.iface 294 (.pointer (some (a 0))), .iface 294 (.pointer (some (a 0))), .int .i64 (-1)] w' fun e w'' => e = .returned (.bool true) ∧ Below w.heap.size w w'') := fun w' hb => by
      have hE := HA2.out.err.below hb (Nat.le_refl _)
      refine ⟨hE.cell 0 (by omega), (told_err w' a hE 0 (by omega)).mono ?_⟩
      rintro e w'' ⟨q1, q2⟩
      have := HB2.out.trans (hb.mono HB2.out.size)
      exact ⟨q1, this.trans (q2.mono this.size)⟩
    clear HE HA HA2 HT HN hk HB2
    go_wp2_with fail
    go_at_call 8
    refine HR.out.mono ?_
    rintro e wq ⟨rfl, hwq⟩
    obtain rfl := hwq.symm
    clear hwq HR
    go_wp2_with fail
    go_at_call 9
    refine HO.out.mono ?_
    rintro e w3 ⟨rfl, hb3⟩
    have HW3 := HW.out w3 hb3
    clear hb3 HW HO
    go_wp2_with fail
    go_at_call 10
    refine HW3.mono ?_
    rintro e w4 ⟨rfl, hb4⟩
    obtain ⟨c0, HT4⟩ := HTo.out w4 hb4
    have HT5 : Hid (Calls Tryz.prog 11 #[.iface 294 (.pointer (some (a 0))), .iface 294 (.pointer (some (a 0))), .int .i64 (-1)] w4 fun e w'' => e = .returned (.bool true) ∧ Below w.heap.size w w'') := HT4
    clear hb4 HW3 HTo HT4
    go_wp2_with fail
    go_at_call 11
    refine HT5.out.mono ?_
    rintro e w5 ⟨rfl, hb5⟩
    have HB5 : Hid (Below w.heap.size w w5) := hb5
    clear hb5 HT5
    go_wp2
    go_ret
    exact ⟨rfl, HB5.out⟩
  · rw [hk] at HR HO
    obtain ⟨s, er, hW, hfew⟩ := write_any HA2.out HE.out HT.out HN.out hk
    have HW : Hid (∀ w', Below w2.heap.size w2 w' → Calls Tryz.prog 10 #[.pointer p] w' fun e w'' => e = .returned (.tuple #[.string s, er]) ∧ Below w2.heap.size w2 w'') := hW
    have hw : wellE t = true ∧ wtE t ≤ 200 := by
      have h := hk
      unfold okX at h
      rw [Bool.and_eq_true, decide_eq_true_eq] at h
      exact h
    have HL : Hid (∀ w', Below w2.heap.size w2 w' → Calls Tryz.prog 12 #[.pointer p] w' fun e w'' => e = .returned (.int .i64 (lngE t : Nat)) ∧ Below w2.heap.size w2 w'') := fun w' hb => by
      obtain ⟨m, hm⟩ := HE.out
      refine (long_any m (hm.below hb) hw.1 HT.out hw.2).mono ?_
      rintro e w'' ⟨q1, q2⟩
      exact ⟨q1, hb.trans (q2.mono hb.size)⟩
    clear hW
    by_cases hlng : lngE t ≤ 16000
    · obtain ⟨rfl, hsz, rfl⟩ := hfew hlng
      have hg : ¬ (16000 : Int) < ((lngE t : Nat) : Int) := by omega
      have HRd : Hid (∀ w', Below w2.heap.size w2 w' → Calls Tryz.prog 13 #[.string (baLw (wrU t 0))] w' fun e w'' => ∃ q, e = .returned (.tuple #[.pointer q, .nilIface, .int .i64 0]) ∧ Below w2.heap.size w2 w'' ∧ Calls Tryz.prog 14 #[.pointer q, .pointer p] w'' fun e w3 => e = .returned (.bool true) ∧ Below w.heap.size w w3) := fun w' hb => by
        have hread : readE (baLw (wrU t 0)) = some t := written_read hw.1 HN.out
        have A' := HA2.out.below hb
        refine (readexpr_any A'.libA A'.env hsz (fun x hx => by rw [hread] at hx; cases hx; exact HT.out)).mono ?_
        rintro e w'' ⟨q1, q2⟩
        rcases q2 with ⟨_, _, _, _, q3⟩ | ⟨x, q, r1, _, r3, r4⟩
        · have := q3 t hread; rw [hk] at this; cases this
        · rw [hread] at r1
          cases r1
          have hb2 := hb.trans (q1.mono hb.size)
          refine ⟨q, r3, hb2, ?_⟩
          obtain ⟨m1, e1⟩ := (HE.out.moved (ok' := fun _ => True) hb2.size fun b hb1 _ => ⟨trivial, hb2.block b hb1⟩)
          obtain ⟨m2, e2⟩ := (Expr.imp r4 (ok' := fun _ => True) fun _ _ _ => trivial)
          refine (same_expr (max m1 m2) w'' (.pointer q) (.pointer p) t HT.out (e2.more _ _ (Nat.le_max_right _ _)) (e1.more _ _ (Nat.le_max_left _ _))).mono ?_
          rintro e w3 ⟨s1, s2⟩
          have := HB2.out.trans (hb2.mono HB2.out.size)
          exact ⟨s1, this.trans (s2.mono this.size)⟩
      clear HE HA HA2 HT HN hk HB2 hfew hw hsz
      generalize lngE t = lg at *
      generalize baLw (wrU t 0) = tx at *
      go_wp2_with fail
      go_at_call 8
      refine HR.out.mono ?_
      rintro e wq ⟨rfl, hwq⟩
      obtain rfl := hwq.symm
      clear hwq HR
      go_wp2_with fail
      go_at_call 9
      refine HO.out.mono ?_
      rintro e w3 ⟨rfl, hb3⟩
      have HW3 := HW.out w3 hb3
      clear hb3 HW HO
      go_wp2_with fail
      go_at_call 10
      refine HW3.mono ?_
      rintro e w4 ⟨rfl, hb4⟩
      have HL4 := HL.out w4 hb4
      clear hb4 HW3 HL
      go_wp2_with fail
      go_at_call 12
      refine HL4.mono ?_
      rintro e w5 ⟨rfl, hb5⟩
      have HR5 := HRd.out w5 hb5
      clear hb5 HL4 HRd
      go_wp2_with fail
      go_at_call 13
      refine HR5.mono ?_
      rintro e w6 ⟨q, rfl, hb6, hS⟩
      have HS6 : Hid (Calls Tryz.prog 14 #[.pointer q, .pointer p] w6 fun e w3 => e = .returned (.bool true) ∧ Below w.heap.size w w3) := hS
      clear hb6 HR5 hS
      go_wp2_with fail
      go_at_call 14
      refine HS6.out.mono ?_
      rintro e w7 ⟨rfl, hb7⟩
      have HB7 : Hid (Below w.heap.size w w7) := hb7
      clear hb7 HS6
      go_wp2
      go_ret
      exact ⟨rfl, HB7.out⟩
    · have hg : (16000 : Int) < ((lngE t : Nat) : Int) := by omega
      clear HE HA HA2 HT HN hk hfew hw
      generalize lngE t = lg at *
      go_wp2_with fail
      go_at_call 8
      refine HR.out.mono ?_
      rintro e wq ⟨rfl, hwq⟩
      obtain rfl := hwq.symm
      clear hwq HR
      go_wp2_with fail
      go_at_call 9
      refine HO.out.mono ?_
      rintro e w3 ⟨rfl, hb3⟩
      have HW3 := HW.out w3 hb3
      clear hb3 HW HO
      go_wp2_with fail
      go_at_call 10
      refine HW3.mono ?_
      rintro e w4 ⟨rfl, hb4⟩
      have HL4 := HL.out w4 hb4
      clear hb4 HW3 HL
      go_wp2_with fail
      go_at_call 12
      refine HL4.mono ?_
      rintro e w5 ⟨rfl, hb5⟩
      have HB5 : Hid (Below w.heap.size w w5) := HB2.out.trans (hb5.mono HB2.out.size)
      clear hb5 HL4 HB2
      go_wp2_with fail
      go_ret
      exact ⟨rfl, HB5.out⟩

end Go.Proofs.YthbglakncijahaaGreatDoor
