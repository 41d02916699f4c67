/- Texts of the proof, put together: AWhl, ATok, ANml, ABox, QTyp. -/
import Derived.Test.YtgmmfpdekefamaaGreatDoorAt03
import Derived.Deep.RegionHeld3
import Derived.Laws.Rows
import Derived.BigRegion
namespace Go.Proofs.YtgmmfpdekefamaaGreatDoor
open Go.RowKit
set_option linter.unusedVariables false
set_option maxRecDepth 100000

/-- are the bytes from i up to k digits? their value -/
def digV (s : ByteArray) (i : Nat) : Nat → Int
 | 0 => 0
 | k + 1 => digV s i k * 10 + (((s.get! (i + k)).toNat : Int) - 48)
def allD (s : ByteArray) (i k : Nat) : Prop := ∀ j, j < k → digitB ((s.get! (i + j)).toNat : Int) = true
theorem digit_range {b : Int} (h : digitB b = true) : 48 ≤ b ∧ b ≤ 57 := by
 simp [digitB] at h; omega
theorem digV_pos {s : ByteArray} {i : Nat} : ∀ {k : Nat}, allD s i k → 0 ≤ digV s i k
 | 0, _ => by simp [digV]
 | k + 1, h => by
  have h1 := digV_pos (k := k) fun j hj => h j (by omega)
  have h2 := digit_range (h k (by omega))
  rw [digV]
  omega
theorem digV_mono {s : ByteArray} {i : Nat} : ∀ {k : Nat} (m : Nat), allD s i (k + m) → digV s i k ≤ digV s i (k + m)
 | k, 0, _ => by simp
 | k, m + 1, h => by
  have h1 := digV_mono (k := k) m fun j hj => h j (by omega)
  have h0 := digV_pos (k := k + m) fun j hj => h j (by omega)
  have h2 := digit_range (h (k + m) (by omega))
  rw [show k + (m + 1) = k + m + 1 by omega, digV]
  omega
theorem digV_ge {s : ByteArray} {i k n : Nat} (hk : k ≤ n) (h : allD s i n) : digV s i k ≤ digV s i n := by
 have := digV_mono (s := s) (i := i) (k := k) (n - k) (by rwa [show k + (n - k) = n by omega])
 rwa [show k + (n - k) = n by omega] at this

def allDB (s : ByteArray) (i k : Nat) : Bool := (List.range k).all fun j => digitB ((s.get! (i + j)).toNat : Int)
theorem allDB_iff (s : ByteArray) (i k : Nat) : allDB s i k = true ↔ allD s i k := by simp [allDB, allD]
/-- the number that a text writes -/
def wholeZ (s : ByteArray) : Option Int :=
 if 0 < s.size ∧ (s.get! 0).toNat = 45 then (if 1 < s.size ∧ allDB s 1 (s.size - 1) = true ∧ digV s 1 (s.size - 1) ≤ 9223372036854775808 then some (-digV s 1 (s.size - 1)) else none)
 else if 0 < s.size ∧ allDB s 0 s.size = true ∧ digV s 0 s.size ≤ 9223372036854775807 then some (digV s 0 s.size) else none
theorem tq (d : Int) (h0 : 48 ≤ d) (h9 : d ≤ 57) : Int.tdiv (-9223372036854775808 + (d - 48)) 10 = -((9223372036854775808 - (d - 48)) / 10) := by
 rw [show -9223372036854775808 + (d - 48) = -(9223372036854775808 - (d - 48)) by omega, Int.neg_tdiv, Int.tdiv_eq_ediv_of_nonneg (by omega)]
def WhP (s : ByteArray) (w : World) (e : Ending) (w' : World) : Prop := w' = w ∧ ∃ (z : Int) (b : Bool), e = .returned (.tuple #[.int .i64 z, .bool b]) ∧ ((b = true ∧ wholeZ s = some z) ∨ (b = false ∧ wholeZ s = none))

/-- the answer from the digits behind a sign or none -/
def whI (s : ByteArray) (i : Nat) : Prop := i ≤ 1 ∧ i < s.size ∧ (i = 1 → (s.get! 0).toNat = 45) ∧ (i = 0 → (s.get! 0).toNat ≠ 45)
theorem whI_bad {s : ByteArray} {i k : Nat} (h : whI s i) (hk : i + k < s.size) (hb : digitB ((s.get! (i + k)).toNat : Int) = false) : wholeZ s = none := by
 obtain ⟨h1, h2, h3, h4⟩ := h
 have hn : ∀ n, k < n → ¬ allD s i n := fun n hn ha => by have := ha k hn; rw [hb] at this; cases this
 unfold wholeZ
 rcases (show i = 0 ∨ i = 1 by omega) with rfl | rfl
 ·rw [if_neg (fun h => h4 rfl h.2), if_neg (fun h => hn s.size (by omega) ((allDB_iff _ _ _).1 h.2.1))]
 ·rw [if_pos ⟨by omega, h3 rfl⟩, if_neg (fun h => hn (s.size - 1) (by omega) ((allDB_iff _ _ _).1 h.2.1))]
theorem whI_much {s : ByteArray} {i k : Nat} (h : whI s i) (hk : i + k < s.size) (hb : 9223372036854775808 < digV s i (k + 1)) : wholeZ s = none := by
 obtain ⟨h1, h2, h3, h4⟩ := h
 unfold wholeZ
 rcases (show i = 0 ∨ i = 1 by omega) with rfl | rfl
 ·rw [if_neg (fun h => h4 rfl h.2), if_neg]
  rintro ⟨_, a, b⟩
  have := digV_ge (k := k + 1) (by omega) ((allDB_iff _ _ _).1 a)
  omega
 ·rw [if_pos ⟨by omega, h3 rfl⟩, if_neg]
  rintro ⟨_, a, b⟩
  have := digV_ge (k := k + 1) (by omega) ((allDB_iff _ _ _).1 a)
  omega

set_option maxHeartbeats 4000000 in
theorem whole_at0 {s : ByteArray} (hI : whI s 0) (hs : s.size ≤ 140737488351232) (w : World) :
  Calls Tryz.prog 161 #[.string s] w (WhP s w) := by
 have HI : Hid (whI s 0) := hI
 obtain ⟨h1, h2, h3, h4⟩ := hI
 have h0 : 0 < s.size := by omega
 have hb0 := get_atA s 0 h0
 have hpos : decide ((s.size : Int) > 0) = true := by simp; omega
 have hsg : (((s.get! 0).toNat : Int) == 45) = false := by have := h4 rfl; simp; omega
 have hne : ((0 : Int) == (s.size : Int)) = false := by simp; omega
 clear h3 h4
 go_enter Tryz.func161, Tryz.ntmps161
 go_wp2
 go_loop [5, 6, 7, 8] (fun n k _ _ => ∃ m : Nat, n = .int .i64 (-digV s 0 m) ∧ k = .int .i64 ((m : Nat) : Int) ∧ m ≤ s.size ∧ Hid (allD s 0 m) ∧ digV s 0 m ≤ 9223372036854775808) (fun _ k _ _ => s.size - (intOf k).toNat)
 case atStart => exact ⟨0, by simp [digV], rfl, by omega, fun j hj => by omega, by simp [digV]⟩
 case round =>
  obtain ⟨m, rfl, rfl, hm, HA, hv⟩ := hrel
  have hv0 := digV_pos HA.out
  by_cases hlt : m < s.size
  ·have hb := get_atA s (m) hlt
   have hbl := bang_lt s (m)
   have hli : ((m : Nat) : Int) < (s.size : Int) := by omega
   have HD : Hid (Calls Tryz.prog 110 #[.int .u8 ((s.get! (m)).toNat : Int)] w fun e w' => e = .returned (.bool (digitB ((s.get! (m)).toNat : Int))) ∧ w' = w) := rdigit_any ((s.get! (m)).toNat : Int) w
   cases hd : digitB ((s.get! (m)).toNat : Int)
   ·have HN : Hid (wholeZ s = none) := whI_bad HI.out (k := m) (by omega) (by simpa using hd)
    rw [hd] at HD
    clear hd hv hv0
    generalize digV s 0 m = v at *
    go_wp2_with fail
    go_at_call 110
    refine HD.out.mono ?_
    rintro e w' ⟨rfl, rfl⟩
    go_wp2
    go_ret2
    exact ⟨rfl, 0, false, rfl, .inr ⟨rfl, HN.out⟩⟩
   ·have hr := digit_range hd
    have HV : Hid (digV s 0 (m + 1) = digV s 0 m * 10 + (((s.get! (m)).toNat : Int) - 48)) := by show _ = _; rw [digV]; rw [Nat.zero_add]
    have HA2 : Hid (allD s 0 (m + 1)) := fun j hj => by
     by_cases e : j = m
     ·subst e; simpa using hd
     ·exact HA.out j (by omega)
    have HM : Hid (9223372036854775808 < digV s 0 m * 10 + (((s.get! (m)).toNat : Int) - 48) → wholeZ s = none) := fun h => whI_much HI.out (k := m) (by omega) (by rw [HV.out]; exact h)
    rw [hd] at HD
    clear hd
    have hw1 : IntKind.i64.wrap (((s.get! (m)).toNat : Int)) = ((s.get! (m)).toNat : Int) := by rw [IntKind.wrap_i64]; omega
    have hw2 : IntKind.i64.wrap (((s.get! (m)).toNat : Int) - 48) = ((s.get! (m)).toNat : Int) - 48 := by rw [IntKind.wrap_i64]; omega
    have hw3 : IntKind.i64.wrap (-9223372036854775808 + (((s.get! (m)).toNat : Int) - 48)) = -9223372036854775808 + (((s.get! (m)).toNat : Int) - 48) := by rw [IntKind.wrap_i64]; omega
    have hq := tq _ hr.1 hr.2
    generalize digV s 0 m = v at *
    generalize hbb : s.get! (m) = b at *
    clear hbb
    have hq3 : Int.tdiv (-9223372036854775808 + ((b.toNat : Int) - 48)) 10 = Int.tdiv (-9223372036854775808 + ((b.toNat : Int) - 48)) 10 := rfl
    by_cases hq2 : -v < -((9223372036854775808 - ((b.toNat : Int) - 48)) / 10)
    ·have HN : Hid (wholeZ s = none) := HM.out (by omega)
     go_wp2_with fail
     go_at_call 110
     refine HD.out.mono ?_
     rintro e w' ⟨rfl, rfl⟩
     go_wp2
     go_ret2
     exact ⟨rfl, 0, false, rfl, .inr ⟨rfl, HN.out⟩⟩
    ·have hv2 : v * 10 + ((b.toNat : Int) - 48) ≤ 9223372036854775808 := by omega
     have hw4 : IntKind.i64.wrap (-v * 10) = -v * 10 := by rw [IntKind.wrap_i64]; omega
     have hw5 : IntKind.i64.wrap (-v * 10 - ((b.toNat : Int) - 48)) = -v * 10 - ((b.toNat : Int) - 48) := by rw [IntKind.wrap_i64]; omega
     go_wp2_with fail
     go_at_call 110
     refine HD.out.mono ?_
     rintro e w' ⟨rfl, rfl⟩
     go_wp2
     go_round
     case rel => exact ⟨m + 1, by rw [HV.out]; congr 1; omega, by go_num, by omega, HA2, by rw [HV.out]; exact hv2⟩
     case measure => simp [intOf]; omega
  ·obtain rfl : m = s.size := by omega
   have HZ : Hid (digV s 0 s.size ≤ 9223372036854775807 → wholeZ s = some (digV s 0 s.size)) := fun h => by
    unfold wholeZ
    rw [if_neg (fun h => HI.out.2.2.2 rfl h.2), if_pos ⟨h0, (allDB_iff _ _ _).2 HA.out, h⟩]
   have HZ2 : Hid (9223372036854775808 ≤ digV s 0 s.size → wholeZ s = none) := fun h => by
    unfold wholeZ
    rw [if_neg (fun h => HI.out.2.2.2 rfl h.2), if_neg (fun h => by omega)]
   have hli : ¬ ((s.size : Nat) : Int) < (s.size : Int) := by omega
   generalize digV s 0 s.size = v at *
   by_cases hm1 : v = 9223372036854775808
   ·subst hm1
    have HN : Hid (wholeZ s = none) := HZ2.out (by omega)
    go_wp2
    go_ret2
    exact ⟨rfl, _, false, rfl, .inr ⟨rfl, HN.out⟩⟩
   ·have hq : (-v != -9223372036854775808) = true := by rw [bne_iff_ne]; omega
    have hw1 : IntKind.i64.wrap (- -v) = v := by rw [IntKind.wrap_i64]; omega
    have hw2 : IntKind.i64.wrap v = v := by rw [IntKind.wrap_i64]; omega
    have HN : Hid (wholeZ s = some v) := HZ.out (by omega)
    go_wp2
    go_ret2
    exact ⟨rfl, v, true, rfl, .inl ⟨rfl, HN.out⟩⟩

set_option maxHeartbeats 4000000 in
theorem whole_at1 {s : ByteArray} (hI : whI s 1) (hs : s.size ≤ 140737488351232) (w : World) :
  Calls Tryz.prog 161 #[.string s] w (WhP s w) := by
 have HI : Hid (whI s 1) := hI
 obtain ⟨h1, h2, h3, h4⟩ := hI
 have h0 : 0 < s.size := by omega
 have hb0 := get_atA s 0 h0
 have hpos : decide ((s.size : Int) > 0) = true := by simp; omega
 have hsg : (((s.get! 0).toNat : Int) == 45) = true := by have := h3 rfl; simp [this]
 have hne : ((1 : Int) == (s.size : Int)) = false := by simp; omega
 clear h3 h4
 go_enter Tryz.func161, Tryz.ntmps161
 go_wp2
 go_loop [5, 6, 7, 8] (fun n k _ _ => ∃ m : Nat, n = .int .i64 (-digV s 1 m) ∧ k = .int .i64 ((1 + m : Nat) : Int) ∧ 1 + m ≤ s.size ∧ Hid (allD s 1 m) ∧ digV s 1 m ≤ 9223372036854775808) (fun _ k _ _ => s.size - (intOf k).toNat)
 case atStart => exact ⟨0, by simp [digV], rfl, by omega, fun j hj => by omega, by simp [digV]⟩
 case round =>
  obtain ⟨m, rfl, rfl, hm, HA, hv⟩ := hrel
  have hv0 := digV_pos HA.out
  by_cases hlt : 1 + m < s.size
  ·have hb := get_atA s (1 + m) hlt
   have hbl := bang_lt s (1 + m)
   have hli : ((1 + m : Nat) : Int) < (s.size : Int) := by omega
   have HD : Hid (Calls Tryz.prog 110 #[.int .u8 ((s.get! (1 + m)).toNat : Int)] w fun e w' => e = .returned (.bool (digitB ((s.get! (1 + m)).toNat : Int))) ∧ w' = w) := rdigit_any ((s.get! (1 + m)).toNat : Int) w
   cases hd : digitB ((s.get! (1 + m)).toNat : Int)
   ·have HN : Hid (wholeZ s = none) := whI_bad HI.out (k := m) (by omega) (by simpa using hd)
    rw [hd] at HD
    clear hd hv hv0
    generalize digV s 1 m = v at *
    go_wp2_with fail
    go_at_call 110
    refine HD.out.mono ?_
    rintro e w' ⟨rfl, rfl⟩
    go_wp2
    go_ret2
    exact ⟨rfl, 0, false, rfl, .inr ⟨rfl, HN.out⟩⟩
   ·have hr := digit_range hd
    have HV : Hid (digV s 1 (m + 1) = digV s 1 m * 10 + (((s.get! (1 + m)).toNat : Int) - 48)) := by show _ = _; rw [digV]
    have HA2 : Hid (allD s 1 (m + 1)) := fun j hj => by
     by_cases e : j = m
     ·subst e; simpa using hd
     ·exact HA.out j (by omega)
    have HM : Hid (9223372036854775808 < digV s 1 m * 10 + (((s.get! (1 + m)).toNat : Int) - 48) → wholeZ s = none) := fun h => whI_much HI.out (k := m) (by omega) (by rw [HV.out]; exact h)
    rw [hd] at HD
    clear hd
    have hw1 : IntKind.i64.wrap (((s.get! (1 + m)).toNat : Int)) = ((s.get! (1 + m)).toNat : Int) := by rw [IntKind.wrap_i64]; omega
    have hw2 : IntKind.i64.wrap (((s.get! (1 + m)).toNat : Int) - 48) = ((s.get! (1 + m)).toNat : Int) - 48 := by rw [IntKind.wrap_i64]; omega
    have hw3 : IntKind.i64.wrap (-9223372036854775808 + (((s.get! (1 + m)).toNat : Int) - 48)) = -9223372036854775808 + (((s.get! (1 + m)).toNat : Int) - 48) := by rw [IntKind.wrap_i64]; omega
    have hq := tq _ hr.1 hr.2
    generalize digV s 1 m = v at *
    generalize hbb : s.get! (1 + m) = b at *
    clear hbb
    have hq3 : Int.tdiv (-9223372036854775808 + ((b.toNat : Int) - 48)) 10 = Int.tdiv (-9223372036854775808 + ((b.toNat : Int) - 48)) 10 := rfl
    by_cases hq2 : -v < -((9223372036854775808 - ((b.toNat : Int) - 48)) / 10)
    ·have HN : Hid (wholeZ s = none) := HM.out (by omega)
     go_wp2_with fail
     go_at_call 110
     refine HD.out.mono ?_
     rintro e w' ⟨rfl, rfl⟩
     go_wp2
     go_ret2
     exact ⟨rfl, 0, false, rfl, .inr ⟨rfl, HN.out⟩⟩
    ·have hv2 : v * 10 + ((b.toNat : Int) - 48) ≤ 9223372036854775808 := by omega
     have hw4 : IntKind.i64.wrap (-v * 10) = -v * 10 := by rw [IntKind.wrap_i64]; omega
     have hw5 : IntKind.i64.wrap (-v * 10 - ((b.toNat : Int) - 48)) = -v * 10 - ((b.toNat : Int) - 48) := by rw [IntKind.wrap_i64]; omega
     go_wp2_with fail
     go_at_call 110
     refine HD.out.mono ?_
     rintro e w' ⟨rfl, rfl⟩
     go_wp2
     go_round
     case rel => exact ⟨m + 1, by rw [HV.out]; congr 1; omega, by go_num, by omega, HA2, by rw [HV.out]; exact hv2⟩
     case measure => simp [intOf]; omega
  ·obtain rfl : m = s.size - 1 := by omega
   have HN : Hid (wholeZ s = some (-digV s 1 (s.size - 1))) := by
    show _ = _
    unfold wholeZ
    rw [if_pos ⟨h0, HI.out.2.2.1 rfl⟩, if_pos ⟨h2, (allDB_iff _ _ _).2 HA.out, hv⟩]
   have hli : ¬ ((1 + (s.size - 1) : Nat) : Int) < (s.size : Int) := by omega
   generalize digV s 1 (s.size - 1) = v at *
   generalize 1 + (s.size - 1) = sz at *
   go_wp2
   go_ret2
   exact ⟨rfl, _, true, rfl, .inl ⟨rfl, HN.out⟩⟩

set_option maxHeartbeats 2000000 in
theorem whole_none {s : ByteArray} (h : s.size = 0 ∨ (s.size = 1 ∧ (s.get! 0).toNat = 45)) (w : World) :
  Calls Tryz.prog 161 #[.string s] w (WhP s w) := by
 have HN : Hid (wholeZ s = none) := by
  show _ = _
  unfold wholeZ
  rcases h with h | ⟨h1, h2⟩
  ·rw [if_neg (by omega), if_neg (by omega)]
  ·rw [if_pos ⟨by omega, h2⟩, if_neg (by omega)]
 rcases h with h | ⟨h1, h2⟩
 ·have hpos : decide ((s.size : Int) > 0) = false := decide_eq_false (by omega)
  have hz : ((0 : Int) == (s.size : Int)) = true := by rw [beq_iff_eq]; omega
  go_enter Tryz.func161, Tryz.ntmps161
  go_wp2
  go_ret2
  exact ⟨rfl, 0, false, rfl, .inr ⟨rfl, HN.out⟩⟩
 ·have h0 : 0 < s.size := by omega
  have hb0 := get_atA s 0 h0
  have hpos : decide ((s.size : Int) > 0) = true := by simp; omega
  have hsg : (((s.get! 0).toNat : Int) == 45) = true := by simp [h2]
  have hz : ((1 : Int) == (s.size : Int)) = true := by simp; omega
  clear h2
  go_enter Tryz.func161, Tryz.ntmps161
  go_wp2
  go_ret2
  exact ⟨rfl, 0, false, rfl, .inr ⟨rfl, HN.out⟩⟩
theorem wholeN_any (s : ByteArray) (hs : s.size ≤ 140737488351232) (w : World) : Calls Tryz.prog 161 #[.string s] w (WhP s w) := by
 by_cases h0 : s.size = 0
 ·exact whole_none (.inl h0) w
 by_cases hm : (s.get! 0).toNat = 45
 ·by_cases h1 : s.size = 1
  ·exact whole_none (.inr ⟨h1, hm⟩) w
  ·exact whole_at1 ⟨by omega, by omega, fun _ => hm, by omega⟩ hs w
 ·exact whole_at0 ⟨by omega, by omega, by omega, fun _ => hm⟩ hs w

end Go.Proofs.YtgmmfpdekefamaaGreatDoor

namespace Go.Proofs.YtgmmfpdekefamaaGreatDoor
open Go.RowKit
set_option linter.unusedVariables false
set_option maxRecDepth 100000

/-- a token: its kind (0 the end, 1 a number, 2 a text, 3 a place, 4 a word, 6 a sign), what it says, where it stands, its number -/
structure Tok where
 kind : Int
 text : ByteArray
 fr : Nat
 fin : Nat
 num : Int
def tokV (t : Tok) : Value := .agg #[.int .i64 t.kind, .string t.text, .int .i64 t.fr, .int .i64 t.fin, .int .i64 t.num]
def emptyT : ByteArray := ⟨#[]⟩

/-- digits from a byte on: the number, and where it ends -/
def numE (s : ByteArray) (i : Nat) : Option (Int × Nat) :=
 let j := run digitB s i
 match wholeZ (s.extract i j) with
 | none => none
 | some n => if i + 1 < j ∧ (s.get! i).toNat = 48 then none else some (n, j)

/-- what stands between quotes, from a byte on: the text, and where it ends -/
def quoE (s : ByteArray) : Nat → Nat → ByteArray → Option (ByteArray × Nat)
 | 0, _, _ => none
 | f + 1, i, t =>
  if i < s.size then
   if okAt s i = false ∨ (s.get! i).toNat = 10 then none
   else if (s.get! i).toNat = 34 then some (t, i + 1)
   else if (s.get! i).toNat ≠ 92 then quoE s f (i + (Utf8.decode s i).2) (t ++ s.extract i (i + (Utf8.decode s i).2))
   else if i + 1 < s.size then
    if (s.get! (i + 1)).toNat = 110 then quoE s f (i + 2) (t ++ ⟨#[10]⟩)
    else if (s.get! (i + 1)).toNat = 34 then quoE s f (i + 2) (t ++ ⟨#[34]⟩)
    else if (s.get! (i + 1)).toNat = 92 then quoE s f (i + 2) (t ++ ⟨#[92]⟩)
    else none
   else none
  else none

/-- the signs of expressions -/
def sgnB (b : Nat) : Bool := b == 40 || b == 41 || b == 91 || b == 93 || b == 44 || b == 61 || b == 60 || b == 43 || b == 45 || b == 42 || b == 47 || b == 37
/-- how long the sign at a byte is; 0: there is none -/
def sgnE (s : ByteArray) (i : Nat) : Nat :=
 if i + 1 < s.size ∧ (((s.get! i).toNat = 61 ∧ (s.get! (i + 1)).toNat = 61) ∨ ((s.get! i).toNat = 43 ∧ (s.get! (i + 1)).toNat = 43)) then 2
 else if sgnB (s.get! i).toNat = true then 1 else 0

/-- the token at a byte -/
def cutAt (s : ByteArray) (i : Nat) : Option Tok :=
 if i < s.size then
  if digitB ((s.get! i).toNat : Int) = true then (numE s i).map fun x => ⟨1, emptyT, i, x.2, x.1⟩
  else if (s.get! i).toNat = 36 then (numE s (i + 1)).map fun x => ⟨3, emptyT, i, x.2, x.1⟩
  else if (s.get! i).toNat = 34 then (quoE s (s.size - i) (i + 1) emptyT).map fun x => ⟨2, x.1, i, x.2, 0⟩
  else if smallB ((s.get! i).toNat : Int) = true then some ⟨4, s.extract i (run wordB s i), i, run wordB s i, 0⟩
  else if 0 < sgnE s i then some ⟨6, s.extract i (i + sgnE s i), i, i + sgnE s i, 0⟩ else none
 else some ⟨0, emptyT, i, i, 0⟩
/-- .. or behind blanks -/
def cutE (s : ByteArray) (p : Nat) : Option Tok := cutAt s (run blankB s p)
/-- what Cut answers -/
def CutP (s : ByteArray) (r : Option Tok) (w : World) (e : Ending) (w' : World) : Prop := Below w.heap.size w w' ∧ ∃ t : Tok, e = .returned (tokV t) ∧ ((t.kind ≠ 7 ∧ r = some t) ∨ (t.kind = 7 ∧ r = none)) ∧ t.fr ≤ s.size ∧ t.fin ≤ s.size

end Go.Proofs.YtgmmfpdekefamaaGreatDoor

namespace Go.Proofs.YtgmmfpdekefamaaGreatDoor
open Go.RowKit
set_option linter.unusedVariables false
set_option maxRecDepth 100000

theorem numE_none {s : ByteArray} {i : Nat} (h : wholeZ (s.extract i (run digitB s i)) = none) : numE s i = none := by
 unfold numE; simp only [h]
theorem numE_some {s : ByteArray} {i : Nat} {n : Int} (h : wholeZ (s.extract i (run digitB s i)) = some n) : numE s i = if i + 1 < run digitB s i ∧ (s.get! i).toNat = 48 then none else some (n, run digitB s i) := by
 unfold numE; simp only [h]

theorem two_cells (w : World) (o : Obj) (a b c d e : Value) (ty : TypeId) : ∃ W, (w.alloc o).alloc (.cells #[a, b, c, d, e] ty) = W ∧ Below w.heap.size w W ∧ W.cell? ⟨w.heap.size + 1, 0, none⟩ = some a ∧ W.cell? ⟨w.heap.size + 1, 1, none⟩ = some b ∧ W.cell? ⟨w.heap.size + 1, 2, none⟩ = some c ∧ W.cell? ⟨w.heap.size + 1, 3, none⟩ = some d ∧ W.cell? ⟨w.heap.size + 1, 4, none⟩ = some e := by
 have h := allocAtA (w.alloc o) (.cells #[a, b, c, d, e] ty)
 rw [alloc_size] at h
 refine ⟨_, rfl, (alloc_below w o).trans ((alloc_below (w.alloc o) _).mono (by rw [alloc_size]; omega)), cellsAtA h 0 _ rfl, cellsAtA h 1 _ rfl, cellsAtA h 2 _ rfl, cellsAtA h 3 _ rfl, cellsAtA h 4 _ rfl⟩

set_option maxHeartbeats 4000000 in
theorem rnumeral_any (s : ByteArray) (hs : s.size ≤ 140737488351232) (t : Tok) (kind : Int) (i : Nat) (hi : i ≤ s.size) (w : World) :
  Calls Tryz.prog 112 #[.string s, tokV t, .int .i64 kind, .int .i64 i] w fun e w' => Below w.heap.size w w' ∧ ∃ t' : Tok, e = .returned (tokV t') ∧ t'.fr = t.fr ∧ t'.text = t.text ∧ ((t'.kind = kind ∧ numE s i = some (t'.num, t'.fin)) ∨ (t'.kind = 7 ∧ numE s i = none)) ∧ t'.fin ≤ s.size := by
 obtain ⟨k0, x0, f0, t0, n0⟩ := t
 unfold tokV
 simp only
 go_enter Tryz.func112, Tryz.ntmps112
 go_wp2
 go_loop [9, 10] (fun a _ => ∃ pos : Nat, i ≤ pos ∧ pos ≤ s.size ∧ a = .int .i64 pos ∧ Hid (run digitB s pos = run digitB s i)) (fun a _ => s.size - (intOf a).toNat)
 case atStart => exact ⟨i, by omega, hi, rfl, rfl⟩
 case round =>
  obtain ⟨pos, hip, hp, rfl, HR⟩ := hrel
  by_cases hlt : pos < s.size
  ·have hb := get_atA s pos hlt
   have HD : Hid (∀ w, Calls Tryz.prog 110 #[.int .u8 ((s.get! pos).toNat : Int)] w fun e w' => e = .returned (.bool (digitB ((s.get! pos).toNat : Int))) ∧ w' = w) := fun w => rdigit_any _ w
   cases hd : digitB ((s.get! pos).toNat : Int)
   ·have HV : Hid (run digitB s i = pos) := by
     show _ = _
     rw [← HR.out]
     exact run_stop fun _ => hd
    rw [hd] at HD
    clear HR hd
    go_wp2_with fail
    go_at_call 110
    refine (HD.out _).mono ?_
    rintro e w' ⟨rfl, rfl⟩
    go_wp2_with fail
    refine (wholeN_any (s.extract i pos) (by simp; omega) _).mono ?_
    rintro e w' ⟨rfl, z, b, rfl, hz⟩
    cases b
    ·have HN : Hid (numE s i = none) := by
      show _ = _
      rcases hz with ⟨h, _⟩ | ⟨_, h⟩
      ·cases h
      ·exact numE_none (by rw [HV.out]; exact h)
     clear hz
     go_wp2
     obtain ⟨W, hW, hb, c0, c1, c2, c3, c4⟩ := two_cells w (.cells #[.int .i64 7, .string x0, .int .i64 f0, .int .i64 pos, .int .i64 z] 71) (.int .i64 7) (.string x0) (.int .i64 f0) (.int .i64 pos) (.int .i64 z) 71
     rw [hW]
     refine bodyPost_ret (v := .agg #[.int .i64 7, .string x0, .int .i64 f0, .int .i64 pos, .int .i64 z]) ?_ rfl ?_
     ·simp [results, go_sem, c0, c1, c2, c3, c4]
     ·exact ⟨hb, ⟨7, x0, f0, pos, z⟩, rfl, rfl, rfl, .inr ⟨rfl, HN.out⟩, hp⟩
    ·have HN : Hid (numE s i = if i + 1 < pos ∧ (s.get! i).toNat = 48 then none else some (z, pos)) := by
      show _ = _
      rcases hz with ⟨_, h⟩ | ⟨h, _⟩
      ·have := numE_some (by rw [HV.out]; exact h)
       rw [this, HV.out]
      ·cases h
     clear hz
     have hii : IntKind.i64.wrap ((i : Int) + 1) = (i : Int) + 1 := by rw [IntKind.wrap_i64]; omega
     by_cases h1 : i + 1 < pos
     ·have hd1 : decide ((pos : Int) > (i : Int) + 1) = true := decide_eq_true (by omega)
      have hib := get_atA s i (by omega)
      cases h2 : (((s.get! i).toNat : Int) == 48)
      ·have HN2 : Hid (numE s i = some (z, pos)) := by
        show _ = _
        rw [HN.out, if_neg]
        rintro ⟨_, h⟩
        rw [h] at h2
        cases h2
       clear HN
       go_wp2
       obtain ⟨W, hW, hb, c0, c1, c2, c3, c4⟩ := two_cells w (.cells #[.int .i64 kind, .string x0, .int .i64 f0, .int .i64 pos, .int .i64 z] 71) (.int .i64 kind) (.string x0) (.int .i64 f0) (.int .i64 pos) (.int .i64 z) 71
       rw [hW]
       refine bodyPost_ret (v := .agg #[.int .i64 kind, .string x0, .int .i64 f0, .int .i64 pos, .int .i64 z]) ?_ rfl ?_
       ·simp [results, go_sem, c0, c1, c2, c3, c4]
       ·exact ⟨hb, ⟨kind, x0, f0, pos, z⟩, rfl, rfl, rfl, .inl ⟨rfl, HN2.out⟩, hp⟩
      ·have HN2 : Hid (numE s i = none) := by
        show _ = _
        rw [HN.out, if_pos]
        rw [beq_iff_eq] at h2
        exact ⟨h1, by omega⟩
       clear HN
       go_wp2
       obtain ⟨W, hW, hb, c0, c1, c2, c3, c4⟩ := two_cells w (.cells #[.int .i64 7, .string x0, .int .i64 f0, .int .i64 pos, .int .i64 z] 71) (.int .i64 7) (.string x0) (.int .i64 f0) (.int .i64 pos) (.int .i64 z) 71
       rw [hW]
       refine bodyPost_ret (v := .agg #[.int .i64 7, .string x0, .int .i64 f0, .int .i64 pos, .int .i64 z]) ?_ rfl ?_
       ·simp [results, go_sem, c0, c1, c2, c3, c4]
       ·exact ⟨hb, ⟨7, x0, f0, pos, z⟩, rfl, rfl, rfl, .inr ⟨rfl, HN2.out⟩, hp⟩
     ·have hd1 : decide ((pos : Int) > (i : Int) + 1) = false := decide_eq_false (by omega)
      have HN2 : Hid (numE s i = some (z, pos)) := by
       show _ = _
       rw [HN.out, if_neg (fun h => h1 h.1)]
      clear HN
      go_wp2
      obtain ⟨W, hW, hb, c0, c1, c2, c3, c4⟩ := two_cells w (.cells #[.int .i64 kind, .string x0, .int .i64 f0, .int .i64 pos, .int .i64 z] 71) (.int .i64 kind) (.string x0) (.int .i64 f0) (.int .i64 pos) (.int .i64 z) 71
      rw [hW]
      refine bodyPost_ret (v := .agg #[.int .i64 kind, .string x0, .int .i64 f0, .int .i64 pos, .int .i64 z]) ?_ rfl ?_
      ·simp [results, go_sem, c0, c1, c2, c3, c4]
      ·exact ⟨hb, ⟨kind, x0, f0, pos, z⟩, rfl, rfl, rfl, .inl ⟨rfl, HN2.out⟩, hp⟩
   ·have HV : Hid (run digitB s (pos + 1) = run digitB s i) := by
     show _ = _
     rw [← HR.out]
     exact (run_step hlt hd).symm
    rw [hd] at HD
    clear HR hd
    go_wp2_with fail
    go_at_call 110
    refine (HD.out _).mono ?_
    rintro e w' ⟨rfl, rfl⟩
    go_wp2
    go_round
    case rel => exact ⟨pos + 1, by omega, by omega, by go_num, HV⟩
    case measure => simp [intOf]; omega
  ·have HV : Hid (run digitB s i = pos) := by
    show _ = _
    rw [← HR.out]
    exact run_stop fun h => absurd h hlt
   clear HR
   obtain rfl : pos = s.size := by omega
   go_wp2_with fail
   refine (wholeN_any (s.extract i s.size) (by simp; omega) _).mono ?_
   rintro e w' ⟨rfl, z, b, rfl, hz⟩
   cases b
   ·have HN : Hid (numE s i = none) := by
     show _ = _
     rcases hz with ⟨h, _⟩ | ⟨_, h⟩
     ·cases h
     ·exact numE_none (by rw [HV.out]; exact h)
    clear hz
    go_wp2
    obtain ⟨W, hW, hb, c0, c1, c2, c3, c4⟩ := two_cells w (.cells #[.int .i64 7, .string x0, .int .i64 f0, .int .i64 s.size, .int .i64 z] 71) (.int .i64 7) (.string x0) (.int .i64 f0) (.int .i64 s.size) (.int .i64 z) 71
    rw [hW]
    refine bodyPost_ret (v := .agg #[.int .i64 7, .string x0, .int .i64 f0, .int .i64 s.size, .int .i64 z]) ?_ rfl ?_
    ·simp [results, go_sem, c0, c1, c2, c3, c4]
    ·exact ⟨hb, ⟨7, x0, f0, s.size, z⟩, rfl, rfl, rfl, .inr ⟨rfl, HN.out⟩, Nat.le_refl _⟩
   ·have HN : Hid (numE s i = if i + 1 < s.size ∧ (s.get! i).toNat = 48 then none else some (z, s.size)) := by
     show _ = _
     rcases hz with ⟨_, h⟩ | ⟨h, _⟩
     ·have := numE_some (by rw [HV.out]; exact h)
      rw [this, HV.out]
     ·cases h
    clear hz
    have hii : IntKind.i64.wrap ((i : Int) + 1) = (i : Int) + 1 := by rw [IntKind.wrap_i64]; omega
    by_cases h1 : i + 1 < s.size
    ·have hd1 : decide ((s.size : Int) > (i : Int) + 1) = true := decide_eq_true (by omega)
     have hib := get_atA s i (by omega)
     cases h2 : (((s.get! i).toNat : Int) == 48)
     ·have HN2 : Hid (numE s i = some (z, s.size)) := by
       show _ = _
       rw [HN.out, if_neg]
       rintro ⟨_, h⟩
       rw [h] at h2
       cases h2
      clear HN
      go_wp2
      obtain ⟨W, hW, hb, c0, c1, c2, c3, c4⟩ := two_cells w (.cells #[.int .i64 kind, .string x0, .int .i64 f0, .int .i64 s.size, .int .i64 z] 71) (.int .i64 kind) (.string x0) (.int .i64 f0) (.int .i64 s.size) (.int .i64 z) 71
      rw [hW]
      refine bodyPost_ret (v := .agg #[.int .i64 kind, .string x0, .int .i64 f0, .int .i64 s.size, .int .i64 z]) ?_ rfl ?_
      ·simp [results, go_sem, c0, c1, c2, c3, c4]
      ·exact ⟨hb, ⟨kind, x0, f0, s.size, z⟩, rfl, rfl, rfl, .inl ⟨rfl, HN2.out⟩, Nat.le_refl _⟩
     ·have HN2 : Hid (numE s i = none) := by
       show _ = _
       rw [HN.out, if_pos]
       rw [beq_iff_eq] at h2
       exact ⟨h1, by omega⟩
      clear HN
      go_wp2
      obtain ⟨W, hW, hb, c0, c1, c2, c3, c4⟩ := two_cells w (.cells #[.int .i64 7, .string x0, .int .i64 f0, .int .i64 s.size, .int .i64 z] 71) (.int .i64 7) (.string x0) (.int .i64 f0) (.int .i64 s.size) (.int .i64 z) 71
      rw [hW]
      refine bodyPost_ret (v := .agg #[.int .i64 7, .string x0, .int .i64 f0, .int .i64 s.size, .int .i64 z]) ?_ rfl ?_
      ·simp [results, go_sem, c0, c1, c2, c3, c4]
      ·exact ⟨hb, ⟨7, x0, f0, s.size, z⟩, rfl, rfl, rfl, .inr ⟨rfl, HN2.out⟩, Nat.le_refl _⟩
    ·have hd1 : decide ((s.size : Int) > (i : Int) + 1) = false := decide_eq_false (by omega)
     have HN2 : Hid (numE s i = some (z, s.size)) := by
      show _ = _
      rw [HN.out, if_neg (fun h => h1 h.1)]
     clear HN
     go_wp2
     obtain ⟨W, hW, hb, c0, c1, c2, c3, c4⟩ := two_cells w (.cells #[.int .i64 kind, .string x0, .int .i64 f0, .int .i64 s.size, .int .i64 z] 71) (.int .i64 kind) (.string x0) (.int .i64 f0) (.int .i64 s.size) (.int .i64 z) 71
     rw [hW]
     refine bodyPost_ret (v := .agg #[.int .i64 kind, .string x0, .int .i64 f0, .int .i64 s.size, .int .i64 z]) ?_ rfl ?_
     ·simp [results, go_sem, c0, c1, c2, c3, c4]
     ·exact ⟨hb, ⟨kind, x0, f0, s.size, z⟩, rfl, rfl, rfl, .inl ⟨rfl, HN2.out⟩, Nat.le_refl _⟩

end Go.Proofs.YtgmmfpdekefamaaGreatDoor

namespace Go.Proofs.YtgmmfpdekefamaaGreatDoor
open Go.RowKit
set_option linter.unusedVariables false
set_option maxRecDepth 100000

def TokAt (w : World) (B : Nat) (t : Tok) : Prop := w.heap[B]? = some (.cells #[.int .i64 t.kind, .string t.text, .int .i64 t.fr, .int .i64 t.fin, .int .i64 t.num] 71 (0, 0))
def zeroT : Tok := ⟨0, ⟨#[]⟩, 0, 0, 0⟩
theorem TokAt.lt {w : World} {B : Nat} {t : Tok} (h : TokAt w B t) : B < w.heap.size := (Array.getElem?_eq_some_iff.1 h).1
theorem TokAt.cells {w : World} {B : Nat} {t : Tok} (h : TokAt w B t) : w.cell? ⟨B, 0, none⟩ = some (.int .i64 t.kind) ∧ w.cell? ⟨B, 1, none⟩ = some (.string t.text) ∧ w.cell? ⟨B, 2, none⟩ = some (.int .i64 t.fr) ∧ w.cell? ⟨B, 3, none⟩ = some (.int .i64 t.fin) ∧ w.cell? ⟨B, 4, none⟩ = some (.int .i64 t.num) :=
 ⟨cellsAtA h 0 _ rfl, cellsAtA h 1 _ rfl, cellsAtA h 2 _ rfl, cellsAtA h 3 _ rfl, cellsAtA h 4 _ rfl⟩
theorem TokAt.fz {w : World} {B : Nat} {t : Tok} (h : TokAt w B t) (j : Nat) : w.frozen? ⟨B, j, none⟩ = false := by unfold TokAt at h; simp [World.frozen?, h]
theorem TokAt.set0 {w : World} {B : Nat} {t : Tok} (h : TokAt w B t) (k : Int) : TokAt (w.setCell ⟨B, 0, none⟩ (.int .i64 k)) B { t with kind := k } := heap_setCell_same w B 0 _ 71 _ h
theorem TokAt.set1 {w : World} {B : Nat} {t : Tok} (h : TokAt w B t) (x : ByteArray) : TokAt (w.setCell ⟨B, 1, none⟩ (.string x)) B { t with text := x } := heap_setCell_same w B 1 _ 71 _ h
theorem TokAt.set2 {w : World} {B : Nat} {t : Tok} (h : TokAt w B t) (k : Nat) : TokAt (w.setCell ⟨B, 2, none⟩ (.int .i64 k)) B { t with fr := k } := heap_setCell_same w B 2 _ 71 _ h
theorem TokAt.set3 {w : World} {B : Nat} {t : Tok} (h : TokAt w B t) (k : Nat) : TokAt (w.setCell ⟨B, 3, none⟩ (.int .i64 k)) B { t with fin := k } := heap_setCell_same w B 3 _ 71 _ h
theorem TokAt.set4 {w : World} {B : Nat} {t : Tok} (h : TokAt w B t) (k : Int) : TokAt (w.setCell ⟨B, 4, none⟩ (.int .i64 k)) B { t with num := k } := heap_setCell_same w B 4 _ 71 _ h
/-- a token is put where one was -/
def putT (w : World) (B : Nat) (t : Tok) : World := ((((w.setCell ⟨B, 0, none⟩ (.int .i64 t.kind)).setCell ⟨B, 1, none⟩ (.string t.text)).setCell ⟨B, 2, none⟩ (.int .i64 t.fr)).setCell ⟨B, 3, none⟩ (.int .i64 t.fin)).setCell ⟨B, 4, none⟩ (.int .i64 t.num)
theorem TokAt.put {w : World} {B : Nat} {t : Tok} (h : TokAt w B t) (u : Tok) : TokAt (putT w B u) B u := ((((h.set0 u.kind).set1 u.text).set2 u.fr).set3 u.fin).set4 u.num
theorem TokAt.other {w : World} {B D : Nat} {t : Tok} (h : TokAt w B t) (hD : B ≠ D) (j : Nat) (v : Value) : TokAt (w.setCell ⟨D, j, none⟩ v) B t := (heap_setCell_other w ⟨D, j, none⟩ B v hD).trans h
theorem TokAt.below {w w' : World} {B K : Nat} {t : Tok} (h : TokAt w B t) (hb : Below K w w') (hB : B < K) : TokAt w' B t := (hb.block B hB).trans h
theorem TokAt.new (w : World) (t : Tok) : TokAt (w.alloc (.cells #[.int .i64 t.kind, .string t.text, .int .i64 t.fr, .int .i64 t.fin, .int .i64 t.num] 71)) w.heap.size t := allocAtA w _
theorem below_putT {B : Nat} {w w' : World} (h : Below B w w') {D : Nat} (hD : B ≤ D) (t : Tok) : Below B w (putT w' D t) :=
 belowSetA (belowSetA (belowSetA (belowSetA (belowSetA h hD _ _) hD _ _) hD _ _) hD _ _) hD _ _

/-- the two blocks of a function that makes a token: what it makes, and what it answers -/
structure TwoT (w0 w : World) (t : Tok) : Prop where
 below : Below w0.heap.size w0 w
 box : TokAt w w0.heap.size t
 res : ∃ u, TokAt w (w0.heap.size + 1) u
theorem TwoT.new (w : World) (t u : Tok) : TwoT w ((w.alloc (.cells #[.int .i64 t.kind, .string t.text, .int .i64 t.fr, .int .i64 t.fin, .int .i64 t.num] 71)).alloc (.cells #[.int .i64 u.kind, .string u.text, .int .i64 u.fr, .int .i64 u.fin, .int .i64 u.num] 71)) t := by
 have hb := alloc_below (w.alloc (.cells #[.int .i64 t.kind, .string t.text, .int .i64 t.fr, .int .i64 t.fin, .int .i64 t.num] 71)) (.cells #[.int .i64 u.kind, .string u.text, .int .i64 u.fr, .int .i64 u.fin, .int .i64 u.num] 71)
 refine ⟨(alloc_below w _).trans (hb.mono (by rw [alloc_size]; omega)), (TokAt.new w t).below hb (by rw [alloc_size]; omega), u, ?_⟩
 have := TokAt.new (w.alloc (.cells #[.int .i64 t.kind, .string t.text, .int .i64 t.fr, .int .i64 t.fin, .int .i64 t.num] 71)) u
 rwa [alloc_size] at this
theorem TwoT.set {w0 w w' : World} {t t' : Tok} (h : TwoT w0 w t) (j : Nat) (v : Value) (he : w.setCell ⟨w0.heap.size, j, none⟩ v = w') (ht : TokAt w' w0.heap.size t') : TwoT w0 w' t' := by
 subst he
 obtain ⟨u, hu⟩ := h.res
 exact ⟨belowSetA h.below (Nat.le_refl _) j v, ht, u, hu.other (by omega) j v⟩
theorem TwoT.drewN {w0 w : World} {t : Tok} (h : TwoT w0 w t) (n : Nat) : TwoT w0 (w.drewN n) t := ⟨below_drewG h.below n, h.box, h.res⟩
/-- answering it -/
theorem TwoT.ret {w0 w : World} {t : Tok} (h : TwoT w0 w t) : ∃ W, putT w (w0.heap.size + 1) t = W ∧ Below w0.heap.size w0 W ∧ TokAt W (w0.heap.size + 1) t := by
 obtain ⟨u, hu⟩ := h.res
 exact ⟨_, rfl, below_putT h.below (by omega) t, hu.put t⟩
end Go.Proofs.YtgmmfpdekefamaaGreatDoor

namespace Go.Proofs.YtgmmfpdekefamaaGreatDoor
open Go.RowKit
set_option linter.unusedVariables false
set_option maxRecDepth 100000

/-- a type: so many lists around a kind (0: nothing is known of the innermost one) -/
def TyM (ok : Nat → Prop) (w : World) : Nat → Int → Value → Prop
 | 0, b, v => v = .agg #[.int .i64 b, .pointer none] ∧ (b = 1 ∨ b = 2 ∨ b = 4)
 | l + 1, b, v => (b = 0 ∧ l = 0 ∧ v = .agg #[.int .i64 3, .pointer none]) ∨ ∃ (g : Nat) (k : Int) (q : Option Addr), v = .agg #[.int .i64 3, .pointer (some ⟨g, 0, none⟩)] ∧ ok g ∧ w.heap[g]? = some (.cells #[.int .i64 k, .pointer q] 44 (0, 0)) ∧ TyM ok w l b (.agg #[.int .i64 k, .pointer q])
theorem TyM.moved {ok ok' : Nat → Prop} {w w' : World} : ∀ {l : Nat} {b : Int} {v : Value}, TyM ok w l b v → (∀ g, g < w.heap.size → ok g → ok' g ∧ w'.heap[g]? = w.heap[g]?) → TyM ok' w' l b v
 | 0, b, v, h, _ => h
 | l + 1, b, v, .inl h, _ => .inl h
 | l + 1, b, v, .inr ⟨g, k, q, h1, h2, h3, h4⟩, hm => by
  have := hm g (Array.getElem?_eq_some_iff.1 h3).1 h2
  exact .inr ⟨g, k, q, h1, this.1, this.2.trans h3, h4.moved hm⟩
/-- what it is seen as: its kind, and nothing within, or a type -/
theorem TyM.form {ok : Nat → Prop} {w : World} {l : Nat} {b : Int} {v : Value} (h : TyM ok w l b v) : (l = 0 ∧ (b = 1 ∨ b = 2 ∨ b = 4) ∧ v = .agg #[.int .i64 b, .pointer none]) ∨ (l = 1 ∧ b = 0 ∧ v = .agg #[.int .i64 3, .pointer none]) ∨ ∃ (l' g : Nat) (k : Int) (q : Option Addr), l = l' + 1 ∧ v = .agg #[.int .i64 3, .pointer (some ⟨g, 0, none⟩)] ∧ ok g ∧ w.heap[g]? = some (.cells #[.int .i64 k, .pointer q] 44 (0, 0)) ∧ TyM ok w l' b (.agg #[.int .i64 k, .pointer q]) := by
 cases l with
 | zero => exact .inl ⟨rfl, h.2, h.1⟩
 | succ l =>
  rcases h with ⟨h1, h2, h3⟩ | ⟨g, k, q, h1, h2, h3, h4⟩
  ·exact .inr (.inl ⟨by omega, h1, h3⟩)
  ·exact .inr (.inr ⟨l, g, k, q, rfl, h1, h2, h3, h4⟩)
theorem TyM.base {ok : Nat → Prop} {w : World} : ∀ {l : Nat} {b : Int} {v : Value}, TyM ok w l b v → b = 1 ∨ b = 2 ∨ b = 4 ∨ (b = 0 ∧ 1 ≤ l)
 | 0, b, v, h => by have := h.2; omega
 | l + 1, b, v, .inl h => by have := h.1; omega
 | l + 1, b, v, .inr ⟨g, k, q, h1, h2, h3, h4⟩ => by have := h4.base; omega

set_option maxHeartbeats 4000000 in
theorem rtypeok_any {ok : Nat → Prop} : ∀ (l : Nat) {w : World} {b : Int} {v : Value}, TyM ok w l b v → Calls Tryz.prog 39 #[v] w fun e w' => e = .returned (.bool true) ∧ Below w.heap.size w w' := fun l => by
 induction l with
 | zero =>
  rintro w b v ⟨rfl, hb⟩
  rcases hb with rfl | rfl | rfl
  all_goals
   go_enter Tryz.func39, Tryz.ntmps39
   go_wp2
   go_ret
   exact ⟨rfl, alloc_below w _⟩
 | succ l ih =>
  rintro w b v h
  rcases h with ⟨h1, h2, rfl⟩ | ⟨g, k, q, rfl, hok, h3, h4⟩
  ·clear ih
   go_enter Tryz.func39, Tryz.ntmps39
   go_wp2
   go_ret
   exact ⟨rfl, alloc_below w _⟩
  ·have hb1 := alloc_below w (.cells #[.int .i64 3, .pointer (some ⟨g, 0, none⟩)] 44)
   have HI : Hid (Calls Tryz.prog 39 #[.agg #[.int .i64 k, .pointer q]] (w.alloc (.cells #[.int .i64 3, .pointer (some ⟨g, 0, none⟩)] 44)) fun e w' => e = .returned (.bool true) ∧ Below w.heap.size w w') :=
    (ih (h4.moved fun g' hg hk => ⟨hk, hb1.block g' hg⟩)).mono fun e w' ⟨q1, q2⟩ => ⟨q1, hb1.trans (q2.mono hb1.size)⟩
   have c0 : w.cell? ⟨g, 0, none⟩ = some (.int .i64 k) := by simp [World.cell?, h3]
   have c1 : w.cell? ⟨g, 1, none⟩ = some (.pointer q) := by simp [World.cell?, h3]
   have hlt : g < w.heap.size := (Array.getElem?_eq_some_iff.1 h3).1
   clear ih h4 hok h3 hb1
   go_enter Tryz.func39, Tryz.ntmps39
   go_wp2_with fail
   go_at_call 39
   refine HI.out.mono ?_
   rintro e w2 ⟨rfl, hb2⟩
   have HB : Hid (Below w.heap.size w w2) := hb2
   clear hb2 HI
   go_wp2
   go_ret
   exact ⟨rfl, HB.out⟩

end Go.Proofs.YtgmmfpdekefamaaGreatDoor
