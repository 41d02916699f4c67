/- The document: a number in decimal. -/
import Derived.Test.YtbgklfmhmpjboaaDoorTTre
import Derived.Laws.IdiomStrings
import Derived.Laws.Concat
namespace Go.Proofs.YtbgklfmhmpjboaaDoor
open Go.RowKit
set_option linter.unusedVariables false
set_option maxRecDepth 100000

/-- a new array of one byte, and its text -/
theorem one_text (w : World) (b : UInt8) : (convert 48 9 (.slice (some ⟨w.heap.size, 0, none⟩) 1 1)).run Tryd.prog (w.alloc (.cells #[.int .u8 (b.toNat : Int)] 5)) = .ok (.string ⟨#[b]⟩) (w.alloc (.cells #[.int .u8 (b.toNat : Int)] 5)) := by
  refine run_convert_bytes_back _ 48 9 5 ⟨w.heap.size, 0, none⟩ 1 [b] Tryd.underlying48 Tryd.underlying5 Tryd.underlying9 ?_
  intro j hj
  have : j = 0 := by simp at hj; omega
  subst this
  have h : (w.alloc (.cells #[.int .u8 (b.toNat : Int)] 5)).heap[w.heap.size]? = some (.cells #[.int .u8 (b.toNat : Int)] 5) := by
    show (w.heap.push _)[w.heap.size]? = _
    exact Array.getElem?_push_size
  show World.cell? _ ⟨w.heap.size, 0, none⟩ = _
  simp only [World.cell?, h]
  rfl
theorem byte_nat (d : Nat) (h : d < 10) : IntKind.u8.wrap (48 + (d : Int)) = (((UInt8.ofNat (48 + d)).toNat : Nat) : Int) := by
  have : d = 0 ∨ d = 1 ∨ d = 2 ∨ d = 3 ∨ d = 4 ∨ d = 5 ∨ d = 6 ∨ d = 7 ∨ d = 8 ∨ d = 9 := by omega
  rcases this with h | h | h | h | h | h | h | h | h | h <;> subst h <;> decide

set_option maxHeartbeats 2000000 in
theorem number_small (u : Nat) (hu : u < 10) (w : World) : Calls Tryd.prog 17 #[.int .i64 u] w fun e w' => e = .returned (.string ⟨(Lib.decDigits u).toArray⟩) ∧ Below w.heap.size w w' := by
  rw [Lib.decDigits_one hu]
  have ht := one_text w (UInt8.ofNat (48 + u))
  have hb0 := alloc_below w (.cells #[.int .u8 ((UInt8.ofNat (48 + u)).toNat : Int)] 5)
  have hby := byte_nat u hu
  have hw1 : IntKind.i64.wrap (48 + (u : Int)) = 48 + (u : Int) := by rw [IntKind.wrap_i64]; omega
  generalize UInt8.ofNat (48 + u) = b at *
  have d0 : decide ((u : Int) < 0) = false := decide_eq_false (by omega)
  have d1 : decide ((u : Int) < 10) = true := decide_eq_true (by omega)
  go_enter Tryd.func17, Tryd.ntmps17
  go_wp2
  go_ret
  exact ⟨rfl, hb0⟩

/-- a text of a number with a digit more behind it -/
theorem digits_more (u : Nat) (hu : ¬ u < 10) : (⟨(Lib.decDigits (u / 10)).toArray⟩ : ByteArray) ++ ⟨#[UInt8.ofNat (48 + u % 10)]⟩ = ⟨(Lib.decDigits u).toArray⟩ := by
  have e : Lib.decDigits u = Lib.decDigits (u / 10) ++ [UInt8.ofNat (48 + u % 10)] := by rw [Lib.decDigits, dif_neg hu]
  rw [e]
  exact ByteArray.mk_append_mk _ [_]
theorem digits_len (u : Nat) (h : u < 9223372036854775808) : (Lib.decDigits u).length ≤ 21 := by
  have := Lib.itoa_length_le (u : Int) (by omega) (by omega)
  rwa [Lib.itoa_nonneg] at this

set_option maxHeartbeats 4000000 in
theorem number_big (u : Nat) (hu : ¬ u < 10) (h63 : u < 9223372036854775808) (w : World) (hc : ∀ w', Calls Tryd.prog 17 #[.int .i64 ((u / 10 : Nat) : Int)] w' fun e w'' => e = .returned (.string ⟨(Lib.decDigits (u / 10)).toArray⟩) ∧ Below w'.heap.size w' w'') :
    Calls Tryd.prog 17 #[.int .i64 u] w fun e w' => e = .returned (.string ⟨(Lib.decDigits u).toArray⟩) ∧ Below w.heap.size w w' := by
  have hmore := digits_more u hu
  have ht := fun w' => one_text w' (UInt8.ofNat (48 + u % 10))
  have hby := byte_nat (u % 10) (by omega)
  have hw1 : IntKind.i64.wrap (48 + ((u % 10 : Nat) : Int)) = 48 + ((u % 10 : Nat) : Int) := by rw [IntKind.wrap_i64]; omega
  have hl1 : (⟨(Lib.decDigits (u / 10)).toArray⟩ : ByteArray).size ≤ 21 := by
    have := digits_len (u / 10) (by omega)
    simpa [ByteArray.size] using this
  have hl2 : (⟨#[UInt8.ofNat (48 + u % 10)]⟩ : ByteArray).size = 1 := rfl
  have hq : Int.tdiv (u : Int) 10 = ((u / 10 : Nat) : Int) := by rw [Int.tdiv_eq_ediv_of_nonneg (by omega)]; omega
  have hr : Int.tmod (u : Int) 10 = ((u % 10 : Nat) : Int) := by rw [Int.tmod_eq_emod_of_nonneg (by omega)]; omega
  have hw2 : IntKind.i64.wrap ((u / 10 : Nat) : Int) = ((u / 10 : Nat) : Int) := by rw [IntKind.wrap_i64]; omega
  have hw3 : IntKind.i64.wrap ((u % 10 : Nat) : Int) = ((u % 10 : Nat) : Int) := by rw [IntKind.wrap_i64]; omega
  have HC : Hid (∀ w', Calls Tryd.prog 17 #[.int .i64 ((u / 10 : Nat) : Int)] w' fun e w'' => e = .returned (.string ⟨(Lib.decDigits (u / 10)).toArray⟩) ∧ Below w'.heap.size w' w'') := hc
  have HM : Hid ((⟨(Lib.decDigits (u / 10)).toArray⟩ : ByteArray) ++ ⟨#[UInt8.ofNat (48 + u % 10)]⟩ = ⟨(Lib.decDigits u).toArray⟩) := hmore
  clear hc hmore hl2
  generalize (⟨(Lib.decDigits (u / 10)).toArray⟩ : ByteArray) = A at *
  generalize (⟨(Lib.decDigits u).toArray⟩ : ByteArray) = T at *
  generalize UInt8.ofNat (48 + u % 10) = b at *
  have hl2 : (⟨#[b]⟩ : ByteArray).size ≤ 1 := Nat.le_refl 1
  generalize (⟨#[b]⟩ : ByteArray) = B at *
  have d0 : decide ((u : Int) < 0) = false := decide_eq_false (by omega)
  have d1 : decide ((u : Int) < 10) = false := decide_eq_false (by omega)
  generalize hv : ((u / 10 : Nat) : Int) = v at *
  generalize hz : ((u % 10 : Nat) : Int) = z at *
  clear hv hz
  go_enter Tryd.func17, Tryd.ntmps17
  go_wp2_with fail
  go_at_call 17
  refine (HC.out _).mono ?_
  rintro e w1 ⟨rfl, hb1⟩
  have hb2 := hb1.trans ((alloc_below w1 (.cells #[.int .u8 (b.toNat : Int)] 5)).mono hb1.size)
  have ht1 := ht w1
  clear ht
  go_wp2
  go_ret
  exact ⟨by rw [HM.out]; rfl, hb2⟩

theorem number_nat : ∀ (u : Nat), u < 9223372036854775808 → ∀ w, Calls Tryd.prog 17 #[.int .i64 u] w fun e w' => e = .returned (.string ⟨(Lib.decDigits u).toArray⟩) ∧ Below w.heap.size w w' := by
  intro u
  induction u using Nat.strongRecOn with
  | _ u ih =>
    intro h w
    by_cases hu : u < 10
    · exact number_small u hu w
    · exact number_big u hu h w fun w' => ih (u / 10) (by omega) (by omega) w'

set_option maxHeartbeats 4000000 in
theorem number_neg (m : Nat) (hm : 1 ≤ m) (h63 : m ≤ 9223372036854775808) (w : World) : Calls Tryd.prog 17 #[.int .i64 (-(m : Int))] w fun e w' => e = .returned (.string ⟨(45 :: Lib.decDigits m).toArray⟩) ∧ Below w.heap.size w w' := by
  have HT : Hid (∀ w' : World, (convert 48 9 (.slice (some ⟨w'.heap.size, 0, none⟩) 1 1)).run Tryd.prog (w'.alloc (.cells #[.int .u8 ((UInt8.ofNat (48 + m % 10)).toNat : Int)] 5)) = .ok (.string ⟨#[UInt8.ofNat (48 + m % 10)]⟩) (w'.alloc (.cells #[.int .u8 ((UInt8.ofNat (48 + m % 10)).toNat : Int)] 5))) := fun w' => one_text w' (UInt8.ofNat (48 + m % 10))
  have hby := byte_nat (m % 10) (by omega)
  have hq : Int.tdiv (-(m : Int)) 10 = -((m / 10 : Nat) : Int) := by rw [Int.neg_tdiv, Int.tdiv_eq_ediv_of_nonneg (by omega)]; omega
  have hr : Int.tmod (-(m : Int)) 10 = -((m % 10 : Nat) : Int) := by rw [Int.neg_tmod, Int.tmod_eq_emod_of_nonneg (by omega)]; omega
  have hw1 : IntKind.i64.wrap (-((m / 10 : Nat) : Int)) = -((m / 10 : Nat) : Int) := by rw [IntKind.wrap_i64]; omega
  have hw2 : IntKind.i64.wrap ((m / 10 : Nat) : Int) = ((m / 10 : Nat) : Int) := by rw [IntKind.wrap_i64]; omega
  have hw3 : IntKind.i64.wrap (-((m % 10 : Nat) : Int)) = -((m % 10 : Nat) : Int) := by rw [IntKind.wrap_i64]; omega
  have hw4 : IntKind.i64.wrap (48 - -((m % 10 : Nat) : Int)) = 48 + ((m % 10 : Nat) : Int) := by rw [IntKind.wrap_i64]; omega
  have hw5 : IntKind.i64.wrap (48 + ((m % 10 : Nat) : Int)) = 48 + ((m % 10 : Nat) : Int) := by rw [IntKind.wrap_i64]; omega
  have HC : Hid (∀ w', Calls Tryd.prog 17 #[.int .i64 ((m / 10 : Nat) : Int)] w' fun e w'' => e = .returned (.string ⟨(Lib.decDigits (m / 10)).toArray⟩) ∧ Below w'.heap.size w' w'') := fun w' => number_nat (m / 10) (by omega) w'
  have hl1 : (⟨(Lib.decDigits (m / 10)).toArray⟩ : ByteArray).size ≤ 21 := by
    have := digits_len (m / 10) (by omega)
    simpa [ByteArray.size] using this
  have HM : Hid (if m < 10 then (⟨#[45]⟩ : ByteArray) ++ ⟨#[]⟩ ++ ⟨#[UInt8.ofNat (48 + m % 10)]⟩ = ⟨(45 :: Lib.decDigits m).toArray⟩ else (⟨#[45]⟩ : ByteArray) ++ ⟨(Lib.decDigits (m / 10)).toArray⟩ ++ ⟨#[UInt8.ofNat (48 + m % 10)]⟩ = ⟨(45 :: Lib.decDigits m).toArray⟩) := by
    show (if m < 10 then _ else _)
    split
    · rename_i h
      rw [Lib.decDigits_one h, Nat.mod_eq_of_lt h]
      rfl
    · rename_i h
      have e := digits_more m h
      have e2 : (⟨(45 :: Lib.decDigits m).toArray⟩ : ByteArray) = ⟨#[45]⟩ ++ ⟨(Lib.decDigits m).toArray⟩ := (ByteArray.mk_append_mk [45] _).symm
      rw [e2, ← e, ByteArray.append_assoc]
  generalize (⟨(Lib.decDigits (m / 10)).toArray⟩ : ByteArray) = A at *
  generalize (⟨(45 :: Lib.decDigits m).toArray⟩ : ByteArray) = T at *
  generalize UInt8.ofNat (48 + m % 10) = b at *
  have hl2 : (⟨#[b]⟩ : ByteArray).size ≤ 1 := Nat.le_refl 1
  have hl3 : (⟨#[45]⟩ : ByteArray).size ≤ 1 := Nat.le_refl 1
  have hl4 : ((⟨#[45]⟩ : ByteArray) ++ A).size ≤ 22 := by rw [ByteArray.size_append]; omega
  have hl5 : ((⟨#[45]⟩ : ByteArray) ++ ⟨#[]⟩).size ≤ 22 := by decide
  generalize (⟨#[b]⟩ : ByteArray) = B at *
  have d0 : decide (-(m : Int) < 0) = true := decide_eq_true (by omega)
  by_cases h10 : m < 10
  · rw [if_pos h10] at HM
    have d1 : decide (-(m : Int) > -10) = true := decide_eq_true (by omega)
    generalize hv : ((m / 10 : Nat) : Int) = v at *
    generalize hz : ((m % 10 : Nat) : Int) = z at *
    generalize hn : -(m : Int) = n at *
    clear hv hz hn
    go_enter Tryd.func17, Tryd.ntmps17
    go_wp2_with fail
    go_at_call 17
    refine (HC.out _).mono ?_
    rintro e w1 ⟨rfl, hb1⟩
    have hb2 := hb1.trans ((alloc_below w1 (.cells #[.int .u8 (b.toNat : Int)] 5)).mono hb1.size)
    have ht1 := HT.out w1
    go_wp2
    go_ret
    exact ⟨by rw [← HM.out]; rfl, hb2⟩
  · rw [if_neg h10] at HM
    have d1 : decide (-(m : Int) > -10) = false := decide_eq_false (by omega)
    generalize hv : ((m / 10 : Nat) : Int) = v at *
    generalize hz : ((m % 10 : Nat) : Int) = z at *
    generalize hn : -(m : Int) = n at *
    clear hv hz hn
    go_enter Tryd.func17, Tryd.ntmps17
    go_wp2_with fail
    go_at_call 17
    refine (HC.out _).mono ?_
    rintro e w1 ⟨rfl, hb1⟩
    have hb2 := hb1.trans ((alloc_below w1 (.cells #[.int .u8 (b.toNat : Int)] 5)).mono hb1.size)
    have ht1 := HT.out w1
    go_wp2
    go_ret
    exact ⟨by rw [← HM.out]; rfl, hb2⟩

theorem number_any (n : Int) (h0 : -9223372036854775808 ≤ n) (h1 : n ≤ 9223372036854775807) (w : World) : Calls Tryd.prog 17 #[.int .i64 n] w fun e w' => e = .returned (.string ⟨(Lib.itoa n).toArray⟩) ∧ Below w.heap.size w w' := by
  by_cases hn : n < 0
  · obtain ⟨m, rfl⟩ : ∃ m : Nat, n = -(m : Int) := ⟨n.natAbs, by omega⟩
    rw [Lib.itoa_neg m (by omega)]
    exact number_neg m (by omega) (by omega) w
  · obtain ⟨u, rfl⟩ : ∃ u : Nat, n = (u : Int) := ⟨n.toNat, by omega⟩
    rw [Lib.itoa_nonneg]
    exact number_nat u (by omega) w

end Go.Proofs.YtbgklfmhmpjboaaDoor
